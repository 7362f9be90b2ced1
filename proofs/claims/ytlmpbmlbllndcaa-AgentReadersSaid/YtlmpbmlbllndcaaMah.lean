/-
  Check, total, Total, Loss.
  cmp.Compare, cmp.Or, supply.compare, least of supplies.
-/
import Derived.WalkLawsBesides
import Derived.Test.YtlmpbmlbllndcaaMag
namespace Go.Proofs.Ytlmpbmlbllndcaa
open Go.RowKit

def RDays (B : Nat) (w : World) (v : Value) (l : List DayD) : Prop := Rd B w 2 v l.length (l.flatMap DayD.cells)
/-- Days in memory, by place: each at any later world. -/
theorem days_later {w : World} {v : Value} {l : List DayD} (h : RDays w.heap.size w v l) : ∃ A c, v = .slice A l.length c ∧ l.length ≤ 9223372036854775807 ∧ Hid (∀ k x, l[k]? = some x → ∃ g o, A = some ⟨g, o, none⟩ ∧ Hid (∀ X, Below w.heap.size w X → X.cell? ⟨g, o + k * 2, none⟩ = some (.int .i64 x.sup) ∧ X.cell? ⟨g, o + k * 2 + 1, none⟩ = some (.int .i64 x.ret))) := by
  obtain ⟨A, c, rfl, -, hm, hr⟩ := h
  refine ⟨A, c, rfl, by simpa [maxLen] using hm, fun k x hx => ?_⟩
  have hk : k < l.length := (List.getElem?_eq_some_iff.1 hx).1
  obtain ⟨g, o, hA, hb, hc⟩ := hr (by omega)
  have hf := fun j hj => flat_at DayD.cells 2 (fun _ => rfl) _ k j _ hx hj
  exact ⟨g, o, hA, fun X hX => ⟨(hX.cell (p := ⟨g, o + k * 2, none⟩) hb).trans (hc _ _ (hf 0 (by omega))), (hX.cell (p := ⟨g, o + k * 2 + 1, none⟩) hb).trans (hc _ _ (hf 1 (by omega)))⟩⟩
/-- What Check answers of a history. -/
def checkH (l : List DayD) : Int := if 400 < l.length then 2 else if l.all DayD.okB then 0 else 120
theorem checkH_ok {l : List DayD} (h : checkH l = 0) : l.length ≤ 400 ∧ ∀ d ∈ l, d.ok := by
  unfold checkH at h
  by_cases h1 : 400 < l.length
  · rw [if_pos h1] at h; omega
  · rw [if_neg h1] at h
    by_cases h2 : l.all DayD.okB = true
    · exact ⟨by omega, fun d hd => DayD.okB_iff.1 (List.all_eq_true.1 h2 d hd)⟩
    · rw [if_neg h2] at h; omega
theorem checkH_of {l : List DayD} (h1 : l.length ≤ 400) (h2 : ∀ d ∈ l, d.ok) : checkH l = 0 := by
  unfold checkH
  rw [if_neg (by omega), if_pos (List.all_eq_true.2 fun d hd => DayD.okB_iff.2 (h2 d hd))]
set_option maxRecDepth 100000 in
set_option maxHeartbeats 1000000 in
theorem Check_any (l : List DayD) (v : Value) (w : World) (h : RDays w.heap.size w v l) : Calls Try.prog 39 #[v] w fun e w' => e = .returned (.int .i64 (checkH l)) ∧ Below w.heap.size w w' := by
  obtain ⟨A, c, rfl, hlm, HD⟩ := days_later h
  obtain ⟨n, hn⟩ : ∃ n, l.length = n := ⟨_, rfl⟩
  obtain ⟨ce, hce⟩ : ∃ e, checkH l = e := ⟨_, rfl⟩
  have HC : Hid (ce = if 400 < n then 2 else if l.all DayD.okB then 0 else 120) := by show _ = _; rw [← hce, ← hn]; rfl
  rw [hn] at hlm
  rw [hn, hce]
  have HN := Lib.hid hn
  clear h hn hce
  by_cases h4 : 400 < n
  · have HX : Hid ((2 : Int) = ce) := by show _ = _; rw [HC.out, if_pos h4]
    go_enter Try.func39, Try.ntmps39
    go_wp2
    go_ret
    exact ⟨ri HX.out.symm, Below.refl _ _⟩
  have HC2 : Hid (ce = if l.all DayD.okB then 0 else 120) := by show _ = _; rw [HC.out, if_neg h4]
  clear HC
  go_enter Try.func39, Try.ntmps39
  go_wp2_with fail
  go_loopw [10] (fun i wr => ∃ k : Nat, k ≤ n ∧ i = .int .i64 k ∧ Hid ((l.take k).all DayD.okB = true) ∧ Hid (Below w.heap.size w wr)) (fun i _ => n - (intOf i).toNat)
  case atStart => exact ⟨0, Nat.zero_le _, rfl, by show _ = _; simp, Below.refl _ _⟩
  case round =>
  obtain ⟨k, hk, rfl, hall, hB⟩ := hrel
  obtain ⟨X, rfl⟩ : ∃ X : World, X = wr := ⟨_, rfl⟩
  by_cases hlt : k < n
  · obtain ⟨x, hx⟩ : ∃ x, l[k]? = some x := ⟨_, List.getElem?_eq_getElem (by rw [HN.out]; exact hlt)⟩
    obtain ⟨g, o, rfl, HX⟩ := HD.out k x hx
    obtain ⟨c0, c1⟩ := HX.out X hB.out
    have F1 : ∃ X1, X.alloc (.cells #[.int .i64 x.sup, .int .i64 x.ret] 24) = X1 ∧ Hid (Below X.heap.size X X1) ∧ Hid (Blk X1 X.heap.size 24 #[.int .i64 x.sup, .int .i64 x.ret]) := ⟨_, rfl, below_alloc _ _, Blk.new _ _ _⟩
    obtain ⟨X1, e1, HX1, HK1⟩ := F1
    have E1 := Lib.hid e1
    have HB1 : Hid (Below w.heap.size w X1) := hB.out.trans (HX1.out.mono hB.out.size)
    have d0 := cellOf HK1.out 0 (x := .int .i64 x.sup) rfl
    have d1 := cellOf HK1.out 1 (x := .int .i64 x.ret) rfl
    have CR := Lib.hid (dayRight_any x X1)
    obtain ⟨b, hb⟩ : ∃ b, x.okB = b := ⟨_, rfl⟩
    rw [hb] at CR
    have HXX := Lib.hid hx
    have HBB := Lib.hid hb
    have k0 : (0 : Int) ≤ (k : Int) := by omega
    have k1 : (k : Int) < (n : Int) := by omega
    clear hx hb e1 hB
    go_upto_region 6 with fail
    rw [E1.out]
    clear E1 c0 c1
    go_wp2_with fail
    refine CR.out.mono ?_
    rintro _ Y ⟨rfl, hb2⟩
    have HBY : Hid (Below w.heap.size w Y) := HB1.out.trans (hb2.mono HB1.out.size)
    clear CR hb2 d0 d1 HX1 HK1 HX
    cases b
    · have HXE : Hid ((120 : Int) = ce) := by show _ = _; rw [HC2.out, all_not HXX.out HBB.out]; rfl
      go_wp2_with fail
      go_ret
      exact ⟨ri HXE.out.symm, HBY.out⟩
    · have hall' := all_next hall HXX.out HBB.out
      go_wp2_with fail
      go_roundw
      case rel => exact ⟨k + 1, by omega, by go_num, hall', HBY⟩
      case measure => simp [intOf]; omega
  · have HXE : Hid ((0 : Int) = ce) := by show _ = _; rw [HC2.out, (all_end hall (by rw [HN.out]; omega)).out]; rfl
    go_wp2_with fail
    go_ret
    exact ⟨ri HXE.out.symm, hB.out⟩
theorem totD_next {a b q : Int} {l : List DayD} {k : Nat} {x : DayD} (h : l[k]? = some x) : totD a b (l.take (k + 1)) q = totD a b (l.take k) q + lossD a b x q := by
  rw [List.take_add_one, h, Option.toList_some, totD_app]
  simp [totD]
theorem take_ok' {l : List DayD} (h : ∀ d ∈ l, d.ok) (k : Nat) : ∀ d ∈ l.take k, d.ok := fun d hd => h d (List.mem_of_mem_take hd)
theorem totTake_bd {a b q : Int} {l : List DayD} (hc : (0 ≤ a ∧ a ≤ 1000) ∧ (0 ≤ b ∧ b ≤ 1000)) (hl : l.length ≤ 400) (hd : ∀ d ∈ l, d.ok) (hq : 0 ≤ q ∧ q ≤ 10000) (k : Nat) : 0 ≤ totD a b (l.take k) q ∧ totD a b (l.take k) q ≤ 4000000000 := by
  have h1 := tot_bd (l := l.take k) hc.1.1 hc.1.2 hc.2.1 hc.2.2 (take_ok' hd k) hq.1 hq.2
  have h2 : (l.take k).length ≤ 400 := Nat.le_trans (List.length_take_le' _ _) hl
  omega
set_option maxRecDepth 100000 in
set_option maxHeartbeats 2000000 in
theorem total_any (a b : Int) (hc : (0 ≤ a ∧ a ≤ 1000) ∧ (0 ≤ b ∧ b ≤ 1000)) (l : List DayD) (hl : l.length ≤ 400) (hd : ∀ d ∈ l, d.ok) (q : Int) (hq : 0 ≤ q ∧ q ≤ 10000) (v : Value) (w : World) (h : RDays w.heap.size w v l) :
    Calls Try.prog 75 #[.agg #[.int .i64 a, .int .i64 b], v, .int .i64 q] w fun e w' => e = .returned (.int .i64 (totD a b l q)) ∧ Below w.heap.size w w' := by
  obtain ⟨A, c, rfl, hlm, HD⟩ := days_later h
  obtain ⟨n, hn⟩ : ∃ n, l.length = n := ⟨_, rfl⟩
  have HBD : Hid (∀ k, 0 ≤ totD a b (l.take k) q ∧ totD a b (l.take k) q ≤ 4000000000) := fun k => totTake_bd hc hl hd hq k
  have HLO : Hid (∀ x ∈ l, ∀ w, Calls Try.prog 118 #[.agg #[.int .i64 a, .int .i64 b], .agg #[.int .i64 x.sup, .int .i64 x.ret], .int .i64 q] w fun e w' => e = .returned (.int .i64 (lossD a b x q)) ∧ Below w.heap.size w w') := fun x hx w => loss_any a b hc x (hd x hx) q hq w
  rw [hn] at hlm hl ⊢
  have HN := Lib.hid hn
  have F0 : ∃ W0, w.alloc (.cells #[.int .i64 a, .int .i64 b] 148) = W0 ∧ Hid (Below w.heap.size w W0) ∧ Hid (Blk W0 w.heap.size 148 #[.int .i64 a, .int .i64 b]) := ⟨_, rfl, below_alloc _ _, Blk.new _ _ _⟩
  obtain ⟨W0, e0, HB0, HK0⟩ := F0
  have E0 := Lib.hid e0
  have HLT : Hid (w.heap.size < W0.heap.size) := HK0.out.lt
  obtain ⟨p, hp⟩ : ∃ p, w.heap.size = p := ⟨_, rfl⟩
  have HP := Lib.hid hp
  clear h hn hd hc hq e0 hp
  go_enter Try.func75, Try.ntmps75
  go_upto_region 1 with fail
  rw [E0.out]
  clear E0
  rw [HP.out]
  go_wp2_with fail
  go_loopw [7, 12] (fun s i wr => ∃ k : Nat, k ≤ n ∧ i = .int .i64 k ∧ ∃ t : Int, s = .int .i64 t ∧ Hid (t = totD a b (l.take k) q) ∧ Hid (Below W0.heap.size W0 wr)) (fun _ i _ => n - (intOf i).toNat)
  case atStart => exact ⟨0, Nat.zero_le _, rfl, 0, rfl, rfl, Below.refl _ _⟩
  case round =>
  obtain ⟨k, hk, rfl, t, rfl, ht, hB⟩ := hrel
  obtain ⟨X, rfl⟩ : ∃ X : World, X = wr := ⟨_, rfl⟩
  obtain ⟨t1, t2⟩ := HBD.out k
  rw [← ht.out] at t1 t2
  have HBX : Hid (Below w.heap.size w X) := HB0.out.trans (hB.out.mono HB0.out.size)
  by_cases hlt : k < n
  · obtain ⟨x, hx⟩ : ∃ x, l[k]? = some x := ⟨_, List.getElem?_eq_getElem (by rw [HN.out]; exact hlt)⟩
    obtain ⟨g, o, rfl, HX⟩ := HD.out k x hx
    obtain ⟨c0, c1⟩ := HX.out X HBX.out
    have F1 : ∃ X1, X.alloc (.cells #[.int .i64 x.sup, .int .i64 x.ret] 24) = X1 ∧ Hid (Below X.heap.size X X1) ∧ Hid (Blk X1 X.heap.size 24 #[.int .i64 x.sup, .int .i64 x.ret]) := ⟨_, rfl, below_alloc _ _, Blk.new _ _ _⟩
    obtain ⟨X1, e1, HX1, HK1⟩ := F1
    have E1 := Lib.hid e1
    have HB1 : Hid (Below W0.heap.size W0 X1) := hB.out.trans (HX1.out.mono hB.out.size)
    have d0 := cellOf HK1.out 0 (x := .int .i64 x.sup) rfl
    have d1 := cellOf HK1.out 1 (x := .int .i64 x.ret) rfl
    have HKC := Lib.hid (HK0.out.below HB1.out HK0.out.lt)
    have h0 := cellOf HKC.out 0 (x := .int .i64 a) rfl
    have h1 := cellOf HKC.out 1 (x := .int .i64 b) rfl
    rw [HP.out] at h0 h1
    have CL := Lib.hid (HLO.out x (List.mem_of_getElem? hx) X1)
    obtain ⟨L, hL⟩ : ∃ L, lossD a b x q = L := ⟨_, rfl⟩
    rw [hL] at CL
    obtain ⟨u1, u2⟩ := HBD.out (k + 1)
    have hnx := totD_next (a := a) (b := b) (q := q) hx
    rw [hL, ← ht.out] at hnx
    rw [hnx] at u1 u2
    have HNX := Lib.hid hnx
    have k0 : (0 : Int) ≤ (k : Int) := by omega
    have k1 : (k : Int) < (n : Int) := by omega
    clear hx hL e1 hB hnx HX
    go_upto_region 5 with fail
    rw [E1.out]
    clear E1 c0 c1
    go_wp2_with fail
    refine CL.out.mono ?_
    rintro _ Y ⟨rfl, hb2⟩
    have HBY : Hid (Below W0.heap.size W0 Y) := HB1.out.trans (hb2.mono HB1.out.size)
    clear CL hb2 d0 d1 h0 h1 HX1 HK1 HKC
    go_wp2_with fail
    go_roundw
    case rel => exact ⟨k + 1, by omega, by go_num, _, rfl, HNX.out.symm, HBY⟩
    case measure => simp [intOf]; omega
  · have hkn : k = n := by omega
    have HXE : Hid (t = totD a b l q) := by show _ = _; rw [ht.out, List.take_of_length_le (by rw [HN.out]; omega)]
    clear hkn ht
    go_wp2_with fail
    go_ret
    exact ⟨ri HXE.out.symm, HBX.out⟩
end Go.Proofs.Ytlmpbmlbllndcaa

namespace Go.Proofs.Ytlmpbmlbllndcaa
open Go.RowKit
attribute [local go_sem] Oper.semAt_some

/-- How two numbers compare. -/
def cmpI (a b : Int) : Int := if a < b then -1 else if b < a then 1 else 0
theorem cmpI_bd (a b : Int) : -1 ≤ cmpI a b ∧ cmpI a b ≤ 1 := by unfold cmpI; split; omega; split <;> omega
theorem nan_any (a : Int) (w : World) : Calls Try.prog 149 #[.int .i64 a] w fun e w' => e = .returned (.bool false) ∧ w = w' := by
  go_enter Try.func149, Try.ntmps149
  go_wp2
  go_ret
  exact ⟨rfl, rfl⟩
set_option maxHeartbeats 1000000 in
theorem cmp_any (a b : Int) (w : World) : Calls Try.prog 142 #[.int .i64 a, .int .i64 b] w fun e w' => e = .returned (.int .i64 (cmpI a b)) ∧ w = w' := by
  obtain ⟨c, hc⟩ : ∃ c, cmpI a b = c := ⟨_, rfl⟩
  have HC : Hid (c = if a < b then -1 else if b < a then 1 else 0) := by show _ = _; rw [← hc]; rfl
  rw [hc]
  clear hc
  by_cases h1 : a < b
  · have HX : Hid ((-1 : Int) = c) := by show _ = _; rw [HC.out, if_pos h1]
    go_enter Try.func142, Try.ntmps142
    go_wp2_with (go_at_call 149; with_reducible refine (nan_any _ _).mono ?_; rintro e w' ⟨rfl, rfl⟩)
    go_ret
    exact ⟨ri HX.out.symm, rfl⟩
  · by_cases h2 : b < a
    · have HX : Hid ((1 : Int) = c) := by show _ = _; rw [HC.out, if_neg h1, if_pos h2]
      go_enter Try.func142, Try.ntmps142
      go_wp2_with (go_at_call 149; with_reducible refine (nan_any _ _).mono ?_; rintro e w' ⟨rfl, rfl⟩)
      go_ret
      exact ⟨ri HX.out.symm, rfl⟩
    · have HX : Hid ((0 : Int) = c) := by show _ = _; rw [HC.out, if_neg h1, if_neg h2]
      go_enter Try.func142, Try.ntmps142
      go_wp2_with (go_at_call 149; with_reducible refine (nan_any _ _).mono ?_; rintro e w' ⟨rfl, rfl⟩)
      go_ret
      exact ⟨ri HX.out.symm, rfl⟩
/-- The first of two numbers that is not 0. -/
def or2 (x y : Int) : Int := if x = 0 then y else x
set_option maxHeartbeats 1000000 in
theorem or_two (x y : Int) (b : Nat) (w : World) (h : Blk w b 3 #[.int .i64 x, .int .i64 y]) : Calls Try.prog 141 #[.slice (some ⟨b, 0, none⟩) 2 2] w fun e w' => e = .returned (.int .i64 (or2 x y)) ∧ w = w' := by
  obtain ⟨r, hr⟩ : ∃ r, or2 x y = r := ⟨_, rfl⟩
  have HR : Hid (r = if x = 0 then y else x) := by show _ = _; rw [← hr]; rfl
  have c0 := cellOf h 0 (x := .int .i64 x) rfl
  have c1 := cellOf h 1 (x := .int .i64 y) rfl
  rw [hr]
  clear hr h
  go_enter Try.func141, Try.ntmps141
  go_wp2_with fail
  go_loop [8] (fun i => ∃ k : Nat, k ≤ 2 ∧ i = .int .i64 k ∧ (0 < k → x = 0) ∧ (1 < k → y = 0)) (fun i => 2 - (intOf i).toNat)
  case atStart => exact ⟨0, by omega, rfl, by omega, by omega⟩
  case round =>
  obtain ⟨k, hk, rfl, h0, h1⟩ := hrel
  have HH0 := Lib.hid h0
  have HH1 := Lib.hid h1
  clear h0 h1
  rcases (show k = 0 ∨ k = 1 ∨ k = 2 by omega) with rfl | rfl | rfl
  · by_cases hx : x = 0
    · have HX := Lib.hid hx
      have hx' : (x != 0) = false := by simpa using hx
      clear hx
      go_wp2_with fail
      go_round
      case rel => exact ⟨1, by omega, rfl, fun _ => HX.out, by omega⟩
      case measure => simp [intOf]
    · have hx' : (x != 0) = true := by simpa using hx
      have HX : Hid (x = r) := by show _ = _; rw [HR.out, if_neg hx]
      clear hx
      go_wp2_with fail
      go_ret
      exact ⟨ri HX.out.symm, rfl⟩
  · have hx0 := HH0.out (by omega)
    by_cases hy : y = 0
    · have HX := Lib.hid hy
      have HX0 := Lib.hid hx0
      have hy' : (y != 0) = false := by simpa using hy
      clear hy hx0
      go_wp2_with fail
      go_round
      case rel => exact ⟨2, by omega, rfl, fun _ => HX0.out, fun _ => HX.out⟩
      case measure => simp [intOf]
    · have hy' : (y != 0) = true := by simpa using hy
      have HX : Hid (y = r) := by show _ = _; rw [HR.out, if_pos hx0]
      clear hy hx0
      go_wp2_with fail
      go_ret
      exact ⟨ri HX.out.symm, rfl⟩
  · have HX : Hid ((0 : Int) = r) := by show _ = _; rw [HR.out, if_pos (HH0.out (by omega)), HH1.out (by omega)]
    go_wp2_with fail
    go_ret
    exact ⟨ri HX.out.symm, rfl⟩
/-- How two supplies compare: by their totals, then by their copies. -/
def cmpS (x y : Int × Int) : Int := or2 (cmpI x.2 y.2) (cmpI x.1 y.1)
theorem cmpS_bd (x y : Int × Int) : -1 ≤ cmpS x y ∧ cmpS x y ≤ 1 := by
  have := cmpI_bd x.2 y.2
  have := cmpI_bd x.1 y.1
  unfold cmpS or2
  split <;> omega
theorem cmpS_lt (x y : Int × Int) : decide (cmpS x y < 0) = ltS x y := by
  unfold cmpS ltS or2 cmpI
  by_cases h1 : x.2 < y.2
  · simp [h1]
  · by_cases h2 : y.2 < x.2
    · have : ¬ x.2 = y.2 := by omega
      simp [h1, h2, this]
    · have h3 : x.2 = y.2 := by omega
      by_cases h4 : x.1 < y.1
      · simp [h3, h4]
      · by_cases h5 : y.1 < x.1 <;> simp [h3, h4, h5]
set_option maxRecDepth 100000 in
set_option maxHeartbeats 4000000 in
theorem compare_any (x y : Int × Int) (w : World) : Calls Try.prog 117 #[.agg #[.int .i64 x.1, .int .i64 x.2], .agg #[.int .i64 y.1, .int .i64 y.2]] w fun e w' => e = .returned (.int .i64 (cmpS x y)) ∧ Below w.heap.size w w' := by
  obtain ⟨x1, x2⟩ := x
  obtain ⟨y1, y2⟩ := y
  simp only
  have F0 : ∃ W0, (w.alloc (.cells #[.int .i64 x1, .int .i64 x2] 150)).alloc (.cells #[.int .i64 y1, .int .i64 y2] 150) = W0 ∧ Hid (Below w.heap.size w W0) ∧ Hid (Blk W0 w.heap.size 150 #[.int .i64 x1, .int .i64 x2] ∧ Blk W0 (w.heap.size + 1) 150 #[.int .i64 y1, .int .i64 y2]) :=
    ⟨_, rfl, sbelow_al (below_alloc _ _) _, (Blk.new _ _ _).alloc _, blk_new (by simp) _ _⟩
  obtain ⟨W0, e0, HB0, HK0⟩ := F0
  have E0 := Lib.hid e0
  obtain ⟨p, hp⟩ : ∃ p, w.heap.size = p := ⟨_, rfl⟩
  have HP := Lib.hid hp
  obtain ⟨c1, hc1⟩ : ∃ c, cmpI x2 y2 = c := ⟨_, rfl⟩
  obtain ⟨c2, hc2⟩ : ∃ c, cmpI x1 y1 = c := ⟨_, rfl⟩
  obtain ⟨r, hr⟩ : ∃ r, cmpS (x1, x2) (y1, y2) = r := ⟨_, rfl⟩
  have HR : Hid (or2 c1 c2 = r) := by show _ = _; rw [← hr, ← hc1, ← hc2]; rfl
  have C1 := Lib.hid (fun w => cmp_any x2 y2 w)
  have C2 := Lib.hid (fun w => cmp_any x1 y1 w)
  rw [hc1] at C1
  rw [hc2] at C2
  rw [hr]
  clear e0 hp hc1 hc2 hr
  have CO : Hid (∀ W : World, Calls Try.prog 141 #[.slice (some ⟨W.heap.size, 0, none⟩) 2 2] (W.alloc (.cells #[.int .i64 c1, .int .i64 c2] 3)).drew fun e w' => e = .returned (.int .i64 r) ∧ (W.alloc (.cells #[.int .i64 c1, .int .i64 c2] 3)).drew = w') := fun W => by
    have := or_two c1 c2 W.heap.size (W.alloc (.cells #[.int .i64 c1, .int .i64 c2] 3)).drew (Blk.new W _ _)
    rw [HR.out] at this
    exact this
  have HD : Hid (Below w.heap.size w (W0.alloc (.cells #[.int .i64 c1, .int .i64 c2] 3)).drew) := HB0.out.trans ((sbelow_al (Below.refl _ _) _).drew.mono HB0.out.size)
  go_enter Try.func117, Try.ntmps117
  go_upto_region 1 with fail
  rw [E0.out]
  clear E0
  rw [HP.out]
  have S1 : W0.cell? ⟨p, 0, none⟩ = some (.int .i64 x1) ∧ W0.cell? ⟨p, 1, none⟩ = some (.int .i64 x2) ∧ W0.cell? ⟨p + 1, 0, none⟩ = some (.int .i64 y1) ∧ W0.cell? ⟨p + 1, 1, none⟩ = some (.int .i64 y2) := by
    rw [← HP.out]
    exact ⟨cellOf HK0.out.1 0 rfl, cellOf HK0.out.1 1 rfl, cellOf HK0.out.2 0 rfl, cellOf HK0.out.2 1 rfl⟩
  have hp0 : p < W0.heap.size := by rw [← HP.out]; exact HK0.out.1.lt
  have hp1 : p + 1 < W0.heap.size := by rw [← HP.out]; exact HK0.out.2.lt
  go_region_held3 (fun X => X.cell? ⟨p, 0, none⟩ = some (.int .i64 x1) ∧ X.cell? ⟨p, 1, none⟩ = some (.int .i64 x2) ∧ X.cell? ⟨p + 1, 0, none⟩ = some (.int .i64 y1) ∧ X.cell? ⟨p + 1, 1, none⟩ = some (.int .i64 y2)) (first | with_reducible exact S1 | go_keep)
    (first | (go_at_call 142; with_reducible refine (C1.out _).mono ?_; rintro _ y1 ⟨rfl, rfl⟩)
           | (go_at_call 142; with_reducible refine (C2.out _).mono ?_; rintro _ y1 ⟨rfl, rfl⟩)
           | (go_at_call 141; with_reducible refine (CO.out _).mono ?_; rintro _ y1 ⟨rfl, rfl⟩))
  all_goals
    clear S1
    go_wp2_with fail
    go_ret
    exact ⟨rfl, HD.out⟩
end Go.Proofs.Ytlmpbmlbllndcaa
