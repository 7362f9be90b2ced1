/-
  The reference's in, right and Check.
  The reference's fine.
-/
import Derived.Test.YtlmpbmlbllndcaaMah
import Derived.Test.YtlmpbmlbllndcaaMau
namespace Go.Proofs.Ytlmpbmlbllndcaa
open Go.RowKit
attribute [local go_sem] Oper.semAt_some

theorem refIn_any (n lo hi : Int) (w : World) : Calls Try.prog 98 #[.int .i64 n, .int .i64 lo, .int .i64 hi] w fun e w' => e = .returned (.bool (inB n lo hi)) ∧ w = w' := by
  by_cases h1 : lo ≤ n
  · by_cases h2 : n ≤ hi
    · go_enter Try.func98, Try.ntmps98
      go_wp2
      go_ret
      exact ⟨rb (inB_iff.2 ⟨h1, h2⟩), rfl⟩
    · go_enter Try.func98, Try.ntmps98
      go_wp2
      go_ret
      exact ⟨rb (by unfold inB; exact decide_eq_false (by omega)), rfl⟩
  · go_enter Try.func98, Try.ntmps98
    go_wp2
    go_ret
    exact ⟨rb (by unfold inB; exact decide_eq_false (by omega)), rfl⟩
set_option maxHeartbeats 2000000 in
theorem refRight_any (d : DayD) (w : World) : Calls Try.prog 97 #[.agg #[.int .i64 d.sup, .int .i64 d.ret]] w fun e w' => e = .returned (.bool (d.okB)) ∧ Below w.heap.size w w' := by
  obtain ⟨b1, hb1⟩ : ∃ b, inB d.sup 0 10000 = b := ⟨_, rfl⟩
  have C1 := Lib.hid (fun w => refIn_any d.sup 0 10000 w)
  rw [hb1] at C1
  have HE : Hid (d.okB = (b1 && inB d.ret 0 d.sup)) := by show _ = _; rw [← hb1]; rfl
  have F0 : ∃ W0, w.alloc (.cells #[.int .i64 d.sup, .int .i64 d.ret] 99) = W0 ∧ Hid (Below w.heap.size w W0) ∧ Hid (Blk W0 w.heap.size 99 #[.int .i64 d.sup, .int .i64 d.ret]) := ⟨_, rfl, below_alloc _ _, Blk.new _ _ _⟩
  obtain ⟨W0, e0, HB0, HK0⟩ := F0
  have E0 := Lib.hid e0
  have z0 := cellOf HK0.out 0 (x := .int .i64 d.sup) rfl
  have z1 := cellOf HK0.out 1 (x := .int .i64 d.ret) rfl
  obtain ⟨s, hs⟩ : ∃ s, d.sup = s := ⟨_, rfl⟩
  obtain ⟨r, hr⟩ : ∃ s, d.ret = s := ⟨_, rfl⟩
  rw [hs] at z0 C1 E0
  rw [hr] at z1 E0
  rw [hs, hr] at HE ⊢
  clear e0 hb1 hs hr
  cases b1 with
  | false =>
    have HX : Hid (d.okB = false) := by show _ = _; rw [HE.out]; rfl
    go_enter Try.func97, Try.ntmps97
    go_upto_region 1 with fail
    rw [E0.out]
    clear E0
    go_wp2_with fail
    refine (C1.out _).mono ?_
    rintro _ _ ⟨rfl, rfl⟩
    go_wp2_with fail
    go_ret
    exact ⟨rb HX.out, HB0.out⟩
  | true =>
    have HX : Hid (d.okB = inB r 0 s) := by show _ = _; rw [HE.out]; rfl
    by_cases h1 : 0 ≤ r
    · by_cases h2 : r ≤ s
      · have HY : Hid (d.okB = true) := by show _ = _; rw [HX.out]; exact inB_iff.2 ⟨h1, h2⟩
        go_enter Try.func97, Try.ntmps97
        go_upto_region 1 with fail
        rw [E0.out]
        clear E0
        go_wp2_with fail
        refine (C1.out _).mono ?_
        rintro _ _ ⟨rfl, rfl⟩
        go_wp2_with fail
        go_ret
        exact ⟨rb HY.out, HB0.out⟩
      · have HY : Hid (d.okB = false) := by show _ = _; rw [HX.out]; unfold inB; exact decide_eq_false fun h => h2 h.2
        go_enter Try.func97, Try.ntmps97
        go_upto_region 1 with fail
        rw [E0.out]
        clear E0
        go_wp2_with fail
        refine (C1.out _).mono ?_
        rintro _ _ ⟨rfl, rfl⟩
        go_wp2_with fail
        go_ret
        exact ⟨rb (by rw [HY.out]; exact (decide_eq_false (by omega)).symm), HB0.out⟩
    · have HY : Hid (d.okB = false) := by show _ = _; rw [HX.out]; unfold inB; exact decide_eq_false fun h => h1 h.1
      go_enter Try.func97, Try.ntmps97
      go_upto_region 1 with fail
      rw [E0.out]
      clear E0
      go_wp2_with fail
      refine (C1.out _).mono ?_
      rintro _ _ ⟨rfl, rfl⟩
      go_wp2_with fail
      go_ret
      exact ⟨rb HY.out, HB0.out⟩
set_option maxRecDepth 100000 in
set_option maxHeartbeats 4000000 in
theorem refCheck_any (l : List DayD) (v : Value) (w : World) (h : RDays w.heap.size w v l) : Calls Try.prog 40 #[v] w fun e w' => e = .returned (.int .i64 (checkH l)) ∧ Below w.heap.size w w' := by
  obtain ⟨A, c, rfl, hlm, HD⟩ := days_later h
  obtain ⟨n, hn⟩ : ∃ n, l.length = n := ⟨_, rfl⟩
  obtain ⟨ce, hce⟩ : ∃ e, checkH l = e := ⟨_, rfl⟩
  have HC : Hid (ce = if 400 < n then 2 else if l.all DayD.okB then 0 else 120) := by show _ = _; rw [← hce, ← hn]; rfl
  rw [hn] at hlm
  rw [hn, hce]
  have HN := Lib.hid hn
  clear h hn hce
  by_cases h4 : 400 < n
  · have HX : Hid ((2 : Int) = ce) := by show _ = _; rw [HC.out, if_pos h4]
    have h4' : (400 : Int) < (n : Int) := by omega
    clear h4
    go_enter Try.func40, Try.ntmps40
    go_wp2
    go_ret
    exact ⟨ri HX.out.symm, Below.refl _ _⟩
  have h4' : ¬ (400 : Int) < (n : Int) := by omega
  have HC2 : Hid (ce = if l.all DayD.okB then 0 else 120) := by show _ = _; rw [HC.out, if_neg h4]
  clear HC
  go_enter Try.func40, Try.ntmps40
  go_wp2_with fail
  go_loopw [3] (fun i wr => ∃ k : Nat, k ≤ n ∧ i = .int .i64 k ∧ Hid ((l.take k).all DayD.okB = true) ∧ Hid (Below w.heap.size w wr)) (fun i _ => n - (intOf i).toNat)
  case atStart => exact ⟨0, Nat.zero_le _, rfl, by show _ = _; simp, Below.refl _ _⟩
  case round =>
  obtain ⟨k, hk, rfl, hall, hB⟩ := hrel
  obtain ⟨X, rfl⟩ : ∃ X : World, X = wr := ⟨_, rfl⟩
  by_cases hlt : k < n
  · obtain ⟨x, hx⟩ : ∃ x, l[k]? = some x := ⟨_, List.getElem?_eq_getElem (by rw [HN.out]; exact hlt)⟩
    obtain ⟨g, o, rfl, HX⟩ := HD.out k x hx
    obtain ⟨c0, c1⟩ := HX.out X hB.out
    have CR := Lib.hid (refRight_any x X)
    obtain ⟨b, hb⟩ : ∃ b, x.okB = b := ⟨_, rfl⟩
    rw [hb] at CR
    have HXX := Lib.hid hx
    have HBB := Lib.hid hb
    have k0 : (0 : Int) ≤ (k : Int) := by omega
    have k1 : (k : Int) < (n : Int) := by omega
    clear hx hb HX
    go_wp2_with fail
    refine CR.out.mono ?_
    rintro _ Y ⟨rfl, hb2⟩
    have HBY : Hid (Below w.heap.size w Y) := hB.out.trans (hb2.mono hB.out.size)
    clear CR hb2 hB c0 c1
    cases b
    · have HXE : Hid ((120 : Int) = ce) := by show _ = _; rw [HC2.out, all_not HXX.out HBB.out]; rfl
      go_wp2_with fail
      go_ret
      exact ⟨ri HXE.out.symm, HBY.out⟩
    · have hall' := all_next hall HXX.out HBB.out
      go_wp2_with fail
      go_roundw
      case rel => exact ⟨k + 1, by omega, by go_num, hall', HBY⟩
      case measure => simp [intOf]; omega
  · have HXE : Hid ((0 : Int) = ce) := by show _ = _; rw [HC2.out, (all_end hall (by rw [HN.out]; omega)).out]; rfl
    go_wp2_with fail
    go_ret
    exact ⟨ri HXE.out.symm, hB.out⟩
end Go.Proofs.Ytlmpbmlbllndcaa

namespace Go.Proofs.Ytlmpbmlbllndcaa
open Go.RowKit
attribute [local go_sem] Oper.semAt_some

theorem dayB_as (a b : Int) : dayB a b = ((inB a 0 20000 && inB b 0 20000) && decide (a ≤ b)) := by
  rw [Bool.eq_iff_iff, dayB_iff, Bool.and_eq_true, Bool.and_eq_true, inB_iff, inB_iff, decide_eq_true_eq]
  constructor
  · intro h; omega
  · intro h; omega
theorem subB_as (s : SubD) : subB s = (((((inB s.id 0 1000000 && inB s.from_ 0 20000) && inB s.to_ 0 20000) && decide (s.from_ ≤ s.to_)) && inB s.days 1 127) && (decide (s.hol.length ≤ 20) && holR 0 s.hol)) := by
  unfold subB holB
  rw [dayB_as]
  simp only [Bool.and_assoc]
set_option maxRecDepth 100000 in
set_option maxHeartbeats 4000000 in
theorem refFine_any (s : SubD) (v : Value) (w : World) (h : RSub w.heap.size w v s) : Calls Try.prog 107 #[v] w fun e w' => e = .returned (.bool (subB s)) ∧ Below w.heap.size w w' := by
  obtain ⟨u, rfl, hs⟩ := h
  have HS := Lib.hid hs
  obtain ⟨A, c, rfl, hlm, HD⟩ := spans_later hs
  obtain ⟨n, hn⟩ : ∃ n, s.hol.length = n := ⟨_, rfl⟩
  have HN := Lib.hid hn
  rw [hn] at hlm ⊢
  have HE0 := Lib.hid (subB_as s)
  rw [hn] at HE0
  obtain ⟨id, hid⟩ : ∃ x, s.id = x := ⟨_, rfl⟩
  obtain ⟨fr, hfr⟩ : ∃ x, s.from_ = x := ⟨_, rfl⟩
  obtain ⟨to_, hto⟩ : ∃ x, s.to_ = x := ⟨_, rfl⟩
  obtain ⟨dy, hdy⟩ : ∃ x, s.days = x := ⟨_, rfl⟩
  obtain ⟨l, hl⟩ : ∃ x, s.hol = x := ⟨_, rfl⟩
  obtain ⟨r, hr⟩ : ∃ x, subB s = x := ⟨_, rfl⟩
  rw [hid, hfr, hto, hdy, hl, hr] at HE0
  rw [hid, hfr, hto, hdy, hr]
  rw [hl] at HD HN
  have CI := Lib.hid (fun (x lo hi : Int) (Y : World) => refIn_any x lo hi Y)
  obtain ⟨b1, hb1⟩ : ∃ b, inB id 0 1000000 = b := ⟨_, rfl⟩
  obtain ⟨b2, hb2⟩ : ∃ b, inB fr 0 20000 = b := ⟨_, rfl⟩
  obtain ⟨b3, hb3⟩ : ∃ b, inB to_ 0 20000 = b := ⟨_, rfl⟩
  obtain ⟨b5, hb5⟩ : ∃ b, inB dy 1 127 = b := ⟨_, rfl⟩
  have C1 := Lib.hid (fun Y => CI.out id 0 1000000 Y)
  have C2 := Lib.hid (fun Y => CI.out fr 0 20000 Y)
  have C3 := Lib.hid (fun Y => CI.out to_ 0 20000 Y)
  have C5 := Lib.hid (fun Y => CI.out dy 1 127 Y)
  rw [hb1] at C1
  rw [hb2] at C2
  rw [hb3] at C3
  rw [hb5] at C5
  rw [hb1, hb2, hb3, hb5] at HE0
  have F0 : ∃ W0, w.alloc (.cells #[.int .i64 id, .int .i64 fr, .int .i64 to_, .int .i64 dy, .slice A n c] 126) = W0 ∧ Hid (Below w.heap.size w W0) ∧ Hid (Blk W0 w.heap.size 126 #[.int .i64 id, .int .i64 fr, .int .i64 to_, .int .i64 dy, .slice A n c]) := ⟨_, rfl, below_alloc _ _, Blk.new _ _ _⟩
  obtain ⟨W0, e0, HB0, HK0⟩ := F0
  have E0 := Lib.hid e0
  obtain ⟨p, hp⟩ : ∃ p, w.heap.size = p := ⟨_, rfl⟩
  have HP := Lib.hid hp
  rw [hp] at HK0
  have HCC : Hid (∀ Y, Below W0.heap.size W0 Y → Y.cell? ⟨p, 0, none⟩ = some (.int .i64 id) ∧ Y.cell? ⟨p, 1, none⟩ = some (.int .i64 fr) ∧ Y.cell? ⟨p, 2, none⟩ = some (.int .i64 to_) ∧ Y.cell? ⟨p, 3, none⟩ = some (.int .i64 dy) ∧ Y.cell? ⟨p, 4, none⟩ = some (.slice A n c)) := fun Y hY => by
    have h1 := HK0.out.below hY HK0.out.lt
    exact ⟨cellOf h1 0 rfl, cellOf h1 1 rfl, cellOf h1 2 rfl, cellOf h1 3 rfl, cellOf h1 4 rfl⟩
  obtain ⟨z0, z1, z2, z3, z4⟩ := HCC.out W0 (Below.refl _ _)
  clear hs hn hid hfr hto hdy hl hr hb1 hb2 hb3 hb5 e0 hp HS
  go_enter Try.func107, Try.ntmps107
  go_upto_region 1 with fail
  rw [E0.out, HP.out]
  clear E0
  go_wp2_with fail
  refine (C1.out _).mono ?_
  rintro _ _ ⟨rfl, rfl⟩
  cases b1 with
  | false =>
    have HX : Hid (r = false) := by show _ = _; rw [HE0.out]; simp
    go_wp2_with fail
    go_ret
    exact ⟨rb HX.out, HB0.out⟩
  | true =>
  go_wp2_with fail
  refine (C2.out _).mono ?_
  rintro _ _ ⟨rfl, rfl⟩
  cases b2 with
  | false =>
    have HX : Hid (r = false) := by show _ = _; rw [HE0.out]; simp
    go_wp2_with fail
    go_ret
    exact ⟨rb HX.out, HB0.out⟩
  | true =>
  go_wp2_with fail
  refine (C3.out _).mono ?_
  rintro _ _ ⟨rfl, rfl⟩
  cases b3 with
  | false =>
    have HX : Hid (r = false) := by show _ = _; rw [HE0.out]; simp
    go_wp2_with fail
    go_ret
    exact ⟨rb HX.out, HB0.out⟩
  | true =>
  by_cases h4 : to_ < fr
  · have g4 : decide (to_ < fr) = true := by simpa using h4
    have HX : Hid (r = false) := by show _ = _; rw [HE0.out, decide_eq_false (show ¬ fr ≤ to_ by omega)]; simp
    clear h4
    go_wp2_with fail
    go_ret
    exact ⟨rb HX.out, HB0.out⟩
  have g4 : decide (to_ < fr) = false := by simpa using h4
  have HE1 : Hid (r = (b5 && (decide (n ≤ 20) && holR 0 l))) := by show _ = _; rw [HE0.out, decide_eq_true (show fr ≤ to_ by omega)]; simp
  clear h4 HE0
  go_wp2_with fail
  refine (C5.out _).mono ?_
  rintro _ _ ⟨rfl, rfl⟩
  cases b5 with
  | false =>
    have HX : Hid (r = false) := by show _ = _; rw [HE1.out]; rfl
    go_wp2_with fail
    go_ret
    exact ⟨rb HX.out, HB0.out⟩
  | true =>
  by_cases h6 : (20 : Int) < (n : Int)
  · have g6 : decide ((20 : Int) < (n : Int)) = true := by simpa using h6
    have HX : Hid (r = false) := by show _ = _; rw [HE1.out, decide_eq_false (show ¬ n ≤ 20 by omega)]; rfl
    clear h6
    go_wp2_with fail
    go_ret
    exact ⟨rb HX.out, HB0.out⟩
  have g6 : decide ((20 : Int) < (n : Int)) = false := by simpa using h6
  have HE2 : Hid (r = holR 0 l) := by show _ = _; rw [HE1.out, decide_eq_true (show n ≤ 20 by omega)]; rfl
  clear h6 HE1 C1 C2 C3 C5 z0 z1 z2 z3
  go_wp2_with fail
  go_loopw [3] (fun i wr => ∃ k : Nat, k ≤ n ∧ i = .int .i64 k ∧ (∃ f : Int, Hid (r = holR f (l.drop k)) ∧ Hid (k = 0 → f = 0) ∧ Hid (∀ x, k ≠ 0 → l[k - 1]? = some x → f = x.hi + 2 ∧ 0 ≤ x.hi ∧ x.hi ≤ 20000)) ∧ Hid (Below W0.heap.size W0 wr)) (fun i _ => n - (intOf i).toNat)
  case atStart => exact ⟨0, Nat.zero_le _, rfl, ⟨0, HE2.out, fun _ => rfl, fun x h0 => absurd rfl h0⟩, Below.refl _ _⟩
  case round =>
  clear HE2 z4
  obtain ⟨k, hk, rfl, ⟨f, hf, hf0, hf1⟩, hB⟩ := hrel
  obtain ⟨X, rfl⟩ : ∃ X : World, X = wr := ⟨_, rfl⟩
  obtain ⟨-, -, -, -, z4⟩ := HCC.out X hB.out
  have HBX : Hid (Below w.heap.size w X) := HB0.out.trans (hB.out.mono HB0.out.size)
  by_cases hlt : k < n
  case neg =>
    have HX : Hid (r = true) := by show _ = _; rw [hf.out, List.drop_of_length_le (by rw [HN.out]; omega)]; rfl
    clear hf hf0 hf1
    go_wp2_with fail
    go_ret
    exact ⟨rb HX.out, HBX.out⟩
  obtain ⟨x, hx⟩ : ∃ x, l[k]? = some x := ⟨_, List.getElem?_eq_getElem (by rw [HN.out]; exact hlt)⟩
  obtain ⟨g, o, rfl, HX⟩ := HD.out k x hx
  obtain ⟨lo, hlo⟩ : ∃ z, x.lo = z := ⟨_, rfl⟩
  obtain ⟨hi, hhi⟩ : ∃ z, x.hi = z := ⟨_, rfl⟩
  rw [hlo, hhi] at HX
  obtain ⟨c0, c1⟩ := HX.out X HBX.out
  have HRR : Hid (r = ((!decide (lo < f) && ((inB lo 0 20000 && inB hi 0 20000) && decide (lo ≤ hi))) && holR (hi + 2) (l.drop (k + 1)))) := by
    show _ = _
    rw [hf.out, drop_cons hx, ← hlo, ← hhi, ← dayB_as]
    rfl
  have F1 : ∃ X1, X.alloc (.cells #[.int .i64 lo, .int .i64 hi] 87) = X1 ∧ Hid (Below X.heap.size X X1) ∧ Hid (Blk X1 X.heap.size 87 #[.int .i64 lo, .int .i64 hi]) := ⟨_, rfl, below_alloc _ _, Blk.new _ _ _⟩
  obtain ⟨X1, e1, HX1, HK1⟩ := F1
  have E1 := Lib.hid e1
  have HB1 : Hid (Below W0.heap.size W0 X1) := hB.out.trans (HX1.out.mono hB.out.size)
  have HBW1 : Hid (Below w.heap.size w X1) := HB0.out.trans (HB1.out.mono HB0.out.size)
  obtain ⟨q, hq⟩ : ∃ q, X.heap.size = q := ⟨_, rfl⟩
  rw [hq] at HK1
  have HQ := Lib.hid hq
  have d0 := cellOf HK1.out 0 (x := .int .i64 lo) rfl
  have d1 := cellOf HK1.out 1 (x := .int .i64 hi) rfl
  obtain ⟨-, -, -, -, y4⟩ := HCC.out X1 HB1.out
  have HNXT : Hid (0 ≤ hi → hi ≤ 20000 → ∀ x', k + 1 ≠ 0 → l[k + 1 - 1]? = some x' → hi + 2 = x'.hi + 2 ∧ 0 ≤ x'.hi ∧ x'.hi ≤ 20000) := fun h1 h2 x' _ hx' => by
    rw [show k + 1 - 1 = k by omega, hx] at hx'
    cases hx'
    rw [hhi]
    exact ⟨rfl, h1, h2⟩
  have k0 : (0 : Int) ≤ (k : Int) := by omega
  have k1 : (k : Int) < (n : Int) := by omega
  obtain ⟨l1, hl1⟩ : ∃ z, inB lo 0 20000 = z := ⟨_, rfl⟩
  obtain ⟨l2, hl2⟩ : ∃ z, inB hi 0 20000 = z := ⟨_, rfl⟩
  have HL1 := Lib.hid hl1
  have HL2 := Lib.hid hl2
  have CI1 : Hid (∀ Y : World, Calls Try.prog 98 #[.int .i64 lo, .int .i64 0, .int .i64 20000] Y fun e w' => e = .returned (.bool l1) ∧ w' = Y) := fun Y => by rw [← hl1]; exact (CI.out lo 0 20000 Y).mono fun e w' h => ⟨h.1, h.2.symm⟩
  have CI2 : Hid (∀ Y : World, Calls Try.prog 98 #[.int .i64 hi, .int .i64 0, .int .i64 20000] Y fun e w' => e = .returned (.bool l2) ∧ w' = Y) := fun Y => by rw [← hl2]; exact (CI.out hi 0 20000 Y).mono fun e w' h => ⟨h.1, h.2.symm⟩
  rw [hl1, hl2] at HRR
  have HDX : Hid (∀ m, Below W0.heap.size W0 (X1.drewN m) ∧ Below w.heap.size w (X1.drewN m)) := fun m => ⟨below_drewN HB1.out m, below_drewN HBW1.out m⟩
  have HXC : Hid (∀ j x', l[j]? = some x' → X1.cell? ⟨g, o + j * 2 + 1, none⟩ = some (.int .i64 x'.hi)) := fun j x' hx' => by
    obtain ⟨g', o', e', HX'⟩ := HD.out j x' hx'
    cases e'
    exact (HX'.out X1 HBW1.out).2
  clear hx hlo hhi HX e1 hq hf hB HX1 HK1 hl1 hl2 CI
  go_upto_region 7 with fail
  rw [E1.out, HQ.out]
  clear E1 c0 c1 z4
  cases l1 with
  | false =>
    have HX : Hid (r = false) := by show _ = _; rw [HRR.out]; simp
    clear hf0 hf1
    go_quiet ((go_at_call 98; exact Calls.quiet_of_same (CI1.out _)))
    go_wp2_with fail
    go_ret
    exact ⟨rb HX.out, (HDX.out _).2⟩
  | true =>
  cases l2 with
  | false =>
    have HX : Hid (r = false) := by show _ = _; rw [HRR.out]; simp
    clear hf0 hf1
    go_quiet ((go_at_call 98; first | with_reducible exact Calls.quiet_of_same (CI1.out _) | with_reducible exact Calls.quiet_of_same (CI2.out _)))
    go_wp2_with fail
    go_ret
    exact ⟨rb HX.out, (HDX.out _).2⟩
  | true =>
  obtain ⟨lo0, lo1⟩ := inB_iff.1 HL1.out
  obtain ⟨hi0, hi1⟩ := inB_iff.1 HL2.out
  by_cases hlh : hi < lo
  · have g7 : decide (hi < lo) = true := by simpa using hlh
    have HX : Hid (r = false) := by show _ = _; rw [HRR.out, decide_eq_false (show ¬ lo ≤ hi by omega)]; simp
    clear hf0 hf1 hlh
    go_quiet ((go_at_call 98; first | with_reducible exact Calls.quiet_of_same (CI1.out _) | with_reducible exact Calls.quiet_of_same (CI2.out _)))
    go_wp2_with fail
    go_ret
    exact ⟨rb HX.out, (HDX.out _).2⟩
  have g7 : decide (hi < lo) = false := by simpa using hlh
  have HR2 : Hid (r = (!decide (lo < f) && holR (hi + 2) (l.drop (k + 1)))) := by show _ = _; rw [HRR.out, decide_eq_true (show lo ≤ hi by omega)]; simp
  have HNX2 := Lib.hid (HNXT.out hi0 hi1)
  clear hlh HRR
  by_cases hkz : k = 0
  · have g8 : decide ((0 : Int) < (k : Int)) = false := by simp [hkz]
    have g8a : ¬ 0 < k := by omega
    have g8b : ¬ (0 : Int) < (k : Int) := by omega
    have g8c : decide (0 < k) = false := by simp [hkz]
    have hfz := hf0.out hkz
    have HX : Hid (r = holR (hi + 2) (l.drop (k + 1))) := by show _ = _; rw [HR2.out, hfz, decide_eq_false (show ¬ lo < 0 by omega)]; rfl
    clear hkz hf0 hf1 hfz
    go_quiet ((go_at_call 98; first | with_reducible exact Calls.quiet_of_same (CI1.out _) | with_reducible exact Calls.quiet_of_same (CI2.out _)))
    go_wp2_with fail
    go_roundw
    case rel => exact ⟨k + 1, by omega, by go_num, ⟨hi + 2, HX, fun h0 => absurd h0 (Nat.succ_ne_zero k), HNX2⟩, (HDX.out _).1⟩
    case measure => simp [intOf]; omega
  have g8 : decide ((0 : Int) < (k : Int)) = true := by simp; omega
  have g8a : 0 < k := by omega
  have g8b : (0 : Int) < (k : Int) := by omega
  have g8c : decide (0 < k) = true := by simp; omega
  obtain ⟨kp, hkp⟩ : ∃ kp : Nat, (k : Int) - 1 = (kp : Int) := ⟨k - 1, by omega⟩
  obtain ⟨x', hx'⟩ : ∃ x, l[kp]? = some x := ⟨_, List.getElem?_eq_getElem (by rw [HN.out]; omega)⟩
  obtain ⟨ph, hph⟩ : ∃ z, x'.hi = z := ⟨_, rfl⟩
  have c9 := HXC.out kp x' hx'
  have hff := hf1.out x' hkz (by rw [show k - 1 = kp by omega]; exact hx')
  rw [hph] at c9 hff
  obtain ⟨hff0, p0, p1⟩ := hff
  have q0 : (0 : Int) ≤ (kp : Int) := by omega
  have q1 : (kp : Int) < (n : Int) := by omega
  obtain ⟨lm, hlm'⟩ : ∃ z, lo - 1 = z := ⟨_, rfl⟩
  have lm0 : -1 ≤ lm ∧ lm ≤ 20000 := by omega
  obtain ⟨lm0, lm1⟩ := lm0
  clear hkz hf0 hf1 hx' hph
  by_cases hpl : lm ≤ ph
  · have g9 : decide (lm ≤ ph) = true := by simpa using hpl
    have HX : Hid (r = false) := by show _ = _; rw [HR2.out, decide_eq_true (show lo < f by omega)]; rfl
    clear hpl hff0
    go_quiet ((go_at_call 98; first | with_reducible exact Calls.quiet_of_same (CI1.out _) | with_reducible exact Calls.quiet_of_same (CI2.out _)))
    go_wp2_with fail
    go_ret
    exact ⟨rb HX.out, (HDX.out _).2⟩
  · have g9 : decide (lm ≤ ph) = false := by simpa using hpl
    have HX : Hid (r = holR (hi + 2) (l.drop (k + 1))) := by show _ = _; rw [HR2.out, decide_eq_false (show ¬ lo < f by omega)]; rfl
    clear hpl hff0
    go_quiet ((go_at_call 98; first | with_reducible exact Calls.quiet_of_same (CI1.out _) | with_reducible exact Calls.quiet_of_same (CI2.out _)))
    go_wp2_with fail
    go_roundw
    case rel => exact ⟨k + 1, by omega, by go_num, ⟨hi + 2, HX, fun h0 => absurd h0 (Nat.succ_ne_zero k), HNX2⟩, (HDX.out _).1⟩
    case measure => simp [intOf]; omega
end Go.Proofs.Ytlmpbmlbllndcaa
