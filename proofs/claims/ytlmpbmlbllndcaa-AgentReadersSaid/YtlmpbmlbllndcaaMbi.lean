/-
  The reference's gets and copies.
-/
import Derived.Test.YtlmpbmlbllndcaaMaw
import Derived.Test.YtlmpbmlbllndcaaMbh
namespace Go.Proofs.Ytlmpbmlbllndcaa
open Go.RowKit
attribute [local go_sem] Oper.semAt_some

theorem getB_gets {s : SubD} (hs : s.Ok) {d : Int} (hd : 0 ≤ d) : s.getB d = s.gets d := by
  unfold SubD.getB
  rw [copies_cnt hs hd]
  unfold cnt
  rw [show (d + 1 - d).toNat = 0 + 1 by omega]
  show decide (0 < cntN s.gets d 0 + if s.gets (d + ((0 : Nat) : Int)) then 1 else 0) = _
  rw [show d + ((0 : Nat) : Int) = d by simp]
  cases s.gets d <;> simp [cntN]
theorem half_pow (x j : Nat) : x / 2 ^ j / 2 = x / 2 ^ (j + 1) := by rw [Nat.div_div_eq_div_mul, Nat.pow_succ]
theorem inHol_no {l : List SpanD} {d : Int} (h : ∀ (k : Nat) (x : SpanD), l[k]? = some x → ¬ (x.lo ≤ d ∧ d ≤ x.hi)) : inHol l d = false := by
  unfold inHol
  rw [List.any_eq_false]
  intro x hx
  obtain ⟨k, hk⟩ := List.mem_iff_getElem?.1 hx
  have := h k x hk
  rw [Bool.and_eq_true, decide_eq_true_eq, decide_eq_true_eq]
  exact this
theorem inHol_yes {l : List SpanD} {d : Int} {k : Nat} {x : SpanD} (hk : l[k]? = some x) (h : x.lo ≤ d ∧ d ≤ x.hi) : inHol l d = true := by
  unfold inHol
  rw [List.any_eq_true]
  exact ⟨x, List.mem_of_getElem? hk, by rw [decide_eq_true h.1, decide_eq_true h.2]; rfl⟩
set_option maxRecDepth 100000 in
set_option maxHeartbeats 4000000 in
theorem refGetsC_any (s : SubD) (hs : s.Ok) (d : Int) (hd : 0 ≤ d ∧ d ≤ 20000) (v : Value) (w : World) (h : RSub w.heap.size w v s) :
    Calls Try.prog 108 #[v, .int .i64 d] w fun e w' => e = .returned (.bool (s.gets d)) ∧ Below w.heap.size w w' := by
  obtain ⟨u, rfl, hsp⟩ := h
  obtain ⟨A, c, rfl, hlm, HD⟩ := spans_later hsp
  obtain ⟨n, hn⟩ : ∃ n, s.hol.length = n := ⟨_, rfl⟩
  have HN := Lib.hid hn
  rw [hn] at hlm ⊢
  obtain ⟨d0, d1⟩ := hd
  have hdy := hs.days
  obtain ⟨x, hx⟩ : ∃ x : Nat, s.days = (x : Int) := ⟨s.days.toNat, by omega⟩
  obtain ⟨r7, hr7⟩ : ∃ r : Nat, d % 7 = (r : Int) := ⟨(d % 7).toNat, by omega⟩
  have hr7b : r7 < 7 := by omega
  have hx7 : x ≤ 127 := by omega
  obtain ⟨l, hl⟩ : ∃ x, s.hol = x := ⟨_, rfl⟩
  obtain ⟨r, hr⟩ : ∃ r, s.gets d = r := ⟨_, rfl⟩
  have HE0 : Hid (r = (((x / 2 ^ r7 % 2 == 1) && (decide (s.from_ ≤ d) && decide (d ≤ s.to_))) && !inHol l d)) := by
    show _ = _
    rw [← hr]
    unfold SubD.gets wkB bitN
    rw [hx, hl, show d.toNat % 7 = r7 by omega]
    rfl
  rw [hr, hx]
  obtain ⟨fr, hfr⟩ : ∃ x, s.from_ = x := ⟨_, rfl⟩
  obtain ⟨to_, hto⟩ : ∃ x, s.to_ = x := ⟨_, rfl⟩
  obtain ⟨id, hid⟩ : ∃ x, s.id = x := ⟨_, rfl⟩
  rw [hfr, hto] at HE0
  rw [hfr, hto, hid]
  rw [hl] at HD HN
  have F0 : ∃ W0, w.alloc (.cells #[.int .i64 id, .int .i64 fr, .int .i64 to_, .int .i64 (x : Int), .slice A n c] 126) = W0 ∧ Hid (Below w.heap.size w W0) ∧ Hid (Blk W0 w.heap.size 126 #[.int .i64 id, .int .i64 fr, .int .i64 to_, .int .i64 (x : Int), .slice A n c]) := ⟨_, rfl, below_alloc _ _, Blk.new _ _ _⟩
  obtain ⟨W0, e0, HB0, HK0⟩ := F0
  have E0 := Lib.hid e0
  obtain ⟨p, hp⟩ : ∃ p, w.heap.size = p := ⟨_, rfl⟩
  have HP := Lib.hid hp
  rw [hp] at HK0
  have HCC : Hid (∀ Y, Below W0.heap.size W0 Y → Y.cell? ⟨p, 1, none⟩ = some (.int .i64 fr) ∧ Y.cell? ⟨p, 2, none⟩ = some (.int .i64 to_) ∧ Y.cell? ⟨p, 3, none⟩ = some (.int .i64 (x : Int)) ∧ Y.cell? ⟨p, 4, none⟩ = some (.slice A n c)) := fun Y hY => by
    have h1 := HK0.out.below hY HK0.out.lt
    exact ⟨cellOf h1 1 rfl, cellOf h1 2 rfl, cellOf h1 3 rfl, cellOf h1 4 rfl⟩
  obtain ⟨z1, z2, z3, z4⟩ := HCC.out W0 (Below.refl _ _)
  have HR7 := Lib.hid hr7
  clear hsp hn hx hr7 hl hr hfr hto hid e0 hp hs hdy
  by_cases h1 : d < fr
  · have g1 : decide (d < fr) = true := by simpa using h1
    have HX : Hid (r = false) := by show _ = _; rw [HE0.out, decide_eq_false (show ¬ fr ≤ d by omega)]; simp
    clear h1
    go_enter Try.func108, Try.ntmps108
    go_upto_region 1 with fail
    rw [E0.out, HP.out]
    clear E0
    go_wp2_with fail
    go_ret
    exact ⟨rb HX.out, HB0.out⟩
  have g1 : decide (d < fr) = false := by simpa using h1
  by_cases h2 : to_ < d
  · have g2 : decide (to_ < d) = true := by simpa using h2
    have HX : Hid (r = false) := by show _ = _; rw [HE0.out, decide_eq_false (show ¬ d ≤ to_ by omega)]; simp
    clear h1 h2
    go_enter Try.func108, Try.ntmps108
    go_upto_region 1 with fail
    rw [E0.out, HP.out]
    clear E0
    go_wp2_with fail
    go_ret
    exact ⟨rb HX.out, HB0.out⟩
  have g2 : decide (to_ < d) = false := by simpa using h2
  have HE1 : Hid (r = ((x / 2 ^ r7 % 2 == 1) && !inHol l d)) := by show _ = _; rw [HE0.out, decide_eq_true (show fr ≤ d by omega), decide_eq_true (show d ≤ to_ by omega)]; simp
  clear HE0 h1 h2
  go_enter Try.func108, Try.ntmps108
  go_upto_region 1 with fail
  rw [E0.out, HP.out]
  clear E0
  go_wp2_with fail
  go_loopw [5] (fun i wr => ∃ k : Nat, k ≤ n ∧ i = .int .i64 k ∧ Hid (∀ (j : Nat) (y : SpanD), j < k → l[j]? = some y → ¬ (y.lo ≤ d ∧ d ≤ y.hi)) ∧ Hid (Below W0.heap.size W0 wr)) (fun i _ => n - (intOf i).toNat)
  case atStart => exact ⟨0, Nat.zero_le _, rfl, fun j y hj => absurd hj (Nat.not_lt_zero _), Below.refl _ _⟩
  case round =>
  clear z1 z2 z3 z4 g1 g2
  obtain ⟨k, hk, rfl, hno, hB⟩ := hrel
  obtain ⟨X, rfl⟩ : ∃ X : World, X = wr := ⟨_, rfl⟩
  have HBX : Hid (Below w.heap.size w X) := HB0.out.trans (hB.out.mono HB0.out.size)
  obtain ⟨z1, z2, z3, z4⟩ := HCC.out X hB.out
  by_cases hlt : k < n
  · obtain ⟨y, hy⟩ : ∃ x, l[k]? = some x := ⟨_, List.getElem?_eq_getElem (by rw [HN.out]; exact hlt)⟩
    obtain ⟨g, o, rfl, HX⟩ := HD.out k y hy
    obtain ⟨lo, hlo⟩ : ∃ z, y.lo = z := ⟨_, rfl⟩
    obtain ⟨hi, hhi⟩ : ∃ z, y.hi = z := ⟨_, rfl⟩
    rw [hlo, hhi] at HX
    obtain ⟨c0, c1⟩ := HX.out X HBX.out
    have HYES : Hid (lo ≤ d → d ≤ hi → r = false) := fun h1 h2 => by rw [HE1.out, inHol_yes hy ⟨by omega, by omega⟩]; simp
    have HNO : Hid (¬ (lo ≤ d ∧ d ≤ hi) → ∀ (j : Nat) (y : SpanD), j < k + 1 → l[j]? = some y → ¬ (y.lo ≤ d ∧ d ≤ y.hi)) := fun h1 j y' hj hy' => by
      by_cases e : j = k
      · subst e
        rw [hy] at hy'
        cases hy'
        rw [hlo, hhi]
        exact h1
      · exact hno.out j y' (by omega) hy'
    have k0 : (0 : Int) ≤ (k : Int) := by omega
    have k1 : (k : Int) < (n : Int) := by omega
    clear hy hlo hhi HX hno
    by_cases h1 : lo ≤ d
    · have g1 : decide (lo ≤ d) = true := by simpa using h1
      by_cases h2 : d ≤ hi
      · have g2 : decide (d ≤ hi) = true := by simpa using h2
        have HX := Lib.hid (HYES.out h1 h2)
        clear h1 h2
        go_wp2_with fail
        go_ret
        exact ⟨rb HX.out, HBX.out⟩
      · have g2 : decide (d ≤ hi) = false := by simpa using h2
        have HN2 := Lib.hid (HNO.out (fun h => h2 h.2))
        clear h1 h2
        go_wp2_with fail
        go_roundw
        case rel => exact ⟨k + 1, by omega, by go_num, HN2, hB⟩
        case measure => simp [intOf]; omega
    · have g1 : decide (lo ≤ d) = false := by simpa using h1
      have HN2 := Lib.hid (HNO.out (fun h => h1 h.1))
      clear h1
      go_wp2_with fail
      go_roundw
      case rel => exact ⟨k + 1, by omega, by go_num, HN2, hB⟩
      case measure => simp [intOf]; omega
  obtain rfl : k = n := by omega
  have HE2 : Hid (r = (x / 2 ^ r7 % 2 == 1)) := by
    show _ = _
    rw [HE1.out, inHol_no (fun j y hy => hno.out j y (by have := (List.getElem?_eq_some_iff.1 hy).1; rw [HN.out] at this; exact this) hy)]
    simp
  have kr3 := HR7.out
  clear hno HE1
  go_wp2_with fail
  go_loopw [6, 7] (fun b i wr => ∃ j y : Nat, j ≤ r7 ∧ i = .int .i64 j ∧ b = .int .i64 y ∧ y ≤ 127 ∧ Hid (y = x / 2 ^ j) ∧ Hid (Below W0.heap.size W0 wr)) (fun _ i _ => r7 - (intOf i).toNat)
  case atStart => exact ⟨0, x, Nat.zero_le _, rfl, rfl, hx7, by show _ = _; simp, hB.out⟩
  case round =>
  clear hB HBX z1 z2 z3 z4
  obtain ⟨j, y, hj, rfl, rfl, hy7, hy, hB⟩ := hrel
  obtain ⟨V, rfl⟩ : ∃ X : World, X = wr := ⟨_, rfl⟩
  have HBV : Hid (Below w.heap.size w V) := HB0.out.trans (hB.out.mono HB0.out.size)
  by_cases hlt : j < r7
  · obtain ⟨y2, hy2⟩ : ∃ z, y / 2 = z := ⟨_, rfl⟩
    have hq3 : (y : Int) / 2 = (y2 : Int) := by omega
    have HY2 : Hid (y2 = x / 2 ^ (j + 1)) := by show _ = _; rw [← hy2, hy.out, half_pow]
    have hy27 : y2 ≤ 127 := by omega
    clear hy2 hy
    go_wp2_with fail
    go_roundw
    case rel => exact ⟨j + 1, y2, by omega, by go_num, rfl, hy27, HY2, hB⟩
    case measure => simp [intOf]; omega
  · obtain rfl : j = r7 := by omega
    obtain ⟨e, he⟩ : ∃ z, y % 2 = z := ⟨_, rfl⟩
    have hq3 : (y : Int) % 2 = (e : Int) := by omega
    have HX : Hid (r = ((e : Int) == 1)) := by
      show _ = _
      rw [HE2.out, ← hy.out, he]
      have h9 : e = 0 ∨ e = 1 := by omega
      rcases h9 with rfl | rfl <;> rfl
    clear he hy HE2
    go_wp2_with fail
    go_ret
    exact ⟨rb HX.out, HBV.out⟩
end Go.Proofs.Ytlmpbmlbllndcaa
