/-
  within, Day.isRight, costs.areRight, sold, isKnown, loss.
-/
import Derived.Test.YtlmpbmlbllndcaaMaf
namespace Go.Proofs.Ytlmpbmlbllndcaa
open Go.RowKit

/-- Whether a number is from a first to a last one. -/
def inB (n lo hi : Int) : Bool := decide (lo ≤ n ∧ n ≤ hi)
theorem inB_iff {n lo hi : Int} : inB n lo hi = true ↔ lo ≤ n ∧ n ≤ hi := by unfold inB; rw [decide_eq_true_eq]
theorem inB_not {n lo hi : Int} (h : inB n lo hi = false) : ¬ (lo ≤ n ∧ n ≤ hi) := by unfold inB at h; simpa using h
theorem within_any (n lo hi : Int) (w : World) : Calls Try.prog 74 #[.int .i64 n, .int .i64 lo, .int .i64 hi] w fun e w' => e = .returned (.bool (inB n lo hi)) ∧ w = w' := by
  have h0 : inB n lo hi = decide (lo ≤ n ∧ n ≤ hi) := rfl
  obtain ⟨b, hb⟩ : ∃ b, inB n lo hi = b := ⟨_, rfl⟩
  rw [hb] at h0 ⊢
  by_cases h1 : lo ≤ n
  · by_cases h2 : n ≤ hi
    · have : b = true := by rw [h0]; simpa using ⟨h1, h2⟩
      subst this
      clear hb h0
      go_enter Try.func74, Try.ntmps74
      go_wp2
      go_ret
      exact ⟨rfl, rfl⟩
    · have : b = false := by rw [h0]; simp; omega
      subst this
      clear hb h0
      go_enter Try.func74, Try.ntmps74
      go_wp2
      go_ret
      exact ⟨rfl, rfl⟩
  · have : b = false := by rw [h0]; simp; omega
    subst this
    clear hb h0
    go_enter Try.func74, Try.ntmps74
    go_wp2
    go_ret
    exact ⟨rfl, rfl⟩
def DayD.val (d : DayD) : Value := .agg #[.int .i64 d.sup, .int .i64 d.ret]
def DayD.cells (d : DayD) : List Value := [.int .i64 d.sup, .int .i64 d.ret]
/-- Whether a day is allowed. -/
def DayD.okB (d : DayD) : Bool := inB d.sup 0 10000 && inB d.ret 0 d.sup
theorem DayD.okB_iff {d : DayD} : d.okB = true ↔ d.ok := by
  unfold DayD.okB DayD.ok
  rw [Bool.and_eq_true, inB_iff, inB_iff]
  omega
set_option maxHeartbeats 1000000 in
theorem dayRight_any (d : DayD) (w : World) : Calls Try.prog 96 #[.agg #[.int .i64 d.sup, .int .i64 d.ret]] w fun e w' => e = .returned (.bool d.okB) ∧ Below w.heap.size w w' := by
  obtain ⟨b1, h1⟩ : ∃ b, inB d.sup 0 10000 = b := ⟨_, rfl⟩
  obtain ⟨b2, h2⟩ : ∃ b, inB d.ret 0 d.sup = b := ⟨_, rfl⟩
  have HE : Hid (d.okB = (b1 && b2)) := by show _ = _; rw [← h1, ← h2]; rfl
  have C1 := Lib.hid (fun w => within_any d.sup 0 10000 w)
  have C2 := Lib.hid (fun w => within_any d.ret 0 d.sup w)
  rw [h1] at C1
  rw [h2] at C2
  clear h1 h2
  cases b1
  · go_enter Try.func96, Try.ntmps96
    go_wp2_with (go_at_call 74; with_reducible refine (C1.out _).mono ?_; rintro e w' ⟨rfl, rfl⟩)
    go_ret
    exact ⟨by rw [HE.out]; rfl, below_alloc _ _⟩
  · cases b2
    · go_enter Try.func96, Try.ntmps96
      go_wp2_with (first | (go_at_call 74; with_reducible refine (C1.out _).mono ?_; rintro e w' ⟨rfl, rfl⟩) | (go_at_call 74; with_reducible refine (C2.out _).mono ?_; rintro e w' ⟨rfl, rfl⟩))
      go_ret
      exact ⟨by rw [HE.out]; rfl, below_alloc _ _⟩
    · go_enter Try.func96, Try.ntmps96
      go_wp2_with (first | (go_at_call 74; with_reducible refine (C1.out _).mono ?_; rintro e w' ⟨rfl, rfl⟩) | (go_at_call 74; with_reducible refine (C2.out _).mono ?_; rintro e w' ⟨rfl, rfl⟩))
      go_ret
      exact ⟨by rw [HE.out]; rfl, below_alloc _ _⟩
/-- Whether costs are allowed. -/
def costB (a b : Int) : Bool := (inB a 0 1000 && inB b 0 1000) && !decide (a = 0 ∧ b = 0)
theorem costB_iff {a b : Int} : costB a b = true ↔ (0 ≤ a ∧ a ≤ 1000) ∧ (0 ≤ b ∧ b ≤ 1000) ∧ ¬ (a = 0 ∧ b = 0) := by
  unfold costB
  rw [Bool.and_eq_true, Bool.and_eq_true, inB_iff, inB_iff, Bool.not_eq_true', decide_eq_false_iff_not, and_assoc]
theorem fieldsCo : Try.prog.underlying 148 = some (.struct (Try.prog.fieldsOf 148)) := by kernel_rfl
theorem heldCo : Try.prog.stoodInHeld 148 = false := by kernel_rfl
theorem flCo : (Try.prog.fieldsOf 148).toList.map (fun f => (f.name != "_", f.type, f.offset)) = [(true, 3, 0), (true, 3, 1)] := by kernel_rfl
theorem eqCo (w : World) (a b : Int) (c : Bool) (hc : decide (a = 0 ∧ b = 0) = c) : (Op.equalIn 10000 148 (.agg #[.int .i64 a, .int .i64 b]) (.agg #[.int .i64 0, .int .i64 0])).run Try.prog w = .ok c w := by
  rw [run_equalIn_agg w 9999 _ _ _ fieldsCo heldCo]
  have hl := flCo
  generalize (Try.prog.fieldsOf 148).toList = fs at hl ⊢
  obtain ⟨f0, r0, rfl, h0, hl⟩ := List.map_eq_cons_iff.1 hl
  obtain ⟨f1, r1, rfl, h1, hl⟩ := List.map_eq_cons_iff.1 hl
  obtain rfl := List.map_eq_nil_iff.1 hl
  simp only [Prod.mk.injEq, bne_iff_ne, ne_eq] at h0 h1
  obtain ⟨n0, t0, o0⟩ := h0
  obtain ⟨n1, t1, o1⟩ := h1
  clear hl
  subst hc
  by_cases ha : a = 0
  · by_cases hb : b = 0
    · simp [Op.eqFields, n0, n1, t0, t1, o0, o1, go_sem, ha, hb]
    · simp [Op.eqFields, n0, n1, t0, t1, o0, o1, go_sem, ha, hb]
  · simp [Op.eqFields, n0, n1, t0, t1, o0, o1, go_sem, ha]
set_option maxHeartbeats 1000000 in
theorem areRight_any (a b : Int) (w : World) : Calls Try.prog 72 #[.agg #[.int .i64 a, .int .i64 b]] w fun e w' => e = .returned (.bool (costB a b)) ∧ Below w.heap.size w w' := by
  obtain ⟨b1, h1⟩ : ∃ c, inB a 0 1000 = c := ⟨_, rfl⟩
  obtain ⟨b2, h2⟩ : ∃ c, inB b 0 1000 = c := ⟨_, rfl⟩
  obtain ⟨b3, h3⟩ : ∃ c, decide (a = 0 ∧ b = 0) = c := ⟨_, rfl⟩
  have HE : Hid (costB a b = ((b1 && b2) && !b3)) := by show _ = _; rw [← h1, ← h2, ← h3]; rfl
  have C1 := Lib.hid (fun w => within_any a 0 1000 w)
  have C2 := Lib.hid (fun w => within_any b 0 1000 w)
  have he := fun w => eqCo w a b b3 h3
  rw [h1] at C1
  rw [h2] at C2
  clear h1 h2 h3
  cases b1
  · go_enter Try.func72, Try.ntmps72
    go_wp2_with (go_at_call 74; with_reducible refine (C1.out _).mono ?_; rintro e w' ⟨rfl, rfl⟩)
    go_ret
    exact ⟨by rw [HE.out]; rfl, below_alloc _ _⟩
  · cases b2
    · go_enter Try.func72, Try.ntmps72
      go_wp2_with (first | (go_at_call 74; with_reducible refine (C1.out _).mono ?_; rintro e w' ⟨rfl, rfl⟩) | (go_at_call 74; with_reducible refine (C2.out _).mono ?_; rintro e w' ⟨rfl, rfl⟩))
      go_ret
      exact ⟨by rw [HE.out]; rfl, below_alloc _ _⟩
    · cases b3
      · go_enter Try.func72, Try.ntmps72
        go_wp2_with (first | (go_at_call 74; with_reducible refine (C1.out _).mono ?_; rintro e w' ⟨rfl, rfl⟩) | (go_at_call 74; with_reducible refine (C2.out _).mono ?_; rintro e w' ⟨rfl, rfl⟩))
        go_ret
        exact ⟨by rw [HE.out]; rfl, below_alloc _ _⟩
      · go_enter Try.func72, Try.ntmps72
        go_wp2_with (first | (go_at_call 74; with_reducible refine (C1.out _).mono ?_; rintro e w' ⟨rfl, rfl⟩) | (go_at_call 74; with_reducible refine (C2.out _).mono ?_; rintro e w' ⟨rfl, rfl⟩))
        go_ret
        exact ⟨by rw [HE.out]; rfl, below_alloc _ _⟩
theorem sold_any (d : DayD) (hd : d.ok) (w : World) : Calls Try.prog 115 #[.agg #[.int .i64 d.sup, .int .i64 d.ret]] w fun e w' => e = .returned (.int .i64 d.sold) ∧ Below w.heap.size w w' := by
  obtain ⟨h1, h2, h3, h4⟩ := hd
  go_enter Try.func115, Try.ntmps115
  go_wp2
  go_ret
  exact ⟨rfl, below_alloc _ _⟩
theorem known_any (d : DayD) (w : World) : Calls Try.prog 143 #[.agg #[.int .i64 d.sup, .int .i64 d.ret]] w fun e w' => e = .returned (.bool (decide (0 < d.ret))) ∧ Below w.heap.size w w' := by
  go_enter Try.func143, Try.ntmps143
  go_wp2
  go_ret
  exact ⟨rfl, below_alloc _ _⟩
set_option maxHeartbeats 2000000 in
theorem loss_any (a b : Int) (hc : (0 ≤ a ∧ a ≤ 1000) ∧ (0 ≤ b ∧ b ≤ 1000)) (d : DayD) (hd : d.ok) (q : Int) (hq : 0 ≤ q ∧ q ≤ 10000) (w : World) : Calls Try.prog 118 #[.agg #[.int .i64 a, .int .i64 b], .agg #[.int .i64 d.sup, .int .i64 d.ret], .int .i64 q] w fun e w' => e = .returned (.int .i64 (lossD a b d q)) ∧ Below w.heap.size w w' := by
  obtain ⟨⟨a1, a2⟩, b1, b2⟩ := hc
  obtain ⟨q1, q2⟩ := hq
  have hb := loss_bd a1 a2 b1 b2 hd q1 q2
  have HSO := Lib.hid (fun w => sold_any d hd w)
  have HKN := Lib.hid (fun w => known_any d w)
  obtain ⟨d1, d2, d3, d4⟩ := hd
  obtain ⟨s, hs⟩ : ∃ s, d.sold = s := ⟨_, rfl⟩
  have hs1 : 0 ≤ s := by rw [← hs]; unfold DayD.sold; omega
  have hs2 : s ≤ 10000 := by rw [← hs]; unfold DayD.sold; omega
  obtain ⟨L, hL⟩ : ∃ L, lossD a b d q = L := ⟨_, rfl⟩
  have HL : Hid (L = if q - s < 0 then b * (s - q) else if 0 < d.ret then a * (q - s) else 0) := by show _ = _; rw [← hL, ← hs]; rfl
  rw [hs] at HSO
  rw [hL] at hb ⊢
  obtain ⟨hb1, hb2⟩ := hb
  have HB : Hid (Below w.heap.size w ((w.alloc (.cells #[.int .i64 a, .int .i64 b] 148)).alloc (.cells #[.int .i64 d.sup, .int .i64 d.ret] 24))) := sbelow_al (below_alloc _ _) _
  have F0 : ∃ W0, (w.alloc (.cells #[.int .i64 a, .int .i64 b] 148)).alloc (.cells #[.int .i64 d.sup, .int .i64 d.ret] 24) = W0 ∧ Hid (Below w.heap.size w W0) ∧ Hid (Blk W0 w.heap.size 148 #[.int .i64 a, .int .i64 b] ∧ Blk W0 (w.heap.size + 1) 24 #[.int .i64 d.sup, .int .i64 d.ret]) :=
    ⟨_, rfl, HB.out, (Blk.new _ _ _).alloc _, blk_new (by simp) _ _⟩
  obtain ⟨W0, e0, HB0, HK0⟩ := F0
  have E0 := Lib.hid e0
  have c0 := cellOf HK0.out.1 0 (x := .int .i64 a) rfl
  have c1 := cellOf HK0.out.1 1 (x := .int .i64 b) rfl
  have f0 := cellOf HK0.out.2 0 (x := .int .i64 d.sup) rfl
  have f1 := cellOf HK0.out.2 1 (x := .int .i64 d.ret) rfl
  clear e0 hs hL HB
  by_cases hlt : q - s < 0
  · have HLE : Hid (b * -(q - s) = L) := by show _ = _; rw [HL.out, if_pos hlt, show -(q - s) = s - q by omega]
    have e1 : b * -(q - s) ≤ 10000000 := by rw [HLE.out]; exact hb2
    have e2 : 0 ≤ b * -(q - s) := by rw [HLE.out]; exact hb1
    go_enter Try.func118, Try.ntmps118
    go_upto_region 1 with fail
    rw [E0.out]
    go_wp2_with fail
    refine (HSO.out _).mono ?_
    rintro _ W1 ⟨rfl, hb1⟩
    have g1 := cellOf (HK0.out.1.below hb1 HK0.out.1.lt) 1 (x := .int .i64 b) rfl
    have HB1 : Hid (Below w.heap.size w W1) := HB0.out.trans (hb1.mono HB0.out.size)
    clear hb1 c0 c1 f0 f1
    go_wp2_with fail
    go_ret
    exact ⟨ri HLE.out.symm, HB1.out⟩
  · by_cases hk : 0 < d.ret
    · have HLE : Hid (a * (q - s) = L) := by show _ = _; rw [HL.out, if_neg hlt, if_pos hk]
      have e1 : a * (q - s) ≤ 10000000 := by rw [HLE.out]; exact hb2
      have e2 : 0 ≤ a * (q - s) := by rw [HLE.out]; exact hb1
      have hkb : decide (0 < d.ret) = true := decide_eq_true hk
      rw [hkb] at HKN
      clear hkb
      go_enter Try.func118, Try.ntmps118
      go_upto_region 1 with fail
      rw [E0.out]
      go_wp2_with fail
      refine (HSO.out _).mono ?_
      rintro _ W1 ⟨rfl, hb1⟩
      have k1 := Lib.hid (HK0.out.1.below hb1 HK0.out.1.lt)
      have k2 := Lib.hid (HK0.out.2.below hb1 HK0.out.2.lt)
      have f0' := cellOf k2.out 0 (x := .int .i64 d.sup) rfl
      have f1' := cellOf k2.out 1 (x := .int .i64 d.ret) rfl
      have HB1 : Hid (Below w.heap.size w W1) := HB0.out.trans (hb1.mono HB0.out.size)
      clear hb1 c0 c1 f0 f1
      go_wp2_with fail
      refine (HKN.out _).mono ?_
      rintro _ W2 ⟨rfl, hb2⟩
      have g0 := cellOf (k1.out.below hb2 k1.out.lt) 0 (x := .int .i64 a) rfl
      have HB2 : Hid (Below w.heap.size w W2) := HB1.out.trans (hb2.mono HB1.out.size)
      clear hb2 f0' f1'
      go_wp2_with fail
      go_ret
      exact ⟨ri HLE.out.symm, HB2.out⟩
    · have HLE : Hid (0 = L) := by show _ = _; rw [HL.out, if_neg hlt, if_neg hk]
      have hkb : decide (0 < d.ret) = false := decide_eq_false hk
      rw [hkb] at HKN
      clear hkb
      go_enter Try.func118, Try.ntmps118
      go_upto_region 1 with fail
      rw [E0.out]
      go_wp2_with fail
      refine (HSO.out _).mono ?_
      rintro _ W1 ⟨rfl, hb1⟩
      have k2 := Lib.hid (HK0.out.2.below hb1 HK0.out.2.lt)
      have f0' := cellOf k2.out 0 (x := .int .i64 d.sup) rfl
      have f1' := cellOf k2.out 1 (x := .int .i64 d.ret) rfl
      have HB1 : Hid (Below w.heap.size w W1) := HB0.out.trans (hb1.mono HB0.out.size)
      clear hb1 c0 c1 f0 f1
      go_wp2_with fail
      refine (HKN.out _).mono ?_
      rintro _ W2 ⟨rfl, hb2⟩
      have HB2 : Hid (Below w.heap.size w W2) := HB1.out.trans (hb2.mono HB1.out.size)
      clear hb2 f0' f1'
      go_wp2_with fail
      go_ret
      exact ⟨ri HLE.out.symm, HB2.out⟩
end Go.Proofs.Ytlmpbmlbllndcaa
