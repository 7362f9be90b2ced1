/-
  The reference's Gets and Copies.
-/
import Derived.Test.YtlmpbmlbllndcaaMbh
import Derived.Test.YtlmpbmlbllndcaaMbi
namespace Go.Proofs.Ytlmpbmlbllndcaa
open Go.RowKit
attribute [local go_sem] Oper.semAt_some

/-- A subscriber boxed: what lies there. -/
structure BoxS (w : World) (W0 : World) (p : Nat) (s : SubD) (A : Option Addr) (n c : Nat) : Prop where
  low : Below w.heap.size w W0
  cells : ∀ Y, Below W0.heap.size W0 Y → Y.cell? ⟨p, 0, none⟩ = some (.int .i64 s.id) ∧ Y.cell? ⟨p, 1, none⟩ = some (.int .i64 s.from_) ∧ Y.cell? ⟨p, 2, none⟩ = some (.int .i64 s.to_) ∧ Y.cell? ⟨p, 3, none⟩ = some (.int .i64 s.days) ∧ Y.cell? ⟨p, 4, none⟩ = some (.slice A n c)
  sub : ∀ Y, Below W0.heap.size W0 Y → RSub Y.heap.size Y (.agg #[.int .i64 s.id, .int .i64 s.from_, .int .i64 s.to_, .int .i64 s.days, .slice A n c]) s
theorem box_sub {w : World} {v : Value} {s : SubD} (h : RSub w.heap.size w v s) : ∃ (A : Option Addr) (n c : Nat), v = .agg #[.int .i64 s.id, .int .i64 s.from_, .int .i64 s.to_, .int .i64 s.days, .slice A n c] ∧ ∃ W0, w.alloc (.cells #[.int .i64 s.id, .int .i64 s.from_, .int .i64 s.to_, .int .i64 s.days, .slice A n c] 126) = W0 ∧ BoxS w W0 w.heap.size s A n c := by
  have HS := h
  obtain ⟨u, rfl, hsp⟩ := h
  obtain ⟨A, c, rfl, -, -⟩ := spans_later hsp
  refine ⟨A, _, c, rfl, _, rfl, below_alloc _ _, fun Y hY => ?_, fun Y hY => ?_⟩
  · have h1 := (Blk.new w 126 #[.int .i64 s.id, .int .i64 s.from_, .int .i64 s.to_, .int .i64 s.days, .slice A s.hol.length c]).below hY (Blk.new w _ _).lt
    exact ⟨cellOf h1 0 rfl, cellOf h1 1 rfl, cellOf h1 2 rfl, cellOf h1 3 rfl, cellOf h1 4 rfl⟩
  · have h1 := (below_alloc w (.cells #[.int .i64 s.id, .int .i64 s.from_, .int .i64 s.to_, .int .i64 s.days, .slice A s.hol.length c] 126)).trans (hY.mono (below_alloc _ _).size)
    exact (HS.below h1).more h1.size
set_option maxRecDepth 100000 in
set_option maxHeartbeats 4000000 in
theorem refCopiesC_any (s : SubD) (hs : s.Ok) (a b : Int) (hab : dayB a b = true) (v : Value) (w : World) (h : RSub w.heap.size w v s) :
    Calls Try.prog 109 #[v, .int .i64 a, .int .i64 b] w fun e w' => e = .returned (.int .i64 (s.copies a b)) ∧ Below w.heap.size w w' := by
  obtain ⟨a0, ab, b1⟩ := dayB_iff.1 hab
  obtain ⟨A, n, c, rfl, W0, e0, hbx⟩ := box_sub h
  have E0 := Lib.hid e0
  have HBX := Lib.hid hbx
  obtain ⟨p, hp⟩ : ∃ p, w.heap.size = p := ⟨_, rfl⟩
  have HP := Lib.hid hp
  rw [hp] at HBX
  have HCO : Hid (s.copies a b = cntN s.gets a (b + 1 - a).toNat) := copies_cnt hs a0
  obtain ⟨R, hR⟩ : ∃ r, s.copies a b = r := ⟨_, rfl⟩
  rw [hR] at HCO ⊢
  have CG : Hid (∀ (t : Int) (Y : World), 0 ≤ t ∧ t ≤ 20000 → Below W0.heap.size W0 Y → Calls Try.prog 108 #[.agg #[.int .i64 s.id, .int .i64 s.from_, .int .i64 s.to_, .int .i64 s.days, .slice A n c], .int .i64 t] Y fun e w' => e = .returned (.bool (s.gets t)) ∧ Below Y.heap.size Y w') := fun t Y ht hY => refGetsC_any s hs t ht _ Y (HBX.out.sub Y hY)
  clear h e0 hbx hp hR hs hab
  go_enter Try.func109, Try.ntmps109
  go_upto_region 1 with fail
  rw [E0.out, HP.out]
  clear E0
  go_wp2_with fail
  go_loopw [7, 8] (fun q i wr => ∃ (k : Nat) (t y : Int), i = .int .i64 t ∧ q = .int .i64 y ∧ Hid (t = a + k ∧ y = cntN s.gets a k) ∧ a ≤ t ∧ t ≤ b + 1 ∧ 0 ≤ y ∧ y ≤ t - a ∧ Hid (Below W0.heap.size W0 wr)) (fun _ i _ => (b + 1 - intOf i).toNat)
  case atStart => exact ⟨0, a, 0, rfl, rfl, ⟨by simp, rfl⟩, by omega, by omega, by omega, by omega, Below.refl _ _⟩
  case round =>
  obtain ⟨k, t, y, rfl, rfl, hty, t0, t1, y0, y1, hB⟩ := hrel
  obtain ⟨X, rfl⟩ : ∃ X : World, X = wr := ⟨_, rfl⟩
  by_cases hlt : t ≤ b
  · have CG1 := Lib.hid (CG.out t X ⟨by omega, by omega⟩ hB.out)
    obtain ⟨g, hg⟩ : ∃ z, s.gets t = z := ⟨_, rfl⟩
    rw [hg] at CG1
    have HNX : Hid (t + 1 = a + ((k + 1 : Nat) : Int) ∧ cntN s.gets a (k + 1) = y + if g then 1 else 0) := by
      obtain ⟨e1, e2⟩ := hty.out
      refine ⟨by push_cast; omega, ?_⟩
      show cntN s.gets a k + (if s.gets (a + (k : Int)) then 1 else 0) = _
      rw [← e1, hg, e2]
    obtain ⟨z0, z1, z2, z3, z4⟩ := HBX.out.cells X hB.out
    clear hg hty
    go_wp2_with fail
    refine CG1.out.mono ?_
    rintro _ X2 ⟨rfl, hb2⟩
    have HB2 : Hid (Below W0.heap.size W0 X2) := hB.out.trans (hb2.mono hB.out.size)
    clear CG1 hb2 z0 z1 z2 z3 z4 hB
    cases g with
    | false =>
      have HN2 : Hid (t + 1 = a + ((k + 1 : Nat) : Int) ∧ y = cntN s.gets a (k + 1)) := ⟨HNX.out.1, by rw [HNX.out.2]; simp⟩
      clear HNX
      go_wp2_with fail
      go_roundw
      case rel => exact ⟨k + 1, t + 1, y, rfl, rfl, HN2, by omega, by omega, by omega, by omega, HB2⟩
      case measure => simp [intOf]; omega
    | true =>
      have HN2 : Hid (t + 1 = a + ((k + 1 : Nat) : Int) ∧ y + 1 = cntN s.gets a (k + 1)) := ⟨HNX.out.1, by rw [HNX.out.2]; simp⟩
      clear HNX
      go_wp2_with fail
      go_roundw
      case rel => exact ⟨k + 1, t + 1, y + 1, rfl, rfl, HN2, by omega, by omega, by omega, by omega, HB2⟩
      case measure => simp [intOf]; omega
  · have HX : Hid (R = y) := by
      obtain ⟨e1, e2⟩ := hty.out
      show _ = _
      rw [HCO.out, e2, show (b + 1 - a).toNat = k by omega]
    have HBW : Hid (Below w.heap.size w X) := HBX.out.low.trans (hB.out.mono HBX.out.low.size)
    clear hty
    go_wp2_with fail
    go_ret
    exact ⟨ri HX.out, HBW.out⟩
theorem copE_zero {s : SubD} {a b : Int} (h1 : subB s = true) (h2 : dayB a b = true) : copE s a b = 0 ∧ copV s a b = s.copies a b := by
  have h : copE s a b = 0 := by unfold copE; rw [h1, h2]; rfl
  exact ⟨h, by unfold copV; rw [if_pos h]⟩
theorem copE_sub {s : SubD} {a b : Int} (h1 : subB s = false) : copE s a b = 120 ∧ copV s a b = 0 := by
  have h : copE s a b = 120 := by unfold copE; rw [h1]; rfl
  exact ⟨h, by unfold copV; rw [h]; rfl⟩
theorem copE_day {s : SubD} {a b : Int} (h1 : subB s = true) (h2 : dayB a b = false) : copE s a b = 6 ∧ copV s a b = 0 := by
  have h : copE s a b = 6 := by unfold copE; rw [h1, h2]; rfl
  exact ⟨h, by unfold copV; rw [h]; rfl⟩
theorem ret_ii {a b c d : Int} (h1 : a = c) (h2 : b = d) : Ending.returned (.tuple #[.int .i64 a, .int .i64 b]) = .returned (.tuple #[.int .i64 c, .int .i64 d]) := by rw [h1, h2]
theorem ret_bi' {a c : Bool} {b d : Int} (h1 : a = c) (h2 : b = d) : Ending.returned (.tuple #[.bool a, .int .i64 b]) = .returned (.tuple #[.bool c, .int .i64 d]) := by rw [h1, h2]
set_option maxRecDepth 100000 in
set_option maxHeartbeats 4000000 in
theorem refCopies_any (s : SubD) (a b : Int) (v : Value) (w : World) (h : RSub w.heap.size w v s) :
    Calls Try.prog 62 #[v, .int .i64 a, .int .i64 b] w fun e w' => e = .returned (.tuple #[.int .i64 (copV s a b), .int .i64 (copE s a b)]) ∧ Below w.heap.size w w' := by
  obtain ⟨A, n, c, rfl, W0, e0, hbx⟩ := box_sub h
  have E0 := Lib.hid e0
  have HBX := Lib.hid hbx
  obtain ⟨p, hp⟩ : ∃ p, w.heap.size = p := ⟨_, rfl⟩
  have HP := Lib.hid hp
  rw [hp] at HBX
  have C1 := Lib.hid (refFine_any s _ W0 (hbx.sub W0 (Below.refl _ _)))
  obtain ⟨sb, hsb⟩ : ∃ z, subB s = z := ⟨_, rfl⟩
  rw [hsb] at C1
  obtain ⟨b1, hb1⟩ : ∃ z, inB a 0 20000 = z := ⟨_, rfl⟩
  obtain ⟨b2, hb2⟩ : ∃ z, inB b 0 20000 = z := ⟨_, rfl⟩
  have C2 : Hid (∀ Y, Calls Try.prog 98 #[.int .i64 a, .int .i64 0, .int .i64 20000] Y fun e w' => e = .returned (.bool b1) ∧ Y = w') := fun Y => by rw [← hb1]; exact refIn_any a 0 20000 Y
  have C3 : Hid (∀ Y, Calls Try.prog 98 #[.int .i64 b, .int .i64 0, .int .i64 20000] Y fun e w' => e = .returned (.bool b2) ∧ Y = w') := fun Y => by rw [← hb2]; exact refIn_any b 0 20000 Y
  have HDB : Hid (dayB a b = ((b1 && b2) && decide (a ≤ b))) := by show _ = _; rw [dayB_as, hb1, hb2]
  have HSB := Lib.hid hsb
  have C4 : Hid (sb = true → dayB a b = true → ∀ Y, Below W0.heap.size W0 Y → Calls Try.prog 109 #[.agg #[.int .i64 s.id, .int .i64 s.from_, .int .i64 s.to_, .int .i64 s.days, .slice A n c], .int .i64 a, .int .i64 b] Y fun e w' => e = .returned (.int .i64 (s.copies a b)) ∧ Below Y.heap.size Y w') := fun h1 h2 Y hY => refCopiesC_any s (subB_ok (hsb.trans h1)) a b h2 _ Y (hbx.sub Y hY)
  obtain ⟨z0, z1, z2, z3, z4⟩ := hbx.cells W0 (Below.refl _ _)
  rw [hp] at z0 z1 z2 z3 z4
  clear h e0 hbx hp hsb hb1 hb2
  go_enter Try.func62, Try.ntmps62
  go_upto_region 1 with fail
  rw [E0.out, HP.out]
  clear E0
  go_wp2_with fail
  refine C1.out.mono ?_
  rintro _ Y1 ⟨rfl, hy1⟩
  have HB1 := Lib.hid hy1
  have HBW : Hid (Below w.heap.size w Y1) := HBX.out.low.trans (hy1.mono HBX.out.low.size)
  clear C1 hy1 z0 z1 z2 z3 z4
  cases sb with
  | false =>
    have HX := Lib.hid (copE_sub (a := a) (b := b) HSB.out)
    go_wp2_with fail
    go_ret2
    exact ⟨ret_ii HX.out.2.symm HX.out.1.symm, HBW.out⟩
  | true =>
  go_wp2_with fail
  refine (C2.out _).mono ?_
  rintro _ _ ⟨rfl, rfl⟩
  cases b1 with
  | false =>
    have HX := Lib.hid (copE_day (a := a) (b := b) HSB.out (by rw [HDB.out]; simp))
    go_wp2_with fail
    go_ret2
    exact ⟨ret_ii HX.out.2.symm HX.out.1.symm, HBW.out⟩
  | true =>
  go_wp2_with fail
  refine (C3.out _).mono ?_
  rintro _ _ ⟨rfl, rfl⟩
  cases b2 with
  | false =>
    have HX := Lib.hid (copE_day (a := a) (b := b) HSB.out (by rw [HDB.out]; simp))
    go_wp2_with fail
    go_ret2
    exact ⟨ret_ii HX.out.2.symm HX.out.1.symm, HBW.out⟩
  | true =>
  by_cases h4 : b < a
  · have g4 : decide (b < a) = true := by simpa using h4
    have HX := Lib.hid (copE_day (a := a) (b := b) HSB.out (by rw [HDB.out, decide_eq_false (show ¬ a ≤ b by omega)]; rfl))
    clear h4
    go_wp2_with fail
    go_ret2
    exact ⟨ret_ii HX.out.2.symm HX.out.1.symm, HBW.out⟩
  have g4 : decide (b < a) = false := by simpa using h4
  have hdb : dayB a b = true := by rw [HDB.out, decide_eq_true (show a ≤ b by omega)]; rfl
  have HX := Lib.hid (copE_zero (a := a) (b := b) HSB.out hdb)
  have C5 := Lib.hid (C4.out (by first | rfl | trivial) hdb Y1 HB1.out)
  obtain ⟨z0, z1, z2, z3, z4⟩ := HBX.out.cells Y1 HB1.out
  clear h4 hdb C4
  go_wp2_with fail
  refine C5.out.mono ?_
  rintro _ Y2 ⟨rfl, hy2⟩
  have HBW2 : Hid (Below w.heap.size w Y2) := HBW.out.trans (hy2.mono HBW.out.size)
  clear C5 hy2
  go_wp2_with fail
  go_ret2
  exact ⟨ret_ii HX.out.2.symm HX.out.1.symm, HBW2.out⟩
set_option maxRecDepth 100000 in
set_option maxHeartbeats 4000000 in
theorem refGets_any (s : SubD) (d : Int) (v : Value) (w : World) (h : RSub w.heap.size w v s) :
    Calls Try.prog 61 #[v, .int .i64 d] w fun e w' => e = .returned (.tuple #[.bool (decide (0 < copV s d d)), .int .i64 (copE s d d)]) ∧ Below w.heap.size w w' := by
  obtain ⟨A, n, c, rfl, W0, e0, hbx⟩ := box_sub h
  have E0 := Lib.hid e0
  have HBX := Lib.hid hbx
  obtain ⟨p, hp⟩ : ∃ p, w.heap.size = p := ⟨_, rfl⟩
  have HP := Lib.hid hp
  rw [hp] at HBX
  have C1 := Lib.hid (refFine_any s _ W0 (hbx.sub W0 (Below.refl _ _)))
  obtain ⟨sb, hsb⟩ : ∃ z, subB s = z := ⟨_, rfl⟩
  rw [hsb] at C1
  obtain ⟨b1, hb1⟩ : ∃ z, inB d 0 20000 = z := ⟨_, rfl⟩
  have C2 : Hid (∀ Y, Calls Try.prog 98 #[.int .i64 d, .int .i64 0, .int .i64 20000] Y fun e w' => e = .returned (.bool b1) ∧ Y = w') := fun Y => by rw [← hb1]; exact refIn_any d 0 20000 Y
  have HDB : Hid (dayB d d = b1) := by show _ = _; rw [dayB_as, hb1]; simp
  have HSB := Lib.hid hsb
  have C4 : Hid (sb = true → b1 = true → ∀ Y, Below W0.heap.size W0 Y → Calls Try.prog 108 #[.agg #[.int .i64 s.id, .int .i64 s.from_, .int .i64 s.to_, .int .i64 s.days, .slice A n c], .int .i64 d] Y fun e w' => e = .returned (.bool (s.gets d)) ∧ Below Y.heap.size Y w') := fun h1 h2 Y hY => refGetsC_any s (subB_ok (hsb.trans h1)) d (inB_iff.1 (hb1.trans h2)) _ Y (hbx.sub Y hY)
  have HOK : Hid (sb = true → b1 = true → decide (0 < copV s d d) = s.gets d) := fun h1 h2 => by
    rw [(copE_zero (hsb.trans h1) (HDB.out.trans h2)).2]
    exact getB_gets (subB_ok (hsb.trans h1)) (inB_iff.1 (hb1.trans h2)).1
  obtain ⟨z0, z1, z2, z3, z4⟩ := hbx.cells W0 (Below.refl _ _)
  rw [hp] at z0 z1 z2 z3 z4
  clear h e0 hbx hp hsb hb1
  go_enter Try.func61, Try.ntmps61
  go_upto_region 1 with fail
  rw [E0.out, HP.out]
  clear E0
  go_wp2_with fail
  refine C1.out.mono ?_
  rintro _ Y1 ⟨rfl, hy1⟩
  have HB1 := Lib.hid hy1
  have HBW : Hid (Below w.heap.size w Y1) := HBX.out.low.trans (hy1.mono HBX.out.low.size)
  clear C1 hy1 z0 z1 z2 z3 z4
  cases sb with
  | false =>
    have HX := Lib.hid (copE_sub (a := d) (b := d) HSB.out)
    go_wp2_with fail
    go_ret2
    exact ⟨ret_bi' (by rw [HX.out.2]; rfl) HX.out.1.symm, HBW.out⟩
  | true =>
  go_wp2_with fail
  refine (C2.out _).mono ?_
  rintro _ _ ⟨rfl, rfl⟩
  cases b1 with
  | false =>
    have HX := Lib.hid (copE_day (a := d) (b := d) HSB.out HDB.out)
    go_wp2_with fail
    go_ret2
    exact ⟨ret_bi' (by rw [HX.out.2]; rfl) HX.out.1.symm, HBW.out⟩
  | true =>
  have HX := Lib.hid (copE_zero (a := d) (b := d) HSB.out HDB.out)
  have HG := Lib.hid (HOK.out (by first | rfl | trivial) (by first | rfl | trivial))
  have C5 := Lib.hid (C4.out (by first | rfl | trivial) (by first | rfl | trivial) Y1 HB1.out)
  obtain ⟨z0, z1, z2, z3, z4⟩ := HBX.out.cells Y1 HB1.out
  clear C4 HOK
  go_wp2_with fail
  refine C5.out.mono ?_
  rintro _ Y2 ⟨rfl, hy2⟩
  have HBW2 : Hid (Below w.heap.size w Y2) := HBW.out.trans (hy2.mono HBW.out.size)
  clear C5 hy2
  go_wp2_with fail
  go_ret2
  exact ⟨ret_bi' HG.out.symm HX.out.1.symm, HBW2.out⟩
end Go.Proofs.Ytlmpbmlbllndcaa
