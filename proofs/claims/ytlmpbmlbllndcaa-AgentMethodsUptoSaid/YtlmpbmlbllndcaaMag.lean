/-
  The reference's costs and loss, copy by copy.
  The reference's wrong.
-/
import Derived.Test.YtlmpbmlbllndcaaMaf
import Derived.Test.YtlmpbmlbllndcaaMac
namespace Go.Proofs.Ytlmpbmlbllndcaa
open Go.RowKit
attribute [local go_sem] Oper.semAt_some

set_option maxHeartbeats 2000000 in
theorem refCosts_any (a b : Int) (w : World) : Calls Try.prog 99 #[.int .i64 a, .int .i64 b] w fun e w' => e = .returned (.bool (costB a b)) ∧ w = w' := by
  obtain ⟨b1, h1⟩ : ∃ x, inB a 0 1000 = x := ⟨_, rfl⟩
  obtain ⟨b2, h2⟩ : ∃ x, inB b 0 1000 = x := ⟨_, rfl⟩
  have C1 := Lib.hid (fun w => refIn_any a 0 1000 w)
  have C2 := Lib.hid (fun w => refIn_any b 0 1000 w)
  rw [h1] at C1
  rw [h2] at C2
  have HE : Hid (costB a b = ((b1 && b2) && !decide (a = 0 ∧ b = 0))) := by show _ = _; rw [← h1, ← h2]; rfl
  clear h1 h2
  cases b1 with
  | false =>
    have HX : Hid (costB a b = false) := by show _ = _; rw [HE.out]; simp
    go_enter Try.func99, Try.ntmps99
    go_wp2_with fail
    refine (C1.out _).mono ?_
    rintro _ _ ⟨rfl, rfl⟩
    go_wp2_with fail
    go_ret
    exact ⟨rb HX.out, rfl⟩
  | true =>
  cases b2 with
  | false =>
    have HX : Hid (costB a b = false) := by show _ = _; rw [HE.out]; simp
    go_enter Try.func99, Try.ntmps99
    go_wp2_with fail
    refine (C1.out _).mono ?_
    rintro _ _ ⟨rfl, rfl⟩
    go_wp2_with fail
    refine (C2.out _).mono ?_
    rintro _ _ ⟨rfl, rfl⟩
    go_wp2_with fail
    go_ret
    exact ⟨rb HX.out, rfl⟩
  | true =>
  by_cases ha : a = 0
  · have a1 : (a != 0) = false := by simp [ha]
    by_cases hb : b = 0
    · have b1 : (b != 0) = false := by simp [hb]
      have HX : Hid (costB a b = false) := by show _ = _; rw [HE.out]; simp [ha, hb]
      clear ha hb
      go_enter Try.func99, Try.ntmps99
      go_wp2_with fail
      refine (C1.out _).mono ?_
      rintro _ _ ⟨rfl, rfl⟩
      go_wp2_with fail
      refine (C2.out _).mono ?_
      rintro _ _ ⟨rfl, rfl⟩
      go_wp2_with fail
      go_ret
      exact ⟨rb HX.out, rfl⟩
    · have b1 : (b != 0) = true := by simp [hb]
      have HX : Hid (costB a b = true) := by show _ = _; rw [HE.out]; simp [hb]
      clear ha hb
      go_enter Try.func99, Try.ntmps99
      go_wp2_with fail
      refine (C1.out _).mono ?_
      rintro _ _ ⟨rfl, rfl⟩
      go_wp2_with fail
      refine (C2.out _).mono ?_
      rintro _ _ ⟨rfl, rfl⟩
      go_wp2_with fail
      go_ret
      exact ⟨rb HX.out, rfl⟩
  · have a1 : (a != 0) = true := by simp [ha]
    have HX : Hid (costB a b = true) := by show _ = _; rw [HE.out]; simp [ha]
    clear ha
    go_enter Try.func99, Try.ntmps99
    go_wp2_with fail
    refine (C1.out _).mono ?_
    rintro _ _ ⟨rfl, rfl⟩
    go_wp2_with fail
    refine (C2.out _).mono ?_
    rintro _ _ ⟨rfl, rfl⟩
    go_wp2_with fail
    go_ret
    exact ⟨rb HX.out, rfl⟩
theorem mul_next (a : Int) (k : Nat) : a * ((k + 1 : Nat) : Int) = a * (k : Int) + a := by
  rw [show ((k + 1 : Nat) : Int) = (k : Int) + 1 by omega, Int.mul_add, Int.mul_one]
set_option maxHeartbeats 4000000 in
theorem refLossC_any (s r q a b : Int) (hd : 0 ≤ r ∧ r ≤ s ∧ s ≤ 10000) (hq : 0 ≤ q ∧ q ≤ 10000) (ha : 0 ≤ a ∧ a ≤ 1000) (hb : 0 ≤ b ∧ b ≤ 1000) (w : World) :
    Calls Try.prog 100 #[.agg #[.int .i64 s, .int .i64 r], .int .i64 q, .int .i64 a, .int .i64 b] w fun e w' => e = .returned (.int .i64 (lossD a b ⟨s, r⟩ q)) ∧ Below w.heap.size w w' := by
  obtain ⟨r0, r1, s1⟩ := hd
  obtain ⟨q0, q1⟩ := hq
  obtain ⟨a0, a1⟩ := ha
  obtain ⟨b0, b1⟩ := hb
  have F0 : ∃ W0, w.alloc (.cells #[.int .i64 s, .int .i64 r] 99) = W0 ∧ Hid (Below w.heap.size w W0) ∧ Hid (Blk W0 w.heap.size 99 #[.int .i64 s, .int .i64 r]) := ⟨_, rfl, below_alloc _ _, Blk.new _ _ _⟩
  obtain ⟨W0, e0, HB0, HK0⟩ := F0
  have E0 := Lib.hid e0
  obtain ⟨p, hp⟩ : ∃ p, w.heap.size = p := ⟨_, rfl⟩
  have HP := Lib.hid hp
  rw [hp] at HK0
  have z0 := cellOf HK0.out 0 (x := .int .i64 s) rfl
  have z1 := cellOf HK0.out 1 (x := .int .i64 r) rfl
  have HF : Hid (∀ (k j : Nat), (q < s - r → q + k = s - r ∧ j = 0) → (¬ q < s - r → k = 0) → (¬ q < s - r → 0 < r → s - r + j = q) → (¬ q < s - r → ¬ 0 < r → j = 0) → b * (k : Int) + a * (j : Int) = lossD a b ⟨s, r⟩ q) := fun k j h1 h2 h3 h4 => by
    unfold lossD DayD.sold
    by_cases hlt : q < s - r
    · obtain ⟨e1, e2⟩ := h1 hlt
      rw [if_pos (show q - (s - r) < 0 by omega), e2, show s - r - q = (k : Int) by omega]
      simp
    · rw [if_neg (show ¬ q - (s - r) < 0 by omega), h2 hlt]
      by_cases hr : 0 < r
      · rw [if_pos hr, show q - (s - r) = (j : Int) by have := h3 hlt hr; omega]
        simp
      · rw [if_neg hr, h4 hlt hr]
        simp
  clear e0 hp
  go_enter Try.func100, Try.ntmps100
  go_upto_region 1 with fail
  rw [E0.out, HP.out]
  clear E0
  have u1 : -100000 ≤ s - r := by omega
  have u2 : s - r ≤ 100000 := by omega
  go_wp2_with fail
  go_loopw [10, 11] (fun n i wr => ∃ (k : Nat) (x y : Int), i = .int .i64 x ∧ n = .int .i64 y ∧ Hid (x = q + k ∧ y = b * (k : Int)) ∧ q ≤ x ∧ (x = q ∨ x ≤ s - r) ∧ 0 ≤ y ∧ y ≤ 1000 * (k : Int) ∧ k ≤ 10000 ∧ Hid (Below W0.heap.size W0 wr)) (fun n i _ => (s - r - intOf i).toNat)
  case atStart => exact ⟨0, q, 0, rfl, rfl, ⟨by simp, by simp⟩, by omega, Or.inl rfl, by omega, by omega, by omega, Below.refl _ _⟩
  case round =>
  obtain ⟨k, x, y, rfl, rfl, hxy, x0, x1, y0, y1, hk, hB⟩ := hrel
  obtain ⟨X, rfl⟩ : ∃ X : World, X = wr := ⟨_, rfl⟩
  have HKX := Lib.hid (HK0.out.below hB.out HK0.out.lt)
  by_cases hlt : x < s - r
  · have hkb : k + 1 ≤ 10000 := by have := hxy.out.1; omega
    have v1 : -100000000 ≤ y + b := by omega
    have v2 : y + b ≤ 100000000 := by omega
    have v3 : -100000000 ≤ x + 1 := by omega
    have v4 : x + 1 ≤ 100000000 := by omega
    have hN : Hid (x + 1 = q + ((k + 1 : Nat) : Int) ∧ y + b = b * ((k + 1 : Nat) : Int)) := by
      obtain ⟨e1, e2⟩ := hxy.out
      exact ⟨by omega, by rw [mul_next, e2]⟩
    go_wp2_with fail
    go_roundw
    case rel => exact ⟨k + 1, x + 1, y + b, rfl, rfl, hN, by omega, Or.inr (by omega), by omega, by push_cast; omega, hkb, hB⟩
    case measure => simp [intOf]; omega
  have HY := Lib.hid hxy.out.2
  have HX2 : Hid ((q < s - r → q + (k : Int) = s - r) ∧ (¬ q < s - r → k = 0)) := by
    have := hxy.out.1
    exact ⟨fun h => by omega, fun h => by omega⟩
  clear hxy
  go_wp2_with fail
  go_loopw [10, 12] (fun n i wr => ∃ (j : Nat) (x2 y2 : Int), i = .int .i64 x2 ∧ n = .int .i64 y2 ∧ Hid (x2 = s - r + j ∧ y2 = y + a * (j : Int)) ∧ (j = 0 ∨ (s - r + j ≤ q ∧ 0 < r)) ∧ s - r ≤ x2 ∧ x2 ≤ 20000 ∧ 0 ≤ y2 ∧ y2 ≤ y + 1000 * (j : Int) ∧ j ≤ 10000 ∧ Hid (Below W0.heap.size W0 wr)) (fun n i _ => (q - intOf i).toNat)
  case atStart => exact ⟨0, s - r, y, rfl, rfl, ⟨by simp, by simp⟩, Or.inl rfl, by omega, by omega, by omega, by omega, by omega, hB.out⟩
  case round =>
  clear hB HKX
  obtain ⟨j, x2, y2, rfl, rfl, hxy2, hj, x20, x21, y20, y21, hjb, hB⟩ := hrel
  obtain ⟨X2, rfl⟩ : ∃ X : World, X = wr := ⟨_, rfl⟩
  have z1 := cellOf (HK0.out.below hB.out HK0.out.lt) 1 (x := .int .i64 r) rfl
  have HBX : Hid (Below w.heap.size w X2) := HB0.out.trans (hB.out.mono HB0.out.size)
  by_cases hl2 : x2 < q
  · by_cases hr0 : 0 < r
    · have hjb2 : j + 1 ≤ 10000 := by have := hxy2.out.1; omega
      have v1 : -100000000 ≤ y2 + a := by omega
      have v2 : y2 + a ≤ 100000000 := by omega
      have v3 : -100000000 ≤ x2 + 1 := by omega
      have v4 : x2 + 1 ≤ 100000000 := by omega
      have hN : Hid (x2 + 1 = s - r + ((j + 1 : Nat) : Int) ∧ y2 + a = y + a * ((j + 1 : Nat) : Int)) := by
        obtain ⟨e1, e2⟩ := hxy2.out
        exact ⟨by omega, by rw [mul_next, e2]; omega⟩
      have hJ : Hid (s - r + ((j + 1 : Nat) : Int) ≤ q ∧ 0 < r) := by
        have := hxy2.out.1
        exact ⟨by omega, hr0⟩
      have g1 : decide (x2 < q) = true := by simpa using hl2
      have g2 : decide (0 < r) = true := by simpa using hr0
      go_wp2_with fail
      go_roundw
      case rel => exact ⟨j + 1, x2 + 1, y2 + a, rfl, rfl, hN, Or.inr hJ.out, by omega, by omega, by omega, by push_cast; omega, hjb2, hB⟩
      case measure => simp [intOf]; omega
    · have HV : Hid (y2 = lossD a b ⟨s, r⟩ q) := by
        show _ = _
        obtain ⟨e1, e2⟩ := hxy2.out
        rw [e2, HY.out]
        refine HF.out k j (fun h => ⟨HX2.out.1 h, by omega⟩) HX2.out.2 (fun _ h => absurd h hr0) fun _ _ => by omega
      have g1 : decide (x2 < q) = true := by simpa using hl2
      have g2 : decide (0 < r) = false := by simpa using hr0
      go_wp2_with fail
      go_ret
      exact ⟨by rw [← HV.out]; rfl, HBX.out⟩
  have HV : Hid (y2 = lossD a b ⟨s, r⟩ q) := by
    show _ = _
    obtain ⟨e1, e2⟩ := hxy2.out
    rw [e2, HY.out]
    refine HF.out k j (fun h => ⟨HX2.out.1 h, by omega⟩) HX2.out.2 (fun h h2 => by omega) fun _ h => by omega
  go_wp2_with fail
  go_ret
  exact ⟨by rw [← HV.out]; rfl, HBX.out⟩
end Go.Proofs.Ytlmpbmlbllndcaa

namespace Go.Proofs.Ytlmpbmlbllndcaa
open Go.RowKit
attribute [local go_sem] Oper.semAt_some

theorem okB_as (k d : Int) : MethD.okB ⟨k, d⟩ = (inB k 1 4 && inB d 1 60 && !(decide (k = 1) && !decide (d = 1))) := by
  unfold MethD.okB
  by_cases hk : k = 1
  · subst hk
    by_cases hd : d = 1
    · subst hd; simp [inB]
    · simp [hd]
  · simp [hk, inB]
set_option maxHeartbeats 4000000 in
theorem refWrong_any (m : MethD) (w : World) : Calls Try.prog 102 #[.agg #[.int .i64 m.kind, .int .i64 m.days]] w fun e w' => e = .returned (.bool (!m.okB)) ∧ Below w.heap.size w w' := by
  obtain ⟨k, d⟩ := m
  simp only
  have HE := Lib.hid (okB_as k d)
  obtain ⟨b1, h1⟩ : ∃ x, inB k 1 4 = x := ⟨_, rfl⟩
  obtain ⟨b2, h2⟩ : ∃ x, inB d 1 60 = x := ⟨_, rfl⟩
  have C1 := Lib.hid (fun w => refIn_any k 1 4 w)
  have C2 := Lib.hid (fun w => refIn_any d 1 60 w)
  rw [h1] at C1 HE
  rw [h2] at C2 HE
  have F0 : ∃ W0, w.alloc (.cells #[.int .i64 k, .int .i64 d] 108) = W0 ∧ Hid (Below w.heap.size w W0) ∧ Hid (Blk W0 w.heap.size 108 #[.int .i64 k, .int .i64 d]) := ⟨_, rfl, below_alloc _ _, Blk.new _ _ _⟩
  obtain ⟨W0, e0, HB0, HK0⟩ := F0
  have E0 := Lib.hid e0
  have z0 := cellOf HK0.out 0 (x := .int .i64 k) rfl
  have z1 := cellOf HK0.out 1 (x := .int .i64 d) rfl
  clear h1 h2 e0 HK0
  cases b1 with
  | false =>
    have HX : Hid ((!MethD.okB ⟨k, d⟩) = true) := by show _ = _; rw [HE.out]; rfl
    go_enter Try.func102, Try.ntmps102
    go_upto_region 1 with fail
    rw [E0.out]
    clear E0
    go_wp2_with fail
    refine (C1.out _).mono ?_
    rintro _ _ ⟨rfl, rfl⟩
    go_wp2_with fail
    go_ret
    exact ⟨rb HX.out, HB0.out⟩
  | true =>
  cases b2 with
  | false =>
    have HX : Hid ((!MethD.okB ⟨k, d⟩) = true) := by show _ = _; rw [HE.out]; rfl
    go_enter Try.func102, Try.ntmps102
    go_upto_region 1 with fail
    rw [E0.out]
    clear E0
    go_wp2_with fail
    refine (C1.out _).mono ?_
    rintro _ _ ⟨rfl, rfl⟩
    go_wp2_with fail
    refine (C2.out _).mono ?_
    rintro _ _ ⟨rfl, rfl⟩
    go_wp2_with fail
    go_ret
    exact ⟨rb HX.out, HB0.out⟩
  | true =>
  by_cases hk : k = 1
  · have g1 : (k == 1) = true := by simp [hk]
    by_cases hd : d = 1
    · have g2 : (d != 1) = false := by simp [hd]
      have HX : Hid ((!MethD.okB ⟨k, d⟩) = false) := by show _ = _; rw [HE.out]; simp [hd]
      clear hk hd
      go_enter Try.func102, Try.ntmps102
      go_upto_region 1 with fail
      rw [E0.out]
      clear E0
      go_wp2_with fail
      refine (C1.out _).mono ?_
      rintro _ _ ⟨rfl, rfl⟩
      go_wp2_with fail
      refine (C2.out _).mono ?_
      rintro _ _ ⟨rfl, rfl⟩
      go_wp2_with fail
      go_ret
      exact ⟨rb HX.out, HB0.out⟩
    · have g2 : (d != 1) = true := by simp [hd]
      have HX : Hid ((!MethD.okB ⟨k, d⟩) = true) := by show _ = _; rw [HE.out]; simp [hd, hk]
      clear hk hd
      go_enter Try.func102, Try.ntmps102
      go_upto_region 1 with fail
      rw [E0.out]
      clear E0
      go_wp2_with fail
      refine (C1.out _).mono ?_
      rintro _ _ ⟨rfl, rfl⟩
      go_wp2_with fail
      refine (C2.out _).mono ?_
      rintro _ _ ⟨rfl, rfl⟩
      go_wp2_with fail
      go_ret
      exact ⟨rb HX.out, HB0.out⟩
  · have g1 : (k == 1) = false := by simp [hk]
    have HX : Hid ((!MethD.okB ⟨k, d⟩) = false) := by show _ = _; rw [HE.out]; simp [hk]
    clear hk
    go_enter Try.func102, Try.ntmps102
    go_upto_region 1 with fail
    rw [E0.out]
    clear E0
    go_wp2_with fail
    refine (C1.out _).mono ?_
    rintro _ _ ⟨rfl, rfl⟩
    go_wp2_with fail
    refine (C2.out _).mono ?_
    rintro _ _ ⟨rfl, rfl⟩
    go_wp2_with fail
    go_ret
    exact ⟨rb HX.out, HB0.out⟩
end Go.Proofs.Ytlmpbmlbllndcaa
