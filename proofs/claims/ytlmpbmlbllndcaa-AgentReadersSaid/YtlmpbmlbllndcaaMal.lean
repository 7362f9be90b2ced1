/-
  bits.OnesCount of a number below 128.
  weekdaysBefore, weekdays.
-/
import Derived.Test.YtlmpbmlbllndcaaMak
import Derived.WalkLawsBesides
namespace Go.Proofs.Ytlmpbmlbllndcaa
open Go.RowKit
attribute [local go_sem] Oper.semAt_some

theorem ones64_any (x : Nat) (hx : x < 128) (w : World) : Calls Try.prog 152 #[.int .u64 x] w fun e w' => e = .returned (.int .i64 (popc x)) ∧ w = w' := by
  obtain ⟨r, hr⟩ : ∃ r, popc x = r := ⟨_, rfl⟩
  rw [hr]
  have HR := Lib.hid hr
  have HX := Lib.hid hx
  clear hr
  have h1 : (0 : Int) ≤ (x : Int) := by omega
  have h2 : (x : Int) < 128 := by omega
  go_enter Try.func152, Try.ntmps152
  go_wp2
  go_ret
  refine ⟨ri ?_, rfl⟩
  rw [← HR.out]
  have h := HX.out
  clear HR HX h1 h2 hx w r
  revert x
  decide +kernel
set_option maxRecDepth 100000 in
theorem ones_any (x : Nat) (hx : x < 128) (w : World) : Calls Try.prog 150 #[.int .u64 x] w fun e w' => e = .returned (.int .i64 (popc x)) ∧ w = w' := by
  have C := Lib.hid (fun w => ones64_any x hx w)
  obtain ⟨r, hr⟩ : ∃ r, popc x = r := ⟨_, rfl⟩
  rw [hr] at C ⊢
  clear hr
  have h1 : (0 : Int) ≤ (x : Int) := by omega
  have h2 : (x : Int) < 128 := by omega
  go_enter Try.func150, Try.ntmps150
  go_wp2_with (go_at_call 152; with_reducible refine (C.out _).mono ?_; rintro e w' ⟨rfl, rfl⟩)
  go_ret
  exact ⟨rfl, rfl⟩
end Go.Proofs.Ytlmpbmlbllndcaa

namespace Go.Proofs.Ytlmpbmlbllndcaa
open Go.RowKit
attribute [local go_sem] Oper.semAt_some

theorem and_0 : ∀ x < 128, bits .and .u64 ((x : Nat) : Int) 0 = ((x % 1 : Nat) : Int) := by decide +kernel
theorem and_1 : ∀ x < 128, bits .and .u64 ((x : Nat) : Int) 1 = ((x % 2 : Nat) : Int) := by decide +kernel
theorem and_2 : ∀ x < 128, bits .and .u64 ((x : Nat) : Int) 3 = ((x % 4 : Nat) : Int) := by decide +kernel
theorem and_3 : ∀ x < 128, bits .and .u64 ((x : Nat) : Int) 7 = ((x % 8 : Nat) : Int) := by decide +kernel
theorem and_4 : ∀ x < 128, bits .and .u64 ((x : Nat) : Int) 15 = ((x % 16 : Nat) : Int) := by decide +kernel
theorem and_5 : ∀ x < 128, bits .and .u64 ((x : Nat) : Int) 31 = ((x % 32 : Nat) : Int) := by decide +kernel
theorem and_6 : ∀ x < 128, bits .and .u64 ((x : Nat) : Int) 63 = ((x % 64 : Nat) : Int) := by decide +kernel
/-- A subscriber as a value: u is the slice of its holidays. -/
def SubD.val (s : SubD) (u : Value) : Value := .agg #[.int .i64 s.id, .int .i64 s.from_, .int .i64 s.to_, .int .i64 s.days, u]
theorem popc_le (x : Nat) : popc x ≤ 7 := by unfold popc; omega
theorem befN_le (x d : Nat) (h : d ≤ 20001) : befN x d ≤ 30000 := by
  unfold befN
  have h1 := popc_le x
  have h2 := popc_le (x % 2 ^ (d % 7))
  have h3 : d / 7 * popc x ≤ 2857 * 7 := Nat.mul_le_mul (by omega) h1
  omega

set_option maxRecDepth 100000 in
set_option maxHeartbeats 4000000 in
theorem wkBefore_any (id fr to_ : Int) (x : Nat) (hx : x < 128) (u : Value) (d : Nat) (hd : d ≤ 20001) (w : World) :
    Calls Try.prog 147 #[.agg #[.int .i64 id, .int .i64 fr, .int .i64 to_, .int .i64 (x : Int), u], .int .i64 (d : Int)] w fun e w' => e = .returned (.int .i64 ((befN x d : Nat) : Int)) ∧ Below w.heap.size w w' := by
  have C1 := Lib.hid (fun w => ones_any x hx w)
  obtain ⟨p, hp⟩ : ∃ p, popc x = p := ⟨_, rfl⟩
  rw [hp] at C1
  have HP := Lib.hid hp
  have hp7 : p ≤ 7 := by rw [← hp]; exact popc_le _
  have hm1 : (d : Int) / 7 * (p : Int) ≤ 2857 * 7 := Int.mul_le_mul (by omega) (by omega) (by omega) (by omega)
  have hm0 : 0 ≤ (d : Int) / 7 * (p : Int) := Int.mul_nonneg (by omega) (by omega)
  have x0 : (0 : Int) ≤ (x : Int) := by omega
  have x1 : (x : Int) < 128 := by omega
  have d0 : (0 : Int) ≤ (d : Int) := by omega
  have d1 : (d : Int) ≤ 20001 := by omega
  clear hp
  have hcase : (d : Int) % 7 = 0 ∨ (d : Int) % 7 = 1 ∨ (d : Int) % 7 = 2 ∨ (d : Int) % 7 = 3 ∨ (d : Int) % 7 = 4 ∨ (d : Int) % 7 = 5 ∨ (d : Int) % 7 = 6 := by omega
  rcases hcase with h7 | h7 | h7 | h7 | h7 | h7 | h7
  · have C2 : Hid (∀ w : World, Calls Try.prog 150 #[.int .u64 0] w fun e w' => e = .returned (.int .i64 0) ∧ w = w') := fun w => ones_any 0 (by decide) w
    have hb : bits .and .u64 (x : Int) 0 = 0 := by rw [and_0 x hx, Nat.mod_one]; rfl
    have HXE : Hid ((d : Int) / 7 * (p : Int) = ((befN x d : Nat) : Int)) := by
      show _ = _
      unfold befN
      rw [HP.out, show d % 7 = 0 by omega, popc_zero]
      push_cast
      omega
    go_enter Try.func147, Try.ntmps147
    go_wp2_with (first | (go_at_call 150; with_reducible refine (C1.out _).mono ?_; rintro e w' ⟨rfl, rfl⟩) | (go_at_call 150; with_reducible refine (C2.out _).mono ?_; rintro e w' ⟨rfl, rfl⟩))
    go_ret
    exact ⟨ri HXE.out.symm, below_alloc _ _⟩
  · obtain ⟨y, hy⟩ : ∃ y, x % 2 = y := ⟨_, rfl⟩
    have hb := and_1 x hx
    rw [hy] at hb
    have C2 := Lib.hid (fun w => ones_any y (by omega) w)
    obtain ⟨q, hq⟩ : ∃ q, popc y = q := ⟨_, rfl⟩
    rw [hq] at C2
    have hq7 : q ≤ 7 := by rw [← hq]; exact popc_le _
    have HXE : Hid ((d : Int) / 7 * (p : Int) + (q : Int) = ((befN x d : Nat) : Int)) := by
      show _ = _
      unfold befN
      rw [HP.out, show d % 7 = 1 by omega, show x % 2 ^ 1 = x % 2 by rfl, hy, hq]
      push_cast
      rfl
    clear hq hy
    go_enter Try.func147, Try.ntmps147
    go_wp2_with (first | (go_at_call 150; with_reducible refine (C1.out _).mono ?_; rintro e w' ⟨rfl, rfl⟩) | (go_at_call 150; with_reducible refine (C2.out _).mono ?_; rintro e w' ⟨rfl, rfl⟩))
    go_ret
    exact ⟨ri HXE.out.symm, below_alloc _ _⟩
  · obtain ⟨y, hy⟩ : ∃ y, x % 4 = y := ⟨_, rfl⟩
    have hb := and_2 x hx
    rw [hy] at hb
    have C2 := Lib.hid (fun w => ones_any y (by omega) w)
    obtain ⟨q, hq⟩ : ∃ q, popc y = q := ⟨_, rfl⟩
    rw [hq] at C2
    have hq7 : q ≤ 7 := by rw [← hq]; exact popc_le _
    have HXE : Hid ((d : Int) / 7 * (p : Int) + (q : Int) = ((befN x d : Nat) : Int)) := by
      show _ = _
      unfold befN
      rw [HP.out, show d % 7 = 2 by omega, show x % 2 ^ 2 = x % 4 by rfl, hy, hq]
      push_cast
      rfl
    clear hq hy
    go_enter Try.func147, Try.ntmps147
    go_wp2_with (first | (go_at_call 150; with_reducible refine (C1.out _).mono ?_; rintro e w' ⟨rfl, rfl⟩) | (go_at_call 150; with_reducible refine (C2.out _).mono ?_; rintro e w' ⟨rfl, rfl⟩))
    go_ret
    exact ⟨ri HXE.out.symm, below_alloc _ _⟩
  · obtain ⟨y, hy⟩ : ∃ y, x % 8 = y := ⟨_, rfl⟩
    have hb := and_3 x hx
    rw [hy] at hb
    have C2 := Lib.hid (fun w => ones_any y (by omega) w)
    obtain ⟨q, hq⟩ : ∃ q, popc y = q := ⟨_, rfl⟩
    rw [hq] at C2
    have hq7 : q ≤ 7 := by rw [← hq]; exact popc_le _
    have HXE : Hid ((d : Int) / 7 * (p : Int) + (q : Int) = ((befN x d : Nat) : Int)) := by
      show _ = _
      unfold befN
      rw [HP.out, show d % 7 = 3 by omega, show x % 2 ^ 3 = x % 8 by rfl, hy, hq]
      push_cast
      rfl
    clear hq hy
    go_enter Try.func147, Try.ntmps147
    go_wp2_with (first | (go_at_call 150; with_reducible refine (C1.out _).mono ?_; rintro e w' ⟨rfl, rfl⟩) | (go_at_call 150; with_reducible refine (C2.out _).mono ?_; rintro e w' ⟨rfl, rfl⟩))
    go_ret
    exact ⟨ri HXE.out.symm, below_alloc _ _⟩
  · obtain ⟨y, hy⟩ : ∃ y, x % 16 = y := ⟨_, rfl⟩
    have hb := and_4 x hx
    rw [hy] at hb
    have C2 := Lib.hid (fun w => ones_any y (by omega) w)
    obtain ⟨q, hq⟩ : ∃ q, popc y = q := ⟨_, rfl⟩
    rw [hq] at C2
    have hq7 : q ≤ 7 := by rw [← hq]; exact popc_le _
    have HXE : Hid ((d : Int) / 7 * (p : Int) + (q : Int) = ((befN x d : Nat) : Int)) := by
      show _ = _
      unfold befN
      rw [HP.out, show d % 7 = 4 by omega, show x % 2 ^ 4 = x % 16 by rfl, hy, hq]
      push_cast
      rfl
    clear hq hy
    go_enter Try.func147, Try.ntmps147
    go_wp2_with (first | (go_at_call 150; with_reducible refine (C1.out _).mono ?_; rintro e w' ⟨rfl, rfl⟩) | (go_at_call 150; with_reducible refine (C2.out _).mono ?_; rintro e w' ⟨rfl, rfl⟩))
    go_ret
    exact ⟨ri HXE.out.symm, below_alloc _ _⟩
  · obtain ⟨y, hy⟩ : ∃ y, x % 32 = y := ⟨_, rfl⟩
    have hb := and_5 x hx
    rw [hy] at hb
    have C2 := Lib.hid (fun w => ones_any y (by omega) w)
    obtain ⟨q, hq⟩ : ∃ q, popc y = q := ⟨_, rfl⟩
    rw [hq] at C2
    have hq7 : q ≤ 7 := by rw [← hq]; exact popc_le _
    have HXE : Hid ((d : Int) / 7 * (p : Int) + (q : Int) = ((befN x d : Nat) : Int)) := by
      show _ = _
      unfold befN
      rw [HP.out, show d % 7 = 5 by omega, show x % 2 ^ 5 = x % 32 by rfl, hy, hq]
      push_cast
      rfl
    clear hq hy
    go_enter Try.func147, Try.ntmps147
    go_wp2_with (first | (go_at_call 150; with_reducible refine (C1.out _).mono ?_; rintro e w' ⟨rfl, rfl⟩) | (go_at_call 150; with_reducible refine (C2.out _).mono ?_; rintro e w' ⟨rfl, rfl⟩))
    go_ret
    exact ⟨ri HXE.out.symm, below_alloc _ _⟩
  · obtain ⟨y, hy⟩ : ∃ y, x % 64 = y := ⟨_, rfl⟩
    have hb := and_6 x hx
    rw [hy] at hb
    have C2 := Lib.hid (fun w => ones_any y (by omega) w)
    obtain ⟨q, hq⟩ : ∃ q, popc y = q := ⟨_, rfl⟩
    rw [hq] at C2
    have hq7 : q ≤ 7 := by rw [← hq]; exact popc_le _
    have HXE : Hid ((d : Int) / 7 * (p : Int) + (q : Int) = ((befN x d : Nat) : Int)) := by
      show _ = _
      unfold befN
      rw [HP.out, show d % 7 = 6 by omega, show x % 2 ^ 6 = x % 64 by rfl, hy, hq]
      push_cast
      rfl
    clear hq hy
    go_enter Try.func147, Try.ntmps147
    go_wp2_with (first | (go_at_call 150; with_reducible refine (C1.out _).mono ?_; rintro e w' ⟨rfl, rfl⟩) | (go_at_call 150; with_reducible refine (C2.out _).mono ?_; rintro e w' ⟨rfl, rfl⟩))
    go_ret
    exact ⟨ri HXE.out.symm, below_alloc _ _⟩
end Go.Proofs.Ytlmpbmlbllndcaa
