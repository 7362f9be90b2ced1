/-
  bits.OnesCount of a number below 128.
-/
import Derived.Test.YtlmpbmlbllndcaaBf
namespace Go.Proofs.Ytlmpbmlbllndcaa
open Go.RowKit
attribute [local go_sem] Oper.semAt_some

theorem ones64_any (x : Nat) (hx : x < 128) (w : World) : Calls Try.prog 152 #[.int .u64 x] w fun e w' => e = .returned (.int .i64 (popc x)) ∧ w = w' := by
  obtain ⟨r, hr⟩ : ∃ r, popc x = r := ⟨_, rfl⟩
  rw [hr]
  have HR := Lib.hid hr
  have HX := Lib.hid hx
  clear hr
  have h1 : (0 : Int) ≤ (x : Int) := by omega
  have h2 : (x : Int) < 128 := by omega
  go_enter Try.func152, Try.ntmps152
  go_wp2
  go_ret
  refine ⟨ri ?_, rfl⟩
  rw [← HR.out]
  have h := HX.out
  clear HR HX h1 h2 hx w r
  revert x
  decide +kernel
set_option maxRecDepth 100000 in
theorem ones_any (x : Nat) (hx : x < 128) (w : World) : Calls Try.prog 150 #[.int .u64 x] w fun e w' => e = .returned (.int .i64 (popc x)) ∧ w = w' := by
  have C := Lib.hid (fun w => ones64_any x hx w)
  obtain ⟨r, hr⟩ : ∃ r, popc x = r := ⟨_, rfl⟩
  rw [hr] at C ⊢
  clear hr
  have h1 : (0 : Int) ≤ (x : Int) := by omega
  have h2 : (x : Int) < 128 := by omega
  go_enter Try.func150, Try.ntmps150
  go_wp2_with (go_at_call 152; with_reducible refine (C.out _).mono ?_; rintro e w' ⟨rfl, rfl⟩)
  go_ret
  exact ⟨rfl, rfl⟩
end Go.Proofs.Ytlmpbmlbllndcaa
