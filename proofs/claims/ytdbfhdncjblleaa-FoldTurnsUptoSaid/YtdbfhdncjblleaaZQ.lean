/-
  plateIndex.
-/
import Derived.Test.YtdbfhdncjblleaaD
namespace Go.Proofs.Ytdbfhdncjblleaa
open Go.RowKit

set_option maxHeartbeats 400000 in
theorem plateIndex_any (cols rows web side row col : Int) (u : Value) (w : World) (h1 : 0 ≤ side * rows ∧ side * rows ≤ 1000) (h2 : 0 ≤ side * rows + row ∧ side * rows + row ≤ 1000)
    (h3 : 0 ≤ (side * rows + row) * cols ∧ (side * rows + row) * cols ≤ 1000) (h4 : 0 ≤ (side * rows + row) * cols + col ∧ (side * rows + row) * cols + col ≤ 1000) :
    Calls Try.prog 59 #[.agg #[.int .i64 cols, .int .i64 rows, u], .agg #[.int .i64 web, .int .i64 side, .int .i64 row, .int .i64 col]] w fun e w' => e = .returned (.int .i64 ((side * rows + row) * cols + col)) ∧ Below w.heap.size w w' := by
  have k1 : IntKind.i64.wrap (side * rows) = side * rows := IntWalk.i64_in _ ⟨by omega, by omega⟩
  have k2 : IntKind.i64.wrap (side * rows + row) = side * rows + row := IntWalk.i64_in _ ⟨by omega, by omega⟩
  have k3 : IntKind.i64.wrap ((side * rows + row) * cols) = (side * rows + row) * cols := IntWalk.i64_in _ ⟨by omega, by omega⟩
  have k4 : IntKind.i64.wrap ((side * rows + row) * cols + col) = (side * rows + row) * cols + col := IntWalk.i64_in _ ⟨by omega, by omega⟩
  clear h1 h2 h3 h4
  go_enter Try.func59, Try.ntmps59
  go_wp2
  go_ret
  exact ⟨rfl, ((Below.refl _ _).alloc (Nat.le_refl _) _).alloc (by simp) _⟩
end Go.Proofs.Ytdbfhdncjblleaa
