/-
  one: the run of the chapter's first example.
-/
import Derived.Test.YtdbfhdncjblleaaZV
namespace Go.Proofs.Ytdbfhdncjblleaa
open Go.RowKit

def OneAt (w' : World) (n : Nat) : Prop :=
  Blk w' n 89 #[.int .i64 0, .bool false, .int .i64 0, .bool false, .int .i64 0, .bool false, .int .i64 0, .bool false] ∧ Blk w' (n + 1) 87 #[.int .i64 2, .int .i64 1, .slice (some ⟨n, 0, none⟩) 4 4] ∧
    Blk w' (n + 2) 91 #[.int .i64 0, .int .i64 0, .int .i64 2, .bool false, .bool false] ∧ Blk w' (n + 3) 3 #[.int .i64 0] ∧ Blk w' (n + 4) 48 #[.slice (some ⟨n + 3, 0, none⟩) 1 1]
def oneV (n : Nat) : Value := .agg #[.slice (some ⟨n + 1, 0, none⟩) 1 1, .slice (some ⟨n + 2, 0, none⟩) 1 1, .slice (some ⟨n + 4, 0, none⟩) 1 1, .bool false]

set_option maxRecDepth 100000 in
set_option maxHeartbeats 1000000 in
theorem makePlates (k : Nat) (hk : k ≤ 100) (u : World) : (Instr.makeSlice 85 (.int .i64 k) (.int .i64 k)).run Try.prog u =
      .ok (.slice (some ⟨u.heap.size, 0, none⟩) k k) (u.alloc (.cells (madeCells #[.int .i64 0, .bool false] (k * 2)) 89)) := by
  obtain ⟨i0, hi, hz0, hz1, hz2⟩ := info_parts infoPlate0
  have h := run_make (P := Try.prog) u 85 89 i0 (.agg #[.int .i64 0, .bool false]) Try.underlying85 hi hz0 .i64 .i64 (k : Int) (k : Int) (by omega) (Int.le_refl _) (by rw [hz2]; omega) (by omega)
  rw [Int.toNat_natCast] at h
  simpa [hz1, Value.cells] using h

theorem blk_new {W : World} {n : Nat} (h : W.heap.size = n) (t : TypeId) (cs : Array Value) : Blk (W.alloc (.cells cs t)) n t cs := h ▸ Blk.new W t cs
theorem make4 (u : World) : (Instr.makeSlice 85 (.int .i64 4) (.int .i64 4)).run Try.prog u = .ok (.slice (some ⟨u.heap.size, 0, none⟩) 4 4) (u.alloc (.cells #[.int .i64 0, .bool false, .int .i64 0, .bool false, .int .i64 0, .bool false, .int .i64 0, .bool false] 89)) := by
  have h := makePlates 4 (by omega) u
  rw [show madeCells #[Value.int .i64 0, .bool false] (4 * 2) = #[.int .i64 0, .bool false, .int .i64 0, .bool false, .int .i64 0, .bool false, .int .i64 0, .bool false] from by kernel_rfl] at h
  exact h
theorem make2 (u : World) : (Instr.makeSlice 85 (.int .i64 2) (.int .i64 2)).run Try.prog u = .ok (.slice (some ⟨u.heap.size, 0, none⟩) 2 2) (u.alloc (.cells #[.int .i64 0, .bool false, .int .i64 0, .bool false] 89)) := by
  have h := makePlates 2 (by omega) u
  rw [show madeCells #[Value.int .i64 0, .bool false] (2 * 2) = #[.int .i64 0, .bool false, .int .i64 0, .bool false] from by kernel_rfl] at h
  exact h
theorem make8 (u : World) : (Instr.makeSlice 85 (.int .i64 8) (.int .i64 8)).run Try.prog u = .ok (.slice (some ⟨u.heap.size, 0, none⟩) 8 8) (u.alloc (.cells #[.int .i64 0, .bool false, .int .i64 0, .bool false, .int .i64 0, .bool false, .int .i64 0, .bool false, .int .i64 0, .bool false, .int .i64 0, .bool false, .int .i64 0, .bool false, .int .i64 0, .bool false] 89)) := by
  have h := makePlates 8 (by omega) u
  rw [show madeCells #[Value.int .i64 0, .bool false] (8 * 2) = #[.int .i64 0, .bool false, .int .i64 0, .bool false, .int .i64 0, .bool false, .int .i64 0, .bool false, .int .i64 0, .bool false, .int .i64 0, .bool false, .int .i64 0, .bool false, .int .i64 0, .bool false] from by kernel_rfl] at h
  exact h

set_option maxRecDepth 100000 in
set_option maxHeartbeats 1000000 in
theorem one_any (w : World) : Calls Try.prog 40 #[] w fun e w' => ∃ n, e = .returned (oneV n) ∧ OneAt w' n ∧ w.heap.size ≤ n ∧ w'.heap.size = n + 5 ∧ Below w.heap.size w w' := by
  have hmk := make4
  go_enter Try.func40, Try.ntmps40
  go_wp2
  refine bodyPost_ret (v := oneV (w.heap.size + 1)) (by simp [results, Try.results40, go_sem, oneV, Nat.add_assoc]) rfl ⟨w.heap.size + 1, rfl, ?_, by omega, ?_, ?_⟩
  · refine ⟨?_, ?_, ?_, ?_, ?_⟩
    · exact ((((blk_new (by simp) _ _).alloc _).alloc _).alloc _).alloc _
    · exact (((blk_new (by simp) _ _).alloc _).alloc _).alloc _
    · exact ((blk_new (by simp) _ _).alloc _).alloc _
    · exact (blk_new (by simp) _ _).alloc _
    · exact blk_new (by simp) _ _
  · simp
  · exact ((((((Below.refl _ _).alloc (Nat.le_refl _) _).alloc (by simp) _).alloc (by simp; omega) _).alloc (by simp; omega) _).alloc (by simp; omega) _).alloc (by simp; omega) _
end Go.Proofs.Ytdbfhdncjblleaa
