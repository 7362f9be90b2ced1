/-
  What is no desk: nil, and one that New did not make.
-/
import Derived.Test.YtffodgpafiifcaaPa
namespace Go.Proofs.Ytffodgpafiifcaa
open Go.RowKit

/-- No desk: nil, or one whose own mark is nil. -/
def NoDesk (p : Value) (w : World) : Prop := p = .pointer none ∨ ∃ Z, p = .pointer (some ⟨Z, 0, none⟩) ∧ Z < w.heap.size ∧ w.cell? ⟨Z, 2, none⟩ = some (.pointer none)
theorem NoDesk.below {p : Value} {w w' : World} (h : NoDesk p w) (hb : Below w.heap.size w w') : NoDesk p w' := by
  rcases h with h | ⟨Z, h1, h2, h3⟩
  · exact .inl h
  · exact .inr ⟨Z, h1, Nat.lt_of_lt_of_le h2 hb.size, (hb.cell (p := ⟨Z, 2, none⟩) h2).trans h3⟩
theorem eql_nil_ptr (a : Addr) (W : World) : (binOp .eql 63 (.pointer none) (.pointer (some a))).run Try.prog W = .ok (.bool false) W := by
  have hp : Try.prog.underlying 63 = some (.pointer 90) := by kernel_rfl
  have h : ∀ d : Nat, (Op.equalIn (d + 1) 63 (.pointer none) (.pointer (some a))).run Try.prog W = .ok false W := fun d => by
    simp [Op.equalIn, run_underlying hp]
  simp only [binOp]
  simp [Op.equal, Op.maxDepth, h 9999]
set_option maxRecDepth 100000 in
theorem notMade_any (p : Value) (w : World) (h : NoDesk p w) : Calls Try.prog 56 #[p] w fun e w' => e = .returned (.bool false) ∧ w = w' := by
  rcases h with rfl | ⟨Z, rfl, -, h3⟩
  · go_enter Try.func56, Try.ntmps56
    go_wp2
    go_ret
    exact ⟨rfl, rfl⟩
  · have q := fun W => eql_nil_ptr ⟨Z, 0, none⟩ W
    go_enter Try.func56, Try.ntmps56
    go_wp2
    go_ret
    exact ⟨rfl, rfl⟩
set_option maxRecDepth 100000 in
set_option maxHeartbeats 1000000 in
theorem Read_not (p : Value) (w : World) (h : NoDesk p w) : Calls Try.prog 32 #[p, .slice none 0 0] w fun e w' => e = .returned (.tuple #[.agg #[.bool false, .int .i64 0, .slice none 0 0, .slice none 0 0], .int .i64 5]) ∧ Below w.heap.size w w' := by
  obtain ⟨w1, e1, B1, R1⟩ : ∃ w1, w.alloc (.cells #[.bool false, .int .i64 0, .slice none 0 0, .slice none 0 0] 72) = w1 ∧ Below w.heap.size w w1 ∧ Blk w1 w.heap.size 72 #[.bool false, .int .i64 0, .slice none 0 0, .slice none 0 0] := ⟨_, rfl, below_alloc _ _, Blk.new _ _ _⟩
  have E1 := Lib.hid e1
  have CI := Lib.hid (notMade_any p w1 (h.below B1))
  have r0 := cellOf R1 0 (x := .bool false) rfl
  have r1 := cellOf R1 1 (x := .int .i64 0) rfl
  have r2 := cellOf R1 2 (x := .slice none 0 0) rfl
  have r3 := cellOf R1 3 (x := .slice none 0 0) rfl
  have g0 := R1.frozen 0
  have g1 := R1.frozen 1
  have g2 := R1.frozen 2
  have g3 := R1.frozen 3
  have HBE : Hid (∀ x0 x1 x2 x3, Below w.heap.size w ((((w1.setCell ⟨w.heap.size, 0, none⟩ x0).setCell ⟨w.heap.size, 1, none⟩ x1).setCell ⟨w.heap.size, 2, none⟩ x2).setCell ⟨w.heap.size, 3, none⟩ x3)) := Lib.hid fun x0 x1 x2 x3 => below_set4 B1 (Nat.le_refl _) _ _ _ _
  clear h e1 B1 R1
  go_enter Try.func32, Try.ntmps32
  go_upto_region 1 with fail
  rw [E1.out]
  go_wp2_with fail
  refine CI.out.mono ?_
  rintro _ _ ⟨rfl, rfl⟩
  go_wp2
  refine bodyPost_ret (v := .tuple #[.agg #[.bool false, .int .i64 0, .slice none 0 0, .slice none 0 0], .int .i64 5]) (by simp [results, Try.results32, go_sem, r0, r1, r2, r3]) rfl ⟨rfl, HBE.out _ _ _ _⟩
set_option maxRecDepth 100000 in
theorem Copies_not (p : Value) (w : World) (h : NoDesk p w) : Calls Try.prog 35 #[p] w fun e w' => e = .returned (.tuple #[.slice none 0 0, .int .i64 5]) ∧ w = w' := by
  have CI := Lib.hid (notMade_any p w h)
  clear h
  go_enter Try.func35, Try.ntmps35
  go_wp2_with fail
  refine CI.out.mono ?_
  rintro _ _ ⟨rfl, rfl⟩
  go_wp2
  refine bodyPost_ret (v := .tuple #[.slice none 0 0, .int .i64 5]) (by simp [results, Try.results35, go_sem]) rfl ⟨rfl, rfl⟩
set_option maxRecDepth 100000 in
theorem Waste_not (p : Value) (w : World) (h : NoDesk p w) : Calls Try.prog 36 #[p] w fun e w' => e = .returned (.tuple #[.int .i64 0, .int .i64 5]) ∧ w = w' := by
  have CI := Lib.hid (notMade_any p w h)
  clear h
  go_enter Try.func36, Try.ntmps36
  go_wp2_with fail
  refine CI.out.mono ?_
  rintro _ _ ⟨rfl, rfl⟩
  go_wp2
  refine bodyPost_ret (v := .tuple #[.int .i64 0, .int .i64 5]) (by simp [results, Try.results36, go_sem]) rfl ⟨rfl, rfl⟩
end Go.Proofs.Ytffodgpafiifcaa
