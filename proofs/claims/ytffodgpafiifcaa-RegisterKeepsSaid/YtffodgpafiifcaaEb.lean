/-
  awake: the examples of the chapter.
-/
import Derived.Test.YtffodgpafiifcaaEa
namespace Go.Proofs.Ytffodgpafiifcaa
open Go.RowKit

theorem rints_blk {w : World} {n : Nat} {t : TypeId} {l : List Int} {k : Nat} (hB : Blk w n t (l.map (Value.int .i64)).toArray) (hk : l.length = k) (hm : k ≤ 1000000) : RInts w.heap.size w (.slice (some ⟨n, 0, none⟩) k k) l := by
  refine ⟨_, _, by rw [hk], by simp, by simp only [maxLen]; omega, fun _ => ⟨n, 0, rfl, hB.lt, fun j u hu => ?_⟩⟩
  rw [hB.cell, Nat.zero_add]
  simpa using hu

def l1D : LoopD := ⟨2, 3, 1, 10⟩
def l2D : LoopD := ⟨0, 5, 0, 5⟩
def p1D : PlayD := ⟨l1D, 0, [3, 3, 3, 3], [-1, 0, 0, 0], 2⟩
def p2D : PlayD := ⟨l2D, 4, [5, -5, 0], [0, 0, 0], 0⟩
theorem p1_ok : PlayOk p1D := ⟨by decide, rfl, by decide, rfl, by decide, by decide, by decide⟩
theorem p2_ok : PlayOk p2D := ⟨by decide, rfl, by decide, rfl, by decide, by decide, by decide⟩
theorem p1_errs : (p1D.moms 4).map (·.1) = [0, 3, 6, 10] := by decide +kernel
theorem p2_errs : (p2D.moms 3).map (·.1) = [4, 5, -5] := by decide +kernel
theorem pat_ok : PatOk [0, 100, 300] 2 := ⟨by decide, by decide, by decide, fun i x y hx hy => by
  match i with
  | 0 => simp at hx hy; omega
  | 1 => simp at hx hy; omega
  | 2 => simp at hy
  | i + 3 => simp at hx⟩
theorem cam_ok : CamOk [49, 151, 200, 351] := ⟨by decide, by decide, fun i x y hx hy => by
  match i with
  | 0 => simp at hx hy; omega
  | 1 => simp at hx hy; omega
  | 2 => simp at hx hy; omega
  | 3 => simp at hy
  | i + 4 => simp at hx⟩
theorem best_49 : bestTo [0, 100, 300] 2 [49, 151, 200, 351] (shiftsTo 49) = (49, 3) := by decide +kernel
theorem best_ex : bestD [0, 100, 300] 2 [49, 151, 200, 351] = (49, 3) := by
  obtain ⟨m, hm⟩ := shiftsTo_pre (k := 49) (m := 2000) (by omega)
  show bestTo _ _ _ (shiftsTo 2000) = _
  rw [← hm, bestTo_stays (by rw [best_49]; rfl), best_49]
theorem fit_ex : fitD [0, 100, 300] 2 [49, 151, 200, 351] = [49, 151, 351] := by unfold fitD; rw [best_ex]; decide +kernel
theorem bound_ex : boundRet l1D = .tuple #[.int .i64 10, .int .i64 0] := by rfl
theorem settle_ex : settleRet l1D 25 = .tuple #[.int .i64 6, .int .i64 0] := by rfl
end Go.Proofs.Ytffodgpafiifcaa
