/-
  The reference's Play: plain, and what lies there.
-/
import Derived.Test.YtffodgpafiifcaaJg
namespace Go.Proofs.Ytffodgpafiifcaa
open Go.RowKit

def movesTo (p : PlayD) (k : Nat) : List Int := (List.range k).map p.move
theorem movesTo_len (p : PlayD) (k : Nat) : (movesTo p k).length = k := by simp [movesTo]
theorem movesTo_next (p : PlayD) (k : Nat) : movesTo p (k + 1) = movesTo p k ++ [p.move k] := by unfold movesTo; rw [List.range_succ, List.map_append]; rfl
theorem movesTo_at (p : PlayD) {k i : Nat} (h : i < k) : (movesTo p k)[i]? = some (p.move i) := by unfold movesTo; rw [List.getElem?_map, List.getElem?_range h]; rfl
theorem queue_last (p : PlayD) (t : Nat) : (p.queue t).sum = lastSum (movesTo p t) p.d := by
  induction t with
  | zero =>
    rw [PlayD.queue_zero, lastSum_all (movesTo p 0) (k := 0) (by rw [movesTo_len]; omega) (by rw [movesTo_len]; omega), lastSum_zero]
    exact zero_sum _ fun x hx => List.eq_of_mem_replicate hx
  | succ t ih =>
    have h1 : (p.queue t ++ [p.move t]).sum = (UD p.l.step p.n p.b p.e ((t : Int) - p.d) :: p.queue (t + 1)).sum := by
      unfold PlayD.queue PlayD.move
      rw [qD_snoc]
    rw [sum_snoc, List.sum_cons, ih] at h1
    by_cases hd : t < p.d
    · rw [UD_early _ _ _ _ _ (by omega)] at h1
      have h2 : lastSum (movesTo p (t + 1)) p.d = lastSum (movesTo p t) p.d + p.move t := by
        unfold lastSum
        rw [movesTo_len, movesTo_len, show t + 1 - p.d = 0 by omega, show t - p.d = 0 by omega, List.drop_zero, List.drop_zero, movesTo_next, sum_snoc]
      omega
    · have h3 : UD p.l.step p.n p.b p.e ((t : Int) - p.d) = p.move (t - p.d) := by
        rw [show (t : Int) - p.d = ((t - p.d : Nat) : Int) by omega, UD_nat]; rfl
      have h4 : (movesTo p (t + 1)).drop (t - p.d) = (movesTo p t).drop (t - p.d) ++ [p.move t] := by
        rw [movesTo_next, List.drop_append_of_le_length (by rw [movesTo_len]; omega)]
      have h5 : t - p.d < (movesTo p (t + 1)).length := by rw [movesTo_len]; omega
      have h6 : (movesTo p (t + 1))[t - p.d] = p.move (t - p.d) := by
        have h7 := List.getElem?_eq_getElem h5
        rw [movesTo_at p (by omega)] at h7
        simpa using h7.symm
      rw [List.drop_eq_getElem_cons h5, h6] at h4
      have h8 := congrArg List.sum h4
      rw [List.sum_cons, sum_snoc] at h8
      unfold lastSum at h1 ⊢
      rw [movesTo_len] at h1 ⊢
      rw [show t + 1 - p.d = t - p.d + 1 by omega]
      omega

/-- The two rows of the reference's Play. -/
def MvSt (wB : World) (p : PlayD) (k : Nat) (u v : Value) (X : World) : Prop :=
  Below wB.heap.size wB X ∧ X.ownsRow wB.heap.size 112 2 u k (momCells (p.moms k)) ∧ OInts wB.heap.size X v (movesTo p k)
theorem MvSt.start (wB : World) (p : PlayD) : MvSt wB p 0 (.slice none 0 0) (.slice none 0 0) wB := ⟨Below.refl _ _, World.ownsRow_nil _ _ _ _, World.ownsRow_nil _ _ _ _⟩
/-- Between the two appends. -/
def MvMid (wB : World) (p : PlayD) (k : Nat) (u v : Value) (X : World) : Prop :=
  Below wB.heap.size wB X ∧ X.ownsRow wB.heap.size 112 2 u k (momCells (p.moms k)) ∧ X.ownsRow wB.heap.size 3 1 v (k + 1) ((movesTo p (k + 1)).map (Value.int .i64))
theorem MvSt.mid {wB : World} {p : PlayD} {k : Nat} {u v v' : Value} {X w6 : World} (h : MvSt wB p k u v X) {c : Obj}
    (ho : w6.ownsRow wB.heap.size 3 1 v' (k + 1) ((movesTo p k).map (Value.int .i64) ++ [.int .i64 (p.move k)])) (hg : (X.alloc c).grownBy w6 v.ownBlock) : MvMid wB p k u v' w6 := by
  obtain ⟨h1, h2, h3⟩ := h
  refine ⟨(h1.alloc h1.size _).grown hg (by have := h1.size; simp; omega) fun j hj => (h3.lt j hj).1, ?_, ?_⟩
  · have hK : KeptBut (fun j => some j = v.ownBlock) X w6 := (KeptBut.of_below (below_alloc X _)).trans (KeptBut.grown (S := fun j => some j = v.ownBlock) hg fun _ hj => hj) fun _ _ hi => hi
    exact ownsRow_keptBut h2 hK fun g' cs hg' hB hs => not_row' hB (by decide) h3 hs
  · rw [movesTo_next, List.map_append]
    exact ho
theorem MvMid.next {wB : World} {p : PlayD} {k : Nat} {u v u' : Value} {X w6 : World} (h : MvMid wB p k u v X) {c : Obj}
    (ho : w6.ownsRow wB.heap.size 112 2 u' (k + 1) (momCells (p.moms k) ++ [.int .i64 (p.err k), .int .i64 (p.move k)])) (hg : (X.alloc c).grownBy w6 u.ownBlock) : MvSt wB p (k + 1) u' v w6 := by
  obtain ⟨h1, h2, h3⟩ := h
  refine ⟨(h1.alloc h1.size _).grown hg (by have := h1.size; simp; omega) fun j hj => (h2.lt j hj).1, ?_, ?_⟩
  · rw [PlayD.moms_snoc, momCells_snoc]
    exact ho
  · have hK : KeptBut (fun j => some j = u.ownBlock) X w6 := (KeptBut.of_below (below_alloc X _)).trans (KeptBut.grown (S := fun j => some j = u.ownBlock) hg fun _ hj => hj) fun _ _ hi => hi
    unfold OInts
    rw [movesTo_len]
    exact ownsRow_keptBut h3 hK fun g' cs hg' hB hs => not_row' hB (by decide) h2 hs
end Go.Proofs.Ytffodgpafiifcaa
