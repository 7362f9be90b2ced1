/-
  Plain, for RegisterFinds: the pattern of gaps.
-/
import Derived.Test.YtffodgpafiifcaaKa
import Derived.Test.YtffodgpafiifcaaFb
namespace Go.Proofs.Ytffodgpafiifcaa
open Go.RowKit

/-- The pattern that the law makes of gaps. -/
def gapD (W g : Int) : Int := 4 * W + 1 + g % 4000
def patTo (W : Int) (gaps : List Int) (k : Nat) : List Int := (List.range (k + 1)).map fun i => ((gaps.take i).map (gapD W)).sum
theorem patTo_len (W : Int) (gaps : List Int) (k : Nat) : (patTo W gaps k).length = k + 1 := by simp [patTo]
theorem patTo_at {W : Int} {gaps : List Int} {k i : Nat} (h : i ≤ k) : (patTo W gaps k)[i]? = some (((gaps.take i).map (gapD W)).sum) := by unfold patTo; rw [List.getElem?_map, List.getElem?_range (by omega)]; rfl
theorem gap_sum_next {W : Int} {gaps : List Int} {k : Nat} {g : Int} (h : gaps[k]? = some g) : ((gaps.take (k + 1)).map (gapD W)).sum = ((gaps.take k).map (gapD W)).sum + gapD W g := by
  rw [take_snoc_get h, List.map_append, List.map_cons, List.map_nil, sum_snoc]
theorem patTo_next {W : Int} {gaps : List Int} {k : Nat} {g : Int} (h : gaps[k]? = some g) : patTo W gaps (k + 1) = patTo W gaps k ++ [((gaps.take k).map (gapD W)).sum + gapD W g] := by
  unfold patTo
  rw [List.range_succ, List.map_append, List.map_cons, List.map_nil, gap_sum_next h]
theorem gapD_le {W : Int} (hW : 0 ≤ W ∧ W ≤ 500) (g : Int) : 4 * W < gapD W g ∧ gapD W g ≤ 6000 := by
  unfold gapD
  have h1 := Int.emod_nonneg g (show (4000 : Int) ≠ 0 by omega)
  have h2 := Int.emod_lt_of_pos g (show (0 : Int) < 4000 by omega)
  omega
theorem gap_sum_le {W : Int} (hW : 0 ≤ W ∧ W ≤ 500) (gaps : List Int) : ∀ k, 0 ≤ ((gaps.take k).map (gapD W)).sum ∧ ((gaps.take k).map (gapD W)).sum ≤ 6000 * k := by
  intro k
  induction k with
  | zero => simp
  | succ k ih =>
    by_cases hk : k < gaps.length
    · rw [gap_sum_next (List.getElem?_eq_getElem hk)]
      have := gapD_le hW gaps[k]
      omega
    · rw [List.take_of_length_le (by omega)] at ih ⊢
      omega
/-- The pattern is allowed. -/
theorem pat_allow {W : Int} (hW : 0 ≤ W ∧ W ≤ 500) {gaps : List Int} (hl : gaps.length ≤ 11) : AllowOk (patTo W gaps gaps.length) W := by
  refine ⟨by omega, fun x hx => ?_, fun i x y hx hy => ?_⟩
  · obtain ⟨i, hi, rfl⟩ := List.mem_map.1 hx
    have h1 := gap_sum_le hW gaps i
    have h2 := List.mem_range.1 hi
    omega
  · have h1 := (List.getElem?_eq_some_iff.1 hy).1
    rw [patTo_len] at h1
    rw [patTo_at (by omega)] at hx hy
    have h3 : gaps[i]? = some gaps[i] := List.getElem?_eq_getElem (by omega)
    rw [gap_sum_next h3] at hy
    cases hx
    cases hy
    have := gapD_le hW gaps[i]
    omega
end Go.Proofs.Ytffodgpafiifcaa
