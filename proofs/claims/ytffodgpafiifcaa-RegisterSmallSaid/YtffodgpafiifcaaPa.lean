/-
  Plain, for RegisterSmall: what its desk reads.
-/
import Derived.Test.YtffodgpafiifcaaOi
import Derived.Test.YtffodgpafiifcaaEb
namespace Go.Proofs.Ytffodgpafiifcaa
open Go.RowKit

def smallD (cs : List CopyD) : DeskD := ⟨[0, 10], 2, [⟨0, 0, 0, 1⟩], 0, cs⟩
theorem small_allow : AllowOk [0, 10] 2 := ⟨by omega, by simp, fun i x y hx hy => by
  match i with
  | 0 => simp at hx hy; omega
  | i + 1 => simp at hy⟩
theorem small_best (j : Int) (hj : j = 0 ∨ j = 1 ∨ j = 2) : bestD [0, 10] 2 [0, 10 + j] = (0, 2) := by
  obtain ⟨m, hm⟩ := shiftsTo_pre (k := 0) (m := 2000) (by omega)
  have h0 : bestTo [0, 10] 2 [0, 10 + j] (shiftsTo 0) = (0, 2) := by rcases hj with rfl | rfl | rfl <;> decide +kernel
  show bestTo _ _ _ (shiftsTo 2000) = _
  rw [← hm, bestTo_stays (by rw [h0]; rfl), h0]
theorem small_fit (j : Int) (hj : j = 0 ∨ j = 1 ∨ j = 2) : fitD [0, 10] 2 [0, 10 + j] = [0, 10 + j] := by
  unfold fitD
  rw [small_best j hj]
  rcases hj with rfl | rfl | rfl <;> decide +kernel
theorem small_fit_nil : ∀ s : Int, fitTo [0, 10] 2 [] s = [lostD, lostD] := fun s => by simp [fitTo, findD]
theorem small_asc (j : Int) (hj : j = 0 ∨ j = 1 ∨ j = 2) : SeenAsc [0, 10 + j] := ⟨by rcases hj with rfl | rfl | rfl <;> simp, fun i x y hx hy => by
  match i with
  | 0 => simp at hx hy; omega
  | i + 1 => simp at hy⟩
theorem small_asc_nil : SeenAsc [] := ⟨by simp, fun i x y hx => by simp at hx⟩
theorem small_err (j : Int) (hj : j = 0 ∨ j = 1 ∨ j = 2) : errsD [0, 10] [0, 10 + j] 1 = [j] := by
  rcases hj with rfl | rfl | rfl <;> decide +kernel
/-- A reading of nothing. -/
theorem small_read_nil {cs : List CopyD} {c : CopyD} {code : Int} {d' : DeskD} (h : ReadIs (smallD cs) [] c code d') (hl : cs.length ≠ 5000) : code = 4 ∧ d' = smallD (cs ++ [c]) ∧ c.good = false := by
  rcases h with ⟨h1, -⟩ | ⟨-, s, ct, l, err, hf, h2⟩
  · exact absurd h1 hl
  · have hL : LenOk [0, 10] [] := ⟨by simp, by simp⟩
    have hfit : l = [lostD, lostD] ∧ err = 0 := by
      rcases hf with ⟨a, -⟩ | ⟨-, a, -⟩ | ⟨-, -, a, -⟩ | ⟨-, -, -, -, -, a, b⟩
      · exact absurd hL a
      · exact absurd small_allow a
      · exact absurd small_asc_nil a
      · exact ⟨a.trans (small_fit_nil _), b⟩
    obtain ⟨rfl, rfl⟩ := hfit
    have hb : BadFit (smallD cs) [lostD, lostD] ct := .inl rfl
    rcases h2 with ⟨a, -⟩ | ⟨-, -, rfl, rfl, rfl⟩ | ⟨-, a, -⟩
    · exact absurd rfl a
    · exact ⟨rfl, rfl, rfl⟩
    · exact absurd hb a
/-- A reading of both marks, one of them off by j. -/
theorem small_read_two {cs : List CopyD} {c : CopyD} {code : Int} {d' : DeskD} {j : Int} (hj : j = 0 ∨ j = 1 ∨ j = 2) (h : ReadIs (smallD cs) [0, 10 + j] c code d') (hl : cs.length ≠ 5000) : code = 0 ∧ d' = smallD (cs ++ [c]) ∧ c.good = decide (j = 0) := by
  rcases h with ⟨h1, -⟩ | ⟨-, s, ct, l, err, hf, h2⟩
  · exact absurd h1 hl
  · have hL : LenOk [0, 10] [0, 10 + j] := ⟨by simp, by simp⟩
    have hfit : l = [0, 10 + j] ∧ ct = 2 ∧ err = 0 := by
      rcases hf with ⟨a, -⟩ | ⟨-, a, -⟩ | ⟨-, -, a, -⟩ | ⟨-, -, -, -, a2, a, b⟩
      · exact absurd hL a
      · exact absurd small_allow a
      · exact absurd (small_asc j hj) a
      · refine ⟨a.trans (small_fit j hj), a2.trans ?_, b⟩
        show (bestD [0, 10] 2 [0, 10 + j]).2 = 2
        rw [small_best j hj]
    obtain ⟨rfl, rfl, rfl⟩ := hfit
    have hb : ¬ BadFit (smallD cs) [0, 10 + j] 2 := by
      rintro (h | h)
      · have : (0 : Int) = lostD := h
        revert this
        decide
      · have : (2 : Int) * 2 < 2 := h
        omega
    rcases h2 with ⟨a, -⟩ | ⟨-, a, -⟩ | ⟨-, -, rfl, rfl, rfl⟩
    · exact absurd rfl a
    · exact absurd a hb
    · refine ⟨rfl, rfl, ?_⟩
      show decide (farD (errsD [0, 10] [0, 10 + j] 1) ≤ 0) = decide (j = 0)
      rw [small_err j hj]
      rcases hj with rfl | rfl | rfl <;> decide +kernel
theorem small_read_full {cs : List CopyD} {seen : List Int} {c : CopyD} {code : Int} {d' : DeskD} (h : ReadIs (smallD cs) seen c code d') (hl : cs.length = 5000) : code = 2 ∧ d' = smallD cs := by
  rcases h with ⟨-, -, rfl, rfl⟩ | ⟨h1, -⟩
  · exact ⟨rfl, rfl⟩
  · exact absurd hl h1
theorem wasteD_snoc (cs : List CopyD) (c : CopyD) : wasteD (cs ++ [c]) = wasteD cs + if c.good then 0 else 1 := by
  unfold wasteD
  rw [List.filter_append, List.length_append]
  cases hb : c.good <;> simp [List.filter_cons, hb]
/-- How many good copies the law's desk has among the first i. -/
def goodTo (i : Nat) : Nat := (if 0 < i then 1 else 0) + if 3000 < i then 1 else 0
/-- The desk after i readings. -/
def SmallTo (i : Nat) (cs : List CopyD) : Prop := cs.length = i ∧ wasteD cs + goodTo i = i
theorem SmallTo.zero : SmallTo 0 [] := ⟨rfl, rfl⟩
theorem SmallTo.next {i : Nat} {cs : List CopyD} {c : CopyD} (h : SmallTo i cs) (hg : c.good = decide (i = 0 ∨ i = 3000)) : SmallTo (i + 1) (cs ++ [c]) := by
  obtain ⟨h1, h2⟩ := h
  refine ⟨by rw [List.length_append, h1]; rfl, ?_⟩
  rw [wasteD_snoc, hg]
  unfold goodTo at h2 ⊢
  by_cases h3 : i = 0 ∨ i = 3000
  · rw [decide_eq_true h3]
    rcases h3 with rfl | rfl <;> simp at h2 ⊢ <;> omega
  · rw [decide_eq_false h3]
    simp only [Bool.false_eq_true, if_false]
    split at h2 <;> split at h2 <;> split <;> split <;> omega
theorem SmallTo.waste {cs : List CopyD} (h : SmallTo 5000 cs) : wasteD cs = 4998 := by
  have h2 := h.2
  unfold goodTo at h2
  simp at h2
  omega
end Go.Proofs.Ytffodgpafiifcaa
