/-
  Plain, for RegisterFinds: what is found, and how many.
-/
import Derived.Test.YtffodgpafiifcaaId
namespace Go.Proofs.Ytffodgpafiifcaa
open Go.RowKit

section
variable {marks : List Int} {W : Int} {seen : List Int}
/-- A mark is found where something was seen within the window of its place. -/
theorem foundB_iff (ha : Ascends seen) (hb : ∀ x ∈ seen, x ≤ 200000) (s m : Int) : foundB seen W s m = true ↔ ∃ x ∈ seen, m + s - W ≤ x ∧ x ≤ m + s + W := by
  unfold foundB
  constructor
  · intro h
    have h1 := findD_mem (by simpa using h)
    exact ⟨_, h1.1, h1.2⟩
  · rintro ⟨x, hx, h1, h2⟩
    by_cases hn : NoHit seen (m + s - W) (m + s + W) seen.length
    · obtain ⟨i, hi, rfl⟩ := List.getElem_of_mem hx
      exact absurd ⟨h1, h2⟩ (hn i _ hi (List.getElem?_eq_getElem hi))
    · have h3 : ∃ (k : Nat) (y : Int), seen[k]? = some y ∧ (m + s - W ≤ y ∧ y ≤ m + s + W) ∧ NoHit seen (m + s - W) (m + s + W) k := by
        have key : ∀ n, ¬ NoHit seen (m + s - W) (m + s + W) n → ∃ (k : Nat) (y : Int), seen[k]? = some y ∧ (m + s - W ≤ y ∧ y ≤ m + s + W) ∧ NoHit seen (m + s - W) (m + s + W) k := by
          intro n
          induction n with
          | zero => intro h; exact absurd (fun j y hj => absurd hj (by omega)) h
          | succ n ih =>
            intro h
            by_cases h4 : NoHit seen (m + s - W) (m + s + W) n
            · by_cases h5 : ∃ y, seen[n]? = some y ∧ (m + s - W ≤ y ∧ y ≤ m + s + W)
              · obtain ⟨y, h6, h7⟩ := h5
                exact ⟨n, y, h6, h7, h4⟩
              · refine absurd (fun j y hj hy hin => ?_) h
                by_cases he : j = n
                · subst he; exact h5 ⟨y, hy, hin⟩
                · exact h4 j y (by omega) hy hin
            · exact ih h4
        exact key _ hn
      obtain ⟨k, y, hk, hin, hno⟩ := h3
      rw [findD_hit ha hk hin hno]
      have h4 := hb y (List.mem_of_getElem? hk)
      unfold lostD
      simp
      omega
theorem best_count (hA : AllowOk marks W) {s : Int} (hs : -2000 ≤ s ∧ s ≤ 2000) : (countD marks W seen s : Int) ≤ (bestD marks W seen).2 := by
  have h := bestTo_best (seen := seen) hA 2000
  have hB : BestOf marks W seen (shiftsTo 2000) (bestD marks W seen) := h
  obtain ⟨-, h2, h3⟩ := hB
  have h4 := h3 s (shiftsTo_mem 2000 s (by unfold absI; omega))
  rw [h2]
  rcases h4 with h4 | ⟨h4, -⟩ <;> omega
theorem best_is (hA : AllowOk marks W) : (bestD marks W seen).2 = countD marks W seen (bestD marks W seen).1 := (bestTo_best (seen := seen) hA 2000).2.1
/-- What is found of a mark. -/
theorem fitD_at {k : Nat} {m : Int} (h : marks[k]? = some m) : (fitD marks W seen)[k]? = some (findD seen (m + (bestD marks W seen).1 - W) (m + (bestD marks W seen).1 + W)) := fitTo_at h
end
end Go.Proofs.Ytffodgpafiifcaa
