/-
  The two sides of one web in one row and column: back to back.
-/
import Derived.Test.YtdbfhdncjblleaaZI
namespace Go.Proofs.Ytdbfhdncjblleaa
open Go.RowKit

theorem half_pair (row : Int) : ∀ (l : List HalfD) (m : Nat) (x : HalfD), l[m]? = some x → (l.flatMap (halfSpots row))[2 * m]? = some ⟨x.web, x.s0, row, x.col⟩ ∧ (l.flatMap (halfSpots row))[2 * m + 1]? = some ⟨x.web, x.s1, row, x.col⟩
  | [], m, x, h => by simp at h
  | y :: l, 0, x, h => by
    simp only [List.getElem?_cons_zero, Option.some.injEq] at h
    subst h
    exact ⟨rfl, rfl⟩
  | y :: l, m + 1, x, h => by
    have ih := half_pair row l m x (by simpa using h)
    have e1 : 2 * (m + 1) = 2 * m + 1 + 1 := by omega
    have e2 : 2 * (m + 1) + 1 = (2 * m + 1) + 1 + 1 := by omega
    rw [e2, e1]
    exact ih
theorem half_split (row : Int) (l : List HalfD) {i : Nat} {s : SpotD} (h : (l.flatMap (halfSpots row))[i]? = some s) : ∃ (m : Nat) (x : HalfD), l[m]? = some x ∧ ((i = 2 * m ∧ s = ⟨x.web, x.s0, row, x.col⟩) ∨ (i = 2 * m + 1 ∧ s = ⟨x.web, x.s1, row, x.col⟩)) := by
  have hlen : (l.flatMap (halfSpots row)).length = 2 * l.length := outD_len row l
  have hi := (List.getElem?_eq_some_iff.1 h).1
  have hm : i / 2 < l.length := by omega
  have hx : l[i / 2]? = some l[i / 2] := List.getElem?_eq_getElem hm
  obtain ⟨h0, h1⟩ := half_pair row l (i / 2) _ hx
  refine ⟨i / 2, _, hx, ?_⟩
  rcases (show i = 2 * (i / 2) ∨ i = 2 * (i / 2) + 1 by omega) with e | e
  · rw [← e, h] at h0
    exact .inl ⟨e, Option.some.inj h0⟩
  · rw [← e, h] at h1
    exact .inr ⟨e, Option.some.inj h1⟩
/-- Back to back: one is the next page after the other. -/
theorem faces {r : RunD} (h : checkE r = 0) {w row c : Int} {p q : PlaceD} (hp : followO r ⟨w, 0, row, c⟩ = some p) (hq : followO r ⟨w, 1, row, c⟩ = some q) :
    ∃ m : Nat, p.copy = q.copy ∧ p.sec = q.sec ∧ ((p.idx = (2 * m : Nat) ∧ q.idx = (2 * m + 1 : Nat)) ∨ (p.idx = (2 * m + 1 : Nat) ∧ q.idx = (2 * m : Nat))) := by
  obtain ⟨cc, k, i, S, l, rfl, hS, hl, hi⟩ := place_mem.1 ((follow_mem h).1 hp)
  obtain ⟨kk, st, row', hst, hrow, e⟩ := section_of hS hl
  have hi2 := hi
  rw [e] at hi2
  obtain ⟨m, x, hx, hcase⟩ := half_split row' _ hi2
  obtain ⟨h0, h1⟩ := half_pair (row' : Int) _ m x hx
  obtain ⟨-, -, -, -, -, -, hsd⟩ := half_ok h hst (List.mem_of_getElem? hx)
  have key : ∀ j : Nat, l[j]? = some ⟨w, 1, row, c⟩ → q = ⟨cc, k, j⟩ := fun j hj => by
    have h2 : followO r ⟨w, 1, row, c⟩ = some ⟨cc, k, j⟩ := (follow_mem h).2 (place_mem.2 ⟨cc, k, j, S, l, rfl, hS, hl, hj⟩)
    rw [hq] at h2
    exact Option.some.inj h2
  rcases hcase with ⟨hi3, hs⟩ | ⟨hi3, hs⟩ <;> simp only [SpotD.mk.injEq] at hs <;> obtain ⟨e1, e2, e3, e4⟩ := hs
  · have hq2 := key (2 * m + 1) (by rw [e]; show ((halvesD r st).flatMap (halfSpots row'))[2 * m + 1]? = _; rw [h1, e1, e3, e4, show x.s1 = 1 by omega])
    exact ⟨m, by rw [hq2], by rw [hq2], .inl ⟨by simp only [hi3], by rw [hq2]⟩⟩
  · have hq2 := key (2 * m) (by rw [e]; show ((halvesD r st).flatMap (halfSpots row'))[2 * m]? = _; rw [h0, e1, e3, e4, show x.s0 = 1 by omega])
    exact ⟨m, by rw [hq2], by rw [hq2], .inr ⟨by simp only [hi3], by rw [hq2]⟩⟩

end Go.Proofs.Ytdbfhdncjblleaa
