/-
  Plain: where a section has a ganged page: in the middle, just if its topmost ribbon has two columns.
-/
import Derived.Test.YtdbfhdncjblleaaKi
namespace Go.Proofs.Ytdbfhdncjblleaa
open Go.RowKit

theorem filter_one (p : Nat → Bool) (m : Nat) : ∀ (n : Nat), (∀ i, i < n → p i = true → i = m) → (List.range n).filter p = if m < n ∧ p m = true then [m] else []
  | 0, _ => by simp
  | n + 1, h => by
    rw [List.range_succ, List.filter_append, filter_one p m n fun i hi => h i (by omega)]
    cases hn : p n with
    | true =>
      have e := h n (by omega) hn
      subst e
      rw [if_neg (by omega), if_pos ⟨by omega, hn⟩]
      simp [hn]
    | false =>
      have e : ([n].filter p) = [] := by simp [hn]
      rw [e, List.append_nil]
      by_cases hm : m < n ∧ p m = true
      · rw [if_pos hm, if_pos ⟨by omega, hm.2⟩]
      · rw [if_neg hm, if_neg]
        rintro ⟨h1, h2⟩
        rcases Nat.lt_or_ge m n with h3 | h3
        · exact hm ⟨h3, h2⟩
        · obtain rfl : m = n := by omega
          rw [hn] at h2
          cases h2
theorem halves_eq (r : RunD) (st : List Int) : halvesD r st = (idsR r st).map (fun i => rightHalfD (ribAt r i)) ++ (idsL r st).map fun i => leftHalfD (ribAt r i) := by
  unfold halvesD rightsD leftsD idsR idsL
  rw [sel_eq (fun b => !b.left), sel_eq hasLeft]
theorem gang_both {r : RunD} (h : checkE r = 0) {kk : Nat} {st : List Int} (hst : r.stacks[kk]? = some st) {row : Int} {i : Nat} {a b : SpotD} (ha : (spotsD r st row)[i]? = some a) (hb : (spotsD r st row)[i + 1]? = some b) (hbe : besideB r a b = true) :
    ∃ j : Int, (idsR r st)[(idsR r st).length - 1]? = some j ∧ (idsL r st)[0]? = some j := by
  have hN := gang_only h hst ha hb hbe
  obtain ⟨-, -, h5⟩ := beside_open hbe
  obtain ⟨m, x, hx, hcase⟩ := half_split row _ ha
  rcases hcase with ⟨hi, rfl⟩ | ⟨hi, rfl⟩
  · omega
  · obtain ⟨m2, y, hy, hcase⟩ := half_split row _ hb
    have hm2 : m2 = m + 1 := by rcases hcase with ⟨e, -⟩ | ⟨e, -⟩ <;> omega
    subst hm2
    have hb0 : b.web = y.web ∧ b.col = y.col := by rcases hcase with ⟨-, rfl⟩ | ⟨-, rfl⟩ <;> exact ⟨rfl, rfl⟩
    have hm := List.mem_of_getElem? hst
    obtain ⟨i1, hi1, hs1, hx1⟩ := halves_ids r st hx
    obtain ⟨i2, hi2, hs2, hy1⟩ := halves_ids r st hy
    have r1 := stacks_range h st hm i1 hs1
    have r2 := stacks_range h st hm i2 hs2
    have o1 := half_on (rib_at h r1) x hx1
    have o2 := half_on (rib_at h r2) y hy1
    have x1 := idx_on h r1 (s := ⟨x.web, x.s1, row, x.col⟩) ⟨o1.1.symm, o1.2.1, o1.2.2.1⟩
    have x2 := idx_on h r2 (s := b) ⟨by rw [hb0.1]; exact o2.1.symm, by rw [hb0.2]; exact o2.2.1, by rw [hb0.2]; exact o2.2.2.1⟩
    have he : i1 = i2 := by rw [← x1, ← x2]; exact h5
    subst he
    have e1 : m = (idsR r st).length - 1 := by omega
    rw [List.getElem?_append_left (by omega), e1] at hi1
    rw [List.getElem?_append_right (by omega), show m + 1 - (idsR r st).length = 0 by omega] at hi2
    exact ⟨i1, hi1, hi2⟩
/-- What is ganged in a section. -/
theorem gang_top {r : RunD} (h : checkE r = 0) {kk : Nat} {st : List Int} (hst : r.stacks[kk]? = some st) {top : Int} (htop : st.getLast? = some top) (row : Int) (c k : Nat) :
    gang1 r c k (spotsD r st row) = if (ribAt r top).width = 2 then [⟨c, k, (2 * (idsR r st).length - 1 : Nat)⟩] else [] := by
  have hm := List.mem_of_getElem? hst
  obtain ⟨pre, rfl⟩ := List.getLast?_eq_some_iff.1 htop
  have htr := stacks_range h _ hm top (by simp)
  have ho := rib_at h htr
  have key : ∀ i, i < (spotsD r (pre ++ [top]) row).length - 1 → besideB r ((spotsD r (pre ++ [top]) row).getD i default) ((spotsD r (pre ++ [top]) row).getD (i + 1) default) = true → i = 2 * (idsR r (pre ++ [top])).length - 1 := fun i hi hbe => by
    have e1 := List.getElem?_eq_getElem (l := spotsD r (pre ++ [top]) row) (i := i) (by omega)
    have e2 := List.getElem?_eq_getElem (l := spotsD r (pre ++ [top]) row) (i := i + 1) (by omega)
    rw [getD_of e1, getD_of e2] at hbe
    have := gang_only h hst e1 e2 hbe
    omega
  unfold gang1 gangTo
  rw [filter_one _ _ _ key]
  by_cases hw : (ribAt r top).width = 2
  · have hl := ho.left hw
    have eR : idsR r (pre ++ [top]) = idsR r pre ++ [top] := by unfold idsR; rw [List.filter_append]; simp [hl]
    have eL : idsL r (pre ++ [top]) = top :: idsL r pre := by unfold idsL; rw [List.reverse_append]; simp [hasLeft, hw]
    have eS : spotsD r (pre ++ [top]) row = outD row ((idsR r pre).map fun i => rightHalfD (ribAt r i)) ++ ((halfSpots row (rightHalfD (ribAt r top)) ++ halfSpots row (leftHalfD (ribAt r top))) ++ outD row ((idsL r pre).map fun i => leftHalfD (ribAt r i))) := by
      unfold spotsD outD
      rw [halves_eq, eR, eL]
      simp
    have hA : (outD row ((idsR r pre).map fun i => rightHalfD (ribAt r i))).length = 2 * (idsR r pre).length := by rw [outD_len, List.length_map]
    have hlen : 2 * (idsR r (pre ++ [top])).length - 1 = 2 * (idsR r pre).length + 1 := by rw [eR, List.length_append, List.length_singleton]; omega
    have hl2 : 2 * (idsR r pre).length + 4 ≤ (spotsD r (pre ++ [top]) row).length := by rw [eS]; simp [hA, halfSpots] <;> omega
    have g1 : (spotsD r (pre ++ [top]) row)[2 * (idsR r pre).length + 1]? = some ⟨(rightHalfD (ribAt r top)).web, (rightHalfD (ribAt r top)).s1, row, (rightHalfD (ribAt r top)).col⟩ := by
      rw [eS, List.getElem?_append_right (by omega), hA, show 2 * (idsR r pre).length + 1 - 2 * (idsR r pre).length = 1 by omega]; rfl
    have g2 : (spotsD r (pre ++ [top]) row)[2 * (idsR r pre).length + 1 + 1]? = some ⟨(leftHalfD (ribAt r top)).web, (leftHalfD (ribAt r top)).s0, row, (leftHalfD (ribAt r top)).col⟩ := by
      rw [eS, List.getElem?_append_right (by omega), hA, show 2 * (idsR r pre).length + 1 + 1 - 2 * (idsR r pre).length = 2 by omega]; rfl
    have hw1 : (rightHalfD (ribAt r top)).web = (ribAt r top).web := by unfold rightHalfD; split <;> rfl
    have hw2 : (leftHalfD (ribAt r top)).web = (ribAt r top).web := by unfold leftHalfD; split <;> rfl
    have hs : (rightHalfD (ribAt r top)).s1 = (leftHalfD (ribAt r top)).s0 := by unfold rightHalfD leftHalfD; split <;> rfl
    have hc : ((rightHalfD (ribAt r top)).col = (ribAt r top).col ∧ (leftHalfD (ribAt r top)).col = (ribAt r top).col + 1) ∨ ((rightHalfD (ribAt r top)).col = (ribAt r top).col + 1 ∧ (leftHalfD (ribAt r top)).col = (ribAt r top).col) := by
      unfold rightHalfD leftHalfD
      rw [hw]
      split
      · exact .inl ⟨rfl, by simp only; omega⟩
      · exact .inr ⟨by simp only; omega, rfl⟩
    have q1 := idx_on h htr (s := ⟨(rightHalfD (ribAt r top)).web, (rightHalfD (ribAt r top)).s1, row, (rightHalfD (ribAt r top)).col⟩) ⟨hw1.symm, by simp only; omega, by simp only; omega⟩
    have q2 := idx_on h htr (s := ⟨(leftHalfD (ribAt r top)).web, (leftHalfD (ribAt r top)).s0, row, (leftHalfD (ribAt r top)).col⟩) ⟨hw2.symm, by simp only; omega, by simp only; omega⟩
    have hbe : besideB r ((spotsD r (pre ++ [top]) row).getD (2 * (idsR r pre).length + 1) default) ((spotsD r (pre ++ [top]) row).getD (2 * (idsR r pre).length + 1 + 1) default) = true := by
      rw [getD_of g1, getD_of g2]
      refine (beside_yes (r := r) (a := ⟨(rightHalfD (ribAt r top)).web, (rightHalfD (ribAt r top)).s1, row, (rightHalfD (ribAt r top)).col⟩) (b := ⟨(leftHalfD (ribAt r top)).web, (leftHalfD (ribAt r top)).s0, row, (leftHalfD (ribAt r top)).col⟩) ⟨hw1.trans hw2.symm, hs, rfl⟩ ?_).trans ?_
      · simp only
        omega
      · rw [q1, q2]
        simp
    rw [hlen, if_pos ⟨by omega, hbe⟩, if_pos hw]
    rfl
  · rw [if_neg hw, if_neg]
    · rfl
    rintro ⟨h1, h2⟩
    have e1 := List.getElem?_eq_getElem (l := spotsD r (pre ++ [top]) row) (i := 2 * (idsR r (pre ++ [top])).length - 1) (by omega)
    have e2 := List.getElem?_eq_getElem (l := spotsD r (pre ++ [top]) row) (i := 2 * (idsR r (pre ++ [top])).length - 1 + 1) (by omega)
    rw [getD_of e1, getD_of e2] at h2
    obtain ⟨j, hj1, hj2⟩ := gang_both h hst e1 e2 h2
    cases hl : (ribAt r top).left with
    | false =>
      have eR : idsR r (pre ++ [top]) = idsR r pre ++ [top] := by unfold idsR; rw [List.filter_append]; simp [hl]
      rw [eR, List.length_append, List.getElem?_append_right (by simp), show (idsR r pre).length + [top].length - 1 - (idsR r pre).length = 0 by simp] at hj1
      have e : top = j := by simpa using hj1
      have hin := (List.mem_filter.1 (List.mem_of_getElem? hj2)).2
      rw [← e] at hin
      simp [hasLeft, hl, hw] at hin
    | true =>
      have eL : idsL r (pre ++ [top]) = top :: idsL r pre := by unfold idsL; rw [List.reverse_append]; simp [hasLeft, hl]
      rw [eL] at hj2
      have e : top = j := by simpa using hj2
      have hin := (List.mem_filter.1 (List.mem_of_getElem? hj1)).2
      rw [← e, hl] at hin
      simp at hin
end Go.Proofs.Ytdbfhdncjblleaa
