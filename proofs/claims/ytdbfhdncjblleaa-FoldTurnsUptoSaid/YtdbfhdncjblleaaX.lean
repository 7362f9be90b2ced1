/-
  Ganged.
-/
import Derived.Test.YtdbfhdncjblleaaW
namespace Go.Proofs.Ytdbfhdncjblleaa
open Go.RowKit

def gangTo (r : RunD) (c s : Nat) (l : List SpotD) (k : Nat) : List PlaceD := ((List.range k).filter fun i => besideB r (l.getD i default) (l.getD (i + 1) default)).map fun (i : Nat) => (⟨c, s, i⟩ : PlaceD)
def gang1 (r : RunD) (c s : Nat) (l : List SpotD) : List PlaceD := gangTo r c s l (l.length - 1)
def gang2 (r : RunD) (c : Nat) (S : List (List SpotD)) : List PlaceD := S.zipIdx.flatMap fun x => gang1 r c x.2 x.1
def gang3 (r : RunD) (L : List (List (List SpotD))) : List PlaceD := L.zipIdx.flatMap fun x => gang2 r x.2 x.1
def gangedD (r : RunD) : List PlaceD := gang3 r (layoutD r)
theorem gangTo_yes {r : RunD} {c s k : Nat} {l : List SpotD} (h : besideB r (l.getD k default) (l.getD (k + 1) default) = true) : gangTo r c s l (k + 1) = gangTo r c s l k ++ [⟨c, s, k⟩] := by
  unfold gangTo
  rw [List.range_succ, List.filter_append, List.map_append]
  simp only [List.filter_cons, h, if_true, Bool.false_eq_true, if_false, List.filter_nil, List.map_cons, List.map_nil, List.append_nil]
theorem gangTo_no {r : RunD} {c s k : Nat} {l : List SpotD} (h : besideB r (l.getD k default) (l.getD (k + 1) default) = false) : gangTo r c s l (k + 1) = gangTo r c s l k := by
  unfold gangTo
  rw [List.range_succ, List.filter_append, List.map_append]
  simp only [List.filter_cons, h, if_true, Bool.false_eq_true, if_false, List.filter_nil, List.map_cons, List.map_nil, List.append_nil]
theorem gang2_next {r : RunD} {c k : Nat} {S : List (List SpotD)} {x : List SpotD} (h : S[k]? = some x) : gang2 r c (S.take (k + 1)) = gang2 r c (S.take k) ++ gang1 r c k x := by
  unfold gang2
  rw [zip_next h, List.flatMap_append]; simp
theorem gang3_next {r : RunD} {k : Nat} {L : List (List (List SpotD))} {x : List (List SpotD)} (h : L[k]? = some x) : gang3 r (L.take (k + 1)) = gang3 r (L.take k) ++ gang2 r k x := by
  unfold gang3
  rw [zip_next h, List.flatMap_append]; simp

/-- Each section of a right run is the spots of one of its stacks in a row. -/
theorem section_of {r : RunD} {c s : Nat} {S : List (List SpotD)} {l : List SpotD} (hS : (layoutD r)[c]? = some S) (hl : S[s]? = some l) : ∃ (k : Nat) (st : List Int) (row : Nat), r.stacks[k]? = some st ∧ row < (rows0 r).toNat ∧ l = spotsD r st row := by
  cases hc : r.coll with
  | true =>
    rw [layout_coll hc] at hS
    have hm := List.mem_of_getElem? hS
    rw [List.mem_singleton] at hm
    subst hm
    have hm := List.mem_of_getElem? hl
    obtain ⟨st, hst, hr⟩ := List.mem_flatMap.1 hm
    obtain ⟨row, hrow, rfl⟩ := List.mem_map.1 hr
    obtain ⟨k, hk, rfl⟩ := List.getElem_of_mem hst
    exact ⟨k, _, row, List.getElem?_eq_getElem hk, List.mem_range.1 hrow, rfl⟩
  | false =>
    rw [layout_straight hc] at hS
    obtain ⟨row, hrow, rfl⟩ := List.mem_map.1 (List.mem_of_getElem? hS)
    obtain ⟨st, hst, rfl⟩ := List.mem_map.1 (List.mem_of_getElem? hl)
    obtain ⟨k, hk, rfl⟩ := List.getElem_of_mem hst
    exact ⟨k, _, row, List.getElem?_eq_getElem hk, List.mem_range.1 hrow, rfl⟩
theorem spots_len (r : RunD) (st : List Int) (row : Int) : (spotsD r st row).length ≤ 4 * st.length := by
  have h : (spotsD r st row).length = 2 * (halvesD r st).length := outD_len row _
  have h1 := rights_len r st
  have h2 := lefts_len r st.reverse
  rw [h]
  unfold halvesD
  rw [List.length_append]
  rw [List.length_reverse] at h2
  omega
theorem half_of {r : RunD} {st : List Int} {h : HalfD} (hm : h ∈ halvesD r st) : (∃ i ∈ st, h = rightHalfD (ribAt r i) ∧ (ribAt r i).left = false) ∨ (∃ i ∈ st, h = leftHalfD (ribAt r i) ∧ hasLeft (ribAt r i) = true) := by
  rcases List.mem_append.1 hm with hm | hm
  · obtain ⟨b, hb, rfl⟩ := List.mem_map.1 hm
    obtain ⟨hb1, hb2⟩ := List.mem_filter.1 hb
    obtain ⟨i, hi, rfl⟩ := List.mem_map.1 hb1
    exact .inl ⟨i, hi, rfl, by simpa using hb2⟩
  · obtain ⟨b, hb, rfl⟩ := List.mem_map.1 hm
    obtain ⟨hb1, hb2⟩ := List.mem_filter.1 hb
    obtain ⟨i, hi, rfl⟩ := List.mem_map.1 hb1
    exact .inr ⟨i, List.mem_reverse.1 hi, rfl, hb2⟩
/-- A half lies on its ribbon. -/
theorem half_on {r : RunD} {b : RibD} (h : RibOk r b) (x : HalfD) (hx : x = rightHalfD b ∨ x = leftHalfD b) : x.web = b.web ∧ b.col ≤ x.col ∧ x.col < b.col + b.width ∧ ((x.s0 = 0 ∧ x.s1 = 1) ∨ (x.s0 = 1 ∧ x.s1 = 0)) := by
  have h1 := h.width0
  rcases hx with rfl | rfl
  · unfold rightHalfD
    split <;> simp <;> omega
  · unfold leftHalfD
    split <;> simp <;> omega
theorem rib_at {r : RunD} (h : checkE r = 0) {i : Int} (hi : 0 ≤ i ∧ i < r.ribs.length) : RibOk r (ribAt r i) := rib_ok h (k := i.toNat) (by omega)
theorem half_ok {r : RunD} (h : checkE r = 0) {k : Nat} {st : List Int} (hst : r.stacks[k]? = some st) {x : HalfD} (hm : x ∈ halvesD r st) : ∃ i ∈ st, RibOk r (ribAt r i) ∧ x.web = (ribAt r i).web ∧ (ribAt r i).col ≤ x.col ∧ x.col < (ribAt r i).col + (ribAt r i).width ∧ ((x.s0 = 0 ∧ x.s1 = 1) ∨ (x.s0 = 1 ∧ x.s1 = 0)) := by
  have hit := stack_items h hst
  rcases half_of hm with ⟨i, hi, rfl, -⟩ | ⟨i, hi, rfl, -⟩
  · have ho := rib_at h (hit i hi)
    exact ⟨i, hi, ho, half_on ho _ (.inl rfl)⟩
  · have ho := rib_at h (hit i hi)
    exact ⟨i, hi, ho, half_on ho _ (.inr rfl)⟩
theorem spot_col {r : RunD} (h : checkE r = 0) {k : Nat} {st : List Int} (hst : r.stacks[k]? = some st) {row : Int} {x : SpotD} (hm : x ∈ spotsD r st row) : 0 ≤ x.col ∧ x.col ≤ 1000 := by
  obtain ⟨y, hy, hx⟩ := List.mem_flatMap.1 hm
  obtain ⟨i, -, ho, -, h1, h2, -⟩ := half_ok h hst hy
  have := ho.col0; have := ho.col2
  have hc : x.col = y.col := by
    simp only [halfSpots, List.mem_cons, List.not_mem_nil, or_false] at hx
    rcases hx with rfl | rfl <;> rfl
  omega
theorem sec_bound {r : RunD} (h : checkE r = 0) {c s : Nat} {S : List (List SpotD)} {l : List SpotD} (hS : (layoutD r)[c]? = some S) (hl : S[s]? = some l) : l.length ≤ 128 ∧ ∀ x ∈ l, 0 ≤ x.col ∧ x.col ≤ 1000 := by
  obtain ⟨k, st, row, hst, -, rfl⟩ := section_of hS hl
  refine ⟨?_, fun x hx => spot_col h hst hx⟩
  have h1 := spots_len r st row
  have h2 := stack_len h hst
  omega
theorem gang1_len (r : RunD) (c s : Nat) (l : List SpotD) : (gang1 r c s l).length ≤ l.length := by
  unfold gang1 gangTo
  rw [List.length_map]
  have := List.length_filter_le (fun i => besideB r (l.getD i default) (l.getD (i + 1) default)) (List.range (l.length - 1))
  rw [List.length_range] at this
  omega
theorem gangTo_len (r : RunD) (c s : Nat) (l : List SpotD) (k : Nat) : (gangTo r c s l k).length ≤ k := by
  unfold gangTo
  rw [List.length_map]
  have := List.length_filter_le (fun i => besideB r (l.getD i default) (l.getD (i + 1) default)) (List.range k)
  rwa [List.length_range] at this
theorem flat_bound {α β : Type} (f : α → List β) (B : Nat) : ∀ (l : List α), (∀ x ∈ l, (f x).length ≤ B) → (l.flatMap f).length ≤ B * l.length
  | [], _ => by simp
  | x :: l, h => by
    rw [List.flatMap_cons, List.length_append, List.length_cons]
    have h1 := h x (by simp)
    have h2 := flat_bound f B l fun y hy => h y (by simp [hy])
    rw [Nat.mul_add, Nat.mul_one]; omega
theorem mem_zip {α : Type} {l : List α} {x : α × Nat} (h : x ∈ l.zipIdx) : l[x.2]? = some x.1 := by
  have := List.mem_zipIdx_iff_getElem?.1 h
  exact this
theorem copy_small {r : RunD} (h : checkE r = 0) {c : Nat} {S : List (List SpotD)} (hS : (layoutD r)[c]? = some S) : S.length ≤ 100 := by
  have h4 := (numbers_ok (parts_ok h 0 (by omega))).2.2.2.2.2
  have h2 := rows_two h
  cases hc : r.coll with
  | true =>
    rw [layout_coll hc] at hS
    have hm := List.mem_of_getElem? hS
    rw [List.mem_singleton] at hm
    subst hm
    have := flat_len h r.stacks.length
    rw [List.take_length] at this
    unfold collectedD
    omega
  | false =>
    rw [layout_straight hc] at hS
    obtain ⟨row, hrow, rfl⟩ := List.mem_map.1 (List.mem_of_getElem? hS)
    unfold straightD
    rw [List.length_map]; omega
theorem layout_two {r : RunD} (h : checkE r = 0) : (layoutD r).length ≤ 2 := by
  have h2 := rows_two h
  cases hc : r.coll with
  | true => rw [layout_coll hc]; simp
  | false => rw [layout_straight hc, List.length_map, List.length_range]; omega
theorem gang2_len {r : RunD} (h : checkE r = 0) {c : Nat} {S : List (List SpotD)} (hS : (layoutD r)[c]? = some S) (k : Nat) : (gang2 r c (S.take k)).length ≤ 12800 := by
  have h1 := flat_bound (fun x : List SpotD × Nat => gang1 r c x.2 x.1) 128 (S.take k).zipIdx fun x hx => by
    have := mem_zip hx
    rw [List.getElem?_take] at this
    split at this
    · exact Nat.le_trans (gang1_len r c x.2 x.1) (sec_bound h hS this).1
    · cases this
  have h2 := copy_small h hS
  rw [List.length_zipIdx, List.length_take] at h1
  unfold gang2
  have h3 : min k S.length ≤ 100 := by omega
  have := Nat.mul_le_mul_left 128 h3
  omega
theorem gang3_len {r : RunD} (h : checkE r = 0) (k : Nat) : (gang3 r ((layoutD r).take k)).length ≤ 25600 := by
  have h1 := flat_bound (fun x : List (List SpotD) × Nat => gang2 r x.2 x.1) 12800 ((layoutD r).take k).zipIdx fun x hx => by
    have := mem_zip hx
    rw [List.getElem?_take] at this
    split at this
    · have h9 := gang2_len h this x.1.length
      rwa [List.take_length] at h9
    · cases this
  have h2 := layout_two h
  rw [List.length_zipIdx, List.length_take] at h1
  unfold gang3
  have h3 : min k (layoutD r).length ≤ 2 := by omega
  have := Nat.mul_le_mul_left 12800 h3
  omega
end Go.Proofs.Ytdbfhdncjblleaa
