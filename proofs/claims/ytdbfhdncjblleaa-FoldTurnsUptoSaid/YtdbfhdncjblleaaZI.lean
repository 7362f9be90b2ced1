/-
  Where and Follow are inverse to each other; every spot of a right run has its place.
-/
import Derived.Test.YtdbfhdncjblleaaZH
namespace Go.Proofs.Ytdbfhdncjblleaa
open Go.RowKit

theorem zip_mem {α : Type} {l : List α} {x : α} {i : Nat} : (x, i) ∈ l.zipIdx ↔ l[i]? = some x := List.mem_zipIdx_iff_getElem?
theorem place_mem {r : RunD} {s : SpotD} {p : PlaceD} : (s, p) ∈ placesD r ↔ ∃ (c k i : Nat) (S : List (List SpotD)) (l : List SpotD), p = ⟨c, k, i⟩ ∧ (layoutD r)[c]? = some S ∧ S[k]? = some l ∧ l[i]? = some s := by
  unfold placesD row3 row2 row1
  constructor
  · intro h
    obtain ⟨⟨S, c⟩, hS, h⟩ := List.mem_flatMap.1 h
    obtain ⟨⟨l, k⟩, hl, h⟩ := List.mem_flatMap.1 h
    obtain ⟨⟨x, i⟩, hx, h⟩ := List.mem_map.1 h
    simp only [Prod.mk.injEq] at h
    obtain ⟨rfl, rfl⟩ := h
    exact ⟨c, k, i, S, l, rfl, zip_mem.1 hS, zip_mem.1 hl, zip_mem.1 hx⟩
  · rintro ⟨c, k, i, S, l, rfl, hS, hl, hx⟩
    exact List.mem_flatMap.2 ⟨(S, c), zip_mem.2 hS, List.mem_flatMap.2 ⟨(l, k), zip_mem.2 hl, List.mem_map.2 ⟨(s, i), zip_mem.2 hx, rfl⟩⟩⟩
theorem getI_some {α : Type} {l : List α} {i : Int} {x : α} (h : getI l i = some x) : ∃ k : Nat, i = k ∧ l[k]? = some x := by
  unfold getI at h
  split at h
  · exact ⟨i.toNat, by omega, h⟩
  · cases h
theorem where_mem {r : RunD} {s : SpotD} {p : PlaceD} : whereO r p = some s ↔ (s, p) ∈ placesD r := by
  rw [place_mem]
  unfold whereO
  constructor
  · intro h
    obtain ⟨S, h1, h⟩ := Option.bind_eq_some_iff.1 h
    obtain ⟨l, h2, h⟩ := Option.bind_eq_some_iff.1 h
    obtain ⟨c, hc, h1⟩ := getI_some h1
    obtain ⟨k, hk, h2⟩ := getI_some h2
    obtain ⟨i, hi, h⟩ := getI_some h
    obtain ⟨pc, pk, pi⟩ := p
    simp only at hc hk hi
    subst hc hk hi
    exact ⟨c, k, i, S, l, rfl, h1, h2, h⟩
  · rintro ⟨c, k, i, S, l, rfl, h1, h2, h⟩
    simp only [getI_nat, h1, h2, h, Option.bind_some]
theorem key_uniq {α β : Type} : ∀ {l : List (α × β)}, (l.map (·.1)).Nodup → ∀ {a : α} {b c : β}, (a, b) ∈ l → (a, c) ∈ l → b = c
  | [], _, a, b, c, h, _ => by cases h
  | x :: l, hn, a, b, c, h1, h2 => by
    rw [List.map_cons, List.nodup_cons] at hn
    rcases List.mem_cons.1 h1 with e1 | m1 <;> rcases List.mem_cons.1 h2 with e2 | m2
    · have := e1.trans e2.symm
      simpa using this
    · exact absurd (List.mem_map.2 ⟨_, m2, by rw [← e1]⟩) hn.1
    · exact absurd (List.mem_map.2 ⟨_, m1, by rw [← e2]⟩) hn.1
    · exact key_uniq hn.2 m1 m2
theorem follow_mem {r : RunD} (h : checkE r = 0) {s : SpotD} {p : PlaceD} : followO r s = some p ↔ (s, p) ∈ placesD r := by
  unfold followO
  constructor
  · intro hf
    obtain ⟨x, hx, rfl⟩ := Option.map_eq_some_iff.1 hf
    have h1 := List.find?_some hx
    have h2 := List.mem_of_find?_eq_some hx
    simp only [decide_eq_true_eq] at h1
    subst h1
    exact h2
  · intro hm
    cases hf : (placesD r).find? fun x => decide (x.1 = s) with
    | none =>
      have := List.find?_eq_none.1 hf _ hm
      simp at this
    | some x =>
      have h1 := List.find?_some hf
      have h2 := List.mem_of_find?_eq_some hf
      simp only [decide_eq_true_eq] at h1
      obtain ⟨s', q⟩ := x
      simp only at h1
      subst h1
      rw [key_uniq (hnd_ok h) hm h2]; rfl
/-- The two are inverse. -/
theorem follow_where {r : RunD} (h : checkE r = 0) {s : SpotD} {p : PlaceD} : followO r s = some p ↔ whereO r p = some s := (follow_mem h).trans where_mem.symm
theorem follow_some {r : RunD} (h : checkE r = 0) {s : SpotD} (hs : s ∈ allSpots r) : ∃ p, followO r s = some p := by
  have : s ∈ (placesD r).map (·.1) := by
    unfold placesD
    rw [row3_keys]
    exact hs
  obtain ⟨x, hx, rfl⟩ := List.mem_map.1 this
  exact ⟨x.2, (follow_mem h).2 hx⟩

theorem all_mem {r : RunD} {s : SpotD} : s ∈ allSpots r ↔ ∃ st ∈ r.stacks, ∃ row, row < (rows0 r).toNat ∧ s ∈ spotsD r st row := by
  unfold allSpots
  simp only [List.mem_flatten]
  cases hc : r.coll with
  | true =>
    rw [layout_coll hc]
    constructor
    · rintro ⟨l, ⟨S, hS, hl⟩, hs⟩
      rw [List.mem_singleton] at hS
      subst hS
      obtain ⟨st, hst, hl⟩ := List.mem_flatMap.1 hl
      obtain ⟨row, hrow, rfl⟩ := List.mem_map.1 hl
      exact ⟨st, hst, row, List.mem_range.1 hrow, hs⟩
    · rintro ⟨st, hst, row, hrow, hs⟩
      exact ⟨_, ⟨_, List.mem_singleton.2 rfl, List.mem_flatMap.2 ⟨st, hst, List.mem_map.2 ⟨row, List.mem_range.2 hrow, rfl⟩⟩⟩, hs⟩
  | false =>
    rw [layout_straight hc]
    constructor
    · rintro ⟨l, ⟨S, hS, hl⟩, hs⟩
      obtain ⟨row, hrow, rfl⟩ := List.mem_map.1 hS
      obtain ⟨st, hst, rfl⟩ := List.mem_map.1 hl
      exact ⟨st, hst, row, List.mem_range.1 hrow, hs⟩
    · rintro ⟨st, hst, row, hrow, hs⟩
      exact ⟨_, ⟨_, List.mem_map.2 ⟨row, List.mem_range.2 hrow, rfl⟩, List.mem_map.2 ⟨st, hst, rfl⟩⟩, hs⟩
theorem half_cover {r : RunD} {b : RibD} (ho : RibOk r b) {c : Int} (h1 : b.col ≤ c) (h2 : c < b.col + b.width) : (b.left = false ∧ (rightHalfD b).at = (b.web, c)) ∨ (hasLeft b = true ∧ (leftHalfD b).at = (b.web, c)) := by
  have hw0 := ho.width0
  have hw1 := ho.width1
  rcases Int.lt_or_le b.width 2 with hw | hw
  · have hc : c = b.col := by omega
    have hb : b.width = 1 := by omega
    subst hc
    cases hl : b.left with
    | false =>
      left
      refine ⟨rfl, ?_⟩
      unfold rightHalfD HalfD.at
      rw [hb]
      cases b.turned <;> simp
    | true =>
      right
      unfold hasLeft leftHalfD HalfD.at
      rw [hb, hl]
      cases b.turned <;> simp
  · have hb : b.width = 2 := by omega
    have hl := ho.left hb
    have hh : hasLeft b = true := by unfold hasLeft; rw [hb]; rfl
    rw [hl]
    rcases (show c = b.col ∨ c = b.col + 1 by omega) with rfl | rfl
    · cases ht : b.turned with
      | true => left; refine ⟨rfl, ?_⟩; unfold rightHalfD HalfD.at; rw [ht]; rfl
      | false => right; refine ⟨hh, ?_⟩; unfold leftHalfD HalfD.at; rw [ht]; rfl
    · cases ht : b.turned with
      | true => right; refine ⟨hh, ?_⟩; unfold leftHalfD HalfD.at; rw [ht, hb]; simp; omega
      | false => left; refine ⟨rfl, ?_⟩; unfold rightHalfD HalfD.at; rw [ht, hb]; simp; omega
theorem in_stack {r : RunD} (h : checkE r = 0) {k : Nat} (hk : k < r.ribs.length) : ∃ st ∈ r.stacks, (k : Int) ∈ st := by
  have := List.all_eq_true.1 (stacks_ok2 (parts_ok h 3 (by omega))).2 k (List.mem_range.2 hk)
  have hm : (k : Int) ∈ r.stacks.flatten := by simpa using this
  obtain ⟨st, hst, hi⟩ := List.mem_flatten.1 hm
  exact ⟨st, hst, hi⟩
theorem half_there {r : RunD} (h : checkE r = 0) {w c : Nat} (hw : w < r.webs.length) (hc : (c : Int) < (r.webs.getD w default).cols) : ∃ st ∈ r.stacks, ∃ x ∈ halvesD r st, x.at = ((w : Int), (c : Int)) := by
  have hcov := (ribs_ok2 (parts_ok h 2 (by omega))).2
  have h1 := List.all_eq_true.1 hcov w (List.mem_range.2 hw)
  have h2 := List.all_eq_true.1 h1 c (List.mem_range.2 (by omega))
  unfold cov at h2
  obtain ⟨b, hb, hbc⟩ := List.any_eq_true.1 h2
  obtain ⟨hb1, hb2, hb3⟩ := of_decide_eq_true hbc
  obtain ⟨k, hk, rfl⟩ := List.getElem_of_mem hb
  have e : ribAt r k = r.ribs[k] := by
    unfold ribAt
    rw [Int.toNat_natCast, getD_of (List.getElem?_eq_getElem hk)]
  obtain ⟨st, hst, hi⟩ := in_stack h hk
  have ho := rib_at h (i := (k : Int)) ⟨by omega, by omega⟩
  rw [← e] at hb1 hb2 hb3
  refine ⟨st, hst, ?_⟩
  rcases half_cover ho hb2 hb3 with ⟨hl, ha⟩ | ⟨hl, ha⟩
  · refine ⟨_, List.mem_append.2 (.inl (List.mem_map.2 ⟨ribAt r k, List.mem_filter.2 ⟨List.mem_map.2 ⟨_, hi, rfl⟩, by rw [hl]; rfl⟩, rfl⟩)), by rw [ha, hb1]⟩
  · refine ⟨_, List.mem_append.2 (.inr (List.mem_map.2 ⟨ribAt r k, List.mem_filter.2 ⟨List.mem_map.2 ⟨_, List.mem_reverse.2 hi, rfl⟩, hl⟩, rfl⟩)), by rw [ha, hb1]⟩
/-- Every spot of a right run is told of. -/
theorem spot_there {r : RunD} (h : checkE r = 0) {w row c : Nat} (side : Int) (hw : w < r.webs.length) (hrow : row < (rows0 r).toNat) (hc : (c : Int) < (r.webs.getD w default).cols) (hs : side = 0 ∨ side = 1) : (⟨w, side, row, c⟩ : SpotD) ∈ allSpots r := by
  obtain ⟨st, hst, x, hx, ha⟩ := half_there h hw hc
  obtain ⟨k, hk, e⟩ := List.getElem_of_mem hst
  obtain ⟨i, -, -, -, -, -, hsd⟩ := half_ok h (List.getElem?_eq_getElem hk) (by rw [e]; exact hx)
  refine all_mem.2 ⟨st, hst, row, hrow, List.mem_flatMap.2 ⟨x, hx, ?_⟩⟩
  unfold HalfD.at at ha
  simp only [Prod.mk.injEq] at ha
  simp only [halfSpots, List.mem_cons, List.not_mem_nil, or_false, SpotD.mk.injEq, ha.1, ha.2, true_and, and_true]
  omega

end Go.Proofs.Ytdbfhdncjblleaa
