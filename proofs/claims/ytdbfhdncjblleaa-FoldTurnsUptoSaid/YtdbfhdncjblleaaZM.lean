/-
  Ganged places.
-/
import Derived.Test.YtdbfhdncjblleaaZL
namespace Go.Proofs.Ytdbfhdncjblleaa
open Go.RowKit

theorem gang_mem {r : RunD} {p : PlaceD} (h : p ∈ gangedD r) : ∃ (c k i : Nat) (S : List (List SpotD)) (l : List SpotD) (a b : SpotD), p = ⟨c, k, i⟩ ∧ (layoutD r)[c]? = some S ∧ S[k]? = some l ∧ l[i]? = some a ∧ l[i + 1]? = some b ∧ besideB r a b = true := by
  unfold gangedD gang3 gang2 gang1 gangTo at h
  obtain ⟨⟨S, c⟩, hS, h⟩ := List.mem_flatMap.1 h
  obtain ⟨⟨l, k⟩, hl, h⟩ := List.mem_flatMap.1 h
  obtain ⟨i, hi, rfl⟩ := List.mem_map.1 h
  obtain ⟨h1, h2⟩ := List.mem_filter.1 hi
  have hlt := List.mem_range.1 h1
  simp only at hlt h2
  have e1 : l[i]? = some l[i] := List.getElem?_eq_getElem (by omega)
  have e2 : l[i + 1]? = some l[i + 1] := List.getElem?_eq_getElem (by omega)
  refine ⟨c, k, i, S, l, l[i], l[i + 1], rfl, zip_mem.1 hS, zip_mem.1 hl, e1, e2, ?_⟩
  rwa [getD_of e1, getD_of e2] at h2
theorem beside_open {r : RunD} {a b : SpotD} (h : besideB r a b = true) : (a.web = b.web ∧ a.side = b.side ∧ a.row = b.row) ∧ (a.col - b.col = 1 ∨ b.col - a.col = 1) ∧ idxD r a = idxD r b := by
  unfold besideB at h
  simp only [Bool.and_eq_true, decide_eq_true_eq] at h
  exact ⟨h.1.1, h.1.2, h.2⟩
/-- A ganged page and the next one: on one side of a web, in neighbouring columns; the number of the first is odd. -/
theorem gang_facts {r : RunD} (h : checkE r = 0) {p : PlaceD} (hp : p ∈ gangedD r) : ∃ a b : SpotD, whereO r p = some a ∧ whereO r ⟨p.copy, p.sec, p.idx + 1⟩ = some b ∧ a.web = b.web ∧ a.side = b.side ∧ a.row = b.row ∧ (a.col - b.col = 1 ∨ b.col - a.col = 1) ∧ ∃ m : Nat, p.idx = (2 * m + 1 : Nat) := by
  obtain ⟨c, k, i, S, l, a, b, rfl, hS, hl, ha, hb, hbe⟩ := gang_mem hp
  obtain ⟨⟨h1, h2, h3⟩, h4, -⟩ := beside_open hbe
  refine ⟨a, b, where_mem.2 (place_mem.2 ⟨c, k, i, S, l, rfl, hS, hl, ha⟩), where_mem.2 (place_mem.2 ⟨c, k, i + 1, S, l, by simp, hS, hl, hb⟩), h1, h2, h3, h4, ?_⟩
  obtain ⟨kk, st, row, hst, hrow, rfl⟩ := section_of hS hl
  obtain ⟨m, x, hx, hcase⟩ := half_split row _ ha
  rcases hcase with ⟨hi, rfl⟩ | ⟨hi, rfl⟩
  · obtain ⟨-, e1⟩ := half_pair (row : Int) _ m x hx
    obtain ⟨-, -, -, -, -, -, hsd⟩ := half_ok h hst (List.mem_of_getElem? hx)
    subst hi
    have hb2 : ((halvesD r st).flatMap (halfSpots row))[2 * m + 1]? = some b := hb
    rw [e1] at hb2
    have e := Option.some.inj hb2
    subst e
    simp only at h4
    omega
  · exact ⟨m, by simp only [hi]⟩

theorem ribOf_open {b : RibD} {s : SpotD} : ribOfB s b = true ↔ b.web = s.web ∧ b.col ≤ s.col ∧ s.col < b.col + b.width := by
  unfold ribOfB
  rw [decide_eq_true_eq]
theorem idx_on {r : RunD} (h : checkE r = 0) {i : Int} (hi : 0 ≤ i ∧ i < r.ribs.length) {s : SpotD} (hs : (ribAt r i).web = s.web ∧ (ribAt r i).col ≤ s.col ∧ s.col < (ribAt r i).col + (ribAt r i).width) : idxD r s = i := by
  have hit : i.toNat < r.ribs.length := by omega
  have e : ribAt r i = r.ribs[i.toNat] := by unfold ribAt; rw [getD_of (List.getElem?_eq_getElem hit)]
  unfold idxD
  cases hf : r.ribs.findIdx? (ribOfB s) with
  | none =>
    have := List.findIdx?_eq_none_iff.1 hf _ (List.getElem_mem hit)
    rw [← e, ribOf_open.2 hs] at this
    cases this
  | some n =>
    obtain ⟨hn, h1, -⟩ := List.findIdx?_eq_some_iff_getElem.1 hf
    have e2 : ribAt r n = r.ribs[n] := by unfold ribAt; rw [Int.toNat_natCast, getD_of (List.getElem?_eq_getElem hn)]
    have h2 := ribOf_open.1 h1
    rw [← e2] at h2
    simp only
    by_cases hne : (n : Int) = i
    · exact hne
    · exact absurd ⟨by rw [h2.1, hs.1], h2.2.1, h2.2.2, hs.2.1, hs.2.2⟩ (rib_apart2 h (i := (n : Int)) (j := i) ⟨by omega, by omega⟩ hi hne s.col)
def idsR (r : RunD) (st : List Int) : List Int := st.filter fun i => !(ribAt r i).left
def idsL (r : RunD) (st : List Int) : List Int := st.reverse.filter fun i => hasLeft (ribAt r i)
theorem halves_ids (r : RunD) (st : List Int) {m : Nat} {x : HalfD} (hx : (halvesD r st)[m]? = some x) : ∃ i, (idsR r st ++ idsL r st)[m]? = some i ∧ i ∈ st ∧ (x = rightHalfD (ribAt r i) ∨ x = leftHalfD (ribAt r i)) := by
  have e : halvesD r st = (idsR r st).map (fun i => rightHalfD (ribAt r i)) ++ (idsL r st).map fun i => leftHalfD (ribAt r i) := by
    unfold halvesD rightsD leftsD idsR idsL
    rw [sel_eq (fun b => !b.left), sel_eq hasLeft]
  rw [e] at hx
  rcases Nat.lt_or_ge m (idsR r st).length with hm | hm
  · rw [List.getElem?_append_left (by simpa using hm), List.getElem?_map] at hx
    obtain ⟨i, hi, rfl⟩ := Option.map_eq_some_iff.1 hx
    exact ⟨i, by rw [List.getElem?_append_left hm]; exact hi, (List.mem_filter.1 (List.mem_of_getElem? hi)).1, .inl rfl⟩
  · rw [List.getElem?_append_right (by simpa using hm), List.getElem?_map, List.length_map] at hx
    obtain ⟨i, hi, rfl⟩ := Option.map_eq_some_iff.1 hx
    exact ⟨i, by rw [List.getElem?_append_right hm]; exact hi, List.mem_reverse.1 (List.mem_filter.1 (List.mem_of_getElem? hi)).1, .inr rfl⟩
theorem nodup_next {l : List Int} (hd : l.Nodup) {m : Nat} {i : Int} (h1 : l[m]? = some i) (h2 : l[m + 1]? = some i) : False := by
  have hm := (List.getElem?_eq_some_iff.1 h2).1
  have := (List.getElem?_inj (i := m) (j := m + 1) (by omega) hd).1 (h1.trans h2.symm)
  omega
/-- Where in a section a ganged page can be: in one place alone. -/
theorem gang_only {r : RunD} (h : checkE r = 0) {kk : Nat} {st : List Int} (hst : r.stacks[kk]? = some st) {row : Int} {i : Nat} {a b : SpotD} (ha : (spotsD r st row)[i]? = some a) (hb : (spotsD r st row)[i + 1]? = some b) (hbe : besideB r a b = true) : i + 1 = 2 * (idsR r st).length := by
  obtain ⟨⟨h1, h2, h3⟩, h4, h5⟩ := beside_open hbe
  obtain ⟨m, x, hx, hcase⟩ := half_split row _ ha
  rcases hcase with ⟨hi, rfl⟩ | ⟨hi, rfl⟩
  · obtain ⟨-, e1⟩ := half_pair row _ m x hx
    subst hi
    have hb2 : ((halvesD r st).flatMap (halfSpots row))[2 * m + 1]? = some b := hb
    rw [e1] at hb2
    have e := Option.some.inj hb2
    subst e
    simp only at h4
    omega
  · subst hi
    obtain ⟨m2, y, hy, hcase⟩ := half_split row _ hb
    have hm2 : m2 = m + 1 := by rcases hcase with ⟨e, -⟩ | ⟨e, -⟩ <;> omega
    subst hm2
    have hb0 : b.web = y.web ∧ b.col = y.col := by rcases hcase with ⟨-, rfl⟩ | ⟨-, rfl⟩ <;> exact ⟨rfl, rfl⟩
    have hm := List.mem_of_getElem? hst
    obtain ⟨i1, hi1, hs1, hx1⟩ := halves_ids r st hx
    obtain ⟨i2, hi2, hs2, hy1⟩ := halves_ids r st hy
    have r1 := stacks_range h st hm i1 hs1
    have r2 := stacks_range h st hm i2 hs2
    have o1 := half_on (rib_at h r1) x hx1
    have o2 := half_on (rib_at h r2) y hy1
    have x1 := idx_on h r1 (s := ⟨x.web, x.s1, row, x.col⟩) ⟨o1.1.symm, o1.2.1, o1.2.2.1⟩
    have x2 := idx_on h r2 (s := b) ⟨by rw [hb0.1]; exact o2.1.symm, by rw [hb0.2]; exact o2.2.1, by rw [hb0.2]; exact o2.2.2.1⟩
    have he : i1 = i2 := by rw [← x1, ← x2]; exact h5
    subst he
    have hd : st.Nodup := List.nodup_iff_pairwise_ne.2 ((List.pairwise_flatten.1 (List.nodup_iff_pairwise_ne.1 (stacks_flat h))).1 st hm)
    have dR : (idsR r st).Nodup := List.Pairwise.filter _ hd
    have dL : (idsL r st).Nodup := List.Pairwise.filter _ (by rw [List.pairwise_reverse]; exact hd.imp Ne.symm)
    rcases Nat.lt_or_ge (m + 1) (idsR r st).length with hl | hl
    · rw [List.getElem?_append_left (by omega)] at hi1
      rw [List.getElem?_append_left hl] at hi2
      exact (nodup_next dR hi1 hi2).elim
    · rcases Nat.lt_or_ge m (idsR r st).length with hl2 | hl2
      · omega
      · rw [List.getElem?_append_right hl2] at hi1
        rw [List.getElem?_append_right hl, show m + 1 - (idsR r st).length = m - (idsR r st).length + 1 by omega] at hi2
        exact (nodup_next dL hi1 hi2).elim

theorem gang1_mem {r : RunD} {c k : Nat} {l : List SpotD} {p : PlaceD} (h : p ∈ gang1 r c k l) : ∃ (i : Nat) (a b : SpotD), p = ⟨c, k, i⟩ ∧ l[i]? = some a ∧ l[i + 1]? = some b ∧ besideB r a b = true := by
  unfold gang1 gangTo at h
  obtain ⟨i, hi, rfl⟩ := List.mem_map.1 h
  obtain ⟨h1, h2⟩ := List.mem_filter.1 hi
  have hlt := List.mem_range.1 h1
  have e1 : l[i]? = some l[i] := List.getElem?_eq_getElem (by omega)
  have e2 : l[i + 1]? = some l[i + 1] := List.getElem?_eq_getElem (by omega)
  refine ⟨i, l[i], l[i + 1], rfl, e1, e2, ?_⟩
  rwa [getD_of e1, getD_of e2] at h2
theorem gang1_pair (r : RunD) (c k : Nat) (l : List SpotD) : (gang1 r c k l).Pairwise fun p q => p ≠ q := by
  unfold gang1 gangTo
  rw [List.pairwise_map]
  refine List.Pairwise.filter _ ((List.nodup_iff_pairwise_ne.1 List.nodup_range).imp fun hne e => hne ?_)
  simp only [PlaceD.mk.injEq] at e
  omega
theorem zip_pair {α : Type} (l : List α) : l.zipIdx.Pairwise fun x y => x.2 < y.2 := by
  have : ∀ (l : List α) (k : Nat), (l.zipIdx k).Pairwise fun x y => x.2 < y.2 := by
    intro l
    induction l with
    | nil => intro k; exact List.Pairwise.nil
    | cons x l ih =>
      intro k
      rw [List.zipIdx_cons]
      refine List.pairwise_cons.2 ⟨fun y hy => ?_, ih (k + 1)⟩
      have := List.le_snd_of_mem_zipIdx hy
      simp only
      omega
  exact this l 0
/-- The ganged places, in their order: in one copy at most one in each section, the sections rising. -/
theorem gang_order {r : RunD} (h : checkE r = 0) : (gangedD r).Pairwise fun p q => p.copy = q.copy → p.sec < q.sec := by
  have h1c : ∀ (S : List (List SpotD)) (c k : Nat) (l : List SpotD) (p : PlaceD), p ∈ gang1 r c k l → p.copy = c ∧ p.sec = k := fun S c k l p hp => by
    obtain ⟨i, a, b, rfl, -⟩ := gang1_mem hp
    exact ⟨rfl, rfl⟩
  unfold gangedD gang3
  refine List.pairwise_flatMap.2 ⟨fun X hX => ?_, (zip_pair _).imp fun {X Y} hlt p hp q hq he => ?_⟩
  · obtain ⟨S, c⟩ := X
    have hS := zip_mem.1 hX
    unfold gang2
    refine List.pairwise_flatMap.2 ⟨fun Z hZ => ?_, (zip_pair _).imp fun {Z W} hlt p hp q hq _ => ?_⟩
    · obtain ⟨l, k⟩ := Z
      have hl := zip_mem.1 hZ
      obtain ⟨kk, st, row, hst, -, rfl⟩ := section_of hS hl
      refine (gang1_pair r c k _).imp_of_mem fun {p q} hp hq hne _ => ?_
      obtain ⟨i, a, b, rfl, ha, hb, hbe⟩ := gang1_mem hp
      obtain ⟨j, a2, b2, rfl, ha2, hb2, hbe2⟩ := gang1_mem hq
      have e1 := gang_only h hst ha hb hbe
      have e2 := gang_only h hst ha2 hb2 hbe2
      have e3 : i = j := by omega
      subst e3
      exact absurd rfl hne
    · have e1 := (h1c S c _ _ p hp).2
      have e2 := (h1c S c _ _ q hq).2
      rw [e1, e2]
      omega
  · obtain ⟨Z, -, hp⟩ := List.mem_flatMap.1 hp
    obtain ⟨W, -, hq⟩ := List.mem_flatMap.1 hq
    have e1 := (h1c [] _ _ _ p hp).1
    have e2 := (h1c [] _ _ _ q hq).1
    rw [e1, e2] at he
    omega

end Go.Proofs.Ytdbfhdncjblleaa
