/-
  Plain facts of a right run: ribbons lie apart, halves differ.
  Where and Follow are inverse to each other; every spot of a right run has its place.
  The two sides of one web in one row and column: back to back.
  A ribbon that is turned over: the run stays right.
  A ribbon that is turned over: where its spots go.
  Ganged places.
-/
import Derived.Test.YtdbfhdncjblleaaKh
namespace Go.Proofs.Ytdbfhdncjblleaa
open Go.RowKit

theorem rib_apart {r : RunD} (h : checkE r = 0) {m k : Nat} (hmk : m < k) (hk : k < r.ribs.length) (c : Int) :
    ¬ ((r.ribs.getD m default).web = (r.ribs.getD k default).web ∧ (r.ribs.getD m default).col ≤ c ∧ c < (r.ribs.getD m default).col + (r.ribs.getD m default).width ∧
      (r.ribs.getD k default).col ≤ c ∧ c < (r.ribs.getD k default).col + (r.ribs.getD k default).width) := by
  rintro ⟨h1, h2, h3, h4, h5⟩
  have hok := rib_ok h hk
  have hd := (ribs_ok2 (parts_ok h 2 (by omega))).1
  have hg := List.all_eq_true.1 hd k (List.mem_range.2 hk)
  simp only [Bool.and_eq_true] at hg
  have hf := hg.2
  unfold freeB at hf
  have hw := hok.web0
  have hc := hok.col0
  have hj := List.all_eq_true.1 hf (c - (r.ribs.getD k default).col).toNat (List.mem_range.2 (by omega))
  have hm : r.ribs.getD m default ∈ r.ribs.take k := by
    have e : (r.ribs.take k)[m]? = some (r.ribs.getD m default) := by
      rw [List.getElem?_take_of_lt hmk, List.getD_eq_getElem?_getD, List.getElem?_eq_getElem (by omega)]; rfl
    exact List.mem_of_getElem? e
  have hcov : cov (r.ribs.take k) (r.ribs.getD k default).web.toNat ((r.ribs.getD k default).col.toNat + (c - (r.ribs.getD k default).col).toNat) = true := by
    unfold cov
    refine List.any_eq_true.2 ⟨_, hm, decide_eq_true ⟨?_, ?_, ?_⟩⟩ <;> omega
  rw [hcov] at hj
  cases hj
theorem rib_apart2 {r : RunD} (h : checkE r = 0) {i j : Int} (hi : 0 ≤ i ∧ i < r.ribs.length) (hj : 0 ≤ j ∧ j < r.ribs.length) (hne : i ≠ j) (c : Int) :
    ¬ ((ribAt r i).web = (ribAt r j).web ∧ (ribAt r i).col ≤ c ∧ c < (ribAt r i).col + (ribAt r i).width ∧ (ribAt r j).col ≤ c ∧ c < (ribAt r j).col + (ribAt r j).width) := by
  unfold ribAt
  rcases Nat.lt_or_ge i.toNat j.toNat with hl | hl
  · exact rib_apart h hl (by omega) c
  · rintro ⟨h1, h2, h3, h4, h5⟩
    exact rib_apart h (m := j.toNat) (k := i.toNat) (by omega) (by omega) c ⟨h1.symm, h4, h5, h2, h3⟩
/-- Where a half lies. -/
def HalfD.at (x : HalfD) : Int × Int := (x.web, x.col)
theorem half_apart {r : RunD} (h : checkE r = 0) {i j : Int} (hi : 0 ≤ i ∧ i < r.ribs.length) (hj : 0 ≤ j ∧ j < r.ribs.length) (hne : i ≠ j) {x y : HalfD}
    (hx : x = rightHalfD (ribAt r i) ∨ x = leftHalfD (ribAt r i)) (hy : y = rightHalfD (ribAt r j) ∨ y = leftHalfD (ribAt r j)) : x.at ≠ y.at := by
  intro he
  have h1 := half_on (rib_at h hi) x hx
  have h2 := half_on (rib_at h hj) y hy
  simp only [HalfD.at, Prod.mk.injEq] at he
  exact rib_apart2 h hi hj hne x.col ⟨by rw [← h1.1, ← h2.1]; exact he.1, h1.2.1, h1.2.2.1, by rw [he.2]; exact h2.2.1, by rw [he.2]; exact h2.2.2.1⟩
theorem half_self {r : RunD} {b : RibD} (ho : RibOk r b) (h1 : b.left = false) (h2 : hasLeft b = true) : (rightHalfD b).at ≠ (leftHalfD b).at := by
  have hw : b.width = 2 := by
    unfold hasLeft at h2
    rw [h1] at h2
    simpa using h2
  unfold rightHalfD leftHalfD HalfD.at
  cases b.turned <;> simp <;> omega

def InRange (r : RunD) (l : List Int) : Prop := ∀ i ∈ l, 0 ≤ i ∧ i < r.ribs.length
theorem right_mem {r : RunD} {l : List Int} {x : HalfD} (hx : x ∈ rightsD r l) : ∃ i ∈ l, x = rightHalfD (ribAt r i) ∧ (ribAt r i).left = false := by
  obtain ⟨b, hb, rfl⟩ := List.mem_map.1 hx
  obtain ⟨hb1, hb2⟩ := List.mem_filter.1 hb
  obtain ⟨i, hi, rfl⟩ := List.mem_map.1 hb1
  exact ⟨i, hi, rfl, by simpa using hb2⟩
theorem left_mem {r : RunD} {l : List Int} {x : HalfD} (hx : x ∈ leftsD r l) : ∃ i ∈ l, x = leftHalfD (ribAt r i) ∧ hasLeft (ribAt r i) = true := by
  obtain ⟨b, hb, rfl⟩ := List.mem_map.1 hx
  obtain ⟨hb1, hb2⟩ := List.mem_filter.1 hb
  obtain ⟨i, hi, rfl⟩ := List.mem_map.1 hb1
  exact ⟨i, hi, rfl, hb2⟩
theorem rights_pair {r : RunD} (h : checkE r = 0) {l : List Int} (hl : InRange r l) (hd : l.Nodup) : (rightsD r l).Pairwise fun x y => x.at ≠ y.at := by
  unfold rightsD
  rw [List.pairwise_map]
  refine List.Pairwise.filter _ ?_
  rw [List.pairwise_map]
  exact (List.nodup_iff_pairwise_ne.1 hd).imp_of_mem fun ha hb hne => half_apart h (hl _ ha) (hl _ hb) hne (.inl rfl) (.inl rfl)
theorem lefts_pair {r : RunD} (h : checkE r = 0) {l : List Int} (hl : InRange r l) (hd : l.Nodup) : (leftsD r l).Pairwise fun x y => x.at ≠ y.at := by
  unfold leftsD
  rw [List.pairwise_map]
  refine List.Pairwise.filter _ ?_
  rw [List.pairwise_map]
  exact (List.nodup_iff_pairwise_ne.1 hd).imp_of_mem fun ha hb hne => half_apart h (hl _ ha) (hl _ hb) hne (.inr rfl) (.inr rfl)
theorem halves_pair {r : RunD} (h : checkE r = 0) {l : List Int} (hl : InRange r l) (hd : l.Nodup) : (halvesD r l).Pairwise fun x y => x.at ≠ y.at := by
  have hr : InRange r l.reverse := fun i hi => hl i (List.mem_reverse.1 hi)
  refine List.pairwise_append.2 ⟨rights_pair h hl hd, lefts_pair h hr (by rw [List.nodup_iff_pairwise_ne, List.pairwise_reverse]; exact (List.nodup_iff_pairwise_ne.1 hd).imp Ne.symm), fun x hx y hy => ?_⟩
  obtain ⟨i, hi, rfl, hi2⟩ := right_mem hx
  obtain ⟨j, hj, rfl, hj2⟩ := left_mem hy
  by_cases he : i = j
  · subst he
    exact half_self (rib_at h (hl i hi)) hi2 hj2
  · exact half_apart h (hl i hi) (hr j hj) he (.inl rfl) (.inr rfl)
theorem half_any {r : RunD} {st : List Int} {x : HalfD} (hx : x ∈ halvesD r st) : ∃ i ∈ st, x = rightHalfD (ribAt r i) ∨ x = leftHalfD (ribAt r i) := by
  rcases half_of hx with ⟨i, hi, rfl, -⟩ | ⟨i, hi, rfl, -⟩
  · exact ⟨i, hi, .inl rfl⟩
  · exact ⟨i, hi, .inr rfl⟩
theorem stacks_range {r : RunD} (h : checkE r = 0) : ∀ st ∈ r.stacks, InRange r st := fun st hst i hi => by
  obtain ⟨k, hk, rfl⟩ := List.getElem_of_mem hst
  exact stack_items h (List.getElem?_eq_getElem hk) i hi
theorem stacks_flat {r : RunD} (h : checkE r = 0) : r.stacks.flatten.Nodup := by
  have := flat_nodup h r.stacks.length (Nat.le_refl _)
  rwa [List.take_length] at this
/-- Halves of two stacks lie apart. -/
theorem stacks_pair {r : RunD} (h : checkE r = 0) : r.stacks.Pairwise fun s t => ∀ x ∈ halvesD r s, ∀ y ∈ halvesD r t, x.at ≠ y.at := by
  have hp := (List.pairwise_flatten.1 (List.nodup_iff_pairwise_ne.1 (stacks_flat h))).2
  refine hp.imp_of_mem fun hs ht hne x hx y hy => ?_
  obtain ⟨i, hi, hx⟩ := half_any hx
  obtain ⟨j, hj, hy⟩ := half_any hy
  exact half_apart h (stacks_range h _ hs i hi) (stacks_range h _ ht j hj) (hne i hi j hj) hx hy
theorem stack_pair {r : RunD} (h : checkE r = 0) {st : List Int} (hst : st ∈ r.stacks) : (halvesD r st).Pairwise fun x y => x.at ≠ y.at := by
  refine halves_pair h (stacks_range h st hst) ?_
  exact List.nodup_iff_pairwise_ne.2 ((List.pairwise_flatten.1 (List.nodup_iff_pairwise_ne.1 (stacks_flat h))).1 st hst)

/-- A spot of a half. -/
theorem spot_mem {row : Int} {x : HalfD} {s : SpotD} (h : s ∈ halfSpots row x) : s.row = row ∧ (s.web, s.col) = x.at := by
  simp only [halfSpots, List.mem_cons, List.not_mem_nil, or_false] at h
  rcases h with rfl | rfl <;> exact ⟨rfl, rfl⟩
theorem spots_mem {r : RunD} {st : List Int} {row : Int} {s : SpotD} (h : s ∈ spotsD r st row) : s.row = row ∧ ∃ x ∈ halvesD r st, (s.web, s.col) = x.at := by
  obtain ⟨x, hx, hs⟩ := List.mem_flatMap.1 h
  exact ⟨(spot_mem hs).1, x, hx, (spot_mem hs).2⟩
theorem spots_pair {r : RunD} (h : checkE r = 0) {st : List Int} (hst : st ∈ r.stacks) (row : Int) : (spotsD r st row).Nodup := by
  rw [List.nodup_iff_pairwise_ne]
  unfold spotsD
  refine List.pairwise_flatMap.2 ⟨fun x hx => ?_, (stack_pair h hst).imp fun hne s hs t ht e => hne ?_⟩
  · obtain ⟨k, hk, e⟩ := List.getElem_of_mem hst
    obtain ⟨i, -, -, -, -, -, hs⟩ := half_ok h (List.getElem?_eq_getElem hk) (by rw [e]; exact hx)
    simp only [halfSpots, List.pairwise_cons, List.mem_cons, List.not_mem_nil, or_false, forall_eq, List.Pairwise.nil, and_true, false_imp_iff, implies_true, ne_eq, SpotD.mk.injEq]
    omega
  · rw [← (spot_mem hs).2, ← (spot_mem ht).2, e]
theorem flat_flat {α β : Type} (f : α → List (List β)) : ∀ l : List α, (l.flatMap f).flatten = l.flatMap fun x => (f x).flatten
  | [] => rfl
  | x :: l => by rw [List.flatMap_cons, List.flatten_append, flat_flat f l, List.flatMap_cons]
def allSpots (r : RunD) : List SpotD := (layoutD r).flatten.flatten
theorem spots_nodup {r : RunD} (h : checkE r = 0) : (allSpots r).Nodup := by
  have hrows : (List.range (rows0 r).toNat).Pairwise fun a b => a ≠ b := List.nodup_iff_pairwise_ne.1 List.nodup_range
  have hst : ∀ row : Int, (r.stacks.flatMap fun st => spotsD r st row).Nodup := fun row => by
    rw [List.nodup_iff_pairwise_ne]
    refine List.pairwise_flatMap.2 ⟨fun st hs => List.nodup_iff_pairwise_ne.1 (spots_pair h hs row), (stacks_pair h).imp fun hne s hs t ht e => ?_⟩
    obtain ⟨-, x, hx, e1⟩ := spots_mem hs
    obtain ⟨-, y, hy, e2⟩ := spots_mem ht
    exact hne x hx y hy (by rw [← e1, ← e2, e])
  unfold allSpots
  cases hc : r.coll with
  | true =>
    rw [layout_coll hc]
    have e : ([collectedD r].flatten).flatten = r.stacks.flatMap fun st => (List.range (rows0 r).toNat).flatMap fun (row : Nat) => spotsD r st row := by
      rw [List.flatten_singleton]
      unfold collectedD rowsD
      rw [flat_flat]
      rfl
    rw [e, List.nodup_iff_pairwise_ne]
    refine List.pairwise_flatMap.2 ⟨fun st hs => List.pairwise_flatMap.2 ⟨fun row _ => List.nodup_iff_pairwise_ne.1 (spots_pair h hs row), hrows.imp fun hne s hs t ht e => hne ?_⟩, (stacks_pair h).imp fun hne s hs t ht e => ?_⟩
    · obtain ⟨row, -, hs1⟩ := List.mem_flatMap.1 hs
      obtain ⟨row2, -, ht1⟩ := List.mem_flatMap.1 ht
      obtain ⟨-, x, hx, e1⟩ := spots_mem hs1
      obtain ⟨-, y, hy, e2⟩ := spots_mem ht1
      exact hne x hx y hy (by rw [← e1, ← e2, e])
    · have h1 := (spots_mem hs).1
      have h2 := (spots_mem ht).1
      rw [e] at h1
      omega
  | false =>
    rw [layout_straight hc]
    have e : (((List.range (rows0 r).toNat).map fun (row : Nat) => straightD r row).flatten).flatten = (List.range (rows0 r).toNat).flatMap fun (row : Nat) => r.stacks.flatMap fun st => spotsD r st row := by
      rw [← List.flatMap_def, flat_flat]
      rfl
    rw [e, List.nodup_iff_pairwise_ne]
    refine List.pairwise_flatMap.2 ⟨fun row _ => List.nodup_iff_pairwise_ne.1 (hst row), hrows.imp fun hne s hs t ht e => hne ?_⟩
    obtain ⟨st, -, hs1⟩ := List.mem_flatMap.1 hs
    obtain ⟨st2, -, ht1⟩ := List.mem_flatMap.1 ht
    have h1 := (spots_mem hs1).1
    have h2 := (spots_mem ht1).1
    rw [e] at h1
    omega

theorem zip_fst {α : Type} (l : List α) (k : Nat) : (l.zipIdx k).map (·.1) = l := by
  induction l generalizing k with
  | nil => rfl
  | cons x l ih => rw [List.zipIdx_cons, List.map_cons, ih]
theorem row1_keys (c s : Nat) (l : List SpotD) : (row1 c s l).map (·.1) = l := by
  unfold row1
  rw [List.map_map]
  exact zip_fst l 0
theorem zip_flat {α β : Type} (f : α → Nat → List β) (g : α → List β) (hfg : ∀ x i, f x i = g x) : ∀ (l : List α) (k : Nat), ((l.zipIdx k).flatMap fun x => f x.1 x.2) = l.flatMap g
  | [], _ => rfl
  | x :: l, k => by rw [List.zipIdx_cons, List.flatMap_cons, List.flatMap_cons, zip_flat f g hfg l, hfg]
theorem row2_keys (c : Nat) (l : List (List SpotD)) : (row2 c l).map (·.1) = l.flatten := by
  unfold row2
  rw [List.map_flatMap, zip_flat (fun x i => (row1 c i x).map (·.1)) id (fun x i => row1_keys c i x) l 0, List.flatMap_id]
theorem row3_keys (l : List (List (List SpotD))) : (row3 l).map (·.1) = l.flatten.flatten := by
  unfold row3
  rw [List.map_flatMap, zip_flat (fun x i => (row2 i x).map (·.1)) List.flatten (fun x i => row2_keys i x) l 0]
  have := flat_flat (fun x : List (List SpotD) => x) l
  rw [← this, show (l.flatMap fun x => x) = l.flatten from by rw [List.flatMap_def, List.map_id']]
/-- What R and T ask: each spot is told of once. -/
theorem hnd_ok {r : RunD} (h : checkE r = 0) : ((placesD r).map (·.1)).Nodup := by
  unfold placesD
  rw [row3_keys]
  exact spots_nodup h
/-- Follow, without a premise. -/
theorem Follow_any (v : Value) (r : RunD) (s : SpotD) (w : World) (h : RRun w.heap.size w v r) :
    Calls Try.prog 23 #[v, .agg #[.int .i64 s.web, .int .i64 s.side, .int .i64 s.row, .int .i64 s.col]] w fun e w' => e = .returned (placeRet (followD r s)) ∧ Below w.heap.size w w' :=
  follow_any v r s w h hnd_ok

end Go.Proofs.Ytdbfhdncjblleaa
namespace Go.Proofs.Ytdbfhdncjblleaa
open Go.RowKit

theorem zip_mem {α : Type} {l : List α} {x : α} {i : Nat} : (x, i) ∈ l.zipIdx ↔ l[i]? = some x := List.mem_zipIdx_iff_getElem?
theorem place_mem {r : RunD} {s : SpotD} {p : PlaceD} : (s, p) ∈ placesD r ↔ ∃ (c k i : Nat) (S : List (List SpotD)) (l : List SpotD), p = ⟨c, k, i⟩ ∧ (layoutD r)[c]? = some S ∧ S[k]? = some l ∧ l[i]? = some s := by
  unfold placesD row3 row2 row1
  constructor
  · intro h
    obtain ⟨⟨S, c⟩, hS, h⟩ := List.mem_flatMap.1 h
    obtain ⟨⟨l, k⟩, hl, h⟩ := List.mem_flatMap.1 h
    obtain ⟨⟨x, i⟩, hx, h⟩ := List.mem_map.1 h
    simp only [Prod.mk.injEq] at h
    obtain ⟨rfl, rfl⟩ := h
    exact ⟨c, k, i, S, l, rfl, zip_mem.1 hS, zip_mem.1 hl, zip_mem.1 hx⟩
  · rintro ⟨c, k, i, S, l, rfl, hS, hl, hx⟩
    exact List.mem_flatMap.2 ⟨(S, c), zip_mem.2 hS, List.mem_flatMap.2 ⟨(l, k), zip_mem.2 hl, List.mem_map.2 ⟨(s, i), zip_mem.2 hx, rfl⟩⟩⟩
theorem getI_some {α : Type} {l : List α} {i : Int} {x : α} (h : getI l i = some x) : ∃ k : Nat, i = k ∧ l[k]? = some x := by
  unfold getI at h
  split at h
  · exact ⟨i.toNat, by omega, h⟩
  · cases h
theorem where_mem {r : RunD} {s : SpotD} {p : PlaceD} : whereO r p = some s ↔ (s, p) ∈ placesD r := by
  rw [place_mem]
  unfold whereO
  constructor
  · intro h
    obtain ⟨S, h1, h⟩ := Option.bind_eq_some_iff.1 h
    obtain ⟨l, h2, h⟩ := Option.bind_eq_some_iff.1 h
    obtain ⟨c, hc, h1⟩ := getI_some h1
    obtain ⟨k, hk, h2⟩ := getI_some h2
    obtain ⟨i, hi, h⟩ := getI_some h
    obtain ⟨pc, pk, pi⟩ := p
    simp only at hc hk hi
    subst hc hk hi
    exact ⟨c, k, i, S, l, rfl, h1, h2, h⟩
  · rintro ⟨c, k, i, S, l, rfl, h1, h2, h⟩
    simp only [getI_nat, h1, h2, h, Option.bind_some]
theorem key_uniq {α β : Type} : ∀ {l : List (α × β)}, (l.map (·.1)).Nodup → ∀ {a : α} {b c : β}, (a, b) ∈ l → (a, c) ∈ l → b = c
  | [], _, a, b, c, h, _ => by cases h
  | x :: l, hn, a, b, c, h1, h2 => by
    rw [List.map_cons, List.nodup_cons] at hn
    rcases List.mem_cons.1 h1 with e1 | m1 <;> rcases List.mem_cons.1 h2 with e2 | m2
    · have := e1.trans e2.symm
      simpa using this
    · exact absurd (List.mem_map.2 ⟨_, m2, by rw [← e1]⟩) hn.1
    · exact absurd (List.mem_map.2 ⟨_, m1, by rw [← e2]⟩) hn.1
    · exact key_uniq hn.2 m1 m2
theorem follow_mem {r : RunD} (h : checkE r = 0) {s : SpotD} {p : PlaceD} : followO r s = some p ↔ (s, p) ∈ placesD r := by
  unfold followO
  constructor
  · intro hf
    obtain ⟨x, hx, rfl⟩ := Option.map_eq_some_iff.1 hf
    have h1 := List.find?_some hx
    have h2 := List.mem_of_find?_eq_some hx
    simp only [decide_eq_true_eq] at h1
    subst h1
    exact h2
  · intro hm
    cases hf : (placesD r).find? fun x => decide (x.1 = s) with
    | none =>
      have := List.find?_eq_none.1 hf _ hm
      simp at this
    | some x =>
      have h1 := List.find?_some hf
      have h2 := List.mem_of_find?_eq_some hf
      simp only [decide_eq_true_eq] at h1
      obtain ⟨s', q⟩ := x
      simp only at h1
      subst h1
      rw [key_uniq (hnd_ok h) hm h2]; rfl
/-- The two are inverse. -/
theorem follow_where {r : RunD} (h : checkE r = 0) {s : SpotD} {p : PlaceD} : followO r s = some p ↔ whereO r p = some s := (follow_mem h).trans where_mem.symm
theorem follow_some {r : RunD} (h : checkE r = 0) {s : SpotD} (hs : s ∈ allSpots r) : ∃ p, followO r s = some p := by
  have : s ∈ (placesD r).map (·.1) := by
    unfold placesD
    rw [row3_keys]
    exact hs
  obtain ⟨x, hx, rfl⟩ := List.mem_map.1 this
  exact ⟨x.2, (follow_mem h).2 hx⟩

theorem all_mem {r : RunD} {s : SpotD} : s ∈ allSpots r ↔ ∃ st ∈ r.stacks, ∃ row, row < (rows0 r).toNat ∧ s ∈ spotsD r st row := by
  unfold allSpots
  simp only [List.mem_flatten]
  cases hc : r.coll with
  | true =>
    rw [layout_coll hc]
    constructor
    · rintro ⟨l, ⟨S, hS, hl⟩, hs⟩
      rw [List.mem_singleton] at hS
      subst hS
      obtain ⟨st, hst, hl⟩ := List.mem_flatMap.1 hl
      obtain ⟨row, hrow, rfl⟩ := List.mem_map.1 hl
      exact ⟨st, hst, row, List.mem_range.1 hrow, hs⟩
    · rintro ⟨st, hst, row, hrow, hs⟩
      exact ⟨_, ⟨_, List.mem_singleton.2 rfl, List.mem_flatMap.2 ⟨st, hst, List.mem_map.2 ⟨row, List.mem_range.2 hrow, rfl⟩⟩⟩, hs⟩
  | false =>
    rw [layout_straight hc]
    constructor
    · rintro ⟨l, ⟨S, hS, hl⟩, hs⟩
      obtain ⟨row, hrow, rfl⟩ := List.mem_map.1 hS
      obtain ⟨st, hst, rfl⟩ := List.mem_map.1 hl
      exact ⟨st, hst, row, List.mem_range.1 hrow, hs⟩
    · rintro ⟨st, hst, row, hrow, hs⟩
      exact ⟨_, ⟨_, List.mem_map.2 ⟨row, List.mem_range.2 hrow, rfl⟩, List.mem_map.2 ⟨st, hst, rfl⟩⟩, hs⟩
theorem half_cover {r : RunD} {b : RibD} (ho : RibOk r b) {c : Int} (h1 : b.col ≤ c) (h2 : c < b.col + b.width) : (b.left = false ∧ (rightHalfD b).at = (b.web, c)) ∨ (hasLeft b = true ∧ (leftHalfD b).at = (b.web, c)) := by
  have hw0 := ho.width0
  have hw1 := ho.width1
  rcases Int.lt_or_le b.width 2 with hw | hw
  · have hc : c = b.col := by omega
    have hb : b.width = 1 := by omega
    subst hc
    cases hl : b.left with
    | false =>
      left
      refine ⟨rfl, ?_⟩
      unfold rightHalfD HalfD.at
      rw [hb]
      cases b.turned <;> simp
    | true =>
      right
      unfold hasLeft leftHalfD HalfD.at
      rw [hb, hl]
      cases b.turned <;> simp
  · have hb : b.width = 2 := by omega
    have hl := ho.left hb
    have hh : hasLeft b = true := by unfold hasLeft; rw [hb]; rfl
    rw [hl]
    rcases (show c = b.col ∨ c = b.col + 1 by omega) with rfl | rfl
    · cases ht : b.turned with
      | true => left; refine ⟨rfl, ?_⟩; unfold rightHalfD HalfD.at; rw [ht]; rfl
      | false => right; refine ⟨hh, ?_⟩; unfold leftHalfD HalfD.at; rw [ht]; rfl
    · cases ht : b.turned with
      | true => right; refine ⟨hh, ?_⟩; unfold leftHalfD HalfD.at; rw [ht, hb]; simp; omega
      | false => left; refine ⟨rfl, ?_⟩; unfold rightHalfD HalfD.at; rw [ht, hb]; simp; omega
theorem in_stack {r : RunD} (h : checkE r = 0) {k : Nat} (hk : k < r.ribs.length) : ∃ st ∈ r.stacks, (k : Int) ∈ st := by
  have := List.all_eq_true.1 (stacks_ok2 (parts_ok h 3 (by omega))).2 k (List.mem_range.2 hk)
  have hm : (k : Int) ∈ r.stacks.flatten := by simpa using this
  obtain ⟨st, hst, hi⟩ := List.mem_flatten.1 hm
  exact ⟨st, hst, hi⟩
theorem half_there {r : RunD} (h : checkE r = 0) {w c : Nat} (hw : w < r.webs.length) (hc : (c : Int) < (r.webs.getD w default).cols) : ∃ st ∈ r.stacks, ∃ x ∈ halvesD r st, x.at = ((w : Int), (c : Int)) := by
  have hcov := (ribs_ok2 (parts_ok h 2 (by omega))).2
  have h1 := List.all_eq_true.1 hcov w (List.mem_range.2 hw)
  have h2 := List.all_eq_true.1 h1 c (List.mem_range.2 (by omega))
  unfold cov at h2
  obtain ⟨b, hb, hbc⟩ := List.any_eq_true.1 h2
  obtain ⟨hb1, hb2, hb3⟩ := of_decide_eq_true hbc
  obtain ⟨k, hk, rfl⟩ := List.getElem_of_mem hb
  have e : ribAt r k = r.ribs[k] := by
    unfold ribAt
    rw [Int.toNat_natCast, getD_of (List.getElem?_eq_getElem hk)]
  obtain ⟨st, hst, hi⟩ := in_stack h hk
  have ho := rib_at h (i := (k : Int)) ⟨by omega, by omega⟩
  rw [← e] at hb1 hb2 hb3
  refine ⟨st, hst, ?_⟩
  rcases half_cover ho hb2 hb3 with ⟨hl, ha⟩ | ⟨hl, ha⟩
  · refine ⟨_, List.mem_append.2 (.inl (List.mem_map.2 ⟨ribAt r k, List.mem_filter.2 ⟨List.mem_map.2 ⟨_, hi, rfl⟩, by rw [hl]; rfl⟩, rfl⟩)), by rw [ha, hb1]⟩
  · refine ⟨_, List.mem_append.2 (.inr (List.mem_map.2 ⟨ribAt r k, List.mem_filter.2 ⟨List.mem_map.2 ⟨_, List.mem_reverse.2 hi, rfl⟩, hl⟩, rfl⟩)), by rw [ha, hb1]⟩
/-- Every spot of a right run is told of. -/
theorem spot_there {r : RunD} (h : checkE r = 0) {w row c : Nat} (side : Int) (hw : w < r.webs.length) (hrow : row < (rows0 r).toNat) (hc : (c : Int) < (r.webs.getD w default).cols) (hs : side = 0 ∨ side = 1) : (⟨w, side, row, c⟩ : SpotD) ∈ allSpots r := by
  obtain ⟨st, hst, x, hx, ha⟩ := half_there h hw hc
  obtain ⟨k, hk, e⟩ := List.getElem_of_mem hst
  obtain ⟨i, -, -, -, -, -, hsd⟩ := half_ok h (List.getElem?_eq_getElem hk) (by rw [e]; exact hx)
  refine all_mem.2 ⟨st, hst, row, hrow, List.mem_flatMap.2 ⟨x, hx, ?_⟩⟩
  unfold HalfD.at at ha
  simp only [Prod.mk.injEq] at ha
  simp only [halfSpots, List.mem_cons, List.not_mem_nil, or_false, SpotD.mk.injEq, ha.1, ha.2, true_and, and_true]
  omega

end Go.Proofs.Ytdbfhdncjblleaa
namespace Go.Proofs.Ytdbfhdncjblleaa
open Go.RowKit

theorem half_pair (row : Int) : ∀ (l : List HalfD) (m : Nat) (x : HalfD), l[m]? = some x → (l.flatMap (halfSpots row))[2 * m]? = some ⟨x.web, x.s0, row, x.col⟩ ∧ (l.flatMap (halfSpots row))[2 * m + 1]? = some ⟨x.web, x.s1, row, x.col⟩
  | [], m, x, h => by simp at h
  | y :: l, 0, x, h => by
    simp only [List.getElem?_cons_zero, Option.some.injEq] at h
    subst h
    exact ⟨rfl, rfl⟩
  | y :: l, m + 1, x, h => by
    have ih := half_pair row l m x (by simpa using h)
    have e1 : 2 * (m + 1) = 2 * m + 1 + 1 := by omega
    have e2 : 2 * (m + 1) + 1 = (2 * m + 1) + 1 + 1 := by omega
    rw [e2, e1]
    exact ih
theorem half_split (row : Int) (l : List HalfD) {i : Nat} {s : SpotD} (h : (l.flatMap (halfSpots row))[i]? = some s) : ∃ (m : Nat) (x : HalfD), l[m]? = some x ∧ ((i = 2 * m ∧ s = ⟨x.web, x.s0, row, x.col⟩) ∨ (i = 2 * m + 1 ∧ s = ⟨x.web, x.s1, row, x.col⟩)) := by
  have hlen : (l.flatMap (halfSpots row)).length = 2 * l.length := outD_len row l
  have hi := (List.getElem?_eq_some_iff.1 h).1
  have hm : i / 2 < l.length := by omega
  have hx : l[i / 2]? = some l[i / 2] := List.getElem?_eq_getElem hm
  obtain ⟨h0, h1⟩ := half_pair row l (i / 2) _ hx
  refine ⟨i / 2, _, hx, ?_⟩
  rcases (show i = 2 * (i / 2) ∨ i = 2 * (i / 2) + 1 by omega) with e | e
  · rw [← e, h] at h0
    exact .inl ⟨e, Option.some.inj h0⟩
  · rw [← e, h] at h1
    exact .inr ⟨e, Option.some.inj h1⟩
/-- Back to back: one is the next page after the other. -/
theorem faces {r : RunD} (h : checkE r = 0) {w row c : Int} {p q : PlaceD} (hp : followO r ⟨w, 0, row, c⟩ = some p) (hq : followO r ⟨w, 1, row, c⟩ = some q) :
    ∃ m : Nat, p.copy = q.copy ∧ p.sec = q.sec ∧ ((p.idx = (2 * m : Nat) ∧ q.idx = (2 * m + 1 : Nat)) ∨ (p.idx = (2 * m + 1 : Nat) ∧ q.idx = (2 * m : Nat))) := by
  obtain ⟨cc, k, i, S, l, rfl, hS, hl, hi⟩ := place_mem.1 ((follow_mem h).1 hp)
  obtain ⟨kk, st, row', hst, hrow, e⟩ := section_of hS hl
  have hi2 := hi
  rw [e] at hi2
  obtain ⟨m, x, hx, hcase⟩ := half_split row' _ hi2
  obtain ⟨h0, h1⟩ := half_pair (row' : Int) _ m x hx
  obtain ⟨-, -, -, -, -, -, hsd⟩ := half_ok h hst (List.mem_of_getElem? hx)
  have key : ∀ j : Nat, l[j]? = some ⟨w, 1, row, c⟩ → q = ⟨cc, k, j⟩ := fun j hj => by
    have h2 : followO r ⟨w, 1, row, c⟩ = some ⟨cc, k, j⟩ := (follow_mem h).2 (place_mem.2 ⟨cc, k, j, S, l, rfl, hS, hl, hj⟩)
    rw [hq] at h2
    exact Option.some.inj h2
  rcases hcase with ⟨hi3, hs⟩ | ⟨hi3, hs⟩ <;> simp only [SpotD.mk.injEq] at hs <;> obtain ⟨e1, e2, e3, e4⟩ := hs
  · have hq2 := key (2 * m + 1) (by rw [e]; show ((halvesD r st).flatMap (halfSpots row'))[2 * m + 1]? = _; rw [h1, e1, e3, e4, show x.s1 = 1 by omega])
    exact ⟨m, by rw [hq2], by rw [hq2], .inl ⟨by simp only [hi3], by rw [hq2]⟩⟩
  · have hq2 := key (2 * m) (by rw [e]; show ((halvesD r st).flatMap (halfSpots row'))[2 * m]? = _; rw [h0, e1, e3, e4, show x.s0 = 1 by omega])
    exact ⟨m, by rw [hq2], by rw [hq2], .inr ⟨by simp only [hi3], by rw [hq2]⟩⟩

end Go.Proofs.Ytdbfhdncjblleaa
namespace Go.Proofs.Ytdbfhdncjblleaa
open Go.RowKit

def RibD.flat (b : RibD) : Int × Int × Int × Bool := (b.web, b.col, b.width, b.left)
theorem cov_flat (l : List RibD) (a c : Nat) : cov l a c = (l.map RibD.flat).any fun p => decide (p.1 = a ∧ p.2.1 ≤ c ∧ (c : Int) < p.2.1 + p.2.2.1) := by
  unfold cov
  rw [List.any_map]; rfl
theorem fits_flat {r : RunD} {rs : List RibD} {x y : RibD} (h : x.flat = y.flat) : fitsB { r with ribs := rs } x = fitsB r y := by
  unfold RibD.flat at h
  simp only [Prod.mk.injEq] at h
  obtain ⟨h1, h2, h3, h4⟩ := h
  unfold fitsB
  rw [h1, h2, h3, h4]
theorem cov_same {l m : List RibD} (h : l.map RibD.flat = m.map RibD.flat) (a c : Nat) : cov l a c = cov m a c := by rw [cov_flat, cov_flat, h]
theorem free_flat {l m : List RibD} {x y : RibD} (hl : l.map RibD.flat = m.map RibD.flat) (h : x.flat = y.flat) : freeB l x = freeB m y := by
  unfold RibD.flat at h
  simp only [Prod.mk.injEq] at h
  obtain ⟨h1, h2, h3, h4⟩ := h
  unfold freeB
  rw [h1, h2, h3]
  congr 1
  funext j
  rw [cov_same hl]
theorem getD_flat {l m : List RibD} (h : l.map RibD.flat = m.map RibD.flat) (k : Nat) : (l.getD k default).flat = (m.getD k default).flat := by
  have e : (l.map RibD.flat).getD k (default : RibD).flat = (m.map RibD.flat).getD k (default : RibD).flat := by rw [h]
  simpa [List.getD_eq_getElem?_getD, List.getElem?_map, Option.getD_map] using e
theorem part_flat {r : RunD} {rs : List RibD} (h : rs.map RibD.flat = r.ribs.map RibD.flat) (j : Nat) : partE { r with ribs := rs } j = partE r j := by
  have hl : rs.length = r.ribs.length := by simpa using congrArg List.length h
  match j with
  | 0 => show numbersE _ = numbersE _; unfold numbersE numbersB; rw [hl]
  | 1 => rfl
  | 2 =>
    show ribsE _ = ribsE _
    have h1 : disjB { r with ribs := rs } = disjB r := by
      unfold disjB
      show (List.range rs.length).all (fun k => fitsB { r with ribs := rs } (rs.getD k default) && freeB (rs.take k) (rs.getD k default)) = _
      rw [hl]
      congr 1
      funext k
      have h3 : (rs.take k).map RibD.flat = (r.ribs.take k).map RibD.flat := by rw [List.map_take, List.map_take, h]
      rw [fits_flat (r := r) (rs := rs) (getD_flat h k), free_flat h3 (getD_flat h k)]
    have h2 : coverB { r with ribs := rs } = coverB r := by
      unfold coverB
      show ((List.range r.webs.length).all fun i => (List.range (r.webs.getD i default).cols.toNat).all fun c => cov rs i c) = _
      congr 1
      funext i
      congr 1
      funext c
      rw [cov_same h]
    unfold ribsE
    rw [h1, h2]
  | 3 =>
    show stacksE _ = stacksE _
    have h1 : stackB { r with ribs := rs } = stackB r := by
      funext k
      unfold stackB
      have : itemB { r with ribs := rs } k = itemB r k := by
        funext m
        unfold itemB
        rw [hl]; rfl
      rw [this]
    unfold stacksE
    rw [h1]
    show (if (List.range r.stacks.length).all (stackB r) && (List.range rs.length).all (fun i => r.stacks.flatten.contains (i : Int)) then (0 : Int) else 20) = _
    rw [hl]
  | _ + 4 => rfl
theorem check_flat {r : RunD} {rs : List RibD} (h : rs.map RibD.flat = r.ribs.map RibD.flat) : checkE { r with ribs := rs } = checkE r := by
  unfold checkE
  simp only [part_flat h]
theorem turn_flat (r : RunD) (i : Int) : (turnD r i).ribs.map RibD.flat = r.ribs.map RibD.flat := by
  unfold turnD
  show (r.ribs.set i.toNat _).map RibD.flat = _
  rw [List.map_set]
  refine List.ext_getElem? fun k => ?_
  rw [List.getElem?_set]
  split
  · rename_i hk
    subst hk
    split
    · rename_i hl
      rw [List.getElem?_eq_getElem (by simpa using hl), List.getElem_map]
      rw [show r.ribs.getD i.toNat default = r.ribs[i.toNat]'(by simpa using hl) from getD_of (List.getElem?_eq_getElem _)]
      rfl
    · rename_i hl
      rw [List.getElem?_eq_none (by simpa using hl)]
  · rfl
/-- Turning keeps a run right. -/
theorem turn_check (r : RunD) (i : Int) : checkE (turnD r i) = checkE r := check_flat (turn_flat r i)
theorem turn_rows (r : RunD) (i : Int) : rows0 (turnD r i) = rows0 r := rfl

end Go.Proofs.Ytdbfhdncjblleaa
namespace Go.Proofs.Ytdbfhdncjblleaa
open Go.RowKit

def onRib (b : RibD) (web col : Int) : Bool := decide (web = b.web ∧ b.col ≤ col ∧ col < b.col + b.width)
def flipS (b : RibD) (s : SpotD) : SpotD := if onRib b s.web s.col then ⟨s.web, 1 - s.side, s.row, 2 * b.col + b.width - 1 - s.col⟩ else s
def flipH (b : RibD) (x : HalfD) : HalfD := if onRib b x.web x.col then ⟨x.web, 2 * b.col + b.width - 1 - x.col, 1 - x.s0, 1 - x.s1⟩ else x
theorem flip_spots (b : RibD) (row : Int) (x : HalfD) : halfSpots row (flipH b x) = (halfSpots row x).map (flipS b) := by
  unfold flipH halfSpots
  cases h : onRib b x.web x.col <;> simp [flipS, h]
theorem turn_at {r : RunD} {n : Nat} (i : Int) (hi : 0 ≤ i ∧ i < r.ribs.length) : ribAt (turnD r n) i = if i = n then turnRib (ribAt r i) else ribAt r i := by
  unfold ribAt turnD
  show (r.ribs.set (n : Int).toNat _).getD i.toNat default = _
  rw [Int.toNat_natCast, List.getD_eq_getElem?_getD, List.getElem?_set]
  by_cases he : i = n
  · subst he
    rw [if_pos rfl, Int.toNat_natCast, if_pos rfl, if_pos (by omega)]; rfl
  · rw [if_neg (by omega), if_neg he, ← List.getD_eq_getElem?_getD]
theorem flip_self {r : RunD} {b : RibD} (ho : RibOk r b) : rightHalfD (turnRib b) = flipH b (rightHalfD b) ∧ leftHalfD (turnRib b) = flipH b (leftHalfD b) := by
  have hw := ho.width0
  obtain ⟨web, col, width, turned, left⟩ := b
  simp only at hw
  constructor
  · cases turned
    · have h1 : onRib ⟨web, col, width, false, left⟩ web (col + width - 1) = true := decide_eq_true ⟨rfl, by show col ≤ _; omega, by show _ < col + width; omega⟩
      simp only [rightHalfD, turnRib, flipH, Bool.not_false, Bool.false_eq_true, if_true, if_false, h1]
      simp [HalfD.mk.injEq]; omega
    · have h1 : onRib ⟨web, col, width, true, left⟩ web col = true := decide_eq_true ⟨rfl, by show col ≤ _; omega, by show _ < col + width; omega⟩
      simp only [rightHalfD, turnRib, flipH, Bool.not_true, Bool.false_eq_true, if_true, if_false, h1]
      simp [HalfD.mk.injEq]; omega
  · cases turned
    · have h1 : onRib ⟨web, col, width, false, left⟩ web col = true := decide_eq_true ⟨rfl, by show col ≤ _; omega, by show _ < col + width; omega⟩
      simp only [leftHalfD, turnRib, flipH, Bool.not_false, Bool.false_eq_true, if_true, if_false, h1]
      simp [HalfD.mk.injEq]; omega
    · have h1 : onRib ⟨web, col, width, true, left⟩ web (col + width - 1) = true := decide_eq_true ⟨rfl, by show col ≤ _; omega, by show _ < col + width; omega⟩
      simp only [leftHalfD, turnRib, flipH, Bool.not_true, Bool.false_eq_true, if_true, if_false, h1]
      simp [HalfD.mk.injEq]; omega
theorem flip_other {r : RunD} (h : checkE r = 0) {i j : Int} (hi : 0 ≤ i ∧ i < r.ribs.length) (hj : 0 ≤ j ∧ j < r.ribs.length) (hne : i ≠ j) {x : HalfD} (hx : x = rightHalfD (ribAt r i) ∨ x = leftHalfD (ribAt r i)) : flipH (ribAt r j) x = x := by
  have h1 := half_on (rib_at h hi) x hx
  unfold flipH
  rw [if_neg]
  intro hc
  obtain ⟨h2, h3, h4⟩ := of_decide_eq_true hc
  exact rib_apart2 h hi hj hne x.col ⟨by rw [← h1.1]; exact h2, h1.2.1, h1.2.2.1, h3, h4⟩
theorem turn_half {r : RunD} (h : checkE r = 0) {n : Nat} (hn : n < r.ribs.length) {i : Int} (hi : 0 ≤ i ∧ i < r.ribs.length) :
    rightHalfD (ribAt (turnD r n) i) = flipH (ribAt r n) (rightHalfD (ribAt r i)) ∧ leftHalfD (ribAt (turnD r n) i) = flipH (ribAt r n) (leftHalfD (ribAt r i)) ∧ (ribAt (turnD r n) i).left = (ribAt r i).left ∧ hasLeft (ribAt (turnD r n) i) = hasLeft (ribAt r i) := by
  rw [turn_at i hi]
  by_cases he : i = n
  · subst he
    rw [if_pos rfl]
    have := flip_self (rib_at h hi)
    exact ⟨this.1, this.2, rfl, rfl⟩
  · rw [if_neg he, flip_other h hi (j := (n : Int)) ⟨by omega, by omega⟩ he (.inl rfl), flip_other h hi (j := (n : Int)) ⟨by omega, by omega⟩ he (.inr rfl)]
    exact ⟨rfl, rfl, rfl, rfl⟩
theorem sel_eq {r : RunD} (p : RibD → Bool) (f : RibD → HalfD) (l : List Int) : ((l.map (ribAt r)).filter p).map f = (l.filter fun i => p (ribAt r i)).map fun i => f (ribAt r i) := by
  rw [List.filter_map, List.map_map]; rfl
theorem turn_sel {r : RunD} {n : Nat} (p : RibD → Bool) (f : RibD → HalfD) (l : List Int) (hp : ∀ i ∈ l, p (ribAt (turnD r n) i) = p (ribAt r i)) (hf : ∀ i ∈ l, f (ribAt (turnD r n) i) = flipH (ribAt r n) (f (ribAt r i))) :
    ((l.map (ribAt (turnD r n))).filter p).map f = (((l.map (ribAt r)).filter p).map f).map (flipH (ribAt r n)) := by
  rw [sel_eq, sel_eq, List.map_map, List.filter_congr hp]
  refine List.map_congr_left fun i hi => hf i (List.mem_filter.1 hi).1
theorem turn_halves {r : RunD} (h : checkE r = 0) {n : Nat} (hn : n < r.ribs.length) {l : List Int} (hl : InRange r l) : halvesD (turnD r n) l = (halvesD r l).map (flipH (ribAt r n)) := by
  have hr : InRange r l.reverse := fun i hi => hl i (List.mem_reverse.1 hi)
  unfold halvesD rightsD leftsD
  rw [List.map_append, turn_sel (fun b => !b.left) rightHalfD l (fun i hi => by simp only [(turn_half h hn (hl i hi)).2.2.1]) (fun i hi => (turn_half h hn (hl i hi)).1),
    turn_sel hasLeft leftHalfD l.reverse (fun i hi => (turn_half h hn (hr i hi)).2.2.2) (fun i hi => (turn_half h hn (hr i hi)).2.1)]
theorem turn_spots {r : RunD} (h : checkE r = 0) {n : Nat} (hn : n < r.ribs.length) {l : List Int} (hl : InRange r l) (row : Int) : spotsD (turnD r n) l row = (spotsD r l row).map (flipS (ribAt r n)) := by
  unfold spotsD
  rw [turn_halves h hn hl, List.flatMap_map, List.map_flatMap]
  congr 1
  funext x
  exact flip_spots _ row x

theorem map_eq_of {α β γ : Type} {f : α → γ} {g : α → β} {F : β → γ} {l : List α} (h : ∀ x ∈ l, f x = F (g x)) : l.map f = (l.map g).map F := by
  rw [List.map_map]
  exact List.map_congr_left h
theorem flat_eq_of {α β : Type} {f g : α → List β} {F : β → β} : ∀ {l : List α}, (∀ x ∈ l, f x = (g x).map F) → l.flatMap f = (l.flatMap g).map F
  | [], _ => rfl
  | x :: l, h => by rw [List.flatMap_cons, List.flatMap_cons, List.map_append, h x (by simp), flat_eq_of fun y hy => h y (by simp [hy])]
theorem turn_layout {r : RunD} (h : checkE r = 0) {n : Nat} (hn : n < r.ribs.length) : layoutD (turnD r n) = (layoutD r).map (List.map (List.map (flipS (ribAt r n)))) := by
  cases hc : r.coll with
  | true =>
    rw [layout_coll hc, layout_coll (r := turnD r n) hc]
    show [collectedD (turnD r n)] = [(collectedD r).map _]
    congr 1
    unfold collectedD
    show r.stacks.flatMap _ = _
    refine flat_eq_of fun st hst => ?_
    unfold rowsD
    rw [turn_rows]
    exact map_eq_of (F := List.map (flipS (ribAt r n))) fun row _ => turn_spots h hn (stacks_range h st hst) row
  | false =>
    rw [layout_straight hc, layout_straight (r := turnD r n) hc, turn_rows]
    refine map_eq_of (F := List.map (List.map (flipS (ribAt r n)))) fun row _ => ?_
    unfold straightD
    show r.stacks.map _ = _
    exact map_eq_of (F := List.map (flipS (ribAt r n))) fun st hst => turn_spots h hn (stacks_range h st hst) row
/-- What a spot printed, its turned spot prints when the ribbon is turned. -/
theorem turn_follow {r : RunD} (h : checkE r = 0) {n : Nat} (hn : n < r.ribs.length) {s : SpotD} {p : PlaceD} (hp : followO r s = some p) : followO (turnD r n) (flipS (ribAt r n) s) = some p := by
  obtain ⟨c, k, i, S, l, rfl, hS, hl, hi⟩ := place_mem.1 ((follow_mem h).1 hp)
  refine (follow_mem ((turn_check r n).trans h)).2 (place_mem.2 ⟨c, k, i, S.map (List.map (flipS (ribAt r n))), l.map (flipS (ribAt r n)), rfl, ?_, ?_, ?_⟩)
  · rw [turn_layout h hn, List.getElem?_map, hS]; rfl
  · rw [List.getElem?_map, hl]; rfl
  · rw [List.getElem?_map, hi]; rfl
/-- Turned twice, a run is as it was. -/
theorem turn_twice (r : RunD) (i : Int) : turnD (turnD r i) i = r := by
  have e : (r.ribs.set i.toNat (turnRib (r.ribs.getD i.toNat default))).set i.toNat (turnRib ((r.ribs.set i.toNat (turnRib (r.ribs.getD i.toNat default))).getD i.toNat default)) = r.ribs := by
    rw [List.set_set]
    refine List.ext_getElem? fun k => ?_
    rw [List.getElem?_set]
    split
    · rename_i hk
      subst hk
      split
      · rename_i hl
        rw [List.getElem?_eq_getElem hl, List.getD_eq_getElem?_getD, List.getElem?_set, if_pos rfl, if_pos hl, List.getD_eq_getElem?_getD, List.getElem?_eq_getElem hl]
        simp [turnRib]
      · rename_i hl
        rw [List.getElem?_eq_none (by omega)]
    · rfl
  unfold turnD
  show ({ r with ribs := _ } : RunD) = r
  rw [e]

end Go.Proofs.Ytdbfhdncjblleaa
namespace Go.Proofs.Ytdbfhdncjblleaa
open Go.RowKit

theorem gang_mem {r : RunD} {p : PlaceD} (h : p ∈ gangedD r) : ∃ (c k i : Nat) (S : List (List SpotD)) (l : List SpotD) (a b : SpotD), p = ⟨c, k, i⟩ ∧ (layoutD r)[c]? = some S ∧ S[k]? = some l ∧ l[i]? = some a ∧ l[i + 1]? = some b ∧ besideB r a b = true := by
  unfold gangedD gang3 gang2 gang1 gangTo at h
  obtain ⟨⟨S, c⟩, hS, h⟩ := List.mem_flatMap.1 h
  obtain ⟨⟨l, k⟩, hl, h⟩ := List.mem_flatMap.1 h
  obtain ⟨i, hi, rfl⟩ := List.mem_map.1 h
  obtain ⟨h1, h2⟩ := List.mem_filter.1 hi
  have hlt := List.mem_range.1 h1
  simp only at hlt h2
  have e1 : l[i]? = some l[i] := List.getElem?_eq_getElem (by omega)
  have e2 : l[i + 1]? = some l[i + 1] := List.getElem?_eq_getElem (by omega)
  refine ⟨c, k, i, S, l, l[i], l[i + 1], rfl, zip_mem.1 hS, zip_mem.1 hl, e1, e2, ?_⟩
  rwa [getD_of e1, getD_of e2] at h2
theorem beside_open {r : RunD} {a b : SpotD} (h : besideB r a b = true) : (a.web = b.web ∧ a.side = b.side ∧ a.row = b.row) ∧ (a.col - b.col = 1 ∨ b.col - a.col = 1) ∧ idxD r a = idxD r b := by
  unfold besideB at h
  simp only [Bool.and_eq_true, decide_eq_true_eq] at h
  exact ⟨h.1.1, h.1.2, h.2⟩
/-- A ganged page and the next one: on one side of a web, in neighbouring columns; the number of the first is odd. -/
theorem gang_facts {r : RunD} (h : checkE r = 0) {p : PlaceD} (hp : p ∈ gangedD r) : ∃ a b : SpotD, whereO r p = some a ∧ whereO r ⟨p.copy, p.sec, p.idx + 1⟩ = some b ∧ a.web = b.web ∧ a.side = b.side ∧ a.row = b.row ∧ (a.col - b.col = 1 ∨ b.col - a.col = 1) ∧ ∃ m : Nat, p.idx = (2 * m + 1 : Nat) := by
  obtain ⟨c, k, i, S, l, a, b, rfl, hS, hl, ha, hb, hbe⟩ := gang_mem hp
  obtain ⟨⟨h1, h2, h3⟩, h4, -⟩ := beside_open hbe
  refine ⟨a, b, where_mem.2 (place_mem.2 ⟨c, k, i, S, l, rfl, hS, hl, ha⟩), where_mem.2 (place_mem.2 ⟨c, k, i + 1, S, l, by simp, hS, hl, hb⟩), h1, h2, h3, h4, ?_⟩
  obtain ⟨kk, st, row, hst, hrow, rfl⟩ := section_of hS hl
  obtain ⟨m, x, hx, hcase⟩ := half_split row _ ha
  rcases hcase with ⟨hi, rfl⟩ | ⟨hi, rfl⟩
  · obtain ⟨-, e1⟩ := half_pair (row : Int) _ m x hx
    obtain ⟨-, -, -, -, -, -, hsd⟩ := half_ok h hst (List.mem_of_getElem? hx)
    subst hi
    have hb2 : ((halvesD r st).flatMap (halfSpots row))[2 * m + 1]? = some b := hb
    rw [e1] at hb2
    have e := Option.some.inj hb2
    subst e
    simp only at h4
    omega
  · exact ⟨m, by simp only [hi]⟩

theorem ribOf_open {b : RibD} {s : SpotD} : ribOfB s b = true ↔ b.web = s.web ∧ b.col ≤ s.col ∧ s.col < b.col + b.width := by
  unfold ribOfB
  rw [decide_eq_true_eq]
theorem idx_on {r : RunD} (h : checkE r = 0) {i : Int} (hi : 0 ≤ i ∧ i < r.ribs.length) {s : SpotD} (hs : (ribAt r i).web = s.web ∧ (ribAt r i).col ≤ s.col ∧ s.col < (ribAt r i).col + (ribAt r i).width) : idxD r s = i := by
  have hit : i.toNat < r.ribs.length := by omega
  have e : ribAt r i = r.ribs[i.toNat] := by unfold ribAt; rw [getD_of (List.getElem?_eq_getElem hit)]
  unfold idxD
  cases hf : r.ribs.findIdx? (ribOfB s) with
  | none =>
    have := List.findIdx?_eq_none_iff.1 hf _ (List.getElem_mem hit)
    rw [← e, ribOf_open.2 hs] at this
    cases this
  | some n =>
    obtain ⟨hn, h1, -⟩ := List.findIdx?_eq_some_iff_getElem.1 hf
    have e2 : ribAt r n = r.ribs[n] := by unfold ribAt; rw [Int.toNat_natCast, getD_of (List.getElem?_eq_getElem hn)]
    have h2 := ribOf_open.1 h1
    rw [← e2] at h2
    simp only
    by_cases hne : (n : Int) = i
    · exact hne
    · exact absurd ⟨by rw [h2.1, hs.1], h2.2.1, h2.2.2, hs.2.1, hs.2.2⟩ (rib_apart2 h (i := (n : Int)) (j := i) ⟨by omega, by omega⟩ hi hne s.col)
def idsR (r : RunD) (st : List Int) : List Int := st.filter fun i => !(ribAt r i).left
def idsL (r : RunD) (st : List Int) : List Int := st.reverse.filter fun i => hasLeft (ribAt r i)
theorem halves_ids (r : RunD) (st : List Int) {m : Nat} {x : HalfD} (hx : (halvesD r st)[m]? = some x) : ∃ i, (idsR r st ++ idsL r st)[m]? = some i ∧ i ∈ st ∧ (x = rightHalfD (ribAt r i) ∨ x = leftHalfD (ribAt r i)) := by
  have e : halvesD r st = (idsR r st).map (fun i => rightHalfD (ribAt r i)) ++ (idsL r st).map fun i => leftHalfD (ribAt r i) := by
    unfold halvesD rightsD leftsD idsR idsL
    rw [sel_eq (fun b => !b.left), sel_eq hasLeft]
  rw [e] at hx
  rcases Nat.lt_or_ge m (idsR r st).length with hm | hm
  · rw [List.getElem?_append_left (by simpa using hm), List.getElem?_map] at hx
    obtain ⟨i, hi, rfl⟩ := Option.map_eq_some_iff.1 hx
    exact ⟨i, by rw [List.getElem?_append_left hm]; exact hi, (List.mem_filter.1 (List.mem_of_getElem? hi)).1, .inl rfl⟩
  · rw [List.getElem?_append_right (by simpa using hm), List.getElem?_map, List.length_map] at hx
    obtain ⟨i, hi, rfl⟩ := Option.map_eq_some_iff.1 hx
    exact ⟨i, by rw [List.getElem?_append_right hm]; exact hi, List.mem_reverse.1 (List.mem_filter.1 (List.mem_of_getElem? hi)).1, .inr rfl⟩
theorem nodup_next {l : List Int} (hd : l.Nodup) {m : Nat} {i : Int} (h1 : l[m]? = some i) (h2 : l[m + 1]? = some i) : False := by
  have hm := (List.getElem?_eq_some_iff.1 h2).1
  have := (List.getElem?_inj (i := m) (j := m + 1) (by omega) hd).1 (h1.trans h2.symm)
  omega
/-- Where in a section a ganged page can be: in one place alone. -/
theorem gang_only {r : RunD} (h : checkE r = 0) {kk : Nat} {st : List Int} (hst : r.stacks[kk]? = some st) {row : Int} {i : Nat} {a b : SpotD} (ha : (spotsD r st row)[i]? = some a) (hb : (spotsD r st row)[i + 1]? = some b) (hbe : besideB r a b = true) : i + 1 = 2 * (idsR r st).length := by
  obtain ⟨⟨h1, h2, h3⟩, h4, h5⟩ := beside_open hbe
  obtain ⟨m, x, hx, hcase⟩ := half_split row _ ha
  rcases hcase with ⟨hi, rfl⟩ | ⟨hi, rfl⟩
  · obtain ⟨-, e1⟩ := half_pair row _ m x hx
    subst hi
    have hb2 : ((halvesD r st).flatMap (halfSpots row))[2 * m + 1]? = some b := hb
    rw [e1] at hb2
    have e := Option.some.inj hb2
    subst e
    simp only at h4
    omega
  · subst hi
    obtain ⟨m2, y, hy, hcase⟩ := half_split row _ hb
    have hm2 : m2 = m + 1 := by rcases hcase with ⟨e, -⟩ | ⟨e, -⟩ <;> omega
    subst hm2
    have hb0 : b.web = y.web ∧ b.col = y.col := by rcases hcase with ⟨-, rfl⟩ | ⟨-, rfl⟩ <;> exact ⟨rfl, rfl⟩
    have hm := List.mem_of_getElem? hst
    obtain ⟨i1, hi1, hs1, hx1⟩ := halves_ids r st hx
    obtain ⟨i2, hi2, hs2, hy1⟩ := halves_ids r st hy
    have r1 := stacks_range h st hm i1 hs1
    have r2 := stacks_range h st hm i2 hs2
    have o1 := half_on (rib_at h r1) x hx1
    have o2 := half_on (rib_at h r2) y hy1
    have x1 := idx_on h r1 (s := ⟨x.web, x.s1, row, x.col⟩) ⟨o1.1.symm, o1.2.1, o1.2.2.1⟩
    have x2 := idx_on h r2 (s := b) ⟨by rw [hb0.1]; exact o2.1.symm, by rw [hb0.2]; exact o2.2.1, by rw [hb0.2]; exact o2.2.2.1⟩
    have he : i1 = i2 := by rw [← x1, ← x2]; exact h5
    subst he
    have hd : st.Nodup := List.nodup_iff_pairwise_ne.2 ((List.pairwise_flatten.1 (List.nodup_iff_pairwise_ne.1 (stacks_flat h))).1 st hm)
    have dR : (idsR r st).Nodup := List.Pairwise.filter _ hd
    have dL : (idsL r st).Nodup := List.Pairwise.filter _ (by rw [List.pairwise_reverse]; exact hd.imp Ne.symm)
    rcases Nat.lt_or_ge (m + 1) (idsR r st).length with hl | hl
    · rw [List.getElem?_append_left (by omega)] at hi1
      rw [List.getElem?_append_left hl] at hi2
      exact (nodup_next dR hi1 hi2).elim
    · rcases Nat.lt_or_ge m (idsR r st).length with hl2 | hl2
      · omega
      · rw [List.getElem?_append_right hl2] at hi1
        rw [List.getElem?_append_right hl, show m + 1 - (idsR r st).length = m - (idsR r st).length + 1 by omega] at hi2
        exact (nodup_next dL hi1 hi2).elim

theorem gang1_mem {r : RunD} {c k : Nat} {l : List SpotD} {p : PlaceD} (h : p ∈ gang1 r c k l) : ∃ (i : Nat) (a b : SpotD), p = ⟨c, k, i⟩ ∧ l[i]? = some a ∧ l[i + 1]? = some b ∧ besideB r a b = true := by
  unfold gang1 gangTo at h
  obtain ⟨i, hi, rfl⟩ := List.mem_map.1 h
  obtain ⟨h1, h2⟩ := List.mem_filter.1 hi
  have hlt := List.mem_range.1 h1
  have e1 : l[i]? = some l[i] := List.getElem?_eq_getElem (by omega)
  have e2 : l[i + 1]? = some l[i + 1] := List.getElem?_eq_getElem (by omega)
  refine ⟨i, l[i], l[i + 1], rfl, e1, e2, ?_⟩
  rwa [getD_of e1, getD_of e2] at h2
theorem gang1_pair (r : RunD) (c k : Nat) (l : List SpotD) : (gang1 r c k l).Pairwise fun p q => p ≠ q := by
  unfold gang1 gangTo
  rw [List.pairwise_map]
  refine List.Pairwise.filter _ ((List.nodup_iff_pairwise_ne.1 List.nodup_range).imp fun hne e => hne ?_)
  simp only [PlaceD.mk.injEq] at e
  omega
theorem zip_pair {α : Type} (l : List α) : l.zipIdx.Pairwise fun x y => x.2 < y.2 := by
  have : ∀ (l : List α) (k : Nat), (l.zipIdx k).Pairwise fun x y => x.2 < y.2 := by
    intro l
    induction l with
    | nil => intro k; exact List.Pairwise.nil
    | cons x l ih =>
      intro k
      rw [List.zipIdx_cons]
      refine List.pairwise_cons.2 ⟨fun y hy => ?_, ih (k + 1)⟩
      have := List.le_snd_of_mem_zipIdx hy
      simp only
      omega
  exact this l 0
/-- The ganged places, in their order: in one copy at most one in each section, the sections rising. -/
theorem gang_order {r : RunD} (h : checkE r = 0) : (gangedD r).Pairwise fun p q => p.copy = q.copy → p.sec < q.sec := by
  have h1c : ∀ (S : List (List SpotD)) (c k : Nat) (l : List SpotD) (p : PlaceD), p ∈ gang1 r c k l → p.copy = c ∧ p.sec = k := fun S c k l p hp => by
    obtain ⟨i, a, b, rfl, -⟩ := gang1_mem hp
    exact ⟨rfl, rfl⟩
  unfold gangedD gang3
  refine List.pairwise_flatMap.2 ⟨fun X hX => ?_, (zip_pair _).imp fun {X Y} hlt p hp q hq he => ?_⟩
  · obtain ⟨S, c⟩ := X
    have hS := zip_mem.1 hX
    unfold gang2
    refine List.pairwise_flatMap.2 ⟨fun Z hZ => ?_, (zip_pair _).imp fun {Z W} hlt p hp q hq _ => ?_⟩
    · obtain ⟨l, k⟩ := Z
      have hl := zip_mem.1 hZ
      obtain ⟨kk, st, row, hst, -, rfl⟩ := section_of hS hl
      refine (gang1_pair r c k _).imp_of_mem fun {p q} hp hq hne _ => ?_
      obtain ⟨i, a, b, rfl, ha, hb, hbe⟩ := gang1_mem hp
      obtain ⟨j, a2, b2, rfl, ha2, hb2, hbe2⟩ := gang1_mem hq
      have e1 := gang_only h hst ha hb hbe
      have e2 := gang_only h hst ha2 hb2 hbe2
      have e3 : i = j := by omega
      subst e3
      exact absurd rfl hne
    · have e1 := (h1c S c _ _ p hp).2
      have e2 := (h1c S c _ _ q hq).2
      rw [e1, e2]
      omega
  · obtain ⟨Z, -, hp⟩ := List.mem_flatMap.1 hp
    obtain ⟨W, -, hq⟩ := List.mem_flatMap.1 hq
    have e1 := (h1c [] _ _ _ p hp).1
    have e2 := (h1c [] _ _ _ q hq).1
    rw [e1, e2] at he
    omega

end Go.Proofs.Ytdbfhdncjblleaa
