/-
  Plain facts of a right run: ribbons lie apart, halves differ.
-/
import Derived.Test.YtdbfhdncjblleaaZG
namespace Go.Proofs.Ytdbfhdncjblleaa
open Go.RowKit

theorem rib_apart {r : RunD} (h : checkE r = 0) {m k : Nat} (hmk : m < k) (hk : k < r.ribs.length) (c : Int) :
    ¬ ((r.ribs.getD m default).web = (r.ribs.getD k default).web ∧ (r.ribs.getD m default).col ≤ c ∧ c < (r.ribs.getD m default).col + (r.ribs.getD m default).width ∧
      (r.ribs.getD k default).col ≤ c ∧ c < (r.ribs.getD k default).col + (r.ribs.getD k default).width) := by
  rintro ⟨h1, h2, h3, h4, h5⟩
  have hok := rib_ok h hk
  have hd := (ribs_ok2 (parts_ok h 2 (by omega))).1
  have hg := List.all_eq_true.1 hd k (List.mem_range.2 hk)
  simp only [Bool.and_eq_true] at hg
  have hf := hg.2
  unfold freeB at hf
  have hw := hok.web0
  have hc := hok.col0
  have hj := List.all_eq_true.1 hf (c - (r.ribs.getD k default).col).toNat (List.mem_range.2 (by omega))
  have hm : r.ribs.getD m default ∈ r.ribs.take k := by
    have e : (r.ribs.take k)[m]? = some (r.ribs.getD m default) := by
      rw [List.getElem?_take_of_lt hmk, List.getD_eq_getElem?_getD, List.getElem?_eq_getElem (by omega)]; rfl
    exact List.mem_of_getElem? e
  have hcov : cov (r.ribs.take k) (r.ribs.getD k default).web.toNat ((r.ribs.getD k default).col.toNat + (c - (r.ribs.getD k default).col).toNat) = true := by
    unfold cov
    refine List.any_eq_true.2 ⟨_, hm, decide_eq_true ⟨?_, ?_, ?_⟩⟩ <;> omega
  rw [hcov] at hj
  cases hj
theorem rib_apart2 {r : RunD} (h : checkE r = 0) {i j : Int} (hi : 0 ≤ i ∧ i < r.ribs.length) (hj : 0 ≤ j ∧ j < r.ribs.length) (hne : i ≠ j) (c : Int) :
    ¬ ((ribAt r i).web = (ribAt r j).web ∧ (ribAt r i).col ≤ c ∧ c < (ribAt r i).col + (ribAt r i).width ∧ (ribAt r j).col ≤ c ∧ c < (ribAt r j).col + (ribAt r j).width) := by
  unfold ribAt
  rcases Nat.lt_or_ge i.toNat j.toNat with hl | hl
  · exact rib_apart h hl (by omega) c
  · rintro ⟨h1, h2, h3, h4, h5⟩
    exact rib_apart h (m := j.toNat) (k := i.toNat) (by omega) (by omega) c ⟨h1.symm, h4, h5, h2, h3⟩
/-- Where a half lies. -/
def HalfD.at (x : HalfD) : Int × Int := (x.web, x.col)
theorem half_apart {r : RunD} (h : checkE r = 0) {i j : Int} (hi : 0 ≤ i ∧ i < r.ribs.length) (hj : 0 ≤ j ∧ j < r.ribs.length) (hne : i ≠ j) {x y : HalfD}
    (hx : x = rightHalfD (ribAt r i) ∨ x = leftHalfD (ribAt r i)) (hy : y = rightHalfD (ribAt r j) ∨ y = leftHalfD (ribAt r j)) : x.at ≠ y.at := by
  intro he
  have h1 := half_on (rib_at h hi) x hx
  have h2 := half_on (rib_at h hj) y hy
  simp only [HalfD.at, Prod.mk.injEq] at he
  exact rib_apart2 h hi hj hne x.col ⟨by rw [← h1.1, ← h2.1]; exact he.1, h1.2.1, h1.2.2.1, by rw [he.2]; exact h2.2.1, by rw [he.2]; exact h2.2.2.1⟩
theorem half_self {r : RunD} {b : RibD} (ho : RibOk r b) (h1 : b.left = false) (h2 : hasLeft b = true) : (rightHalfD b).at ≠ (leftHalfD b).at := by
  have hw : b.width = 2 := by
    unfold hasLeft at h2
    rw [h1] at h2
    simpa using h2
  unfold rightHalfD leftHalfD HalfD.at
  cases b.turned <;> simp <;> omega

def InRange (r : RunD) (l : List Int) : Prop := ∀ i ∈ l, 0 ≤ i ∧ i < r.ribs.length
theorem right_mem {r : RunD} {l : List Int} {x : HalfD} (hx : x ∈ rightsD r l) : ∃ i ∈ l, x = rightHalfD (ribAt r i) ∧ (ribAt r i).left = false := by
  obtain ⟨b, hb, rfl⟩ := List.mem_map.1 hx
  obtain ⟨hb1, hb2⟩ := List.mem_filter.1 hb
  obtain ⟨i, hi, rfl⟩ := List.mem_map.1 hb1
  exact ⟨i, hi, rfl, by simpa using hb2⟩
theorem left_mem {r : RunD} {l : List Int} {x : HalfD} (hx : x ∈ leftsD r l) : ∃ i ∈ l, x = leftHalfD (ribAt r i) ∧ hasLeft (ribAt r i) = true := by
  obtain ⟨b, hb, rfl⟩ := List.mem_map.1 hx
  obtain ⟨hb1, hb2⟩ := List.mem_filter.1 hb
  obtain ⟨i, hi, rfl⟩ := List.mem_map.1 hb1
  exact ⟨i, hi, rfl, hb2⟩
theorem rights_pair {r : RunD} (h : checkE r = 0) {l : List Int} (hl : InRange r l) (hd : l.Nodup) : (rightsD r l).Pairwise fun x y => x.at ≠ y.at := by
  unfold rightsD
  rw [List.pairwise_map]
  refine List.Pairwise.filter _ ?_
  rw [List.pairwise_map]
  exact (List.nodup_iff_pairwise_ne.1 hd).imp_of_mem fun ha hb hne => half_apart h (hl _ ha) (hl _ hb) hne (.inl rfl) (.inl rfl)
theorem lefts_pair {r : RunD} (h : checkE r = 0) {l : List Int} (hl : InRange r l) (hd : l.Nodup) : (leftsD r l).Pairwise fun x y => x.at ≠ y.at := by
  unfold leftsD
  rw [List.pairwise_map]
  refine List.Pairwise.filter _ ?_
  rw [List.pairwise_map]
  exact (List.nodup_iff_pairwise_ne.1 hd).imp_of_mem fun ha hb hne => half_apart h (hl _ ha) (hl _ hb) hne (.inr rfl) (.inr rfl)
theorem halves_pair {r : RunD} (h : checkE r = 0) {l : List Int} (hl : InRange r l) (hd : l.Nodup) : (halvesD r l).Pairwise fun x y => x.at ≠ y.at := by
  have hr : InRange r l.reverse := fun i hi => hl i (List.mem_reverse.1 hi)
  refine List.pairwise_append.2 ⟨rights_pair h hl hd, lefts_pair h hr (by rw [List.nodup_iff_pairwise_ne, List.pairwise_reverse]; exact (List.nodup_iff_pairwise_ne.1 hd).imp Ne.symm), fun x hx y hy => ?_⟩
  obtain ⟨i, hi, rfl, hi2⟩ := right_mem hx
  obtain ⟨j, hj, rfl, hj2⟩ := left_mem hy
  by_cases he : i = j
  · subst he
    exact half_self (rib_at h (hl i hi)) hi2 hj2
  · exact half_apart h (hl i hi) (hr j hj) he (.inl rfl) (.inr rfl)
theorem half_any {r : RunD} {st : List Int} {x : HalfD} (hx : x ∈ halvesD r st) : ∃ i ∈ st, x = rightHalfD (ribAt r i) ∨ x = leftHalfD (ribAt r i) := by
  rcases half_of hx with ⟨i, hi, rfl, -⟩ | ⟨i, hi, rfl, -⟩
  · exact ⟨i, hi, .inl rfl⟩
  · exact ⟨i, hi, .inr rfl⟩
theorem stacks_range {r : RunD} (h : checkE r = 0) : ∀ st ∈ r.stacks, InRange r st := fun st hst i hi => by
  obtain ⟨k, hk, rfl⟩ := List.getElem_of_mem hst
  exact stack_items h (List.getElem?_eq_getElem hk) i hi
theorem stacks_flat {r : RunD} (h : checkE r = 0) : r.stacks.flatten.Nodup := by
  have := flat_nodup h r.stacks.length (Nat.le_refl _)
  rwa [List.take_length] at this
/-- Halves of two stacks lie apart. -/
theorem stacks_pair {r : RunD} (h : checkE r = 0) : r.stacks.Pairwise fun s t => ∀ x ∈ halvesD r s, ∀ y ∈ halvesD r t, x.at ≠ y.at := by
  have hp := (List.pairwise_flatten.1 (List.nodup_iff_pairwise_ne.1 (stacks_flat h))).2
  refine hp.imp_of_mem fun hs ht hne x hx y hy => ?_
  obtain ⟨i, hi, hx⟩ := half_any hx
  obtain ⟨j, hj, hy⟩ := half_any hy
  exact half_apart h (stacks_range h _ hs i hi) (stacks_range h _ ht j hj) (hne i hi j hj) hx hy
theorem stack_pair {r : RunD} (h : checkE r = 0) {st : List Int} (hst : st ∈ r.stacks) : (halvesD r st).Pairwise fun x y => x.at ≠ y.at := by
  refine halves_pair h (stacks_range h st hst) ?_
  exact List.nodup_iff_pairwise_ne.2 ((List.pairwise_flatten.1 (List.nodup_iff_pairwise_ne.1 (stacks_flat h))).1 st hst)

/-- A spot of a half. -/
theorem spot_mem {row : Int} {x : HalfD} {s : SpotD} (h : s ∈ halfSpots row x) : s.row = row ∧ (s.web, s.col) = x.at := by
  simp only [halfSpots, List.mem_cons, List.not_mem_nil, or_false] at h
  rcases h with rfl | rfl <;> exact ⟨rfl, rfl⟩
theorem spots_mem {r : RunD} {st : List Int} {row : Int} {s : SpotD} (h : s ∈ spotsD r st row) : s.row = row ∧ ∃ x ∈ halvesD r st, (s.web, s.col) = x.at := by
  obtain ⟨x, hx, hs⟩ := List.mem_flatMap.1 h
  exact ⟨(spot_mem hs).1, x, hx, (spot_mem hs).2⟩
theorem spots_pair {r : RunD} (h : checkE r = 0) {st : List Int} (hst : st ∈ r.stacks) (row : Int) : (spotsD r st row).Nodup := by
  rw [List.nodup_iff_pairwise_ne]
  unfold spotsD
  refine List.pairwise_flatMap.2 ⟨fun x hx => ?_, (stack_pair h hst).imp fun hne s hs t ht e => hne ?_⟩
  · obtain ⟨k, hk, e⟩ := List.getElem_of_mem hst
    obtain ⟨i, -, -, -, -, -, hs⟩ := half_ok h (List.getElem?_eq_getElem hk) (by rw [e]; exact hx)
    simp only [halfSpots, List.pairwise_cons, List.mem_cons, List.not_mem_nil, or_false, forall_eq, List.Pairwise.nil, and_true, false_imp_iff, implies_true, ne_eq, SpotD.mk.injEq]
    omega
  · rw [← (spot_mem hs).2, ← (spot_mem ht).2, e]
theorem flat_flat {α β : Type} (f : α → List (List β)) : ∀ l : List α, (l.flatMap f).flatten = l.flatMap fun x => (f x).flatten
  | [] => rfl
  | x :: l => by rw [List.flatMap_cons, List.flatten_append, flat_flat f l, List.flatMap_cons]
def allSpots (r : RunD) : List SpotD := (layoutD r).flatten.flatten
theorem spots_nodup {r : RunD} (h : checkE r = 0) : (allSpots r).Nodup := by
  have hrows : (List.range (rows0 r).toNat).Pairwise fun a b => a ≠ b := List.nodup_iff_pairwise_ne.1 List.nodup_range
  have hst : ∀ row : Int, (r.stacks.flatMap fun st => spotsD r st row).Nodup := fun row => by
    rw [List.nodup_iff_pairwise_ne]
    refine List.pairwise_flatMap.2 ⟨fun st hs => List.nodup_iff_pairwise_ne.1 (spots_pair h hs row), (stacks_pair h).imp fun hne s hs t ht e => ?_⟩
    obtain ⟨-, x, hx, e1⟩ := spots_mem hs
    obtain ⟨-, y, hy, e2⟩ := spots_mem ht
    exact hne x hx y hy (by rw [← e1, ← e2, e])
  unfold allSpots
  cases hc : r.coll with
  | true =>
    rw [layout_coll hc]
    have e : ([collectedD r].flatten).flatten = r.stacks.flatMap fun st => (List.range (rows0 r).toNat).flatMap fun (row : Nat) => spotsD r st row := by
      rw [List.flatten_singleton]
      unfold collectedD rowsD
      rw [flat_flat]
      rfl
    rw [e, List.nodup_iff_pairwise_ne]
    refine List.pairwise_flatMap.2 ⟨fun st hs => List.pairwise_flatMap.2 ⟨fun row _ => List.nodup_iff_pairwise_ne.1 (spots_pair h hs row), hrows.imp fun hne s hs t ht e => hne ?_⟩, (stacks_pair h).imp fun hne s hs t ht e => ?_⟩
    · obtain ⟨row, -, hs1⟩ := List.mem_flatMap.1 hs
      obtain ⟨row2, -, ht1⟩ := List.mem_flatMap.1 ht
      obtain ⟨-, x, hx, e1⟩ := spots_mem hs1
      obtain ⟨-, y, hy, e2⟩ := spots_mem ht1
      exact hne x hx y hy (by rw [← e1, ← e2, e])
    · have h1 := (spots_mem hs).1
      have h2 := (spots_mem ht).1
      rw [e] at h1
      omega
  | false =>
    rw [layout_straight hc]
    have e : (((List.range (rows0 r).toNat).map fun (row : Nat) => straightD r row).flatten).flatten = (List.range (rows0 r).toNat).flatMap fun (row : Nat) => r.stacks.flatMap fun st => spotsD r st row := by
      rw [← List.flatMap_def, flat_flat]
      rfl
    rw [e, List.nodup_iff_pairwise_ne]
    refine List.pairwise_flatMap.2 ⟨fun row _ => List.nodup_iff_pairwise_ne.1 (hst row), hrows.imp fun hne s hs t ht e => hne ?_⟩
    obtain ⟨st, -, hs1⟩ := List.mem_flatMap.1 hs
    obtain ⟨st2, -, ht1⟩ := List.mem_flatMap.1 ht
    have h1 := (spots_mem hs1).1
    have h2 := (spots_mem ht1).1
    rw [e] at h1
    omega

theorem zip_fst {α : Type} (l : List α) (k : Nat) : (l.zipIdx k).map (·.1) = l := by
  induction l generalizing k with
  | nil => rfl
  | cons x l ih => rw [List.zipIdx_cons, List.map_cons, ih]
theorem row1_keys (c s : Nat) (l : List SpotD) : (row1 c s l).map (·.1) = l := by
  unfold row1
  rw [List.map_map]
  exact zip_fst l 0
theorem zip_flat {α β : Type} (f : α → Nat → List β) (g : α → List β) (hfg : ∀ x i, f x i = g x) : ∀ (l : List α) (k : Nat), ((l.zipIdx k).flatMap fun x => f x.1 x.2) = l.flatMap g
  | [], _ => rfl
  | x :: l, k => by rw [List.zipIdx_cons, List.flatMap_cons, List.flatMap_cons, zip_flat f g hfg l, hfg]
theorem row2_keys (c : Nat) (l : List (List SpotD)) : (row2 c l).map (·.1) = l.flatten := by
  unfold row2
  rw [List.map_flatMap, zip_flat (fun x i => (row1 c i x).map (·.1)) id (fun x i => row1_keys c i x) l 0, List.flatMap_id]
theorem row3_keys (l : List (List (List SpotD))) : (row3 l).map (·.1) = l.flatten.flatten := by
  unfold row3
  rw [List.map_flatMap, zip_flat (fun x i => (row2 i x).map (·.1)) List.flatten (fun x i => row2_keys i x) l 0]
  have := flat_flat (fun x : List (List SpotD) => x) l
  rw [← this, show (l.flatMap fun x => x) = l.flatten from by rw [List.flatMap_def, List.map_id']]
/-- What R and T ask: each spot is told of once. -/
theorem hnd_ok {r : RunD} (h : checkE r = 0) : ((placesD r).map (·.1)).Nodup := by
  unfold placesD
  rw [row3_keys]
  exact spots_nodup h
/-- Follow, without a premise. -/
theorem Follow_any (v : Value) (r : RunD) (s : SpotD) (w : World) (h : RRun w.heap.size w v r) :
    Calls Try.prog 23 #[v, .agg #[.int .i64 s.web, .int .i64 s.side, .int .i64 s.row, .int .i64 s.col]] w fun e w' => e = .returned (placeRet (followD r s)) ∧ Below w.heap.size w w' :=
  follow_any v r s w h hnd_ok

end Go.Proofs.Ytdbfhdncjblleaa
