/-
  FoldBoth, plain: all sections together have as many pages as there are plates for a copy.
  A map whose keys are places, its elements bools.
  FoldBoth, plain: the spots of the grid in the order in which the statement meets them, and their places.
-/
import Derived.Maps.OwnSet
import Derived.Test.YtdbfhdncjblleaaKj
import Derived.Test.YtdbfhdncjblleaaKi
import Derived.Test.YtdbfhdncjblleaaKm
namespace Go.Proofs.Ytdbfhdncjblleaa
open Go.RowKit

theorem len_le {α : Type} [DecidableEq α] : ∀ {l m : List α}, l.Nodup → (∀ x ∈ l, x ∈ m) → l.length ≤ m.length
  | [], _, _, _ => by simp
  | x :: l, m, hn, hs => by
    rw [List.nodup_cons] at hn
    have hx := hs x (by simp)
    have h1 := len_le (l := l) (m := m.erase x) hn.2 fun y hy => (List.mem_erase_of_ne (fun e => hn.1 (by rw [← e]; exact hy))).2 (hs y (by simp [hy]))
    have h2 := List.length_erase_of_mem hx
    have h3 := List.length_pos_of_mem hx
    simp only [List.length_cons]
    omega
def gridRow (m s rr : Nat) (x : WebD) : List SpotD := (List.range x.cols.toNat).map fun (c : Nat) => (⟨m, s, rr, c⟩ : SpotD)
def gridSide (m s : Nat) (x : WebD) : List SpotD := (List.range x.rows.toNat).flatMap fun rr => gridRow m s rr x
def gridWeb (m : Nat) (x : WebD) : List SpotD := (List.range 2).flatMap fun s => gridSide m s x
def gridD (r : RunD) : List SpotD := r.webs.zipIdx.flatMap fun y => gridWeb y.2 y.1

theorem flat_const {α β : Type} (f : α → List β) (n : Nat) : ∀ (l : List α), (∀ x ∈ l, (f x).length = n) → (l.flatMap f).length = l.length * n
  | [], _ => by simp
  | x :: l, h => by
    rw [List.flatMap_cons, List.length_append, h x (by simp), flat_const f n l fun y hy => h y (by simp [hy]), List.length_cons, Nat.add_mul]
    omega
theorem gridWeb_len (m : Nat) (x : WebD) : (gridWeb m x).length = 2 * (x.rows.toNat * x.cols.toNat) := by
  unfold gridWeb
  rw [flat_const _ (x.rows.toNat * x.cols.toNat) _ fun s _ => ?_, List.length_range]
  unfold gridSide
  rw [flat_const _ x.cols.toNat _ fun rr _ => ?_, List.length_range]
  unfold gridRow
  rw [List.length_map, List.length_range]
theorem grid_mem {r : RunD} {s : SpotD} : s ∈ gridD r ↔ ∃ (m sd rr c : Nat) (x : WebD), r.webs[m]? = some x ∧ sd < 2 ∧ rr < x.rows.toNat ∧ c < x.cols.toNat ∧ s = ⟨m, sd, rr, c⟩ := by
  unfold gridD gridWeb gridSide gridRow
  constructor
  · intro h
    obtain ⟨⟨x, m⟩, hx, h⟩ := List.mem_flatMap.1 h
    obtain ⟨sd, hsd, h⟩ := List.mem_flatMap.1 h
    obtain ⟨rr, hrr, h⟩ := List.mem_flatMap.1 h
    obtain ⟨c, hc, rfl⟩ := List.mem_map.1 h
    exact ⟨m, sd, rr, c, x, zip_mem.1 hx, List.mem_range.1 hsd, List.mem_range.1 hrr, List.mem_range.1 hc, rfl⟩
  · rintro ⟨m, sd, rr, c, x, hx, hsd, hrr, hc, rfl⟩
    exact List.mem_flatMap.2 ⟨(x, m), zip_mem.2 hx, List.mem_flatMap.2 ⟨sd, List.mem_range.2 hsd, List.mem_flatMap.2 ⟨rr, List.mem_range.2 hrr, List.mem_map.2 ⟨c, List.mem_range.2 hc, rfl⟩⟩⟩⟩
theorem grid_all {r : RunD} (h : checkE r = 0) (s : SpotD) : s ∈ gridD r ↔ s ∈ allSpots r := by
  rw [grid_mem]
  constructor
  · rintro ⟨m, sd, rr, c, x, hx, hsd, hrr, hc, rfl⟩
    have hw := webs_ok (parts_ok h 1 (by omega)) x (List.mem_of_getElem? hx)
    have hm := (List.getElem?_eq_some_iff.1 hx).1
    exact spot_there h (sd : Int) hm (by rw [← hw.2.2.2.2.1]; exact hrr) (by rw [getD_of hx]; omega) (by omega)
  · intro hs
    obtain ⟨m, x, hso⟩ := spot_ok h hs
    obtain ⟨sw, ss, sr, sc⟩ := s
    have h1 := hso.web
    have h2 := hso.side
    have h3 := hso.row
    have h4 := hso.col
    dsimp only at h1 h2 h3 h4
    exact ⟨m, ss.toNat, sr.toNat, sc.toNat, x, hso.there, by omega, by omega, by omega, by rw [h1]; congr 1 <;> omega⟩
theorem grid_nodup (r : RunD) : (gridD r).Nodup := by
  unfold gridD gridWeb gridSide gridRow
  unfold List.Nodup
  refine List.pairwise_flatMap.2 ⟨fun y _ => List.pairwise_flatMap.2 ⟨fun sd _ => List.pairwise_flatMap.2 ⟨fun rr _ => List.pairwise_map.2 ?_, ?_⟩, ?_⟩, ?_⟩
  · exact List.nodup_range.imp fun {a b} hne e => by simp only [SpotD.mk.injEq] at e; omega
  · refine List.nodup_range.imp fun {a b} hne s hs t ht e => ?_
    obtain ⟨c, -, rfl⟩ := List.mem_map.1 hs
    obtain ⟨c', -, rfl⟩ := List.mem_map.1 ht
    simp only [SpotD.mk.injEq] at e
    omega
  · refine List.nodup_range.imp fun {a b} hne s hs t ht e => ?_
    obtain ⟨_, -, hs⟩ := List.mem_flatMap.1 hs
    obtain ⟨_, -, ht⟩ := List.mem_flatMap.1 ht
    obtain ⟨c, -, rfl⟩ := List.mem_map.1 hs
    obtain ⟨c', -, rfl⟩ := List.mem_map.1 ht
    simp only [SpotD.mk.injEq] at e
    omega
  · refine (zip_pair r.webs).imp fun {a b} hlt s hs t ht e => ?_
    obtain ⟨_, -, hs⟩ := List.mem_flatMap.1 hs
    obtain ⟨_, -, hs⟩ := List.mem_flatMap.1 hs
    obtain ⟨_, -, ht⟩ := List.mem_flatMap.1 ht
    obtain ⟨_, -, ht⟩ := List.mem_flatMap.1 ht
    obtain ⟨c, -, rfl⟩ := List.mem_map.1 hs
    obtain ⟨c', -, rfl⟩ := List.mem_map.1 ht
    simp only [SpotD.mk.injEq] at e
    omega
/-- As many spots as there are in the grid. -/
theorem grid_len {r : RunD} (h : checkE r = 0) : (gridD r).length = (allSpots r).length :=
  Nat.le_antisymm (len_le (grid_nodup r) fun s hs => (grid_all h s).1 hs) (len_le (spots_nodup h) fun s hs => (grid_all h s).2 hs)
def platesD (r : RunD) : Nat := (r.webs.map fun x => x.plates.length).sum
theorem grid_plates {r : RunD} (h : checkE r = 0) : (gridD r).length = platesD r := by
  have hw := webs_ok (parts_ok h 1 (by omega))
  unfold gridD platesD
  have key : ∀ (l : List WebD) (k : Nat), (∀ x ∈ l, x ∈ r.webs) → ((l.zipIdx k).flatMap fun y => gridWeb y.2 y.1).length = (l.map fun x => x.plates.length).sum := by
    intro l
    induction l with
    | nil => intro k _; rfl
    | cons x l ih =>
      intro k hk
      rw [List.zipIdx_cons, List.flatMap_cons, List.length_append, ih (k + 1) fun y hy => hk y (by simp [hy]), List.map_cons, List.sum_cons]
      show (gridWeb k x).length + _ = _
      rw [gridWeb_len]
      obtain ⟨h1, h2, h3, h4, -, h6, -⟩ := hw x (hk x (by simp))
      have h7 := Int.mul_assoc 2 x.rows x.cols
      have e1 : ((x.rows.toNat * x.cols.toNat : Nat) : Int) = x.rows * x.cols := by
        rw [Int.natCast_mul, Int.toNat_of_nonneg (by omega), Int.toNat_of_nonneg (by omega)]
      omega
  exact key r.webs 0 fun x hx => hx
def totalD (r : RunD) : Nat := (((layoutD r).getD 0 []).map List.length).sum
theorem layout_sum {r : RunD} (h : checkE r = 0) : (allSpots r).length = (layoutD r).length * totalD r := by
  unfold allSpots totalD
  have hal : ∀ S ∈ layoutD r, (S.map List.length).sum = (((layoutD r).getD 0 []).map List.length).sum := fun S hS => by
    obtain ⟨c, hc, rfl⟩ := List.getElem_of_mem hS
    have h1 := alike h (List.getElem?_eq_getElem hc)
    unfold sizesD at h1
    have h2 : ∀ l : List (List SpotD), (l.map fun s => (s.length : Int)) = (l.map List.length).map fun (n : Nat) => (n : Int) := fun l => by rw [List.map_map]; rfl
    rw [h2, h2] at h1
    have h3 := List.map_inj_right (f := fun (n : Nat) => (n : Int)) (fun a b e => by have h : (a : Int) = b := e; omega) |>.1 h1
    rw [h3]
  have key : ∀ (L : List (List (List SpotD))) (n : Nat), (∀ S ∈ L, (S.map List.length).sum = n) → L.flatten.flatten.length = L.length * n := by
    intro L n
    induction L with
    | nil => intro _; simp
    | cons S L ih =>
      intro hL
      rw [List.flatten_cons, List.flatten_append, List.length_append, ih fun T hT => hL T (by simp [hT]), List.length_flatten, hL S (by simp), List.length_cons, Nat.add_mul]
      omega
  exact key _ _ hal
/-- All sections together: as many pages as plates for a copy. -/
theorem sizes_add {r : RunD} (h : checkE r = 0) : platesD r = (layoutD r).length * totalD r := by
  rw [← grid_plates h, grid_len h, layout_sum h]
/-- No two spots print one place. -/
theorem follow_inj {r : RunD} (h : checkE r = 0) {s s' : SpotD} {p : PlaceD} (h1 : followO r s = some p) (h2 : followO r s' = some p) : s = s' := by
  rw [follow_where h] at h1 h2
  rw [h1] at h2
  exact Option.some.inj h2
/-- The place of a spot lies within the sizes. -/
theorem place_within {r : RunD} (h : checkE r = 0) {s : SpotD} {p : PlaceD} (hp : followO r s = some p) : ∃ (c k i : Nat) (z : Int), p = ⟨c, k, i⟩ ∧ (sizesD r)[k]? = some z ∧ (i : Int) < z := by
  obtain ⟨c, k, i, S, l, rfl, hS, hl, hi⟩ := place_mem.1 ((follow_mem h).1 hp)
  refine ⟨c, k, i, (l.length : Int), rfl, ?_, by have := (List.getElem?_eq_some_iff.1 hi).1; omega⟩
  rw [← alike h hS, List.getElem?_map, hl]
  rfl
theorem sum_cast (l : List (List SpotD)) : (l.map fun s => (s.length : Int)).sum = (((l.map List.length).sum : Nat) : Int) := by
  induction l with
  | nil => rfl
  | cons x l ih => simp only [List.map_cons, List.sum_cons, ih]; omega
theorem sizes_sum (r : RunD) : (sizesD r).sum = (totalD r : Int) := by
  unfold sizesD totalD
  exact sum_cast _
theorem sum_next {l : List Int} {k : Nat} {x : Int} (h : l[k]? = some x) : (l.take (k + 1)).sum = (l.take k).sum + x := by
  rw [List.take_add_one, h, List.sum_append]
  simp
/-- How many copies a turn of the cylinders makes. -/
theorem copies_len {r : RunD} (h : checkE r = 0) : ((layoutD r).length : Int) = if r.coll then 1 else rows0 r := by
  have h2 := rows_two h
  cases hc : r.coll with
  | true => rw [layout_coll hc]; rfl
  | false =>
    rw [layout_straight hc, List.length_map, List.length_range]
    simp
    omega
end Go.Proofs.Ytdbfhdncjblleaa
namespace Go.Proofs.Ytdbfhdncjblleaa
open Go.RowKit

theorem fieldsK : Try.prog.underlying 56 = some (.struct (Try.prog.fieldsOf 56)) := by kernel_rfl
theorem heldK : Try.prog.stoodInHeld 56 = false := by kernel_rfl
theorem flK : (Try.prog.fieldsOf 56).toList.map (fun f => (f.name != "_", f.type, f.offset)) = [(true, 3, 0), (true, 3, 1), (true, 3, 2)] := by kernel_rfl
theorem eq3 (a b c a' b' c' : Int) (w : World) : (Op.equalIn 10000 56 (.agg #[.int .i64 a, .int .i64 b, .int .i64 c]) (.agg #[.int .i64 a', .int .i64 b', .int .i64 c'])).run Try.prog w = .ok (decide (a = a' ∧ b = b' ∧ c = c')) w := by
  rw [run_equalIn_agg w 9999 _ _ _ fieldsK heldK]
  have hl := flK
  generalize (Try.prog.fieldsOf 56).toList = fs at hl ⊢
  obtain ⟨f0, r0, rfl, h0, hl⟩ := List.map_eq_cons_iff.1 hl
  obtain ⟨f1, r1, rfl, h1, hl⟩ := List.map_eq_cons_iff.1 hl
  obtain ⟨f2, r2, rfl, h2, hl⟩ := List.map_eq_cons_iff.1 hl
  obtain rfl := List.map_eq_nil_iff.1 hl
  simp only [Prod.mk.injEq, bne_iff_ne, ne_eq] at h0 h1 h2
  obtain ⟨n0, t0, o0⟩ := h0
  obtain ⟨n1, t1, o1⟩ := h1
  obtain ⟨n2, t2, o2⟩ := h2
  clear hl
  simp [Op.eqFields, n0, n1, n2, t0, t1, t2, o0, o1, o2, go_sem]
  by_cases ea : a = a' <;> by_cases eb : b = b' <;> by_cases ec : c = c' <;> simp [ea, eb, ec]
theorem placeKey : KeyOk Try.prog 56 PlaceD.val := by
  refine ⟨fun a b w => ?_, fun e a w => by kernel_rfl, _, fieldsK⟩
  obtain ⟨a0, a1, a2⟩ := a
  obtain ⟨b0, b1, b2⟩ := b
  refine (eq3 a0 a1 a2 b0 b1 b2 w).trans ?_
  have e : decide (a0 = b0 ∧ a1 = b1 ∧ a2 = b2) = decide ((⟨a0, a1, a2⟩ : PlaceD) = ⟨b0, b1, b2⟩) := by
    rw [Bool.eq_iff_iff]
    simp
  rw [e]
theorem seenType : Try.prog.underlying 102 = some (.map 56 4) := by kernel_rfl
theorem zeroB (w : World) : (zeroValue 4).run Try.prog w = .ok (.bool false) w := by kernel_rfl
/-- A place that is not in the map yet. -/
theorem seen_no {w : World} {b : Nat} {l : List (PlaceD × Bool)} (hm : MapAt PlaceD.val Value.bool w b l) (a : PlaceD) (hne : ∀ x ∈ l, x.1 ≠ a) : (Instr.lookup 102 (.map (some b)) a.val false).run Try.prog w = .ok (.bool false) w := by
  unfold MapAt at hm
  have hck := placeKey.ck
  simp only [Instr.lookup, Sem.run_bind, run_underlying seenType, Result.andThen_ok]
  simp only [getObj, Sem.run, hm, Sem.run_bind, Result.andThen_ok, Sem.run_pure, hck, Result.andThen]
  rw [run_findKey Value.bool placeKey a w l, fnd_none Value.bool hne]
  simp [zeroB]
/-- The map with one place more. -/
theorem seen_add {w : World} {b : Nat} {l : List (PlaceD × Bool)} (hm : MapAt PlaceD.val Value.bool w b l) (a : PlaceD) (hne : ∀ x ∈ l, x.1 ≠ a) :
    ∃ w', (Instr.mapUpdate 102 (.map (some b)) a.val (.bool true)).run Try.prog w = .ok () w' ∧ MapAt PlaceD.val Value.bool w' b (l ++ [(a, true)]) ∧ w.grownBy w' (some b) :=
  ⟨_, run_update_new Value.bool placeKey seenType hm a true hne, hm.put _ (by simp), grownBy_putObj' _ b _⟩
end Go.Proofs.Ytdbfhdncjblleaa
namespace Go.Proofs.Ytdbfhdncjblleaa
open Go.RowKit

def gridL (l : List WebD) : List SpotD := l.zipIdx.flatMap fun y => gridWeb y.2 y.1
theorem gridL_all (r : RunD) : gridL r.webs = gridD r := rfl
theorem gridL_next {l : List WebD} {a : Nat} {x : WebD} (h : l[a]? = some x) : gridL (l.take (a + 1)) = gridL (l.take a) ++ gridWeb a x := by
  unfold gridL
  rw [zip_next h, List.flatMap_append]
  simp
theorem gridL_pre (l : List WebD) (a : Nat) : gridL (l.take a) <+: gridL l := flat_pre _ (zip_take l a)
/-- The spots that have been met. -/
def metG (r : RunD) (x : WebD) (a sd b c : Nat) : List SpotD :=
  gridL (r.webs.take a) ++ ((List.range sd).flatMap (fun s => gridSide a s x) ++ ((List.range b).flatMap (fun rr => gridRow a sd rr x) ++ (List.range c).map fun (cc : Nat) => (⟨a, sd, b, cc⟩ : SpotD)))
theorem metG_start (r : RunD) (x : WebD) (a : Nat) : metG r x a 0 0 0 = gridL (r.webs.take a) := by simp [metG]
theorem metG_col (r : RunD) (x : WebD) (a sd b c : Nat) : metG r x a sd b (c + 1) = metG r x a sd b c ++ [⟨a, sd, b, c⟩] := by
  unfold metG
  rw [List.range_succ, List.map_append]
  simp [List.append_assoc]
theorem metG_row (r : RunD) (x : WebD) (a sd b c : Nat) (h : c = x.cols.toNat) : metG r x a sd b c = metG r x a sd (b + 1) 0 := by
  subst h
  unfold metG
  rw [List.range_succ, List.flatMap_append]
  simp [gridRow, List.append_assoc]
theorem metG_side (r : RunD) (x : WebD) (a sd b : Nat) (h : b = x.rows.toNat) : metG r x a sd b 0 = metG r x a (sd + 1) 0 0 := by
  subst h
  unfold metG
  rw [List.range_succ, List.flatMap_append]
  simp [gridSide, List.append_assoc]
theorem metG_web (r : RunD) {x : WebD} {a : Nat} (h : r.webs[a]? = some x) : metG r x a 2 0 0 = gridL (r.webs.take (a + 1)) := by
  rw [gridL_next h]
  simp [metG, gridWeb]
theorem range_pre {n m : Nat} (h : n ≤ m) : List.range n <+: List.range m := by
  induction m with
  | zero => obtain rfl : n = 0 := by omega
            exact List.prefix_refl _
  | succ m ih =>
    by_cases e : n = m + 1
    · subst e; exact List.prefix_refl _
    · rw [List.range_succ]
      exact (ih (by omega)).trans (List.prefix_append _ _)
theorem metG_pre {r : RunD} {x : WebD} {a sd b c : Nat} (h : r.webs[a]? = some x) (hs : sd < 2) (hb : b < x.rows.toNat) (hc : c < x.cols.toNat) : metG r x a sd b c ++ [⟨a, sd, b, c⟩] <+: gridD r := by
  rw [← metG_col, ← gridL_all]
  refine List.IsPrefix.trans ?_ (gridL_pre r.webs (a + 1))
  rw [gridL_next h]
  unfold metG
  refine (List.prefix_append_right_inj _).2 ?_
  have h1 : (List.range (c + 1)).map (fun (cc : Nat) => (⟨a, sd, b, cc⟩ : SpotD)) <+: gridRow a sd b x := by
    unfold gridRow
    obtain ⟨t, ht⟩ := range_pre (show c + 1 ≤ x.cols.toNat by omega)
    rw [← ht, List.map_append]
    exact List.prefix_append _ _
  have h2 : (List.range b).flatMap (fun rr => gridRow a sd rr x) ++ gridRow a sd b x <+: gridSide a sd x := by
    have e : (List.range b).flatMap (fun rr => gridRow a sd rr x) ++ gridRow a sd b x = (List.range (b + 1)).flatMap (fun rr => gridRow a sd rr x) := by
      rw [List.range_succ, List.flatMap_append]; simp
    rw [e]
    exact flat_pre _ (range_pre (by omega))
  have h3 : (List.range sd).flatMap (fun s => gridSide a s x) ++ gridSide a sd x <+: gridWeb a x := by
    have e : (List.range sd).flatMap (fun s => gridSide a s x) ++ gridSide a sd x = (List.range (sd + 1)).flatMap (fun s => gridSide a s x) := by
      rw [List.range_succ, List.flatMap_append]; simp
    rw [e]
    exact flat_pre _ (range_pre (by omega))
  refine List.IsPrefix.trans ?_ h3
  refine (List.prefix_append_right_inj _).2 ?_
  refine List.IsPrefix.trans ?_ h2
  exact (List.prefix_append_right_inj _).2 h1

/-- The places that are in the map. -/
def seenL (r : RunD) (l : List SpotD) : List (PlaceD × Bool) := l.map fun s => ((followO r s).getD place0, true)
theorem seenL_snoc {r : RunD} {l : List SpotD} {s : SpotD} {p : PlaceD} (h : followO r s = some p) : seenL r (l ++ [s]) = seenL r l ++ [(p, true)] := by
  simp [seenL, h]
theorem seenL_len (r : RunD) (l : List SpotD) : (seenL r l).length = l.length := by simp [seenL]
theorem seenL_new {r : RunD} (h : checkE r = 0) {d : List SpotD} {s : SpotD} {p : PlaceD} (hpre : d ++ [s] <+: gridD r) (hp : followO r s = some p) : ∀ y ∈ seenL r d, y.1 ≠ p := by
  intro y hy e
  obtain ⟨s', hs', rfl⟩ := List.mem_map.1 hy
  have hn := hpre.sublist.nodup (grid_nodup r)
  have hg : s' ∈ gridD r := hpre.subset (List.mem_append_left _ hs')
  obtain ⟨q, hq⟩ := follow_some h ((grid_all h s').1 hg)
  rw [hq] at e
  simp only [Option.getD_some] at e
  subst e
  have := follow_inj h hq hp
  subst this
  rw [List.nodup_append] at hn
  exact hn.2.2 s' hs' s' (by simp) rfl

theorem take_sum {l : List Int} (h : ∀ x ∈ l, 0 ≤ x) (k : Nat) : 0 ≤ (l.take k).sum ∧ (l.take k).sum ≤ l.sum := by
  induction l generalizing k with
  | nil => simp
  | cons x l ih =>
    cases k with
    | zero =>
      have := (ih (fun y hy => h y (by simp [hy])) l.length).1
      rw [List.take_length] at this
      have := h x (by simp)
      simp only [List.take_zero, List.sum_nil, List.sum_cons]
      omega
    | succ k =>
      have := ih (fun y hy => h y (by simp [hy])) k
      have := h x (by simp)
      simp only [List.take_succ_cons, List.sum_cons]
      omega
def platesL (l : List WebD) : Nat := (l.map fun x => x.plates.length).sum
theorem platesL_next {l : List WebD} {a : Nat} {x : WebD} (h : l[a]? = some x) : platesL (l.take (a + 1)) = platesL (l.take a) + x.plates.length := by
  unfold platesL
  rw [List.take_add_one, h, List.map_append, List.sum_append]
  simp
theorem platesL_le : ∀ {l : List WebD}, (∀ x ∈ l, x.plates.length ≤ 16) → platesL l ≤ 16 * l.length
  | [], _ => by simp [platesL]
  | x :: l, h => by
    have h1 := platesL_le (l := l) fun y hy => h y (by simp [hy])
    have h2 := h x (by simp)
    unfold platesL at h1 ⊢
    simp only [List.map_cons, List.sum_cons, List.length_cons]
    omega
theorem plates_16 {r : RunD} (h : checkE r = 0) : ∀ x ∈ r.webs, x.plates.length ≤ 16 := by
  intro x hx
  obtain ⟨h1, h2, h3, h4, -, h5, -⟩ := webs_ok (parts_ok h 1 (by omega)) x hx
  have : x.rows = 1 ∨ x.rows = 2 := by omega
  rcases this with e | e <;> rw [e] at h5 <;> omega
theorem platesL_128 {r : RunD} (h : checkE r = 0) (a : Nat) : platesL (r.webs.take a) ≤ 128 := by
  have h1 := platesL_le (l := r.webs.take a) fun x hx => plates_16 h x (List.mem_of_mem_take hx)
  have h2 := (numbers_ok (parts_ok h 0 (by omega))).2.1
  have h3 := List.length_take_le a r.webs
  rw [List.length_take] at h1
  omega
theorem plates_128 {r : RunD} (h : checkE r = 0) : platesD r ≤ 128 := by
  have := platesL_128 h r.webs.length
  rw [List.take_length] at this
  exact this
/-- What all sections have together is small. -/
theorem total_128 {r : RunD} (h : checkE r = 0) (k : Nat) : 0 ≤ ((sizesD r).take k).sum ∧ ((sizesD r).take k).sum ≤ 128 := by
  have h1 := take_sum (l := sizesD r) (by unfold sizesD; simp) k
  have h2 := sizes_sum r
  have h3 := sizes_add h
  have h4 := plates_128 h
  obtain ⟨y, hy⟩ := layout_pos h
  have h5 := (List.getElem?_eq_some_iff.1 hy).1
  have h6 : totalD r ≤ (layoutD r).length * totalD r := Nat.le_mul_of_pos_left _ h5
  omega
theorem sizes_one {r : RunD} (h : checkE r = 0) {k : Nat} {z : Int} (hk : (sizesD r)[k]? = some z) : 0 ≤ z ∧ z ≤ 128 := by
  have h1 := total_128 h k
  have h2 := total_128 h (k + 1)
  rw [sum_next hk] at h2
  have h3 : 0 ≤ z := by
    obtain ⟨s, -, rfl⟩ := List.mem_map.1 (List.mem_of_getElem? hk)
    omega
  omega
/-- The two numbers that are compared at the end. -/
theorem both_end {r : RunD} (h : checkE r = 0) : ((platesD r : Nat) : Int) = (totalD r : Int) * (if r.coll then 1 else rows0 r) := by
  rw [← copies_len h, sizes_add h, Int.natCast_mul, Int.mul_comm]
theorem wpList_len_map {P : Program} {w : World} {ops : Array Oper} {rest : List Oper} {o : Oper} {a : Act} {Q : Exit → Act → World → Prop} {n : Int} (hg : o.guard = none) (m : Operand) (t : TypeId) (hop : o.op = Op.call { callee := Callee.builtin Builtin.len, args := #[m], argTypes := #[t] })
    (hrun : (Builtin.len_ #[t] o.type #[a.eval m]).run P w = .ok (.int .i64 n) w) (h : wpList P ops Q rest (a.put o.dst (.int .i64 n)) w) : wpList P ops Q (o :: rest) a w := by
  refine wpList_plain hg fun K' hK' => ?_
  unfold Oper.wp
  simp [execOp, hop, resolve, invoke, builtin, hrun, Result.andThen]
  exact hK' _ _ h
/-- How many places are in the map. -/
theorem seen_len {w : World} {b : Nat} {l : List (PlaceD × Bool)} (hm : MapAt PlaceD.val Value.bool w b l) (ty : TypeId) : (Builtin.len_ #[102] ty #[.map (some b)]).run Try.prog w = .ok (.int .i64 l.length) w := by
  unfold MapAt at hm
  simp only [Builtin.len_, Sem.run_bind]
  simp [run_underlying seenType, getObj, Sem.run, hm, goInt, Result.andThen, entsFrom]
end Go.Proofs.Ytdbfhdncjblleaa
