/-
  FoldRight, plain: the product that the statement makes; a filled run, and one with one plate changed.
-/
import Derived.Test.YtdbfhdncjblleaaKo
import Derived.Test.YtdbfhdncjblleaaKk
namespace Go.Proofs.Ytdbfhdncjblleaa
open Go.RowKit

/-- Runs alike but for what the plates print, and the pages are allowed. -/
def Reset (r r' : RunD) : Prop := r'.ribs = r.ribs ∧ r'.stacks = r.stacks ∧ r'.coll = r.coll ∧ SameShape r.webs r'.webs ∧ ∀ x ∈ r'.webs, ∀ p ∈ x.plates, 0 ≤ p.page ∧ p.page ≤ 128
theorem same_getD {l l' : List WebD} (h : SameShape l l') (i : Nat) : (l'.getD i default).cols = (l.getD i default).cols ∧ (l'.getD i default).rows = (l.getD i default).rows := by
  rcases Nat.lt_or_ge i l.length with hi | hi
  · obtain ⟨x', h1, h2, h3, -⟩ := h.2 i _ (List.getElem?_eq_getElem hi)
    rw [getD_of h1, getD_of (List.getElem?_eq_getElem hi)]
    exact ⟨h2, h3⟩
  · have h1 := h.1
    rw [List.getD_eq_getElem?_getD, List.getD_eq_getElem?_getD, List.getElem?_eq_none (by omega), List.getElem?_eq_none hi]
    exact ⟨rfl, rfl⟩
section
variable {r r' : RunD}
theorem reset_rows (h : Reset r r') : rows0 r' = rows0 r := (same_getD h.2.2.2.1 0).2
theorem reset_layout (h : Reset r r') : layoutD r' = layoutD r := by
  have hr := reset_rows h
  obtain ⟨w, b, s, c⟩ := r
  obtain ⟨w', b', s', c'⟩ := r'
  obtain ⟨h1, h2, h3, -, -⟩ := h
  simp only at h1 h2 h3
  subst h1 h2 h3
  unfold layoutD collectedD rowsD
  rw [hr]
  rfl
theorem reset_places (h : Reset r r') : placesD r' = placesD r := by unfold placesD; rw [reset_layout h]
theorem reset_sizes (h : Reset r r') : sizesD r' = sizesD r := by unfold sizesD; rw [reset_layout h]
theorem reset_check (hc : checkE r = 0) (h : Reset r r') : checkE r' = 0 := by
  have hr := reset_rows h
  have hp : ∀ j, j < 5 → partE r' j = 0 := by
    have hq := parts_ok hc
    have hw := webs_ok (hq 1 (by omega))
    obtain ⟨w, b, s, c⟩ := r
    obtain ⟨w', b', s', c'⟩ := r'
    obtain ⟨h1, h2, h3, h4, h5⟩ := h
    simp only at h1 h2 h3 h4 h5
    subst h1 h2 h3
    have hl := h4.1
    intro j hj
    match j, hj with
    | 0, _ =>
      have := hq 0 (by omega)
      unfold partE numbersE numbersB at this ⊢
      simp only at this ⊢
      rw [hl]; exact this
    | 1, _ =>
      show websE _ = 0
      have : websB ⟨w', b', s', c'⟩ = true := by
        unfold websB
        rw [List.all_eq_true]
        intro y hy
        obtain ⟨i, hi, rfl⟩ := List.getElem_of_mem hy
        have hi2 : i < w.length := by simp only at hi; omega
        obtain ⟨x', e1, e2, e3, e4⟩ := h4.2 i _ (List.getElem?_eq_getElem hi2)
        have e5 : w'[i] = x' := by rw [List.getElem?_eq_getElem hi] at e1; exact Option.some.inj e1
        obtain ⟨k1, k2, k3, k4, k5, k6, -⟩ := hw _ (List.getElem_mem hi2)
        have hpp := h5 x' (by rw [← e5]; exact List.getElem_mem hi)
        show webB _ w'[i] = true
        rw [e5, hr]
        unfold webB sizeB
        simp only [Bool.and_eq_true, decide_eq_true_eq, List.all_eq_true]
        refine ⟨⟨⟨by omega, by omega, by omega, by omega, by rw [e3]; exact k5⟩, by rw [e4, e2, e3]; exact k6⟩, fun p hp => ?_⟩
        unfold isPageB
        have := hpp p hp
        simp only [Bool.and_eq_true, decide_eq_true_eq]
        exact this
      unfold websE
      rw [this]; rfl
    | 2, _ =>
      have := hq 2 (by omega)
      have hf : ∀ x, fitsB ⟨w', b', s', c'⟩ x = fitsB ⟨w, b', s', c'⟩ x := fun x => by
        unfold fitsB
        simp only
        rw [hl, (same_getD h4 _).1]
      have h1 : disjB ⟨w', b', s', c'⟩ = disjB ⟨w, b', s', c'⟩ := by
        unfold disjB
        congr 1
        funext k
        rw [hf]
      have h2 : coverB ⟨w', b', s', c'⟩ = coverB ⟨w, b', s', c'⟩ := by
        unfold coverB
        simp only
        rw [hl]
        congr 1
        funext i
        rw [(same_getD h4 _).1]
      show ribsE _ = 0
      have h3 : ribsE ⟨w, b', s', c'⟩ = 0 := this
      unfold ribsE at h3 ⊢
      rw [h1, h2]; exact h3
    | 3, _ => exact hq 3 (by omega)
    | 4, _ =>
      have := hq 4 (by omega)
      show collE _ = 0
      have h3 : collE ⟨w, b', s', c'⟩ = 0 := this
      unfold collE at h3 ⊢
      rw [hr]; exact h3
  unfold checkE
  simp [hp 0 (by omega), hp 1 (by omega), hp 2 (by omega), hp 3 (by omega), hp 4 (by omega)]
/-- Each plate prints a spot. -/
theorem spot_of (h : checkE r = 0) {m k : Nat} {x : WebD} (hx : r.webs[m]? = some x) (hk : k < x.plates.length) : ∃ s m', s ∈ allSpots r ∧ m' = m ∧ SpotOk r s m' x ∧ plateI x s = k := by
  have hm := (List.getElem?_eq_some_iff.1 hx).1
  obtain ⟨h1, h2, h3, h4, h5, h6, -⟩ := webs_ok (parts_ok h 1 (by omega)) x (List.mem_of_getElem? hx)
  have key : ∃ sd row col : Nat, sd < 2 ∧ (row : Int) < x.rows ∧ (col : Int) < x.cols ∧ (((sd : Int) * x.rows + row) * x.cols + col) = (k : Int) := by
    rcases (show x.rows = 1 ∨ x.rows = 2 by omega) with e | e <;> rcases (show x.cols = 1 ∨ x.cols = 2 ∨ x.cols = 3 ∨ x.cols = 4 by omega) with e' | e' | e' | e' <;> rw [e, e'] at h6 <;> rw [e, e']
    · exact ⟨k, 0, 0, by omega, by omega, by omega, by omega⟩
    · exact ⟨k / 2, 0, k % 2, by omega, by omega, by omega, by omega⟩
    · exact ⟨k / 3, 0, k % 3, by omega, by omega, by omega, by omega⟩
    · exact ⟨k / 4, 0, k % 4, by omega, by omega, by omega, by omega⟩
    · exact ⟨k / 2, k % 2, 0, by omega, by omega, by omega, by omega⟩
    · exact ⟨k / 4, (k / 2) % 2, k % 2, by omega, by omega, by omega, by omega⟩
    · exact ⟨k / 6, (k / 3) % 2, k % 3, by omega, by omega, by omega, by omega⟩
    · exact ⟨k / 8, (k / 4) % 2, k % 4, by omega, by omega, by omega, by omega⟩
  obtain ⟨sd, row, col, k1, k2, k3, k4⟩ := key
  have hs := spot_there h (w := m) (row := row) (c := col) (sd : Int) hm (by rw [← h5]; omega) (by rw [getD_of hx]; exact k3) (by omega)
  obtain ⟨m', x', ho⟩ := spot_ok h hs
  have hw := ho.web
  have e : m' = m := by simp only at hw; omega
  subst e
  have e2 := hx.symm.trans ho.there
  injection e2 with e2
  subst e2
  exact ⟨_, _, hs, rfl, ho, by unfold plateI; simp only; rw [k4]; simp⟩
/-- The place of a plate. -/
theorem place_of (h : checkE r = 0) {m k : Nat} {x : WebD} (hx : r.webs[m]? = some x) (hk : k < x.plates.length) : ∃ s p, (s, p) ∈ placesD r ∧ SpotOk r s m x ∧ plateI x s = k := by
  obtain ⟨s, m', hs, rfl, ho, e⟩ := spot_of h hx hk
  obtain ⟨p, hp⟩ := follow_some h hs
  exact ⟨s, p, (follow_mem h).1 hp, ho, e⟩
theorem pages_of {product : List (List Int)} (hpg : ∀ sec ∈ product, ∀ q ∈ sec, 1 ≤ q ∧ q ≤ 128) (h : checkE r = 0) (hsz : hasSizesB r product = true) {s : SpotD} {p : PlaceD} (hm : (s, p) ∈ placesD r) : 1 ≤ pageOf product p ∧ pageOf product p ≤ 128 := by
  obtain ⟨c, k, i, sec, page, rfl, h1, h2, h3⟩ := place_in h hsz hm
  rw [h3]
  exact hpg sec (List.mem_of_getElem? h1) page (List.mem_of_getElem? h2)
theorem filled_plate {product : List (List Int)} (hf : Filled r product r') {s : SpotD} {p : PlaceD} {m : Nat} {x : WebD} (hm : (s, p) ∈ placesD r) (ho : SpotOk r s m x) :
    ∃ x', r'.webs[m]? = some x' ∧ x'.cols = x.cols ∧ x'.rows = x.rows ∧ x'.plates.length = x.plates.length ∧ x'.plates[plateI x s]? = some ⟨pageOf product p, false⟩ := by
  obtain ⟨-, -, -, hs, hp⟩ := hf
  obtain ⟨x', h1, h2, h3, h4⟩ := hs.2 m x ho.there
  refine ⟨x', h1, h2, h3, h4, ?_⟩
  have h5 := hp _ hm
  rw [plateAt_in ho h1 h2 h3] at h5
  have hi := ho.idx.1
  rw [List.getElem?_eq_getElem (by omega)]
  rw [List.getD_eq_getElem?_getD, List.getElem?_eq_getElem (by omega)] at h5
  exact congrArg some h5
theorem filled_reset {product : List (List Int)} (hpg : ∀ sec ∈ product, ∀ q ∈ sec, 1 ≤ q ∧ q ≤ 128) (h : checkE r = 0) (hsz : hasSizesB r product = true) (hf : Filled r product r') : Reset r r' := by
  refine ⟨hf.1, hf.2.1, hf.2.2.1, hf.2.2.2.1, fun x' hx' p hp => ?_⟩
  obtain ⟨m, hm, rfl⟩ := List.getElem_of_mem hx'
  obtain ⟨k, hk, rfl⟩ := List.getElem_of_mem hp
  have hl := hf.2.2.2.1.1
  have hx : r.webs[m]? = some (r.webs[m]'(by omega)) := List.getElem?_eq_getElem (by omega)
  obtain ⟨x2, e1, e2, e3, e4⟩ := hf.2.2.2.1.2 m _ hx
  rw [List.getElem?_eq_getElem hm] at e1
  injection e1 with e1
  obtain ⟨s, q, hq, ho, ek⟩ := place_of h hx (k := k) (by rw [← e4, ← e1]; exact hk)
  obtain ⟨x3, f1, f2, f3, f4, f5⟩ := filled_plate hf hq ho
  rw [List.getElem?_eq_getElem hm] at f1
  injection f1 with f1
  subst f1
  rw [ek, List.getElem?_eq_getElem hk] at f5
  injection f5 with f5
  rw [f5]
  have := pages_of hpg h hsz hq
  simp only
  omega
theorem put_reset (h : Reset r r') (m k : Nat) (q : PlateD) (hq : 0 ≤ q.page ∧ q.page ≤ 128) : Reset r { r' with webs := putPlate r'.webs m k q } := by
  refine ⟨h.1, h.2.1, h.2.2.1, h.2.2.2.1.put m k q, fun x hx p hp => ?_⟩
  have h5 := h.2.2.2.2
  rcases Nat.lt_or_ge m r'.webs.length with hm | hm
  · unfold putPlate at hx
    rw [getD_of (List.getElem?_eq_getElem hm)] at hx
    rcases List.mem_or_eq_of_mem_set hx with hx | rfl
    · exact h5 x hx p hp
    · rcases List.mem_or_eq_of_mem_set hp with hp | rfl
      · exact h5 _ (List.getElem_mem hm) p hp
      · exact hq
  · unfold putPlate at hx
    rw [List.set_eq_of_length_le hm] at hx
    exact h5 x hx p hp
/-- A filled run is right. -/
theorem filled_right {product : List (List Int)} (hpg : ∀ sec ∈ product, ∀ q ∈ sec, 1 ≤ q ∧ q ≤ 128) (h : checkE r = 0) (hsz : hasSizesB r product = true) (hf : Filled r product r') : rightB r' product = true := by
  unfold rightB
  rw [reset_places (filled_reset hpg h hsz hf), List.all_eq_true]
  intro x hx
  unfold okAt
  rw [hf.2.2.2.2 x hx]
  simp
/-- With one plate changed it is right just if that plate is. -/
theorem put_right {product : List (List Int)} (hpg : ∀ sec ∈ product, ∀ q ∈ sec, 1 ≤ q ∧ q ≤ 128) (h : checkE r = 0) (hsz : hasSizesB r product = true) (hf : Filled r product r') {s : SpotD} {p : PlaceD} {m : Nat} {x : WebD} (hm : (s, p) ∈ placesD r) (ho : SpotOk r s m x) (q : PlateD) (hq : 0 ≤ q.page ∧ q.page ≤ 128) :
    rightB { r' with webs := putPlate r'.webs m (plateI x s) q } product = (decide (q.page = pageOf product p) && !(decide (q.page ≠ 0) && q.up)) := by
  have hres := put_reset (filled_reset hpg h hsz hf) m (plateI x s) q hq
  unfold rightB
  rw [reset_places hres]
  have hat : okAt { r' with webs := putPlate r'.webs m (plateI x s) q } product (s, p) = (decide (q.page = pageOf product p) && !(decide (q.page ≠ 0) && q.up)) := by
    unfold okAt
    simp only
    rw [put_same hf.2.2.2.1 ho]
  have hoth : ∀ y ∈ placesD r, y.1 ≠ s → okAt { r' with webs := putPlate r'.webs m (plateI x s) q } product y = true := fun y hy hne => by
    obtain ⟨m', x2, ho'⟩ := spot_ok h (place_all (s := y.1) (p := y.2) hy)
    unfold okAt
    simp only
    rw [put_other hf.2.2.2.1 ho ho' hne, hf.2.2.2.2 y hy]
    simp
  rw [← hat, Bool.eq_iff_iff, List.all_eq_true]
  constructor
  · exact fun hall => hall _ hm
  · intro hs y hy
    by_cases e : y.1 = s
    · obtain ⟨s', p'⟩ := y
      simp only at e
      subst e
      have := key_uniq (hnd_ok h) hy hm
      subst this
      exact hs
    · exact hoth y hy e
theorem reset_rightV {product : List (List Int)} (h : checkE r = 0) (hpg : hasPagesB product = true) (hsz : hasSizesB r product = true) (hr : Reset r r') : rightV r' product = .tuple #[.bool (rightB r' product), .int .i64 0] := by
  have hc := reset_check h hr
  have hs : hasSizesB r' product = true := by unfold hasSizesB at hsz ⊢; rw [reset_sizes hr]; exact hsz
  unfold rightV
  rw [if_neg (by rw [hc]; simp), hpg, hs]
  rfl
end

/-- The n-th page of the product. -/
def vNum (numbers : List Int) (n : Nat) : Int := if numbers.length = 0 then (n : Int) else (n : Int) + (numbers.getD (n % numbers.length) 0).tmod 1000
def pageN (numbers : List Int) (n : Nat) : Int := 1 + vNum numbers n % 128
theorem pageN_ok (numbers : List Int) (n : Nat) : 1 ≤ pageN numbers n ∧ pageN numbers n ≤ 128 := by
  unfold pageN
  omega
def secN (numbers : List Int) (off k : Nat) : List Int := (List.range k).map fun i => pageN numbers (off + i)
theorem secN_next (numbers : List Int) (off k : Nat) : secN numbers off (k + 1) = secN numbers off k ++ [pageN numbers (off + k)] := by
  unfold secN
  rw [List.range_succ, List.map_append]; rfl
theorem secN_len (numbers : List Int) (off k : Nat) : (secN numbers off k).length = k := by simp [secN]
def offN (r : RunD) (i : Nat) : Nat := ((sizesD r).take i).sum.toNat
def prodN (r : RunD) (numbers : List Int) (k : Nat) : List (List Int) := (List.range k).map fun i => secN numbers (offN r i) ((sizesD r).getD i 0).toNat
theorem prodN_next {r : RunD} {numbers : List Int} {k : Nat} {z : Int} (h : (sizesD r)[k]? = some z) : prodN r numbers (k + 1) = prodN r numbers k ++ [secN numbers (offN r k) z.toNat] := by
  unfold prodN
  rw [List.range_succ, List.map_append, List.map_cons, getD_of h]; rfl
theorem prodN_len (r : RunD) (numbers : List Int) (k : Nat) : (prodN r numbers k).length = k := by simp [prodN]
theorem offN_next {r : RunD} (hc : checkE r = 0) {k : Nat} {z : Int} (h : (sizesD r)[k]? = some z) : offN r (k + 1) = offN r k + z.toNat := by
  have h1 := total_128 hc k
  have h2 := sizes_one hc h
  unfold offN
  rw [sum_next h]
  omega
theorem offN_128 {r : RunD} (hc : checkE r = 0) (k : Nat) : offN r k ≤ 128 := by
  have h1 := total_128 hc k
  unfold offN
  omega
def prodD (r : RunD) (numbers : List Int) : List (List Int) := prodN r numbers (sizesD r).length
theorem prod_pages (r : RunD) (numbers : List Int) : ∀ sec ∈ prodD r numbers, ∀ q ∈ sec, 1 ≤ q ∧ q ≤ 128 := by
  intro sec hs q hq
  obtain ⟨i, -, rfl⟩ := List.mem_map.1 hs
  obtain ⟨j, -, rfl⟩ := List.mem_map.1 hq
  exact pageN_ok _ _
theorem prod_has (r : RunD) (numbers : List Int) : hasPagesB (prodD r numbers) = true := by
  unfold hasPagesB
  rw [List.all_eq_true]
  intro sec hs
  rw [List.all_eq_true]
  intro q hq
  have := prod_pages r numbers sec hs q hq
  unfold isPageB
  simp only [Bool.and_eq_true, decide_eq_true_eq]
  omega
theorem prod_sizes {r : RunD} (hc : checkE r = 0) (numbers : List Int) : hasSizesB r (prodD r numbers) = true := by
  unfold hasSizesB lensD prodD prodN
  rw [decide_eq_true_eq, List.map_map]
  refine List.ext_getElem? fun i => ?_
  rw [List.getElem?_map]
  rcases Nat.lt_or_ge i (sizesD r).length with hi | hi
  · have hz : (sizesD r)[i]? = some (sizesD r)[i] := List.getElem?_eq_getElem hi
    rw [List.getElem?_range hi, hz]
    simp only [Option.map_some, Function.comp_apply, secN_len, getD_of hz]
    have := sizes_one hc hz
    congr 1
    omega
  · rw [List.getElem?_eq_none hi, List.getElem?_eq_none (by simpa using hi)]; rfl
theorem prod_fill {r : RunD} (hc : checkE r = 0) (numbers : List Int) : fillE r (prodD r numbers) = 0 := by
  unfold fillE
  rw [if_neg (by rw [hc]; simp), prod_sizes hc, prod_has]; rfl
end Go.Proofs.Ytdbfhdncjblleaa
