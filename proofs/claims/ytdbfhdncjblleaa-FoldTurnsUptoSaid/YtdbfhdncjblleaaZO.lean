/-
  Where plates lie; the pages of a product in a run; what Fill and Right say.
-/
import Derived.Test.YtdbfhdncjblleaaZI
import Derived.Test.YtdbfhdncjblleaaZN
import Derived.Test.YtdbfhdncjblleaaZR
import Derived.Test.YtdbfhdncjblleaaZS
namespace Go.Proofs.Ytdbfhdncjblleaa
open Go.RowKit

def pageOf (product : List (List Int)) (p : PlaceD) : Int := (product.getD p.sec.toNat []).getD p.idx.toNat 0
def plateI (x : WebD) (s : SpotD) : Nat := ((s.side * x.rows + s.row) * x.cols + s.col).toNat
def plateAt (ws : List WebD) (s : SpotD) : PlateD := (ws.getD s.web.toNat default).plates.getD (plateI (ws.getD s.web.toNat default) s) default
def fillE (r : RunD) (product : List (List Int)) : Int := if checkE r ≠ 0 then checkE r else if hasSizesB r product = false then 21 else if hasPagesB product = false then 6 else 0

theorem plate_lt {side rows row cols col : Int} (h1 : side = 0 ∨ side = 1) (h2 : 1 ≤ rows ∧ rows ≤ 2) (h3 : 0 ≤ row ∧ row < rows) (h4 : 1 ≤ cols ∧ cols ≤ 4) (h5 : 0 ≤ col ∧ col < cols) :
    0 ≤ (side * rows + row) * cols + col ∧ (side * rows + row) * cols + col < 2 * rows * cols ∧ 2 * rows * cols ≤ 16 ∧ 0 ≤ side * rows ∧ side * rows ≤ 2 ∧ 0 ≤ (side * rows + row) * cols ∧ (side * rows + row) * cols ≤ 16 := by
  rcases (show rows = 1 ∨ rows = 2 by omega) with rfl | rfl <;> rcases (show cols = 1 ∨ cols = 2 ∨ cols = 3 ∨ cols = 4 by omega) with rfl | rfl | rfl | rfl <;> omega
theorem plate_inj {side rows row cols col side' row' col' : Int} (h1 : side = 0 ∨ side = 1) (h2 : 1 ≤ rows ∧ rows ≤ 2) (h3 : 0 ≤ row ∧ row < rows) (h4 : 1 ≤ cols ∧ cols ≤ 4) (h5 : 0 ≤ col ∧ col < cols)
    (k1 : side' = 0 ∨ side' = 1) (k3 : 0 ≤ row' ∧ row' < rows) (k5 : 0 ≤ col' ∧ col' < cols) (h : (side * rows + row) * cols + col = (side' * rows + row') * cols + col') : side = side' ∧ row = row' ∧ col = col' := by
  rcases (show rows = 1 ∨ rows = 2 by omega) with rfl | rfl <;> rcases (show cols = 1 ∨ cols = 2 ∨ cols = 3 ∨ cols = 4 by omega) with rfl | rfl | rfl | rfl <;> omega

/-- A spot of a right run. -/
structure SpotOk (r : RunD) (s : SpotD) (m : Nat) (x : WebD) : Prop where
  web : s.web = m
  there : r.webs[m]? = some x
  side : s.side = 0 ∨ s.side = 1
  row : 0 ≤ s.row ∧ s.row < x.rows
  col : 0 ≤ s.col ∧ s.col < x.cols
  rows : 1 ≤ x.rows ∧ x.rows ≤ 2
  cols : 1 ≤ x.cols ∧ x.cols ≤ 4
  plates : (x.plates.length : Int) = 2 * x.rows * x.cols
theorem spot_ok {r : RunD} (h : checkE r = 0) {s : SpotD} (hs : s ∈ allSpots r) : ∃ m x, SpotOk r s m x := by
  obtain ⟨st, hst, row, hrow, hsp⟩ := all_mem.1 hs
  obtain ⟨x, hx, hxs⟩ := List.mem_flatMap.1 hsp
  obtain ⟨k, hk, e⟩ := List.getElem_of_mem hst
  obtain ⟨i, -, ho, e1, e2, e3, e4⟩ := half_ok h (List.getElem?_eq_getElem hk) (by rw [e]; exact hx)
  have hm : (ribAt r i).web.toNat < r.webs.length := by have := ho.web0; have := ho.web1; omega
  have hw := webs_ok (parts_ok h 1 (by omega)) _ (List.getElem_mem hm)
  have hc1 := ho.col1
  rw [getD_of (List.getElem?_eq_getElem hm)] at hc1
  obtain ⟨w1, w2, w3, w4, w5, w6, -⟩ := hw
  have hsx : s.web = x.web ∧ (s.side = x.s0 ∨ s.side = x.s1) ∧ s.row = row ∧ s.col = x.col := by
    simp only [halfSpots, List.mem_cons, List.not_mem_nil, or_false] at hxs
    rcases hxs with rfl | rfl
    · exact ⟨rfl, .inl rfl, rfl, rfl⟩
    · exact ⟨rfl, .inr rfl, rfl, rfl⟩
  obtain ⟨s1, s2, s3, s4⟩ := hsx
  have hw0 := ho.web0
  have hc0 := ho.col0
  exact ⟨_, _, by rw [s1, e1]; omega, List.getElem?_eq_getElem hm, by omega, by omega, by omega, ⟨w3, w4⟩, ⟨w1, w2⟩, w6⟩
theorem place_all {r : RunD} {s : SpotD} {p : PlaceD} (h : (s, p) ∈ placesD r) : s ∈ allSpots r := by
  have : s ∈ (placesD r).map (·.1) := List.mem_map_of_mem (f := (·.1)) h
  unfold placesD at this
  rw [row3_keys] at this
  exact this
theorem SpotOk.idx {r : RunD} {s : SpotD} {m : Nat} {x : WebD} (h : SpotOk r s m x) : plateI x s < x.plates.length ∧ ((plateI x s : Nat) : Int) = (s.side * x.rows + s.row) * x.cols + s.col := by
  have := plate_lt h.side h.rows h.row h.cols h.col
  have := h.plates
  unfold plateI
  omega
theorem SpotOk.inj {r : RunD} {s s' : SpotD} {m : Nat} {x : WebD} (h : SpotOk r s m x) (h' : SpotOk r s' m x) (e : plateI x s = plateI x s') : s = s' := by
  have e1 := h.idx.2
  have e2 := h'.idx.2
  rw [e] at e1
  obtain ⟨a, b, c⟩ := plate_inj h.side h.rows h.row h.cols h.col h'.side h'.row h'.col (e1.symm.trans e2)
  have d := h.web.trans h'.web.symm
  cases s; cases s'
  simp only at a b c d
  subst a b c d
  rfl

theorem spots_same (r : RunD) (st : List Int) (row row' : Int) : (spotsD r st row).length = (spotsD r st row').length := by
  have h1 : (spotsD r st row).length = 2 * (halvesD r st).length := outD_len row _
  have h2 : (spotsD r st row').length = 2 * (halvesD r st).length := outD_len row' _
  rw [h1, h2]
theorem alike {r : RunD} (h : checkE r = 0) {c : Nat} {S : List (List SpotD)} (hS : (layoutD r)[c]? = some S) : (S.map fun l => (l.length : Int)) = sizesD r := by
  have h2 := rows_two h
  unfold sizesD
  cases hc : r.coll with
  | true =>
    rw [layout_coll hc] at hS ⊢
    have h0 : c = 0 := by have := (List.getElem?_eq_some_iff.1 hS).1; simpa using this
    subst h0
    simp only [List.getElem?_cons_zero, Option.some.injEq] at hS
    subst hS
    rfl
  | false =>
    rw [layout_straight hc] at hS ⊢
    have hl : 0 < ((List.range (rows0 r).toNat).map fun (row : Nat) => straightD r row).length := by rw [List.length_map, List.length_range]; omega
    rw [getD_of (List.getElem?_eq_getElem hl)]
    obtain ⟨row, -, rfl⟩ := List.mem_map.1 (List.mem_of_getElem? hS)
    simp only [List.getElem_map, straightD, List.map_map]
    exact List.map_congr_left fun st _ => by simp only [Function.comp]; exact congrArg Int.ofNat (spots_same r st _ _)
theorem place_in {r : RunD} (h : checkE r = 0) {product : List (List Int)} (hsz : hasSizesB r product = true) {s : SpotD} {p : PlaceD} (hm : (s, p) ∈ placesD r) :
    ∃ (c k i : Nat) (sec : List Int) (page : Int), p = ⟨c, k, i⟩ ∧ product[k]? = some sec ∧ sec[i]? = some page ∧ pageOf product p = page := by
  obtain ⟨c, k, i, S, l, rfl, hS, hl, hi⟩ := place_mem.1 hm
  have ha : (S.map fun l => (l.length : Int)) = product.map fun x => (x.length : Int) := (alike h hS).trans (of_decide_eq_true hsz)
  have hk := (List.getElem?_eq_some_iff.1 hl).1
  have hlen : S.length = product.length := by have := congrArg List.length ha; simpa using this
  obtain ⟨sec, hsec⟩ : ∃ sec, product[k]? = some sec := ⟨_, List.getElem?_eq_getElem (by omega)⟩
  have h3 : (some (l.length : Int)) = some (sec.length : Int) := by
    have := congrArg (fun z => z[k]?) ha
    simpa [List.getElem?_map, hl, hsec] using this
  have hi2 := (List.getElem?_eq_some_iff.1 hi).1
  obtain ⟨page, hp⟩ : ∃ page, sec[i]? = some page := ⟨_, List.getElem?_eq_getElem (by simp only [Option.some.injEq] at h3; omega)⟩
  exact ⟨c, k, i, sec, page, rfl, hsec, hp, by unfold pageOf; simp only [Int.toNat_natCast]; rw [getD_of hsec, getD_of hp]⟩

end Go.Proofs.Ytdbfhdncjblleaa
