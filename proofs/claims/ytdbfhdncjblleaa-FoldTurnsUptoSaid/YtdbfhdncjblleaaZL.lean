/-
  A ribbon that is turned over: where its spots go.
-/
import Derived.Test.YtdbfhdncjblleaaZK
namespace Go.Proofs.Ytdbfhdncjblleaa
open Go.RowKit

def onRib (b : RibD) (web col : Int) : Bool := decide (web = b.web ∧ b.col ≤ col ∧ col < b.col + b.width)
def flipS (b : RibD) (s : SpotD) : SpotD := if onRib b s.web s.col then ⟨s.web, 1 - s.side, s.row, 2 * b.col + b.width - 1 - s.col⟩ else s
def flipH (b : RibD) (x : HalfD) : HalfD := if onRib b x.web x.col then ⟨x.web, 2 * b.col + b.width - 1 - x.col, 1 - x.s0, 1 - x.s1⟩ else x
theorem flip_spots (b : RibD) (row : Int) (x : HalfD) : halfSpots row (flipH b x) = (halfSpots row x).map (flipS b) := by
  unfold flipH halfSpots
  cases h : onRib b x.web x.col <;> simp [flipS, h]
theorem turn_at {r : RunD} {n : Nat} (i : Int) (hi : 0 ≤ i ∧ i < r.ribs.length) : ribAt (turnD r n) i = if i = n then turnRib (ribAt r i) else ribAt r i := by
  unfold ribAt turnD
  show (r.ribs.set (n : Int).toNat _).getD i.toNat default = _
  rw [Int.toNat_natCast, List.getD_eq_getElem?_getD, List.getElem?_set]
  by_cases he : i = n
  · subst he
    rw [if_pos rfl, Int.toNat_natCast, if_pos rfl, if_pos (by omega)]; rfl
  · rw [if_neg (by omega), if_neg he, ← List.getD_eq_getElem?_getD]
theorem flip_self {r : RunD} {b : RibD} (ho : RibOk r b) : rightHalfD (turnRib b) = flipH b (rightHalfD b) ∧ leftHalfD (turnRib b) = flipH b (leftHalfD b) := by
  have hw := ho.width0
  obtain ⟨web, col, width, turned, left⟩ := b
  simp only at hw
  constructor
  · cases turned
    · have h1 : onRib ⟨web, col, width, false, left⟩ web (col + width - 1) = true := decide_eq_true ⟨rfl, by show col ≤ _; omega, by show _ < col + width; omega⟩
      simp only [rightHalfD, turnRib, flipH, Bool.not_false, Bool.false_eq_true, if_true, if_false, h1]
      simp [HalfD.mk.injEq]; omega
    · have h1 : onRib ⟨web, col, width, true, left⟩ web col = true := decide_eq_true ⟨rfl, by show col ≤ _; omega, by show _ < col + width; omega⟩
      simp only [rightHalfD, turnRib, flipH, Bool.not_true, Bool.false_eq_true, if_true, if_false, h1]
      simp [HalfD.mk.injEq]; omega
  · cases turned
    · have h1 : onRib ⟨web, col, width, false, left⟩ web col = true := decide_eq_true ⟨rfl, by show col ≤ _; omega, by show _ < col + width; omega⟩
      simp only [leftHalfD, turnRib, flipH, Bool.not_false, Bool.false_eq_true, if_true, if_false, h1]
      simp [HalfD.mk.injEq]; omega
    · have h1 : onRib ⟨web, col, width, true, left⟩ web (col + width - 1) = true := decide_eq_true ⟨rfl, by show col ≤ _; omega, by show _ < col + width; omega⟩
      simp only [leftHalfD, turnRib, flipH, Bool.not_true, Bool.false_eq_true, if_true, if_false, h1]
      simp [HalfD.mk.injEq]; omega
theorem flip_other {r : RunD} (h : checkE r = 0) {i j : Int} (hi : 0 ≤ i ∧ i < r.ribs.length) (hj : 0 ≤ j ∧ j < r.ribs.length) (hne : i ≠ j) {x : HalfD} (hx : x = rightHalfD (ribAt r i) ∨ x = leftHalfD (ribAt r i)) : flipH (ribAt r j) x = x := by
  have h1 := half_on (rib_at h hi) x hx
  unfold flipH
  rw [if_neg]
  intro hc
  obtain ⟨h2, h3, h4⟩ := of_decide_eq_true hc
  exact rib_apart2 h hi hj hne x.col ⟨by rw [← h1.1]; exact h2, h1.2.1, h1.2.2.1, h3, h4⟩
theorem turn_half {r : RunD} (h : checkE r = 0) {n : Nat} (hn : n < r.ribs.length) {i : Int} (hi : 0 ≤ i ∧ i < r.ribs.length) :
    rightHalfD (ribAt (turnD r n) i) = flipH (ribAt r n) (rightHalfD (ribAt r i)) ∧ leftHalfD (ribAt (turnD r n) i) = flipH (ribAt r n) (leftHalfD (ribAt r i)) ∧ (ribAt (turnD r n) i).left = (ribAt r i).left ∧ hasLeft (ribAt (turnD r n) i) = hasLeft (ribAt r i) := by
  rw [turn_at i hi]
  by_cases he : i = n
  · subst he
    rw [if_pos rfl]
    have := flip_self (rib_at h hi)
    exact ⟨this.1, this.2, rfl, rfl⟩
  · rw [if_neg he, flip_other h hi (j := (n : Int)) ⟨by omega, by omega⟩ he (.inl rfl), flip_other h hi (j := (n : Int)) ⟨by omega, by omega⟩ he (.inr rfl)]
    exact ⟨rfl, rfl, rfl, rfl⟩
theorem sel_eq {r : RunD} (p : RibD → Bool) (f : RibD → HalfD) (l : List Int) : ((l.map (ribAt r)).filter p).map f = (l.filter fun i => p (ribAt r i)).map fun i => f (ribAt r i) := by
  rw [List.filter_map, List.map_map]; rfl
theorem turn_sel {r : RunD} {n : Nat} (p : RibD → Bool) (f : RibD → HalfD) (l : List Int) (hp : ∀ i ∈ l, p (ribAt (turnD r n) i) = p (ribAt r i)) (hf : ∀ i ∈ l, f (ribAt (turnD r n) i) = flipH (ribAt r n) (f (ribAt r i))) :
    ((l.map (ribAt (turnD r n))).filter p).map f = (((l.map (ribAt r)).filter p).map f).map (flipH (ribAt r n)) := by
  rw [sel_eq, sel_eq, List.map_map, List.filter_congr hp]
  refine List.map_congr_left fun i hi => hf i (List.mem_filter.1 hi).1
theorem turn_halves {r : RunD} (h : checkE r = 0) {n : Nat} (hn : n < r.ribs.length) {l : List Int} (hl : InRange r l) : halvesD (turnD r n) l = (halvesD r l).map (flipH (ribAt r n)) := by
  have hr : InRange r l.reverse := fun i hi => hl i (List.mem_reverse.1 hi)
  unfold halvesD rightsD leftsD
  rw [List.map_append, turn_sel (fun b => !b.left) rightHalfD l (fun i hi => by simp only [(turn_half h hn (hl i hi)).2.2.1]) (fun i hi => (turn_half h hn (hl i hi)).1),
    turn_sel hasLeft leftHalfD l.reverse (fun i hi => (turn_half h hn (hr i hi)).2.2.2) (fun i hi => (turn_half h hn (hr i hi)).2.1)]
theorem turn_spots {r : RunD} (h : checkE r = 0) {n : Nat} (hn : n < r.ribs.length) {l : List Int} (hl : InRange r l) (row : Int) : spotsD (turnD r n) l row = (spotsD r l row).map (flipS (ribAt r n)) := by
  unfold spotsD
  rw [turn_halves h hn hl, List.flatMap_map, List.map_flatMap]
  congr 1
  funext x
  exact flip_spots _ row x

theorem map_eq_of {α β γ : Type} {f : α → γ} {g : α → β} {F : β → γ} {l : List α} (h : ∀ x ∈ l, f x = F (g x)) : l.map f = (l.map g).map F := by
  rw [List.map_map]
  exact List.map_congr_left h
theorem flat_eq_of {α β : Type} {f g : α → List β} {F : β → β} : ∀ {l : List α}, (∀ x ∈ l, f x = (g x).map F) → l.flatMap f = (l.flatMap g).map F
  | [], _ => rfl
  | x :: l, h => by rw [List.flatMap_cons, List.flatMap_cons, List.map_append, h x (by simp), flat_eq_of fun y hy => h y (by simp [hy])]
theorem turn_layout {r : RunD} (h : checkE r = 0) {n : Nat} (hn : n < r.ribs.length) : layoutD (turnD r n) = (layoutD r).map (List.map (List.map (flipS (ribAt r n)))) := by
  cases hc : r.coll with
  | true =>
    rw [layout_coll hc, layout_coll (r := turnD r n) hc]
    show [collectedD (turnD r n)] = [(collectedD r).map _]
    congr 1
    unfold collectedD
    show r.stacks.flatMap _ = _
    refine flat_eq_of fun st hst => ?_
    unfold rowsD
    rw [turn_rows]
    exact map_eq_of (F := List.map (flipS (ribAt r n))) fun row _ => turn_spots h hn (stacks_range h st hst) row
  | false =>
    rw [layout_straight hc, layout_straight (r := turnD r n) hc, turn_rows]
    refine map_eq_of (F := List.map (List.map (flipS (ribAt r n)))) fun row _ => ?_
    unfold straightD
    show r.stacks.map _ = _
    exact map_eq_of (F := List.map (flipS (ribAt r n))) fun st hst => turn_spots h hn (stacks_range h st hst) row
/-- What a spot printed, its turned spot prints when the ribbon is turned. -/
theorem turn_follow {r : RunD} (h : checkE r = 0) {n : Nat} (hn : n < r.ribs.length) {s : SpotD} {p : PlaceD} (hp : followO r s = some p) : followO (turnD r n) (flipS (ribAt r n) s) = some p := by
  obtain ⟨c, k, i, S, l, rfl, hS, hl, hi⟩ := place_mem.1 ((follow_mem h).1 hp)
  refine (follow_mem ((turn_check r n).trans h)).2 (place_mem.2 ⟨c, k, i, S.map (List.map (flipS (ribAt r n))), l.map (flipS (ribAt r n)), rfl, ?_, ?_, ?_⟩)
  · rw [turn_layout h hn, List.getElem?_map, hS]; rfl
  · rw [List.getElem?_map, hl]; rfl
  · rw [List.getElem?_map, hi]; rfl
/-- Turned twice, a run is as it was. -/
theorem turn_twice (r : RunD) (i : Int) : turnD (turnD r i) i = r := by
  have e : (r.ribs.set i.toNat (turnRib (r.ribs.getD i.toNat default))).set i.toNat (turnRib ((r.ribs.set i.toNat (turnRib (r.ribs.getD i.toNat default))).getD i.toNat default)) = r.ribs := by
    rw [List.set_set]
    refine List.ext_getElem? fun k => ?_
    rw [List.getElem?_set]
    split
    · rename_i hk
      subst hk
      split
      · rename_i hl
        rw [List.getElem?_eq_getElem hl, List.getD_eq_getElem?_getD, List.getElem?_set, if_pos rfl, if_pos hl, List.getD_eq_getElem?_getD, List.getElem?_eq_getElem hl]
        simp [turnRib]
      · rename_i hl
        rw [List.getElem?_eq_none (by omega)]
    · rfl
  unfold turnD
  show ({ r with ribs := _ } : RunD) = r
  rw [e]

end Go.Proofs.Ytdbfhdncjblleaa
