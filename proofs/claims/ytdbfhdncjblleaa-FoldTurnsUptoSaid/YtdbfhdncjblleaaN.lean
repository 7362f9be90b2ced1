/-
  Slices of slices of one's own; straightCopy, collectedCopy, layout.
-/
import Derived.Test.YtdbfhdncjblleaaL
namespace Go.Proofs.Ytdbfhdncjblleaa
open Go.RowKit

/-- All blocks of cells whose elements are not of type e lie as they lay. -/
def Grew (e : TypeId) (w w1 : World) : Prop := ∀ (g : Nat) (cs : Array Value) (t : TypeId) (fr : Nat × Nat), w.heap[g]? = some (Obj.cells cs t fr) → t ≠ e → w1.heap[g]? = w.heap[g]?
theorem Grew.of_below {e : TypeId} {w w1 : World} (h : Below w.heap.size w w1) : Grew e w w1 := fun g _ _ _ hg _ => h.block g (Array.getElem?_eq_some_iff.1 hg).1
theorem Grew.of_append {e : TypeId} {w w1 : World} {base k n : Nat} {v : Value} {xs : List Value} {tmp : Obj} (hr : w.ownsRow base e k v n xs) (hg : (w.alloc tmp).grownBy w1 v.ownBlock) : Grew e w w1 := fun g cs t fr hc hne => by
  have hlt : g < w.heap.size := (Array.getElem?_eq_some_iff.1 hc).1
  rw [hg.block g (by simp; omega) (not_row' hc hne hr), Below.heap_alloc w tmp g hlt]
theorem Grew.trans {e : TypeId} {a b c : World} (h : Grew e a b) (k : Grew e b c) : Grew e a c := fun g cs t fr hc hne => by
  have h1 := h g cs t fr hc hne
  rw [k g cs t fr (h1.trans hc) hne, h1]
theorem ownsRow_grew {e e' : TypeId} {w w1 : World} {base k n : Nat} {v : Value} {xs : List Value} (h : w.ownsRow base e' k v n xs) (hg : Grew e w w1) (hne : e' ≠ e) : w1.ownsRow base e' k v n xs := by
  refine ⟨h.1, ?_⟩
  rcases h.2 with h2 | ⟨g, cap, cur, hv, hb, hh, r⟩
  · exact .inl h2
  · exact .inr ⟨g, cap, cur, hv, hb, (hg g _ _ _ hh hne).trans hh, r⟩
theorem ownsRow_below {e : TypeId} {w w1 : World} {base k n : Nat} {v : Value} {xs : List Value} (h : w.ownsRow base e k v n xs) (hb : Below w.heap.size w w1) : w1.ownsRow base e k v n xs := by
  refine ⟨h.1, ?_⟩
  rcases h.2 with h2 | ⟨g, cap, cur, hv, hb2, hh, r⟩
  · exact .inl h2
  · exact .inr ⟨g, cap, cur, hv, hb2, (hb.block g (Array.getElem?_eq_some_iff.1 hh).1).trans hh, r⟩
theorem ownsRow_form {e : TypeId} {w : World} {base k n : Nat} {v : Value} {xs : List Value} (h : w.ownsRow base e k v n xs) : ∃ A c, v = .slice A n c := by
  rcases h.2 with ⟨rfl, rfl⟩ | ⟨g, cap, cur, rfl, _⟩
  · exact ⟨_, _, rfl⟩
  · exact ⟨_, _, rfl⟩

/-- A slice of one's own, whose elements (one cell each) read by R. -/
def OAll {α : Type} (R : World → Value → α → Prop) (e : TypeId) (base : Nat) (w : World) (v : Value) (vs : List Value) (l : List α) : Prop :=
  w.ownsRow base e 1 v l.length vs ∧ ∀ (i : Nat) (u : Value) (x : α), vs[i]? = some u → l[i]? = some x → R w u x
theorem OAll.nil {α : Type} {R : World → Value → α → Prop} {e : TypeId} {base : Nat} {w : World} : OAll R e base w (.slice none 0 0) [] ([] : List α) := ⟨World.ownsRow_nil _ _ _ _, fun i u x h => by simp at h⟩
theorem OAll.len {α : Type} {R : World → Value → α → Prop} {e : TypeId} {base : Nat} {w : World} {v : Value} {vs : List Value} {l : List α} (h : OAll R e base w v vs l) : vs.length = l.length := by simpa using h.1.1
theorem OAll.append {α : Type} {R : World → Value → α → Prop} {e : TypeId} {base : Nat} {w w1 : World} {v v' u : Value} {vs : List Value} {l : List α} {x : α}
    (h : OAll R e base w v vs l) (hk : ∀ u x, R w u x → R w1 u x) (hR : R w u x) (hown : w1.ownsRow base e 1 v' (l.length + 1) (vs ++ [u])) : OAll R e base w1 v' (vs ++ [u]) (l ++ [x]) := by
  refine ⟨by simpa using hown, fun i u' x' hu hx => ?_⟩
  have hl := h.len
  rcases Nat.lt_or_ge i l.length with hi | hi
  · rw [List.getElem?_append_left (by omega)] at hu
    rw [List.getElem?_append_left hi] at hx
    exact hk _ _ (h.2 i u' x' hu hx)
  · rw [List.getElem?_append_right (by omega)] at hu
    rw [List.getElem?_append_right hi] at hx
    have hi0 : i - l.length = 0 := by
      rcases Nat.eq_zero_or_pos (i - l.length) with h0 | h0
      · exact h0
      · rw [List.getElem?_eq_none (by simp; omega)] at hx; cases hx
    rw [hl, hi0] at hu
    rw [hi0] at hx
    simp only [List.getElem?_cons_zero, Option.some.injEq] at hu hx
    subst hu hx
    exact hk _ _ hR
theorem OAll.keep {α : Type} {R : World → Value → α → Prop} {e e' : TypeId} {base : Nat} {w w1 : World} {v : Value} {vs : List Value} {l : List α} (h : OAll R e base w v vs l) (hg : Grew e' w w1) (hne : e ≠ e') (hk : ∀ u x, R w u x → R w1 u x) : OAll R e base w1 v vs l :=
  ⟨ownsRow_grew h.1 hg hne, fun i u x hu hx => hk _ _ (h.2 i u x hu hx)⟩
theorem OAll.below {α : Type} {R : World → Value → α → Prop} {e : TypeId} {base : Nat} {w w1 : World} {v : Value} {vs : List Value} {l : List α} (h : OAll R e base w v vs l) (hb : Below w.heap.size w w1) (hk : ∀ u x, R w u x → R w1 u x) : OAll R e base w1 v vs l :=
  ⟨ownsRow_below h.1 hb, fun i u x hu hx => hk _ _ (h.2 i u x hu hx)⟩
theorem OAll.base_ {α : Type} {R R' : World → Value → α → Prop} {e : TypeId} {b b' : Nat} {w : World} {v : Value} {vs : List Value} {l : List α} (h : OAll R e b w v vs l) (hb : b' ≤ b) (hR : ∀ u x, R w u x → R' w u x) : OAll R' e b' w v vs l :=
  ⟨ownsRow_base h.1 hb, fun i u x hu hx => hR _ _ (h.2 i u x hu hx)⟩

def OSpots (base : Nat) (w : World) (v : Value) (l : List SpotD) : Prop := w.ownsRow base 53 4 v l.length (cellsOf l)
def OSecs (base : Nat) (w : World) (v : Value) (l : List (List SpotD)) : Prop := ∃ vs, OAll (OSpots base) 127 base w v vs l
def OCopies (base : Nat) (w : World) (v : Value) (l : List (List (List SpotD))) : Prop := ∃ vs, OAll (OSecs base) 115 base w v vs l
section
variable {base b' : Nat} {w w1 : World} {v : Value} {e : TypeId}
theorem OSpots.grew {l : List SpotD} (h : OSpots base w v l) (hg : Grew e w w1) (hne : 53 ≠ e) : OSpots base w1 v l := ownsRow_grew h hg hne
theorem OSpots.base_ {l : List SpotD} (h : OSpots base w v l) (hb : b' ≤ base) : OSpots b' w v l := ownsRow_base h hb
theorem OSecs.grew {l : List (List SpotD)} (h : OSecs base w v l) (hg : Grew e w w1) (h1 : 127 ≠ e) (h2 : 53 ≠ e) : OSecs base w1 v l := by
  obtain ⟨vs, h⟩ := h
  exact ⟨vs, h.keep hg h1 fun _ _ hr => hr.grew hg h2⟩
theorem OSpots.below {l : List SpotD} (h : OSpots base w v l) (hb : Below w.heap.size w w1) : OSpots base w1 v l := ownsRow_below h hb
theorem OSecs.below {l : List (List SpotD)} (h : OSecs base w v l) (hb : Below w.heap.size w w1) : OSecs base w1 v l := by
  obtain ⟨vs, h⟩ := h
  exact ⟨vs, h.below hb fun _ _ hr => hr.below hb⟩
theorem OSecs.base_ {l : List (List SpotD)} (h : OSecs base w v l) (hb : b' ≤ base) : OSecs b' w v l := by
  obtain ⟨vs, h⟩ := h
  exact ⟨vs, h.base_ hb fun _ _ hr => hr.base_ hb⟩
theorem OCopies.base_ {l : List (List (List SpotD))} (h : OCopies base w v l) (hb : b' ≤ base) : OCopies b' w v l := by
  obtain ⟨vs, h⟩ := h
  exact ⟨vs, h.base_ hb fun _ _ hr => hr.base_ hb⟩
theorem OCopies.below {l : List (List (List SpotD))} (h : OCopies base w v l) (hb : Below w.heap.size w w1) : OCopies base w1 v l := by
  obtain ⟨vs, h⟩ := h
  exact ⟨vs, h.below hb fun _ _ hr => hr.below hb⟩
end

theorem infoSpots : (Try.prog.info? 127).map (fun i => (i.zero, i.size, i.bytes)) = some (some (.slice none 0 0), 1, 24) := by kernel_rfl
theorem infoSecs : (Try.prog.info? 115).map (fun i => (i.zero, i.size, i.bytes)) = some (some (.slice none 0 0), 1, 24) := by kernel_rfl

theorem take_map_next {α β : Type} (f : α → β) {l : List α} {k : Nat} {x : α} (h : l[k]? = some x) : (l.map f).take (k + 1) = (l.map f).take k ++ [f x] := by
  obtain ⟨hk, rfl⟩ := List.getElem?_eq_some_iff.1 h
  rw [List.take_succ_eq_append_getElem (by simpa using hk)]
  simp
theorem take_flat_next {α β : Type} (f : α → List β) {l : List α} {k : Nat} {x : α} (h : l[k]? = some x) : (l.take (k + 1)).flatMap f = (l.take k).flatMap f ++ f x := by
  obtain ⟨hk, rfl⟩ := List.getElem?_eq_some_iff.1 h
  rw [List.take_succ_eq_append_getElem hk, List.flatMap_append]
  simp

def straightD (r : RunD) (row : Int) : List (List SpotD) := r.stacks.map fun s => spotsD r s row

/-- The items of the stacks of a right run, and their ribbons. -/
theorem stack_good {r : RunD} (h : checkE r = 0) {k : Nat} {l : List Int} (hl : r.stacks[k]? = some l) :
    l.length ≤ 1000000 ∧ (∀ i ∈ l, 0 ≤ i ∧ i < r.ribs.length) ∧ (∀ i ∈ l, 0 ≤ (ribAt r i).col ∧ (ribAt r i).col ≤ 1000 ∧ 0 ≤ (ribAt r i).width ∧ (ribAt r i).width ≤ 1000) := by
  refine ⟨by have := stack_len h hl; omega, stack_items h hl, fun i hi => ?_⟩
  have hb := stack_items h hl i hi
  have := rib_ok h (k := i.toNat) (by omega)
  unfold ribAt
  have h1 := this.col0; have h2 := this.col2; have h3 := this.width0; have h4 := this.width1
  omega

set_option maxRecDepth 100000 in
set_option maxHeartbeats 1000000 in
theorem straight_any (v : Value) (r : RunD) (row : Int) (w : World) (h : RRun w.heap.size w v r) (hok : checkE r = 0) :
    Calls Try.prog 68 #[v, .int .i64 row] w fun e w' => ∃ u, e = .returned u ∧ OSecs w.heap.size w' u (straightD r row) ∧ Below w.heap.size w w' := by
  obtain ⟨i0, hi, hz0, hz1, hz2⟩ := info_parts infoSpots
  have hrun := Lib.hid h
  have Hok := Lib.hid hok
  have hn4 := (numbers_ok (parts_ok hok 0 (by omega))).2.2.2.2.2
  obtain ⟨v1, v2, v3, rfl, -, -, hs⟩ := h
  obtain ⟨A, ca, rfl, hA1, hA⟩ := hs.open_
  have HA := Lib.hid hA
  clear hs hA hok
  have b0 : Below w.heap.size w (w.alloc (.cells #[v1, v2, .slice A r.stacks.length ca, .bool r.coll] 111)) := (Below.refl _ _).alloc (Nat.le_refl _) _
  have c0 := fun j x => box4 (w := w) (a := v1) (b := v2) (c := .slice A r.stacks.length ca) (d := .bool r.coll) (t := 111) j x
  have z0 : (w.alloc (.cells #[v1, v2, .slice A r.stacks.length ca, .bool r.coll] 111)).heap.size = w.heap.size + 1 := by simp
  have C0 := Lib.hid c0
  have B0 := Lib.hid b0
  have Z0 := Lib.hid z0
  clear c0 b0 z0
  go_enter Try.func68, Try.ntmps68
  go_wp2
  generalize w.alloc (.cells #[v1, v2, .slice A r.stacks.length ca, .bool r.coll] 111) = w1 at *
  go_loopw [5, 12] (fun u i wr => ∃ k : Nat, k ≤ r.stacks.length ∧ i = .int .i64 k ∧ OSecs (w.heap.size + 1) wr u ((straightD r row).take k) ∧ Below (w.heap.size + 1) w1 wr ∧ w.heap.size + 1 ≤ wr.heap.size) (fun _ i _ => r.stacks.length - (intOf i).toNat)
  case atStart => exact ⟨0, Nat.zero_le _, rfl, ⟨_, OAll.nil⟩, Below.refl _ _, by rw [Z0.out]; exact Nat.le_refl _⟩
  case round =>
    obtain ⟨k, hk, rfl, ⟨vs, ho⟩, hB, zr⟩ := hrel
    have hBw : Below w.heap.size w wr := B0.out.trans (hB.mono (by omega))
    by_cases hlt : k < r.stacks.length
    · obtain ⟨x, hx⟩ : ∃ x, r.stacks[k]? = some x := ⟨_, List.getElem?_eq_getElem hlt⟩
      obtain ⟨g, o, u2, rfl, hb, hc1, hp⟩ := HA.out k x hx
      rw [← hBw.cell (p := ⟨g, o + k, none⟩) hb] at hc1
      obtain ⟨A5, c5, rfl, hA5⟩ := slice_len hp
      have d0 := (hB.cell (p := ⟨w.heap.size, 0, none⟩) (by simp)).trans (C0.out 0 _ rfl)
      have d1 := (hB.cell (p := ⟨w.heap.size, 1, none⟩) (by simp)).trans (C0.out 1 _ rfl)
      have d2 := (hB.cell (p := ⟨w.heap.size, 2, none⟩) (by simp)).trans (C0.out 2 _ rfl)
      have d3 := (hB.cell (p := ⟨w.heap.size, 3, none⟩) (by simp)).trans (C0.out 3 _ rfl)
      obtain ⟨s1, s2, s3⟩ := stack_good Hok.out hx
      have C := Lib.hid (spots_any _ _ r x row wr ((hrun.out.below hBw).more hBw.size) ((hp.below hBw).more hBw.size) s1 s2 s3)
      have HX : Hid ((straightD r row).take (k + 1) = (straightD r row).take k ++ [spotsD r x row]) := by
        show (straightD r row).take (k + 1) = (straightD r row).take k ++ [spotsD r x row]
        exact take_map_next (fun s => spotsD r s row) hx
      have HLen : Hid (((straightD r row).take k).length = k) := by
        show ((straightD r row).take k).length = k
        rw [List.length_take]; unfold straightD; rw [List.length_map]; omega
      clear s1 s2 s3 hx hp
      go_wp2_with fail
      refine C.out.mono ?_
      rintro e w3 ⟨u, rfl, hu, hb3⟩
      have ho3 := ho.below hb3 fun _ _ hr => hr.below hb3
      have hu3 : OSpots (w.heap.size + 1) w3 u (spotsD r x row) := ownsRow_base hu zr
      have hB3 := hB.trans (hb3.mono zr)
      have zr3 : w.heap.size + 1 ≤ w3.heap.size := Nat.le_trans zr hb3.size
      obtain ⟨A7, c7, rfl⟩ := ownsRow_form hu
      have hl3 := ho3.1
      rw [HLen.out] at hl3
      clear d0 d1 d2 d3 hc1 hb3 hB hu
      go_wp2_with (at_builtin; refine wpList_append_own _ rfl _ _ 115 rfl (w.heap.size + 1) 127 i0 (.slice none 0 0) 1 24 Try.underlying115 hi hz0 hz1 hz2 rfl (by decide) _ _ _ rfl (hl3.alloc _) ⟨w3.heap.size, 0, none⟩ 1 1 [.slice A7 (spotsD r x row).length c7] rfl rfl (cells_new _ _ _) (by simp [Value.oneCell']) (by simp only [maxLen]; omega) (by omega) (by simp; omega) ?_; intro v' w4 hown' hgrow _)
      have hgr : Grew 127 w3 w4 := Grew.of_append hl3 hgrow
      have hB4 : Below (w.heap.size + 1) w1 w4 := (hB3.alloc zr3 _).grown hgrow (by simp; omega) fun k hk => (hl3.lt k hk).1
      have ho4 : OSecs (w.heap.size + 1) w4 v' ((straightD r row).take (k + 1)) := ⟨vs ++ [.slice A7 (spotsD r x row).length c7], by
        rw [HX.out]
        exact ho3.append (fun _ _ hr => OSpots.grew hr hgr (by decide)) hu3 (by rw [HLen.out]; exact hown')⟩
      have zr4 : w.heap.size + 1 ≤ w4.heap.size := by have := hgrow.size; simp at this; omega
      clear hown' hgrow hl3 ho3 hgr
      go_wp2
      go_roundw
      case rel => exact ⟨k + 1, by omega, by go_num, ho4, hB4, zr4⟩
      case measure => simp [intOf]; omega
    · have hall : (straightD r row).take k = straightD r row := List.take_of_length_le (by unfold straightD; rw [List.length_map]; omega)
      rw [hall] at ho
      have ho2 : OSecs w.heap.size wr u5 (straightD r row) := OSecs.base_ ⟨_, ho⟩ (by omega)
      go_wp2
      go_ret
      exact ⟨_, rfl, ho2, hBw⟩

def rowsD (r : RunD) (s : List Int) : List (List SpotD) := (List.range (rows0 r).toNat).map fun (row : Nat) => spotsD r s row
def collectedD (r : RunD) : List (List SpotD) := r.stacks.flatMap (rowsD r)
theorem rows_two {r : RunD} (h : checkE r = 0) : 1 ≤ rows0 r ∧ rows0 r ≤ 2 := by
  have h1 := numbers_ok (parts_ok h 0 (by omega))
  have hm : 0 < r.webs.length := by omega
  have := webs_ok (parts_ok h 1 (by omega)) _ (List.getElem_mem hm)
  have e : rows0 r = r.webs[0].rows := by unfold rows0; rw [List.getD_eq_getElem?_getD, List.getElem?_eq_getElem hm]; rfl
  rw [e]; omega
theorem flat_len {r : RunD} (h : checkE r = 0) (k : Nat) : ((r.stacks.take k).flatMap (rowsD r)).length ≤ 2 * k := by
  have h2 := rows_two h
  have : ∀ l : List (List Int), (l.flatMap (rowsD r)).length ≤ 2 * l.length := by
    intro l
    induction l with
    | nil => simp
    | cons x l ih => rw [List.flatMap_cons, List.length_append, List.length_cons]; unfold rowsD at ih ⊢; rw [List.length_map, List.length_range]; omega
  have h3 := this (r.stacks.take k)
  rw [List.length_take] at h3
  omega

set_option maxRecDepth 100000 in
set_option maxHeartbeats 1000000 in
theorem collected_copy (v : Value) (r : RunD) (w : World) (h : RRun w.heap.size w v r) (hok : checkE r = 0) :
    Calls Try.prog 67 #[v] w fun e w' => ∃ u, e = .returned u ∧ OSecs w.heap.size w' u (collectedD r) ∧ Below w.heap.size w w' := by
  obtain ⟨i0, hi, hz0, hz1, hz2⟩ := info_parts infoSpots
  have hrun := Lib.hid h
  have Hok := Lib.hid hok
  have hn4 := (numbers_ok (parts_ok hok 0 (by omega))).2.2.2.2.2
  have hn1 := (numbers_ok (parts_ok hok 0 (by omega))).1
  have hr2 := rows_two hok
  obtain ⟨v1, v2, v3, rfl, hw, -, hs⟩ := h
  obtain ⟨A, ca, rfl, hA1, hA⟩ := hs.open_
  obtain ⟨A2, ca2, rfl, hA2, hW⟩ := hw.open_
  obtain ⟨y, hy⟩ : ∃ y, r.webs[0]? = some y := ⟨_, List.getElem?_eq_getElem hn1⟩
  obtain ⟨g0, o0, u0, rfl, hb0, -, hw2, -, -⟩ := hW 0 y hy
  simp only [Nat.zero_mul, Nat.add_zero] at hw2
  have hry : rows0 r = y.rows := by unfold rows0; rw [getD_of hy]
  obtain ⟨q, hq⟩ : ∃ q : Nat, rows0 r = q := ⟨(rows0 r).toNat, by omega⟩
  rw [← hry, hq] at hw2
  rw [hq] at hr2
  have Hq := Lib.hid hq
  have HA := Lib.hid hA
  have Hw2 := Lib.hid hw2
  have i0' : (0 : Int) < (r.webs.length : Int) := by omega
  clear hs hA hok hw hW hw2 hry hq hy
  have b0 : Below w.heap.size w (w.alloc (.cells #[.slice (some ⟨g0, o0, none⟩) r.webs.length ca2, v2, .slice A r.stacks.length ca, .bool r.coll] 111)) := (Below.refl _ _).alloc (Nat.le_refl _) _
  have c0 := fun j x => box4 (w := w) (a := .slice (some ⟨g0, o0, none⟩) r.webs.length ca2) (b := v2) (c := .slice A r.stacks.length ca) (d := .bool r.coll) (t := 111) j x
  have z0 : (w.alloc (.cells #[.slice (some ⟨g0, o0, none⟩) r.webs.length ca2, v2, .slice A r.stacks.length ca, .bool r.coll] 111)).heap.size = w.heap.size + 1 := by simp
  have C0 := Lib.hid c0
  have B0 := Lib.hid b0
  have Z0 := Lib.hid z0
  clear c0 b0 z0
  go_enter Try.func67, Try.ntmps67
  go_wp2
  generalize w.alloc (.cells #[.slice (some ⟨g0, o0, none⟩) r.webs.length ca2, v2, .slice A r.stacks.length ca, .bool r.coll] 111) = w1 at *
  go_loopw [3, 11] (fun u i wr => ∃ k : Nat, k ≤ r.stacks.length ∧ i = .int .i64 k ∧ OSecs (w.heap.size + 1) wr u ((r.stacks.take k).flatMap (rowsD r)) ∧ Below (w.heap.size + 1) w1 wr ∧ w.heap.size + 1 ≤ wr.heap.size) (fun _ i _ => r.stacks.length - (intOf i).toNat)
  case atStart => exact ⟨0, Nat.zero_le _, rfl, ⟨_, OAll.nil⟩, Below.refl _ _, by rw [Z0.out]; exact Nat.le_refl _⟩
  case round =>
    obtain ⟨k, hk, rfl, ho, hB, zr⟩ := hrel
    have hBw : Below w.heap.size w wr := B0.out.trans (hB.mono (by omega))
    by_cases hlt : k < r.stacks.length
    · obtain ⟨x, hx⟩ : ∃ x, r.stacks[k]? = some x := ⟨_, List.getElem?_eq_getElem hlt⟩
      obtain ⟨g, o, u2, rfl, hb, hc1, hp⟩ := HA.out k x hx
      rw [← hBw.cell (p := ⟨g, o + k, none⟩) hb] at hc1
      obtain ⟨A5, c5, rfl, hA5⟩ := slice_len hp
      have d0 := (hB.cell (p := ⟨w.heap.size, 0, none⟩) (by simp)).trans (C0.out 0 _ rfl)
      have hw3 := (hBw.cell (p := ⟨g0, o0 + 1, none⟩) hb0).trans Hw2.out
      have ho0 : OSecs (w.heap.size + 1) wr u3 ((r.stacks.take k).flatMap (rowsD r) ++ (rowsD r x).take 0) := by rw [List.take_zero, List.append_nil]; exact ho
      have Hx := Lib.hid hx
      have Hp := Lib.hid hp
      clear hx hp
      go_wp2
      clear d0 hw3 hc1 ho
      go_loopw [3, 21] (fun u i wr => ∃ m : Nat, m ≤ q ∧ i = .int .i64 m ∧ OSecs (w.heap.size + 1) wr u ((r.stacks.take k).flatMap (rowsD r) ++ (rowsD r x).take m) ∧ Below (w.heap.size + 1) w1 wr ∧ w.heap.size + 1 ≤ wr.heap.size) (fun _ i _ => q - (intOf i).toNat)
      case atStart => exact ⟨0, Nat.zero_le _, rfl, ho0, hB, zr⟩
      case round =>
        clear ho0 hB zr hBw
        obtain ⟨m, hm, rfl, ⟨vs, ho⟩, hB, zr⟩ := hrel
        have hBw : Below w.heap.size w wr := B0.out.trans (hB.mono (by omega))
        by_cases hmt : m < q
        · have d0 := (hB.cell (p := ⟨w.heap.size, 0, none⟩) (by simp)).trans (C0.out 0 _ rfl)
          have d1 := (hB.cell (p := ⟨w.heap.size, 1, none⟩) (by simp)).trans (C0.out 1 _ rfl)
          have d2 := (hB.cell (p := ⟨w.heap.size, 2, none⟩) (by simp)).trans (C0.out 2 _ rfl)
          have d3 := (hB.cell (p := ⟨w.heap.size, 3, none⟩) (by simp)).trans (C0.out 3 _ rfl)
          obtain ⟨s1, s2, s3⟩ := stack_good Hok.out Hx.out
          have C := Lib.hid (spots_any _ _ r x m wr ((hrun.out.below hBw).more hBw.size) ((Hp.out.below hBw).more hBw.size) s1 s2 s3)
          have HX : Hid ((r.stacks.take k).flatMap (rowsD r) ++ (rowsD r x).take (m + 1) = ((r.stacks.take k).flatMap (rowsD r) ++ (rowsD r x).take m) ++ [spotsD r x m]) := by
            show (r.stacks.take k).flatMap (rowsD r) ++ (rowsD r x).take (m + 1) = ((r.stacks.take k).flatMap (rowsD r) ++ (rowsD r x).take m) ++ [spotsD r x m]
            rw [List.append_assoc]
            congr 1
            exact take_map_next (fun (row : Nat) => spotsD r x row) (by rw [List.getElem?_range (by rw [Hq.out]; omega)])
          have hlen : ((r.stacks.take k).flatMap (rowsD r) ++ (rowsD r x).take m).length ≤ 100 := by
            have := flat_len Hok.out k
            rw [List.length_append, List.length_take]; omega
          clear s1 s2 s3
          go_wp2_with fail
          refine C.out.mono ?_
          rintro e w3 ⟨u, rfl, hu, hb3⟩
          have ho3 := ho.below hb3 fun _ _ hr => hr.below hb3
          have hu3 : OSpots (w.heap.size + 1) w3 u (spotsD r x m) := ownsRow_base hu zr
          have hB3 := hB.trans (hb3.mono zr)
          have zr3 : w.heap.size + 1 ≤ w3.heap.size := Nat.le_trans zr hb3.size
          obtain ⟨A7, c7, rfl⟩ := ownsRow_form hu
          have hl3 := ho3.1
          clear d0 d1 d2 d3 hb3 hB hu
          go_wp2_with (at_builtin; refine wpList_append_own _ rfl _ _ 115 rfl (w.heap.size + 1) 127 i0 (.slice none 0 0) 1 24 Try.underlying115 hi hz0 hz1 hz2 rfl (by decide) _ _ _ rfl (hl3.alloc _) ⟨w3.heap.size, 0, none⟩ 1 1 [.slice A7 (spotsD r x m).length c7] rfl rfl (cells_new _ _ _) (by simp [Value.oneCell']) (by simp only [maxLen]; omega) (by omega) (by simp; omega) ?_; intro v' w4 hown' hgrow _)
          have hgr : Grew 127 w3 w4 := Grew.of_append hl3 hgrow
          have hB4 : Below (w.heap.size + 1) w1 w4 := (hB3.alloc zr3 _).grown hgrow (by simp; omega) fun k hk => (hl3.lt k hk).1
          have ho4 : OSecs (w.heap.size + 1) w4 v' ((r.stacks.take k).flatMap (rowsD r) ++ (rowsD r x).take (m + 1)) := ⟨vs ++ [.slice A7 (spotsD r x m).length c7], by
            rw [HX.out]
            exact ho3.append (fun _ _ hr => OSpots.grew hr hgr (by decide)) hu3 hown'⟩
          have zr4 : w.heap.size + 1 ≤ w4.heap.size := by have := hgrow.size; simp at this; omega
          clear hown' hgrow hl3 ho3 hgr
          go_wp2
          go_roundw
          case rel => exact ⟨m + 1, by omega, by go_num, ho4, hB4, zr4⟩
          case measure => simp [intOf]; omega
        · have hall : (rowsD r x).take m = rowsD r x := List.take_of_length_le (by unfold rowsD; rw [List.length_map, List.length_range, Hq.out]; omega)
          rw [hall, ← take_flat_next (rowsD r) Hx.out] at ho
          have ho2 : OSecs (w.heap.size + 1) wr u3 ((r.stacks.take (k + 1)).flatMap (rowsD r)) := ⟨_, ho⟩
          go_wp2
          go_roundw
          case rel => exact ⟨k + 1, by omega, by go_num, ho2, hB, zr⟩
          case measure => simp [intOf]; omega
    · have hall : r.stacks.take k = r.stacks := List.take_of_length_le (by omega)
      rw [hall] at ho
      have ho2 : OSecs w.heap.size wr u3 (collectedD r) := OSecs.base_ ho (by omega)
      go_wp2
      go_ret
      exact ⟨_, rfl, ho2, hBw⟩
end Go.Proofs.Ytdbfhdncjblleaa
