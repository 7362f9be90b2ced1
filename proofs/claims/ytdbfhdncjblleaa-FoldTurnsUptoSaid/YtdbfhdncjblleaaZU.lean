/-
  A plate stored into a run of one's own; what Fill leaves.
-/
import Derived.Test.YtdbfhdncjblleaaZT
namespace Go.Proofs.Ytdbfhdncjblleaa
open Go.RowKit

/-- Webs alike but for what their plates print. -/
def SameShape (l l' : List WebD) : Prop := l'.length = l.length ∧ ∀ (i : Nat) (x : WebD), l[i]? = some x → ∃ x', l'[i]? = some x' ∧ x'.cols = x.cols ∧ x'.rows = x.rows ∧ x'.plates.length = x.plates.length
theorem SameShape.refl (l : List WebD) : SameShape l l := ⟨rfl, fun _ x h => ⟨x, h, rfl, rfl, rfl⟩⟩
def putPlate (l : List WebD) (m k : Nat) (q : PlateD) : List WebD := l.set m ⟨(l.getD m default).cols, (l.getD m default).rows, (l.getD m default).plates.set k q⟩
theorem SameShape.put {l l' : List WebD} (h : SameShape l l') (m k : Nat) (q : PlateD) : SameShape l (putPlate l' m k q) := by
  refine ⟨by unfold putPlate; rw [List.length_set]; exact h.1, fun i x hx => ?_⟩
  obtain ⟨x', h1, h2, h3, h4⟩ := h.2 i x hx
  unfold putPlate
  by_cases e : m = i
  · subst e
    rw [getD_of h1, List.getElem?_set_self (by exact (List.getElem?_eq_some_iff.1 h1).1)]
    exact ⟨_, rfl, h2, h3, by simpa using h4⟩
  · rw [List.getElem?_set_ne e]
    exact ⟨x', h1, h2, h3, h4⟩
theorem plateAt_in {r : RunD} {ws : List WebD} {s : SpotD} {m : Nat} {x x' : WebD} (hs : SpotOk r s m x) (hx' : ws[m]? = some x') (h1 : x'.cols = x.cols) (h2 : x'.rows = x.rows) : plateAt ws s = x'.plates.getD (plateI x s) default := by
  unfold plateAt plateI
  rw [hs.web, Int.toNat_natCast, getD_of hx', h1, h2]
theorem put_same {r : RunD} {ws : List WebD} (h : SameShape r.webs ws) {s : SpotD} {m : Nat} {x : WebD} (hs : SpotOk r s m x) (q : PlateD) : plateAt (putPlate ws m (plateI x s) q) s = q := by
  obtain ⟨x', h1, h2, h3, h4⟩ := h.2 m x hs.there
  have hl := (List.getElem?_eq_some_iff.1 h1).1
  have hi := hs.idx.1
  unfold putPlate
  rw [getD_of h1]
  rw [plateAt_in (x' := ⟨x'.cols, x'.rows, x'.plates.set (plateI x s) q⟩) hs (List.getElem?_set_self hl) h2 h3]
  simp only
  rw [List.getD_eq_getElem?_getD, List.getElem?_set_self (by omega)]
  rfl
theorem put_other {r : RunD} {ws : List WebD} (h : SameShape r.webs ws) {s s' : SpotD} {m m' : Nat} {x x2 : WebD} (hs : SpotOk r s m x) (hs' : SpotOk r s' m' x2) (hne : s' ≠ s) (q : PlateD) : plateAt (putPlate ws m (plateI x s) q) s' = plateAt ws s' := by
  obtain ⟨x', h1, h2, h3, h4⟩ := h.2 m x hs.there
  obtain ⟨x3, k1, k2, k3, k4⟩ := h.2 m' x2 hs'.there
  have hl := (List.getElem?_eq_some_iff.1 h1).1
  unfold putPlate
  rw [getD_of h1]
  by_cases e : m = m'
  · subst e
    have e2 := hs.there.symm.trans hs'.there
    injection e2 with e2
    subst e2
    rw [h1] at k1
    injection k1 with k1
    subst k1
    rw [plateAt_in (x' := ⟨x'.cols, x'.rows, x'.plates.set (plateI x s) q⟩) hs' (List.getElem?_set_self hl) h2 h3, plateAt_in hs' h1 h2 h3]
    simp only
    rw [List.getD_eq_getElem?_getD, List.getD_eq_getElem?_getD, List.getElem?_set_ne]
    intro e3
    exact hne (hs.inj hs' e3).symm
  · rw [plateAt_in hs' (by rw [List.getElem?_set_ne e]; exact k1) k2 k3, plateAt_in hs' k1 k2 k3]

/-- A run is filled: each place's plate prints its page. -/
def Filled (r : RunD) (product : List (List Int)) (r' : RunD) : Prop :=
  r'.ribs = r.ribs ∧ r'.stacks = r.stacks ∧ r'.coll = r.coll ∧ SameShape r.webs r'.webs ∧ ∀ x ∈ placesD r, plateAt r'.webs x.1 = ⟨pageOf product x.2, false⟩
def FilledTo (r : RunD) (product : List (List Int)) (seen : Array Nat) (ws : List WebD) : Prop :=
  SameShape r.webs ws ∧ ∀ k x, seen.contains k = true → (placesD r)[k]? = some x → plateAt ws x.1 = ⟨pageOf product x.2, false⟩
theorem place_key {r : RunD} (h : checkE r = 0) {i k : Nat} {s : SpotD} {p q : PlaceD} (h1 : (placesD r)[i]? = some (s, p)) (h2 : (placesD r)[k]? = some (s, q)) : i = k := by
  have hn := hnd_ok h
  have hi := (List.getElem?_eq_some_iff.1 h1).1
  have hk := (List.getElem?_eq_some_iff.1 h2).1
  refine (List.getElem_inj (h₀ := by rw [List.length_map]; exact hi) (h₁ := by rw [List.length_map]; exact hk) hn).1 ?_
  rw [List.getElem_map, List.getElem_map]
  rw [List.getElem?_eq_getElem hi] at h1
  rw [List.getElem?_eq_getElem hk] at h2
  injection h1 with h1
  injection h2 with h2
  rw [h1, h2]
theorem FilledTo.step {r : RunD} (h : checkE r = 0) {product : List (List Int)} {seen : Array Nat} {ws : List WebD} (hf : FilledTo r product seen ws) {i : Nat} {s : SpotD} {p : PlaceD} (hi : (placesD r)[i]? = some (s, p)) {m : Nat} {x : WebD} (hs : SpotOk r s m x) :
    FilledTo r product (seen.push i) (putPlate ws m (plateI x s) ⟨pageOf product p, false⟩) := by
  refine ⟨hf.1.put _ _ _, fun k y hk hy => ?_⟩
  obtain ⟨s', p'⟩ := y
  by_cases e : s' = s
  · subst e
    have e2 := place_key h hi hy
    subst e2
    have e3 := hi.symm.trans hy
    simp only [Option.some.injEq, Prod.mk.injEq, true_and] at e3
    subst e3
    exact put_same hf.1 hs _
  · obtain ⟨m', x2, hs'⟩ := spot_ok h (place_all (List.mem_of_getElem? hy))
    rw [put_other hf.1 hs hs' e]
    rw [contains_push, Bool.or_eq_true] at hk
    rcases hk with hk | hk
    · exact hf.2 k _ hk hy
    · rw [beq_iff_eq] at hk
      subst hk
      have e3 := hi.symm.trans hy
      simp only [Option.some.injEq, Prod.mk.injEq] at e3
      exact absurd e3.1.symm e
theorem FilledTo.start (r : RunD) (product : List (List Int)) : FilledTo r product #[] r.webs := ⟨SameShape.refl _, fun k x hk => by simp at hk⟩
theorem FilledTo.done {r : RunD} {product : List (List Int)} {seen : Array Nat} {ws : List WebD} (hf : FilledTo r product seen ws) (hall : ∀ i, i < (placesD r).length → seen.contains i = true) : Filled r product { r with webs := ws } := by
  refine ⟨rfl, rfl, rfl, hf.1, fun x hx => ?_⟩
  obtain ⟨k, hk, rfl⟩ := List.getElem_of_mem hx
  exact hf.2 k _ (hall k hk) (List.getElem?_eq_getElem hk)

/-! ### In memory -/
theorem plate_set : ∀ (l : List PlateD) (i : Nat) (pg : Int) (up : Bool), i < l.length → ((l.flatMap PlateD.cells).set (i * 2) (.int .i64 pg)).set (i * 2 + 1) (.bool up) = (l.set i ⟨pg, up⟩).flatMap PlateD.cells
  | [], i, _, _, h => by simp at h
  | y :: l, 0, pg, up, _ => by simp [List.flatMap_cons, PlateD.cells]
  | y :: l, i + 1, pg, up, h => by
    have h2 : i < l.length := by simpa using h
    rw [List.set_cons_succ, List.flatMap_cons, List.flatMap_cons, ← plate_set l i pg up h2]
    rw [List.set_append_right (h := by simp [PlateD.cells]; omega), List.set_append_right (h := by simp [PlateD.cells]; omega)]
    congr 2
    · simp [PlateD.cells]; congr 1; omega
    · simp [PlateD.cells]; omega
theorem ownsRow_far {base k n g : Nat} {w : World} {e : TypeId} {v : Value} {xs : List Value} (h : w.ownsRow base e k v n xs) (hne : v.ownBlock ≠ some g) (o : Nat) (u : Value) : (w.setCell ⟨g, o, none⟩ u).ownsRow base e k v n xs := by
  obtain ⟨h1, h2⟩ := h
  refine ⟨h1, ?_⟩
  rcases h2 with h2 | ⟨g', cap, cur, rfl, hb, hh, h3⟩
  · exact .inl h2
  · refine .inr ⟨g', cap, cur, rfl, hb, ?_, h3⟩
    have hgg : g' ≠ g := fun e1 => hne (by rw [e1]; rfl)
    exact (Below.heap_setCell w ⟨g, o, none⟩ u g' hgg).trans hh
theorem OPlates.set {base : Nat} {w : World} {l : List PlateD} {g n c : Nat} (h : OPlates base w (.slice (some ⟨g, 0, none⟩) n c) l) {i : Nat} (hi : i < l.length) (pg : Int) (up : Bool) :
    OPlates base ((w.setCell ⟨g, i * 2, none⟩ (.int .i64 pg)).setCell ⟨g, i * 2 + 1, none⟩ (.bool up)) (.slice (some ⟨g, 0, none⟩) n c) (l.set i ⟨pg, up⟩) ∧ ∃ cs, Blk w g 89 cs := by
  unfold OPlates at h ⊢
  obtain ⟨h1, h2⟩ := h
  rcases h2 with ⟨h2, -⟩ | ⟨g', cap, cur, he, hb, hh, hn, hm, hs, ht⟩
  · cases h2
  · cases he
    have hk : Blk w g 89 cur := hh
    refine ⟨⟨?_, .inr ⟨g, c, _, by simp, hb, (hk.put (i * 2) (.int .i64 pg)).put (i * 2 + 1) (.bool up), by simpa using hn, hm, by simpa using hs, ?_⟩⟩, cur, hk⟩
    · rw [← plate_set l i pg up hi, List.length_set, List.length_set, List.length_set]; exact h1
    · rw [List.length_set, ← plate_set l i pg up hi, ← ht, Array.toList_setIfInBounds, Array.toList_setIfInBounds, List.take_set, List.take_set]
theorem webFlat_put (l : List WebD) : ∀ (vs : List Value) (m k : Nat) (q : PlateD), m < l.length → webFlat (putPlate l m k q) vs = webFlat l vs := by
  unfold putPlate
  induction l with
  | nil => intro vs m k q h; simp at h
  | cons y l ih =>
    intro vs m k q h
    cases vs with
    | nil => simp [webFlat]
    | cons v vs =>
      cases m with
      | zero => simp [webFlat, webCells]
      | succ m =>
        have := ih vs m k q (by simpa using h)
        simp only [webFlat, List.getD_cons_succ, List.set_cons_succ, List.zip_cons_cons, List.flatMap_cons] at this ⊢
        rw [this]
/-- A plate is stored into a web of one's own. -/
theorem OWebs.put {base : Nat} {w : World} {v : Value} {vs : List Value} {l : List WebD} (h : OWebs base w v vs l) {m k g n c : Nat} {x : WebD} (hu : vs[m]? = some (.slice (some ⟨g, 0, none⟩) n c)) (hx : l[m]? = some x) (hk : k < x.plates.length) (pg : Int) (up : Bool) :
    OWebs base ((w.setCell ⟨g, k * 2, none⟩ (.int .i64 pg)).setCell ⟨g, k * 2 + 1, none⟩ (.bool up)) v vs (putPlate l m k ⟨pg, up⟩) ∧ Grew 89 w ((w.setCell ⟨g, k * 2, none⟩ (.int .i64 pg)).setCell ⟨g, k * 2 + 1, none⟩ (.bool up)) ∧ base ≤ g ∧ g < w.heap.size := by
  obtain ⟨h1, h2, h3, h4⟩ := h
  have hm := (List.getElem?_eq_some_iff.1 hx).1
  obtain ⟨hset, cs, hcs⟩ := OPlates.set (h3 m _ x hu hx) hk pg up
  have hgr := (Grew.set hcs (k * 2) (.int .i64 pg)).trans (Grew.set (hcs.put (k * 2) (.int .i64 pg)) (k * 2 + 1) (.bool up))
  have hlt := (h3 m _ x hu hx).lt g rfl
  refine ⟨⟨?_, ?_, fun i u y hi hy => ?_, h4⟩, hgr, hlt.1, hlt.2⟩
  · rw [webFlat_put l vs m k _ hm]
    have : (putPlate l m k ⟨pg, up⟩).length = l.length := by unfold putPlate; rw [List.length_set]
    rw [this]
    exact ownsRow_grew h1 hgr (by decide)
  · unfold putPlate; rw [List.length_set]; exact h2
  · unfold putPlate at hy
    rw [getD_of hx] at hy
    by_cases e : m = i
    · subst e
      rw [List.getElem?_set_self hm] at hy
      injection hy with hy
      rw [hu] at hi
      injection hi with hi
      rw [← hy, ← hi]
      exact hset
    · rw [List.getElem?_set_ne e] at hy
      have ho := h3 i u y hi hy
      have hne : u.ownBlock ≠ some g := fun e1 => e (h4 m i _ u g hu hi rfl e1)
      exact ownsRow_far (ownsRow_far ho hne _ _) hne _ _
end Go.Proofs.Ytdbfhdncjblleaa
