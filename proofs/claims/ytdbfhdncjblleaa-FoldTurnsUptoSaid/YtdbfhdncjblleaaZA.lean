/-
  clone: what it leaves.
-/
import Derived.Test.YtdbfhdncjblleaaZ
namespace Go.Proofs.Ytdbfhdncjblleaa
open Go.RowKit

def OPlates (base : Nat) (w : World) (v : Value) (l : List PlateD) : Prop := w.ownsRow base 89 2 v l.length (l.flatMap PlateD.cells)
def ORibs (base : Nat) (w : World) (v : Value) (l : List RibD) : Prop := w.ownsRow base 91 5 v l.length (l.flatMap RibD.cells)
def OInts (base : Nat) (w : World) (v : Value) (l : List Int) : Prop := w.ownsRow base 3 1 v l.length (l.map (Value.int .i64))
def OIntss (base : Nat) (w : World) (v : Value) (l : List (List Int)) : Prop := ∃ vs, OAll (OInts base) 48 base w v vs l
def webFlat (l : List WebD) (vs : List Value) : List Value := (l.zip vs).flatMap fun x => webCells x.1 x.2
/-- Webs of one's own; no two webs' plates lie in one block. -/
def OWebs (base : Nat) (w : World) (v : Value) (vs : List Value) (l : List WebD) : Prop :=
  w.ownsRow base 87 3 v l.length (webFlat l vs) ∧ vs.length = l.length ∧ (∀ (i : Nat) (u : Value) (x : WebD), vs[i]? = some u → l[i]? = some x → OPlates base w u x.plates) ∧
    ∀ (i j : Nat) (u u' : Value) (g : Nat), vs[i]? = some u → vs[j]? = some u' → u.ownBlock = some g → u'.ownBlock = some g → i = j
def ORun (base : Nat) (w : World) (v : Value) (r : RunD) : Prop :=
  ∃ v1 vs v2 v3, v = .agg #[v1, v2, v3, .bool r.coll] ∧ OWebs base w v1 vs r.webs ∧ ORibs base w v2 r.ribs ∧ OIntss base w v3 r.stacks

theorem Grew.set {w : World} {B : Nat} {t : TypeId} {cs : Array Value} (h : Blk w B t cs) (j : Nat) (u : Value) : Grew t w (w.setCell ⟨B, j, none⟩ u) := fun g cs' t' fr hg hne => by
  have hgb : g ≠ B := by
    rintro rfl
    unfold Blk at h
    rw [h] at hg
    cases hg
    exact hne rfl
  exact Below.heap_setCell w ⟨B, j, none⟩ u g hgb
theorem Blk.grew {w w1 : World} {B : Nat} {t e : TypeId} {cs : Array Value} (h : Blk w B t cs) (hg : Grew e w w1) (hne : t ≠ e) : Blk w1 B t cs := (hg B cs t (0, 0) h hne).trans h
theorem Grew.alloc {w : World} (e : TypeId) (o : Obj) : Grew e w (w.alloc o) := Grew.of_below ((Below.refl _ _).alloc (Nat.le_refl _) o)

section
variable {base b' : Nat} {w w1 : World} {v : Value} {e : TypeId}
theorem OIntss.grew {l : List (List Int)} (h : OIntss base w v l) (hg : Grew e w w1) (h1 : 48 ≠ e) (h2 : 3 ≠ e) : OIntss base w1 v l := by
  obtain ⟨vs, h⟩ := h
  exact ⟨vs, h.keep hg h1 fun _ _ hr => ownsRow_grew hr hg h2⟩
theorem OIntss.below {l : List (List Int)} (h : OIntss base w v l) (hb : Below w.heap.size w w1) : OIntss base w1 v l := by
  obtain ⟨vs, h⟩ := h
  exact ⟨vs, h.below hb fun _ _ hr => ownsRow_below hr hb⟩
theorem OWebs.grew {vs : List Value} {l : List WebD} (h : OWebs base w v vs l) (hg : Grew e w w1) (h1 : 87 ≠ e) (h2 : 89 ≠ e) : OWebs base w1 v vs l :=
  ⟨ownsRow_grew h.1 hg h1, h.2.1, fun i u x hu hx => ownsRow_grew (h.2.2.1 i u x hu hx) hg h2, h.2.2.2⟩
theorem OWebs.below {vs : List Value} {l : List WebD} (h : OWebs base w v vs l) (hb : Below w.heap.size w w1) : OWebs base w1 v vs l :=
  ⟨ownsRow_below h.1 hb, h.2.1, fun i u x hu hx => ownsRow_below (h.2.2.1 i u x hu hx) hb, h.2.2.2⟩
theorem OWebs.nil : OWebs base w (.slice none 0 0) [] [] := ⟨World.ownsRow_nil _ _ _ _, rfl, fun i u x h => by simp at h, fun i j u u' g h => by simp at h⟩
theorem webFlat_snoc {l : List WebD} {vs : List Value} (h : vs.length = l.length) (x : WebD) (u : Value) : webFlat (l ++ [x]) (vs ++ [u]) = webFlat l vs ++ webCells x u := by
  unfold webFlat
  rw [List.zip_append h.symm, List.flatMap_append]; simp
theorem snoc_get {α : Type} {l : List α} {y x : α} {i : Nat} (h : (l ++ [y])[i]? = some x) : (i < l.length ∧ l[i]? = some x) ∨ (i = l.length ∧ x = y) := by
  rcases Nat.lt_or_ge i l.length with hi | hi
  · rw [List.getElem?_append_left hi] at h
    exact .inl ⟨hi, h⟩
  · rw [List.getElem?_append_right hi] at h
    have h0 : i - l.length = 0 := by
      rcases Nat.eq_zero_or_pos (i - l.length) with h0 | h0
      · exact h0
      · rw [List.getElem?_eq_none (by simp; omega)] at h; cases h
    rw [h0] at h
    simp only [List.getElem?_cons_zero, Option.some.injEq] at h
    exact .inr ⟨by omega, h.symm⟩
/-- One web more: its plates lie in newer memory than all before. -/
theorem OWebs.append {vs : List Value} {l : List WebD} {v' u : Value} {x : WebD} {b0 : Nat} (h : OWebs base w v vs l) (hlt : ∀ (i : Nat) (u' : Value) (g : Nat), vs[i]? = some u' → u'.ownBlock = some g → g < b0)
    (hu : OPlates base w u x.plates) (hge : ∀ g, u.ownBlock = some g → b0 ≤ g) (hg : Grew 87 w w1) (hown : w1.ownsRow base 87 3 v' (l.length + 1) (webFlat l vs ++ webCells x u)) :
    OWebs base w1 v' (vs ++ [u]) (l ++ [x]) := by
  obtain ⟨h1, h2, h3, h4⟩ := h
  refine ⟨by rw [webFlat_snoc h2, List.length_append]; exact hown, by simp [h2], fun i u' x' hu' hx' => ?_, fun i j u1 u2 g hi hj e1 e2 => ?_⟩
  · rcases snoc_get hu' with ⟨hi, hu'⟩ | ⟨hi, rfl⟩
    · rcases snoc_get hx' with ⟨-, hx'⟩ | ⟨hi', -⟩
      · exact ownsRow_grew (h3 i u' x' hu' hx') hg (by decide)
      · omega
    · rcases snoc_get hx' with ⟨hi', -⟩ | ⟨-, rfl⟩
      · omega
      · exact ownsRow_grew hu hg (by decide)
  · rcases snoc_get hi with ⟨hi0, hi1⟩ | ⟨hi0, hi1⟩ <;> rcases snoc_get hj with ⟨hj0, hj1⟩ | ⟨hj0, hj1⟩
    · exact h4 i j u1 u2 g hi1 hj1 e1 e2
    · have h5 := hlt i u1 g hi1 e1
      have h6 := hge g (by rw [← hj1]; exact e2)
      omega
    · have h5 := hlt j u2 g hj1 e2
      have h6 := hge g (by rw [← hi1]; exact e1)
      omega
    · omega
theorem OWebs.lts {vs : List Value} {l : List WebD} (h : OWebs base w v vs l) : ∀ (i : Nat) (u' : Value) (g : Nat), vs[i]? = some u' → u'.ownBlock = some g → g < w.heap.size := fun i u' g hu hg => by
  have hi := (List.getElem?_eq_some_iff.1 hu).1
  have hl := h.2.1
  exact ((h.2.2.1 i u' _ hu (List.getElem?_eq_getElem (by omega))).lt g hg).2
theorem OIntss.append {vs : List Value} {l : List (List Int)} {v' u : Value} {x : List Int} (h : OAll (OInts base) 48 base w v vs l) (hu : OInts base w u x) (hg : Grew 48 w w1) (hown : w1.ownsRow base 48 1 v' (l.length + 1) (vs ++ [u])) : OIntss base w1 v' (l ++ [x]) :=
  ⟨_, h.append (fun _ _ hr => ownsRow_grew hr hg (by decide)) hu hown⟩
end

/-- What clone has made so far. -/
def CloneSt (w : World) (r : RunD) (box : Array Value) (B : Nat) (v1 : Value) (vs : List Value) (l1 : List WebD) (v2 v3 : Value) (l3 : List (List Int)) (X : World) : Prop :=
  Blk X B 36 #[v1, v2, v3, .bool r.coll] ∧ OWebs w.heap.size X v1 vs l1 ∧ ORibs w.heap.size X v2 r.ribs ∧ OIntss w.heap.size X v3 l3 ∧ Below w.heap.size w X ∧
    Blk X w.heap.size 36 box ∧ Blk X (w.heap.size + 1) 36 #[.slice none 0 0, .slice none 0 0, .slice none 0 0, .bool false] ∧ w.heap.size + 1 < B
theorem CloneSt.below {w X X' : World} {r : RunD} {box : Array Value} {B : Nat} {v1 : Value} {vs : List Value} {l1 : List WebD} {v2 v3 : Value} {l3 : List (List Int)} (h : CloneSt w r box B v1 vs l1 v2 v3 l3 X) (hb : Below X.heap.size X X') :
    CloneSt w r box B v1 vs l1 v2 v3 l3 X' := by
  obtain ⟨h1, h2, h3, h4, h5, h6, h7, h8⟩ := h
  exact ⟨h1.below hb h1.lt, h2.below hb, ownsRow_below h3 hb, h4.below hb, h5.trans (hb.mono h5.size), h6.below hb h6.lt, h7.below hb h7.lt, h8⟩
/-- A web is added. -/
theorem CloneSt.web {w X X1 : World} {r : RunD} {box : Array Value} {B : Nat} {v1 v1' u : Value} {vs : List Value} {l1 : List WebD} {v2 v3 : Value} {l3 : List (List Int)} {x : WebD} {b0 : Nat} {tmp : Obj} (h : CloneSt w r box B v1 vs l1 v2 v3 l3 X)
    (hlt : ∀ (i : Nat) (u' : Value) (g : Nat), vs[i]? = some u' → u'.ownBlock = some g → g < b0) (hu : OPlates w.heap.size X u x.plates) (hge : ∀ g, u.ownBlock = some g → b0 ≤ g)
    (hg : (X.alloc tmp).grownBy X1 v1.ownBlock) (hown : X1.ownsRow w.heap.size 87 3 v1' (l1.length + 1) (webFlat l1 vs ++ webCells x u)) :
    CloneSt w r box B v1' (vs ++ [u]) (l1 ++ [x]) v2 v3 l3 (X1.setCell ⟨B, 0, none⟩ v1') := by
  obtain ⟨h1, h2, h3, h4, h5, h6, h7, h8⟩ := h
  have hgr : Grew 87 X X1 := Grew.of_append h2.1 hg
  have hB1 := h1.grew hgr (by decide)
  have hgs := Grew.set hB1 0 v1'
  have hb1 : Below w.heap.size w X1 := (h5.alloc h5.size tmp).grown hg (by have := h5.size; simp; omega) fun k hk => (h2.1.lt k hk).1
  refine ⟨?_, (h2.append hlt hu hge hgr hown).grew hgs (by decide) (by decide), ownsRow_grew (ownsRow_grew h3 hgr (by decide)) hgs (by decide), (h4.grew hgr (by decide) (by decide)).grew hgs (by decide) (by decide), hb1.setCell (p := ⟨B, 0, none⟩) (by show w.heap.size ≤ B; omega) _, (h6.grew hgr (by decide)).far (by show w.heap.size ≠ B; omega) _, (h7.grew hgr (by decide)).far (by show w.heap.size + 1 ≠ B; omega) _, h8⟩
  exact hB1.put 0 v1'
/-- A stack is added. -/
theorem CloneSt.stack {w X X1 : World} {r : RunD} {box : Array Value} {B : Nat} {v1 v3' u : Value} {vs ws : List Value} {l1 : List WebD} {v2 v3 : Value} {l3 : List (List Int)} {x : List Int} {tmp : Obj} (h : CloneSt w r box B v1 vs l1 v2 v3 l3 X)
    (ho : OAll (OInts w.heap.size) 48 w.heap.size X v3 ws l3) (hu : OInts w.heap.size X u x)
    (hg : (X.alloc tmp).grownBy X1 v3.ownBlock) (hown : X1.ownsRow w.heap.size 48 1 v3' (l3.length + 1) (ws ++ [u])) :
    CloneSt w r box B v1 vs l1 v2 v3' (l3 ++ [x]) (X1.setCell ⟨B, 2, none⟩ v3') := by
  obtain ⟨h1, h2, h3, h4, h5, h6, h7, h8⟩ := h
  have hgr : Grew 48 X X1 := Grew.of_append ho.1 hg
  have hB1 := h1.grew hgr (by decide)
  have hgs := Grew.set hB1 2 v3'
  have hb1 : Below w.heap.size w X1 := (h5.alloc h5.size tmp).grown hg (by have := h5.size; simp; omega) fun k hk => (ho.1.lt k hk).1
  refine ⟨?_, (h2.grew hgr (by decide) (by decide)).grew hgs (by decide) (by decide), ownsRow_grew (ownsRow_grew h3 hgr (by decide)) hgs (by decide), (OIntss.append ho hu hgr hown).grew hgs (by decide) (by decide), hb1.setCell (p := ⟨B, 2, none⟩) (by show w.heap.size ≤ B; omega) _, (h6.grew hgr (by decide)).far (by show w.heap.size ≠ B; omega) _, (h7.grew hgr (by decide)).far (by show w.heap.size + 1 ≠ B; omega) _, h8⟩
  exact hB1.put 2 v3'

end Go.Proofs.Ytdbfhdncjblleaa
