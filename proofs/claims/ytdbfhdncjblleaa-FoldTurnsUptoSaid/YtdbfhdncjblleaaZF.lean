/-
  Own: a run of the program made of a run of the reference.
-/
import Derived.Test.YtdbfhdncjblleaaZE
namespace Go.Proofs.Ytdbfhdncjblleaa
open Go.RowKit

/-- What Own has made so far. -/
def OwnSt (w : World) (r : RunD) (box : Array Value) (B : Nat) (v1 : Value) (vs : List Value) (l1 : List WebD) (v2 : Value) (l2 : List RibD) (v3 : Value) (X : World) : Prop :=
  Blk X B 36 #[v1, v2, v3, .bool r.coll] ∧ OWebs w.heap.size X v1 vs l1 ∧ ORibs w.heap.size X v2 l2 ∧ OIntss w.heap.size X v3 r.stacks ∧ Below w.heap.size w X ∧
    Blk X w.heap.size 26 box ∧ Blk X (w.heap.size + 1) 36 #[.slice none 0 0, .slice none 0 0, .slice none 0 0, .bool false] ∧ w.heap.size + 1 < B
section
variable {w X X1 : World} {r : RunD} {box : Array Value} {B : Nat} {v1 v1' v2 v2' u : Value} {vs : List Value} {l1 : List WebD} {l2 : List RibD} {v3 : Value} {tmp : Obj}
theorem OwnSt.below (h : OwnSt w r box B v1 vs l1 v2 l2 v3 X) (hb : Below X.heap.size X X1) : OwnSt w r box B v1 vs l1 v2 l2 v3 X1 := by
  obtain ⟨h1, h2, h3, h4, h5, h6, h7, h8⟩ := h
  exact ⟨h1.below hb h1.lt, h2.below hb, ownsRow_below h3 hb, h4.below hb, h5.trans (hb.mono h5.size), h6.below hb h6.lt, h7.below hb h7.lt, h8⟩
theorem OwnSt.web {x : WebD} {b0 : Nat} (h : OwnSt w r box B v1 vs l1 v2 l2 v3 X)
    (hlt : ∀ (i : Nat) (u' : Value) (g : Nat), vs[i]? = some u' → u'.ownBlock = some g → g < b0) (hu : OPlates w.heap.size X u x.plates) (hge : ∀ g, u.ownBlock = some g → b0 ≤ g)
    (hg : (X.alloc tmp).grownBy X1 v1.ownBlock) (hown : X1.ownsRow w.heap.size 87 3 v1' (l1.length + 1) (webFlat l1 vs ++ webCells x u)) :
    OwnSt w r box B v1' (vs ++ [u]) (l1 ++ [x]) v2 l2 v3 (X1.setCell ⟨B, 0, none⟩ v1') := by
  obtain ⟨h1, h2, h3, h4, h5, h6, h7, h8⟩ := h
  have hgr : Grew 87 X X1 := Grew.of_append h2.1 hg
  have hB1 := h1.grew hgr (by decide)
  have hgs := Grew.set hB1 0 v1'
  have hb1 : Below w.heap.size w X1 := (h5.alloc h5.size tmp).grown hg (by have := h5.size; simp; omega) fun k hk => (h2.1.lt k hk).1
  refine ⟨?_, (h2.append hlt hu hge hgr hown).grew hgs (by decide) (by decide), ownsRow_grew (ownsRow_grew h3 hgr (by decide)) hgs (by decide), (h4.grew hgr (by decide) (by decide)).grew hgs (by decide) (by decide), hb1.setCell (p := ⟨B, 0, none⟩) (by show w.heap.size ≤ B; omega) _, (h6.grew hgr (by decide)).far (by show w.heap.size ≠ B; omega) _, (h7.grew hgr (by decide)).far (by show w.heap.size + 1 ≠ B; omega) _, h8⟩
  exact hB1.put 0 v1'
theorem OwnSt.rib {x : RibD} (h : OwnSt w r box B v1 vs l1 v2 l2 v3 X)
    (hg : (X.alloc tmp).grownBy X1 v2.ownBlock) (hown : X1.ownsRow w.heap.size 91 5 v2' (l2.length + 1) (l2.flatMap RibD.cells ++ x.cells)) :
    OwnSt w r box B v1 vs l1 v2' (l2 ++ [x]) v3 (X1.setCell ⟨B, 1, none⟩ v2') := by
  obtain ⟨h1, h2, h3, h4, h5, h6, h7, h8⟩ := h
  have hgr : Grew 91 X X1 := Grew.of_append h3 hg
  have hB1 := h1.grew hgr (by decide)
  have hgs := Grew.set hB1 1 v2'
  have hb1 : Below w.heap.size w X1 := (h5.alloc h5.size tmp).grown hg (by have := h5.size; simp; omega) fun k hk => (h3.lt k hk).1
  have hown2 : ORibs w.heap.size X1 v2' (l2 ++ [x]) := by
    unfold ORibs
    rw [List.length_append, List.flatMap_append]
    simpa using hown
  refine ⟨?_, (h2.grew hgr (by decide) (by decide)).grew hgs (by decide) (by decide), ownsRow_grew hown2 hgs (by decide), (h4.grew hgr (by decide) (by decide)).grew hgs (by decide) (by decide), hb1.setCell (p := ⟨B, 1, none⟩) (by show w.heap.size ≤ B; omega) _, (h6.grew hgr (by decide)).far (by show w.heap.size ≠ B; omega) _, (h7.grew hgr (by decide)).far (by show w.heap.size + 1 ≠ B; omega) _, h8⟩
  exact hB1.put 1 v2'
theorem OwnSt.final (h : OwnSt w r box B v1 vs r.webs v2 r.ribs v3 X) :
    ORun w.heap.size ((((X.setCell ⟨w.heap.size + 1, 0, none⟩ v1).setCell ⟨w.heap.size + 1, 1, none⟩ v2).setCell ⟨w.heap.size + 1, 2, none⟩ v3).setCell ⟨w.heap.size + 1, 3, none⟩ (.bool r.coll)) (.agg #[v1, v2, v3, .bool r.coll]) r ∧
    Below w.heap.size w ((((X.setCell ⟨w.heap.size + 1, 0, none⟩ v1).setCell ⟨w.heap.size + 1, 1, none⟩ v2).setCell ⟨w.heap.size + 1, 2, none⟩ v3).setCell ⟨w.heap.size + 1, 3, none⟩ (.bool r.coll)) := by
  obtain ⟨h1, h2, h3, h4, h5, h6, h7, h8⟩ := h
  have k1 := h7.put 0 v1
  have k2 := k1.put 1 v2
  have k3 := k2.put 2 v3
  have g := (((Grew.set h7 0 v1).trans (Grew.set k1 1 v2)).trans (Grew.set k2 2 v3)).trans (Grew.set k3 3 (.bool r.coll))
  exact ⟨⟨v1, vs, v2, v3, rfl, h2.grew g (by decide) (by decide), ownsRow_grew h3 g (by decide), h4.grew g (by decide) (by decide)⟩, below_set4 h5 (by omega) _ _ _ _⟩
end

def OwnCut (w : World) (r : RunD) (box : Array Value) (s3 : Value) (wx : World) : Prop :=
  ∃ B v3, s3 = .pointer (some ⟨B, 0, none⟩) ∧ OwnSt w r box B (.slice none 0 0) [] [] (.slice none 0 0) [] v3 wx
theorem own_cutA {w W0 w4 : World} {r : RunD} {box : Array Value} {u : Value} (z0 : W0.heap.size = w.heap.size + 2) (B0 : Below w.heap.size w W0) (V0 : Blk W0 w.heap.size 26 box) (V1 : Blk W0 (w.heap.size + 1) 36 #[.slice none 0 0, .slice none 0 0, .slice none 0 0, .bool false])
    (h04 : Below W0.heap.size W0 w4) (hu : OIntss w.heap.size w4 u r.stacks) : OwnCut w r box (.pointer (some ⟨w4.heap.size, 0, none⟩)) (w4.alloc (.cells #[.slice none 0 0, .slice none 0 0, u, .bool r.coll] 36)) := by
  have s4 := h04.size
  have hb := B0.trans (h04.mono B0.size)
  have ha : Below w4.heap.size w4 (w4.alloc (.cells #[.slice none 0 0, .slice none 0 0, u, .bool r.coll] 36)) := (Below.refl _ _).alloc (Nat.le_refl _) _
  exact ⟨_, u, rfl, Blk.new _ _ _, OWebs.nil, World.ownsRow_nil _ _ _ _, hu.below ha, hb.trans (ha.mono hb.size), (V0.below h04 (by omega)).alloc _, (V1.below h04 (by omega)).alloc _, by omega⟩
theorem own_cutB {w W0 w4 : World} {r : RunD} {box : Array Value} {u : Value} (z0 : W0.heap.size = w.heap.size + 2) (B0 : Below w.heap.size w W0) (V0 : Blk W0 w.heap.size 26 box) (V1 : Blk W0 (w.heap.size + 1) 36 #[.slice none 0 0, .slice none 0 0, .slice none 0 0, .bool false])
    (h04 : Below W0.heap.size W0 w4) (hu : OIntss w.heap.size w4 u r.stacks) (z4 : Blk w4 W0.heap.size 36 #[.slice none 0 0, .slice none 0 0, .slice none 0 0, .bool false]) :
    OwnCut w r box (.pointer (some ⟨W0.heap.size, 0, none⟩)) ((((w4.setCell ⟨W0.heap.size, 0, none⟩ (.slice none 0 0)).setCell ⟨W0.heap.size, 1, none⟩ (.slice none 0 0)).setCell ⟨W0.heap.size, 2, none⟩ u).setCell ⟨W0.heap.size, 3, none⟩ (.bool r.coll)) := by
  have s4 := h04.size
  have hb := B0.trans (h04.mono B0.size)
  have k1 := z4.put 0 (.slice none 0 0)
  have k2 := k1.put 1 (.slice none 0 0)
  have k3 := k2.put 2 u
  have g := (((Grew.set z4 0 (.slice none 0 0)).trans (Grew.set k1 1 (.slice none 0 0))).trans (Grew.set k2 2 u)).trans (Grew.set k3 3 (.bool r.coll))
  refine ⟨_, u, rfl, k3.put 3 (.bool r.coll), OWebs.nil, World.ownsRow_nil _ _ _ _, hu.grew g (by decide) (by decide), below_set4 hb B0.size _ _ _ _, ?_, ?_, by omega⟩
  · have hne : w.heap.size ≠ W0.heap.size := by omega
    exact ((((V0.below h04 (by omega)).far (p := ⟨W0.heap.size, 0, none⟩) hne _).far (p := ⟨W0.heap.size, 1, none⟩) hne _).far (p := ⟨W0.heap.size, 2, none⟩) hne _).far (p := ⟨W0.heap.size, 3, none⟩) hne _
  · have hne : w.heap.size + 1 ≠ W0.heap.size := by omega
    exact ((((V1.below h04 (by omega)).far (p := ⟨W0.heap.size, 0, none⟩) hne _).far (p := ⟨W0.heap.size, 1, none⟩) hne _).far (p := ⟨W0.heap.size, 2, none⟩) hne _).far (p := ⟨W0.heap.size, 3, none⟩) hne _

end Go.Proofs.Ytdbfhdncjblleaa
