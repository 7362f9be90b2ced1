/-
  Rows of one's own of the reference's types; the reference's Copy.
-/
import Derived.Test.YtdbfhdncjblleaaRv
namespace Go.Proofs.Ytdbfhdncjblleaa
open Go.RowKit

def OPlatesR (base : Nat) (w : World) (v : Value) (l : List PlateD) : Prop := w.ownsRow base 98 2 v l.length (l.flatMap PlateD.cells)
def ORibsR (base : Nat) (w : World) (v : Value) (l : List RibD) : Prop := w.ownsRow base 99 5 v l.length (l.flatMap RibD.cells)
def OWebsR (base : Nat) (w : World) (v : Value) (vs : List Value) (l : List WebD) : Prop :=
  w.ownsRow base 97 3 v l.length (webFlat l vs) ∧ vs.length = l.length ∧ (∀ (i : Nat) (u : Value) (x : WebD), vs[i]? = some u → l[i]? = some x → OPlatesR base w u x.plates) ∧
    ∀ (i j : Nat) (u u' : Value) (g : Nat), vs[i]? = some u → vs[j]? = some u' → u.ownBlock = some g → u'.ownBlock = some g → i = j
section
variable {base b' : Nat} {w w1 : World} {v : Value} {e : TypeId}
theorem OWebsR.grew {vs : List Value} {l : List WebD} (h : OWebsR base w v vs l) (hg : Grew e w w1) (h1 : 97 ≠ e) (h2 : 98 ≠ e) : OWebsR base w1 v vs l :=
  ⟨ownsRow_grew h.1 hg h1, h.2.1, fun i u x hu hx => ownsRow_grew (h.2.2.1 i u x hu hx) hg h2, h.2.2.2⟩
theorem OWebsR.below {vs : List Value} {l : List WebD} (h : OWebsR base w v vs l) (hb : Below w.heap.size w w1) : OWebsR base w1 v vs l :=
  ⟨ownsRow_below h.1 hb, h.2.1, fun i u x hu hx => ownsRow_below (h.2.2.1 i u x hu hx) hb, h.2.2.2⟩
theorem OWebsR.nil : OWebsR base w (.slice none 0 0) [] [] := ⟨World.ownsRow_nil _ _ _ _, rfl, fun i u x h => by simp at h, fun i j u u' g h => by simp at h⟩
theorem OWebsR.append {vs : List Value} {l : List WebD} {v' u : Value} {x : WebD} {b0 : Nat} (h : OWebsR base w v vs l) (hlt : ∀ (i : Nat) (u' : Value) (g : Nat), vs[i]? = some u' → u'.ownBlock = some g → g < b0)
    (hu : OPlatesR base w u x.plates) (hge : ∀ g, u.ownBlock = some g → b0 ≤ g) (hg : Grew 97 w w1) (hown : w1.ownsRow base 97 3 v' (l.length + 1) (webFlat l vs ++ webCells x u)) :
    OWebsR base w1 v' (vs ++ [u]) (l ++ [x]) := by
  obtain ⟨h1, h2, h3, h4⟩ := h
  refine ⟨by rw [webFlat_snoc h2, List.length_append]; exact hown, by simp [h2], fun i u' x' hu' hx' => ?_, fun i j u1 u2 g hi hj e1 e2 => ?_⟩
  · rcases snoc_get hu' with ⟨hi, hu'⟩ | ⟨hi, rfl⟩
    · rcases snoc_get hx' with ⟨-, hx'⟩ | ⟨hi', -⟩
      · exact ownsRow_grew (h3 i u' x' hu' hx') hg (by decide)
      · omega
    · rcases snoc_get hx' with ⟨hi', -⟩ | ⟨-, rfl⟩
      · omega
      · exact ownsRow_grew hu hg (by decide)
  · rcases snoc_get hi with ⟨hi0, hi1⟩ | ⟨hi0, hi1⟩ <;> rcases snoc_get hj with ⟨hj0, hj1⟩ | ⟨hj0, hj1⟩
    · exact h4 i j u1 u2 g hi1 hj1 e1 e2
    · have h5 := hlt i u1 g hi1 e1
      have h6 := hge g (by rw [← hj1]; exact e2)
      omega
    · have h5 := hlt j u2 g hj1 e2
      have h6 := hge g (by rw [← hi1]; exact e1)
      omega
    · omega
theorem OWebsR.lts {vs : List Value} {l : List WebD} (h : OWebsR base w v vs l) : ∀ (i : Nat) (u' : Value) (g : Nat), vs[i]? = some u' → u'.ownBlock = some g → g < w.heap.size := fun i u' g hu hg => by
  have hi := (List.getElem?_eq_some_iff.1 hu).1
  have hl := h.2.1
  exact ((h.2.2.1 i u' _ hu (List.getElem?_eq_getElem (by omega))).lt g hg).2
end
theorem ORibsR.set {base : Nat} {w : World} {l : List RibD} {g n c : Nat} (h : ORibsR base w (.slice (some ⟨g, 0, none⟩) n c) l) {i : Nat} {x : RibD} (hx : l[i]? = some x) (b : Bool) :
    ORibsR base (w.setCell ⟨g, i * 5 + 3, none⟩ (.bool b)) (.slice (some ⟨g, 0, none⟩) n c) (l.set i { x with turned := b }) ∧ ∃ cs, Blk w g 99 cs := by
  unfold ORibsR at h ⊢
  obtain ⟨h1, h2⟩ := h
  rcases h2 with ⟨h2, -⟩ | ⟨g', cap, cur, he, hb, hh, hn, hm, hs, ht⟩
  · cases h2
  · cases he
    have hk : Blk w g 99 cur := hh
    refine ⟨⟨?_, .inr ⟨g, c, _, by simp, hb, hk.put (i * 5 + 3) (.bool b), by simpa using hn, hm, by simpa using hs, ?_⟩⟩, cur, hk⟩
    · rw [← rib_set l i x b hx, List.length_set, List.length_set]; exact h1
    · rw [List.length_set, ← rib_set l i x b hx, ← ht, Array.toList_setIfInBounds, List.take_set]
theorem OPlatesR.set {base : Nat} {w : World} {l : List PlateD} {g n c : Nat} (h : OPlatesR base w (.slice (some ⟨g, 0, none⟩) n c) l) {i : Nat} (hi : i < l.length) (pg : Int) (up : Bool) :
    OPlatesR base ((w.setCell ⟨g, i * 2, none⟩ (.int .i64 pg)).setCell ⟨g, i * 2 + 1, none⟩ (.bool up)) (.slice (some ⟨g, 0, none⟩) n c) (l.set i ⟨pg, up⟩) ∧ ∃ cs, Blk w g 98 cs := by
  unfold OPlatesR at h ⊢
  obtain ⟨h1, h2⟩ := h
  rcases h2 with ⟨h2, -⟩ | ⟨g', cap, cur, he, hb, hh, hn, hm, hs, ht⟩
  · cases h2
  · cases he
    have hk : Blk w g 98 cur := hh
    refine ⟨⟨?_, .inr ⟨g, c, _, by simp, hb, (hk.put (i * 2) (.int .i64 pg)).put (i * 2 + 1) (.bool up), by simpa using hn, hm, by simpa using hs, ?_⟩⟩, cur, hk⟩
    · rw [← plate_set l i pg up hi, List.length_set, List.length_set, List.length_set]; exact h1
    · rw [List.length_set, ← plate_set l i pg up hi, ← ht, Array.toList_setIfInBounds, Array.toList_setIfInBounds, List.take_set, List.take_set]
theorem OWebsR.put {base : Nat} {w : World} {v : Value} {vs : List Value} {l : List WebD} (h : OWebsR base w v vs l) {m k g n c : Nat} {x : WebD} (hu : vs[m]? = some (.slice (some ⟨g, 0, none⟩) n c)) (hx : l[m]? = some x) (hk : k < x.plates.length) (pg : Int) (up : Bool) :
    OWebsR base ((w.setCell ⟨g, k * 2, none⟩ (.int .i64 pg)).setCell ⟨g, k * 2 + 1, none⟩ (.bool up)) v vs (putPlate l m k ⟨pg, up⟩) ∧ Grew 98 w ((w.setCell ⟨g, k * 2, none⟩ (.int .i64 pg)).setCell ⟨g, k * 2 + 1, none⟩ (.bool up)) ∧ base ≤ g ∧ g < w.heap.size := by
  obtain ⟨h1, h2, h3, h4⟩ := h
  have hm := (List.getElem?_eq_some_iff.1 hx).1
  obtain ⟨hset, cs, hcs⟩ := OPlatesR.set (h3 m _ x hu hx) hk pg up
  have hgr := (Grew.set hcs (k * 2) (.int .i64 pg)).trans (Grew.set (hcs.put (k * 2) (.int .i64 pg)) (k * 2 + 1) (.bool up))
  have hlt := (h3 m _ x hu hx).lt g rfl
  refine ⟨⟨?_, ?_, fun i u y hi hy => ?_, h4⟩, hgr, hlt.1, hlt.2⟩
  · rw [webFlat_put l vs m k _ hm]
    have : (putPlate l m k ⟨pg, up⟩).length = l.length := by unfold putPlate; rw [List.length_set]
    rw [this]
    exact ownsRow_grew h1 hgr (by decide)
  · unfold putPlate; rw [List.length_set]; exact h2
  · unfold putPlate at hy
    rw [getD_of hx] at hy
    by_cases e : m = i
    · subst e
      rw [List.getElem?_set_self hm] at hy
      injection hy with hy
      rw [hu] at hi
      injection hi with hi
      rw [← hy, ← hi]
      exact hset
    · rw [List.getElem?_set_ne e] at hy
      have ho := h3 i u y hi hy
      have hne : u.ownBlock ≠ some g := fun e1 => e (h4 m i _ u g hu hi rfl e1)
      exact ownsRow_far (ownsRow_far ho hne _ _) hne _ _
theorem OPlatesR.blk {base : Nat} {w : World} {l : List PlateD} {g n c : Nat} (h : OPlatesR base w (.slice (some ⟨g, 0, none⟩) n c) l) : ∃ cs, Blk w g 98 cs := by
  rcases h.2 with ⟨h2, -⟩ | ⟨g', cap, cur, he, hb, hh, -⟩
  · cases h2
  · cases he
    exact ⟨cur, hh⟩
theorem OPlatesR.at {base : Nat} {w : World} {l : List PlateD} {g n c : Nat} (h : OPlatesR base w (.slice (some ⟨g, 0, none⟩) n c) l) {k : Nat} {p : PlateD} (hp : l[k]? = some p) : w.cell? ⟨g, k * 2, none⟩ = some (.int .i64 p.page) ∧ w.cell? ⟨g, k * 2 + 1, none⟩ = some (.bool p.up) := by
  have hf := fun j hj => flat_at PlateD.cells 2 (fun _ => rfl) _ k j _ hp hj
  have h0 := h.cells (g := g) rfl (k * 2) _ (hf 0 (by omega))
  have h1 := h.cells (g := g) rfl (k * 2 + 1) _ (hf 1 (by omega))
  rw [add0] at h0 h1
  exact ⟨h0, h1⟩
theorem OWebsR.at {base : Nat} {w : World} {vs : List Value} {l : List WebD} {g n c : Nat} (h : OWebsR base w (.slice (some ⟨g, 0, none⟩) n c) vs l) {m : Nat} {x : WebD} (hx : l[m]? = some x) :
    ∃ u, vs[m]? = some u ∧ OPlatesR base w u x.plates ∧ w.cell? ⟨g, m * 3, none⟩ = some (.int .i64 x.cols) ∧ w.cell? ⟨g, m * 3 + 1, none⟩ = some (.int .i64 x.rows) ∧ w.cell? ⟨g, m * 3 + 2, none⟩ = some u := by
  obtain ⟨h1, h2, h3, h4⟩ := h
  have hm := (List.getElem?_eq_some_iff.1 hx).1
  have hv : vs[m]? = some (vs[m]'(by omega)) := List.getElem?_eq_getElem (by omega)
  have hz : (l.zip vs)[m]? = some (x, vs[m]'(by omega)) := by rw [List.getElem?_zip_eq_some]; exact ⟨hx, hv⟩
  have hf := fun j hj => flat_at (fun x : WebD × Value => webCells x.1 x.2) 3 (fun _ => rfl) _ m j _ hz hj
  have k0 := h1.cells (g := g) rfl (m * 3) _ (hf 0 (by omega))
  have k1 := h1.cells (g := g) rfl (m * 3 + 1) _ (hf 1 (by omega))
  have k2 := h1.cells (g := g) rfl (m * 3 + 2) _ (hf 2 (by omega))
  rw [add0] at k0 k1 k2
  exact ⟨_, hv, h3 m _ x hv hx, k0, k1, k2⟩

theorem infoWebR : (Try.prog.info? 97).map (fun i => (i.zero, i.size, i.bytes)) = some (some (.agg #[.int .i64 0, .int .i64 0, .slice none 0 0]), 3, 40) := by kernel_rfl
theorem infoRibR : (Try.prog.info? 99).map (fun i => (i.zero, i.size, i.bytes)) = some (some (.agg #[.int .i64 0, .int .i64 0, .int .i64 0, .bool false, .bool false]), 5, 32) := by kernel_rfl
theorem OWebsR.reads {base : Nat} {w : World} {v : Value} {vs : List Value} {l : List WebD} (h : OWebsR base w v vs l) : RWebs w.heap.size w v l := by
  obtain ⟨h1, h2, h3, -⟩ := h
  exact ⟨vs, Rd.own h1 (own_le h1), h2, fun i u x hu hx => Rd.own (h3 i u x hu hx) (own_le (h3 i u x hu hx))⟩
theorem OWebsR.base_ {base b' : Nat} {w : World} {v : Value} {vs : List Value} {l : List WebD} (h : OWebsR base w v vs l) (hb : b' ≤ base) : OWebsR b' w v vs l :=
  ⟨ownsRow_base h.1 hb, h.2.1, fun i u x hu hx => ownsRow_base (h.2.2.1 i u x hu hx) hb, h.2.2.2⟩
/-- What the reference's Copy has made so far: the webs, beside the boxes. -/
def CpSt (w : World) (box : Array Value) (v1 : Value) (vs : List Value) (l1 : List WebD) (X : World) : Prop :=
  Blk X w.heap.size 26 box ∧ Blk X (w.heap.size + 1) 26 #[.slice none 0 0, .slice none 0 0, .slice none 0 0, .bool false] ∧ OWebsR (w.heap.size + 2) X v1 vs l1 ∧ Below w.heap.size w X ∧ w.heap.size + 2 ≤ X.heap.size
theorem CpSt.below {w X X' : World} {box : Array Value} {v1 : Value} {vs : List Value} {l1 : List WebD} (h : CpSt w box v1 vs l1 X) (hb : Below X.heap.size X X') : CpSt w box v1 vs l1 X' := by
  obtain ⟨h1, h2, h3, h4, h5⟩ := h
  exact ⟨h1.below hb h1.lt, h2.below hb h2.lt, h3.below hb, h4.trans (hb.mono h4.size), Nat.le_trans h5 hb.size⟩
/-- A web is added. -/
theorem CpSt.web {w X X1 : World} {box : Array Value} {v1 v1' u : Value} {vs : List Value} {l1 : List WebD} {x : WebD} {b0 : Nat} {tmp : Obj} (h : CpSt w box v1 vs l1 X)
    (hlt : ∀ (i : Nat) (u' : Value) (g : Nat), vs[i]? = some u' → u'.ownBlock = some g → g < b0) (hu : OPlatesR (w.heap.size + 2) X u x.plates) (hge : ∀ g, u.ownBlock = some g → b0 ≤ g)
    (hg : (X.alloc tmp).grownBy X1 v1.ownBlock) (hown : X1.ownsRow (w.heap.size + 2) 97 3 v1' (l1.length + 1) (webFlat l1 vs ++ webCells x u)) :
    CpSt w box v1' (vs ++ [u]) (l1 ++ [x]) X1 := by
  obtain ⟨h1, h2, h3, h4, h5⟩ := h
  have hgr : Grew 97 X X1 := Grew.of_append h3.1 hg
  have hs := hg.size
  simp only [World.size_alloc] at hs
  exact ⟨h1.grew hgr (by decide), h2.grew hgr (by decide), h3.append hlt hu hge hgr hown, (h4.alloc h4.size tmp).grown hg (by have := h4.size; simp; omega) (fun k hk => by have := (h3.1.lt k hk).1; omega), by omega⟩
/-- The plates are copied: the web's box has a row of one's own. -/
def PlCut (w wr : World) (xc xr : Int) (ps : List PlateD) (wx : World) : Prop :=
  ∃ u, OPlatesR (w.heap.size + 2) wx u ps ∧ (∀ g, u.ownBlock = some g → wr.heap.size ≤ g) ∧ Blk wx wr.heap.size 97 #[.int .i64 xc, .int .i64 xr, u] ∧ Below wr.heap.size wr wx
theorem pl_cut {w wr w1 w2 : World} {xc xr : Int} {ps : List PlateD} {u v0 : Value} {Y : World} (hs : w.heap.size + 2 ≤ wr.heap.size) (z1 : w1.heap.size = wr.heap.size + 1) (hb1 : Below wr.heap.size wr w1) (hb2 : Below w1.heap.size w1 w2) (R1 : Blk w1 wr.heap.size 97 #[.int .i64 xc, .int .i64 xr, v0])
    (hu : w2.ownsRow w1.heap.size 98 2 u ps.length (ps.flatMap PlateD.cells)) (hY : Y = w2.setCell ⟨wr.heap.size, 2, none⟩ u) : PlCut w wr xc xr ps Y := by
  subst hY
  have R2 := R1.below hb2 R1.lt
  exact ⟨u, ownsRow_base (ownsRow_grew hu (Grew.set R2 2 u) (by decide)) (by omega), fun g hg => by have := (hu.lt g hg).1; omega, R2.put 2 u, (hb1.trans (hb2.mono (by omega))).setCell (p := ⟨wr.heap.size, 2, none⟩) (Nat.le_refl _) _⟩
theorem slicePlatesR : Try.prog.underlying 95 = some (.slice 98) := by kernel_rfl
theorem sliceRibsR : Try.prog.underlying 23 = some (.slice 99) := by kernel_rfl
/-- The end of Copy: the webs and the ribbons are stored into the box, and the box is handed back. -/
theorem CpSt.final {w X w9 : World} {y1 y2 y3 y4 v1 v2 : Value} {vs : List Value} {l1 : List WebD} {rs : List RibD} (h : CpSt w #[y1, y2, y3, y4] v1 vs l1 X)
    (hb : Below (X.setCell ⟨w.heap.size, 0, none⟩ v1).heap.size (X.setCell ⟨w.heap.size, 0, none⟩ v1) w9) (hr : w9.ownsRow (w.heap.size + 2) 99 5 v2 rs.length (rs.flatMap RibD.cells)) :
    Blk (w9.setCell ⟨w.heap.size, 1, none⟩ v2) w.heap.size 26 #[v1, v2, y3, y4] ∧ Blk (w9.setCell ⟨w.heap.size, 1, none⟩ v2) (w.heap.size + 1) 26 #[.slice none 0 0, .slice none 0 0, .slice none 0 0, .bool false] ∧
    ∀ Y, Y = (((((w9.setCell ⟨w.heap.size, 1, none⟩ v2).setCell ⟨w.heap.size + 1, 0, none⟩ v1).setCell ⟨w.heap.size + 1, 1, none⟩ v2).setCell ⟨w.heap.size + 1, 2, none⟩ y3).setCell ⟨w.heap.size + 1, 3, none⟩ y4) →
      OWebsR (w.heap.size + 2) Y v1 vs l1 ∧ ORibsR (w.heap.size + 2) Y v2 rs ∧ Below w.heap.size w Y := by
  obtain ⟨h1, h2, h3, h4, h5⟩ := h
  have k1 := h1.put 0 v1
  have g1 := Grew.set h1 0 v1
  have k2 := h2.far (p := ⟨w.heap.size, 0, none⟩) (by show w.heap.size + 1 ≠ w.heap.size; omega) v1
  have hs : (X.setCell ⟨w.heap.size, 0, none⟩ v1).heap.size = X.heap.size := World.size_setCell _ _ _
  have k3 := k1.below hb k1.lt
  have k4 := k2.below hb k2.lt
  have o1 := (h3.grew g1 (by decide) (by decide)).below hb
  have b1 := (h4.setCell (p := ⟨w.heap.size, 0, none⟩) (Nat.le_refl _) v1).trans (hb.mono (by rw [hs]; omega))
  have g2 := Grew.set k3 1 v2
  have k5 := k3.put 1 v2
  have k6 := k4.far (p := ⟨w.heap.size, 1, none⟩) (by show w.heap.size + 1 ≠ w.heap.size; omega) v2
  have o2 := o1.grew g2 (by decide) (by decide)
  have o3 := ownsRow_grew hr g2 (by decide)
  have b2 := b1.setCell (p := ⟨w.heap.size, 1, none⟩) (Nat.le_refl _) v2
  refine ⟨k5, k6, fun Y hY => ?_⟩
  subst hY
  have m1 := k6.put 0 v1
  have m2 := m1.put 1 v2
  have m3 := m2.put 2 y3
  have g := (((Grew.set k6 0 v1).trans (Grew.set m1 1 v2)).trans (Grew.set m2 2 y3)).trans (Grew.set m3 3 y4)
  exact ⟨o2.grew g (by decide) (by decide), ownsRow_grew o3 g (by decide), below_set4 b2 (by omega) _ _ _ _⟩

set_option maxRecDepth 100000 in
set_option maxHeartbeats 4000000 in
theorem refCopy_any (A1 A2 A3 : Option Addr) (c1 c2 c3 : Nat) (r : RunD) (w : World) (h : RRun w.heap.size w (.agg #[.slice A1 r.webs.length c1, .slice A2 r.ribs.length c2, .slice A3 r.stacks.length c3, .bool r.coll]) r) (hs : SmallRun r) :
    Calls Try.prog 60 #[.agg #[.slice A1 r.webs.length c1, .slice A2 r.ribs.length c2, .slice A3 r.stacks.length c3, .bool r.coll]] w fun e w' => ∃ v1 vs v2, e = .returned (.agg #[v1, v2, .slice A3 r.stacks.length c3, .bool r.coll]) ∧ OWebsR (w.heap.size + 2) w' v1 vs r.webs ∧ ORibsR (w.heap.size + 2) w' v2 r.ribs ∧ Below w.heap.size w w' := by
  obtain ⟨i0, hi, hz0, hz1, hz2⟩ := info_parts infoPlateR
  obtain ⟨i1, hi1, hw0, hw1, hw2⟩ := info_parts infoWebR
  obtain ⟨i2, hi2, hr0, hr1, hr2⟩ := info_parts infoRibR
  have hrib : Rd w.heap.size w 5 (.slice A2 r.ribs.length c2) r.ribs.length (r.ribs.flatMap RibD.cells) := by
    obtain ⟨v1, v2, v3, e, -, h2, -⟩ := h
    cases e
    exact h2
  obtain ⟨Ax, cx, ex, -, hA⟩ := (h.webs).open_
  cases ex
  have HA := Lib.hid hA
  have HRIB := Lib.hid hrib
  have HS := Lib.hid hs
  have F0 : ∃ W0, (w.alloc (.cells #[.slice A1 r.webs.length c1, .slice A2 r.ribs.length c2, .slice A3 r.stacks.length c3, .bool r.coll] 26)).alloc (.cells #[.slice none 0 0, .slice none 0 0, .slice none 0 0, .bool false] 26) = W0 ∧
      CpSt w #[.slice A1 r.webs.length c1, .slice A2 r.ribs.length c2, .slice A3 r.stacks.length c3, .bool r.coll] (.slice none 0 0) [] [] W0 := by
    refine ⟨_, rfl, (Blk.new w _ _).alloc _, ?_, OWebsR.nil, ((Below.refl _ _).alloc (Nat.le_refl _) _).alloc (by simp) _, by simp⟩
    have := Blk.new (w.alloc (.cells #[.slice A1 r.webs.length c1, .slice A2 r.ribs.length c2, .slice A3 r.stacks.length c3, .bool r.coll] 26)) 26 #[.slice none 0 0, .slice none 0 0, .slice none 0 0, .bool false]
    rw [World.size_alloc] at this
    exact this
  obtain ⟨W0, e0, S0⟩ := F0
  have E0 := Lib.hid e0
  have HS0 := Lib.hid S0
  clear h hs hA hrib e0 S0
  have u1 : ∀ w, Sem.run Try.prog (underlying 95) w = .ok (TypeDesc.slice 98) w := run_underlying slicePlatesR
  have u2 : ∀ w, Sem.run Try.prog (underlying 23) w = .ok (TypeDesc.slice 99) w := run_underlying sliceRibsR
  go_enter Try.func60, Try.ntmps60
  go_upto_region 1 with fail
  rw [E0.out]
  go_wp2
  go_loopw [3, 4] (fun lv i wr => ∃ (k : Nat) (vs : List Value), k ≤ r.webs.length ∧ i = .int .i64 k ∧ CpSt w #[.slice A1 r.webs.length c1, .slice A2 r.ribs.length c2, .slice A3 r.stacks.length c3, .bool r.coll] lv vs (r.webs.take k) wr) (fun _ i _ => r.webs.length - (intOf i).toNat)
  case atStart => exact ⟨0, [], Nat.zero_le _, rfl, HS0.out⟩
  case round =>
    clear HS0
    obtain ⟨k, vs, hk, rfl, hst⟩ := hrel
    have hBw : Below w.heap.size w wr := hst.2.2.2.1
    have o0 := cellOf hst.1 0 (x := .slice A1 r.webs.length c1) rfl
    have hL : (r.webs.take k).length = k := by rw [List.length_take]; omega
    by_cases hlt : k < r.webs.length
    case neg =>
      have hall : r.webs.take k = r.webs := List.take_of_length_le (by omega)
      rw [hall] at hst
      have hown := hst.2.2.1.1
      obtain ⟨Av, cv, rfl⟩ := ownsRow_form hown
      have hz5 := hst.2.2.2.2
      have hrb := HRIB.out.below hBw
      have f0 := hst.1.frozen 0
      have hrn : r.ribs.length ≤ 1000 := HS.out.2.1
      have HST := Lib.hid hst
      obtain ⟨w8, e8⟩ : ∃ w8, wr.setCell ⟨w.heap.size, 0, none⟩ (.slice Av r.webs.length cv) = w8 := ⟨_, rfl⟩
      have B8 : Blk w8 w.heap.size 26 #[.slice Av r.webs.length cv, .slice A2 r.ribs.length c2, .slice A3 r.stacks.length c3, .bool r.coll] := by
        rw [← e8]
        exact hst.1.put 0 _
      have hz8 : w.heap.size + 2 ≤ w8.heap.size := by rw [← e8, World.size_setCell]; exact hz5
      have hrd8 : ∀ a j u, A2 = some a → (r.ribs.flatMap RibD.cells)[j]? = some u → w8.cell? (a.add j) = some u := fun a j u ha hj => by
        obtain ⟨A', c', e, -, -, hr⟩ := hrb
        cases e
        rcases Nat.eq_zero_or_pos r.ribs.length with h0 | h0
        · rw [List.eq_nil_of_length_eq_zero h0] at hj
          simp at hj
        · obtain ⟨g, o, hA, hg, hc⟩ := hr h0
          rw [ha] at hA
          cases hA
          have h1 := hc j u hj
          rw [Addr.add_lit]
          rw [← e8, cell_far _ _ _ _ (by show w.heap.size ≠ g; omega)]
          exact h1
      have E8 := Lib.hid e8
      have HB8 := Lib.hid B8
      have HRD := Lib.hid hrd8
      have HRB := Lib.hid hrb
      clear hst hown hall hrb e8 hrd8 B8 hL
      go_upto_region 9 with fail
      rw [E8.out]
      clear o0 f0
      have b1 := cellOf HB8.out 1 (x := .slice A2 r.ribs.length c2) rfl
      have g1 := HB8.out.frozen 1
      have n8 : w.heap.size < w8.heap.size := by omega
      rcases A2 with - | a
      case none =>
        have h0 : r.ribs = [] := by
          obtain ⟨A', c', e, -, -, hr⟩ := HRB.out
          cases e
          rcases Nat.eq_zero_or_pos r.ribs.length with h0 | h0
          · exact List.eq_nil_of_length_eq_zero h0
          · obtain ⟨g, o, hA, -⟩ := hr h0
            cases hA
        have hl0 : r.ribs.length = 0 := by rw [h0]; rfl
        rw [hl0] at b1 ⊢
        obtain ⟨w9, e9⟩ : ∃ w9, w8.alloc (.cells #[] 99) = w9 := ⟨_, rfl⟩
        have hb9 : Below w8.heap.size w8 w9 := by rw [← e9]; exact (Below.refl _ _).alloc (Nat.le_refl _) _
        have hr9 : w9.ownsRow (w.heap.size + 2) 99 5 (.slice (some ⟨w8.heap.size, 0, none⟩) 0 0) r.ribs.length (r.ribs.flatMap RibD.cells) := by
          rw [h0, ← e9]
          exact World.ownsRow_made w8 #[] 0 hz8 (Nat.zero_le _) rfl
        have HR9 := Lib.hid hr9
        clear hr9 b1 g1
        have b1 := cellOf (HB8.out.below hb9 HB8.out.lt) 1 (x := .slice none 0 c2) (by rw [hl0]; rfl)
        have g1 := (HB8.out.below hb9 HB8.out.lt).frozen 1
        go_upto_region 10 with fail
        obtain ⟨w10, e10⟩ : ∃ w10, w9.setCell ⟨w.heap.size, 1, none⟩ (.slice (some ⟨w8.heap.size, 0, none⟩) 0 0) = w10 := ⟨_, rfl⟩
        have hfin := HST.out.final (by rw [E8.out]; exact hb9) HR9.out
        rw [e10] at hfin ⊢
        obtain ⟨K10, R10, hY⟩ := hfin
        have HY := Lib.hid hY
        have q0 := cellOf K10 0 (x := .slice Av r.webs.length cv) rfl
        have q1 := cellOf K10 1 (x := (.slice (some ⟨w8.heap.size, 0, none⟩) 0 0)) rfl
        have q2 := cellOf K10 2 (x := .slice A3 r.stacks.length c3) rfl
        have q3 := cellOf K10 3 (x := .bool r.coll) rfl
        have d0 := cellOf R10 0 (x := .slice none 0 0) rfl
        have d1 := cellOf R10 1 (x := .slice none 0 0) rfl
        have d2 := cellOf R10 2 (x := .slice none 0 0) rfl
        have d3 := cellOf R10 3 (x := .bool false) rfl
        have f0 := R10.frozen 0
        have f1 := R10.frozen 1
        have f2 := R10.frozen 2
        have f3 := R10.frozen 3
        clear K10 R10 hY e10 b1 g1 hb9 e9
        go_wp2
        refine bodyPost_ret (v := .agg #[.slice Av r.webs.length cv, (.slice (some ⟨w8.heap.size, 0, none⟩) 0 0), .slice A3 r.stacks.length c3, .bool r.coll]) (by simp [results, Try.results60, go_sem, d0, d1, d2, d3]) rfl ⟨_, vs, _, rfl, ?_⟩
        exact HY.out _ rfl
      case some =>
        obtain ⟨wm, em⟩ : ∃ wm, w8.alloc (.cells #[] 99) = wm := ⟨_, rfl⟩
        have hbm : Below w8.heap.size w8 wm := by rw [← em]; exact (Below.refl _ _).alloc (Nat.le_refl _) _
        have hmade : wm.ownsRow w8.heap.size 99 5 (.slice (some ⟨w8.heap.size, 0, none⟩) 0 0) 0 [] := by
          rw [← em]
          exact World.ownsRow_made w8 #[] 0 (Nat.le_refl _) (Nat.zero_le _) rfl
        have hsrc : ∀ j u, (r.ribs.flatMap RibD.cells)[j]? = some u → wm.cell? (a.add j) = some u := fun j u hj => by
          rw [← em]
          exact Lib.cell?_alloc_some _ (HRD.out a j u rfl hj)
        have HSRC := Lib.hid hsrc
        have zm := hbm.size
        clear b1 g1 hsrc
        have b1 := cellOf (HB8.out.below hbm HB8.out.lt) 1 (x := .slice (some a) r.ribs.length c2) rfl
        have g1 := (HB8.out.below hbm HB8.out.lt).frozen 1
        go_upto_region 10 with (at_builtin; refine wpList_append_own _ rfl _ _ 23 rfl w8.heap.size 99 i2 _ 5 32 sliceRibsR hi2 hr0 hr1 hr2 rfl (by decide) (.slice (some ⟨w8.heap.size, 0, none⟩) 0 0) 0 [] rfl hmade a r.ribs.length c2 (r.ribs.flatMap RibD.cells) rfl (flat_get RibD.cells 5 (fun _ => rfl) _) HSRC.out (rib_cells_one _) (by simp only [maxLen]; omega) (by omega) (by omega) ?_; intro v' w9 hown hgrow _; have hr9 : w9.ownsRow (w.heap.size + 2) 99 5 v' r.ribs.length (r.ribs.flatMap RibD.cells) := ownsRow_base (by simpa using hown) hz8; obtain ⟨A7, c7, rfl⟩ := ownsRow_form hr9; have hb9 : Below w8.heap.size w8 w9 := hbm.grown hgrow (by omega) (by intro k hk; simp [Value.ownBlock] at hk; omega); clear b1 g1; have b1 := cellOf (HB8.out.below hb9 HB8.out.lt) 1 (x := .slice (some a) r.ribs.length c2) rfl; have g1 := (HB8.out.below hb9 HB8.out.lt).frozen 1)
        have HR9 := Lib.hid hr9
        clear hown hgrow hr9
        obtain ⟨w10, e10⟩ : ∃ w10, w9.setCell ⟨w.heap.size, 1, none⟩ (.slice A7 r.ribs.length c7) = w10 := ⟨_, rfl⟩
        have hfin := HST.out.final (by rw [E8.out]; exact hb9) HR9.out
        rw [e10] at hfin ⊢
        obtain ⟨K10, R10, hY⟩ := hfin
        have HY := Lib.hid hY
        have q0 := cellOf K10 0 (x := .slice Av r.webs.length cv) rfl
        have q1 := cellOf K10 1 (x := (.slice A7 r.ribs.length c7)) rfl
        have q2 := cellOf K10 2 (x := .slice A3 r.stacks.length c3) rfl
        have q3 := cellOf K10 3 (x := .bool r.coll) rfl
        have d0 := cellOf R10 0 (x := .slice none 0 0) rfl
        have d1 := cellOf R10 1 (x := .slice none 0 0) rfl
        have d2 := cellOf R10 2 (x := .slice none 0 0) rfl
        have d3 := cellOf R10 3 (x := .bool false) rfl
        have f0 := R10.frozen 0
        have f1 := R10.frozen 1
        have f2 := R10.frozen 2
        have f3 := R10.frozen 3
        clear K10 R10 hY e10 b1 g1 hb9
        go_wp2
        refine bodyPost_ret (v := .agg #[.slice Av r.webs.length cv, (.slice A7 r.ribs.length c7), .slice A3 r.stacks.length c3, .bool r.coll]) (by simp [results, Try.results60, go_sem, d0, d1, d2, d3]) rfl ⟨_, vs, _, rfl, ?_⟩
        exact HY.out _ rfl
    obtain ⟨x, hx⟩ : ∃ x, r.webs[k]? = some x := ⟨_, List.getElem?_eq_getElem hlt⟩
    obtain ⟨g, o, u, rfl, hb, m0, m1, m2, hp⟩ := HA.out k x hx
    rw [← hBw.cell (p := ⟨g, o + k * 3, none⟩) hb] at m0
    rw [← hBw.cell (p := ⟨g, o + k * 3 + 1, none⟩) hb] at m1
    rw [← hBw.cell (p := ⟨g, o + k * 3 + 2, none⟩) hb] at m2
    have hp2 : Rd w.heap.size wr 2 u x.plates.length (x.plates.flatMap PlateD.cells) := Rd.below hp hBw
    obtain ⟨A5, c5, rfl, -, hA5, hcl⟩ := rd_slice hp2
    have hpl : x.plates.length ≤ 1000 := HS.out.2.2.2.1 x (List.mem_of_getElem? hx)
    have HT : Hid (r.webs.take (k + 1) = r.webs.take k ++ [x]) := by
      show r.webs.take (k + 1) = r.webs.take k ++ [x]
      rw [List.take_add_one, hx]; rfl
    obtain ⟨xc, xr, xp⟩ := x
    dsimp only at m0 m1 m2 hA5 hcl hpl
    have F1 : ∃ w1, wr.alloc (.cells #[.int .i64 xc, .int .i64 xr, .slice A5 xp.length c5] 97) = w1 ∧ w1.heap.size = wr.heap.size + 1 ∧ Below wr.heap.size wr w1 ∧ Blk w1 wr.heap.size 97 #[.int .i64 xc, .int .i64 xr, .slice A5 xp.length c5] := ⟨_, rfl, by simp, (Below.refl _ _).alloc (Nat.le_refl _) _, Blk.new _ _ _⟩
    obtain ⟨w1, e1, z1, hb1, R1⟩ := F1
    have E1 := Lib.hid e1
    have Z1 := Lib.hid z1
    have HR1 := Lib.hid R1
    have HB1 := Lib.hid hb1
    have HCL := Lib.hid hcl
    have HST := Lib.hid hst
    have HL := Lib.hid hL
    have hki : (k : Int) < (r.webs.length : Int) := by omega
    have hk1 : k ≤ 1000 := by have := HS.out.1; omega
    have hz5 := hst.2.2.2.2
    clear hx hp hp2 e1 z1 R1 hb1 hcl hst hL hb
    go_upto_region 6 with fail
    rw [E1.out]
    clear m0 m1 m2 o0
    obtain ⟨wm, em⟩ : ∃ wm, w1.alloc (.cells #[] 98) = wm := ⟨_, rfl⟩
    have hbm : Below w1.heap.size w1 wm := by rw [← em]; exact (Below.refl _ _).alloc (Nat.le_refl _) _
    have hmade : wm.ownsRow w1.heap.size 98 2 (.slice (some ⟨w1.heap.size, 0, none⟩) 0 0) 0 [] := by
      rw [← em]
      exact World.ownsRow_made w1 #[] 0 (Nat.le_refl _) (Nat.zero_le _) rfl
    have zm := hbm.size
    have q2 := cellOf (HR1.out.below hbm HR1.out.lt) 2 (x := .slice A5 xp.length c5) rfl
    have f2 := (HR1.out.below hbm HR1.out.lt).frozen 2
    have HMD := Lib.hid hmade
    clear hmade
    go_cut [22] (fun _ wx => PlCut w wr xc xr xp wx)
    case first =>
      rcases A5 with - | a
      case none =>
        have h0 : xp = [] := by
          rcases Nat.eq_zero_or_pos xp.length with h0 | h0
          · exact List.eq_nil_of_length_eq_zero h0
          · exact absurd rfl (hA5 h0)
        subst h0
        have HBM := Lib.hid hbm
        clear hA5 hbm
        simp only [List.length_nil] at q2
        go_wp2_with fail
        go_meet
        exact pl_cut hz5 Z1.out HB1.out HBM.out HR1.out HMD.out rfl
      case some =>
        have hsrc : ∀ j u, (xp.flatMap PlateD.cells)[j]? = some u → wm.cell? (a.add j) = some u := fun j u hj => by
          rw [← em, ← E1.out]
          exact Lib.cell?_alloc_some _ (Lib.cell?_alloc_some _ (HCL.out a rfl j u hj))
        have HSRC := Lib.hid hsrc
        clear hsrc hA5
        go_wp2_with (at_builtin; refine wpList_append_own _ rfl _ _ 95 rfl w1.heap.size 98 i0 _ 2 16 slicePlatesR hi hz0 hz1 hz2 rfl (by decide) (.slice (some ⟨w1.heap.size, 0, none⟩) 0 0) 0 [] rfl HMD.out a xp.length c5 (xp.flatMap PlateD.cells) rfl (flat_get PlateD.cells 2 (fun _ => rfl) _) HSRC.out (plate_cells_one _) (by simp only [maxLen]; omega) (by omega) (by omega) ?_; intro v' w9 hown hgrow _; have hr9 : w9.ownsRow w1.heap.size 98 2 v' xp.length (xp.flatMap PlateD.cells) := (by simpa using hown); obtain ⟨A7, c7, rfl⟩ := ownsRow_form hr9; have hb9 : Below w1.heap.size w1 w9 := hbm.grown hgrow (by omega) (by intro k hk; simp [Value.ownBlock] at hk; omega); clear q2 f2; have q2 := cellOf (HR1.out.below hb9 HR1.out.lt) 2 (x := .slice (some a) xp.length c5) rfl; have f2 := (HR1.out.below hb9 HR1.out.lt).frozen 2)
        go_meet
        exact pl_cut hz5 Z1.out HB1.out hb9 HR1.out hr9 rfl
    case rest =>
    obtain ⟨u, hu, hge, Rc, hbc⟩ := hcut
    obtain ⟨w2, rfl⟩ : ∃ w2, w2 = wc := ⟨wc, rfl⟩
    obtain ⟨A7, c7, rfl⟩ := ownsRow_form hu
    have hst2 := HST.out.below hbc
    have hown := hst2.2.2.1.1
    rw [HL.out] at hown
    obtain ⟨Av, cv, rfl⟩ := ownsRow_form hown
    have q0 := cellOf Rc 0 (x := .int .i64 xc) rfl
    have q1 := cellOf Rc 1 (x := .int .i64 xr) rfl
    have hlts := HST.out.2.2.1.lts
    have hz2' := hst2.2.2.2.2
    clear q2 f2
    have q2 := cellOf Rc 2 (x := .slice A7 xp.length c7) rfl
    have HU := Lib.hid hu
    have HGE := Lib.hid hge
    have HST2 := Lib.hid hst2
    have HLT := Lib.hid hlts
    clear em hbm zm hu hge hst2 hlts Rc hbc hA5
    go_wp2_with (at_builtin; refine wpList_append_own _ rfl _ _ 22 rfl (w.heap.size + 2) 97 i1 _ 3 40 Try.underlying22 hi1 hw0 hw1 hw2 rfl (by decide) _ k _ rfl (hown.alloc _) ⟨w2.heap.size, 0, none⟩ 1 1 [.int .i64 xc, .int .i64 xr, .slice A7 xp.length c7] rfl rfl (cells_new _ _ _) (by simp [Value.oneCell']) (by simp only [maxLen]; omega) (by omega) (by simp; omega) ?_; intro v' w4 hown' hgrow _)
    have hst4 := HST2.out.web (x := ⟨xc, xr, xp⟩) HLT.out HU.out HGE.out hgrow (by rw [HL.out]; exact hown')
    rw [← HT.out] at hst4
    clear hown hown' hgrow q0 q1 q2
    go_wp2
    go_roundw
    case rel => exact ⟨k + 1, _, by omega, by go_num, hst4⟩
    case measure => (simp [intOf]) <;> omega
end Go.Proofs.Ytdbfhdncjblleaa
