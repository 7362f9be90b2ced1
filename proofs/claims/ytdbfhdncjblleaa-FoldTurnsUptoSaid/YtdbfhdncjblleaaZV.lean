/-
  Fill.
-/
import Derived.Test.YtdbfhdncjblleaaZU
namespace Go.Proofs.Ytdbfhdncjblleaa
open Go.RowKit

theorem Grew.of_grown {e : TypeId} {w w' : World} {rr : Nat} {m : Option Nat} {s c : Nat} {seen : Array Nat} (h : w.grownBy w' (some rr)) (hr : w.heap[rr]? = some (.mapIter m s seen c)) : Grew e w w' := fun g cs t fr hg _ => by
  refine h.block g (Array.getElem?_eq_some_iff.1 hg).1 fun e1 => ?_
  cases e1
  rw [hr] at hg
  cases hg
theorem Grew.of_iter {e : TypeId} {w w' : World} {b rr n : Nat} {seen : Array Nat} (h : w.grownBy w' (some rr)) (hr : IterAt w b rr n seen) : Grew e w w' := by
  obtain ⟨c0, -, hr⟩ := hr
  exact Grew.of_grown h hr
theorem IterAt.ne_blk {w : World} {b rr n g : Nat} {seen : Array Nat} {t : TypeId} {cs : Array Value} (hr : IterAt w b rr n seen) (h : Blk w g t cs) : g ≠ rr := by
  obtain ⟨c0, -, hr⟩ := hr
  rintro rfl
  unfold Blk at h
  rw [hr] at h; cases h
theorem MapAt.ne_blk {α β : Type} {kv : α → Value} {vv : β → Value} {w : World} {b g : Nat} {l : List (α × β)} {t : TypeId} {cs : Array Value} (hm : MapAt kv vv w b l) (h : Blk w g t cs) : g ≠ b := by
  rintro rfl
  unfold MapAt at hm
  unfold Blk at h
  rw [hm] at h; cases h
theorem OPlates.blk {base : Nat} {w : World} {l : List PlateD} {g n c : Nat} (h : OPlates base w (.slice (some ⟨g, 0, none⟩) n c) l) : ∃ cs, Blk w g 89 cs := by
  rcases h.2 with ⟨h2, -⟩ | ⟨g', cap, cur, he, hb, hh, -⟩
  · cases h2
  · cases he
    exact ⟨cur, hh⟩
theorem add0 (g j : Nat) : (⟨g, 0, none⟩ : Addr).add j = ⟨g, j, none⟩ := by unfold Addr.add; split <;> simp_all
theorem OPlates.at {base : Nat} {w : World} {l : List PlateD} {g n c : Nat} (h : OPlates base w (.slice (some ⟨g, 0, none⟩) n c) l) {k : Nat} {p : PlateD} (hp : l[k]? = some p) : w.cell? ⟨g, k * 2, none⟩ = some (.int .i64 p.page) ∧ w.cell? ⟨g, k * 2 + 1, none⟩ = some (.bool p.up) := by
  have hf := fun j hj => flat_at PlateD.cells 2 (fun _ => rfl) _ k j _ hp hj
  have h0 := h.cells (g := g) rfl (k * 2) _ (hf 0 (by omega))
  have h1 := h.cells (g := g) rfl (k * 2 + 1) _ (hf 1 (by omega))
  rw [add0] at h0 h1
  exact ⟨h0, h1⟩
theorem OWebs.at {base : Nat} {w : World} {vs : List Value} {l : List WebD} {g n c : Nat} (h : OWebs base w (.slice (some ⟨g, 0, none⟩) n c) vs l) {m : Nat} {x : WebD} (hx : l[m]? = some x) :
    ∃ u, vs[m]? = some u ∧ OPlates base w u x.plates ∧ w.cell? ⟨g, m * 3, none⟩ = some (.int .i64 x.cols) ∧ w.cell? ⟨g, m * 3 + 1, none⟩ = some (.int .i64 x.rows) ∧ w.cell? ⟨g, m * 3 + 2, none⟩ = some u := by
  obtain ⟨h1, h2, h3, h4⟩ := h
  have hm := (List.getElem?_eq_some_iff.1 hx).1
  have hv : vs[m]? = some (vs[m]'(by omega)) := List.getElem?_eq_getElem (by omega)
  have hz : (l.zip vs)[m]? = some (x, vs[m]'(by omega)) := by rw [List.getElem?_zip_eq_some]; exact ⟨hx, hv⟩
  have hf := fun j hj => flat_at (fun x : WebD × Value => webCells x.1 x.2) 3 (fun _ => rfl) _ m j _ hz hj
  have k0 := h1.cells (g := g) rfl (m * 3) _ (hf 0 (by omega))
  have k1 := h1.cells (g := g) rfl (m * 3 + 1) _ (hf 1 (by omega))
  have k2 := h1.cells (g := g) rfl (m * 3 + 2) _ (hf 2 (by omega))
  rw [add0] at k0 k1 k2
  exact ⟨_, hv, h3 m _ x hv hx, k0, k1, k2⟩

/-- What stands in memory while plates are stored: the iterator's and the map's blocks, the run of one's own. -/
def FillSt (w : World) (r : RunD) (product : List (List Int)) (b rr B8 : Nat) (u1 : Value) (vs : List Value) (u2 u3 : Value) (si : Array Nat) (ws : List WebD) (wr : World) : Prop :=
  IterAt wr b rr (placesD r).length si ∧ MapAt SpotD.val PlaceD.val wr b (placesD r) ∧ OWebs w.heap.size wr u1 vs ws ∧ ORibs w.heap.size wr u2 r.ribs ∧ OIntss w.heap.size wr u3 r.stacks ∧ Below w.heap.size w wr ∧
    Blk wr B8 36 #[u1, u2, u3, .bool r.coll] ∧ Blk wr (w.heap.size + 1) 36 #[.slice none 0 0, .slice none 0 0, .slice none 0 0, .bool false]
section
variable {w wr w' : World} {r : RunD} {product : List (List Int)} {b rr B8 : Nat} {u1 : Value} {vs : List Value} {u2 u3 : Value} {si : Array Nat} {ws : List WebD}
theorem FillSt.below (h : FillSt w r product b rr B8 u1 vs u2 u3 si ws wr) (hb : Below wr.heap.size wr w') : FillSt w r product b rr B8 u1 vs u2 u3 si ws w' := by
  obtain ⟨h1, h2, h3, h4, h5, h6, h7, h8⟩ := h
  exact ⟨h1.below hb, h2.below hb, h3.below hb, ownsRow_below h4 hb, h5.below hb, h6.trans (hb.mono h6.size), h7.below hb h7.lt, h8.below hb h8.lt⟩
theorem FillSt.next (h : FillSt w r product b rr B8 u1 vs u2 u3 si ws wr) {i : Nat} (hg : wr.grownBy w' (some rr)) (hi : IterAt w' b rr (placesD r).length (si.push i)) (hm : MapAt SpotD.val PlaceD.val w' b (placesD r)) (hrr : w.heap.size ≤ rr) :
    FillSt w r product b rr B8 u1 vs u2 u3 (si.push i) ws w' := by
  obtain ⟨h1, h2, h3, h4, h5, h6, h7, h8⟩ := h
  have g : Grew 4 wr w' := Grew.of_iter hg h1
  exact ⟨hi, hm, h3.grew g (by decide) (by decide), ownsRow_grew h4 g (by decide), h5.grew g (by decide) (by decide), h6.grown hg h6.size (fun j hj => by cases hj; exact hrr), h7.grew g (by decide), h8.grew g (by decide)⟩
theorem FillSt.put (h : FillSt w r product b rr B8 u1 vs u2 u3 si ws wr) {m k g n c : Nat} {x : WebD} (hu : vs[m]? = some (.slice (some ⟨g, 0, none⟩) n c)) (hx : ws[m]? = some x) (hk : k < x.plates.length) (pg : Int) (up : Bool) :
    FillSt w r product b rr B8 u1 vs u2 u3 si (putPlate ws m k ⟨pg, up⟩) ((wr.setCell ⟨g, k * 2, none⟩ (.int .i64 pg)).setCell ⟨g, k * 2 + 1, none⟩ (.bool up)) := by
  obtain ⟨h1, h2, h3, h4, h5, h6, h7, h8⟩ := h
  obtain ⟨p1, p2, p3, p4⟩ := h3.put hu hx hk pg up
  obtain ⟨cs, hcs⟩ := (h3.2.2.1 m _ x hu hx).blk
  have n1 := h1.ne_blk hcs
  have n2 := h2.ne_blk hcs
  exact ⟨(h1.setCell (p := ⟨g, k * 2, none⟩) n1 _).setCell (p := ⟨g, k * 2 + 1, none⟩) n1 _, (h2.setCell (p := ⟨g, k * 2, none⟩) n2 _).setCell (p := ⟨g, k * 2 + 1, none⟩) n2 _, p1, ownsRow_grew h4 p2 (by decide), h5.grew p2 (by decide) (by decide),
    (h6.setCell (p := ⟨g, k * 2, none⟩) p3 _).setCell (p := ⟨g, k * 2 + 1, none⟩) p3 _, h7.grew p2 (by decide), h8.grew p2 (by decide)⟩
theorem FillSt.drew (h : FillSt w r product b rr B8 u1 vs u2 u3 si ws wr) : FillSt w r product b rr B8 u1 vs u2 u3 si ws wr.drew := h.below ((Below.refl _ _).drew)
/-- The run as it is handed back. -/
theorem FillSt.final (h : FillSt w r product b rr B8 u1 vs u2 u3 si ws wr) :
    ORun w.heap.size ((((wr.setCell ⟨w.heap.size + 1, 0, none⟩ u1).setCell ⟨w.heap.size + 1, 1, none⟩ u2).setCell ⟨w.heap.size + 1, 2, none⟩ u3).setCell ⟨w.heap.size + 1, 3, none⟩ (.bool r.coll)) (.agg #[u1, u2, u3, .bool r.coll]) { r with webs := ws } ∧
    Below w.heap.size w ((((wr.setCell ⟨w.heap.size + 1, 0, none⟩ u1).setCell ⟨w.heap.size + 1, 1, none⟩ u2).setCell ⟨w.heap.size + 1, 2, none⟩ u3).setCell ⟨w.heap.size + 1, 3, none⟩ (.bool r.coll)) := by
  obtain ⟨h1, h2, h3, h4, h5, h6, h7, h8⟩ := h
  have k1 := h8.put 0 u1
  have k2 := k1.put 1 u2
  have k3 := k2.put 2 u3
  have gr := (((Grew.set h8 0 u1).trans (Grew.set k1 1 u2)).trans (Grew.set k2 2 u3)).trans (Grew.set k3 3 (.bool r.coll))
  exact ⟨⟨u1, vs, u2, u3, rfl, h3.grew gr (by decide) (by decide), ownsRow_grew h4 gr (by decide), h5.grew gr (by decide) (by decide)⟩, below_set4 h6 (by omega) _ _ _ _⟩
end

/-- What Fill gives. -/
def FillRet (r : RunD) (product : List (List Int)) (w : World) (e : Ending) (w' : World) : Prop :=
  ∃ u, e = .returned (.tuple #[u, .int .i64 (fillE r product)]) ∧ (fillE r product = 0 → ∃ r', Filled r product r' ∧ ORun w.heap.size w' u r') ∧ (fillE r product ≠ 0 → u = runRet0) ∧ Below w.heap.size w w'

set_option maxRecDepth 100000 in
set_option maxHeartbeats 4000000 in
theorem Fill_any (v pv : Value) (r : RunD) (product : List (List Int)) (w : World) (h : RRun w.heap.size w v r) (hp : RIntss w.heap.size w pv product) :
    Calls Try.prog 33 #[v, pv] w (FillRet r product w) := by
  have hrun := Lib.hid h
  obtain ⟨A1, c1, A2, c2, A3, c3, rfl⟩ := h.shape
  have Hp := Lib.hid hp
  obtain ⟨Ap, cp, rfl, hlp, hAp⟩ := RAll.open_ hp
  have HAp := Lib.hid hAp
  clear h hp hAp
  have F0 : ∃ W0, ((w.alloc (.cells #[.slice A1 r.webs.length c1, .slice A2 r.ribs.length c2, .slice A3 r.stacks.length c3, .bool r.coll] 36)).alloc (.cells #[.slice none 0 0, .slice none 0 0, .slice none 0 0, .bool false] 36)).alloc (.cells #[.slice A1 r.webs.length c1, .slice A2 r.ribs.length c2, .slice A3 r.stacks.length c3, .bool r.coll] 111) = W0 ∧
      W0.heap.size = w.heap.size + 3 ∧ Below w.heap.size w W0 ∧ Blk W0 w.heap.size 36 #[.slice A1 r.webs.length c1, .slice A2 r.ribs.length c2, .slice A3 r.stacks.length c3, .bool r.coll] ∧
      Blk W0 (w.heap.size + 1) 36 #[.slice none 0 0, .slice none 0 0, .slice none 0 0, .bool false] ∧
      Blk W0 (w.heap.size + 1 + 1) 111 #[.slice A1 r.webs.length c1, .slice A2 r.ribs.length c2, .slice A3 r.stacks.length c3, .bool r.coll] := by
    refine ⟨_, rfl, by simp, (((Below.refl _ _).alloc (Nat.le_refl _) _).alloc (by simp) _).alloc (by simp; omega) _, ((Blk.new w _ _).alloc _).alloc _, ?_, ?_⟩
    · have := Blk.new (w.alloc (.cells #[.slice A1 r.webs.length c1, .slice A2 r.ribs.length c2, .slice A3 r.stacks.length c3, .bool r.coll] 36)) 36 #[.slice none 0 0, .slice none 0 0, .slice none 0 0, .bool false]
      rw [World.size_alloc] at this
      exact this.alloc _
    · have := Blk.new ((w.alloc (.cells #[.slice A1 r.webs.length c1, .slice A2 r.ribs.length c2, .slice A3 r.stacks.length c3, .bool r.coll] 36)).alloc (.cells #[.slice none 0 0, .slice none 0 0, .slice none 0 0, .bool false] 36)) 111 #[.slice A1 r.webs.length c1, .slice A2 r.ribs.length c2, .slice A3 r.stacks.length c3, .bool r.coll]
      rw [World.size_alloc, World.size_alloc] at this
      exact this
  obtain ⟨W0, e0, z0, B0, V0, R0, U0⟩ := F0
  have E0 := Lib.hid e0
  have Z0 := Lib.hid z0
  clear e0 z0
  go_enter Try.func33, Try.ntmps33
  go_wp2_with fail
  rw [E0.out]
  refine (check_any _ r _ ((hrun.out.below B0).more B0.size)).mono ?_
  rintro e w3 ⟨rfl, hb3⟩
  have V3 := V0.below hb3 (by rw [Z0.out]; omega)
  have R3 := R0.below hb3 (by rw [Z0.out]; omega)
  have U3 := U0.below hb3 (by rw [Z0.out]; omega)
  have B3 : Below w.heap.size w w3 := B0.trans (hb3.mono B0.size)
  clear V0 R0 U0 B0 E0 hb3
  have d0 := cellOf R3 0 (x := .slice none 0 0) rfl
  have d1 := cellOf R3 1 (x := .slice none 0 0) rfl
  have d2 := cellOf R3 2 (x := .slice none 0 0) rfl
  have d3 := cellOf R3 3 (x := .bool false) rfl
  have f0 := R3.frozen 0
  have f1 := R3.frozen 1
  have f2 := R3.frozen 2
  have f3 := R3.frozen 3
  by_cases hck : checkE r = 0
  case neg =>
    have hck' : (checkE r != 0) = true := by simpa using hck
    have hE : fillE r product = checkE r := by unfold fillE; rw [if_pos hck]
    have HR : ∀ w', Below w.heap.size w w' → FillRet r product w (.returned (.tuple #[runRet0, .int .i64 (checkE r)])) w' := fun w' hb => ⟨_, by rw [hE], fun h => absurd (hE ▸ h) hck, fun _ => rfl, hb⟩
    have HR' := Lib.hid HR
    have HB := Lib.hid (below_set4 B3 (Nat.le_succ w.heap.size) (.slice none 0 0) (.slice none 0 0) (.slice none 0 0) (.bool false))
    clear hck hE HR V3 R3 U3
    generalize checkE r = ck at *
    go_wp2
    refine bodyPost_ret (v := .tuple #[runRet0, .int .i64 ck]) (by simp [results, Try.results33, go_sem, d0, d1, d2, d3, runRet0]) rfl (HR'.out _ HB.out)
  have Hok := Lib.hid hck
  rw [hck]
  clear hck
  have v0 := cellOf U3 0 (x := .slice A1 r.webs.length c1) rfl
  have v1 := cellOf U3 1 (x := .slice A2 r.ribs.length c2) rfl
  have v2 := cellOf U3 2 (x := .slice A3 r.stacks.length c3) rfl
  have v3 := cellOf U3 3 (x := .bool r.coll) rfl
  have C2 := Lib.hid (hasSizes_any _ _ r product w3 ((hrun.out.below B3).more B3.size) Hok.out ((Hp.out.below B3).more B3.size))
  have HV3 := Lib.hid V3
  have HR3 := Lib.hid R3
  have HU3 := Lib.hid U3
  clear V3 R3 U3
  cases hsz : hasSizesB r product
  · rw [hsz] at C2
    have hE : fillE r product = 21 := by unfold fillE; rw [if_neg (by rw [Hok.out]; simp), if_pos hsz]
    have HR : ∀ w', Below w.heap.size w w' → FillRet r product w (.returned (.tuple #[runRet0, .int .i64 21])) w' := fun w' hb => ⟨_, by rw [hE], fun h => absurd (hE ▸ h) (by decide), fun _ => rfl, hb⟩
    have HR' := Lib.hid HR
    clear hsz hE HR d0 d1 d2 d3 f0 f1 f2 f3
    go_wp2_with fail
    refine C2.out.mono ?_
    rintro e w4 ⟨rfl, hb4⟩
    have R4 := HR3.out.below hb4 HR3.out.lt
    have B4 := B3.trans (hb4.mono B3.size)
    have d0 := cellOf R4 0 (x := .slice none 0 0) rfl
    have d1 := cellOf R4 1 (x := .slice none 0 0) rfl
    have d2 := cellOf R4 2 (x := .slice none 0 0) rfl
    have d3 := cellOf R4 3 (x := .bool false) rfl
    have f0 := R4.frozen 0
    have f1 := R4.frozen 1
    have f2 := R4.frozen 2
    have f3 := R4.frozen 3
    have HB := Lib.hid (below_set4 B4 (Nat.le_succ w.heap.size) (.slice none 0 0) (.slice none 0 0) (.slice none 0 0) (.bool false))
    clear v0 v1 v2 v3 R4 hb4
    go_wp2
    refine bodyPost_ret (v := .tuple #[runRet0, .int .i64 21]) (by simp [results, Try.results33, go_sem, d0, d1, d2, d3, runRet0]) rfl (HR'.out _ HB.out)
  rw [hsz] at C2
  have Hsz := Lib.hid hsz
  clear hsz d0 d1 d2 d3 f0 f1 f2 f3
  go_wp2_with fail
  refine C2.out.mono ?_
  rintro e w4 ⟨rfl, hb4⟩
  have R4 := HR3.out.below hb4 HR3.out.lt
  have V4 := HV3.out.below hb4 HV3.out.lt
  have U4 := HU3.out.below hb4 HU3.out.lt
  have B4 := B3.trans (hb4.mono B3.size)
  have C1 := Lib.hid (hasPages_any _ product w4 ((Hp.out.below B4).more B4.size))
  clear v0 v1 v2 v3 hb4 C2
  cases hpg : hasPagesB product
  · rw [hpg] at C1
    have hE : fillE r product = 6 := by unfold fillE; rw [if_neg (by rw [Hok.out]; simp), if_neg (by rw [Hsz.out]; simp), if_pos hpg]
    have HR : ∀ w', Below w.heap.size w w' → FillRet r product w (.returned (.tuple #[runRet0, .int .i64 6])) w' := fun w' hb => ⟨_, by rw [hE], fun h => absurd (hE ▸ h) (by decide), fun _ => rfl, hb⟩
    have HR' := Lib.hid HR
    have d0 := cellOf R4 0 (x := .slice none 0 0) rfl
    have d1 := cellOf R4 1 (x := .slice none 0 0) rfl
    have d2 := cellOf R4 2 (x := .slice none 0 0) rfl
    have d3 := cellOf R4 3 (x := .bool false) rfl
    have f0 := R4.frozen 0
    have f1 := R4.frozen 1
    have f2 := R4.frozen 2
    have f3 := R4.frozen 3
    have HB := Lib.hid (below_set4 B4 (Nat.le_succ w.heap.size) (.slice none 0 0) (.slice none 0 0) (.slice none 0 0) (.bool false))
    clear hpg hE HR R4 V4 U4
    go_wp2_with fail
    refine C1.out.mono ?_
    rintro e w' ⟨rfl, rfl⟩
    go_wp2
    refine bodyPost_ret (v := .tuple #[runRet0, .int .i64 6]) (by simp [results, Try.results33, go_sem, d0, d1, d2, d3, runRet0]) rfl (HR'.out _ HB.out)
  rw [hpg] at C1
  have HE : Hid (fillE r product = 0) := by show fillE r product = 0; unfold fillE; rw [if_neg (by rw [Hok.out]; simp), if_neg (by rw [Hsz.out]; simp), if_neg (by rw [hpg]; simp)]
  clear hpg
  have v0 := cellOf V4 0 (x := .slice A1 r.webs.length c1) rfl
  have v1 := cellOf V4 1 (x := .slice A2 r.ribs.length c2) rfl
  have v2 := cellOf V4 2 (x := .slice A3 r.stacks.length c3) rfl
  have v3 := cellOf V4 3 (x := .bool r.coll) rfl
  have CC := Lib.hid (clone_any _ r w4 ((hrun.out.below B4).more B4.size) (small_ok Hok.out))
  go_wp2_with fail
  refine C1.out.mono ?_
  rintro e w' ⟨rfl, rfl⟩
  go_wp2_with fail
  refine CC.out.mono ?_
  rintro e w5 ⟨u, rfl, hu, hb5⟩
  have B5 := B4.trans (hb5.mono B4.size)
  obtain ⟨u1, vs, u2, u3, rfl, ow, orb, os⟩ := hu.base_ B4.size
  obtain ⟨D1, m1, rfl⟩ := ownsRow_form ow.1
  obtain ⟨D2, m2, rfl⟩ := ownsRow_form orb
  obtain ⟨D3, m3, rfl⟩ : ∃ A c, u3 = .slice A r.stacks.length c := by
    obtain ⟨ws, hws⟩ := os
    exact ownsRow_form hws.1
  obtain ⟨gw, rfl, hg0, hg1⟩ := ownsRow_block ow.1 (by have := (numbers_ok (parts_ok Hok.out 0 (by omega))).1; omega)
  have R5 := R4.below hb5 R4.lt
  have U5 := U4.below hb5 U4.lt
  clear v0 v1 v2 v3 R4 V4 U4 C1 CC hb5 HV3 HR3 HU3 hu
  have F6 : ∃ w6, w5.alloc (.cells #[.slice (some ⟨gw, 0, none⟩) r.webs.length m1, .slice D2 r.ribs.length m2, .slice D3 r.stacks.length m3, .bool r.coll] 36) = w6 ∧ Below w5.heap.size w5 w6 ∧ w6.heap.size = w5.heap.size + 1 ∧
      Blk w6 w5.heap.size 36 #[.slice (some ⟨gw, 0, none⟩) r.webs.length m1, .slice D2 r.ribs.length m2, .slice D3 r.stacks.length m3, .bool r.coll] :=
    ⟨_, rfl, (Below.refl _ _).alloc (Nat.le_refl _) _, by simp, Blk.new _ _ _⟩
  obtain ⟨w6, e6, hb6, z6, O6⟩ := F6
  have E6 := Lib.hid e6
  have U6 := U5.below hb6 U5.lt
  have R6 := R5.below hb6 R5.lt
  have B6 := B5.trans (hb6.mono B5.size)
  have v0 := cellOf U6 0 (x := .slice A1 r.webs.length c1) rfl
  have v1 := cellOf U6 1 (x := .slice A2 r.ribs.length c2) rfl
  have v2 := cellOf U6 2 (x := .slice A3 r.stacks.length c3) rfl
  have v3 := cellOf U6 3 (x := .bool r.coll) rfl
  have ow6 := ow.below hb6
  have or6 := ownsRow_below orb hb6
  have os6 := os.below hb6
  clear ow orb os U5 R5 e6
  generalize eB8 : w5.heap.size = B8 at *
  go_upto_region 10 with fail
  rw [E6.out]
  go_wp2_with fail
  refine (places_any _ r w6 ((hrun.out.below B6).more B6.size) Hok.out (hnd_ok Hok.out)).mono ?_
  rintro e w7 ⟨b, rfl, hM7, hb, hb7⟩
  have B7 := B6.trans (hb7.mono B6.size)
  go_wp2_with (first | (at_range; refine wpList_range_iter _ rfl _ 129 rfl _ _ mapType b (placesD r) rfl hM7 ?_; intro w8 hM8 hI8 hg8 hs8) | go_in)
  go_frame
  have hb8 : Below w7.heap.size w7 w8 := (Below.refl _ _).grown hg8 (Nat.le_refl _) fun j hj => by cases hj
  have hst : FillSt w r product b w7.heap.size B8 (.slice (some ⟨gw, 0, none⟩) r.webs.length m1) vs (.slice D2 r.ribs.length m2) (.slice D3 r.stacks.length m3) #[] r.webs w8 :=
    ⟨hI8, hM8, (ow6.below hb7).below hb8, ownsRow_below (ownsRow_below or6 hb7) hb8, (os6.below hb7).below hb8, B7.trans (hb8.mono B7.size), (O6.below hb7 O6.lt).below hb8 (Nat.lt_of_lt_of_le O6.lt hb7.size), (R6.below hb7 R6.lt).below hb8 (Nat.lt_of_lt_of_le R6.lt hb7.size)⟩
  have hrr : w.heap.size ≤ w7.heap.size := B7.size
  have hB8 : w.heap.size ≤ B8 := by rw [← eB8]; exact B5.size
  have HSt := Lib.hid hst
  clear hst hI8 hM8 hg8 hs8 hb8 hM7 hb7 hb B7 ow6 or6 os6 O6 R6 U6 v0 v1 v2 v3 B6 hb6 z6 E6 eB8 hg1
  generalize w7.heap.size = rr at *
  go_loopw [34] (fun _ wr => ∃ (seen : Array Nat) (ws : List WebD), FilledTo r product seen ws ∧ FillSt w r product b rr B8 (.slice (some ⟨gw, 0, none⟩) r.webs.length m1) vs (.slice D2 r.ribs.length m2) (.slice D3 r.stacks.length m3) seen ws wr) (fun _ wr => iterLeft (placesD r).length wr rr)
  case atStart => exact ⟨_, _, FilledTo.start r product, HSt.out⟩
  case round =>
    clear HSt
    obtain ⟨seen, ws, hft, hst⟩ := hrel
    have HFT := Lib.hid hft
    have HST := Lib.hid hst
    clear hft
    go_wp2_with (first | (at_next; refine wpList_next_spot _ rfl _ rfl b rr (placesD r) seen rfl hst.2.1 hst.1 ?_ ?_) | go_in)
    · intro hdone
      have HD := Lib.hid (HFT.out.done fun i hi => by simpa using hdone i hi)
      have O9 := hst.2.2.2.2.2.2.1
      have R9 := hst.2.2.2.2.2.2.2
      have d0 := cellOf R9 0 (x := .slice none 0 0) rfl
      have d1 := cellOf R9 1 (x := .slice none 0 0) rfl
      have d2 := cellOf R9 2 (x := .slice none 0 0) rfl
      have d3 := cellOf R9 3 (x := .bool false) rfl
      have f0 := R9.frozen 0
      have f1 := R9.frozen 1
      have f2 := R9.frozen 2
      have f3 := R9.frozen 3
      have v0 := cellOf O9 0 (x := .slice (some ⟨gw, 0, none⟩) r.webs.length m1) rfl
      have v1 := cellOf O9 1 (x := .slice D2 r.ribs.length m2) rfl
      have v2 := cellOf O9 2 (x := .slice D3 r.stacks.length m3) rfl
      have v3 := cellOf O9 3 (x := .bool r.coll) rfl
      have hfin := Lib.hid hst.final
      clear hdone hst O9 R9
      go_wp2
      refine bodyPost_ret (v := .tuple #[.agg #[.slice (some ⟨gw, 0, none⟩) r.webs.length m1, .slice D2 r.ribs.length m2, .slice D3 r.stacks.length m3, .bool r.coll], .int .i64 0]) (by simp [results, Try.results33, go_sem, d0, d1, d2, d3]) rfl ⟨_, by rw [HE.out], fun _ => ⟨_, HD.out, hfin.out.1⟩, fun h => absurd HE.out h, hfin.out.2⟩
    · intro i sw ss sr sc pc ps pi w9 hx hs hM9 hI9 hg9 hsz9 hen
      have hmem := List.mem_of_getElem? hx
      obtain ⟨m, xw, hso⟩ := spot_ok Hok.out (place_all hmem)
      obtain ⟨c, k, i2, sec, page, hpe, hsec, hpage, hpo⟩ := place_in Hok.out Hsz.out hmem
      obtain ⟨g, o, u, rfl, hgb, hc1, hp2⟩ := HAp.out k sec hsec
      obtain ⟨A6, c6, rfl, hA6, hA7⟩ := RInts.open_ hp2
      have hi2 := (List.getElem?_eq_some_iff.1 hpage).1
      obtain ⟨g2, o2, y, rfl, hgb2, hc2, hy⟩ := hA7 i2 hi2
      have hyp : y = page := by
        have h1 := hy.out
        rw [List.getD_eq_getElem?_getD, hpage] at h1
        simpa using h1.symm
      subst hyp
      simp only [PlaceD.mk.injEq] at hpe
      obtain ⟨rfl, rfl, rfl⟩ := hpe
      obtain rfl : sw = (m : Int) := hso.web
      have HX := Lib.hid hx
      have HSO := Lib.hid hso
      have HPO := Lib.hid hpo
      obtain ⟨⟨xc, xr, xp⟩, hx', hxc, hxr, hxp⟩ := HFT.out.1.2 m xw hso.there
      dsimp only at hxc hxr hxp
      obtain ⟨kk, hkk⟩ : ∃ kk, plateI xw ⟨m, ss, sr, sc⟩ = kk := ⟨_, rfl⟩
      have hidx := hso.idx
      rw [hkk, ← hxp] at hidx
      obtain ⟨hidx1, hidx2⟩ := hidx
      dsimp only at hidx2
      have hpl := plate_lt hso.side hso.rows hso.row hso.cols hso.col
      have hrw := hso.row
      have hrs := hso.rows
      dsimp only at hpl hrw
      rw [← hxc, ← hxr] at hidx2 hpl
      have k1 : (k : Int) < (product.length : Int) := by have := (List.getElem?_eq_some_iff.1 hsec).1; omega
      have k2 : (i2 : Int) < (sec.length : Int) := by omega
      have k3 : (m : Int) < (r.webs.length : Int) := by have := (List.getElem?_eq_some_iff.1 hso.there).1; omega
      have k4 : (kk : Int) < (xp.length : Int) := by omega
      have st9 := hst.next (i := i) hg9 hI9 hM9 hrr
      have F10 : ∃ W10, (w9.alloc (.cells #[.int .i64 m, .int .i64 ss, .int .i64 sr, .int .i64 sc] 53)).alloc (.cells #[.int .i64 c, .int .i64 k, .int .i64 i2] 56) = W10 ∧ W10.heap.size = w9.heap.size + 2 ∧ Below w9.heap.size w9 W10 ∧
          Blk W10 w9.heap.size 53 #[.int .i64 m, .int .i64 ss, .int .i64 sr, .int .i64 sc] ∧ Blk W10 (w9.heap.size + 1) 56 #[.int .i64 c, .int .i64 k, .int .i64 i2] := by
        refine ⟨_, rfl, by simp, ((Below.refl _ _).alloc (Nat.le_refl _) _).alloc (by simp) _, (Blk.new _ _ _).alloc _, ?_⟩
        have := Blk.new (w9.alloc (.cells #[.int .i64 m, .int .i64 ss, .int .i64 sr, .int .i64 sc] 53)) 56 #[.int .i64 c, .int .i64 k, .int .i64 i2]
        rw [World.size_alloc] at this
        exact this
      obtain ⟨W10, e10, z10, B10, S10, P10⟩ := F10
      have E10 := Lib.hid e10
      have st10 := st9.below B10
      have O10 := st10.2.2.2.2.2.2.1
      obtain ⟨u, hu, hop, j0, j1, j2⟩ := st10.2.2.1.at hx'
      dsimp only at j0 j1 j2 hop
      obtain ⟨A5, c5, rfl⟩ := ownsRow_form hop
      obtain ⟨g5, rfl, hg50, hg51⟩ := ownsRow_block hop (by omega)
      have hold : ∃ q, xp[kk]? = some q := ⟨_, List.getElem?_eq_getElem hidx1⟩
      obtain ⟨⟨opg, oup⟩, hold⟩ := hold
      obtain ⟨y0, y1⟩ := hop.at hold
      obtain ⟨csP, hcsP⟩ := hop.blk
      have w0 := cellOf O10 0 (x := .slice (some ⟨gw, 0, none⟩) r.webs.length m1) rfl
      have s0 := cellOf S10 0 (x := .int .i64 m) rfl
      have hst9z : rr < w9.heap.size := hI9.lt
      have hgs5 : g5 < w9.heap.size := by
        obtain ⟨csQ, hcsQ⟩ := (st9.2.2.1.2.2.1 m _ _ hu hx').blk
        exact hcsQ.lt
      have F11 : ∃ W11, W10.alloc (.cells #[.int .i64 xc, .int .i64 xr, .slice (some ⟨g5, 0, none⟩) xp.length c5] 87) = W11 ∧ W11.heap.size = W10.heap.size + 1 ∧ Below W10.heap.size W10 W11 ∧ Blk W11 W10.heap.size 87 #[.int .i64 xc, .int .i64 xr, .slice (some ⟨g5, 0, none⟩) xp.length c5] :=
        ⟨_, rfl, by simp, (Below.refl _ _).alloc (Nat.le_refl _) _, Blk.new _ _ _⟩
      obtain ⟨W11, e11, z11, B11, X11⟩ := F11
      have E11 := Lib.hid e11
      have S11 := S10.below B11 S10.lt
      have P11 := P10.below B11 P10.lt
      have st11 := st10.below B11
      have BW := st11.2.2.2.2.2.1
      have y0 := (B11.cell (p := ⟨g5, kk * 2, none⟩) hg51).trans y0
      have y1 := (B11.cell (p := ⟨g5, kk * 2 + 1, none⟩) hg51).trans y1
      have Q11 := hcsP.below B11 hcsP.lt
      dsimp only at y0 y1
      have bg : g < w.heap.size := hgb
      have bg2 : g2 < w.heap.size := hgb2
      have bw9 : w.heap.size ≤ w9.heap.size := st9.2.2.2.2.2.1.size
      have hd1 := (BW.cell (p := ⟨g, o + k, none⟩) hgb).trans hc1
      have hd2 := (BW.cell (p := ⟨g2, o2 + i2, none⟩) hgb2).trans hc2
      have hfacts : ∀ X, Below W11.heap.size W11 X → X.cell? ⟨W10.heap.size, 0, none⟩ = some (.int .i64 xc) ∧ X.cell? ⟨W10.heap.size, 1, none⟩ = some (.int .i64 xr) ∧ X.cell? ⟨W10.heap.size, 2, none⟩ = some (.slice (some ⟨g5, 0, none⟩) xp.length c5) ∧
          X.cell? ⟨w9.heap.size, 0, none⟩ = some (.int .i64 m) ∧ X.cell? ⟨w9.heap.size, 1, none⟩ = some (.int .i64 ss) ∧ X.cell? ⟨w9.heap.size, 2, none⟩ = some (.int .i64 sr) ∧ X.cell? ⟨w9.heap.size, 3, none⟩ = some (.int .i64 sc) ∧
          X.cell? ⟨w9.heap.size + 1, 1, none⟩ = some (.int .i64 k) ∧ X.cell? ⟨w9.heap.size + 1, 2, none⟩ = some (.int .i64 i2) ∧
          X.cell? ⟨g, o + k, none⟩ = some (.slice (some ⟨g2, o2, none⟩) sec.length c6) ∧ X.cell? ⟨g2, o2 + i2, none⟩ = some (.int .i64 y) := fun X hX => by
        have t1 := X11.below hX X11.lt
        have t2 := S11.below hX S11.lt
        have t3 := P11.below hX P11.lt
        exact ⟨cellOf t1 0 rfl, cellOf t1 1 rfl, cellOf t1 2 rfl, cellOf t2 0 rfl, cellOf t2 1 rfl, cellOf t2 2 rfl, cellOf t2 3 rfl, cellOf t3 1 rfl, cellOf t3 2 rfl, (hX.cell (p := ⟨g, o + k, none⟩) (by show g < W11.heap.size; omega)).trans hd1, (hX.cell (p := ⟨g2, o2 + i2, none⟩) (by show g2 < W11.heap.size; omega)).trans hd2⟩
      have HF := Lib.hid hfacts
      have hcall : ∀ X, Below W11.heap.size W11 X → Calls Try.prog 59 #[.agg #[.int .i64 xc, .int .i64 xr, .slice (some ⟨g5, 0, none⟩) xp.length c5], .agg #[.int .i64 m, .int .i64 ss, .int .i64 sr, .int .i64 sc]] X fun e w' => e = .returned (.int .i64 kk) ∧ Below W11.heap.size W11 w' :=
        fun X hX => (plateIndex_any xc xr m ss sr sc _ X ⟨by omega, by omega⟩ ⟨by omega, by omega⟩ ⟨by omega, by omega⟩ ⟨by omega, by omega⟩).mono fun e w' he => ⟨by rw [he.1, hidx2], hX.trans (he.2.mono hX.size)⟩
      have HC := Lib.hid hcall
      have hnew : ∀ X, Below W11.heap.size W11 X → X.cell? ⟨g5, kk * 2, none⟩ = some (.int .i64 opg) ∧ X.cell? ⟨g5, kk * 2 + 1, none⟩ = some (.bool oup) ∧ X.frozen? ⟨g5, kk * 2, none⟩ = false ∧ X.frozen? ⟨g5, kk * 2 + 1, none⟩ = false := fun X hX => by
        have t := Q11.below hX Q11.lt
        exact ⟨(hX.cell (p := ⟨g5, kk * 2, none⟩) (by show g5 < W11.heap.size; omega)).trans y0, (hX.cell (p := ⟨g5, kk * 2 + 1, none⟩) (by show g5 < W11.heap.size; omega)).trans y1, t.frozen _, t.frozen _⟩
      have HN := Lib.hid hnew
      have hput : ∀ X, Below W11.heap.size W11 X → ∃ ws2, FilledTo r product (seen.push i) ws2 ∧ FillSt w r product b rr B8 (.slice (some ⟨gw, 0, none⟩) r.webs.length m1) vs (.slice D2 r.ribs.length m2) (.slice D3 r.stacks.length m3) (seen.push i) ws2 ((X.setCell ⟨g5, kk * 2, none⟩ (.int .i64 y)).setCell ⟨g5, kk * 2 + 1, none⟩ (.bool false)) := fun X hX => by
        refine ⟨_, HFT.out.step Hok.out HX.out HSO.out, ?_⟩
        rw [HPO.out, hkk]
        exact (st11.below hX).put hu hx' hidx1 y false
      have HP := Lib.hid hput
      obtain ⟨t0, t1, t2, t3, t4, t5, t6, t7, t8, t9, t10⟩ := HF.out W11 (Below.refl _ _)
      have x1 : g5 ≠ W10.heap.size := by omega
      have x2 : g5 ≠ w9.heap.size := by omega
      have x3 : g5 ≠ w9.heap.size + 1 := by omega
      have x4 : g5 ≠ g := by omega
      have x5 : g5 ≠ g2 := by omega
      have HI9 := Lib.hid hI9
      have x6 : g5 < W11.heap.size := by omega
      clear z10 z11 hx hso hpo hmem hc1 hc2 hp2 hA7 hA6 hcall hg9 hy hsec hpage hi2 HAp e10 e11 st9 st10 st11 hst hM9 hsz9 hu hx' hxc hxr hxp hidx1 hidx2 hpl hrw hrs hkk hop hold hcsP hnew hput hfacts hd1 hd2 S10 P10 S11 P11 O10 X11 Q11 BW y0 y1 hI9
      go_upto_region 13 with fail
      rw [E10.out]
      go_upto_region 14 with fail
      rw [E11.out]
      clear w0 s0 j0 j1 j2
      go_region_held3 (fun X => X.cell? ⟨W10.heap.size, 0, none⟩ = some (.int .i64 xc) ∧ X.cell? ⟨W10.heap.size, 1, none⟩ = some (.int .i64 xr) ∧ X.cell? ⟨W10.heap.size, 2, none⟩ = some (.slice (some ⟨g5, 0, none⟩) xp.length c5) ∧
          X.cell? ⟨w9.heap.size, 0, none⟩ = some (.int .i64 m) ∧ X.cell? ⟨w9.heap.size, 1, none⟩ = some (.int .i64 ss) ∧ X.cell? ⟨w9.heap.size, 2, none⟩ = some (.int .i64 sr) ∧ X.cell? ⟨w9.heap.size, 3, none⟩ = some (.int .i64 sc) ∧
          X.cell? ⟨w9.heap.size + 1, 1, none⟩ = some (.int .i64 k) ∧ X.cell? ⟨w9.heap.size + 1, 2, none⟩ = some (.int .i64 i2) ∧
          X.cell? ⟨g, o + k, none⟩ = some (.slice (some ⟨g2, o2, none⟩) sec.length c6) ∧ X.cell? ⟨g2, o2 + i2, none⟩ = some (.int .i64 y))
        (first | exact HF.out _ (by assumption) | exact HF.out _ (Below.refl _ _) | exact HF.out _ (Below.refl _ _).drew | go_keep)
        (first | (go_at_call 59; refine (HC.out _ ?_).mono ?_; (first | assumption | exact Below.refl _ _ | exact (Below.refl _ _).drew); rintro e w12 ⟨rfl, h12⟩; have r5 := (HN.out _ h12).1; have s5 := (HN.out _ h12).2.1; have t5 := (HN.out _ h12).2.2.1; have u5 := (HN.out _ h12).2.2.2))
      obtain ⟨ws2, hf2, hs2⟩ := HP.out w12 (by assumption)
      have hlt : iterLeft (placesD r).length ((w12.setCell ⟨g5, kk * 2, none⟩ (.int .i64 y)).setCell ⟨g5, kk * 2 + 1, none⟩ (.bool false)) rr < iterLeft (placesD r).length wr rr :=
        iterLeft_lt HST.out.1 hs2.1 (List.getElem?_eq_some_iff.1 HX.out).1 (by simpa using hs)
      clear r5 s5 t5 u5 t0 t1 t2 t3 t4 t6 t7 t8 t9 t10
      go_wp2
      go_roundw
      case rel => exact ⟨_, _, hf2, hs2⟩
      case measure => exact hlt
end Go.Proofs.Ytdbfhdncjblleaa
