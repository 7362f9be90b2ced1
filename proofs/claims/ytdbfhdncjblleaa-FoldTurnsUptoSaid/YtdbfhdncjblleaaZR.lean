/-
  plate: the plate on a spot.
-/
import Derived.Test.YtdbfhdncjblleaaT
import Derived.Test.YtdbfhdncjblleaaZQ
import Derived.Deep.RegionHeld3
namespace Go.Proofs.Ytdbfhdncjblleaa
open Go.RowKit

def PlateD.val (p : PlateD) : Value := .agg #[.int .i64 p.page, .bool p.up]

set_option maxRecDepth 100000 in
set_option maxHeartbeats 2000000 in
theorem plate_any (v : Value) (r : RunD) (web m : Nat) (side row col : Int) (x : WebD) (k : Nat) (p : PlateD) (w : World) (h : RRun w.heap.size w v r) (hw : web = m) (hx : r.webs[m]? = some x) (hp : x.plates[k]? = some p)
    (hk : (side * x.rows + row) * x.cols + col = (k : Int)) (h1 : 0 ≤ side * x.rows ∧ side * x.rows ≤ 1000) (h2 : 0 ≤ side * x.rows + row ∧ side * x.rows + row ≤ 1000)
    (h3 : 0 ≤ (side * x.rows + row) * x.cols ∧ (side * x.rows + row) * x.cols ≤ 1000) (h4 : k ≤ 1000) :
    Calls Try.prog 56 #[v, .agg #[.int .i64 web, .int .i64 side, .int .i64 row, .int .i64 col]] w fun e w' => e = .returned p.val ∧ Below w.heap.size w w' := by
  subst hw
  obtain ⟨pg, up⟩ := p
  obtain ⟨xc, xr, xp⟩ := x
  dsimp only at hp hk h1 h2 h3
  obtain ⟨v1, v2, v3, rfl, hW, hR, hS⟩ := h
  obtain ⟨A1, c1, rfl, hA1, hA⟩ := hW.open_
  obtain ⟨A2, c2, rfl, -⟩ := RRibs.open_ hR
  obtain ⟨A3, c3, rfl, -⟩ := RAll.open_ hS
  obtain ⟨g, o, u, rfl, hgb, hc1, hc2, hc3, hP⟩ := hA web _ hx
  obtain ⟨A5, c5, rfl, hA5, hPl⟩ := hP.open_
  obtain ⟨g5, o5, rfl, hgb5, hd1, hd2⟩ := hPl k _ hp
  have hi1 : (web : Int) < (r.webs.length : Int) := by have := (List.getElem?_eq_some_iff.1 hx).1; omega
  have hi2 : (k : Int) < (xp.length : Int) := by have := (List.getElem?_eq_some_iff.1 hp).1; omega
  dsimp only at hc1 hc2 hc3
  have F0 : ∃ W0, (((w.alloc (.cells #[.slice (some ⟨g, o, none⟩) r.webs.length c1, .slice A2 r.ribs.length c2, .slice A3 r.stacks.length c3, .bool r.coll] 111)).alloc (.cells #[.int .i64 web, .int .i64 side, .int .i64 row, .int .i64 col] 53)).alloc (.cells #[.int .i64 0, .bool false] 89)) = W0 ∧
      W0.heap.size = w.heap.size + 3 ∧ Below w.heap.size w W0 ∧ Blk W0 w.heap.size 111 #[.slice (some ⟨g, o, none⟩) r.webs.length c1, .slice A2 r.ribs.length c2, .slice A3 r.stacks.length c3, .bool r.coll] ∧
      Blk W0 (w.heap.size + 1) 53 #[.int .i64 web, .int .i64 side, .int .i64 row, .int .i64 col] ∧ Blk W0 (w.heap.size + 1 + 1) 89 #[.int .i64 0, .bool false] := by
    refine ⟨_, rfl, by simp, ((((Below.refl _ _).alloc (Nat.le_refl _) _).alloc (by simp) _).alloc (by simp; omega) _), ((Blk.new w _ _).alloc _).alloc _, ?_, ?_⟩
    · have := Blk.new (w.alloc (.cells #[.slice (some ⟨g, o, none⟩) r.webs.length c1, .slice A2 r.ribs.length c2, .slice A3 r.stacks.length c3, .bool r.coll] 111)) 53 #[.int .i64 web, .int .i64 side, .int .i64 row, .int .i64 col]
      rw [World.size_alloc] at this
      exact this.alloc _
    · have := Blk.new ((w.alloc (.cells #[.slice (some ⟨g, o, none⟩) r.webs.length c1, .slice A2 r.ribs.length c2, .slice A3 r.stacks.length c3, .bool r.coll] 111)).alloc (.cells #[.int .i64 web, .int .i64 side, .int .i64 row, .int .i64 col] 53)) 89 #[.int .i64 0, .bool false]
      rw [World.size_alloc, World.size_alloc] at this
      exact this
  obtain ⟨W0, e0, z0, B0, V0, P0, R0⟩ := F0
  have E0 := Lib.hid e0
  have Z0 := Lib.hid z0
  have hc1 := (B0.cell (p := ⟨g, o + web * 3, none⟩) hgb).trans hc1
  have hc2 := (B0.cell (p := ⟨g, o + web * 3 + 1, none⟩) hgb).trans hc2
  have hc3 := (B0.cell (p := ⟨g, o + web * 3 + 2, none⟩) hgb).trans hc3
  have v0 := cellOf V0 0 (x := .slice (some ⟨g, o, none⟩) r.webs.length c1) rfl
  have p0 := cellOf P0 0 (x := .int .i64 web) rfl
  clear e0 z0 hA hPl hW hR hS hA1 hA5 hx hp hP V0
  go_enter Try.func56, Try.ntmps56
  go_upto_region 1 with fail
  rw [E0.out]
  go_upto_region 2 with fail
  have F1 : ∃ W1, W0.alloc (.cells #[.int .i64 xc, .int .i64 xr, .slice (some ⟨g5, o5, none⟩) xp.length c5] 87) = W1 ∧ W1.heap.size = W0.heap.size + 1 ∧ Below W0.heap.size W0 W1 ∧ Blk W1 W0.heap.size 87 #[.int .i64 xc, .int .i64 xr, .slice (some ⟨g5, o5, none⟩) xp.length c5] :=
    ⟨_, rfl, by simp, (Below.refl _ _).alloc (Nat.le_refl _) _, Blk.new _ _ _⟩
  obtain ⟨W1, e1, z1, B1, U1⟩ := F1
  have n1 : w.heap.size + 1 < W0.heap.size := by rw [Z0.out]; omega
  have n2 : w.heap.size + 1 + 1 < W0.heap.size := by rw [Z0.out]; omega
  have P1 := P0.below B1 n1
  have R1 := R0.below B1 n2
  have B01 : Below w.heap.size w W1 := B0.trans (B1.mono B0.size)
  have hd1 := (B01.cell (p := ⟨g5, o5 + k * 2, none⟩) hgb5).trans hd1
  have hd2 := (B01.cell (p := ⟨g5, o5 + k * 2 + 1, none⟩) hgb5).trans hd2
  dsimp only at hd1 hd2
  have ng : g5 < W1.heap.size := by have := B01.size; omega
  have ne : W0.heap.size < W1.heap.size := by omega
  have hfacts : ∀ X, Below W1.heap.size W1 X → X.cell? ⟨W0.heap.size, 0, none⟩ = some (.int .i64 xc) ∧ X.cell? ⟨W0.heap.size, 1, none⟩ = some (.int .i64 xr) ∧ X.cell? ⟨W0.heap.size, 2, none⟩ = some (.slice (some ⟨g5, o5, none⟩) xp.length c5) ∧
      X.cell? ⟨w.heap.size + 1, 0, none⟩ = some (.int .i64 web) ∧ X.cell? ⟨w.heap.size + 1, 1, none⟩ = some (.int .i64 side) ∧ X.cell? ⟨w.heap.size + 1, 2, none⟩ = some (.int .i64 row) ∧ X.cell? ⟨w.heap.size + 1, 3, none⟩ = some (.int .i64 col) ∧
      X.cell? ⟨g5, o5 + k * 2, none⟩ = some (.int .i64 pg) ∧ X.cell? ⟨g5, o5 + k * 2 + 1, none⟩ = some (.bool up) := fun X hX => by
    have k1 := U1.below hX ne
    have k2 := P1.below hX (by omega)
    exact ⟨cellOf k1 0 rfl, cellOf k1 1 rfl, cellOf k1 2 rfl, cellOf k2 0 rfl, cellOf k2 1 rfl, cellOf k2 2 rfl, cellOf k2 3 rfl, (hX.cell (p := ⟨g5, o5 + k * 2, none⟩) ng).trans hd1, (hX.cell (p := ⟨g5, o5 + k * 2 + 1, none⟩) ng).trans hd2⟩
  have HF := Lib.hid hfacts
  have hcall : ∀ X, Below W1.heap.size W1 X → Calls Try.prog 59 #[.agg #[.int .i64 xc, .int .i64 xr, .slice (some ⟨g5, o5, none⟩) xp.length c5], .agg #[.int .i64 web, .int .i64 side, .int .i64 row, .int .i64 col]] X fun e w' => e = .returned (.int .i64 k) ∧ Below W1.heap.size W1 w' :=
    fun X hX => (plateIndex_any xc xr web side row col _ X h1 h2 h3 (by omega)).mono fun e w' he => ⟨by rw [he.1, hk], hX.trans (he.2.mono hX.size)⟩
  have HC := Lib.hid hcall
  have hr : ∀ X, Below W1.heap.size W1 X → Blk X (w.heap.size + 1 + 1) 89 #[.int .i64 0, .bool false] := fun X hX => R1.below hX (by omega)
  have HR := Lib.hid hr
  obtain ⟨d0, d1, d2, q0, q1, q2, q3, m0, m1⟩ := HF.out W1 (Below.refl _ _)
  have r0 := cellOf R1 0 (x := .int .i64 0) rfl
  have r1 := cellOf R1 1 (x := .bool false) rfl
  have f0 := R1.frozen 0
  have f1 := R1.frozen 1
  rw [e1]
  have x1 : w.heap.size + 1 + 1 ≠ W0.heap.size := by omega
  have x2 : W0.heap.size ≠ w.heap.size + 1 + 1 := by omega
  have x3 : w.heap.size + 1 + 1 ≠ g5 := by omega
  have x4 : g5 ≠ w.heap.size + 1 + 1 := by omega
  clear hfacts hcall hr hd1 hd2 P0 R0 U1 P1 R1 e1 hc1 hc2 hc3 v0 p0 E0 h1 h2 h3 hk hi1 hgb hgb5
  go_region_held3 (fun X => X.cell? ⟨W0.heap.size, 0, none⟩ = some (.int .i64 xc) ∧ X.cell? ⟨W0.heap.size, 1, none⟩ = some (.int .i64 xr) ∧ X.cell? ⟨W0.heap.size, 2, none⟩ = some (.slice (some ⟨g5, o5, none⟩) xp.length c5) ∧
      X.cell? ⟨w.heap.size + 1, 0, none⟩ = some (.int .i64 web) ∧ X.cell? ⟨w.heap.size + 1, 1, none⟩ = some (.int .i64 side) ∧ X.cell? ⟨w.heap.size + 1, 2, none⟩ = some (.int .i64 row) ∧ X.cell? ⟨w.heap.size + 1, 3, none⟩ = some (.int .i64 col) ∧
      X.cell? ⟨g5, o5 + k * 2, none⟩ = some (.int .i64 pg) ∧ X.cell? ⟨g5, o5 + k * 2 + 1, none⟩ = some (.bool up))
    (first | exact HF.out _ (by assumption) | exact HF.out _ (Below.refl _ _) | exact HF.out _ (Below.refl _ _).drew | go_keep)
    (first | (go_at_call 59; refine (HC.out _ ?_).mono ?_; (first | assumption | exact Below.refl _ _ | exact (Below.refl _ _).drew); rintro e w5 ⟨rfl, h5⟩; have r5 := cellOf (HR.out _ h5) 0 (x := .int .i64 0) rfl; have s5 := cellOf (HR.out _ h5) 1 (x := .bool false) rfl; have t5 := (HR.out _ h5).frozen 0; have u5 := (HR.out _ h5).frozen 1))
  have hfin : Below w.heap.size w ((w5.setCell ⟨w.heap.size + 1 + 1, 0, none⟩ (.int .i64 pg)).setCell ⟨w.heap.size + 1 + 1, 1, none⟩ (.bool up)) :=
    ((B01.trans (Below.mono (by assumption) B01.size)).setCell (p := ⟨w.heap.size + 1 + 1, 0, none⟩) (by show w.heap.size ≤ w.heap.size + 1 + 1; omega) _).setCell (p := ⟨w.heap.size + 1 + 1, 1, none⟩) (by show w.heap.size ≤ w.heap.size + 1 + 1; omega) _
  go_wp2
  refine bodyPost_ret (v := .agg #[.int .i64 pg, .bool up]) (by simp [results, Try.results56, go_sem, r5, s5]) rfl ⟨rfl, hfin⟩
end Go.Proofs.Ytdbfhdncjblleaa
