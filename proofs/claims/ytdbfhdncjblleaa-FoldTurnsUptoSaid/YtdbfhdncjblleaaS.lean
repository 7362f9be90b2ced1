/-
  Where.
-/
import Derived.Test.YtdbfhdncjblleaaR
namespace Go.Proofs.Ytdbfhdncjblleaa
open Go.RowKit

/-- The run's value: three slices and a bool. -/
theorem RRun.shape {B : Nat} {w : World} {v : Value} {r : RunD} (h : RRun B w v r) : ∃ A1 c1 A2 c2 A3 c3, v = .agg #[.slice A1 r.webs.length c1, .slice A2 r.ribs.length c2, .slice A3 r.stacks.length c3, .bool r.coll] := by
  obtain ⟨v1, v2, v3, rfl, ⟨vs, ⟨A1, c1, rfl, -⟩, -⟩, ⟨A2, c2, rfl, -⟩, vs3, ⟨A3, c3, rfl, -⟩, -⟩ := h
  exact ⟨_, _, _, _, _, _, rfl⟩

def getI {α : Type} (l : List α) (i : Int) : Option α := if 0 ≤ i then l[i.toNat]? else none
theorem getI_nat {α : Type} (l : List α) (k : Nat) : getI l (k : Int) = l[k]? := by unfold getI; rw [if_pos (by omega), Int.toNat_natCast]
theorem getI_neg {α : Type} {l : List α} {i : Int} (h : ¬ 0 ≤ i) : getI l i = none := by unfold getI; rw [if_neg h]
theorem getI_big {α : Type} {l : List α} {i : Int} (h : (l.length : Int) ≤ i) : getI l i = none := by unfold getI; rw [if_pos (by omega)]; exact List.getElem?_eq_none (by omega)
def whereO (r : RunD) (p : PlaceD) : Option SpotD := (getI (layoutD r) p.copy).bind fun S => (getI S p.sec).bind fun l => getI l p.idx
def spot0 : SpotD := ⟨0, 0, 0, 0⟩
def whereD (r : RunD) (p : PlaceD) : SpotD × Int := if checkE r ≠ 0 then (spot0, checkE r) else match whereO r p with
  | none => (spot0, 6)
  | some s => (s, 0)
theorem where_bad {r : RunD} {p : PlaceD} (h : checkE r ≠ 0) : whereD r p = (spot0, checkE r) := by unfold whereD; rw [if_pos h]
theorem where_no {r : RunD} {p : PlaceD} (h : checkE r = 0) (hn : whereO r p = none) : whereD r p = (spot0, 6) := by unfold whereD; rw [if_neg (by rw [h]; simp), hn]
theorem where_yes {r : RunD} {p : PlaceD} {s : SpotD} (h : checkE r = 0) (hn : whereO r p = some s) : whereD r p = (s, 0) := by unfold whereD; rw [if_neg (by rw [h]; simp), hn]

/-- Two results: a struct of four numbers, and an error. -/
def spotRet (x : SpotD × Int) : Value := .tuple #[x.1.val, .int .i64 x.2]

/-- A block of cells, known whole. -/
def Blk (W : World) (b : Nat) (t : TypeId) (cs : Array Value) : Prop := W.heap[b]? = some (.cells cs t (0, 0))
theorem Blk.lt {W : World} {b : Nat} {t : TypeId} {cs : Array Value} (h : Blk W b t cs) : b < W.heap.size := (Array.getElem?_eq_some_iff.1 h).1
theorem Blk.cell {W : World} {b : Nat} {t : TypeId} {cs : Array Value} (h : Blk W b t cs) (j : Nat) : W.cell? ⟨b, j, none⟩ = cs[j]? := cell_of_row W b j _ t (0, 0) h
theorem Blk.frozen {W : World} {b : Nat} {t : TypeId} {cs : Array Value} (h : Blk W b t cs) (j : Nat) : W.frozen? ⟨b, j, none⟩ = false := by
  unfold Blk at h
  simp [World.frozen?, h]
theorem Blk.below {W W' : World} {b B : Nat} {t : TypeId} {cs : Array Value} (h : Blk W b t cs) (hb : Below B W W') (hl : b < B) : Blk W' b t cs := (hb.block b hl).trans h
theorem Blk.new (W : World) (t : TypeId) (cs : Array Value) : Blk (W.alloc (.cells cs t)) W.heap.size t cs := heap_alloc_new W _
theorem Blk.alloc {W : World} {b : Nat} {t : TypeId} {cs : Array Value} (h : Blk W b t cs) (o : Obj) : Blk (W.alloc o) b t cs := (Below.heap_alloc W o b h.lt).trans h
theorem Blk.far {W : World} {b : Nat} {t : TypeId} {cs : Array Value} (h : Blk W b t cs) {p : Addr} (hp : b ≠ p.block) (u : Value) : Blk (W.setCell p u) b t cs := (Below.heap_setCell W p u b hp).trans h
theorem Blk.put {W : World} {b : Nat} {t : TypeId} {cs : Array Value} (h : Blk W b t cs) (i : Nat) (u : Value) : Blk (W.setCell ⟨b, i, none⟩ u) b t (cs.setIfInBounds i u) := by
  unfold Blk at h ⊢
  simp [World.setCell, Array.getElem?_modify, h]
theorem below_set4 {B b : Nat} {W W' : World} (h : Below B W W') (hb : B ≤ b) (x0 x1 x2 x3 : Value) : Below B W ((((W'.setCell ⟨b, 0, none⟩ x0).setCell ⟨b, 1, none⟩ x1).setCell ⟨b, 2, none⟩ x2).setCell ⟨b, 3, none⟩ x3) :=
  (((h.setCell (p := ⟨b, 0, none⟩) hb _).setCell (p := ⟨b, 1, none⟩) hb _).setCell (p := ⟨b, 2, none⟩) hb _).setCell (p := ⟨b, 3, none⟩) hb _

set_option maxRecDepth 100000 in
set_option maxHeartbeats 2000000 in
theorem where_any (v : Value) (r : RunD) (p : PlaceD) (w : World) (h : RRun w.heap.size w v r) :
    Calls Try.prog 21 #[v, .agg #[.int .i64 p.copy, .int .i64 p.sec, .int .i64 p.idx]] w fun e w' => e = .returned (spotRet (whereD r p)) ∧ Below w.heap.size w w' := by
  have hrun := Lib.hid h
  obtain ⟨A1, c1, A2, c2, A3, c3, rfl⟩ := h.shape
  clear h
  obtain ⟨copy, sec, idx⟩ := p
  have F0 : ∃ W0, (((w.alloc (.cells #[.slice A1 r.webs.length c1, .slice A2 r.ribs.length c2, .slice A3 r.stacks.length c3, .bool r.coll] 36)).alloc (.cells #[.int .i64 copy, .int .i64 sec, .int .i64 idx] 56)).alloc (.cells #[.int .i64 0, .int .i64 0, .int .i64 0, .int .i64 0] 53)).alloc (.cells #[.slice A1 r.webs.length c1, .slice A2 r.ribs.length c2, .slice A3 r.stacks.length c3, .bool r.coll] 111) = W0 ∧
      W0.heap.size = w.heap.size + 4 ∧ Below w.heap.size w W0 ∧ Blk W0 (w.heap.size + 1) 56 #[.int .i64 copy, .int .i64 sec, .int .i64 idx] ∧ Blk W0 (w.heap.size + 1 + 1) 53 #[.int .i64 0, .int .i64 0, .int .i64 0, .int .i64 0] ∧
      Blk W0 (w.heap.size + 1 + 1 + 1) 111 #[.slice A1 r.webs.length c1, .slice A2 r.ribs.length c2, .slice A3 r.stacks.length c3, .bool r.coll] := by
    refine ⟨_, rfl, by simp, ((((Below.refl _ _).alloc (Nat.le_refl _) _).alloc (by simp) _).alloc (by simp; omega) _).alloc (by simp; omega) _, ?_, ?_, ?_⟩
    · have := Blk.new (w.alloc (.cells #[.slice A1 r.webs.length c1, .slice A2 r.ribs.length c2, .slice A3 r.stacks.length c3, .bool r.coll] 36)) 56 #[.int .i64 copy, .int .i64 sec, .int .i64 idx]
      rw [World.size_alloc] at this
      exact (this.alloc _).alloc _
    · have := Blk.new ((w.alloc (.cells #[.slice A1 r.webs.length c1, .slice A2 r.ribs.length c2, .slice A3 r.stacks.length c3, .bool r.coll] 36)).alloc (.cells #[.int .i64 copy, .int .i64 sec, .int .i64 idx] 56)) 53 #[.int .i64 0, .int .i64 0, .int .i64 0, .int .i64 0]
      rw [World.size_alloc, World.size_alloc] at this
      exact this.alloc _
    · have := Blk.new (((w.alloc (.cells #[.slice A1 r.webs.length c1, .slice A2 r.ribs.length c2, .slice A3 r.stacks.length c3, .bool r.coll] 36)).alloc (.cells #[.int .i64 copy, .int .i64 sec, .int .i64 idx] 56)).alloc (.cells #[.int .i64 0, .int .i64 0, .int .i64 0, .int .i64 0] 53)) 111 #[.slice A1 r.webs.length c1, .slice A2 r.ribs.length c2, .slice A3 r.stacks.length c3, .bool r.coll]
      rw [World.size_alloc, World.size_alloc, World.size_alloc] at this
      exact this
  obtain ⟨W0, e0, z0, B0, P0, R0, V0⟩ := F0
  have E0 := Lib.hid e0
  have Z0 := Lib.hid z0
  clear e0 z0
  go_enter Try.func21, Try.ntmps21
  go_wp2_with fail
  rw [E0.out]
  refine (check_any _ r _ ((hrun.out.below B0).more B0.size)).mono ?_
  rintro e w3 ⟨rfl, hb3⟩
  have zl : ∀ k, k < 4 → w.heap.size + k < W0.heap.size := fun k hk => by rw [Z0.out]; omega
  have P3 := P0.below hb3 (zl 1 (by omega))
  have R3 := R0.below hb3 (zl 2 (by omega))
  have V3 := V0.below hb3 (zl 3 (by omega))
  have B3 : Below w.heap.size w w3 := B0.trans (hb3.mono B0.size)
  have s3 : W0.heap.size ≤ w3.heap.size := hb3.size
  clear P0 R0 V0 B0 E0 hb3
  generalize eb2 : w.heap.size + 1 + 1 = b2 at *
  have hb2 : w.heap.size ≤ b2 := by omega
  have Eb2 := Lib.hid eb2
  clear eb2
  by_cases hck : checkE r = 0
  case neg =>
    have Hn := Lib.hid (where_bad (p := ⟨copy, sec, idx⟩) hck)
    have hck' : (checkE r != 0) = true := by simpa using hck
    have r0 : w3.cell? ⟨b2, 0, none⟩ = some (.int .i64 0) := R3.cell 0
    have r1 : w3.cell? ⟨b2, 1, none⟩ = some (.int .i64 0) := R3.cell 1
    have r2 : w3.cell? ⟨b2, 2, none⟩ = some (.int .i64 0) := R3.cell 2
    have r3 : w3.cell? ⟨b2, 3, none⟩ = some (.int .i64 0) := R3.cell 3
    have f0 := R3.frozen 0
    have f1 := R3.frozen 1
    have f2 := R3.frozen 2
    have f3 := R3.frozen 3
    clear hck P3 R3 V3
    generalize checkE r = ck at *
    go_wp2
    refine bodyPost_ret (v := .tuple #[.agg #[.int .i64 0, .int .i64 0, .int .i64 0, .int .i64 0], .int .i64 ck]) (by simp [results, Try.results21, go_sem, r0, r1, r2, r3]) rfl ⟨?_, below_set4 B3 hb2 _ _ _ _⟩
    rw [Hn.out]; rfl
  have v0 : w3.cell? ⟨b2 + 1, 0, none⟩ = some (.slice A1 r.webs.length c1) := V3.cell 0
  have v1 : w3.cell? ⟨b2 + 1, 1, none⟩ = some (.slice A2 r.ribs.length c2) := V3.cell 1
  have v2 : w3.cell? ⟨b2 + 1, 2, none⟩ = some (.slice A3 r.stacks.length c3) := V3.cell 2
  have v3 : w3.cell? ⟨b2 + 1, 3, none⟩ = some (.bool r.coll) := V3.cell 3
  have Hok := Lib.hid hck
  rw [hck]
  clear hck
  go_wp2_with fail
  refine (layout_any _ r _ ((hrun.out.below B3).more B3.size) Hok.out).mono ?_
  rintro e w4 ⟨u, rfl, hu, hb4⟩
  have zl3 : ∀ k, k < 4 → w.heap.size + k < w3.heap.size := fun k hk => by have := zl k hk; omega
  have P4 := P3.below hb4 (zl3 1 (by omega))
  have R4 := R3.below hb4 (by have := zl3 2 (by omega); have := Eb2.out; omega)
  have B4 : Below w.heap.size w w4 := B3.trans (hb4.mono B3.size)
  clear v0 v1 v2 v3 P3 R3 V3 B3 hb4 zl zl3
  obtain ⟨A, c, rfl, hA1, hA⟩ := RAll.open_ hu.reads
  clear hu
  have HA := Lib.hid hA
  clear hA
  have p0 : w4.cell? ⟨w.heap.size + 1, 0, none⟩ = some (.int .i64 copy) := P4.cell 0
  have p1 : w4.cell? ⟨w.heap.size + 1, 1, none⟩ = some (.int .i64 sec) := P4.cell 1
  have p2 : w4.cell? ⟨w.heap.size + 1, 2, none⟩ = some (.int .i64 idx) := P4.cell 2
  have r0 : w4.cell? ⟨b2, 0, none⟩ = some (.int .i64 0) := R4.cell 0
  have r1 : w4.cell? ⟨b2, 1, none⟩ = some (.int .i64 0) := R4.cell 1
  have r2 : w4.cell? ⟨b2, 2, none⟩ = some (.int .i64 0) := R4.cell 2
  have r3 : w4.cell? ⟨b2, 3, none⟩ = some (.int .i64 0) := R4.cell 3
  have f0 := R4.frozen 0
  have f1 := R4.frozen 1
  have f2 := R4.frozen 2
  have f3 := R4.frozen 3
  clear P4 R4 Eb2
  by_cases h1 : 0 ≤ copy
  case neg =>
    have Hn := Lib.hid (where_no (p := ⟨copy, sec, idx⟩) Hok.out (by unfold whereO; rw [getI_neg h1]; rfl))
    go_wp2
    refine bodyPost_ret (v := .tuple #[.agg #[.int .i64 0, .int .i64 0, .int .i64 0, .int .i64 0], .int .i64 6]) (by simp [results, Try.results21, go_sem, r0, r1, r2, r3]) rfl ⟨?_, below_set4 B4 hb2 _ _ _ _⟩
    rw [Hn.out]; rfl
  by_cases h2 : copy < (layoutD r).length
  case neg =>
    have Hn := Lib.hid (where_no (p := ⟨copy, sec, idx⟩) Hok.out (by unfold whereO; rw [getI_big (by simp only; omega)]; rfl))
    go_wp2
    refine bodyPost_ret (v := .tuple #[.agg #[.int .i64 0, .int .i64 0, .int .i64 0, .int .i64 0], .int .i64 6]) (by simp [results, Try.results21, go_sem, r0, r1, r2, r3]) rfl ⟨?_, below_set4 B4 hb2 _ _ _ _⟩
    rw [Hn.out]; rfl
  obtain ⟨cn, rfl⟩ := Int.eq_ofNat_of_zero_le h1
  obtain ⟨S, hS⟩ : ∃ S, (layoutD r)[cn]? = some S := ⟨_, List.getElem?_eq_getElem (by omega)⟩
  obtain ⟨g, o, u2, rfl, hb, hc1, hp⟩ := HA.out cn S hS
  obtain ⟨A5, c5, rfl, hA5, hA6⟩ := RAll.open_ hp
  have HA6 := Lib.hid hA6
  have HS : Hid (getI (layoutD r) (cn : Int) = some S) := by
    show getI (layoutD r) (cn : Int) = some S
    rw [getI_nat]; exact hS
  clear hA6 hp hS
  by_cases h3 : 0 ≤ sec
  case neg =>
    have Hn := Lib.hid (where_no (p := ⟨cn, sec, idx⟩) Hok.out (by unfold whereO; rw [HS.out]; show (getI S sec).bind _ = none; rw [getI_neg h3]; rfl))
    go_wp2
    refine bodyPost_ret (v := .tuple #[.agg #[.int .i64 0, .int .i64 0, .int .i64 0, .int .i64 0], .int .i64 6]) (by simp [results, Try.results21, go_sem, r0, r1, r2, r3]) rfl ⟨?_, below_set4 B4 hb2 _ _ _ _⟩
    rw [Hn.out]; rfl
  by_cases h4 : sec < S.length
  case neg =>
    have Hn := Lib.hid (where_no (p := ⟨cn, sec, idx⟩) Hok.out (by unfold whereO; rw [HS.out]; show (getI S sec).bind _ = none; rw [getI_big (by omega)]; rfl))
    go_wp2
    refine bodyPost_ret (v := .tuple #[.agg #[.int .i64 0, .int .i64 0, .int .i64 0, .int .i64 0], .int .i64 6]) (by simp [results, Try.results21, go_sem, r0, r1, r2, r3]) rfl ⟨?_, below_set4 B4 hb2 _ _ _ _⟩
    rw [Hn.out]; rfl
  obtain ⟨sn, rfl⟩ := Int.eq_ofNat_of_zero_le h3
  obtain ⟨l, hl⟩ : ∃ l, S[sn]? = some l := ⟨_, List.getElem?_eq_getElem (by omega)⟩
  obtain ⟨g2, o2, u3, rfl, hb2', hc2, hp⟩ := HA6.out sn l hl
  obtain ⟨A7, c7, rfl, hA7, hA8⟩ := RSpots.open_ hp
  have HA8 := Lib.hid hA8
  have HL : Hid (getI S (sn : Int) = some l) := by
    show getI S (sn : Int) = some l
    rw [getI_nat]; exact hl
  clear hA8 hp hl
  by_cases h5 : 0 ≤ idx
  case neg =>
    have Hn := Lib.hid (where_no (p := ⟨cn, sn, idx⟩) Hok.out (by unfold whereO; rw [HS.out]; show (getI S sn).bind _ = none; rw [HL.out]; show getI l idx = none; rw [getI_neg h5]))
    go_wp2
    refine bodyPost_ret (v := .tuple #[.agg #[.int .i64 0, .int .i64 0, .int .i64 0, .int .i64 0], .int .i64 6]) (by simp [results, Try.results21, go_sem, r0, r1, r2, r3]) rfl ⟨?_, below_set4 B4 hb2 _ _ _ _⟩
    rw [Hn.out]; rfl
  by_cases h6 : idx < l.length
  case neg =>
    have Hn := Lib.hid (where_no (p := ⟨cn, sn, idx⟩) Hok.out (by unfold whereO; rw [HS.out]; show (getI S sn).bind _ = none; rw [HL.out]; show getI l idx = none; rw [getI_big (by omega)]))
    go_wp2
    refine bodyPost_ret (v := .tuple #[.agg #[.int .i64 0, .int .i64 0, .int .i64 0, .int .i64 0], .int .i64 6]) (by simp [results, Try.results21, go_sem, r0, r1, r2, r3]) rfl ⟨?_, below_set4 B4 hb2 _ _ _ _⟩
    rw [Hn.out]; rfl
  obtain ⟨k, rfl⟩ := Int.eq_ofNat_of_zero_le h5
  obtain ⟨x, hx⟩ : ∃ x, l[k]? = some x := ⟨_, List.getElem?_eq_getElem (by omega)⟩
  obtain ⟨g3, o3, rfl, hb3', hd1, hd2, hd3, hd4⟩ := HA8.out k x hx
  have Hn := Lib.hid (where_yes (p := ⟨cn, sn, k⟩) (s := x) Hok.out (by unfold whereO; rw [HS.out]; show (getI S sn).bind _ = _; rw [HL.out]; show getI l k = _; rw [getI_nat]; exact hx))
  clear hx
  obtain ⟨xw, xs, xr, xc⟩ := x
  dsimp only at hd1 hd2 hd3 hd4
  go_wp2
  refine bodyPost_ret (v := .tuple #[.agg #[.int .i64 xw, .int .i64 xs, .int .i64 xr, .int .i64 xc], .int .i64 0]) (by simp [results, Try.results21, go_sem, r0, r1, r2, r3]) rfl ⟨?_, below_set4 B4 hb2 _ _ _ _⟩
  rw [Hn.out]; rfl
end Go.Proofs.Ytdbfhdncjblleaa
