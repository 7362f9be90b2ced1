/-
  Where.
  Follow.
  Sizes; Cut.
-/
import Derived.Deep.DeepCutAuto
import Derived.Deep.RegionWith
import Derived.RegionTactic
import Derived.Test.YtdbfhdncjblleaaKd
namespace Go.Proofs.Ytdbfhdncjblleaa
open Go.RowKit

/-- The run's value: three slices and a bool. -/
theorem RRun.shape {B : Nat} {w : World} {v : Value} {r : RunD} (h : RRun B w v r) : ∃ A1 c1 A2 c2 A3 c3, v = .agg #[.slice A1 r.webs.length c1, .slice A2 r.ribs.length c2, .slice A3 r.stacks.length c3, .bool r.coll] := by
  obtain ⟨v1, v2, v3, rfl, ⟨vs, ⟨A1, c1, rfl, -⟩, -⟩, ⟨A2, c2, rfl, -⟩, vs3, ⟨A3, c3, rfl, -⟩, -⟩ := h
  exact ⟨_, _, _, _, _, _, rfl⟩

def getI {α : Type} (l : List α) (i : Int) : Option α := if 0 ≤ i then l[i.toNat]? else none
theorem getI_nat {α : Type} (l : List α) (k : Nat) : getI l (k : Int) = l[k]? := by unfold getI; rw [if_pos (by omega), Int.toNat_natCast]
theorem getI_neg {α : Type} {l : List α} {i : Int} (h : ¬ 0 ≤ i) : getI l i = none := by unfold getI; rw [if_neg h]
theorem getI_big {α : Type} {l : List α} {i : Int} (h : (l.length : Int) ≤ i) : getI l i = none := by unfold getI; rw [if_pos (by omega)]; exact List.getElem?_eq_none (by omega)
def whereO (r : RunD) (p : PlaceD) : Option SpotD := (getI (layoutD r) p.copy).bind fun S => (getI S p.sec).bind fun l => getI l p.idx
def spot0 : SpotD := ⟨0, 0, 0, 0⟩
def whereD (r : RunD) (p : PlaceD) : SpotD × Int := if checkE r ≠ 0 then (spot0, checkE r) else match whereO r p with
  | none => (spot0, 6)
  | some s => (s, 0)
theorem where_bad {r : RunD} {p : PlaceD} (h : checkE r ≠ 0) : whereD r p = (spot0, checkE r) := by unfold whereD; rw [if_pos h]
theorem where_no {r : RunD} {p : PlaceD} (h : checkE r = 0) (hn : whereO r p = none) : whereD r p = (spot0, 6) := by unfold whereD; rw [if_neg (by rw [h]; simp), hn]
theorem where_yes {r : RunD} {p : PlaceD} {s : SpotD} (h : checkE r = 0) (hn : whereO r p = some s) : whereD r p = (s, 0) := by unfold whereD; rw [if_neg (by rw [h]; simp), hn]

/-- Two results: a struct of four numbers, and an error. -/
def spotRet (x : SpotD × Int) : Value := .tuple #[x.1.val, .int .i64 x.2]

/-- A block of cells, known whole. -/
def Blk (W : World) (b : Nat) (t : TypeId) (cs : Array Value) : Prop := W.heap[b]? = some (.cells cs t (0, 0))
theorem Blk.lt {W : World} {b : Nat} {t : TypeId} {cs : Array Value} (h : Blk W b t cs) : b < W.heap.size := (Array.getElem?_eq_some_iff.1 h).1
theorem Blk.cell {W : World} {b : Nat} {t : TypeId} {cs : Array Value} (h : Blk W b t cs) (j : Nat) : W.cell? ⟨b, j, none⟩ = cs[j]? := cell_of_row W b j _ t (0, 0) h
theorem Blk.frozen {W : World} {b : Nat} {t : TypeId} {cs : Array Value} (h : Blk W b t cs) (j : Nat) : W.frozen? ⟨b, j, none⟩ = false := by
  unfold Blk at h
  simp [World.frozen?, h]
theorem Blk.below {W W' : World} {b B : Nat} {t : TypeId} {cs : Array Value} (h : Blk W b t cs) (hb : Below B W W') (hl : b < B) : Blk W' b t cs := (hb.block b hl).trans h
theorem Blk.new (W : World) (t : TypeId) (cs : Array Value) : Blk (W.alloc (.cells cs t)) W.heap.size t cs := heap_alloc_new W _
theorem Blk.alloc {W : World} {b : Nat} {t : TypeId} {cs : Array Value} (h : Blk W b t cs) (o : Obj) : Blk (W.alloc o) b t cs := (Below.heap_alloc W o b h.lt).trans h
theorem Blk.far {W : World} {b : Nat} {t : TypeId} {cs : Array Value} (h : Blk W b t cs) {p : Addr} (hp : b ≠ p.block) (u : Value) : Blk (W.setCell p u) b t cs := (Below.heap_setCell W p u b hp).trans h
theorem Blk.put {W : World} {b : Nat} {t : TypeId} {cs : Array Value} (h : Blk W b t cs) (i : Nat) (u : Value) : Blk (W.setCell ⟨b, i, none⟩ u) b t (cs.setIfInBounds i u) := by
  unfold Blk at h ⊢
  simp [World.setCell, Array.getElem?_modify, h]
theorem below_set4 {B b : Nat} {W W' : World} (h : Below B W W') (hb : B ≤ b) (x0 x1 x2 x3 : Value) : Below B W ((((W'.setCell ⟨b, 0, none⟩ x0).setCell ⟨b, 1, none⟩ x1).setCell ⟨b, 2, none⟩ x2).setCell ⟨b, 3, none⟩ x3) :=
  (((h.setCell (p := ⟨b, 0, none⟩) hb _).setCell (p := ⟨b, 1, none⟩) hb _).setCell (p := ⟨b, 2, none⟩) hb _).setCell (p := ⟨b, 3, none⟩) hb _

set_option maxRecDepth 100000 in
set_option maxHeartbeats 2000000 in
theorem where_any (v : Value) (r : RunD) (p : PlaceD) (w : World) (h : RRun w.heap.size w v r) :
    Calls Try.prog 21 #[v, .agg #[.int .i64 p.copy, .int .i64 p.sec, .int .i64 p.idx]] w fun e w' => e = .returned (spotRet (whereD r p)) ∧ Below w.heap.size w w' := by
  have hrun := Lib.hid h
  obtain ⟨A1, c1, A2, c2, A3, c3, rfl⟩ := h.shape
  clear h
  obtain ⟨copy, sec, idx⟩ := p
  have F0 : ∃ W0, (((w.alloc (.cells #[.slice A1 r.webs.length c1, .slice A2 r.ribs.length c2, .slice A3 r.stacks.length c3, .bool r.coll] 36)).alloc (.cells #[.int .i64 copy, .int .i64 sec, .int .i64 idx] 56)).alloc (.cells #[.int .i64 0, .int .i64 0, .int .i64 0, .int .i64 0] 53)).alloc (.cells #[.slice A1 r.webs.length c1, .slice A2 r.ribs.length c2, .slice A3 r.stacks.length c3, .bool r.coll] 111) = W0 ∧
      W0.heap.size = w.heap.size + 4 ∧ Below w.heap.size w W0 ∧ Blk W0 (w.heap.size + 1) 56 #[.int .i64 copy, .int .i64 sec, .int .i64 idx] ∧ Blk W0 (w.heap.size + 1 + 1) 53 #[.int .i64 0, .int .i64 0, .int .i64 0, .int .i64 0] ∧
      Blk W0 (w.heap.size + 1 + 1 + 1) 111 #[.slice A1 r.webs.length c1, .slice A2 r.ribs.length c2, .slice A3 r.stacks.length c3, .bool r.coll] := by
    refine ⟨_, rfl, by simp, ((((Below.refl _ _).alloc (Nat.le_refl _) _).alloc (by simp) _).alloc (by simp; omega) _).alloc (by simp; omega) _, ?_, ?_, ?_⟩
    · have := Blk.new (w.alloc (.cells #[.slice A1 r.webs.length c1, .slice A2 r.ribs.length c2, .slice A3 r.stacks.length c3, .bool r.coll] 36)) 56 #[.int .i64 copy, .int .i64 sec, .int .i64 idx]
      rw [World.size_alloc] at this
      exact (this.alloc _).alloc _
    · have := Blk.new ((w.alloc (.cells #[.slice A1 r.webs.length c1, .slice A2 r.ribs.length c2, .slice A3 r.stacks.length c3, .bool r.coll] 36)).alloc (.cells #[.int .i64 copy, .int .i64 sec, .int .i64 idx] 56)) 53 #[.int .i64 0, .int .i64 0, .int .i64 0, .int .i64 0]
      rw [World.size_alloc, World.size_alloc] at this
      exact this.alloc _
    · have := Blk.new (((w.alloc (.cells #[.slice A1 r.webs.length c1, .slice A2 r.ribs.length c2, .slice A3 r.stacks.length c3, .bool r.coll] 36)).alloc (.cells #[.int .i64 copy, .int .i64 sec, .int .i64 idx] 56)).alloc (.cells #[.int .i64 0, .int .i64 0, .int .i64 0, .int .i64 0] 53)) 111 #[.slice A1 r.webs.length c1, .slice A2 r.ribs.length c2, .slice A3 r.stacks.length c3, .bool r.coll]
      rw [World.size_alloc, World.size_alloc, World.size_alloc] at this
      exact this
  obtain ⟨W0, e0, z0, B0, P0, R0, V0⟩ := F0
  have E0 := Lib.hid e0
  have Z0 := Lib.hid z0
  clear e0 z0
  go_enter Try.func21, Try.ntmps21
  go_wp2_with fail
  rw [E0.out]
  refine (check_any _ r _ ((hrun.out.below B0).more B0.size)).mono ?_
  rintro e w3 ⟨rfl, hb3⟩
  have zl : ∀ k, k < 4 → w.heap.size + k < W0.heap.size := fun k hk => by rw [Z0.out]; omega
  have P3 := P0.below hb3 (zl 1 (by omega))
  have R3 := R0.below hb3 (zl 2 (by omega))
  have V3 := V0.below hb3 (zl 3 (by omega))
  have B3 : Below w.heap.size w w3 := B0.trans (hb3.mono B0.size)
  have s3 : W0.heap.size ≤ w3.heap.size := hb3.size
  clear P0 R0 V0 B0 E0 hb3
  generalize eb2 : w.heap.size + 1 + 1 = b2 at *
  have hb2 : w.heap.size ≤ b2 := by omega
  have Eb2 := Lib.hid eb2
  clear eb2
  by_cases hck : checkE r = 0
  case neg =>
    have Hn := Lib.hid (where_bad (p := ⟨copy, sec, idx⟩) hck)
    have hck' : (checkE r != 0) = true := by simpa using hck
    have r0 : w3.cell? ⟨b2, 0, none⟩ = some (.int .i64 0) := R3.cell 0
    have r1 : w3.cell? ⟨b2, 1, none⟩ = some (.int .i64 0) := R3.cell 1
    have r2 : w3.cell? ⟨b2, 2, none⟩ = some (.int .i64 0) := R3.cell 2
    have r3 : w3.cell? ⟨b2, 3, none⟩ = some (.int .i64 0) := R3.cell 3
    have f0 := R3.frozen 0
    have f1 := R3.frozen 1
    have f2 := R3.frozen 2
    have f3 := R3.frozen 3
    clear hck P3 R3 V3
    generalize checkE r = ck at *
    go_wp2
    refine bodyPost_ret (v := .tuple #[.agg #[.int .i64 0, .int .i64 0, .int .i64 0, .int .i64 0], .int .i64 ck]) (by simp [results, Try.results21, go_sem, r0, r1, r2, r3]) rfl ⟨?_, below_set4 B3 hb2 _ _ _ _⟩
    rw [Hn.out]; rfl
  have v0 : w3.cell? ⟨b2 + 1, 0, none⟩ = some (.slice A1 r.webs.length c1) := V3.cell 0
  have v1 : w3.cell? ⟨b2 + 1, 1, none⟩ = some (.slice A2 r.ribs.length c2) := V3.cell 1
  have v2 : w3.cell? ⟨b2 + 1, 2, none⟩ = some (.slice A3 r.stacks.length c3) := V3.cell 2
  have v3 : w3.cell? ⟨b2 + 1, 3, none⟩ = some (.bool r.coll) := V3.cell 3
  have Hok := Lib.hid hck
  rw [hck]
  clear hck
  go_wp2_with fail
  refine (layout_any _ r _ ((hrun.out.below B3).more B3.size) Hok.out).mono ?_
  rintro e w4 ⟨u, rfl, hu, hb4⟩
  have zl3 : ∀ k, k < 4 → w.heap.size + k < w3.heap.size := fun k hk => by have := zl k hk; omega
  have P4 := P3.below hb4 (zl3 1 (by omega))
  have R4 := R3.below hb4 (by have := zl3 2 (by omega); have := Eb2.out; omega)
  have B4 : Below w.heap.size w w4 := B3.trans (hb4.mono B3.size)
  clear v0 v1 v2 v3 P3 R3 V3 B3 hb4 zl zl3
  obtain ⟨A, c, rfl, hA1, hA⟩ := RAll.open_ hu.reads
  clear hu
  have HA := Lib.hid hA
  clear hA
  have p0 : w4.cell? ⟨w.heap.size + 1, 0, none⟩ = some (.int .i64 copy) := P4.cell 0
  have p1 : w4.cell? ⟨w.heap.size + 1, 1, none⟩ = some (.int .i64 sec) := P4.cell 1
  have p2 : w4.cell? ⟨w.heap.size + 1, 2, none⟩ = some (.int .i64 idx) := P4.cell 2
  have r0 : w4.cell? ⟨b2, 0, none⟩ = some (.int .i64 0) := R4.cell 0
  have r1 : w4.cell? ⟨b2, 1, none⟩ = some (.int .i64 0) := R4.cell 1
  have r2 : w4.cell? ⟨b2, 2, none⟩ = some (.int .i64 0) := R4.cell 2
  have r3 : w4.cell? ⟨b2, 3, none⟩ = some (.int .i64 0) := R4.cell 3
  have f0 := R4.frozen 0
  have f1 := R4.frozen 1
  have f2 := R4.frozen 2
  have f3 := R4.frozen 3
  clear P4 R4 Eb2
  by_cases h1 : 0 ≤ copy
  case neg =>
    have Hn := Lib.hid (where_no (p := ⟨copy, sec, idx⟩) Hok.out (by unfold whereO; rw [getI_neg h1]; rfl))
    go_wp2
    refine bodyPost_ret (v := .tuple #[.agg #[.int .i64 0, .int .i64 0, .int .i64 0, .int .i64 0], .int .i64 6]) (by simp [results, Try.results21, go_sem, r0, r1, r2, r3]) rfl ⟨?_, below_set4 B4 hb2 _ _ _ _⟩
    rw [Hn.out]; rfl
  by_cases h2 : copy < (layoutD r).length
  case neg =>
    have Hn := Lib.hid (where_no (p := ⟨copy, sec, idx⟩) Hok.out (by unfold whereO; rw [getI_big (by simp only; omega)]; rfl))
    go_wp2
    refine bodyPost_ret (v := .tuple #[.agg #[.int .i64 0, .int .i64 0, .int .i64 0, .int .i64 0], .int .i64 6]) (by simp [results, Try.results21, go_sem, r0, r1, r2, r3]) rfl ⟨?_, below_set4 B4 hb2 _ _ _ _⟩
    rw [Hn.out]; rfl
  obtain ⟨cn, rfl⟩ := Int.eq_ofNat_of_zero_le h1
  obtain ⟨S, hS⟩ : ∃ S, (layoutD r)[cn]? = some S := ⟨_, List.getElem?_eq_getElem (by omega)⟩
  obtain ⟨g, o, u2, rfl, hb, hc1, hp⟩ := HA.out cn S hS
  obtain ⟨A5, c5, rfl, hA5, hA6⟩ := RAll.open_ hp
  have HA6 := Lib.hid hA6
  have HS : Hid (getI (layoutD r) (cn : Int) = some S) := by
    show getI (layoutD r) (cn : Int) = some S
    rw [getI_nat]; exact hS
  clear hA6 hp hS
  by_cases h3 : 0 ≤ sec
  case neg =>
    have Hn := Lib.hid (where_no (p := ⟨cn, sec, idx⟩) Hok.out (by unfold whereO; rw [HS.out]; show (getI S sec).bind _ = none; rw [getI_neg h3]; rfl))
    go_wp2
    refine bodyPost_ret (v := .tuple #[.agg #[.int .i64 0, .int .i64 0, .int .i64 0, .int .i64 0], .int .i64 6]) (by simp [results, Try.results21, go_sem, r0, r1, r2, r3]) rfl ⟨?_, below_set4 B4 hb2 _ _ _ _⟩
    rw [Hn.out]; rfl
  by_cases h4 : sec < S.length
  case neg =>
    have Hn := Lib.hid (where_no (p := ⟨cn, sec, idx⟩) Hok.out (by unfold whereO; rw [HS.out]; show (getI S sec).bind _ = none; rw [getI_big (by omega)]; rfl))
    go_wp2
    refine bodyPost_ret (v := .tuple #[.agg #[.int .i64 0, .int .i64 0, .int .i64 0, .int .i64 0], .int .i64 6]) (by simp [results, Try.results21, go_sem, r0, r1, r2, r3]) rfl ⟨?_, below_set4 B4 hb2 _ _ _ _⟩
    rw [Hn.out]; rfl
  obtain ⟨sn, rfl⟩ := Int.eq_ofNat_of_zero_le h3
  obtain ⟨l, hl⟩ : ∃ l, S[sn]? = some l := ⟨_, List.getElem?_eq_getElem (by omega)⟩
  obtain ⟨g2, o2, u3, rfl, hb2', hc2, hp⟩ := HA6.out sn l hl
  obtain ⟨A7, c7, rfl, hA7, hA8⟩ := RSpots.open_ hp
  have HA8 := Lib.hid hA8
  have HL : Hid (getI S (sn : Int) = some l) := by
    show getI S (sn : Int) = some l
    rw [getI_nat]; exact hl
  clear hA8 hp hl
  by_cases h5 : 0 ≤ idx
  case neg =>
    have Hn := Lib.hid (where_no (p := ⟨cn, sn, idx⟩) Hok.out (by unfold whereO; rw [HS.out]; show (getI S sn).bind _ = none; rw [HL.out]; show getI l idx = none; rw [getI_neg h5]))
    go_wp2
    refine bodyPost_ret (v := .tuple #[.agg #[.int .i64 0, .int .i64 0, .int .i64 0, .int .i64 0], .int .i64 6]) (by simp [results, Try.results21, go_sem, r0, r1, r2, r3]) rfl ⟨?_, below_set4 B4 hb2 _ _ _ _⟩
    rw [Hn.out]; rfl
  by_cases h6 : idx < l.length
  case neg =>
    have Hn := Lib.hid (where_no (p := ⟨cn, sn, idx⟩) Hok.out (by unfold whereO; rw [HS.out]; show (getI S sn).bind _ = none; rw [HL.out]; show getI l idx = none; rw [getI_big (by omega)]))
    go_wp2
    refine bodyPost_ret (v := .tuple #[.agg #[.int .i64 0, .int .i64 0, .int .i64 0, .int .i64 0], .int .i64 6]) (by simp [results, Try.results21, go_sem, r0, r1, r2, r3]) rfl ⟨?_, below_set4 B4 hb2 _ _ _ _⟩
    rw [Hn.out]; rfl
  obtain ⟨k, rfl⟩ := Int.eq_ofNat_of_zero_le h5
  obtain ⟨x, hx⟩ : ∃ x, l[k]? = some x := ⟨_, List.getElem?_eq_getElem (by omega)⟩
  obtain ⟨g3, o3, rfl, hb3', hd1, hd2, hd3, hd4⟩ := HA8.out k x hx
  have Hn := Lib.hid (where_yes (p := ⟨cn, sn, k⟩) (s := x) Hok.out (by unfold whereO; rw [HS.out]; show (getI S sn).bind _ = _; rw [HL.out]; show getI l k = _; rw [getI_nat]; exact hx))
  clear hx
  obtain ⟨xw, xs, xr, xc⟩ := x
  dsimp only at hd1 hd2 hd3 hd4
  go_wp2
  refine bodyPost_ret (v := .tuple #[.agg #[.int .i64 xw, .int .i64 xs, .int .i64 xr, .int .i64 xc], .int .i64 0]) (by simp [results, Try.results21, go_sem, r0, r1, r2, r3]) rfl ⟨?_, below_set4 B4 hb2 _ _ _ _⟩
  rw [Hn.out]; rfl
end Go.Proofs.Ytdbfhdncjblleaa
namespace Go.Proofs.Ytdbfhdncjblleaa
open Go.RowKit

def followO (r : RunD) (s : SpotD) : Option PlaceD := ((placesD r).find? fun x => decide (x.1 = s)).map (·.2)
def place0 : PlaceD := ⟨0, 0, 0⟩
def followD (r : RunD) (s : SpotD) : PlaceD × Int := if checkE r ≠ 0 then (place0, checkE r) else match followO r s with
  | none => (place0, 6)
  | some p => (p, 0)
theorem follow_bad {r : RunD} {s : SpotD} (h : checkE r ≠ 0) : followD r s = (place0, checkE r) := by unfold followD; rw [if_pos h]
theorem follow_no {r : RunD} {s : SpotD} (h : checkE r = 0) (hn : followO r s = none) : followD r s = (place0, 6) := by unfold followD; rw [if_neg (by rw [h]; simp), hn]
theorem follow_yes {r : RunD} {s : SpotD} {p : PlaceD} (h : checkE r = 0) (hn : followO r s = some p) : followD r s = (p, 0) := by unfold followD; rw [if_neg (by rw [h]; simp), hn]
def placeRet (x : PlaceD × Int) : Value := .tuple #[x.1.val, .int .i64 x.2]
theorem below_set3 {B b : Nat} {W W' : World} (h : Below B W W') (hb : B ≤ b) (x0 x1 x2 : Value) : Below B W (((W'.setCell ⟨b, 0, none⟩ x0).setCell ⟨b, 1, none⟩ x1).setCell ⟨b, 2, none⟩ x2) :=
  ((h.setCell (p := ⟨b, 0, none⟩) hb _).setCell (p := ⟨b, 1, none⟩) hb _).setCell (p := ⟨b, 2, none⟩) hb _
theorem zeroPlace (w : World) : (zeroValue 56).run Try.prog w = .ok (.agg #[.int .i64 0, .int .i64 0, .int .i64 0]) w := by kernel_rfl
theorem find_no {α β : Type} [DecidableEq α] {l : List (α × β)} {a : α} (h : (l.find? fun x => decide (x.1 = a)) = none) : ∀ x ∈ l, x.1 ≠ a := fun x hx e => by
  have := List.find?_eq_none.1 h x hx
  simp [e] at this

/-- What the look-up finds, wherever the map is as it is. -/
theorem look_any {r : RunD} (hnd : ((placesD r).map (·.1)).Nodup) (s : SpotD) : ∃ p : PlaceD, ∃ f : Bool, ((f = true ∧ followO r s = some p) ∨ (f = false ∧ p = place0 ∧ followO r s = none)) ∧
    ∀ (W : World) (b : Nat), MapAt SpotD.val PlaceD.val W b (placesD r) → (Instr.lookup 129 (.map (some b)) s.val true).run Try.prog W = .ok (.tuple #[p.val, .bool f]) W := by
  cases h : (placesD r).find? fun x => decide (x.1 = s) with
  | none => exact ⟨place0, false, .inr ⟨rfl, rfl, by unfold followO; rw [h]; rfl⟩, fun W b hm => run_lookup_no PlaceD.val spotKey mapType zeroPlace hm s (find_no h)⟩
  | some x =>
    have h1 := List.find?_some h
    have h2 := List.mem_of_find?_eq_some h
    simp only [decide_eq_true_eq] at h1
    obtain ⟨s', p⟩ := x
    simp only at h1
    subst h1
    exact ⟨p, true, .inl ⟨rfl, by unfold followO; rw [h]; rfl⟩, fun W b hm => run_lookup_ok PlaceD.val spotKey mapType hm s' p hnd h2⟩

theorem cellOf {W : World} {b : Nat} {t : TypeId} {cs : Array Value} (h : Blk W b t cs) (j : Nat) {x : Value} (hx : cs[j]? = some x) : W.cell? ⟨b, j, none⟩ = some x := (h.cell j).trans hx

/-- What holds behind the look-up, whatever its order. -/
def FollowCut (w : World) (f : Bool) (pc ps pi : Int) (b2 : Nat) (s8 s9 : Value) (wx : World) : Prop :=
  ∃ B, s8 = .pointer (some ⟨B, 0, none⟩) ∧ s9 = .bool f ∧ Blk wx B 56 #[.int .i64 pc, .int .i64 ps, .int .i64 pi] ∧ b2 ≠ B ∧ Blk wx b2 56 #[.int .i64 0, .int .i64 0, .int .i64 0] ∧ Below w.heap.size w wx
theorem cutA {w w3 w4 : World} {f : Bool} {pc ps pi : Int} {b2 : Nat} (h34 : Below w3.heap.size w3 w4) (R3 : Blk w3 b2 56 #[.int .i64 0, .int .i64 0, .int .i64 0]) (B3 : Below w.heap.size w w3) (n2 : b2 < w3.heap.size) :
    FollowCut w f pc ps pi b2 (.pointer (some ⟨w4.heap.size, 0, none⟩)) (.bool f) (w4.alloc (.cells #[.int .i64 pc, .int .i64 ps, .int .i64 pi] 56)) :=
  ⟨w4.heap.size, rfl, rfl, Blk.new _ _ _, by have := h34.size; omega, (R3.below h34 n2).alloc _, (B3.trans (h34.mono B3.size)).alloc (Nat.le_trans B3.size h34.size) _⟩
theorem cutB {w w3 w4 : World} {f : Bool} {pc ps pi : Int} {b2 : Nat} (h34 : Below w3.heap.size w3 w4) (R3 : Blk w3 b2 56 #[.int .i64 0, .int .i64 0, .int .i64 0]) (B3 : Below w.heap.size w w3) (n2 : b2 < w3.heap.size)
    (z9 : Blk w4 w3.heap.size 56 #[.int .i64 0, .int .i64 0, .int .i64 0]) :
    FollowCut w f pc ps pi b2 (.pointer (some ⟨w3.heap.size, 0, none⟩)) (.bool f) (((w4.setCell ⟨w3.heap.size, 0, none⟩ (.int .i64 pc)).setCell ⟨w3.heap.size, 1, none⟩ (.int .i64 ps)).setCell ⟨w3.heap.size, 2, none⟩ (.int .i64 pi)) :=
  have hne : b2 ≠ w3.heap.size := by omega
  ⟨w3.heap.size, rfl, rfl, ((z9.put 0 _).put 1 _).put 2 _, hne, (((R3.below h34 n2).far (p := ⟨w3.heap.size, 0, none⟩) hne _).far (p := ⟨w3.heap.size, 1, none⟩) hne _).far (p := ⟨w3.heap.size, 2, none⟩) hne _, below_set3 (B3.trans (h34.mono B3.size)) B3.size _ _ _⟩

set_option maxRecDepth 100000 in
set_option maxHeartbeats 2000000 in
theorem follow_any (v : Value) (r : RunD) (s : SpotD) (w : World) (h : RRun w.heap.size w v r) (hnd : checkE r = 0 → ((placesD r).map (·.1)).Nodup) :
    Calls Try.prog 23 #[v, .agg #[.int .i64 s.web, .int .i64 s.side, .int .i64 s.row, .int .i64 s.col]] w fun e w' => e = .returned (placeRet (followD r s)) ∧ Below w.heap.size w w' := by
  have hrun := Lib.hid h
  obtain ⟨A1, c1, A2, c2, A3, c3, rfl⟩ := h.shape
  clear h
  obtain ⟨xw, xs, xr, xc⟩ := s
  have F0 : ∃ W0, (((w.alloc (.cells #[.slice A1 r.webs.length c1, .slice A2 r.ribs.length c2, .slice A3 r.stacks.length c3, .bool r.coll] 36)).alloc (.cells #[.int .i64 xw, .int .i64 xs, .int .i64 xr, .int .i64 xc] 53)).alloc (.cells #[.int .i64 0, .int .i64 0, .int .i64 0] 56)).alloc (.cells #[.slice A1 r.webs.length c1, .slice A2 r.ribs.length c2, .slice A3 r.stacks.length c3, .bool r.coll] 111) = W0 ∧
      W0.heap.size = w.heap.size + 4 ∧ Below w.heap.size w W0 ∧ Blk W0 (w.heap.size + 1) 53 #[.int .i64 xw, .int .i64 xs, .int .i64 xr, .int .i64 xc] ∧ Blk W0 (w.heap.size + 1 + 1) 56 #[.int .i64 0, .int .i64 0, .int .i64 0] ∧
      Blk W0 (w.heap.size + 1 + 1 + 1) 111 #[.slice A1 r.webs.length c1, .slice A2 r.ribs.length c2, .slice A3 r.stacks.length c3, .bool r.coll] := by
    refine ⟨_, rfl, by simp, ((((Below.refl _ _).alloc (Nat.le_refl _) _).alloc (by simp) _).alloc (by simp; omega) _).alloc (by simp; omega) _, ?_, ?_, ?_⟩
    · have := Blk.new (w.alloc (.cells #[.slice A1 r.webs.length c1, .slice A2 r.ribs.length c2, .slice A3 r.stacks.length c3, .bool r.coll] 36)) 53 #[.int .i64 xw, .int .i64 xs, .int .i64 xr, .int .i64 xc]
      rw [World.size_alloc] at this
      exact (this.alloc _).alloc _
    · have := Blk.new ((w.alloc (.cells #[.slice A1 r.webs.length c1, .slice A2 r.ribs.length c2, .slice A3 r.stacks.length c3, .bool r.coll] 36)).alloc (.cells #[.int .i64 xw, .int .i64 xs, .int .i64 xr, .int .i64 xc] 53)) 56 #[.int .i64 0, .int .i64 0, .int .i64 0]
      rw [World.size_alloc, World.size_alloc] at this
      exact this.alloc _
    · have := Blk.new (((w.alloc (.cells #[.slice A1 r.webs.length c1, .slice A2 r.ribs.length c2, .slice A3 r.stacks.length c3, .bool r.coll] 36)).alloc (.cells #[.int .i64 xw, .int .i64 xs, .int .i64 xr, .int .i64 xc] 53)).alloc (.cells #[.int .i64 0, .int .i64 0, .int .i64 0] 56)) 111 #[.slice A1 r.webs.length c1, .slice A2 r.ribs.length c2, .slice A3 r.stacks.length c3, .bool r.coll]
      rw [World.size_alloc, World.size_alloc, World.size_alloc] at this
      exact this
  obtain ⟨W0, e0, z0, B0, P0, R0, V0⟩ := F0
  have E0 := Lib.hid e0
  have Z0 := Lib.hid z0
  clear e0 z0
  go_enter Try.func23, Try.ntmps23
  go_wp2_with fail
  rw [E0.out]
  refine (check_any _ r _ ((hrun.out.below B0).more B0.size)).mono ?_
  rintro e w3 ⟨rfl, hb3⟩
  have zl : ∀ k, k < 4 → w.heap.size + k < W0.heap.size := fun k hk => by rw [Z0.out]; omega
  have P3 := P0.below hb3 (zl 1 (by omega))
  have R3 := R0.below hb3 (zl 2 (by omega))
  have V3 := V0.below hb3 (zl 3 (by omega))
  have B3 : Below w.heap.size w w3 := B0.trans (hb3.mono B0.size)
  have s3 : W0.heap.size ≤ w3.heap.size := hb3.size
  clear P0 R0 V0 B0 E0 hb3
  generalize eb2 : w.heap.size + 1 + 1 = b2 at *
  have hb2 : w.heap.size ≤ b2 := by omega
  have Eb2 := Lib.hid eb2
  clear eb2
  by_cases hck : checkE r = 0
  case neg =>
    have Hn := Lib.hid (follow_bad (s := ⟨xw, xs, xr, xc⟩) hck)
    have hck' : (checkE r != 0) = true := by simpa using hck
    have r0 : w3.cell? ⟨b2, 0, none⟩ = some (.int .i64 0) := R3.cell 0
    have r1 : w3.cell? ⟨b2, 1, none⟩ = some (.int .i64 0) := R3.cell 1
    have r2 : w3.cell? ⟨b2, 2, none⟩ = some (.int .i64 0) := R3.cell 2
    have f0 := R3.frozen 0
    have f1 := R3.frozen 1
    have f2 := R3.frozen 2
    clear hck P3 R3 V3
    generalize checkE r = ck at *
    go_wp2
    refine bodyPost_ret (v := .tuple #[.agg #[.int .i64 0, .int .i64 0, .int .i64 0], .int .i64 ck]) (by simp [results, Try.results23, go_sem, r0, r1, r2]) rfl ⟨?_, below_set3 B3 hb2 _ _ _⟩
    rw [Hn.out]; rfl
  have v0 : w3.cell? ⟨b2 + 1, 0, none⟩ = some (.slice A1 r.webs.length c1) := V3.cell 0
  have v1 : w3.cell? ⟨b2 + 1, 1, none⟩ = some (.slice A2 r.ribs.length c2) := V3.cell 1
  have v2 : w3.cell? ⟨b2 + 1, 2, none⟩ = some (.slice A3 r.stacks.length c3) := V3.cell 2
  have v3 : w3.cell? ⟨b2 + 1, 3, none⟩ = some (.bool r.coll) := V3.cell 3
  have q0 : w3.cell? ⟨w.heap.size + 1, 0, none⟩ = some (.int .i64 xw) := P3.cell 0
  have q1 : w3.cell? ⟨w.heap.size + 1, 1, none⟩ = some (.int .i64 xs) := P3.cell 1
  have q2 : w3.cell? ⟨w.heap.size + 1, 2, none⟩ = some (.int .i64 xr) := P3.cell 2
  have q3 : w3.cell? ⟨w.heap.size + 1, 3, none⟩ = some (.int .i64 xc) := P3.cell 3
  have Hok := Lib.hid hck
  have Hnd := Lib.hid (hnd hck)
  rw [hck]
  clear hck hnd
  have n1 : w.heap.size + 1 < w3.heap.size := by have := zl 1 (by omega); omega
  have n2 : b2 < w3.heap.size := by have := zl 2 (by omega); have := Eb2.out; omega
  have n3 : b2 + 1 < w3.heap.size := by have := zl 3 (by omega); have := Eb2.out; omega
  obtain ⟨p, f, hpf, hlook⟩ := look_any Hnd.out ⟨xw, xs, xr, xc⟩
  have Hpf := Lib.hid hpf
  have HLook := Lib.hid hlook
  clear hpf hlook
  obtain ⟨pc, ps, pi⟩ := p
  have HC : ∀ X, Below w3.heap.size w3 X → Calls Try.prog 50 #[.agg #[.slice A1 r.webs.length c1, .slice A2 r.ribs.length c2, .slice A3 r.stacks.length c3, .bool r.coll]] X fun e w' => ∃ b, e = .returned (.map (some b)) ∧ MapAt SpotD.val PlaceD.val w' b (placesD r) ∧ X.heap.size ≤ b ∧ Below X.heap.size X w' :=
    fun X hX => places_any _ r X ((hrun.out.below (B3.trans (hX.mono B3.size))).more (by have := B3.size; have := hX.size; omega)) Hok.out Hnd.out
  have bxf : ∀ w4, Below (w3.alloc (.cells #[.int .i64 0, .int .i64 0, .int .i64 0] 56)).drew.heap.size (w3.alloc (.cells #[.int .i64 0, .int .i64 0, .int .i64 0] 56)).drew w4 →
      Blk w4 w3.heap.size 56 #[.int .i64 0, .int .i64 0, .int .i64 0] ∧ w4.cell? ⟨w3.heap.size, 0, none⟩ = some (.int .i64 0) ∧ w4.cell? ⟨w3.heap.size, 1, none⟩ = some (.int .i64 0) ∧ w4.cell? ⟨w3.heap.size, 2, none⟩ = some (.int .i64 0) ∧ w4.frozen? ⟨w3.heap.size, 0, none⟩ = false ∧ w4.frozen? ⟨w3.heap.size, 1, none⟩ = false ∧ w4.frozen? ⟨w3.heap.size, 2, none⟩ = false := fun w4 h => by
    have hk : Blk w4 w3.heap.size 56 #[.int .i64 0, .int .i64 0, .int .i64 0] := (Blk.new w3 _ _).below (W := (w3.alloc (.cells #[.int .i64 0, .int .i64 0, .int .i64 0] 56)).drew) h (by show w3.heap.size < (w3.alloc _).heap.size; rw [World.size_alloc]; omega)
    exact ⟨hk, hk.cell 0, hk.cell 1, hk.cell 2, hk.frozen 0, hk.frozen 1, hk.frozen 2⟩
  have BXF := Lib.hid bxf
  clear bxf
  have za : ∀ o, w3.heap.size ≤ (w3.alloc o).heap.size := fun o => by simp
  have ZA := Lib.hid za
  clear za
  have HC' := Lib.hid HC
  clear HC
  go_upto_region 5 with fail
  go_cut [8, 9] (fun s8 s9 wx => FollowCut w f pc ps pi b2 s8 s9 wx)
  case first =>
    go_region_with (go_at_call 50; refine (HC'.out _ ?_).mono ?_; (first | exact (Below.refl _ _).drew | exact ((Below.refl _ _).alloc (Nat.le_refl _) _).drew); rintro e w4 ⟨b, rfl, hM, hb1, hb4⟩; have h34 : Below w3.heap.size w3 w4 := (by first | exact ((Below.refl w3.heap.size w3).drew).trans (hb4.mono (Nat.le_refl _)) | exact (((Below.refl w3.heap.size w3).alloc (Nat.le_refl _) _).drew).trans (hb4.mono (ZA.out _))); have y0 := (h34.cell (p := ⟨w.heap.size + 1, 0, none⟩) n1).trans q0; have y1 := (h34.cell (p := ⟨w.heap.size + 1, 1, none⟩) n1).trans q1; have y2 := (h34.cell (p := ⟨w.heap.size + 1, 2, none⟩) n1).trans q2; have y3 := (h34.cell (p := ⟨w.heap.size + 1, 3, none⟩) n1).trans q3; have n5 := Nat.lt_of_lt_of_le n1 h34.size; have k1 := HLook.out w4 b hM; have k2 := fun o => HLook.out (w4.alloc o) b (hM.alloc o); simp only [SpotD.val, PlaceD.val] at k1 k2; (first | (refine (fun H => ?_) (BXF.out w4 hb4); obtain ⟨z9, z0, z1, z2, g0, g1, g2⟩ := H) | skip))
    all_goals (go_wp2_with fail; go_meet; first | with_reducible exact cutA h34 R3 B3 n2 | with_reducible exact cutB h34 R3 B3 n2 z9)
  case rest =>
  obtain ⟨B, rfl, rfl, hB, hne, hR, hBl⟩ := hcut
  have r0 := cellOf hR 0 (x := .int .i64 0) rfl
  have r1 := cellOf hR 1 (x := .int .i64 0) rfl
  have r2 := cellOf hR 2 (x := .int .i64 0) rfl
  have g0 := hR.frozen 0
  have g1 := hR.frozen 1
  have g2 := hR.frozen 2
  have t0 := cellOf hB 0 (x := .int .i64 pc) rfl
  have t1 := cellOf hB 1 (x := .int .i64 ps) rfl
  have t2 := cellOf hB 2 (x := .int .i64 pi) rfl
  clear v0 v1 v2 v3 q0 q1 q2 q3 hR hB
  rcases Hpf.out with ⟨rfl, hf⟩ | ⟨rfl, hp0, hf⟩
  · have Hn := Lib.hid (follow_yes Hok.out hf)
    clear hf
    go_wp2
    refine bodyPost_ret (v := .tuple #[.agg #[.int .i64 pc, .int .i64 ps, .int .i64 pi], .int .i64 0]) (by simp [results, Try.results23, go_sem, r0, r1, r2]) rfl ⟨?_, below_set3 hBl hb2 _ _ _⟩
    rw [Hn.out]; rfl
  · have Hn := Lib.hid (follow_no Hok.out hf)
    clear hf hp0
    go_wp2
    refine bodyPost_ret (v := .tuple #[.agg #[.int .i64 0, .int .i64 0, .int .i64 0], .int .i64 6]) (by simp [results, Try.results23, go_sem, r0, r1, r2]) rfl ⟨?_, below_set3 hBl hb2 _ _ _⟩
    rw [Hn.out]; rfl
end Go.Proofs.Ytdbfhdncjblleaa
namespace Go.Proofs.Ytdbfhdncjblleaa
open Go.RowKit

theorem layout_small {r : RunD} (h : checkE r = 0) : ((layoutD r).getD 0 []).length ≤ 100 := by
  have h4 := (numbers_ok (parts_ok h 0 (by omega))).2.2.2.2.2
  have h2 := rows_two h
  cases hc : r.coll with
  | true =>
    rw [layout_coll hc]
    show (collectedD r).length ≤ 100
    have := flat_len h r.stacks.length
    rw [List.take_length] at this
    unfold collectedD
    omega
  | false =>
    rw [layout_straight hc, List.getD_eq_getElem?_getD]
    have hl : 0 < ((List.range (rows0 r).toNat).map fun (row : Nat) => straightD r row).length := by rw [List.length_map, List.length_range]; omega
    rw [List.getElem?_eq_getElem hl]
    simp only [Option.getD_some, List.getElem_map]
    unfold straightD
    rw [List.length_map]
    omega

/-- What Sizes gives: a slice of one's own, or nil and the error. -/
def SizesRet (r : RunD) (w : World) (e : Ending) (w' : World) : Prop :=
  ∃ u, e = .returned (.tuple #[u, .int .i64 (checkE r)]) ∧ (checkE r = 0 → w'.ownsRow w.heap.size 3 1 u (sizesD r).length ((sizesD r).map (Value.int .i64))) ∧ (checkE r ≠ 0 → u = .slice none 0 0) ∧ Below w.heap.size w w'

set_option maxRecDepth 100000 in
set_option maxHeartbeats 1000000 in
theorem Sizes_any (v : Value) (r : RunD) (w : World) (h : RRun w.heap.size w v r) : Calls Try.prog 18 #[v] w (SizesRet r w) := by
  have hrun := Lib.hid h
  obtain ⟨A1, c1, A2, c2, A3, c3, rfl⟩ := h.shape
  clear h
  have F0 : ∃ W0, (w.alloc (.cells #[.slice A1 r.webs.length c1, .slice A2 r.ribs.length c2, .slice A3 r.stacks.length c3, .bool r.coll] 36)).alloc (.cells #[.slice A1 r.webs.length c1, .slice A2 r.ribs.length c2, .slice A3 r.stacks.length c3, .bool r.coll] 111) = W0 ∧
      W0.heap.size = w.heap.size + 2 ∧ Below w.heap.size w W0 ∧ Blk W0 (w.heap.size + 1) 111 #[.slice A1 r.webs.length c1, .slice A2 r.ribs.length c2, .slice A3 r.stacks.length c3, .bool r.coll] := by
    refine ⟨_, rfl, by simp, ((Below.refl _ _).alloc (Nat.le_refl _) _).alloc (by simp) _, ?_⟩
    have := Blk.new (w.alloc (.cells #[.slice A1 r.webs.length c1, .slice A2 r.ribs.length c2, .slice A3 r.stacks.length c3, .bool r.coll] 36)) 111 #[.slice A1 r.webs.length c1, .slice A2 r.ribs.length c2, .slice A3 r.stacks.length c3, .bool r.coll]
    rw [World.size_alloc] at this
    exact this
  obtain ⟨W0, e0, z0, B0, V0⟩ := F0
  have E0 := Lib.hid e0
  have Z0 := Lib.hid z0
  clear e0 z0
  go_enter Try.func18, Try.ntmps18
  go_wp2_with fail
  rw [E0.out]
  refine (check_any _ r _ ((hrun.out.below B0).more B0.size)).mono ?_
  rintro e w3 ⟨rfl, hb3⟩
  have V3 := V0.below hb3 (by rw [Z0.out]; omega)
  have B3 : Below w.heap.size w w3 := B0.trans (hb3.mono B0.size)
  clear V0 B0 E0 hb3
  have v0 := cellOf V3 0 (x := .slice A1 r.webs.length c1) rfl
  have v1 := cellOf V3 1 (x := .slice A2 r.ribs.length c2) rfl
  have v2 := cellOf V3 2 (x := .slice A3 r.stacks.length c3) rfl
  have v3 := cellOf V3 3 (x := .bool r.coll) rfl
  clear V3
  by_cases hck : checkE r = 0
  case neg =>
    have hck' : (checkE r != 0) = true := by simpa using hck
    have HR : ∀ e, e = .returned (.tuple #[.slice none 0 0, .int .i64 (checkE r)]) → SizesRet r w e w3 := fun e he => ⟨_, he, fun h => absurd h hck, fun _ => rfl, B3⟩
    have HR' := Lib.hid HR
    clear hck HR
    generalize checkE r = ck at *
    go_wp2
    go_ret2
    exact HR'.out _ rfl
  have Hok := Lib.hid hck
  rw [hck]
  clear hck
  go_wp2_with fail
  refine (sizes_any _ r _ ((hrun.out.below B3).more B3.size) Hok.out (layout_small Hok.out)).mono ?_
  rintro e w4 ⟨u, rfl, hu, hb4⟩
  have HR : ∀ e, e = .returned (.tuple #[u, .int .i64 0]) → SizesRet r w e w4 := fun e he => ⟨_, by rw [Hok.out]; exact he, fun _ => ownsRow_base hu B3.size, fun h => absurd Hok.out h, B3.trans (hb4.mono B3.size)⟩
  have HR' := Lib.hid HR
  clear HR hu hb4 v0 v1 v2 v3
  go_wp2
  go_ret2
  exact HR'.out _ rfl

def CutRet (r : RunD) (n : Int) : Value := if checkE r ≠ 0 then .tuple #[.int .i64 0, .int .i64 0, .int .i64 (checkE r)] else if n < 0 ∨ 1000000000 < n then .tuple #[.int .i64 0, .int .i64 0, .int .i64 6] else if r.coll then .tuple #[.int .i64 (n / 2), .int .i64 (n % 2), .int .i64 0] else .tuple #[.int .i64 n, .int .i64 0, .int .i64 0]

set_option maxRecDepth 100000 in
set_option maxHeartbeats 1000000 in
theorem Cut_any (v : Value) (r : RunD) (n : Int) (w : World) (h : RRun w.heap.size w v r) : Calls Try.prog 27 #[v, .int .i64 n] w fun e w' => e = .returned (CutRet r n) ∧ Below w.heap.size w w' := by
  have hrun := Lib.hid h
  obtain ⟨A1, c1, A2, c2, A3, c3, rfl⟩ := h.shape
  clear h
  have B0 : Below w.heap.size w (w.alloc (.cells #[.slice A1 r.webs.length c1, .slice A2 r.ribs.length c2, .slice A3 r.stacks.length c3, .bool r.coll] 36)) := (Below.refl _ _).alloc (Nat.le_refl _) _
  have V0 := Blk.new w 36 #[.slice A1 r.webs.length c1, .slice A2 r.ribs.length c2, .slice A3 r.stacks.length c3, .bool r.coll]
  have z0 : w.heap.size < (w.alloc (.cells #[.slice A1 r.webs.length c1, .slice A2 r.ribs.length c2, .slice A3 r.stacks.length c3, .bool r.coll] 36)).heap.size := by simp
  have HB := Lib.hid B0
  have HV := Lib.hid V0
  have HZ := Lib.hid z0
  clear B0 V0 z0
  go_enter Try.func27, Try.ntmps27
  go_wp2_with fail
  refine (Check_any _ r _ ((hrun.out.below HB.out).more HB.out.size)).mono ?_
  rintro e w3 ⟨rfl, hb3⟩
  have V3 := HV.out.below hb3 HZ.out
  have v3 := cellOf V3 3 (x := .bool r.coll) rfl
  have B3 : Below w.heap.size w w3 := HB.out.trans (hb3.mono HB.out.size)
  clear V3 hb3
  by_cases hck : checkE r = 0
  case neg =>
    have hck' : (checkE r != 0) = true := by simpa using hck
    have Hn : Hid (CutRet r n = .tuple #[.int .i64 0, .int .i64 0, .int .i64 (checkE r)]) := by show CutRet r n = _; unfold CutRet; rw [if_pos hck]
    clear hck
    generalize checkE r = ck at *
    go_wp2
    go_ret3
    exact ⟨by rw [Hn.out]; rfl, B3⟩
  have hc0 : ¬ checkE r ≠ 0 := fun h => h hck
  rw [hck]
  by_cases h1 : n < 0
  · have Hn : Hid (CutRet r n = .tuple #[.int .i64 0, .int .i64 0, .int .i64 6]) := by show CutRet r n = _; unfold CutRet; rw [if_neg hc0, if_pos (.inl h1)]
    clear hck hc0
    go_wp2
    go_ret3
    exact ⟨by rw [Hn.out]; rfl, B3⟩
  by_cases h2 : 1000000000 < n
  · have Hn : Hid (CutRet r n = .tuple #[.int .i64 0, .int .i64 0, .int .i64 6]) := by show CutRet r n = _; unfold CutRet; rw [if_neg hc0, if_pos (.inr h2)]
    clear hck hc0
    go_wp2
    go_ret3
    exact ⟨by rw [Hn.out]; rfl, B3⟩
  have h3 : ¬ (n < 0 ∨ 1000000000 < n) := by omega
  have h4 : 0 ≤ n := by omega
  have h5 : n ≤ 1000000000 := by omega
  cases hcoll : r.coll
  · have Hn : Hid (CutRet r n = .tuple #[.int .i64 n, .int .i64 0, .int .i64 0]) := by show CutRet r n = _; unfold CutRet; rw [if_neg hc0, if_neg h3, hcoll]; rfl
    rw [hcoll] at v3
    clear hck hc0 h3 h1 h2 hcoll
    go_wp2
    go_ret3
    exact ⟨by rw [Hn.out]; rfl, B3⟩
  · have Hn : Hid (CutRet r n = .tuple #[.int .i64 (n / 2), .int .i64 (n % 2), .int .i64 0]) := by show CutRet r n = _; unfold CutRet; rw [if_neg hc0, if_neg h3, hcoll]; rfl
    rw [hcoll] at v3
    clear hck hc0 h3 h1 h2 hcoll
    go_wp2
    go_ret3
    exact ⟨by rw [Hn.out]; rfl, B3⟩
end Go.Proofs.Ytdbfhdncjblleaa
