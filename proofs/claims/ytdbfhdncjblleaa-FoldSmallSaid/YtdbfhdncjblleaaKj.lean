/-
  A range over a map whose keys are structs: the iterator hands out the entries in any order, each once.
  plate: the plate on a spot.
  hasSizes.
  Where plates lie; the pages of a product in a run; what Fill and Right say.
-/
import Derived.Maps.RangeWalk
import Derived.Deep.RegionHeld3
import Derived.Test.YtdbfhdncjblleaaKd
import Derived.Test.YtdbfhdncjblleaaKe
import Derived.Test.YtdbfhdncjblleaaKa
import Derived.Test.YtdbfhdncjblleaaKi
namespace Go.Proofs.Ytdbfhdncjblleaa
open Go.RowKit
open Go.ChangeMaps (setBlock)
open Go.MapKept (heap_set)

section
variable {α β : Type} {kv : α → Value} {vv : β → Value} {P : Program}

/-- An iterator over the map in block b lies in block r: it has handed out what stands in seen. -/
def IterAt (w : World) (b r n : Nat) (seen : Array Nat) : Prop := ∃ c0, n ≤ c0 ∧ w.heap[r]? = some (.mapIter (some b) n seen c0)

theorem entsFrom_mem {e : MapEntry} : ∀ {l : List (α × β)} {n : Nat}, e ∈ entsFrom kv vv n l → ∃ i x, l[i]? = some x ∧ e = { key := kv x.1, val := vv x.2, born := n + i }
  | [], n, h => by simp [entsFrom] at h
  | y :: l, n, h => by
    rw [entsFrom_cons] at h
    rcases List.mem_cons.1 h with rfl | h
    · exact ⟨0, y, rfl, rfl⟩
    · obtain ⟨i, x, hx, he⟩ := entsFrom_mem h
      exact ⟨i + 1, x, by simpa using hx, by rw [he]; congr 1; omega⟩
theorem entsFrom_in : ∀ {l : List (α × β)} {n i : Nat} {x : α × β}, l[i]? = some x → ({ key := kv x.1, val := vv x.2, born := n + i } : MapEntry) ∈ entsFrom kv vv n l
  | [], n, i, x, h => by simp at h
  | y :: l, n, 0, x, h => by
    simp only [List.getElem?_cons_zero, Option.some.injEq] at h
    subst h
    rw [entsFrom_cons]; exact List.mem_cons_self
  | y :: l, n, i + 1, x, h => by
    rw [entsFrom_cons]
    have := entsFrom_in (n := n + 1) (l := l) (i := i) (x := x) (by simpa using h)
    rw [show n + (i + 1) = n + 1 + i by omega]
    exact List.mem_cons_of_mem _ this
theorem entsFrom_borns (l : List (α × β)) : ∀ (n : Nat), (entsFrom kv vv n l).map (·.born) = List.range' n l.length := by
  induction l with
  | nil => intro n; rfl
  | cons y l ih => intro n; rw [entsFrom_cons, List.map_cons, ih]; rfl

theorem MapAt.range {w : World} {b : Nat} {l : List (α × β)} {t k e : TypeId} (h : MapAt kv vv w b l) (ht : P.underlying t = some (.map k e)) :
    ∃ w', (Instr.range t (.map (some b))).run P w = .ok (.pointer (some ⟨w.heap.size, 0, none⟩)) w' ∧ MapAt kv vv w' b l ∧ IterAt w' b w.heap.size l.length #[] ∧ w.grownBy w' none ∧ w'.heap.size = w.heap.size + 1 :=
  ⟨_, run_range_map w t k e b _ _ ht h, h.alloc _, ⟨l.length, Nat.le_refl _, (MapKept.heap_alloc w _).1⟩, World.grownBy_alloc w _ none, by simp⟩

theorem IterAt.next {w : World} {b r : Nat} {l : List (α × β)} {seen : Array Nat} (hm : MapAt kv vv w b l) (hi : IterAt w b r l.length seen) (ty : TypeId) :
    ((∀ i, i < l.length → seen.contains i = true) ∧ (Instr.next (.pointer (some ⟨r, 0, none⟩)) false ty).run P w = .ok (.tuple #[.bool false]) w) ∨
    ∃ (i : Nat) (x : α × β) (w' : World), l[i]? = some x ∧ seen.contains i = false ∧ (Instr.next (.pointer (some ⟨r, 0, none⟩)) false ty).run P w = .ok (.tuple #[.bool true, kv x.1, vv x.2]) w' ∧
      MapAt kv vv w' b l ∧ IterAt w' b r l.length (seen.push i) ∧ w.grownBy w' (some r) ∧ w'.heap.size = w.heap.size ∧ (Instr.entry (.pointer (some ⟨r, 0, none⟩))).run P w' = .ok (.tuple #[kv x.1, vv x.2]) w' := by
  obtain ⟨c0, hc, hr⟩ := hi
  have hne : r ≠ b := by
    rintro rfl
    unfold MapAt at hm
    rw [hm] at hr; cases hr
  have hold : ∀ x ∈ (entsFrom kv vv 0 l).toArray.toList, x.born < l.length := fun x hx => by
    obtain ⟨i, y, hy, rfl⟩ := entsFrom_mem (by simpa using hx)
    have := (List.getElem?_eq_some_iff.1 hy).1
    show 0 + i < _
    omega
  have hnd : ((entsFrom kv vv 0 l).toArray.toList.map (·.born)).Nodup := by
    show ((entsFrom kv vv 0 l).map (·.born)).Nodup
    rw [entsFrom_borns]; exact List.nodup_range'
  rcases run_next_at (P := P) w ty r b l.length c0 seen _ _ hr hm hold hc with ⟨h0, hrun⟩ | ⟨e, he, w1, hal, hrun⟩
  · refine .inl ⟨fun i hil => ?_, hrun⟩
    have h1 := all_seen _ seen h0 _ (by simpa using entsFrom_in (kv := kv) (vv := vv) (n := 0) (List.getElem?_eq_getElem hil))
    simpa using h1
  · obtain ⟨hem, hes⟩ := mem_left he
    obtain ⟨i, x, hx, rfl⟩ := entsFrom_mem (by simpa using hem)
    have hr1 : w1.heap[r]? = some (.mapIter (some b) l.length seen c0) := by rcases hal with rfl | rfl <;> exact hr
    have hb1 : MapAt kv vv w1 b l := by rcases hal with rfl | rfl <;> exact hm
    have hset := heap_set (o' := .mapIter (some b) l.length (seen.push (0 + i)) l.length) hr1
    have hb' : MapAt kv vv (setBlock w1 r (.mapIter (some b) l.length (seen.push (0 + i)) l.length)) b l := (hset.2 b (fun e1 => hne e1.symm)).trans hb1
    refine .inr ⟨i, x, _, hx, by simpa using hes, hrun, hb', ⟨l.length, Nat.le_refl _, hset.1.trans (by rw [Nat.zero_add])⟩, ?_, ?_, run_entry_at _ r b l.length seen _ _ _ hset.1 hb' hem hnd⟩
    · rcases hal with rfl | rfl <;> exact ⟨rfl, rfl, rfl, by simp [setBlock], fun i _ hi => hset.2 i (fun e1 => hi (by rw [e1]))⟩
    · rcases hal with rfl | rfl <;> simp [setBlock]

/-- How many entries are still to come. -/
def iterLeft (n : Nat) (w : World) (r : Nat) : Nat := ((List.range n).filter fun i => !(w.iterSeen r).contains i).length
theorem IterAt.seen_eq {w : World} {b r n : Nat} {seen : Array Nat} (h : IterAt w b r n seen) : w.iterSeen r = seen := by
  obtain ⟨c0, -, hr⟩ := h
  unfold World.iterSeen
  rw [hr]
theorem iterLeft_lt {w w' : World} {b r n i : Nat} {seen : Array Nat} (h : IterAt w b r n seen) (h' : IterAt w' b r n (seen.push i)) (hi : i < n) (hs : seen.contains i = false) : iterLeft n w' r < iterLeft n w r := by
  unfold iterLeft
  rw [h.seen_eq, h'.seen_eq]
  refine filter_lt _ _ (fun x hx => ?_) i (by rw [hs]; rfl) (by rw [contains_push]; simp) _ (List.mem_range.2 hi)
  rw [contains_push] at hx
  cases hc : seen.contains x with
  | false => rfl
  | true => rw [hc] at hx; simp at hx
theorem IterAt.lt {w : World} {b r n : Nat} {seen : Array Nat} (h : IterAt w b r n seen) : r < w.heap.size := by
  obtain ⟨c0, -, hr⟩ := h
  exact (Array.getElem?_eq_some_iff.1 hr).1
theorem IterAt.below {w w' : World} {b r n : Nat} {seen : Array Nat} (h : IterAt w b r n seen) (hb : Below w.heap.size w w') : IterAt w' b r n seen := by
  obtain ⟨c0, hc, hr⟩ := h
  exact ⟨c0, hc, (hb.block r (Array.getElem?_eq_some_iff.1 hr).1).trans hr⟩
theorem IterAt.alloc {w : World} {b r n : Nat} {seen : Array Nat} (h : IterAt w b r n seen) (o : Obj) : IterAt (w.alloc o) b r n seen := h.below ((Below.refl _ _).alloc (Nat.le_refl _) o)
theorem IterAt.setCell {w : World} {b r n : Nat} {seen : Array Nat} (h : IterAt w b r n seen) {p : Addr} (hp : p.block ≠ r) (v : Value) : IterAt (w.setCell p v) b r n seen := by
  obtain ⟨c0, hc, hr⟩ := h
  exact ⟨c0, hc, (Below.heap_setCell w p v r (fun e => hp e.symm)).trans hr⟩
theorem MapAt.setCell {w : World} {b : Nat} {l : List (α × β)} (h : MapAt kv vv w b l) {p : Addr} (hp : p.block ≠ b) (v : Value) : MapAt kv vv (w.setCell p v) b l :=
  (Below.heap_setCell w p v b (fun e => hp e.symm)).trans h

variable (w : World) {ops : Array Oper} {rest : List Oper} {o : Oper} {a : Act} {Q : Exit → Act → World → Prop}
theorem wpList_range_iter (hg : o.guard = none) (m : Operand) (t : TypeId) (hop : o.op = Op.range t m) (k e : TypeId) (ht : P.underlying t = some (.map k e)) (b : Nat) (l : List (α × β))
    (hm : a.eval m = .map (some b)) (hown : MapAt kv vv w b l)
    (hK : ∀ w', MapAt kv vv w' b l → IterAt w' b w.heap.size l.length #[] → w.grownBy w' none → w'.heap.size = w.heap.size + 1 → wpList P ops Q rest (a.put o.dst (.pointer (some ⟨w.heap.size, 0, none⟩))) w') :
    wpList P ops Q (o :: rest) a w := by
  refine wpList_plain hg fun K' hK' => ?_
  obtain ⟨w', hrun, r1, r2, r3, r4⟩ := hown.range ht
  unfold Oper.wp
  simp [execOp, hop, hm, hrun, Result.andThen]
  exact hK' _ _ (hK w' r1 r2 r3 r4)
theorem wpList_next_iter (hg : o.guard = none) (it : Operand) (hop : o.op = Op.next it false) (b r : Nat) (l : List (α × β)) (seen : Array Nat)
    (hit : a.eval it = .pointer (some ⟨r, 0, none⟩)) (hm : MapAt kv vv w b l) (hi : IterAt w b r l.length seen)
    (hDone : (∀ i, i < l.length → seen.contains i = true) → wpList P ops Q rest (a.put o.dst (.tuple #[.bool false])) w)
    (hMore : ∀ (i : Nat) (x : α × β) (w' : World), l[i]? = some x → seen.contains i = false → MapAt kv vv w' b l → IterAt w' b r l.length (seen.push i) → w.grownBy w' (some r) → w'.heap.size = w.heap.size →
      (Instr.entry (.pointer (some ⟨r, 0, none⟩))).run P w' = .ok (.tuple #[kv x.1, vv x.2]) w' → wpList P ops Q rest (a.put o.dst (.tuple #[.bool true, kv x.1, vv x.2])) w') :
    wpList P ops Q (o :: rest) a w := by
  refine wpList_plain hg fun K' hK' => ?_
  unfold Oper.wp
  rcases hi.next (P := P) hm o.type with ⟨h0, hrun⟩ | ⟨i, x, w', hx, hs, hrun, h1, h2, h3, h4, h5⟩
  · simp [execOp, hop, hit, hrun, Result.andThen]
    exact hK' _ _ (hDone h0)
  · simp [execOp, hop, hit, hrun, Result.andThen]
    exact hK' _ _ (hMore i x w' hx hs h1 h2 h3 h4 h5)
end
end Go.Proofs.Ytdbfhdncjblleaa
namespace Go.Proofs.Ytdbfhdncjblleaa
open Go.RowKit

def PlateD.val (p : PlateD) : Value := .agg #[.int .i64 p.page, .bool p.up]

set_option maxRecDepth 100000 in
set_option maxHeartbeats 2000000 in
theorem plate_any (v : Value) (r : RunD) (web m : Nat) (side row col : Int) (x : WebD) (k : Nat) (p : PlateD) (w : World) (h : RRun w.heap.size w v r) (hw : web = m) (hx : r.webs[m]? = some x) (hp : x.plates[k]? = some p)
    (hk : (side * x.rows + row) * x.cols + col = (k : Int)) (h1 : 0 ≤ side * x.rows ∧ side * x.rows ≤ 1000) (h2 : 0 ≤ side * x.rows + row ∧ side * x.rows + row ≤ 1000)
    (h3 : 0 ≤ (side * x.rows + row) * x.cols ∧ (side * x.rows + row) * x.cols ≤ 1000) (h4 : k ≤ 1000) :
    Calls Try.prog 56 #[v, .agg #[.int .i64 web, .int .i64 side, .int .i64 row, .int .i64 col]] w fun e w' => e = .returned p.val ∧ Below w.heap.size w w' := by
  subst hw
  obtain ⟨pg, up⟩ := p
  obtain ⟨xc, xr, xp⟩ := x
  dsimp only at hp hk h1 h2 h3
  obtain ⟨v1, v2, v3, rfl, hW, hR, hS⟩ := h
  obtain ⟨A1, c1, rfl, hA1, hA⟩ := hW.open_
  obtain ⟨A2, c2, rfl, -⟩ := RRibs.open_ hR
  obtain ⟨A3, c3, rfl, -⟩ := RAll.open_ hS
  obtain ⟨g, o, u, rfl, hgb, hc1, hc2, hc3, hP⟩ := hA web _ hx
  obtain ⟨A5, c5, rfl, hA5, hPl⟩ := hP.open_
  obtain ⟨g5, o5, rfl, hgb5, hd1, hd2⟩ := hPl k _ hp
  have hi1 : (web : Int) < (r.webs.length : Int) := by have := (List.getElem?_eq_some_iff.1 hx).1; omega
  have hi2 : (k : Int) < (xp.length : Int) := by have := (List.getElem?_eq_some_iff.1 hp).1; omega
  dsimp only at hc1 hc2 hc3
  have F0 : ∃ W0, (((w.alloc (.cells #[.slice (some ⟨g, o, none⟩) r.webs.length c1, .slice A2 r.ribs.length c2, .slice A3 r.stacks.length c3, .bool r.coll] 111)).alloc (.cells #[.int .i64 web, .int .i64 side, .int .i64 row, .int .i64 col] 53)).alloc (.cells #[.int .i64 0, .bool false] 89)) = W0 ∧
      W0.heap.size = w.heap.size + 3 ∧ Below w.heap.size w W0 ∧ Blk W0 w.heap.size 111 #[.slice (some ⟨g, o, none⟩) r.webs.length c1, .slice A2 r.ribs.length c2, .slice A3 r.stacks.length c3, .bool r.coll] ∧
      Blk W0 (w.heap.size + 1) 53 #[.int .i64 web, .int .i64 side, .int .i64 row, .int .i64 col] ∧ Blk W0 (w.heap.size + 1 + 1) 89 #[.int .i64 0, .bool false] := by
    refine ⟨_, rfl, by simp, ((((Below.refl _ _).alloc (Nat.le_refl _) _).alloc (by simp) _).alloc (by simp; omega) _), ((Blk.new w _ _).alloc _).alloc _, ?_, ?_⟩
    · have := Blk.new (w.alloc (.cells #[.slice (some ⟨g, o, none⟩) r.webs.length c1, .slice A2 r.ribs.length c2, .slice A3 r.stacks.length c3, .bool r.coll] 111)) 53 #[.int .i64 web, .int .i64 side, .int .i64 row, .int .i64 col]
      rw [World.size_alloc] at this
      exact this.alloc _
    · have := Blk.new ((w.alloc (.cells #[.slice (some ⟨g, o, none⟩) r.webs.length c1, .slice A2 r.ribs.length c2, .slice A3 r.stacks.length c3, .bool r.coll] 111)).alloc (.cells #[.int .i64 web, .int .i64 side, .int .i64 row, .int .i64 col] 53)) 89 #[.int .i64 0, .bool false]
      rw [World.size_alloc, World.size_alloc] at this
      exact this
  obtain ⟨W0, e0, z0, B0, V0, P0, R0⟩ := F0
  have E0 := Lib.hid e0
  have Z0 := Lib.hid z0
  have hc1 := (B0.cell (p := ⟨g, o + web * 3, none⟩) hgb).trans hc1
  have hc2 := (B0.cell (p := ⟨g, o + web * 3 + 1, none⟩) hgb).trans hc2
  have hc3 := (B0.cell (p := ⟨g, o + web * 3 + 2, none⟩) hgb).trans hc3
  have v0 := cellOf V0 0 (x := .slice (some ⟨g, o, none⟩) r.webs.length c1) rfl
  have p0 := cellOf P0 0 (x := .int .i64 web) rfl
  clear e0 z0 hA hPl hW hR hS hA1 hA5 hx hp hP V0
  go_enter Try.func56, Try.ntmps56
  go_upto_region 1 with fail
  rw [E0.out]
  go_upto_region 2 with fail
  have F1 : ∃ W1, W0.alloc (.cells #[.int .i64 xc, .int .i64 xr, .slice (some ⟨g5, o5, none⟩) xp.length c5] 87) = W1 ∧ W1.heap.size = W0.heap.size + 1 ∧ Below W0.heap.size W0 W1 ∧ Blk W1 W0.heap.size 87 #[.int .i64 xc, .int .i64 xr, .slice (some ⟨g5, o5, none⟩) xp.length c5] :=
    ⟨_, rfl, by simp, (Below.refl _ _).alloc (Nat.le_refl _) _, Blk.new _ _ _⟩
  obtain ⟨W1, e1, z1, B1, U1⟩ := F1
  have n1 : w.heap.size + 1 < W0.heap.size := by rw [Z0.out]; omega
  have n2 : w.heap.size + 1 + 1 < W0.heap.size := by rw [Z0.out]; omega
  have P1 := P0.below B1 n1
  have R1 := R0.below B1 n2
  have B01 : Below w.heap.size w W1 := B0.trans (B1.mono B0.size)
  have hd1 := (B01.cell (p := ⟨g5, o5 + k * 2, none⟩) hgb5).trans hd1
  have hd2 := (B01.cell (p := ⟨g5, o5 + k * 2 + 1, none⟩) hgb5).trans hd2
  dsimp only at hd1 hd2
  have ng : g5 < W1.heap.size := by have := B01.size; omega
  have ne : W0.heap.size < W1.heap.size := by omega
  have hfacts : ∀ X, Below W1.heap.size W1 X → X.cell? ⟨W0.heap.size, 0, none⟩ = some (.int .i64 xc) ∧ X.cell? ⟨W0.heap.size, 1, none⟩ = some (.int .i64 xr) ∧ X.cell? ⟨W0.heap.size, 2, none⟩ = some (.slice (some ⟨g5, o5, none⟩) xp.length c5) ∧
      X.cell? ⟨w.heap.size + 1, 0, none⟩ = some (.int .i64 web) ∧ X.cell? ⟨w.heap.size + 1, 1, none⟩ = some (.int .i64 side) ∧ X.cell? ⟨w.heap.size + 1, 2, none⟩ = some (.int .i64 row) ∧ X.cell? ⟨w.heap.size + 1, 3, none⟩ = some (.int .i64 col) ∧
      X.cell? ⟨g5, o5 + k * 2, none⟩ = some (.int .i64 pg) ∧ X.cell? ⟨g5, o5 + k * 2 + 1, none⟩ = some (.bool up) := fun X hX => by
    have k1 := U1.below hX ne
    have k2 := P1.below hX (by omega)
    exact ⟨cellOf k1 0 rfl, cellOf k1 1 rfl, cellOf k1 2 rfl, cellOf k2 0 rfl, cellOf k2 1 rfl, cellOf k2 2 rfl, cellOf k2 3 rfl, (hX.cell (p := ⟨g5, o5 + k * 2, none⟩) ng).trans hd1, (hX.cell (p := ⟨g5, o5 + k * 2 + 1, none⟩) ng).trans hd2⟩
  have HF := Lib.hid hfacts
  have hcall : ∀ X, Below W1.heap.size W1 X → Calls Try.prog 59 #[.agg #[.int .i64 xc, .int .i64 xr, .slice (some ⟨g5, o5, none⟩) xp.length c5], .agg #[.int .i64 web, .int .i64 side, .int .i64 row, .int .i64 col]] X fun e w' => e = .returned (.int .i64 k) ∧ Below W1.heap.size W1 w' :=
    fun X hX => (plateIndex_any xc xr web side row col _ X h1 h2 h3 (by omega)).mono fun e w' he => ⟨by rw [he.1, hk], hX.trans (he.2.mono hX.size)⟩
  have HC := Lib.hid hcall
  have hr : ∀ X, Below W1.heap.size W1 X → Blk X (w.heap.size + 1 + 1) 89 #[.int .i64 0, .bool false] := fun X hX => R1.below hX (by omega)
  have HR := Lib.hid hr
  obtain ⟨d0, d1, d2, q0, q1, q2, q3, m0, m1⟩ := HF.out W1 (Below.refl _ _)
  have r0 := cellOf R1 0 (x := .int .i64 0) rfl
  have r1 := cellOf R1 1 (x := .bool false) rfl
  have f0 := R1.frozen 0
  have f1 := R1.frozen 1
  rw [e1]
  have x1 : w.heap.size + 1 + 1 ≠ W0.heap.size := by omega
  have x2 : W0.heap.size ≠ w.heap.size + 1 + 1 := by omega
  have x3 : w.heap.size + 1 + 1 ≠ g5 := by omega
  have x4 : g5 ≠ w.heap.size + 1 + 1 := by omega
  clear hfacts hcall hr hd1 hd2 P0 R0 U1 P1 R1 e1 hc1 hc2 hc3 v0 p0 E0 h1 h2 h3 hk hi1 hgb hgb5
  go_region_held3 (fun X => X.cell? ⟨W0.heap.size, 0, none⟩ = some (.int .i64 xc) ∧ X.cell? ⟨W0.heap.size, 1, none⟩ = some (.int .i64 xr) ∧ X.cell? ⟨W0.heap.size, 2, none⟩ = some (.slice (some ⟨g5, o5, none⟩) xp.length c5) ∧
      X.cell? ⟨w.heap.size + 1, 0, none⟩ = some (.int .i64 web) ∧ X.cell? ⟨w.heap.size + 1, 1, none⟩ = some (.int .i64 side) ∧ X.cell? ⟨w.heap.size + 1, 2, none⟩ = some (.int .i64 row) ∧ X.cell? ⟨w.heap.size + 1, 3, none⟩ = some (.int .i64 col) ∧
      X.cell? ⟨g5, o5 + k * 2, none⟩ = some (.int .i64 pg) ∧ X.cell? ⟨g5, o5 + k * 2 + 1, none⟩ = some (.bool up))
    (first | exact HF.out _ (by assumption) | exact HF.out _ (Below.refl _ _) | exact HF.out _ (Below.refl _ _).drew | go_keep)
    (first | (go_at_call 59; refine (HC.out _ ?_).mono ?_; (first | assumption | exact Below.refl _ _ | exact (Below.refl _ _).drew); rintro e w5 ⟨rfl, h5⟩; have r5 := cellOf (HR.out _ h5) 0 (x := .int .i64 0) rfl; have s5 := cellOf (HR.out _ h5) 1 (x := .bool false) rfl; have t5 := (HR.out _ h5).frozen 0; have u5 := (HR.out _ h5).frozen 1))
  have hfin : Below w.heap.size w ((w5.setCell ⟨w.heap.size + 1 + 1, 0, none⟩ (.int .i64 pg)).setCell ⟨w.heap.size + 1 + 1, 1, none⟩ (.bool up)) :=
    ((B01.trans (Below.mono (by assumption) B01.size)).setCell (p := ⟨w.heap.size + 1 + 1, 0, none⟩) (by show w.heap.size ≤ w.heap.size + 1 + 1; omega) _).setCell (p := ⟨w.heap.size + 1 + 1, 1, none⟩) (by show w.heap.size ≤ w.heap.size + 1 + 1; omega) _
  go_wp2
  refine bodyPost_ret (v := .agg #[.int .i64 pg, .bool up]) (by simp [results, Try.results56, go_sem, r5, s5]) rfl ⟨rfl, hfin⟩
end Go.Proofs.Ytdbfhdncjblleaa
namespace Go.Proofs.Ytdbfhdncjblleaa
open Go.RowKit

def hasSizesB (r : RunD) (product : List (List Int)) : Bool := decide (sizesD r = lensD product)

set_option maxRecDepth 100000 in
set_option maxHeartbeats 1000000 in
theorem hasSizes_any (v pv : Value) (r : RunD) (product : List (List Int)) (w : World) (h : RRun w.heap.size w v r) (hok : checkE r = 0) (hp : RIntss w.heap.size w pv product) :
    Calls Try.prog 55 #[v, pv] w fun e w' => e = .returned (.bool (hasSizesB r product)) ∧ Below w.heap.size w w' := by
  have hrun := Lib.hid h
  have Hok := Lib.hid hok
  have Hp := Lib.hid hp
  obtain ⟨A1, c1, A2, c2, A3, c3, rfl⟩ := h.shape
  obtain ⟨Ap, cp, rfl, -⟩ := RAll.open_ hp
  have hsm := Lib.hid (layout_small hok)
  clear h hok hp
  have F0 : ∃ W0, w.alloc (.cells #[.slice A1 r.webs.length c1, .slice A2 r.ribs.length c2, .slice A3 r.stacks.length c3, .bool r.coll] 111) = W0 ∧ Below w.heap.size w W0 ∧ Blk W0 w.heap.size 111 #[.slice A1 r.webs.length c1, .slice A2 r.ribs.length c2, .slice A3 r.stacks.length c3, .bool r.coll] :=
    ⟨_, rfl, (Below.refl _ _).alloc (Nat.le_refl _) _, Blk.new _ _ _⟩
  obtain ⟨W0, e0, B0, V0⟩ := F0
  have E0 := Lib.hid e0
  clear e0
  go_enter Try.func55, Try.ntmps55
  go_wp2_with fail
  rw [E0.out]
  refine (sizes_any _ r _ ((hrun.out.below B0).more B0.size) Hok.out hsm.out).mono ?_
  rintro e w3 ⟨u, rfl, hu, hb3⟩
  have B3 : Below w.heap.size w w3 := B0.trans (hb3.mono B0.size)
  have hi : RInts w3.heap.size w3 u (sizesD r) := Rd.own (by simpa using hu) (own_le hu)
  have hq : RIntss w3.heap.size w3 (.slice Ap product.length cp) product := (Hp.out.below B3).more B3.size
  have C := Lib.hid (equalFunc_any _ _ _ _ w3 hi hq)
  clear hu hb3 V0 hi hq
  go_wp2_with fail
  refine C.out.mono ?_
  rintro e w4 ⟨rfl, rfl⟩
  go_wp2
  go_ret
  exact ⟨rfl, B3⟩
end Go.Proofs.Ytdbfhdncjblleaa
namespace Go.Proofs.Ytdbfhdncjblleaa
open Go.RowKit

def pageOf (product : List (List Int)) (p : PlaceD) : Int := (product.getD p.sec.toNat []).getD p.idx.toNat 0
def plateI (x : WebD) (s : SpotD) : Nat := ((s.side * x.rows + s.row) * x.cols + s.col).toNat
def plateAt (ws : List WebD) (s : SpotD) : PlateD := (ws.getD s.web.toNat default).plates.getD (plateI (ws.getD s.web.toNat default) s) default
def fillE (r : RunD) (product : List (List Int)) : Int := if checkE r ≠ 0 then checkE r else if hasSizesB r product = false then 21 else if hasPagesB product = false then 6 else 0

theorem plate_lt {side rows row cols col : Int} (h1 : side = 0 ∨ side = 1) (h2 : 1 ≤ rows ∧ rows ≤ 2) (h3 : 0 ≤ row ∧ row < rows) (h4 : 1 ≤ cols ∧ cols ≤ 4) (h5 : 0 ≤ col ∧ col < cols) :
    0 ≤ (side * rows + row) * cols + col ∧ (side * rows + row) * cols + col < 2 * rows * cols ∧ 2 * rows * cols ≤ 16 ∧ 0 ≤ side * rows ∧ side * rows ≤ 2 ∧ 0 ≤ (side * rows + row) * cols ∧ (side * rows + row) * cols ≤ 16 := by
  rcases (show rows = 1 ∨ rows = 2 by omega) with rfl | rfl <;> rcases (show cols = 1 ∨ cols = 2 ∨ cols = 3 ∨ cols = 4 by omega) with rfl | rfl | rfl | rfl <;> omega
theorem plate_inj {side rows row cols col side' row' col' : Int} (h1 : side = 0 ∨ side = 1) (h2 : 1 ≤ rows ∧ rows ≤ 2) (h3 : 0 ≤ row ∧ row < rows) (h4 : 1 ≤ cols ∧ cols ≤ 4) (h5 : 0 ≤ col ∧ col < cols)
    (k1 : side' = 0 ∨ side' = 1) (k3 : 0 ≤ row' ∧ row' < rows) (k5 : 0 ≤ col' ∧ col' < cols) (h : (side * rows + row) * cols + col = (side' * rows + row') * cols + col') : side = side' ∧ row = row' ∧ col = col' := by
  rcases (show rows = 1 ∨ rows = 2 by omega) with rfl | rfl <;> rcases (show cols = 1 ∨ cols = 2 ∨ cols = 3 ∨ cols = 4 by omega) with rfl | rfl | rfl | rfl <;> omega

/-- A spot of a right run. -/
structure SpotOk (r : RunD) (s : SpotD) (m : Nat) (x : WebD) : Prop where
  web : s.web = m
  there : r.webs[m]? = some x
  side : s.side = 0 ∨ s.side = 1
  row : 0 ≤ s.row ∧ s.row < x.rows
  col : 0 ≤ s.col ∧ s.col < x.cols
  rows : 1 ≤ x.rows ∧ x.rows ≤ 2
  cols : 1 ≤ x.cols ∧ x.cols ≤ 4
  plates : (x.plates.length : Int) = 2 * x.rows * x.cols
theorem spot_ok {r : RunD} (h : checkE r = 0) {s : SpotD} (hs : s ∈ allSpots r) : ∃ m x, SpotOk r s m x := by
  obtain ⟨st, hst, row, hrow, hsp⟩ := all_mem.1 hs
  obtain ⟨x, hx, hxs⟩ := List.mem_flatMap.1 hsp
  obtain ⟨k, hk, e⟩ := List.getElem_of_mem hst
  obtain ⟨i, -, ho, e1, e2, e3, e4⟩ := half_ok h (List.getElem?_eq_getElem hk) (by rw [e]; exact hx)
  have hm : (ribAt r i).web.toNat < r.webs.length := by have := ho.web0; have := ho.web1; omega
  have hw := webs_ok (parts_ok h 1 (by omega)) _ (List.getElem_mem hm)
  have hc1 := ho.col1
  rw [getD_of (List.getElem?_eq_getElem hm)] at hc1
  obtain ⟨w1, w2, w3, w4, w5, w6, -⟩ := hw
  have hsx : s.web = x.web ∧ (s.side = x.s0 ∨ s.side = x.s1) ∧ s.row = row ∧ s.col = x.col := by
    simp only [halfSpots, List.mem_cons, List.not_mem_nil, or_false] at hxs
    rcases hxs with rfl | rfl
    · exact ⟨rfl, .inl rfl, rfl, rfl⟩
    · exact ⟨rfl, .inr rfl, rfl, rfl⟩
  obtain ⟨s1, s2, s3, s4⟩ := hsx
  have hw0 := ho.web0
  have hc0 := ho.col0
  exact ⟨_, _, by rw [s1, e1]; omega, List.getElem?_eq_getElem hm, by omega, by omega, by omega, ⟨w3, w4⟩, ⟨w1, w2⟩, w6⟩
theorem place_all {r : RunD} {s : SpotD} {p : PlaceD} (h : (s, p) ∈ placesD r) : s ∈ allSpots r := by
  have : s ∈ (placesD r).map (·.1) := List.mem_map_of_mem (f := (·.1)) h
  unfold placesD at this
  rw [row3_keys] at this
  exact this
theorem SpotOk.idx {r : RunD} {s : SpotD} {m : Nat} {x : WebD} (h : SpotOk r s m x) : plateI x s < x.plates.length ∧ ((plateI x s : Nat) : Int) = (s.side * x.rows + s.row) * x.cols + s.col := by
  have := plate_lt h.side h.rows h.row h.cols h.col
  have := h.plates
  unfold plateI
  omega
theorem SpotOk.inj {r : RunD} {s s' : SpotD} {m : Nat} {x : WebD} (h : SpotOk r s m x) (h' : SpotOk r s' m x) (e : plateI x s = plateI x s') : s = s' := by
  have e1 := h.idx.2
  have e2 := h'.idx.2
  rw [e] at e1
  obtain ⟨a, b, c⟩ := plate_inj h.side h.rows h.row h.cols h.col h'.side h'.row h'.col (e1.symm.trans e2)
  have d := h.web.trans h'.web.symm
  cases s; cases s'
  simp only at a b c d
  subst a b c d
  rfl

theorem spots_same (r : RunD) (st : List Int) (row row' : Int) : (spotsD r st row).length = (spotsD r st row').length := by
  have h1 : (spotsD r st row).length = 2 * (halvesD r st).length := outD_len row _
  have h2 : (spotsD r st row').length = 2 * (halvesD r st).length := outD_len row' _
  rw [h1, h2]
theorem alike {r : RunD} (h : checkE r = 0) {c : Nat} {S : List (List SpotD)} (hS : (layoutD r)[c]? = some S) : (S.map fun l => (l.length : Int)) = sizesD r := by
  have h2 := rows_two h
  unfold sizesD
  cases hc : r.coll with
  | true =>
    rw [layout_coll hc] at hS ⊢
    have h0 : c = 0 := by have := (List.getElem?_eq_some_iff.1 hS).1; simpa using this
    subst h0
    simp only [List.getElem?_cons_zero, Option.some.injEq] at hS
    subst hS
    rfl
  | false =>
    rw [layout_straight hc] at hS ⊢
    have hl : 0 < ((List.range (rows0 r).toNat).map fun (row : Nat) => straightD r row).length := by rw [List.length_map, List.length_range]; omega
    rw [getD_of (List.getElem?_eq_getElem hl)]
    obtain ⟨row, -, rfl⟩ := List.mem_map.1 (List.mem_of_getElem? hS)
    simp only [List.getElem_map, straightD, List.map_map]
    exact List.map_congr_left fun st _ => by simp only [Function.comp]; exact congrArg Int.ofNat (spots_same r st _ _)
theorem place_in {r : RunD} (h : checkE r = 0) {product : List (List Int)} (hsz : hasSizesB r product = true) {s : SpotD} {p : PlaceD} (hm : (s, p) ∈ placesD r) :
    ∃ (c k i : Nat) (sec : List Int) (page : Int), p = ⟨c, k, i⟩ ∧ product[k]? = some sec ∧ sec[i]? = some page ∧ pageOf product p = page := by
  obtain ⟨c, k, i, S, l, rfl, hS, hl, hi⟩ := place_mem.1 hm
  have ha : (S.map fun l => (l.length : Int)) = product.map fun x => (x.length : Int) := (alike h hS).trans (of_decide_eq_true hsz)
  have hk := (List.getElem?_eq_some_iff.1 hl).1
  have hlen : S.length = product.length := by have := congrArg List.length ha; simpa using this
  obtain ⟨sec, hsec⟩ : ∃ sec, product[k]? = some sec := ⟨_, List.getElem?_eq_getElem (by omega)⟩
  have h3 : (some (l.length : Int)) = some (sec.length : Int) := by
    have := congrArg (fun z => z[k]?) ha
    simpa [List.getElem?_map, hl, hsec] using this
  have hi2 := (List.getElem?_eq_some_iff.1 hi).1
  obtain ⟨page, hp⟩ : ∃ page, sec[i]? = some page := ⟨_, List.getElem?_eq_getElem (by simp only [Option.some.injEq] at h3; omega)⟩
  exact ⟨c, k, i, sec, page, rfl, hsec, hp, by unfold pageOf; simp only [Int.toNat_natCast]; rw [getD_of hsec, getD_of hp]⟩

end Go.Proofs.Ytdbfhdncjblleaa
