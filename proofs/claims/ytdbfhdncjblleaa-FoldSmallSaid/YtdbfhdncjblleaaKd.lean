/-
  layout: the spots of each section of each copy.
  MAPS WHOSE KEYS ARE STRUCTS OF NUMBERS: their entries as a list, in the order in which they came.
  What layout makes, read; sizes; places.
  places: the place that each spot prints.
-/
import Derived.Test.YtdbfhdncjblleaaKc
namespace Go.Proofs.Ytdbfhdncjblleaa
open Go.RowKit

def layoutD (r : RunD) : List (List (List SpotD)) := if r.coll then [collectedD r] else (List.range (rows0 r).toNat).map fun (row : Nat) => straightD r row
theorem layout_coll {r : RunD} (h : r.coll = true) : layoutD r = [collectedD r] := by unfold layoutD; rw [if_pos h]
theorem layout_straight {r : RunD} (h : r.coll = false) : layoutD r = (List.range (rows0 r).toNat).map fun (row : Nat) => straightD r row := by unfold layoutD; rw [h]; rfl

/-- One element in a slice of its own. -/
theorem OCopies.one {base : Nat} {w : World} {u : Value} {l : List (List SpotD)} (hb : base ≤ w.heap.size) (h : OSecs base w u l) : OCopies base (w.alloc (.cells #[u] 115)) (.slice (some ⟨w.heap.size, 0, none⟩) 1 1) [l] := by
  refine ⟨[u], ⟨rfl, .inr ⟨w.heap.size, 1, #[u], rfl, hb, heap_alloc_new w _, Nat.le_refl _, by simp [maxLen], rfl, rfl⟩⟩, fun i x y hx hy => ?_⟩
  have hi : i = 0 := by
    rcases Nat.eq_zero_or_pos i with h0 | h0
    · exact h0
    · rw [List.getElem?_eq_none (by simp; omega)] at hx; cases hx
  subst hi
  simp only [List.getElem?_cons_zero, Option.some.injEq] at hx hy
  subst hx hy
  exact h.below ((Below.refl _ w).alloc (Nat.le_refl _) _)

set_option maxRecDepth 100000 in
set_option maxHeartbeats 1000000 in
theorem layout_any (v : Value) (r : RunD) (w : World) (h : RRun w.heap.size w v r) (hok : checkE r = 0) :
    Calls Try.prog 43 #[v] w fun e w' => ∃ u, e = .returned u ∧ OCopies w.heap.size w' u (layoutD r) ∧ Below w.heap.size w w' := by
  obtain ⟨i0, hi, hz0, hz1, hz2⟩ := info_parts infoSecs
  have hrun := Lib.hid h
  have Hok := Lib.hid hok
  have hn1 := (numbers_ok (parts_ok hok 0 (by omega))).1
  have hr2 := rows_two hok
  obtain ⟨v1, v2, v3, rfl, hw, -, -⟩ := h
  obtain ⟨A2, ca2, rfl, hA2, hW⟩ := hw.open_
  obtain ⟨y, hy⟩ : ∃ y, r.webs[0]? = some y := ⟨_, List.getElem?_eq_getElem hn1⟩
  obtain ⟨g0, o0, u0, rfl, hb0, -, hw2, -, -⟩ := hW 0 y hy
  simp only [Nat.zero_mul, Nat.add_zero] at hw2
  have hry : rows0 r = y.rows := by unfold rows0; rw [getD_of hy]
  obtain ⟨q, hq⟩ : ∃ q : Nat, rows0 r = q := ⟨(rows0 r).toNat, by omega⟩
  rw [← hry, hq] at hw2
  rw [hq] at hr2
  have Hq := Lib.hid hq
  have Hw2 := Lib.hid hw2
  have i0' : (0 : Int) < (r.webs.length : Int) := by omega
  clear hok hw hW hw2 hry hq hy
  have b0 : Below w.heap.size w (w.alloc (.cells #[.slice (some ⟨g0, o0, none⟩) r.webs.length ca2, v2, v3, .bool r.coll] 111)) := (Below.refl _ _).alloc (Nat.le_refl _) _
  have c0 := fun j x => box4 (w := w) (a := .slice (some ⟨g0, o0, none⟩) r.webs.length ca2) (b := v2) (c := v3) (d := .bool r.coll) (t := 111) j x
  have z0 : (w.alloc (.cells #[.slice (some ⟨g0, o0, none⟩) r.webs.length ca2, v2, v3, .bool r.coll] 111)).heap.size = w.heap.size + 1 := by simp
  have C0 := Lib.hid c0
  have B0 := Lib.hid b0
  have Z0 := Lib.hid z0
  clear c0 b0 z0
  cases hcoll : r.coll
  · have Hl := Lib.hid (layout_straight hcoll)
    rw [hcoll] at C0 B0 Z0 hrun
    clear hcoll
    have hw3 := (B0.out.cell (p := ⟨g0, o0 + 1, none⟩) hb0).trans Hw2.out
    go_enter Try.func43, Try.ntmps43
    go_wp2
    clear hw3
    generalize w.alloc (.cells #[.slice (some ⟨g0, o0, none⟩) r.webs.length ca2, v2, v3, .bool false] 111) = w1 at *
    go_loopw [3, 17] (fun u i wr => ∃ k : Nat, k ≤ q ∧ i = .int .i64 k ∧ OCopies (w.heap.size + 1) wr u ((layoutD r).take k) ∧ Below (w.heap.size + 1) w1 wr ∧ w.heap.size + 1 ≤ wr.heap.size) (fun _ i _ => q - (intOf i).toNat)
    case atStart => exact ⟨0, Nat.zero_le _, rfl, ⟨_, OAll.nil⟩, Below.refl _ _, by rw [Z0.out]; exact Nat.le_refl _⟩
    case round =>
      obtain ⟨k, hk, rfl, ⟨vs, ho⟩, hB, zr⟩ := hrel
      have hBw : Below w.heap.size w wr := B0.out.trans (hB.mono (by omega))
      by_cases hlt : k < q
      · have d0 := (hB.cell (p := ⟨w.heap.size, 0, none⟩) (by simp)).trans (C0.out 0 _ rfl)
        have d1 := (hB.cell (p := ⟨w.heap.size, 1, none⟩) (by simp)).trans (C0.out 1 _ rfl)
        have d2 := (hB.cell (p := ⟨w.heap.size, 2, none⟩) (by simp)).trans (C0.out 2 _ rfl)
        have d3 := (hB.cell (p := ⟨w.heap.size, 3, none⟩) (by simp)).trans (C0.out 3 _ rfl)
        have C := Lib.hid (straight_any _ r k wr ((hrun.out.below hBw).more hBw.size) Hok.out)
        have HX : Hid ((layoutD r).take (k + 1) = (layoutD r).take k ++ [straightD r k]) := by
          show (layoutD r).take (k + 1) = (layoutD r).take k ++ [straightD r k]
          rw [Hl.out]
          exact take_map_next (fun (row : Nat) => straightD r row) (by rw [List.getElem?_range (by rw [Hq.out]; omega)])
        have hlen : ((layoutD r).take k).length ≤ 100 := by rw [List.length_take]; omega
        go_wp2_with fail
        refine C.out.mono ?_
        rintro e w3 ⟨u, rfl, hu, hb3⟩
        have ho3 := ho.below hb3 fun _ _ hr => hr.below hb3
        have hu3 : OSecs (w.heap.size + 1) w3 u (straightD r k) := hu.base_ zr
        have hB3 := hB.trans (hb3.mono zr)
        have zr3 : w.heap.size + 1 ≤ w3.heap.size := Nat.le_trans zr hb3.size
        obtain ⟨us, hus⟩ := hu
        obtain ⟨A7, c7, rfl⟩ := ownsRow_form hus.1
        have hl3 := ho3.1
        clear d0 d1 d2 d3 hb3 hB hus
        go_wp2_with (at_builtin; refine wpList_append_own _ rfl _ _ 113 rfl (w.heap.size + 1) 115 i0 (.slice none 0 0) 1 24 Try.underlying113 hi hz0 hz1 hz2 rfl (by decide) _ _ _ rfl (hl3.alloc _) ⟨w3.heap.size, 0, none⟩ 1 1 [.slice A7 (straightD r k).length c7] rfl rfl (cells_new _ _ _) (by simp [Value.oneCell']) (by simp only [maxLen]; omega) (by omega) (by simp; omega) ?_; intro v' w4 hown' hgrow _)
        have hgr : Grew 115 w3 w4 := Grew.of_append hl3 hgrow
        have hB4 : Below (w.heap.size + 1) w1 w4 := (hB3.alloc zr3 _).grown hgrow (by simp; omega) fun k hk => (hl3.lt k hk).1
        have ho4 : OCopies (w.heap.size + 1) w4 v' ((layoutD r).take (k + 1)) := ⟨vs ++ [.slice A7 (straightD r k).length c7], by
          rw [HX.out]
          exact ho3.append (fun _ _ hr => OSecs.grew hr hgr (by decide) (by decide)) hu3 hown'⟩
        have zr4 : w.heap.size + 1 ≤ w4.heap.size := by have := hgrow.size; simp at this; omega
        clear hown' hgrow hl3 ho3 hgr
        go_wp2
        go_roundw
        case rel => exact ⟨k + 1, by omega, by go_num, ho4, hB4, zr4⟩
        case measure => simp [intOf]; omega
      · have hall : (layoutD r).take k = layoutD r := List.take_of_length_le (by rw [Hl.out, List.length_map, List.length_range, Hq.out]; omega)
        rw [hall] at ho
        have ho2 : OCopies w.heap.size wr u3 (layoutD r) := OCopies.base_ ⟨_, ho⟩ (by omega)
        go_wp2
        go_ret
        exact ⟨_, rfl, ho2, hBw⟩
  · have Hl := Lib.hid (layout_coll hcoll)
    rw [hcoll] at C0 B0 Z0 hrun
    clear hcoll
    have C := Lib.hid (collected_copy _ r _ ((hrun.out.below B0.out).more B0.out.size) Hok.out)
    go_enter Try.func43, Try.ntmps43
    go_wp2_with fail
    refine C.out.mono ?_
    rintro e w3 ⟨u, rfl, hu, hb3⟩
    have hu2 : OSecs w.heap.size w3 u (collectedD r) := hu.base_ B0.out.size
    have z3 : w.heap.size ≤ w3.heap.size := Nat.le_trans B0.out.size hb3.size
    have ho := OCopies.one z3 hu2
    have hB3 : Below w.heap.size w w3 := B0.out.trans (hb3.mono B0.out.size)
    have hB4 : ∀ o, Below w.heap.size w (w3.alloc o) := fun o => hB3.alloc z3 o
    obtain ⟨us, hus⟩ := hu
    obtain ⟨A7, c7, rfl⟩ := ownsRow_form hus.1
    clear hus hu2
    go_wp2
    go_ret
    exact ⟨_, rfl, by rw [Hl.out]; exact ho, hB4 _⟩
end Go.Proofs.Ytdbfhdncjblleaa
namespace Go.Proofs.Ytdbfhdncjblleaa
open Go.RowKit

section
variable {α β : Type} (kv : α → Value) (vv : β → Value)

def entsFrom (n : Nat) (l : List (α × β)) : List MapEntry := (l.zipIdx n).map fun x => { key := kv x.1.1, val := vv x.1.2, born := x.2 }
def MapAt (w : World) (b : Nat) (l : List (α × β)) : Prop := w.heap[b]? = some (.map (entsFrom kv vv 0 l).toArray l.length)
theorem entsFrom_cons (n : Nat) (x : α × β) (l : List (α × β)) : entsFrom kv vv n (x :: l) = { key := kv x.1, val := vv x.2, born := n } :: entsFrom kv vv (n + 1) l := by
  simp [entsFrom, List.zipIdx_cons]
theorem entsFrom_snoc (l : List (α × β)) (x : α × β) : entsFrom kv vv 0 (l ++ [x]) = entsFrom kv vv 0 l ++ [{ key := kv x.1, val := vv x.2, born := l.length }] := by
  simp [entsFrom, List.zipIdx_append]
variable [DecidableEq α]
def fnd (a : α) : List (α × β) → Nat → Option (Nat × Value)
  | [], _ => none
  | x :: l, i => if x.1 = a then some (i, vv x.2) else fnd a l (i + 1)

theorem fnd_none {a : α} : ∀ {l : List (α × β)} {i : Nat}, (∀ x ∈ l, x.1 ≠ a) → fnd vv a l i = none
  | [], _, _ => rfl
  | x :: l, i, h => by
    unfold fnd
    rw [if_neg (h x (by simp))]
    exact fnd_none (fun y hy => h y (by simp [hy]))
theorem fnd_some {a : α} {p : β} : ∀ {l : List (α × β)} {i : Nat}, (l.map (·.1)).Nodup → (a, p) ∈ l → ∃ j, fnd vv a l i = some (j, vv p)
  | [], _, _, h => by cases h
  | x :: l, i, hn, h => by
    unfold fnd
    simp only [List.map_cons, List.nodup_cons] at hn
    rcases List.mem_cons.1 h with h | h
    · subst h
      exact ⟨i, by rw [if_pos rfl]⟩
    · rw [if_neg (fun e => hn.1 (by rw [e]; exact List.mem_map.2 ⟨_, h, rfl⟩))]
      exact fnd_some hn.2 h

variable {P : Program} {K T E : TypeId}
/-- What is asked of the key's type. -/
structure KeyOk (P : Program) (K : TypeId) (kv : α → Value) : Prop where
  eq : ∀ a b w, (Op.equal K (kv a) (kv b)).run P w = .ok (decide (a = b)) w
  ck : ∀ e a w, (Instr.checkKey e 10000 K (kv a)).run P w = .ok () w
  desc : ∃ fs, P.underlying K = some (.struct fs)

variable {kv}
theorem run_findAsking (h : KeyOk P K kv) (a : α) (w : World) : ∀ (l : List (α × β)) (n i : Nat), (Instr.findAsking K (kv a) (entsFrom kv vv n l) i).run P w = .ok (fnd vv a l i) w
  | [], _, _ => by simp [entsFrom, Instr.findAsking, fnd]
  | x :: l, n, i => by
    rw [entsFrom_cons]
    unfold Instr.findAsking fnd
    simp only [Sem.run_bind, h.eq, Result.andThen_ok]
    by_cases e : a = x.1
    · rw [if_pos e.symm, decide_eq_true e]; simp
    · rw [if_neg (Ne.symm e), decide_eq_false e]
      simpa using run_findAsking h a w l (n + 1) (i + 1)
theorem run_findKey (h : KeyOk P K kv) (a : α) (w : World) (l : List (α × β)) : (Instr.findKey K (kv a) (entsFrom kv vv 0 l)).run P w = .ok (fnd vv a l 0) w := by
  obtain ⟨fs, hd⟩ := h.desc
  unfold Instr.findKey
  simp only [Sem.run_bind, run_underlying hd, Result.andThen_ok]
  cases l with
  | nil => simp [entsFrom, Instr.findNow, fnd]
  | cons x l =>
    have hn : Instr.findNow (.struct fs) (kv a) (entsFrom kv vv 0 (x :: l)) 0 = none := by
      rw [entsFrom_cons]
      simp [Instr.findNow, Instr.sameNow]
    rw [hn]
    exact run_findAsking vv h a w _ 0 0

theorem run_update_new (h : KeyOk P K kv) (ht : P.underlying T = some (.map K E)) {w : World} {b : Nat} {l : List (α × β)} (hm : MapAt kv vv w b l) (a : α) (p : β) (hne : ∀ x ∈ l, x.1 ≠ a) :
    (Instr.mapUpdate T (.map (some b)) (kv a) (vv p)).run P w = .ok () (w.putObj b (.map (entsFrom kv vv 0 (l ++ [(a, p)])).toArray (l.length + 1))) := by
  unfold MapAt at hm
  simp only [Instr.mapUpdate, Sem.run_bind, run_underlying ht, Result.andThen_ok]
  simp only [getObj, setObj, Sem.run, hm, Sem.run_bind, Result.andThen_ok, h.ck, Result.andThen]
  rw [run_findKey vv h a w l, fnd_none vv hne]
  simp only [entsFrom_snoc]
  simp [Sem.run, hm, World.putObj]

theorem run_lookup_ok (h : KeyOk P K kv) (ht : P.underlying T = some (.map K E)) {w : World} {b : Nat} {l : List (α × β)} (hm : MapAt kv vv w b l) (a : α) (p : β) (hn : (l.map (·.1)).Nodup) (hp : (a, p) ∈ l) :
    (Instr.lookup T (.map (some b)) (kv a) true).run P w = .ok (.tuple #[vv p, .bool true]) w := by
  unfold MapAt at hm
  obtain ⟨j, hj⟩ := fnd_some vv (i := 0) hn hp
  simp only [Instr.lookup, Sem.run_bind, run_underlying ht, Result.andThen_ok]
  simp only [getObj, Sem.run, hm, Sem.run_bind, Result.andThen_ok, Sem.run_pure, h.ck, Result.andThen]
  rw [run_findKey vv h a w l, hj]
  simp
theorem run_lookup_no (h : KeyOk P K kv) (ht : P.underlying T = some (.map K E)) {z : Value} (hz : ∀ w, (zeroValue E).run P w = .ok z w) {w : World} {b : Nat} {l : List (α × β)} (hm : MapAt kv vv w b l) (a : α) (hne : ∀ x ∈ l, x.1 ≠ a) :
    (Instr.lookup T (.map (some b)) (kv a) true).run P w = .ok (.tuple #[z, .bool false]) w := by
  unfold MapAt at hm
  simp only [Instr.lookup, Sem.run_bind, run_underlying ht, Result.andThen_ok]
  simp only [getObj, Sem.run, hm, Sem.run_bind, Result.andThen_ok, Sem.run_pure, h.ck, Result.andThen]
  rw [run_findKey vv h a w l, fnd_none vv hne]
  simp [hz]
end

structure PlaceD where
  copy : Int
  sec : Int
  idx : Int
  deriving DecidableEq, Inhabited
def SpotD.val (s : SpotD) : Value := .agg #[.int .i64 s.web, .int .i64 s.side, .int .i64 s.row, .int .i64 s.col]
def PlaceD.val (p : PlaceD) : Value := .agg #[.int .i64 p.copy, .int .i64 p.sec, .int .i64 p.idx]
def PlaceD.cells (p : PlaceD) : List Value := [.int .i64 p.copy, .int .i64 p.sec, .int .i64 p.idx]

theorem fields53 : Try.prog.underlying 53 = some (.struct (Try.prog.fieldsOf 53)) := by kernel_rfl
theorem held53 : Try.prog.stoodInHeld 53 = false := by kernel_rfl
theorem fl53 : (Try.prog.fieldsOf 53).toList.map (fun f => (f.name != "_", f.type, f.offset)) = [(true, 3, 0), (true, 3, 1), (true, 3, 2), (true, 3, 3)] := by kernel_rfl
theorem info53 : Try.prog.underlying 3 = some (.int .i64) := by kernel_rfl

theorem eq4 (a b c d a' b' c' d' : Int) (w : World) : (Op.equalIn 10000 53 (.agg #[.int .i64 a, .int .i64 b, .int .i64 c, .int .i64 d]) (.agg #[.int .i64 a', .int .i64 b', .int .i64 c', .int .i64 d'])).run Try.prog w = .ok (a == a' && (b == b' && (c == c' && d == d'))) w := by
  rw [run_equalIn_agg w 9999 _ _ _ fields53 held53]
  have hl := fl53
  generalize (Try.prog.fieldsOf 53).toList = fs at hl ⊢
  obtain ⟨f0, r0, rfl, h0, hl⟩ := List.map_eq_cons_iff.1 hl
  obtain ⟨f1, r1, rfl, h1, hl⟩ := List.map_eq_cons_iff.1 hl
  obtain ⟨f2, r2, rfl, h2, hl⟩ := List.map_eq_cons_iff.1 hl
  obtain ⟨f3, r3, rfl, h3, hl⟩ := List.map_eq_cons_iff.1 hl
  obtain rfl := List.map_eq_nil_iff.1 hl
  simp only [Prod.mk.injEq, bne_iff_ne, ne_eq] at h0 h1 h2 h3
  obtain ⟨n0, t0, o0⟩ := h0
  obtain ⟨n1, t1, o1⟩ := h1
  obtain ⟨n2, t2, o2⟩ := h2
  obtain ⟨n3, t3, o3⟩ := h3
  clear hl
  simp [Op.eqFields, n0, n1, n2, n3, t0, t1, t2, t3, o0, o1, o2, o3, go_sem]
  by_cases ea : a = a' <;> by_cases eb : b = b' <;> by_cases ec : c = c' <;> by_cases ed : d = d' <;> simp [ea, eb, ec, ed]
theorem spotKey : KeyOk Try.prog 53 SpotD.val := by
  refine ⟨fun a b w => ?_, fun e a w => by kernel_rfl, _, fields53⟩
  obtain ⟨a0, a1, a2, a3⟩ := a
  obtain ⟨b0, b1, b2, b3⟩ := b
  refine (eq4 a0 a1 a2 a3 b0 b1 b2 b3 w).trans ?_
  have e : (a0 == b0 && (a1 == b1 && (a2 == b2 && a3 == b3))) = decide ((⟨a0, a1, a2, a3⟩ : SpotD) = ⟨b0, b1, b2, b3⟩) := by
    rw [Bool.eq_iff_iff]
    simp
  rw [e]

/-- A map step in the walk: by its run. -/
theorem wpList_mapUpdate_run {P : Program} {w w1 : World} {ops : Array Oper} {rest : List Oper} {o : Oper} {a : Act} {Q : Exit → Act → World → Prop} (hg : o.guard = none) (m x v : Operand) (t : TypeId) (hop : o.op = Op.mapUpdate t m x v)
    (hrun : (Instr.mapUpdate t (a.eval m) (a.eval x) (a.eval v)).run P w = .ok () w1) (h : wpList P ops Q rest (a.put o.dst undef) w1) : wpList P ops Q (o :: rest) a w := by
  refine wpList_plain hg fun K' hK' => ?_
  unfold Oper.wp
  simp [execOp, hop, hrun, Result.andThen]
  exact hK' _ _ h
end Go.Proofs.Ytdbfhdncjblleaa
namespace Go.Proofs.Ytdbfhdncjblleaa
open Go.RowKit

def RSpots (B : Nat) (w : World) (v : Value) (l : List SpotD) : Prop := Rd B w 4 v l.length (cellsOf l)
def RSecs (B : Nat) (w : World) (v : Value) (l : List (List SpotD)) : Prop := RAll RSpots B w v l
def RCopies (B : Nat) (w : World) (v : Value) (l : List (List (List SpotD))) : Prop := RAll RSecs B w v l
theorem own_le {w : World} {base k n : Nat} {e : TypeId} {v : Value} {xs : List Value} (h : w.ownsRow base e k v n xs) : n ≤ maxLen := by
  rcases h.2 with ⟨_, rfl⟩ | ⟨g, cap, cur, _, _, _, h1, h2, _⟩
  · simp [maxLen]
  · omega
theorem OAll.reads {α : Type} {R : World → Value → α → Prop} {R' : Nat → World → Value → α → Prop} {e : TypeId} {base : Nat} {w : World} {v : Value} {vs : List Value} {l : List α} (h : OAll R e base w v vs l) (hR : ∀ u x, R w u x → R' w.heap.size w u x) : RAll R' w.heap.size w v l :=
  ⟨vs, Rd.own h.1 (own_le h.1), h.len, fun i u x hu hx => hR _ _ (h.2 i u x hu hx)⟩
theorem OSpots.reads {base : Nat} {w : World} {v : Value} {l : List SpotD} (h : OSpots base w v l) : RSpots w.heap.size w v l := Rd.own h (own_le h)
theorem OSecs.reads {base : Nat} {w : World} {v : Value} {l : List (List SpotD)} (h : OSecs base w v l) : RSecs w.heap.size w v l := by
  obtain ⟨vs, h⟩ := h
  exact h.reads fun _ _ hr => hr.reads
theorem OCopies.reads {base : Nat} {w : World} {v : Value} {l : List (List (List SpotD))} (h : OCopies base w v l) : RCopies w.heap.size w v l := by
  obtain ⟨vs, h⟩ := h
  exact h.reads fun _ _ hr => hr.reads
theorem RSpots.open_ {B : Nat} {w : World} {v : Value} {l : List SpotD} (h : RSpots B w v l) : ∃ A c, v = .slice A l.length c ∧ l.length ≤ 9223372036854775807 ∧
    ∀ k x, l[k]? = some x → ∃ g o, A = some ⟨g, o, none⟩ ∧ g < B ∧ w.cell? ⟨g, o + k * 4, none⟩ = some (.int .i64 x.web) ∧ w.cell? ⟨g, o + k * 4 + 1, none⟩ = some (.int .i64 x.side) ∧ w.cell? ⟨g, o + k * 4 + 2, none⟩ = some (.int .i64 x.row) ∧ w.cell? ⟨g, o + k * 4 + 3, none⟩ = some (.int .i64 x.col) := by
  obtain ⟨A, c, rfl, -, hm, hr⟩ := h
  refine ⟨A, c, rfl, by simpa [maxLen] using hm, fun k x hx => ?_⟩
  have hk : k < l.length := (List.getElem?_eq_some_iff.1 hx).1
  obtain ⟨g, o, hA, hb, hc⟩ := hr (by omega)
  have hf := fun j hj => flat_at SpotD.cells 4 (fun _ => rfl) _ k j _ hx hj
  exact ⟨g, o, hA, hb, hc _ _ (hf 0 (by omega)), hc _ _ (hf 1 (by omega)), hc _ _ (hf 2 (by omega)), hc _ _ (hf 3 (by omega))⟩
theorem RSecs.below {B : Nat} {w w' : World} {v : Value} {l : List (List SpotD)} (h : RSecs B w v l) (hb : Below B w w') : RSecs B w' v l := RAll.keep h (fun _ hp => hb.cell hp) fun _ _ hr => Rd.below hr hb
theorem RCopies.below {B : Nat} {w w' : World} {v : Value} {l : List (List (List SpotD))} (h : RCopies B w v l) (hb : Below B w w') : RCopies B w' v l := RAll.keep h (fun _ hp => hb.cell hp) fun _ _ hr => hr.below hb

theorem layout_pos {r : RunD} (h : checkE r = 0) : ∃ x, (layoutD r)[0]? = some x := by
  have h2 := rows_two h
  cases hc : r.coll with
  | true => rw [layout_coll hc]; exact ⟨_, rfl⟩
  | false =>
    rw [layout_straight hc]
    exact ⟨_, List.getElem?_eq_getElem (by rw [List.length_map, List.length_range]; omega)⟩
def sizesD (r : RunD) : List Int := ((layoutD r).getD 0 []).map fun s => (s.length : Int)
theorem infoInt : (Try.prog.info? 3).map (fun i => (i.zero, i.size, i.bytes)) = some (some (.int .i64 0), 1, 8) := by kernel_rfl

set_option maxRecDepth 100000 in
set_option maxHeartbeats 1000000 in
theorem sizes_any (v : Value) (r : RunD) (w : World) (h : RRun w.heap.size w v r) (hok : checkE r = 0) (hsm : ((layoutD r).getD 0 []).length ≤ 100) :
    Calls Try.prog 49 #[v] w fun e w' => ∃ u, e = .returned u ∧ w'.ownsRow w.heap.size 3 1 u (sizesD r).length ((sizesD r).map (Value.int .i64)) ∧ Below w.heap.size w w' := by
  obtain ⟨i0, hi, hz0, hz1, hz2⟩ := info_parts infoInt
  have hrun := Lib.hid h
  have Hok := Lib.hid hok
  obtain ⟨x, hx⟩ := layout_pos hok
  have Hx := Lib.hid hx
  rw [getD_of hx] at hsm
  obtain ⟨v1, v2, v3, rfl, -, -, -⟩ := h
  have b0 : ∀ o, Below w.heap.size w (w.alloc o) := fun o => (Below.refl _ _).alloc (Nat.le_refl _) _
  have hr : ∀ o, RRun (w.alloc o).heap.size (w.alloc o) (.agg #[v1, v2, v3, .bool r.coll]) r := fun o => (hrun.out.below (b0 o)).more (by simp)
  have z0 : ∀ o, w.heap.size ≤ (w.alloc o).heap.size := fun o => by simp
  have B0 := Lib.hid b0
  have HR := Lib.hid hr
  have Z0 := Lib.hid z0
  clear hok hx b0 hr z0
  go_enter Try.func49, Try.ntmps49
  go_wp2_with fail
  refine (layout_any _ r _ (HR.out _) Hok.out).mono ?_
  rintro e w3 ⟨u, rfl, hu, hb3⟩
  have hB3 := (B0.out _).trans (hb3.mono (Z0.out _))
  obtain ⟨A, c, rfl, hA1, hA⟩ := RAll.open_ hu.reads
  obtain ⟨g, o, u2, rfl, hb, hc1, hp⟩ := hA 0 x Hx.out
  simp only [Nat.add_zero] at hc1
  obtain ⟨A2, c2, rfl, hA2, hA3⟩ := RAll.open_ hp
  have HA3 := Lib.hid hA3
  have hpos : (0 : Int) < ((layoutD r).length : Int) := by have := (List.getElem?_eq_some_iff.1 Hx.out).1; omega
  clear hA hA3 hu hb3 hp
  go_wp2
  go_loopw [3, 11] (fun u i wr => ∃ k : Nat, k ≤ x.length ∧ i = .int .i64 k ∧ wr.ownsRow w3.heap.size 3 1 u k (((x.map fun s => (s.length : Int)).take k).map (Value.int .i64)) ∧ Below w3.heap.size w3 wr) (fun _ i _ => x.length - (intOf i).toNat)
  case atStart => exact ⟨0, Nat.zero_le _, rfl, World.ownsRow_nil _ _ _ _, Below.refl _ _⟩
  case round =>
    obtain ⟨k, hk, rfl, ho, hB⟩ := hrel
    by_cases hlt : k < x.length
    · obtain ⟨y, hy⟩ : ∃ y, x[k]? = some y := ⟨_, List.getElem?_eq_getElem hlt⟩
      obtain ⟨g2, o2, u3, rfl, hb2, hc2, hp⟩ := HA3.out k y hy
      obtain ⟨A5, c5, rfl, hA5⟩ := slice_len hp
      rw [← hB.cell (p := ⟨g2, o2 + k, none⟩) hb2] at hc2
      have HX : Hid (((x.map fun s => (s.length : Int)).take (k + 1)).map (Value.int .i64) = ((x.map fun s => (s.length : Int)).take k).map (Value.int .i64) ++ [.int .i64 (y.length : Int)]) := by
        show ((x.map fun s => (s.length : Int)).take (k + 1)).map (Value.int .i64) = ((x.map fun s => (s.length : Int)).take k).map (Value.int .i64) ++ [.int .i64 (y.length : Int)]
        rw [take_map_next (fun s : List SpotD => (s.length : Int)) hy, List.map_append]; rfl
      have zr := hB.size
      clear hy hp
      go_wp2_with (at_builtin; refine wpList_append_own _ rfl _ _ 48 rfl w3.heap.size 3 i0 (.int .i64 0) 1 8 Try.underlying48 hi hz0 hz1 hz2 rfl (by decide) _ _ _ rfl (ho.alloc _) ⟨wr.heap.size, 0, none⟩ 1 1 [.int .i64 (y.length : Int)] rfl rfl (cells_new _ _ _) (by simp [Value.oneCell']) (by simp only [maxLen]; omega) (by omega) (by simp; omega) ?_; intro v' w4 hown' hgrow _)
      have hB4 : Below w3.heap.size w3 w4 := (hB.alloc zr _).grown hgrow (by simp; omega) fun k hk => (ho.lt k hk).1
      rw [← HX.out] at hown'
      clear hgrow ho
      go_wp2
      go_roundw
      case rel => exact ⟨k + 1, by omega, by go_num, hown', hB4⟩
      case measure => simp [intOf]; omega
    · have hall : (x.map fun s => (s.length : Int)).take k = sizesD r := by
        unfold sizesD
        rw [getD_of Hx.out, List.take_of_length_le (by rw [List.length_map]; omega)]
      have hkl : k = (sizesD r).length := by unfold sizesD; rw [getD_of Hx.out, List.length_map]; omega
      rw [hall, hkl] at ho
      have ho2 := ownsRow_base ho hB3.size
      have hB4 := hB3.trans (hB.mono hB3.size)
      clear hkl hall
      go_wp2
      go_ret
      exact ⟨_, rfl, ho2, hB4⟩
end Go.Proofs.Ytdbfhdncjblleaa
namespace Go.Proofs.Ytdbfhdncjblleaa
open Go.RowKit

def row1 (c s : Nat) (l : List SpotD) : List (SpotD × PlaceD) := l.zipIdx.map fun x => (x.1, ⟨c, s, x.2⟩)
def row2 (c : Nat) (l : List (List SpotD)) : List (SpotD × PlaceD) := l.zipIdx.flatMap fun x => row1 c x.2 x.1
def row3 (l : List (List (List SpotD))) : List (SpotD × PlaceD) := l.zipIdx.flatMap fun x => row2 x.2 x.1
def placesD (r : RunD) : List (SpotD × PlaceD) := row3 (layoutD r)

theorem zip_take {α : Type} (l : List α) (k : Nat) : (l.take k).zipIdx <+: l.zipIdx := by
  have h : l.zipIdx = (l.take k ++ l.drop k).zipIdx := by rw [List.take_append_drop]
  rw [h, List.zipIdx_append]
  exact List.prefix_append _ _
theorem zip_next {α : Type} {l : List α} {k : Nat} {x : α} (h : l[k]? = some x) : (l.take (k + 1)).zipIdx = (l.take k).zipIdx ++ [(x, k)] := by
  obtain ⟨hk, rfl⟩ := List.getElem?_eq_some_iff.1 h
  rw [List.take_succ_eq_append_getElem hk, List.zipIdx_append, List.length_take]
  simp
  omega
theorem row1_next {c s : Nat} {l : List SpotD} {k : Nat} {x : SpotD} (h : l[k]? = some x) : row1 c s (l.take (k + 1)) = row1 c s (l.take k) ++ [(x, ⟨c, s, k⟩)] := by
  unfold row1
  rw [zip_next h, List.map_append]; rfl
theorem row2_next {c : Nat} {l : List (List SpotD)} {k : Nat} {x : List SpotD} (h : l[k]? = some x) : row2 c (l.take (k + 1)) = row2 c (l.take k) ++ row1 c k x := by
  unfold row2
  rw [zip_next h, List.flatMap_append]; simp
theorem row3_next {l : List (List (List SpotD))} {k : Nat} {x : List (List SpotD)} (h : l[k]? = some x) : row3 (l.take (k + 1)) = row3 (l.take k) ++ row2 k x := by
  unfold row3
  rw [zip_next h, List.flatMap_append]; simp
theorem flat_pre {α β : Type} (f : α → List β) {a b : List α} (h : a <+: b) : a.flatMap f <+: b.flatMap f := by
  obtain ⟨t, rfl⟩ := h
  rw [List.flatMap_append]; exact List.prefix_append _ _
theorem row1_pre {c s : Nat} (l : List SpotD) (k : Nat) : row1 c s (l.take k) <+: row1 c s l := by
  unfold row1; exact (zip_take l k).map _
theorem row2_pre {c : Nat} (l : List (List SpotD)) (k : Nat) : row2 c (l.take k) <+: row2 c l := by
  unfold row2; exact flat_pre _ (zip_take l k)
theorem row3_pre (l : List (List (List SpotD))) (k : Nat) : row3 (l.take k) <+: row3 l := by
  unfold row3; exact flat_pre _ (zip_take l k)
/-- What is in the map after so many copies, sections, spots; and one more. -/
theorem done_pre {L : List (List (List SpotD))} {c s i : Nat} {S : List (List SpotD)} {l : List SpotD} {x : SpotD} (hS : L[c]? = some S) (hl : S[s]? = some l) (hx : l[i]? = some x) :
    (row3 (L.take c) ++ (row2 c (S.take s) ++ row1 c s (l.take i))) ++ [(x, ⟨c, s, i⟩)] <+: row3 L := by
  have h1 : row3 (L.take c) ++ row2 c S <+: row3 L := by rw [← row3_next hS]; exact row3_pre _ _
  refine List.IsPrefix.trans ?_ h1
  rw [List.append_assoc]
  refine List.prefix_append_right_inj _ |>.2 ?_
  have h2 : row2 c (S.take s) ++ row1 c s l <+: row2 c S := by rw [← row2_next hl]; exact row2_pre _ _
  refine List.IsPrefix.trans ?_ h2
  rw [List.append_assoc]
  refine List.prefix_append_right_inj _ |>.2 ?_
  rw [← row1_next hx]; exact row1_pre _ _
theorem done_new {L : List (List (List SpotD))} {d : List (SpotD × PlaceD)} {x : SpotD} {p : PlaceD} (h : d ++ [(x, p)] <+: row3 L) (hn : ((row3 L).map (·.1)).Nodup) : ∀ y ∈ d, y.1 ≠ x := by
  obtain ⟨t, ht⟩ := h
  rw [← ht, List.map_append, List.map_append] at hn
  have h1 := (List.nodup_append.1 (List.nodup_append.1 hn).1).2.2
  intro y hy e
  exact h1 _ (List.mem_map_of_mem hy) _ (by simp) e

/-- All cells read as they read. -/
def CellsKept (W W' : World) : Prop := ∀ p u, W.cell? p = some u → W'.cell? p = some u
theorem CellsKept.refl (W : World) : CellsKept W W := fun _ _ h => h
theorem CellsKept.alloc {W W' : World} (h : CellsKept W W') (o : Obj) : CellsKept W (W'.alloc o) := fun p u hp => by
  have := h p u hp
  rw [World.cell?_alloc_lt W' o p (World.block_lt_of_cell? W' p this)]
  exact this
theorem CellsKept.putObj {W W' : World} (h : CellsKept W W') {b : Nat} {o : Obj} (o' : Obj) (hb : W'.heap[b]? = some o) (ho : o.isCells = false) : CellsKept W (W'.putObj b o') := fun p u hp => by
  have h1 := h p u hp
  have hne : p.block ≠ b := by
    rintro rfl
    simp only [World.cell?, hb] at h1
    cases o <;> simp_all [Obj.isCells]
  rw [World.cell?_of_block (w := W') (World.putObj_heap_other hne)]
  exact h1
theorem CellsKept.below {W W' W'' : World} (h : CellsKept W W') (hb : Below W'.heap.size W' W'') : CellsKept W W'' := fun p u hp => by
  have := h p u hp
  rw [hb.cell (World.block_lt_of_cell? W' p this)]; exact this
theorem MapAt.lt {α β : Type} {kv : α → Value} {vv : β → Value} {w : World} {b : Nat} {l : List (α × β)} (h : MapAt kv vv w b l) : b < w.heap.size := (Array.getElem?_eq_some_iff.1 h).1
theorem MapAt.alloc {α β : Type} {kv : α → Value} {vv : β → Value} {w : World} {b : Nat} {l : List (α × β)} (h : MapAt kv vv w b l) (o : Obj) : MapAt kv vv (w.alloc o) b l := (Below.heap_alloc w o b h.lt).trans h
theorem MapAt.below {α β : Type} {kv : α → Value} {vv : β → Value} {w w' : World} {b : Nat} {l : List (α × β)} (h : MapAt kv vv w b l) (hb : Below w.heap.size w w') : MapAt kv vv w' b l := (hb.block b h.lt).trans h
theorem MapAt.put {α β : Type} {kv : α → Value} {vv : β → Value} {w : World} {b : Nat} {l : List (α × β)} (h : MapAt kv vv w b l) (l' : List (α × β)) {n : Nat} (hn : n = l'.length) : MapAt kv vv (w.putObj b (.map (entsFrom kv vv 0 l').toArray n)) b l' := by
  subst hn
  exact World.putObj_heap_same h.lt

theorem mapType : Try.prog.underlying 129 = some (.map 53 56) := by kernel_rfl

set_option maxRecDepth 100000 in
set_option maxHeartbeats 2000000 in
theorem places_any (v : Value) (r : RunD) (w : World) (h : RRun w.heap.size w v r) (hok : checkE r = 0) (hnd : ((placesD r).map (·.1)).Nodup) :
    Calls Try.prog 50 #[v] w fun e w' => ∃ b, e = .returned (.map (some b)) ∧ MapAt SpotD.val PlaceD.val w' b (placesD r) ∧ w.heap.size ≤ b ∧ Below w.heap.size w w' := by
  have hrun := Lib.hid h
  have Hok := Lib.hid hok
  have Hnd := Lib.hid hnd
  obtain ⟨v1, v2, v3, rfl, -, -, -⟩ := h
  have hmm := @run_makeMap Try.prog
  have b0 : ∀ o o', Below w.heap.size w ((w.alloc o).alloc o') := fun o o' => ((Below.refl _ _).alloc (Nat.le_refl _) _).alloc (by simp) _
  have hr : ∀ o o', RRun ((w.alloc o).alloc o').heap.size ((w.alloc o).alloc o') (.agg #[v1, v2, v3, .bool r.coll]) r := fun o o' => (hrun.out.below (b0 o o')).more (by simp; omega)
  have z0 : ∀ o o', ((w.alloc o).alloc o').heap.size = w.heap.size + 2 := fun o o' => by simp
  have m0 : ∀ o, MapAt SpotD.val PlaceD.val ((w.alloc o).alloc (.map #[] 0)) (w.heap.size + 1) [] := fun o => by
    have := World.alloc_heap_new (w.alloc o) (.map #[] 0)
    rw [World.size_alloc] at this
    exact this
  have B0 := Lib.hid b0
  have HR := Lib.hid hr
  have Z0 := Lib.hid z0
  have M0 := Lib.hid m0
  clear hok b0 hr z0 m0 hnd
  go_enter Try.func50, Try.ntmps50
  go_wp2_with fail
  refine (layout_any _ r _ (HR.out _ _) Hok.out).mono ?_
  rintro e w3 ⟨u, rfl, hu, hb3⟩
  have hB3 := (B0.out _ _).trans (hb3.mono (by rw [Z0.out]; omega))
  have hM3 := (M0.out _).below hb3
  have z3 : w.heap.size + 2 ≤ w3.heap.size := by have := hb3.size; rw [Z0.out] at this; exact this
  obtain ⟨A, c, rfl, hA1, hA⟩ := RAll.open_ hu.reads
  have HA := Lib.hid hA
  clear hA hu hb3
  generalize eb : w.heap.size + 1 = b at *
  have hbw : w.heap.size ≤ b := by omega
  clear eb
  go_wp2
  go_loopw [14] (fun i wr => ∃ c : Nat, c ≤ (layoutD r).length ∧ i = .int .i64 c ∧ MapAt SpotD.val PlaceD.val wr b (row3 ((layoutD r).take c)) ∧ Below w.heap.size w wr ∧ CellsKept w3 wr) (fun i _ => (layoutD r).length - (intOf i).toNat)
  case atStart => exact ⟨0, Nat.zero_le _, rfl, hM3, hB3, CellsKept.refl _⟩
  case round =>
    clear hM3 hB3
    obtain ⟨c, hc, rfl, hM, hB, hK⟩ := hrel
    by_cases hlt : c < (layoutD r).length
    · obtain ⟨S, hS⟩ : ∃ S, (layoutD r)[c]? = some S := ⟨_, List.getElem?_eq_getElem hlt⟩
      obtain ⟨g, o, u2, rfl, hb, hc1, hp⟩ := HA.out c S hS
      obtain ⟨A2, c2, rfl, hA2, hA3⟩ := RAll.open_ hp
      have hc2 := hK _ _ hc1
      have HA3 := Lib.hid hA3
      have HS := Lib.hid hS
      have hM' : MapAt SpotD.val PlaceD.val wr b (row3 ((layoutD r).take c) ++ row2 c (S.take 0)) := by simpa [row2] using hM
      clear hc1 hp hA3 hS hM
      go_wp2
      clear hc2
      go_loopw [21] (fun i wr => ∃ s : Nat, s ≤ S.length ∧ i = .int .i64 s ∧ MapAt SpotD.val PlaceD.val wr b (row3 ((layoutD r).take c) ++ row2 c (S.take s)) ∧ Below w.heap.size w wr ∧ CellsKept w3 wr) (fun i _ => S.length - (intOf i).toNat)
      case atStart => exact ⟨0, Nat.zero_le _, rfl, hM', hB, hK⟩
      case round =>
        clear hM' hB hK
        obtain ⟨s, hs, rfl, hM, hB, hK⟩ := hrel
        by_cases hlt2 : s < S.length
        · obtain ⟨l, hl⟩ : ∃ l, S[s]? = some l := ⟨_, List.getElem?_eq_getElem hlt2⟩
          obtain ⟨g2, o2, u4, rfl, hb2, hc1, hp⟩ := HA3.out s l hl
          obtain ⟨A4, c4, rfl, hA4, hA5⟩ := RSpots.open_ hp
          have hc2 := hK _ _ hc1
          have HA5 := Lib.hid hA5
          have Hl := Lib.hid hl
          have hM' : MapAt SpotD.val PlaceD.val wr b (row3 ((layoutD r).take c) ++ (row2 c (S.take s) ++ row1 c s (l.take 0))) := by simpa [row1] using hM
          clear hc1 hp hA5 hl hM
          go_wp2
          clear hc2
          go_loopw [28] (fun i wr => ∃ k : Nat, k ≤ l.length ∧ i = .int .i64 k ∧ MapAt SpotD.val PlaceD.val wr b (row3 ((layoutD r).take c) ++ (row2 c (S.take s) ++ row1 c s (l.take k))) ∧ Below w.heap.size w wr ∧ CellsKept w3 wr) (fun i _ => l.length - (intOf i).toNat)
          case atStart => exact ⟨0, Nat.zero_le _, rfl, hM', hB, hK⟩
          case round =>
            clear hM' hB hK
            obtain ⟨k, hk, rfl, hM, hB, hK⟩ := hrel
            by_cases hlt3 : k < l.length
            · obtain ⟨x, hx⟩ : ∃ x, l[k]? = some x := ⟨_, List.getElem?_eq_getElem hlt3⟩
              obtain ⟨g3, o3, rfl, hb3, hc1, hc2, hc3, hc4⟩ := HA5.out k x hx
              have hd1 := hK _ _ hc1
              have hd2 := hK _ _ hc2
              have hd3 := hK _ _ hc3
              have hd4 := hK _ _ hc4
              have hpre := done_pre HS.out Hl.out hx
              have hnew := done_new hpre Hnd.out
              have hrow : row3 ((layoutD r).take c) ++ (row2 c (S.take s) ++ row1 c s (l.take (k + 1))) = (row3 ((layoutD r).take c) ++ (row2 c (S.take s) ++ row1 c s (l.take k))) ++ [(x, ⟨c, s, k⟩)] := by
                rw [row1_next hx]; simp [List.append_assoc]
              obtain ⟨w5, hu1, hM2, hB2, hK2⟩ : ∃ w5, (Instr.mapUpdate 129 (.map (some b)) (.agg #[.int .i64 x.web, .int .i64 x.side, .int .i64 x.row, .int .i64 x.col]) (.agg #[.int .i64 c, .int .i64 s, .int .i64 k])).run Try.prog (wr.alloc (.cells #[.int .i64 x.web, .int .i64 x.side, .int .i64 x.row, .int .i64 x.col] 53)) = .ok () w5 ∧
                  MapAt SpotD.val PlaceD.val w5 b (row3 ((layoutD r).take c) ++ (row2 c (S.take s) ++ row1 c s (l.take (k + 1)))) ∧ Below w.heap.size w w5 ∧ CellsKept w3 w5 := by
                refine ⟨_, run_update_new PlaceD.val spotKey mapType (hM.alloc _) x ⟨c, s, k⟩ hnew, ?_, ?_, (hK.alloc _).putObj _ (hM.alloc _) rfl⟩
                · rw [hrow]; exact (hM.alloc _).put _ (by simp only [List.length_append, List.length_cons, List.length_nil])
                · exact (hB.alloc hB.size _).grown (grownBy_putObj' _ b _) (by have := hB.size; simp; omega) fun j e => by cases e; exact hbw
              have HU := Lib.hid hu1
              clear hc1 hc2 hc3 hc4 hpre hnew hrow hx hu1
              go_wp2_with (at_mapUpdate; refine wpList_mapUpdate_run rfl _ _ _ 129 rfl HU.out ?_)
              go_roundw
              case rel => exact ⟨k + 1, by omega, by go_num, hM2, hB2, hK2⟩
              case measure => simp [intOf]; omega
            · have hM2 : MapAt SpotD.val PlaceD.val wr b (row3 ((layoutD r).take c) ++ row2 c (S.take (s + 1))) := by
                rw [row2_next Hl.out, show l = l.take k from (List.take_of_length_le (by omega)).symm]; exact hM
              go_wp2
              go_roundw
              case rel => exact ⟨s + 1, by omega, by go_num, hM2, hB, hK⟩
              case measure => simp [intOf]; omega
        · have hM2 : MapAt SpotD.val PlaceD.val wr b (row3 ((layoutD r).take (c + 1))) := by
            rw [row3_next HS.out, show S = S.take s from (List.take_of_length_le (by omega)).symm]; exact hM
          go_wp2
          go_roundw
          case rel => exact ⟨c + 1, by omega, by go_num, hM2, hB, hK⟩
          case measure => simp [intOf]; omega
    · have hM2 : MapAt SpotD.val PlaceD.val wr b (placesD r) := by
        unfold placesD
        rw [show layoutD r = (layoutD r).take c from (List.take_of_length_le (by omega)).symm]; exact hM
      go_wp2
      go_ret
      exact ⟨b, rfl, hM2, hbw, hB⟩
end Go.Proofs.Ytdbfhdncjblleaa
