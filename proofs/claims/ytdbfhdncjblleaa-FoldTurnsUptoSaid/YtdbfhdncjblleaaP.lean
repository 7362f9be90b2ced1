/-
  MAPS WHOSE KEYS ARE STRUCTS OF NUMBERS: their entries as a list, in the order in which they came.
-/
import Derived.Test.YtdbfhdncjblleaaO
namespace Go.Proofs.Ytdbfhdncjblleaa
open Go.RowKit

section
variable {α β : Type} (kv : α → Value) (vv : β → Value)

def entsFrom (n : Nat) (l : List (α × β)) : List MapEntry := (l.zipIdx n).map fun x => { key := kv x.1.1, val := vv x.1.2, born := x.2 }
def MapAt (w : World) (b : Nat) (l : List (α × β)) : Prop := w.heap[b]? = some (.map (entsFrom kv vv 0 l).toArray l.length)
theorem entsFrom_cons (n : Nat) (x : α × β) (l : List (α × β)) : entsFrom kv vv n (x :: l) = { key := kv x.1, val := vv x.2, born := n } :: entsFrom kv vv (n + 1) l := by
  simp [entsFrom, List.zipIdx_cons]
theorem entsFrom_snoc (l : List (α × β)) (x : α × β) : entsFrom kv vv 0 (l ++ [x]) = entsFrom kv vv 0 l ++ [{ key := kv x.1, val := vv x.2, born := l.length }] := by
  simp [entsFrom, List.zipIdx_append]
variable [DecidableEq α]
def fnd (a : α) : List (α × β) → Nat → Option (Nat × Value)
  | [], _ => none
  | x :: l, i => if x.1 = a then some (i, vv x.2) else fnd a l (i + 1)

theorem fnd_none {a : α} : ∀ {l : List (α × β)} {i : Nat}, (∀ x ∈ l, x.1 ≠ a) → fnd vv a l i = none
  | [], _, _ => rfl
  | x :: l, i, h => by
    unfold fnd
    rw [if_neg (h x (by simp))]
    exact fnd_none (fun y hy => h y (by simp [hy]))
theorem fnd_some {a : α} {p : β} : ∀ {l : List (α × β)} {i : Nat}, (l.map (·.1)).Nodup → (a, p) ∈ l → ∃ j, fnd vv a l i = some (j, vv p)
  | [], _, _, h => by cases h
  | x :: l, i, hn, h => by
    unfold fnd
    simp only [List.map_cons, List.nodup_cons] at hn
    rcases List.mem_cons.1 h with h | h
    · subst h
      exact ⟨i, by rw [if_pos rfl]⟩
    · rw [if_neg (fun e => hn.1 (by rw [e]; exact List.mem_map.2 ⟨_, h, rfl⟩))]
      exact fnd_some hn.2 h

variable {P : Program} {K T E : TypeId}
/-- What is asked of the key's type. -/
structure KeyOk (P : Program) (K : TypeId) (kv : α → Value) : Prop where
  eq : ∀ a b w, (Op.equal K (kv a) (kv b)).run P w = .ok (decide (a = b)) w
  ck : ∀ e a w, (Instr.checkKey e 10000 K (kv a)).run P w = .ok () w
  desc : ∃ fs, P.underlying K = some (.struct fs)

variable {kv}
theorem run_findAsking (h : KeyOk P K kv) (a : α) (w : World) : ∀ (l : List (α × β)) (n i : Nat), (Instr.findAsking K (kv a) (entsFrom kv vv n l) i).run P w = .ok (fnd vv a l i) w
  | [], _, _ => by simp [entsFrom, Instr.findAsking, fnd]
  | x :: l, n, i => by
    rw [entsFrom_cons]
    unfold Instr.findAsking fnd
    simp only [Sem.run_bind, h.eq, Result.andThen_ok]
    by_cases e : a = x.1
    · rw [if_pos e.symm, decide_eq_true e]; simp
    · rw [if_neg (Ne.symm e), decide_eq_false e]
      simpa using run_findAsking h a w l (n + 1) (i + 1)
theorem run_findKey (h : KeyOk P K kv) (a : α) (w : World) (l : List (α × β)) : (Instr.findKey K (kv a) (entsFrom kv vv 0 l)).run P w = .ok (fnd vv a l 0) w := by
  obtain ⟨fs, hd⟩ := h.desc
  unfold Instr.findKey
  simp only [Sem.run_bind, run_underlying hd, Result.andThen_ok]
  cases l with
  | nil => simp [entsFrom, Instr.findNow, fnd]
  | cons x l =>
    have hn : Instr.findNow (.struct fs) (kv a) (entsFrom kv vv 0 (x :: l)) 0 = none := by
      rw [entsFrom_cons]
      simp [Instr.findNow, Instr.sameNow]
    rw [hn]
    exact run_findAsking vv h a w _ 0 0

theorem run_update_new (h : KeyOk P K kv) (ht : P.underlying T = some (.map K E)) {w : World} {b : Nat} {l : List (α × β)} (hm : MapAt kv vv w b l) (a : α) (p : β) (hne : ∀ x ∈ l, x.1 ≠ a) :
    (Instr.mapUpdate T (.map (some b)) (kv a) (vv p)).run P w = .ok () (w.putObj b (.map (entsFrom kv vv 0 (l ++ [(a, p)])).toArray (l.length + 1))) := by
  unfold MapAt at hm
  simp only [Instr.mapUpdate, Sem.run_bind, run_underlying ht, Result.andThen_ok]
  simp only [getObj, setObj, Sem.run, hm, Sem.run_bind, Result.andThen_ok, h.ck, Result.andThen]
  rw [run_findKey vv h a w l, fnd_none vv hne]
  simp only [entsFrom_snoc]
  simp [Sem.run, hm, World.putObj]

theorem run_lookup_ok (h : KeyOk P K kv) (ht : P.underlying T = some (.map K E)) {w : World} {b : Nat} {l : List (α × β)} (hm : MapAt kv vv w b l) (a : α) (p : β) (hn : (l.map (·.1)).Nodup) (hp : (a, p) ∈ l) :
    (Instr.lookup T (.map (some b)) (kv a) true).run P w = .ok (.tuple #[vv p, .bool true]) w := by
  unfold MapAt at hm
  obtain ⟨j, hj⟩ := fnd_some vv (i := 0) hn hp
  simp only [Instr.lookup, Sem.run_bind, run_underlying ht, Result.andThen_ok]
  simp only [getObj, Sem.run, hm, Sem.run_bind, Result.andThen_ok, Sem.run_pure, h.ck, Result.andThen]
  rw [run_findKey vv h a w l, hj]
  simp
theorem run_lookup_no (h : KeyOk P K kv) (ht : P.underlying T = some (.map K E)) {z : Value} (hz : ∀ w, (zeroValue E).run P w = .ok z w) {w : World} {b : Nat} {l : List (α × β)} (hm : MapAt kv vv w b l) (a : α) (hne : ∀ x ∈ l, x.1 ≠ a) :
    (Instr.lookup T (.map (some b)) (kv a) true).run P w = .ok (.tuple #[z, .bool false]) w := by
  unfold MapAt at hm
  simp only [Instr.lookup, Sem.run_bind, run_underlying ht, Result.andThen_ok]
  simp only [getObj, Sem.run, hm, Sem.run_bind, Result.andThen_ok, Sem.run_pure, h.ck, Result.andThen]
  rw [run_findKey vv h a w l, fnd_none vv hne]
  simp [hz]
end

structure PlaceD where
  copy : Int
  sec : Int
  idx : Int
  deriving DecidableEq, Inhabited
def SpotD.val (s : SpotD) : Value := .agg #[.int .i64 s.web, .int .i64 s.side, .int .i64 s.row, .int .i64 s.col]
def PlaceD.val (p : PlaceD) : Value := .agg #[.int .i64 p.copy, .int .i64 p.sec, .int .i64 p.idx]
def PlaceD.cells (p : PlaceD) : List Value := [.int .i64 p.copy, .int .i64 p.sec, .int .i64 p.idx]

theorem fields53 : Try.prog.underlying 53 = some (.struct (Try.prog.fieldsOf 53)) := by kernel_rfl
theorem held53 : Try.prog.stoodInHeld 53 = false := by kernel_rfl
theorem fl53 : (Try.prog.fieldsOf 53).toList.map (fun f => (f.name != "_", f.type, f.offset)) = [(true, 3, 0), (true, 3, 1), (true, 3, 2), (true, 3, 3)] := by kernel_rfl
theorem info53 : Try.prog.underlying 3 = some (.int .i64) := by kernel_rfl

theorem eq4 (a b c d a' b' c' d' : Int) (w : World) : (Op.equalIn 10000 53 (.agg #[.int .i64 a, .int .i64 b, .int .i64 c, .int .i64 d]) (.agg #[.int .i64 a', .int .i64 b', .int .i64 c', .int .i64 d'])).run Try.prog w = .ok (a == a' && (b == b' && (c == c' && d == d'))) w := by
  rw [run_equalIn_agg w 9999 _ _ _ fields53 held53]
  have hl := fl53
  generalize (Try.prog.fieldsOf 53).toList = fs at hl ⊢
  obtain ⟨f0, r0, rfl, h0, hl⟩ := List.map_eq_cons_iff.1 hl
  obtain ⟨f1, r1, rfl, h1, hl⟩ := List.map_eq_cons_iff.1 hl
  obtain ⟨f2, r2, rfl, h2, hl⟩ := List.map_eq_cons_iff.1 hl
  obtain ⟨f3, r3, rfl, h3, hl⟩ := List.map_eq_cons_iff.1 hl
  obtain rfl := List.map_eq_nil_iff.1 hl
  simp only [Prod.mk.injEq, bne_iff_ne, ne_eq] at h0 h1 h2 h3
  obtain ⟨n0, t0, o0⟩ := h0
  obtain ⟨n1, t1, o1⟩ := h1
  obtain ⟨n2, t2, o2⟩ := h2
  obtain ⟨n3, t3, o3⟩ := h3
  clear hl
  simp [Op.eqFields, n0, n1, n2, n3, t0, t1, t2, t3, o0, o1, o2, o3, go_sem]
  by_cases ea : a = a' <;> by_cases eb : b = b' <;> by_cases ec : c = c' <;> by_cases ed : d = d' <;> simp [ea, eb, ec, ed]
theorem spotKey : KeyOk Try.prog 53 SpotD.val := by
  refine ⟨fun a b w => ?_, fun e a w => by kernel_rfl, _, fields53⟩
  obtain ⟨a0, a1, a2, a3⟩ := a
  obtain ⟨b0, b1, b2, b3⟩ := b
  refine (eq4 a0 a1 a2 a3 b0 b1 b2 b3 w).trans ?_
  have e : (a0 == b0 && (a1 == b1 && (a2 == b2 && a3 == b3))) = decide ((⟨a0, a1, a2, a3⟩ : SpotD) = ⟨b0, b1, b2, b3⟩) := by
    rw [Bool.eq_iff_iff]
    simp
  rw [e]

/-- A map step in the walk: by its run. -/
theorem wpList_mapUpdate_run {P : Program} {w w1 : World} {ops : Array Oper} {rest : List Oper} {o : Oper} {a : Act} {Q : Exit → Act → World → Prop} (hg : o.guard = none) (m x v : Operand) (t : TypeId) (hop : o.op = Op.mapUpdate t m x v)
    (hrun : (Instr.mapUpdate t (a.eval m) (a.eval x) (a.eval v)).run P w = .ok () w1) (h : wpList P ops Q rest (a.put o.dst undef) w1) : wpList P ops Q (o :: rest) a w := by
  refine wpList_plain hg fun K' hK' => ?_
  unfold Oper.wp
  simp [execOp, hop, hrun, Result.andThen]
  exact hK' _ _ h
end Go.Proofs.Ytdbfhdncjblleaa
