/-
  A range over a map whose keys are structs: the iterator hands out the entries in any order, each once.
-/
import Derived.Test.YtdbfhdncjblleaaR
import Derived.Maps.RangeWalk
namespace Go.Proofs.Ytdbfhdncjblleaa
open Go.RowKit
open Go.ChangeMaps (setBlock)
open Go.MapKept (heap_set)

section
variable {α β : Type} {kv : α → Value} {vv : β → Value} {P : Program}

/-- An iterator over the map in block b lies in block r: it has handed out what stands in seen. -/
def IterAt (w : World) (b r n : Nat) (seen : Array Nat) : Prop := ∃ c0, n ≤ c0 ∧ w.heap[r]? = some (.mapIter (some b) n seen c0)

theorem entsFrom_mem {e : MapEntry} : ∀ {l : List (α × β)} {n : Nat}, e ∈ entsFrom kv vv n l → ∃ i x, l[i]? = some x ∧ e = { key := kv x.1, val := vv x.2, born := n + i }
  | [], n, h => by simp [entsFrom] at h
  | y :: l, n, h => by
    rw [entsFrom_cons] at h
    rcases List.mem_cons.1 h with rfl | h
    · exact ⟨0, y, rfl, rfl⟩
    · obtain ⟨i, x, hx, he⟩ := entsFrom_mem h
      exact ⟨i + 1, x, by simpa using hx, by rw [he]; congr 1; omega⟩
theorem entsFrom_in : ∀ {l : List (α × β)} {n i : Nat} {x : α × β}, l[i]? = some x → ({ key := kv x.1, val := vv x.2, born := n + i } : MapEntry) ∈ entsFrom kv vv n l
  | [], n, i, x, h => by simp at h
  | y :: l, n, 0, x, h => by
    simp only [List.getElem?_cons_zero, Option.some.injEq] at h
    subst h
    rw [entsFrom_cons]; exact List.mem_cons_self
  | y :: l, n, i + 1, x, h => by
    rw [entsFrom_cons]
    have := entsFrom_in (n := n + 1) (l := l) (i := i) (x := x) (by simpa using h)
    rw [show n + (i + 1) = n + 1 + i by omega]
    exact List.mem_cons_of_mem _ this
theorem entsFrom_borns (l : List (α × β)) : ∀ (n : Nat), (entsFrom kv vv n l).map (·.born) = List.range' n l.length := by
  induction l with
  | nil => intro n; rfl
  | cons y l ih => intro n; rw [entsFrom_cons, List.map_cons, ih]; rfl

theorem MapAt.range {w : World} {b : Nat} {l : List (α × β)} {t k e : TypeId} (h : MapAt kv vv w b l) (ht : P.underlying t = some (.map k e)) :
    ∃ w', (Instr.range t (.map (some b))).run P w = .ok (.pointer (some ⟨w.heap.size, 0, none⟩)) w' ∧ MapAt kv vv w' b l ∧ IterAt w' b w.heap.size l.length #[] ∧ w.grownBy w' none ∧ w'.heap.size = w.heap.size + 1 :=
  ⟨_, run_range_map w t k e b _ _ ht h, h.alloc _, ⟨l.length, Nat.le_refl _, (MapKept.heap_alloc w _).1⟩, World.grownBy_alloc w _ none, by simp⟩

theorem IterAt.next {w : World} {b r : Nat} {l : List (α × β)} {seen : Array Nat} (hm : MapAt kv vv w b l) (hi : IterAt w b r l.length seen) (ty : TypeId) :
    ((∀ i, i < l.length → seen.contains i = true) ∧ (Instr.next (.pointer (some ⟨r, 0, none⟩)) false ty).run P w = .ok (.tuple #[.bool false]) w) ∨
    ∃ (i : Nat) (x : α × β) (w' : World), l[i]? = some x ∧ seen.contains i = false ∧ (Instr.next (.pointer (some ⟨r, 0, none⟩)) false ty).run P w = .ok (.tuple #[.bool true, kv x.1, vv x.2]) w' ∧
      MapAt kv vv w' b l ∧ IterAt w' b r l.length (seen.push i) ∧ w.grownBy w' (some r) ∧ w'.heap.size = w.heap.size ∧ (Instr.entry (.pointer (some ⟨r, 0, none⟩))).run P w' = .ok (.tuple #[kv x.1, vv x.2]) w' := by
  obtain ⟨c0, hc, hr⟩ := hi
  have hne : r ≠ b := by
    rintro rfl
    unfold MapAt at hm
    rw [hm] at hr; cases hr
  have hold : ∀ x ∈ (entsFrom kv vv 0 l).toArray.toList, x.born < l.length := fun x hx => by
    obtain ⟨i, y, hy, rfl⟩ := entsFrom_mem (by simpa using hx)
    have := (List.getElem?_eq_some_iff.1 hy).1
    show 0 + i < _
    omega
  have hnd : ((entsFrom kv vv 0 l).toArray.toList.map (·.born)).Nodup := by
    show ((entsFrom kv vv 0 l).map (·.born)).Nodup
    rw [entsFrom_borns]; exact List.nodup_range'
  rcases run_next_at (P := P) w ty r b l.length c0 seen _ _ hr hm hold hc with ⟨h0, hrun⟩ | ⟨e, he, w1, hal, hrun⟩
  · refine .inl ⟨fun i hil => ?_, hrun⟩
    have h1 := all_seen _ seen h0 _ (by simpa using entsFrom_in (kv := kv) (vv := vv) (n := 0) (List.getElem?_eq_getElem hil))
    simpa using h1
  · obtain ⟨hem, hes⟩ := mem_left he
    obtain ⟨i, x, hx, rfl⟩ := entsFrom_mem (by simpa using hem)
    have hr1 : w1.heap[r]? = some (.mapIter (some b) l.length seen c0) := by rcases hal with rfl | rfl <;> exact hr
    have hb1 : MapAt kv vv w1 b l := by rcases hal with rfl | rfl <;> exact hm
    have hset := heap_set (o' := .mapIter (some b) l.length (seen.push (0 + i)) l.length) hr1
    have hb' : MapAt kv vv (setBlock w1 r (.mapIter (some b) l.length (seen.push (0 + i)) l.length)) b l := (hset.2 b (fun e1 => hne e1.symm)).trans hb1
    refine .inr ⟨i, x, _, hx, by simpa using hes, hrun, hb', ⟨l.length, Nat.le_refl _, hset.1.trans (by rw [Nat.zero_add])⟩, ?_, ?_, run_entry_at _ r b l.length seen _ _ _ hset.1 hb' hem hnd⟩
    · rcases hal with rfl | rfl <;> exact ⟨rfl, rfl, rfl, by simp [setBlock], fun i _ hi => hset.2 i (fun e1 => hi (by rw [e1]))⟩
    · rcases hal with rfl | rfl <;> simp [setBlock]

/-- How many entries are still to come. -/
def iterLeft (n : Nat) (w : World) (r : Nat) : Nat := ((List.range n).filter fun i => !(w.iterSeen r).contains i).length
theorem IterAt.seen_eq {w : World} {b r n : Nat} {seen : Array Nat} (h : IterAt w b r n seen) : w.iterSeen r = seen := by
  obtain ⟨c0, -, hr⟩ := h
  unfold World.iterSeen
  rw [hr]
theorem iterLeft_lt {w w' : World} {b r n i : Nat} {seen : Array Nat} (h : IterAt w b r n seen) (h' : IterAt w' b r n (seen.push i)) (hi : i < n) (hs : seen.contains i = false) : iterLeft n w' r < iterLeft n w r := by
  unfold iterLeft
  rw [h.seen_eq, h'.seen_eq]
  refine filter_lt _ _ (fun x hx => ?_) i (by rw [hs]; rfl) (by rw [contains_push]; simp) _ (List.mem_range.2 hi)
  rw [contains_push] at hx
  cases hc : seen.contains x with
  | false => rfl
  | true => rw [hc] at hx; simp at hx
theorem IterAt.lt {w : World} {b r n : Nat} {seen : Array Nat} (h : IterAt w b r n seen) : r < w.heap.size := by
  obtain ⟨c0, -, hr⟩ := h
  exact (Array.getElem?_eq_some_iff.1 hr).1
theorem IterAt.below {w w' : World} {b r n : Nat} {seen : Array Nat} (h : IterAt w b r n seen) (hb : Below w.heap.size w w') : IterAt w' b r n seen := by
  obtain ⟨c0, hc, hr⟩ := h
  exact ⟨c0, hc, (hb.block r (Array.getElem?_eq_some_iff.1 hr).1).trans hr⟩
theorem IterAt.alloc {w : World} {b r n : Nat} {seen : Array Nat} (h : IterAt w b r n seen) (o : Obj) : IterAt (w.alloc o) b r n seen := h.below ((Below.refl _ _).alloc (Nat.le_refl _) o)
theorem IterAt.setCell {w : World} {b r n : Nat} {seen : Array Nat} (h : IterAt w b r n seen) {p : Addr} (hp : p.block ≠ r) (v : Value) : IterAt (w.setCell p v) b r n seen := by
  obtain ⟨c0, hc, hr⟩ := h
  exact ⟨c0, hc, (Below.heap_setCell w p v r (fun e => hp e.symm)).trans hr⟩
theorem MapAt.setCell {w : World} {b : Nat} {l : List (α × β)} (h : MapAt kv vv w b l) {p : Addr} (hp : p.block ≠ b) (v : Value) : MapAt kv vv (w.setCell p v) b l :=
  (Below.heap_setCell w p v b (fun e => hp e.symm)).trans h

variable (w : World) {ops : Array Oper} {rest : List Oper} {o : Oper} {a : Act} {Q : Exit → Act → World → Prop}
theorem wpList_range_iter (hg : o.guard = none) (m : Operand) (t : TypeId) (hop : o.op = Op.range t m) (k e : TypeId) (ht : P.underlying t = some (.map k e)) (b : Nat) (l : List (α × β))
    (hm : a.eval m = .map (some b)) (hown : MapAt kv vv w b l)
    (hK : ∀ w', MapAt kv vv w' b l → IterAt w' b w.heap.size l.length #[] → w.grownBy w' none → w'.heap.size = w.heap.size + 1 → wpList P ops Q rest (a.put o.dst (.pointer (some ⟨w.heap.size, 0, none⟩))) w') :
    wpList P ops Q (o :: rest) a w := by
  refine wpList_plain hg fun K' hK' => ?_
  obtain ⟨w', hrun, r1, r2, r3, r4⟩ := hown.range ht
  unfold Oper.wp
  simp [execOp, hop, hm, hrun, Result.andThen]
  exact hK' _ _ (hK w' r1 r2 r3 r4)
theorem wpList_next_iter (hg : o.guard = none) (it : Operand) (hop : o.op = Op.next it false) (b r : Nat) (l : List (α × β)) (seen : Array Nat)
    (hit : a.eval it = .pointer (some ⟨r, 0, none⟩)) (hm : MapAt kv vv w b l) (hi : IterAt w b r l.length seen)
    (hDone : (∀ i, i < l.length → seen.contains i = true) → wpList P ops Q rest (a.put o.dst (.tuple #[.bool false])) w)
    (hMore : ∀ (i : Nat) (x : α × β) (w' : World), l[i]? = some x → seen.contains i = false → MapAt kv vv w' b l → IterAt w' b r l.length (seen.push i) → w.grownBy w' (some r) → w'.heap.size = w.heap.size →
      (Instr.entry (.pointer (some ⟨r, 0, none⟩))).run P w' = .ok (.tuple #[kv x.1, vv x.2]) w' → wpList P ops Q rest (a.put o.dst (.tuple #[.bool true, kv x.1, vv x.2])) w') :
    wpList P ops Q (o :: rest) a w := by
  refine wpList_plain hg fun K' hK' => ?_
  unfold Oper.wp
  rcases hi.next (P := P) hm o.type with ⟨h0, hrun⟩ | ⟨i, x, w', hx, hs, hrun, h1, h2, h3, h4, h5⟩
  · simp [execOp, hop, hit, hrun, Result.andThen]
    exact hK' _ _ (hDone h0)
  · simp [execOp, hop, hit, hrun, Result.andThen]
    exact hK' _ _ (hMore i x w' hx hs h1 h2 h3 h4 h5)
end
end Go.Proofs.Ytdbfhdncjblleaa
