/-
  A set of numbers kept as a map from int to bool whose values are all true: storing, asking, ranging over it.
-/
import Derived.Maps.RangeWalk
import Derived.Test.YtlmpbmlbllndcaaMaa
namespace Go.Proofs.Ytlmpbmlbllndcaa
open Go.RowKit
open Go.ChangeMaps (setBlock)
open Go.MapKept (heap_set)

/-- The entries of a set of numbers, from a time on. -/
def entsI (n : Nat) (l : List Int) : List MapEntry := (l.zipIdx n).map fun x => { key := .int .i64 x.1, val := .bool true, born := x.2 }
def SetAt (w : World) (b : Nat) (l : List Int) : Prop := w.heap[b]? = some (.map (entsI 0 l).toArray l.length)
theorem entsI_cons (n : Nat) (x : Int) (l : List Int) : entsI n (x :: l) = { key := .int .i64 x, val := .bool true, born := n } :: entsI (n + 1) l := by
  simp [entsI, List.zipIdx_cons]
theorem entsI_snoc (l : List Int) (x : Int) : entsI 0 (l ++ [x]) = entsI 0 l ++ [{ key := .int .i64 x, val := .bool true, born := l.length }] := by
  simp [entsI, List.zipIdx_append]
theorem entsI_len (l : List Int) (n : Nat) : (entsI n l).length = l.length := by simp [entsI]
def addS (l : List Int) (x : Int) : List Int := if x ∈ l then l else l ++ [x]
theorem addS_mem {l : List Int} {x y : Int} : y ∈ addS l x ↔ y = x ∨ y ∈ l := by
  unfold addS
  split
  · constructor
    · exact .inr
    · rintro (rfl | h) <;> assumption
  · simp [or_comm]
theorem addS_nodup {l : List Int} {x : Int} (h : l.Nodup) : (addS l x).Nodup := by
  unfold addS
  split
  · exact h
  · rename_i hn
    rw [List.nodup_append]
    exact ⟨h, by simp, fun a ha b hb => by
      rw [List.mem_singleton] at hb
      subst hb
      exact fun e => hn (e ▸ ha)⟩
theorem addS_len (l : List Int) (x : Int) : (addS l x).length ≤ l.length + 1 := by
  unfold addS
  split
  · omega
  · simp

def fndI (a : Int) : List Int → Nat → Option (Nat × Value)
  | [], _ => none
  | x :: l, i => if a = x then some (i, .bool true) else fndI a l (i + 1)
theorem fndI_none {a : Int} : ∀ {l : List Int} {i : Nat}, a ∉ l → fndI a l i = none
  | [], _, _ => rfl
  | x :: l, i, h => by
    unfold fndI
    rw [if_neg (fun e => h (by simp [e]))]
    exact fndI_none (fun e => h (by simp [e]))
theorem fndI_some {a : Int} : ∀ {l : List Int} {i : Nat}, a ∈ l → ∃ j, l[j]? = some a ∧ fndI a l i = some (i + j, .bool true)
  | [], _, h => by cases h
  | x :: l, i, h => by
    unfold fndI
    by_cases e : a = x
    · subst e
      exact ⟨0, rfl, by rw [if_pos rfl]; rfl⟩
    · rw [if_neg e]
      have h1 : a ∈ l := by simpa [e] using h
      obtain ⟨j, hj, hf⟩ := fndI_some (i := i + 1) h1
      exact ⟨j + 1, by simpa using hj, by rw [hf]; congr 2; omega⟩

section
variable {P : Program} {K T E : TypeId}
theorem findNow_int (a : Int) : ∀ (l : List Int) (n i : Nat), Instr.findNow (.int .i64) (.int .i64 a) (entsI n l) i = some (fndI a l i)
  | [], _, _ => rfl
  | x :: l, n, i => by
    rw [entsI_cons]
    unfold Instr.findNow fndI
    by_cases e : a = x
    · subst e
      simp [Instr.sameNow]
    · rw [if_neg e]
      simp only [Instr.sameNow, if_true, beq_eq_false_iff_ne.2 e]
      exact findNow_int a l (n + 1) (i + 1)
theorem run_findKeyI (hk : P.underlying K = some (.int .i64)) (a : Int) (w : World) (l : List Int) : (Instr.findKey K (.int .i64 a) (entsI 0 l)).run P w = .ok (fndI a l 0) w := by
  unfold Instr.findKey
  simp only [Sem.run_bind, run_underlying hk, Result.andThen_ok]
  rw [findNow_int]
  rfl
theorem run_checkKeyI (hk : P.underlying K = some (.int .i64)) (e : Bool) (a : Int) (w : World) : (Instr.checkKey e 10000 K (.int .i64 a)).run P w = .ok () w := by
  unfold Instr.checkKey
  simp [Sem.run_bind, run_underlying hk]
theorem SetAt.put (hk : P.underlying K = some (.int .i64)) (ht : P.underlying T = some (.map K E)) {w : World} {b : Nat} {l : List Int} (hm : SetAt w b l) (a : Int) :
    ∃ w', (Instr.mapUpdate T (.map (some b)) (.int .i64 a) (.bool true)).run P w = .ok () w' ∧ (SetAt w' b (addS l a) ∧ w.grownBy w' (some b)) := by
  have hlt : b < w.heap.size := (Array.getElem?_eq_some_iff.1 hm).1
  have hset := fun o' => heap_set (o' := o') (show w.heap[b]? = some (.map (entsI 0 l).toArray l.length) from hm)
  have hgr : ∀ o', w.grownBy (setBlock w b o') (some b) := fun o' => ⟨rfl, rfl, rfl, by simp [setBlock], fun i _ hi => (hset o').2 i (fun e => hi (by rw [e]))⟩
  by_cases h : a ∈ l
  · obtain ⟨j, hj, hf⟩ := fndI_some (i := 0) h
    refine ⟨setBlock w b (.map (entsI 0 l).toArray l.length), ?_, ?_, hgr _⟩
    · have hen : (entsI 0 l)[j]? = some { key := .int .i64 a, val := .bool true, born := j } := by
        unfold entsI
        rw [List.getElem?_map, List.getElem?_zipIdx, hj]
        simp
      unfold SetAt at hm
      simp only [Instr.mapUpdate, Sem.run_bind, run_underlying ht, Result.andThen_ok]
      simp only [getObj, setObj, Sem.run, hm, Sem.run_bind, Result.andThen_ok, run_checkKeyI hk, Result.andThen]
      rw [run_findKeyI hk a w l, hf]
      simp only [Nat.zero_add]
      rw [show (entsI 0 l).toArray[j]? = some { key := .int .i64 a, val := .bool true, born := j } by simpa using hen]
      have hmod : (entsI 0 l).modify j (fun e => { key := .int .i64 a, val := .bool true, born := e.born }) = entsI 0 l := by
        apply List.ext_getElem?
        intro i
        rw [List.getElem?_modify]
        by_cases hij : j = i
        · subst hij
          simp [hen]
        · simp [hij]
      simp [Instr.keyThatStays, Instr.sameBits, Sem.run, hm, hmod, setBlock]
    · unfold addS
      rw [if_pos h]
      exact (hset _).1
  · refine ⟨setBlock w b (.map (entsI 0 (l ++ [a])).toArray (l.length + 1)), ?_, ?_, hgr _⟩
    · unfold SetAt at hm
      simp only [Instr.mapUpdate, Sem.run_bind, run_underlying ht, Result.andThen_ok]
      simp only [getObj, setObj, Sem.run, hm, Sem.run_bind, Result.andThen_ok, run_checkKeyI hk, Result.andThen]
      rw [run_findKeyI hk a w l, fndI_none h]
      simp only [entsI_snoc]
      simp [Sem.run, hm, setBlock]
    · unfold addS
      rw [if_neg h]
      have h1 := (hset (.map (entsI 0 (l ++ [a])).toArray (l.length + 1))).1
      unfold SetAt
      rw [List.length_append]
      exact h1
theorem SetAt.get (hk : P.underlying K = some (.int .i64)) (ht : P.underlying T = some (.map K E)) (hz : ∀ w, (zeroValue E).run P w = .ok (.bool false) w) {w : World} {b : Nat} {l : List Int} (hm : SetAt w b l) (a : Int) :
    (Instr.lookup T (.map (some b)) (.int .i64 a) false).run P w = .ok (.bool (decide (a ∈ l))) w := by
  unfold SetAt at hm
  simp only [Instr.lookup, Sem.run_bind, run_underlying ht, Result.andThen_ok]
  simp only [getObj, Sem.run, hm, Sem.run_bind, Result.andThen_ok, Sem.run_pure, run_checkKeyI hk, Result.andThen]
  by_cases h : a ∈ l
  · obtain ⟨j, hj, hf⟩ := fndI_some (i := 0) h
    rw [run_findKeyI hk a w l, hf]
    simp [h]
  · rw [run_findKeyI hk a w l, fndI_none h]
    simp [hz, h]
end
theorem SetAt.new (w : World) : SetAt (w.alloc (.map #[] 0)) w.heap.size [] := (MapKept.heap_alloc w _).1
theorem SetAt.lt {w : World} {b : Nat} {l : List Int} (h : SetAt w b l) : b < w.heap.size := (Array.getElem?_eq_some_iff.1 h).1
theorem SetAt.below {w w' : World} {b B : Nat} {l : List Int} (h : SetAt w b l) (hb : Below B w w') (hl : b < B) : SetAt w' b l := (hb.block b hl).trans h
theorem SetAt.alloc {w : World} {b : Nat} {l : List Int} (h : SetAt w b l) (o : Obj) : SetAt (w.alloc o) b l := h.below (below_alloc w o) h.lt
theorem SetAt.setCell {w : World} {b : Nat} {l : List Int} (h : SetAt w b l) {p : Addr} (hp : p.block ≠ b) (v : Value) : SetAt (w.setCell p v) b l :=
  (Below.heap_setCell w p v b (fun e => hp e.symm)).trans h
theorem SetAt.other {w w' : World} {b : Nat} {l : List Int} {row : Option Nat} (h : SetAt w b l) (hg : w.grownBy w' row) (hn : some b ≠ row) : SetAt w' b l := (hg.block b h.lt hn).trans h

/-- An iterator over the map in block b lies in block r: it has handed out what stands in got. -/
def IterAt (w : World) (b r n : Nat) (got : Array Nat) : Prop := ∃ c0, n ≤ c0 ∧ w.heap[r]? = some (.mapIter (some b) n got c0)
theorem entsI_mem {e : MapEntry} : ∀ {l : List Int} {n : Nat}, e ∈ entsI n l → ∃ i x, l[i]? = some x ∧ e = { key := .int .i64 x, val := .bool true, born := n + i }
  | [], n, h => by simp [entsI] at h
  | y :: l, n, h => by
    rw [entsI_cons] at h
    rcases List.mem_cons.1 h with rfl | h
    · exact ⟨0, y, rfl, rfl⟩
    · obtain ⟨i, x, hx, he⟩ := entsI_mem h
      exact ⟨i + 1, x, by simpa using hx, by rw [he]; congr 1; omega⟩
theorem entsI_in : ∀ {l : List Int} {n i : Nat} {x : Int}, l[i]? = some x → ({ key := .int .i64 x, val := .bool true, born := n + i } : MapEntry) ∈ entsI n l
  | [], n, i, x, h => by simp at h
  | y :: l, n, 0, x, h => by
    simp only [List.getElem?_cons_zero, Option.some.injEq] at h
    subst h
    rw [entsI_cons]; exact List.mem_cons_self
  | y :: l, n, i + 1, x, h => by
    rw [entsI_cons]
    have := entsI_in (n := n + 1) (l := l) (i := i) (x := x) (by simpa using h)
    rw [show n + (i + 1) = n + 1 + i by omega]
    exact List.mem_cons_of_mem _ this
theorem entsI_borns (l : List Int) : ∀ (n : Nat), (entsI n l).map (·.born) = List.range' n l.length := by
  induction l with
  | nil => intro n; rfl
  | cons y l ih => intro n; rw [entsI_cons, List.map_cons, ih]; rfl

section
variable {P : Program}
theorem SetAt.range {w : World} {b : Nat} {l : List Int} {t k e : TypeId} (h : SetAt w b l) (ht : P.underlying t = some (.map k e)) :
    ∃ w', (Instr.range t (.map (some b))).run P w = .ok (.pointer (some ⟨w.heap.size, 0, none⟩)) w' ∧ SetAt w' b l ∧ IterAt w' b w.heap.size l.length #[] ∧ w.grownBy w' none ∧ w'.heap.size = w.heap.size + 1 :=
  ⟨_, run_range_map w t k e b _ _ ht h, h.alloc _, ⟨l.length, Nat.le_refl _, (MapKept.heap_alloc w _).1⟩, World.grownBy_alloc w _ none, by simp⟩

theorem IterAt.next {w : World} {b r : Nat} {l : List Int} {got : Array Nat} (hm : SetAt w b l) (hi : IterAt w b r l.length got) (ty : TypeId) :
    ((∀ i, i < l.length → got.contains i = true) ∧ (Instr.next (.pointer (some ⟨r, 0, none⟩)) false ty).run P w = .ok (.tuple #[.bool false]) w) ∨
    ∃ (i : Nat) (x : Int) (w' : World), l[i]? = some x ∧ got.contains i = false ∧ (Instr.next (.pointer (some ⟨r, 0, none⟩)) false ty).run P w = .ok (.tuple #[.bool true, .int .i64 x, .bool true]) w' ∧
      SetAt w' b l ∧ IterAt w' b r l.length (got.push i) ∧ w.grownBy w' (some r) ∧ w'.heap.size = w.heap.size ∧ (Instr.entry (.pointer (some ⟨r, 0, none⟩))).run P w' = .ok (.tuple #[.int .i64 x, .bool true]) w' := by
  obtain ⟨c0, hc, hr⟩ := hi
  have hne : r ≠ b := by
    rintro rfl
    unfold SetAt at hm
    rw [hm] at hr; cases hr
  have hold : ∀ x ∈ (entsI 0 l).toArray.toList, x.born < l.length := fun x hx => by
    obtain ⟨i, y, hy, rfl⟩ := entsI_mem (by simpa using hx)
    have := (List.getElem?_eq_some_iff.1 hy).1
    show 0 + i < _
    omega
  have hnd : ((entsI 0 l).toArray.toList.map (·.born)).Nodup := by
    show ((entsI 0 l).map (·.born)).Nodup
    rw [entsI_borns]; exact List.nodup_range'
  rcases run_next_at (P := P) w ty r b l.length c0 got _ _ hr hm hold hc with ⟨h0, hrun⟩ | ⟨e, he, w1, hal, hrun⟩
  · refine .inl ⟨fun i hil => ?_, hrun⟩
    have h1 := all_seen _ got h0 _ (by simpa using entsI_in (n := 0) (List.getElem?_eq_getElem hil))
    simpa using h1
  · obtain ⟨hem, hes⟩ := mem_left he
    obtain ⟨i, x, hx, rfl⟩ := entsI_mem (by simpa using hem)
    have hr1 : w1.heap[r]? = some (.mapIter (some b) l.length got c0) := by rcases hal with rfl | rfl <;> exact hr
    have hb1 : SetAt w1 b l := by rcases hal with rfl | rfl <;> exact hm
    have hset := heap_set (o' := .mapIter (some b) l.length (got.push (0 + i)) l.length) hr1
    have hb' : SetAt (setBlock w1 r (.mapIter (some b) l.length (got.push (0 + i)) l.length)) b l := (hset.2 b (fun e1 => hne e1.symm)).trans hb1
    refine .inr ⟨i, x, _, hx, by simpa using hes, hrun, hb', ⟨l.length, Nat.le_refl _, hset.1.trans (by rw [Nat.zero_add])⟩, ?_, ?_, run_entry_at _ r b l.length got _ _ _ hset.1 hb' hem hnd⟩
    · rcases hal with rfl | rfl <;> exact ⟨rfl, rfl, rfl, by simp [setBlock], fun i _ hi => hset.2 i (fun e1 => hi (by rw [e1]))⟩
    · rcases hal with rfl | rfl <;> simp [setBlock]
end
theorem filter_less {α : Type} (p q : α → Bool) (hpq : ∀ x, p x = true → q x = true) (y : α) (hq : q y = true) (hp : p y = false) : ∀ l : List α, y ∈ l → (l.filter p).length < (l.filter q).length
  | [], h => by cases h
  | x :: l, h => by
    have hle : (l.filter p).length ≤ (l.filter q).length := by
      clear h
      induction l with
      | nil => simp
      | cons z l ih =>
        rw [List.filter_cons, List.filter_cons]
        by_cases h1 : p z = true
        · rw [if_pos h1, if_pos (hpq z h1)]; simpa using ih
        · rw [if_neg h1]
          split
          · simp only [List.length_cons]; omega
          · exact ih
    rw [List.filter_cons, List.filter_cons]
    rcases List.mem_cons.1 h with rfl | h
    · rw [if_neg (by rw [hp]; simp), if_pos hq]; simp only [List.length_cons]; omega
    · have ih := filter_less p q hpq y hq hp l h
      by_cases h1 : p x = true
      · rw [if_pos h1, if_pos (hpq x h1)]; simpa using ih
      · rw [if_neg h1]
        split
        · simp only [List.length_cons]; omega
        · exact ih
/-- How many entries are still to come. -/
def iterLeft (n : Nat) (w : World) (r : Nat) : Nat := ((List.range n).filter fun i => !(w.iterSeen r).contains i).length
theorem IterAt.seen_eq {w : World} {b r n : Nat} {got : Array Nat} (h : IterAt w b r n got) : w.iterSeen r = got := by
  obtain ⟨c0, -, hr⟩ := h
  unfold World.iterSeen
  rw [hr]
theorem iterLeft_lt {w w' : World} {b r n i : Nat} {got : Array Nat} (h : IterAt w b r n got) (h' : IterAt w' b r n (got.push i)) (hi : i < n) (hs : got.contains i = false) : iterLeft n w' r < iterLeft n w r := by
  unfold iterLeft
  rw [h.seen_eq, h'.seen_eq]
  refine filter_less _ _ (fun x hx => ?_) i (by rw [hs]; rfl) (by rw [contains_push]; simp) _ (List.mem_range.2 hi)
  rw [contains_push] at hx
  cases hc : got.contains x with
  | false => rfl
  | true => rw [hc] at hx; simp at hx
theorem IterAt.lt {w : World} {b r n : Nat} {got : Array Nat} (h : IterAt w b r n got) : r < w.heap.size := by
  obtain ⟨c0, -, hr⟩ := h
  exact (Array.getElem?_eq_some_iff.1 hr).1
theorem IterAt.below {w w' : World} {b r n B : Nat} {got : Array Nat} (h : IterAt w b r n got) (hb : Below B w w') (hl : r < B) : IterAt w' b r n got := by
  obtain ⟨c0, hc, hr⟩ := h
  exact ⟨c0, hc, (hb.block r hl).trans hr⟩
theorem IterAt.other {w w' : World} {b r n : Nat} {got : Array Nat} {row : Option Nat} (h : IterAt w b r n got) (hg : w.grownBy w' row) (hn : some r ≠ row) : IterAt w' b r n got := by
  obtain ⟨c0, hc, hr⟩ := h
  exact ⟨c0, hc, (hg.block r (Array.getElem?_eq_some_iff.1 hr).1 hn).trans hr⟩

section
variable {P : Program} {K E : TypeId} (w : World) {ops : Array Oper} {rest : List Oper} {o : Oper} {a : Act} {Q : Exit → Act → World → Prop}
theorem wpList_setPut (hk : P.underlying K = some (.int .i64)) (hg : o.guard = none) (m x v : Operand) (t : TypeId) (hop : o.op = Op.mapUpdate t m x v) (ht : P.underlying t = some (.map K E)) (b : Nat) (l : List Int) (y : Int)
    (hm : a.eval m = .map (some b)) (hx : a.eval x = .int .i64 y) (hv : a.eval v = .bool true) (hs : SetAt w b l)
    (h : ∀ w1, SetAt w1 b (addS l y) → w.grownBy w1 (some b) → wpList P ops Q rest (a.put o.dst undef) w1) : wpList P ops Q (o :: rest) a w := by
  obtain ⟨w1, h1, h2, h3⟩ := hs.put hk ht y
  refine wpList_plain hg fun K' hK' => ?_
  unfold Oper.wp
  simp [execOp, hop, hm, hx, hv, h1, Result.andThen]
  exact hK' _ _ (h w1 h2 h3)
theorem wpList_setGet (hk : P.underlying K = some (.int .i64)) (hg : o.guard = none) (m x : Operand) (t : TypeId) (hop : o.op = Op.lookup t m x false) (ht : P.underlying t = some (.map K E)) (hz : ∀ w, (zeroValue E).run P w = .ok (.bool false) w) (b : Nat) (l : List Int) (y : Int)
    (hm : a.eval m = .map (some b)) (hx : a.eval x = .int .i64 y) (hs : SetAt w b l)
    (h : wpList P ops Q rest (a.put o.dst (.bool (decide (y ∈ l)))) w) : wpList P ops Q (o :: rest) a w := by
  refine wpList_plain hg fun K' hK' => ?_
  unfold Oper.wp
  simp [execOp, hop, hm, hx, hs.get hk ht hz y, Result.andThen]
  exact hK' _ _ h
theorem wpList_range_iter (hg : o.guard = none) (m : Operand) (t : TypeId) (hop : o.op = Op.range t m) (k e : TypeId) (ht : P.underlying t = some (.map k e)) (b : Nat) (l : List Int)
    (hm : a.eval m = .map (some b)) (hown : SetAt w b l)
    (hK : ∀ w', SetAt w' b l → IterAt w' b w.heap.size l.length #[] → w.grownBy w' none → w'.heap.size = w.heap.size + 1 → wpList P ops Q rest (a.put o.dst (.pointer (some ⟨w.heap.size, 0, none⟩))) w') :
    wpList P ops Q (o :: rest) a w := by
  refine wpList_plain hg fun K' hK' => ?_
  obtain ⟨w', hrun, r1, r2, r3, r4⟩ := hown.range ht
  unfold Oper.wp
  simp [execOp, hop, hm, hrun, Result.andThen]
  exact hK' _ _ (hK w' r1 r2 r3 r4)
theorem wpList_next_iter (hg : o.guard = none) (it : Operand) (hop : o.op = Op.next it false) (b r : Nat) (l : List Int) (got : Array Nat)
    (hit : a.eval it = .pointer (some ⟨r, 0, none⟩)) (hm : SetAt w b l) (hi : IterAt w b r l.length got)
    (hDone : (∀ i, i < l.length → got.contains i = true) → wpList P ops Q rest (a.put o.dst (.tuple #[.bool false])) w)
    (hMore : ∀ (i : Nat) (x : Int) (w' : World), l[i]? = some x → got.contains i = false → SetAt w' b l → IterAt w' b r l.length (got.push i) → w.grownBy w' (some r) → w'.heap.size = w.heap.size →
      (Instr.entry (.pointer (some ⟨r, 0, none⟩))).run P w' = .ok (.tuple #[.int .i64 x, .bool true]) w' → wpList P ops Q rest (a.put o.dst (.tuple #[.bool true, .int .i64 x, .bool true])) w') :
    wpList P ops Q (o :: rest) a w := by
  refine wpList_plain hg fun K' hK' => ?_
  unfold Oper.wp
  rcases hi.next (P := P) hm o.type with ⟨h0, hrun⟩ | ⟨i, x, w', hx, hs, hrun, h1, h2, h3, h4, h5⟩
  · simp [execOp, hop, hit, hrun, Result.andThen]
    exact hK' _ _ (hDone h0)
  · simp [execOp, hop, hit, hrun, Result.andThen]
    exact hK' _ _ (hMore i x w' hx hs h1 h2 h3 h4 h5)
end
end Go.Proofs.Ytlmpbmlbllndcaa
