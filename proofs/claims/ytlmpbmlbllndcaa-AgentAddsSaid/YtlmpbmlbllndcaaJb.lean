/-
  A map from int to values: storing at a key that is new, asking with 'ok'.
-/
import Derived.Test.YtlmpbmlbllndcaaLn
namespace Go.Proofs.Ytlmpbmlbllndcaa
open Go.RowKit
open Go.ChangeMaps (setBlock)
open Go.MapKept (heap_set)

def entsV (n : Nat) (l : List (Int × Value)) : List MapEntry := (l.zipIdx n).map fun x => { key := .int .i64 x.1.1, val := x.1.2, born := x.2 }
def MapAt (w : World) (b : Nat) (l : List (Int × Value)) : Prop := w.heap[b]? = some (.map (entsV 0 l).toArray l.length)
theorem entsV_cons (n : Nat) (x : Int × Value) (l : List (Int × Value)) : entsV n (x :: l) = { key := .int .i64 x.1, val := x.2, born := n } :: entsV (n + 1) l := by
  simp [entsV, List.zipIdx_cons]
theorem entsV_snoc (l : List (Int × Value)) (x : Int × Value) : entsV 0 (l ++ [x]) = entsV 0 l ++ [{ key := .int .i64 x.1, val := x.2, born := l.length }] := by
  simp [entsV, List.zipIdx_append]
theorem entsV_len (l : List (Int × Value)) (n : Nat) : (entsV n l).length = l.length := by simp [entsV]
def fndV (a : Int) : List (Int × Value) → Nat → Option (Nat × Value)
  | [], _ => none
  | x :: l, i => if a = x.1 then some (i, x.2) else fndV a l (i + 1)
theorem fndV_none {a : Int} : ∀ {l : List (Int × Value)} {i : Nat}, a ∉ l.map Prod.fst → fndV a l i = none
  | [], _, _ => rfl
  | x :: l, i, h => by
    unfold fndV
    rw [if_neg (fun e => h (by simp [e]))]
    exact fndV_none (fun e => h (by simp only [List.map_cons, List.mem_cons]; exact .inr e))
theorem fndV_some {a : Int} {v : Value} : ∀ {l : List (Int × Value)} {i : Nat}, (l.map Prod.fst).Nodup → (a, v) ∈ l → ∃ j, fndV a l i = some (j, v)
  | [], _, _, h => by cases h
  | x :: l, i, hn, h => by
    rw [List.map_cons, List.nodup_cons] at hn
    unfold fndV
    rcases List.mem_cons.1 h with e | h
    · exact ⟨i, by rw [if_pos (by rw [← e]), ← e]⟩
    · have hne : a ≠ x.1 := fun e => hn.1 (by rw [← e]; exact List.mem_map.2 ⟨_, h, rfl⟩)
      rw [if_neg hne]
      exact fndV_some hn.2 h
section
variable {P : Program} {K T E : TypeId}
theorem findNow_intV (a : Int) : ∀ (l : List (Int × Value)) (n i : Nat), Instr.findNow (.int .i64) (.int .i64 a) (entsV n l) i = some (fndV a l i)
  | [], _, _ => rfl
  | x :: l, n, i => by
    rw [entsV_cons]
    unfold Instr.findNow fndV
    by_cases e : a = x.1
    · subst e
      simp [Instr.sameNow]
    · rw [if_neg e]
      simp only [Instr.sameNow, if_true, beq_eq_false_iff_ne.2 e]
      exact findNow_intV a l (n + 1) (i + 1)
theorem run_findKeyV (hk : P.underlying K = some (.int .i64)) (a : Int) (w : World) (l : List (Int × Value)) : (Instr.findKey K (.int .i64 a) (entsV 0 l)).run P w = .ok (fndV a l 0) w := by
  unfold Instr.findKey
  simp only [Sem.run_bind, run_underlying hk, Result.andThen_ok]
  rw [findNow_intV]
  rfl
theorem MapAt.put (hk : P.underlying K = some (.int .i64)) (ht : P.underlying T = some (.map K E)) {w : World} {b : Nat} {l : List (Int × Value)} (hm : MapAt w b l) (a : Int) (v : Value) (h : a ∉ l.map Prod.fst) :
    ∃ w', (Instr.mapUpdate T (.map (some b)) (.int .i64 a) v).run P w = .ok () w' ∧ (MapAt w' b (l ++ [(a, v)]) ∧ w.grownBy w' (some b)) := by
  have hlt : b < w.heap.size := (Array.getElem?_eq_some_iff.1 hm).1
  have hset := fun o' => heap_set (o' := o') (show w.heap[b]? = some (.map (entsV 0 l).toArray l.length) from hm)
  have hgr : ∀ o', w.grownBy (setBlock w b o') (some b) := fun o' => ⟨rfl, rfl, rfl, by simp [setBlock], fun i _ hi => (hset o').2 i (fun e => hi (by rw [e]))⟩
  refine ⟨setBlock w b (.map (entsV 0 (l ++ [(a, v)])).toArray (l.length + 1)), ?_, ?_, hgr _⟩
  · unfold MapAt at hm
    simp only [Instr.mapUpdate, Sem.run_bind, run_underlying ht, Result.andThen_ok]
    simp only [getObj, setObj, Sem.run, hm, Sem.run_bind, Result.andThen_ok, run_checkKeyI hk, Result.andThen]
    rw [run_findKeyV hk a w l, fndV_none h]
    simp only [entsV_snoc]
    simp [Sem.run, hm, setBlock]
  · have h1 := (hset (.map (entsV 0 (l ++ [(a, v)])).toArray (l.length + 1))).1
    unfold MapAt
    rw [List.length_append]
    exact h1
theorem MapAt.get_yes (hk : P.underlying K = some (.int .i64)) (ht : P.underlying T = some (.map K E)) {w : World} {b : Nat} {l : List (Int × Value)} (hm : MapAt w b l) (hn : (l.map Prod.fst).Nodup) (a : Int) (v : Value) (h : (a, v) ∈ l) :
    (Instr.lookup T (.map (some b)) (.int .i64 a) true).run P w = .ok (.tuple #[v, .bool true]) w := by
  unfold MapAt at hm
  simp only [Instr.lookup, Sem.run_bind, run_underlying ht, Result.andThen_ok]
  simp only [getObj, Sem.run, hm, Sem.run_bind, Result.andThen_ok, Sem.run_pure, run_checkKeyI hk, Result.andThen]
  obtain ⟨j, hj⟩ := fndV_some (i := 0) hn h
  rw [run_findKeyV hk a w l, hj]
  simp
theorem MapAt.get_no (hk : P.underlying K = some (.int .i64)) (ht : P.underlying T = some (.map K E)) {z : Value} (hz : ∀ w, (zeroValue E).run P w = .ok z w) {w : World} {b : Nat} {l : List (Int × Value)} (hm : MapAt w b l) (a : Int) (h : a ∉ l.map Prod.fst) :
    (Instr.lookup T (.map (some b)) (.int .i64 a) true).run P w = .ok (.tuple #[z, .bool false]) w := by
  unfold MapAt at hm
  simp only [Instr.lookup, Sem.run_bind, run_underlying ht, Result.andThen_ok]
  simp only [getObj, Sem.run, hm, Sem.run_bind, Result.andThen_ok, Sem.run_pure, run_checkKeyI hk, Result.andThen]
  rw [run_findKeyV hk a w l, fndV_none h]
  simp [hz]
end
theorem MapAt.new (w : World) : MapAt (w.alloc (.map #[] 0)) w.heap.size [] := (MapKept.heap_alloc w _).1
theorem MapAt.lt {w : World} {b : Nat} {l : List (Int × Value)} (h : MapAt w b l) : b < w.heap.size := (Array.getElem?_eq_some_iff.1 h).1
theorem MapAt.below {w w' : World} {b B : Nat} {l : List (Int × Value)} (h : MapAt w b l) (hb : Below B w w') (hl : b < B) : MapAt w' b l := (hb.block b hl).trans h
section
variable {P : Program} {K E : TypeId} (w : World) {ops : Array Oper} {rest : List Oper} {o : Oper} {a : Act} {Q : Exit → Act → World → Prop}
theorem wpList_mapPut (hk : P.underlying K = some (.int .i64)) (hg : o.guard = none) (m x v : Operand) (t : TypeId) (hop : o.op = Op.mapUpdate t m x v) (ht : P.underlying t = some (.map K E)) (b : Nat) (l : List (Int × Value)) (y : Int) (z : Value)
    (hm : a.eval m = .map (some b)) (hx : a.eval x = .int .i64 y) (hv : a.eval v = z) (hs : MapAt w b l) (hy : y ∉ l.map Prod.fst)
    (h : ∀ w1, MapAt w1 b (l ++ [(y, z)]) → w.grownBy w1 (some b) → wpList P ops Q rest (a.put o.dst undef) w1) : wpList P ops Q (o :: rest) a w := by
  obtain ⟨w1, h1, h2, h3⟩ := hs.put hk ht y z hy
  refine wpList_plain hg fun K' hK' => ?_
  unfold Oper.wp
  simp [execOp, hop, hm, hx, hv, h1, Result.andThen]
  exact hK' _ _ (h w1 h2 h3)
end
end Go.Proofs.Ytlmpbmlbllndcaa
