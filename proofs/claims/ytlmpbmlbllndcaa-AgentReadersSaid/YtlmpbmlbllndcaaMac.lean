/-
  A map from int to values: storing at a key that is new, asking with 'ok'.
  Plain: days, losses, the least supply with the least total.
-/
import Derived.Test.YtlmpbmlbllndcaaMab
import Derived.Test.YtlmpbmlbllndcaaChecked
namespace Go.Proofs.Ytlmpbmlbllndcaa
open Go.RowKit
open Go.ChangeMaps (setBlock)
open Go.MapKept (heap_set)

def entsV (n : Nat) (l : List (Int × Value)) : List MapEntry := (l.zipIdx n).map fun x => { key := .int .i64 x.1.1, val := x.1.2, born := x.2 }
def MapAt (w : World) (b : Nat) (l : List (Int × Value)) : Prop := w.heap[b]? = some (.map (entsV 0 l).toArray l.length)
theorem entsV_cons (n : Nat) (x : Int × Value) (l : List (Int × Value)) : entsV n (x :: l) = { key := .int .i64 x.1, val := x.2, born := n } :: entsV (n + 1) l := by
  simp [entsV, List.zipIdx_cons]
theorem entsV_snoc (l : List (Int × Value)) (x : Int × Value) : entsV 0 (l ++ [x]) = entsV 0 l ++ [{ key := .int .i64 x.1, val := x.2, born := l.length }] := by
  simp [entsV, List.zipIdx_append]
theorem entsV_len (l : List (Int × Value)) (n : Nat) : (entsV n l).length = l.length := by simp [entsV]
def fndV (a : Int) : List (Int × Value) → Nat → Option (Nat × Value)
  | [], _ => none
  | x :: l, i => if a = x.1 then some (i, x.2) else fndV a l (i + 1)
theorem fndV_none {a : Int} : ∀ {l : List (Int × Value)} {i : Nat}, a ∉ l.map Prod.fst → fndV a l i = none
  | [], _, _ => rfl
  | x :: l, i, h => by
    unfold fndV
    rw [if_neg (fun e => h (by simp [e]))]
    exact fndV_none (fun e => h (by simp only [List.map_cons, List.mem_cons]; exact .inr e))
theorem fndV_some {a : Int} {v : Value} : ∀ {l : List (Int × Value)} {i : Nat}, (l.map Prod.fst).Nodup → (a, v) ∈ l → ∃ j, fndV a l i = some (j, v)
  | [], _, _, h => by cases h
  | x :: l, i, hn, h => by
    rw [List.map_cons, List.nodup_cons] at hn
    unfold fndV
    rcases List.mem_cons.1 h with e | h
    · exact ⟨i, by rw [if_pos (by rw [← e]), ← e]⟩
    · have hne : a ≠ x.1 := fun e => hn.1 (by rw [← e]; exact List.mem_map.2 ⟨_, h, rfl⟩)
      rw [if_neg hne]
      exact fndV_some hn.2 h
section
variable {P : Program} {K T E : TypeId}
theorem findNow_intV (a : Int) : ∀ (l : List (Int × Value)) (n i : Nat), Instr.findNow (.int .i64) (.int .i64 a) (entsV n l) i = some (fndV a l i)
  | [], _, _ => rfl
  | x :: l, n, i => by
    rw [entsV_cons]
    unfold Instr.findNow fndV
    by_cases e : a = x.1
    · subst e
      simp [Instr.sameNow]
    · rw [if_neg e]
      simp only [Instr.sameNow, if_true, beq_eq_false_iff_ne.2 e]
      exact findNow_intV a l (n + 1) (i + 1)
theorem run_findKeyV (hk : P.underlying K = some (.int .i64)) (a : Int) (w : World) (l : List (Int × Value)) : (Instr.findKey K (.int .i64 a) (entsV 0 l)).run P w = .ok (fndV a l 0) w := by
  unfold Instr.findKey
  simp only [Sem.run_bind, run_underlying hk, Result.andThen_ok]
  rw [findNow_intV]
  rfl
theorem MapAt.put (hk : P.underlying K = some (.int .i64)) (ht : P.underlying T = some (.map K E)) {w : World} {b : Nat} {l : List (Int × Value)} (hm : MapAt w b l) (a : Int) (v : Value) (h : a ∉ l.map Prod.fst) :
    ∃ w', (Instr.mapUpdate T (.map (some b)) (.int .i64 a) v).run P w = .ok () w' ∧ (MapAt w' b (l ++ [(a, v)]) ∧ w.grownBy w' (some b)) := by
  have hlt : b < w.heap.size := (Array.getElem?_eq_some_iff.1 hm).1
  have hset := fun o' => heap_set (o' := o') (show w.heap[b]? = some (.map (entsV 0 l).toArray l.length) from hm)
  have hgr : ∀ o', w.grownBy (setBlock w b o') (some b) := fun o' => ⟨rfl, rfl, rfl, by simp [setBlock], fun i _ hi => (hset o').2 i (fun e => hi (by rw [e]))⟩
  refine ⟨setBlock w b (.map (entsV 0 (l ++ [(a, v)])).toArray (l.length + 1)), ?_, ?_, hgr _⟩
  · unfold MapAt at hm
    simp only [Instr.mapUpdate, Sem.run_bind, run_underlying ht, Result.andThen_ok]
    simp only [getObj, setObj, Sem.run, hm, Sem.run_bind, Result.andThen_ok, run_checkKeyI hk, Result.andThen]
    rw [run_findKeyV hk a w l, fndV_none h]
    simp only [entsV_snoc]
    simp [Sem.run, hm, setBlock]
  · have h1 := (hset (.map (entsV 0 (l ++ [(a, v)])).toArray (l.length + 1))).1
    unfold MapAt
    rw [List.length_append]
    exact h1
theorem MapAt.get_yes (hk : P.underlying K = some (.int .i64)) (ht : P.underlying T = some (.map K E)) {w : World} {b : Nat} {l : List (Int × Value)} (hm : MapAt w b l) (hn : (l.map Prod.fst).Nodup) (a : Int) (v : Value) (h : (a, v) ∈ l) :
    (Instr.lookup T (.map (some b)) (.int .i64 a) true).run P w = .ok (.tuple #[v, .bool true]) w := by
  unfold MapAt at hm
  simp only [Instr.lookup, Sem.run_bind, run_underlying ht, Result.andThen_ok]
  simp only [getObj, Sem.run, hm, Sem.run_bind, Result.andThen_ok, Sem.run_pure, run_checkKeyI hk, Result.andThen]
  obtain ⟨j, hj⟩ := fndV_some (i := 0) hn h
  rw [run_findKeyV hk a w l, hj]
  simp
theorem MapAt.get_no (hk : P.underlying K = some (.int .i64)) (ht : P.underlying T = some (.map K E)) {z : Value} (hz : ∀ w, (zeroValue E).run P w = .ok z w) {w : World} {b : Nat} {l : List (Int × Value)} (hm : MapAt w b l) (a : Int) (h : a ∉ l.map Prod.fst) :
    (Instr.lookup T (.map (some b)) (.int .i64 a) true).run P w = .ok (.tuple #[z, .bool false]) w := by
  unfold MapAt at hm
  simp only [Instr.lookup, Sem.run_bind, run_underlying ht, Result.andThen_ok]
  simp only [getObj, Sem.run, hm, Sem.run_bind, Result.andThen_ok, Sem.run_pure, run_checkKeyI hk, Result.andThen]
  rw [run_findKeyV hk a w l, fndV_none h]
  simp [hz]
end
theorem MapAt.new (w : World) : MapAt (w.alloc (.map #[] 0)) w.heap.size [] := (MapKept.heap_alloc w _).1
theorem MapAt.lt {w : World} {b : Nat} {l : List (Int × Value)} (h : MapAt w b l) : b < w.heap.size := (Array.getElem?_eq_some_iff.1 h).1
theorem MapAt.below {w w' : World} {b B : Nat} {l : List (Int × Value)} (h : MapAt w b l) (hb : Below B w w') (hl : b < B) : MapAt w' b l := (hb.block b hl).trans h
section
variable {P : Program} {K E : TypeId} (w : World) {ops : Array Oper} {rest : List Oper} {o : Oper} {a : Act} {Q : Exit → Act → World → Prop}
theorem wpList_mapPut (hk : P.underlying K = some (.int .i64)) (hg : o.guard = none) (m x v : Operand) (t : TypeId) (hop : o.op = Op.mapUpdate t m x v) (ht : P.underlying t = some (.map K E)) (b : Nat) (l : List (Int × Value)) (y : Int) (z : Value)
    (hm : a.eval m = .map (some b)) (hx : a.eval x = .int .i64 y) (hv : a.eval v = z) (hs : MapAt w b l) (hy : y ∉ l.map Prod.fst)
    (h : ∀ w1, MapAt w1 b (l ++ [(y, z)]) → w.grownBy w1 (some b) → wpList P ops Q rest (a.put o.dst undef) w1) : wpList P ops Q (o :: rest) a w := by
  obtain ⟨w1, h1, h2, h3⟩ := hs.put hk ht y z hy
  refine wpList_plain hg fun K' hK' => ?_
  unfold Oper.wp
  simp [execOp, hop, hm, hx, hv, h1, Result.andThen]
  exact hK' _ _ (h w1 h2 h3)
end
end Go.Proofs.Ytlmpbmlbllndcaa

namespace Go.Proofs.Ytlmpbmlbllndcaa

structure DayD where
  sup : Int
  ret : Int
deriving DecidableEq
def DayD.sold (d : DayD) : Int := d.sup - d.ret
def DayD.ok (d : DayD) : Prop := 0 ≤ d.sup ∧ d.sup ≤ 10000 ∧ 0 ≤ d.ret ∧ d.ret ≤ d.sup
instance (d : DayD) : Decidable d.ok := by unfold DayD.ok; infer_instance
/-- The loss of a supply on a day. -/
def lossD (a b : Int) (d : DayD) (q : Int) : Int := if q - d.sold < 0 then b * (d.sold - q) else if 0 < d.ret then a * (q - d.sold) else 0
/-- The losses on all days. -/
def totD (a b : Int) : List DayD → Int → Int
  | [], _ => 0
  | d :: l, q => lossD a b d q + totD a b l q
theorem totD_app (a b : Int) (l m : List DayD) (q : Int) : totD a b (l ++ m) q = totD a b l q + totD a b m q := by
  induction l with
  | nil => simp [totD]
  | cons d l ih => simp [totD, ih]; omega
theorem loss_bd {a b : Int} {d : DayD} {q : Int} (ha : 0 ≤ a) (ha' : a ≤ 1000) (hb : 0 ≤ b) (hb' : b ≤ 1000) (hd : d.ok) (hq : 0 ≤ q) (hq' : q ≤ 10000) : 0 ≤ lossD a b d q ∧ lossD a b d q ≤ 10000000 := by
  obtain ⟨h1, h2, h3, h4⟩ := hd
  unfold lossD DayD.sold
  split
  · have h5 : 0 ≤ d.sup - d.ret - q := by omega
    have h6 : d.sup - d.ret - q ≤ 10000 := by omega
    exact ⟨Int.mul_nonneg hb h5, Int.le_trans (Int.mul_le_mul hb' h6 h5 (by omega)) (by omega)⟩
  · split
    · have h5 : 0 ≤ q - (d.sup - d.ret) := by omega
      have h6 : q - (d.sup - d.ret) ≤ 10000 := by omega
      exact ⟨Int.mul_nonneg ha h5, Int.le_trans (Int.mul_le_mul ha' h6 h5 (by omega)) (by omega)⟩
    · omega
theorem tot_bd {a b : Int} {l : List DayD} {q : Int} (ha : 0 ≤ a) (ha' : a ≤ 1000) (hb : 0 ≤ b) (hb' : b ≤ 1000) (hl : ∀ d ∈ l, d.ok) (hq : 0 ≤ q) (hq' : q ≤ 10000) : 0 ≤ totD a b l q ∧ totD a b l q ≤ 10000000 * l.length := by
  induction l with
  | nil => simp [totD]
  | cons d l ih =>
    obtain ⟨h1, h2⟩ := ih (fun x hx => hl x (List.mem_cons_of_mem _ hx))
    obtain ⟨h3, h4⟩ := loss_bd ha ha' hb hb' (hl d List.mem_cons_self) hq hq'
    simp only [totD, List.length_cons]
    constructor
    · omega
    · push_cast
      omega
/-- What one copy more costs on a day, from a supply q on. -/
def stepD (a b : Int) (d : DayD) (q : Int) : Int := if q < d.sold then -b else if 0 < d.ret then a else 0
def stepsD (a b : Int) : List DayD → Int → Int
  | [], _ => 0
  | d :: l, q => stepD a b d q + stepsD a b l q
theorem loss_step (a b : Int) (d : DayD) (q : Int) : lossD a b d (q + 1) = lossD a b d q + stepD a b d q := by
  unfold lossD stepD
  by_cases h1 : q < d.sold
  · rw [if_pos h1, if_pos (show q - d.sold < 0 by omega)]
    by_cases h2 : q + 1 - d.sold < 0
    · rw [if_pos h2, show d.sold - q = (d.sold - (q + 1)) + 1 by omega, Int.mul_add]
      omega
    · rw [if_neg h2, show d.sold - q = 1 by omega, show q + 1 - d.sold = 0 by omega]
      simp
      omega
  · rw [if_neg h1, if_neg (show ¬ q - d.sold < 0 by omega), if_neg (show ¬ q + 1 - d.sold < 0 by omega)]
    split
    · rw [show q + 1 - d.sold = (q - d.sold) + 1 by omega, Int.mul_add]
      omega
    · omega
theorem tot_step (a b : Int) (l : List DayD) (q : Int) : totD a b l (q + 1) = totD a b l q + stepsD a b l q := by
  induction l with
  | nil => simp [totD, stepsD]
  | cons d l ih => simp only [totD, stepsD, ih, loss_step]; omega
theorem steps_same {a b : Int} {l : List DayD} {q : Int} (h : ∀ d ∈ l, d.sold ≠ q + 1) : stepsD a b l q = stepsD a b l (q + 1) := by
  induction l with
  | nil => rfl
  | cons d l ih =>
    simp only [stepsD]
    rw [ih fun x hx => h x (List.mem_cons_of_mem _ hx)]
    have h1 := h d List.mem_cons_self
    unfold stepD
    by_cases h2 : q < d.sold
    · rw [if_pos h2, if_pos (show q + 1 < d.sold by omega)]
    · rw [if_neg h2, if_neg (show ¬ q + 1 < d.sold by omega)]
theorem steps_end {a b : Int} {l : List DayD} {q : Int} (ha : 0 ≤ a) (h : ∀ d ∈ l, d.sold ≤ q) : 0 ≤ stepsD a b l q := by
  induction l with
  | nil => exact Int.le_refl _
  | cons d l ih =>
    have h1 := ih fun x hx => h x (List.mem_cons_of_mem _ hx)
    have h2 := h d List.mem_cons_self
    simp only [stepsD]
    unfold stepD
    rw [if_neg (by omega)]
    split <;> omega
/-- A supply that Best looks at: nothing, or what was sold on some day. -/
def Cand (l : List DayD) (q : Int) : Prop := q = 0 ∨ ∃ d ∈ l, d.sold = q
theorem cand_low {a b : Int} {l : List DayD} : ∀ (k : Nat), (k = 0 ∨ 0 ≤ stepsD a b l ((k : Int) - 1)) → ∃ c, Cand l c ∧ c ≤ (k : Int) ∧ totD a b l c ≤ totD a b l k
  | 0, _ => ⟨0, Or.inl rfl, Int.le_refl _, Int.le_refl _⟩
  | k + 1, h => by
    by_cases hc : Cand l ((k + 1 : Nat) : Int)
    · exact ⟨_, hc, Int.le_refl _, Int.le_refl _⟩
    · have h0 : 0 ≤ stepsD a b l (k : Int) := by
        rcases h with h | h
        · omega
        · rw [show (((k + 1 : Nat) : Int) - 1) = (k : Int) by omega] at h
          exact h
      have ht := tot_step a b l (k : Int)
      have hrec : k = 0 ∨ Cand l (k : Int) ∨ 0 ≤ stepsD a b l ((k : Int) - 1) := by
        rcases Nat.eq_zero_or_pos k with h | h
        · exact Or.inl h
        · by_cases hk : Cand l (k : Int)
          · exact Or.inr (Or.inl hk)
          · refine Or.inr (Or.inr ?_)
            rw [steps_same (q := (k : Int) - 1) fun d hd he => hk (Or.inr ⟨d, hd, by omega⟩), show (k : Int) - 1 + 1 = k by omega]
            exact h0
      have hk1 : ((k + 1 : Nat) : Int) = (k : Int) + 1 := by omega
      rw [hk1, ht]
      rcases hrec with h | h | h
      · obtain ⟨c, h1, h2, h3⟩ := cand_low (a := a) (b := b) (l := l) k (Or.inl h)
        exact ⟨c, h1, by omega, by omega⟩
      · exact ⟨k, h, by omega, by omega⟩
      · obtain ⟨c, h1, h2, h3⟩ := cand_low (a := a) (b := b) (l := l) k (Or.inr h)
        exact ⟨c, h1, by omega, by omega⟩
theorem cand_high {a b : Int} {l : List DayD} (ha : 0 ≤ a) (M : Int) (hM : ∀ d ∈ l, d.sold ≤ M) : ∀ (n : Nat) (q : Int), M - q ≤ n → stepsD a b l q < 0 → ∃ c, Cand l c ∧ q < c ∧ totD a b l c < totD a b l q
  | 0, q, hn, h => by
    have := steps_end (a := a) (b := b) (l := l) (q := q) ha fun d hd => by have := hM d hd; omega
    omega
  | n + 1, q, hn, h => by
    have ht := tot_step a b l q
    by_cases hc : Cand l (q + 1)
    · exact ⟨q + 1, hc, by omega, by omega⟩
    · rw [steps_same (q := q) fun d hd he => hc (Or.inr ⟨d, hd, he⟩)] at h
      rw [← steps_same (q := q) fun d hd he => hc (Or.inr ⟨d, hd, he⟩)] at h
      have h' : stepsD a b l (q + 1) < 0 := by
        rw [← steps_same (q := q) fun d hd he => hc (Or.inr ⟨d, hd, he⟩)]
        exact h
      obtain ⟨c, h1, h2, h3⟩ := cand_high ha M hM n (q + 1) (by omega) h'
      exact ⟨c, h1, by omega, by omega⟩
/-- The least supply with the least total, of those that Best looks at. -/
structure IsBest (a b : Int) (l : List DayD) (q n : Int) : Prop where
  cand : Cand l q
  tot : n = totD a b l q
  least : ∀ c, Cand l c → n < totD a b l c ∨ n = totD a b l c ∧ q ≤ c
theorem IsBest.one {a b : Int} {l : List DayD} {q n q' n' : Int} (h : IsBest a b l q n) (h' : IsBest a b l q' n') : q = q' ∧ n = n' := by
  have h1 := h.least _ h'.cand
  have h2 := h'.least _ h.cand
  rw [← h'.tot] at h1
  rw [← h.tot] at h2
  omega
theorem IsBest.all {a b : Int} {l : List DayD} {q n : Int} (h : IsBest a b l q n) (ha : 0 ≤ a) (k : Nat) : n < totD a b l k ∨ n = totD a b l k ∧ q ≤ k := by
  have hcase : (k = 0 ∨ 0 ≤ stepsD a b l ((k : Int) - 1)) ∨ stepsD a b l ((k : Int) - 1) < 0 := by omega
  rcases hcase with hc | hc
  · obtain ⟨c, h1, h2, h3⟩ := cand_low k hc
    have := h.least c h1
    omega
  · by_cases hk : Cand l (k : Int)
    · exact h.least _ hk
    · have hs : stepsD a b l (k : Int) < 0 := by
        have h1 := steps_same (a := a) (b := b) (l := l) (q := (k : Int) - 1) fun d hd he => hk (Or.inr ⟨d, hd, by omega⟩)
        rw [show (k : Int) - 1 + 1 = k by omega] at h1
        omega
      obtain ⟨M, hM⟩ : ∃ M : Int, ∀ d ∈ l, d.sold ≤ M := by
        clear h hc hk hs
        induction l with
        | nil => exact ⟨0, by simp⟩
        | cons d l ih =>
          obtain ⟨M, hM⟩ := ih
          refine ⟨max M d.sold, fun x hx => ?_⟩
          rcases List.mem_cons.1 hx with rfl | hx
          · omega
          · have := hM x hx; omega
      obtain ⟨c, h1, h2, h3⟩ := cand_high ha M hM (M - k).toNat (k : Int) (by omega) hs
      have := h.least c h1
      omega
theorem cand_nonneg {l : List DayD} {q : Int} (hl : ∀ d ∈ l, d.ok) (h : Cand l q) : 0 ≤ q ∧ q ≤ 10000 := by
  rcases h with rfl | ⟨d, hd, rfl⟩
  · omega
  · obtain ⟨h1, h2, h3, h4⟩ := hl d hd
    unfold DayD.sold
    omega
theorem IsBest.more {a b : Int} {l : List DayD} {q n : Int} (h : IsBest a b l q n) (ha : 0 ≤ a) (hl : ∀ d ∈ l, d.ok) : 0 ≤ stepsD a b l q := by
  have h0 := cand_nonneg hl h.cand
  have h1 := h.all ha (q.toNat + 1)
  rw [show ((q.toNat + 1 : Nat) : Int) = q + 1 by omega, tot_step, ← h.tot] at h1
  omega
theorem IsBest.less {a b : Int} {l : List DayD} {q n : Int} (h : IsBest a b l q n) (ha : 0 ≤ a) (hl : ∀ d ∈ l, d.ok) (hq : q ≠ 0) : stepsD a b l (q - 1) < 0 := by
  have h0 := cand_nonneg hl h.cand
  have h1 := h.all ha (q.toNat - 1)
  have h2 := tot_step a b l (q - 1)
  rw [show ((q.toNat - 1 : Nat) : Int) = q - 1 by omega] at h1
  rw [show q - 1 + 1 = q by omega, ← h.tot] at h2
  omega
end Go.Proofs.Ytlmpbmlbllndcaa
