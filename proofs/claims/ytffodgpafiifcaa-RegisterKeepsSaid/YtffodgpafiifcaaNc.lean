/-
  Appending all of a slice of ints, an empty one too, to a row of one's own; a part of a slice of ints.
-/
import Derived.Deep.AppendLies
import Derived.Deep.Upon
import Derived.Test.YtffodgpafiifcaaGa
namespace Go.Proofs.Ytffodgpafiifcaa
open Go.RowKit

theorem run_append_ints (t ty : TypeId) (base : Nat) (i : TypeInfo) (z : Value) (ht : Try.prog.underlying t = some (.slice 3)) (hi : Try.prog.info? 3 = some i) (hz : i.zero = some z)
    (hsize : i.size = 1) (hby : i.bytes = 8) (hzs : z.cells.size = 1) (w : World) (v y : Value) (xs ys : List Int) (B : Nat) (hown : OInts base w v xs) (hy : RInts B w y ys) (hl : xs.length + ys.length ≤ 1000000) (hbase : base ≤ w.heap.size) :
    ∃ v' w', (Builtin.append_ #[t, t] ty #[v, y]).run Try.prog w = .ok v' w' ∧ OInts base w' v' (xs ++ ys) ∧ w.grownBy w' v.ownBlock := by
  by_cases h0 : ys = []
  · subst h0
    have hform : ∃ A c, v = .slice A xs.length c ∧ xs.length ≤ c := by
      rcases hown.2 with ⟨rfl, h0⟩ | ⟨g, cap, cur, rfl, _, _, hc, _⟩
      · exact ⟨none, 0, by rw [h0], by omega⟩
      · exact ⟨_, _, rfl, hc⟩
    obtain ⟨A, c, rfl, hc⟩ := hform
    have hsrc : Src Try.prog i.size t y 0 [] w := by
      obtain ⟨A2, c2, rfl, _⟩ := hy
      cases A2 with
      | none => exact Src.ofNil w ht c2
      | some a => exact Src.ofSlice w ht a 0 c2 [] (by simp) (fun j u hu => by simp at hu) (by simp)
    exact ⟨_, w, run_append_nothing w t t ty _ i ht hi A _ c hc y hsrc, by simpa using hown, World.grownBy.refl w _⟩
  · have hpos : 0 < ys.length := List.length_pos_iff.2 h0
    obtain ⟨A2, c2, rfl, -, -, hr⟩ := hy
    obtain ⟨g, o, rfl, -, hc⟩ := hr hpos
    obtain ⟨g', cap, w', hrun, h2, h3, -, -⟩ := run_append_lies (P := Try.prog) w t ty base 3 i z 1 8 ht hi hz hsize hby hzs (by omega) v xs.length (xs.map (Value.int .i64)) hown ⟨g, o, none⟩ ys.length c2 (ys.map (Value.int .i64)) (by simp)
      (fun j u hu => by
        have h1 := hc j u hu
        have hadd : (⟨g, o, none⟩ : Addr).add j = ⟨g, o + j, none⟩ := by unfold Addr.add; split <;> simp_all
        rw [hadd]; exact h1) (int_cells_one ys) hpos (by simp only [maxLen]; omega) (by omega) hbase _ rfl
    refine ⟨_, w', hrun, ?_, h3⟩
    unfold OInts
    rw [List.length_append, List.map_append]
    exact h2
theorem wpList_append_ints {w : World} {ops : Array Oper} {rest : List Oper} {o : Oper} {a : Act} {Q : Exit → Act → World → Prop} (hgd : o.guard = none) (s x : Operand) (t : TypeId)
    (ho : o.op = .call { callee := .builtin .append, args := #[s, x], argTypes := #[t, t] })
    (base : Nat) (i : TypeInfo) (z : Value) (ht : Try.prog.underlying t = some (.slice 3)) (hi : Try.prog.info? 3 = some i) (hz : i.zero = some z)
    (hsize : i.size = 1) (hby : i.bytes = 8) (hzs : z.cells.size = 1) (v y : Value) (xs ys : List Int) (B : Nat) (hs : a.eval s = v) (hx : a.eval x = y) (hown : OInts base w v xs) (hy : RInts B w y ys) (n : Nat) (hn : xs.length + ys.length = n) (hl : n ≤ 1000000) (hbase : base ≤ w.heap.size)
    (h : ∀ A c w', OInts base w' (.slice A n c) (xs ++ ys) → w.grownBy w' v.ownBlock → wpList Try.prog ops Q rest (a.put o.dst (.slice A n c)) w') : wpList Try.prog ops Q (o :: rest) a w := by
  subst hn
  obtain ⟨v', w', hr, h2, h3⟩ := run_append_ints t o.type base i z ht hi hz hsize hby hzs w v y xs ys B hown hy hl hbase
  obtain ⟨A, c, rfl⟩ := ownsRow_form h2
  have hlen : (xs ++ ys).length = xs.length + ys.length := List.length_append
  rw [hlen] at hr h2
  refine wpList_plain hgd fun K' hK' => ?_
  unfold Oper.wp execOp
  simp only [ho, resolve, invoke, builtin, Sem.run_bind, Sem.run_pure, Result.andThen_ok, List.map_toArray, List.map_cons, List.map_nil, hs, hx, hr]
  exact hK' _ _ (h A c w' h2 h3)
/-- The front of a slice of ints. -/
theorem RInts.front {B : Nat} {w : World} {A : Option Addr} {n c : Nat} {l : List Int} (h : RInts B w (.slice A n c) l) (j : Nat) (hj : j ≤ n) : RInts B w (.slice A j c) (l.take j) := by
  obtain ⟨A', c', e, hl, hm, hr⟩ := h
  cases e
  rw [List.length_map] at hl
  have hj' : j ≤ l.length := hj
  refine ⟨A, c, ?_, by simp, by rw [List.length_take]; omega, fun h0 => ?_⟩
  · rw [List.length_take, Nat.min_eq_left hj']
  · rw [List.length_take] at h0
    obtain ⟨g, o, hA, hB, hc⟩ := hr (by omega)
    refine ⟨g, o, hA, hB, fun i u hu => hc i u ?_⟩
    rw [List.map_take, List.getElem?_take] at hu
    split at hu
    · exact hu
    · cases hu
/-- The rest of a slice of ints. -/
theorem RInts.back {B : Nat} {w : World} {g o n c : Nat} {l : List Int} (h : RInts B w (.slice (some ⟨g, o, none⟩) n c) l) (j : Nat) (hj : j ≤ n) (A : Option Addr) (c2 : Nat) (hA : j < n → A = some ⟨g, o + j, none⟩) : RInts B w (.slice A (n - j) c2) (l.drop j) := by
  obtain ⟨A', c', e, hl, hm, hr⟩ := h
  cases e
  refine ⟨A, c2, ?_, by simp, by rw [List.length_drop]; omega, fun h0 => ?_⟩
  · rw [List.length_drop]
  · rw [List.length_drop] at h0
    obtain ⟨g', o', hA', hB, hc⟩ := hr (by omega)
    cases hA'
    refine ⟨g, o + j, hA (by omega), hB, fun i u hu => ?_⟩
    rw [List.map_drop, List.getElem?_drop] at hu
    rw [show o + j + i = o + (j + i) by omega]
    exact hc _ u hu
theorem RInts.at {B : Nat} {w : World} {A : Option Addr} {n c : Nat} {l : List Int} (h : RInts B w (.slice A n c) l) {k : Nat} {x : Int} (hx : l[k]? = some x) : ∃ g o, A = some ⟨g, o, none⟩ ∧ g < B ∧ w.cell? ⟨g, o + k, none⟩ = some (.int .i64 x) := by
  obtain ⟨A', c', e, hl, hm, hr⟩ := h
  cases e
  have hk := (List.getElem?_eq_some_iff.1 hx).1
  obtain ⟨g, o, hA, hB, hc⟩ := hr (by omega)
  exact ⟨g, o, hA, hB, hc k _ (by rw [List.getElem?_map, hx]; rfl)⟩
theorem below_row {B base : Nat} {a w w' : World} {v : Value} {l : List Int} (h : Below B a w) (hO : OInts base w v l) (hg : w.grownBy w' v.ownBlock) (hB : B ≤ base) (hs : B ≤ w.heap.size) : Below B a w' :=
  h.grown hg hs fun k hk => Nat.le_trans hB (hO.lt k hk).1
theorem ints_form {base : Nat} {w : World} {v : Value} {l : List Int} (h : OInts base w v l) : (v = .slice none 0 0 ∧ l = []) ∨ ∃ g cap, v = .slice (some ⟨g, 0, none⟩) l.length cap ∧ base ≤ g ∧ l.length ≤ cap ∧ cap ≤ maxLen := by
  rcases h.2 with ⟨rfl, h0⟩ | ⟨g, cap, cur, rfl, h1, _, h2, h3, _⟩
  · exact .inl ⟨rfl, List.length_eq_zero_iff.1 h0⟩
  · exact .inr ⟨g, cap, rfl, h1, h2, h3⟩
theorem RInts.nil (B : Nat) (w : World) (A : Option Addr) (c : Nat) : RInts B w (.slice A 0 c) [] := ⟨A, c, rfl, by simp, by simp, fun h => absurd h (by simp)⟩
end Go.Proofs.Ytffodgpafiifcaa
