/-
  GENERAL WORDS, no function of the program: memory, slices that read as lists, blocks, rows of one's own.
-/
import Derived.WalkKit
import Derived.WalkSpells
import Derived.WalkLawsBesides
import Derived.BigQuiet
import Derived.IntWalk
import Derived.RegionTactic
import Derived.Outline
import Derived.RangeFuncBox
import Derived.RangeFuncNested
import Derived.RangeFuncLeaves
import Derived.RangeFuncBound
import Derived.RangeFuncCalls
import Derived.StillTailTactics
import Derived.Laws.AppendOwnNone
import Derived.Lib.Hide
import Derived.Lib.SliceRun
import Derived.Deep.AppendLies
import Derived.Deep.DeepCutAuto
import Derived.Deep.QuietTactic
import Derived.Deep.RegionLaw
import Derived.Deep.RegionHeld3
import Derived.Deep.RegionWith
import Derived.Test.YtlmpbmlbllndcaaRows
namespace Go.Proofs.Ytlmpbmlbllndcaa
open Go.RowKit
theorem addBlock (a : Addr) (n : Nat) : (a.add n).block = a.block := by unfold Addr.add; split <;> rfl
theorem addAdd (a : Addr) (i j : Nat) : (a.add i).add j = a.add (i + j) := by
  unfold Addr.add
  by_cases hi : i = 0 <;> by_cases hj : j = 0 <;> simp [hi, hj, Nat.add_assoc]

/-- The slice value v holds n elements of k cells each, all below block B: the cells xs. -/
def Rd (B : Nat) (w : World) (k : Nat) (v : Value) (n : Nat) (xs : List Value) : Prop :=
  ∃ A c, v = .slice A n c ∧ xs.length = n * k ∧ n ≤ maxLen ∧ (0 < n → ∃ g o, A = some ⟨g, o, none⟩ ∧ g < B ∧ ∀ j u, xs[j]? = some u → w.cell? ⟨g, o + j, none⟩ = some u)

section
variable {B B' : Nat} {w w' : World} {k n : Nat} {v : Value} {xs : List Value}
theorem Rd.keep (h : Rd B w k v n xs) (hk : ∀ p : Addr, p.block < B → w'.cell? p = w.cell? p) : Rd B w' k v n xs := by
  obtain ⟨A, c, hv, hl, hm, hr⟩ := h
  refine ⟨A, c, hv, hl, hm, fun h0 => ?_⟩
  obtain ⟨g, o, hA, hF, hc⟩ := hr h0
  exact ⟨g, o, hA, hF, fun j u hu => (hk _ hF).trans (hc j u hu)⟩
theorem Rd.more (h : Rd B w k v n xs) (hB : B ≤ B') : Rd B' w k v n xs := by
  obtain ⟨A, c, hv, hl, hm, hr⟩ := h
  refine ⟨A, c, hv, hl, hm, fun h0 => ?_⟩
  obtain ⟨g, o, hA, hF1, hc⟩ := hr h0
  exact ⟨g, o, hA, by omega, hc⟩
theorem Rd.below (h : Rd B w k v n xs) (hb : Below B w w') : Rd B w' k v n xs := h.keep fun p hp => hb.cell (p := p) hp
theorem Rd.nil : Rd B w k (.slice none 0 0) 0 [] := ⟨none, 0, rfl, by simp, by simp [maxLen], fun h => absurd h (by omega)⟩
/-- What a call of one's own has made reads. -/
theorem Rd.own {base : Nat} {e : TypeId} (h : w.ownsRow base e k v n xs) (hn : n ≤ maxLen) : Rd w.heap.size w k v n xs := by
  have hc := fun g => h.cells (g := g)
  have hlt := h.lt
  rcases h.2 with ⟨rfl, rfl⟩ | ⟨g, cap, cur, rfl, hb, hg, _⟩
  · exact ⟨none, 0, rfl, h.1, hn, fun h0 => absurd h0 (by omega)⟩
  · refine ⟨_, _, rfl, h.1, hn, fun _ => ⟨g, 0, rfl, (hlt g rfl).2, fun j u hu => ?_⟩⟩
    have := hc g rfl j u hu
    rwa [show (⟨g, 0, none⟩ : Addr).add j = ⟨g, 0 + j, none⟩ from by unfold Addr.add; split <;> simp_all] at this
end

theorem cell_far (w : World) (p a : Addr) (v : Value) (h : p.block ≠ a.block) : (w.setCell p v).cell? a = w.cell? a := World.cell?_of_block (Below.heap_setCell w p v a.block (Ne.symm h))

/-- The cells of a block that has just been made. -/
theorem cells_new (w : World) (cs : Array Value) (t : TypeId) : ∀ j u, cs.toList[j]? = some u → (w.alloc (.cells cs t)).cell? ((⟨w.heap.size, 0, none⟩ : Addr).add j) = some u := by
  intro j u hu
  rw [show (⟨w.heap.size, 0, none⟩ : Addr).add j = ⟨w.heap.size, j, none⟩ from by unfold Addr.add; split <;> simp_all, World.cell?_alloc_at _ _ _ _ rfl]
  simpa using hu

theorem below_drewN {B : Nat} {a w : World} (h : Below B a w) (n : Nat) : Below B a (w.drewN n) := ⟨h.os, h.tape, h.output, h.size, h.block⟩

/-- A slice of numbers. -/
def RInts (B : Nat) (w : World) (v : Value) (l : List Int) : Prop := Rd B w 1 v l.length (l.map (Value.int .i64))
theorem RInts.below {B : Nat} {w w' : World} {v : Value} {l : List Int} (h : RInts B w v l) (hb : Below B w w') : RInts B w' v l := Rd.below h hb
theorem RInts.more {B B' : Nat} {w : World} {v : Value} {l : List Int} (h : RInts B w v l) (hB : B ≤ B') : RInts B' w v l := Rd.more h hB
/-- The shape, and each cell. -/
theorem RInts.open_ {B : Nat} {w : World} {v : Value} {l : List Int} (h : RInts B w v l) : ∃ A c, v = .slice A l.length c ∧ l.length ≤ 9223372036854775807 ∧
    ∀ k, k < l.length → ∃ g o x, A = some ⟨g, o, none⟩ ∧ g < B ∧ w.cell? ⟨g, o + k, none⟩ = some (.int .i64 x) ∧ Hid (l.getD k 0 = x) := by
  obtain ⟨A, c, rfl, -, hlm, hr⟩ := h
  refine ⟨A, c, rfl, by simpa [maxLen] using hlm, fun k hk => ?_⟩
  obtain ⟨g, o, hA, hb, hc⟩ := hr (by omega)
  exact ⟨g, o, _, hA, hb, hc k _ (by simp [hk]), rfl⟩
theorem take_all {α : Type} {l m : List α} {n : Nat} (h : l.take n = m.take n) (hl : l.length ≤ n) (hm : m.length ≤ n) : l = m := by
  rwa [List.take_of_length_le hl, List.take_of_length_le hm] at h
theorem take_next {l m : List Int} {k : Nat} (h : l.take k = m.take k) (hl : k < l.length) (hm : k < m.length) (he : l.getD k 0 = m.getD k 0) : l.take (k + 1) = m.take (k + 1) := by
  simp only [List.getD_eq_getElem?_getD, List.getElem?_eq_getElem hl, List.getElem?_eq_getElem hm, Option.getD_some] at he
  rw [List.take_succ_eq_append_getElem hl, List.take_succ_eq_append_getElem hm, h, he]
theorem ne_at {l m : List Int} {k : Nat} (hl : k < l.length) (hm : k < m.length) (he : ¬ l.getD k 0 = m.getD k 0) : l ≠ m := fun h => he (by rw [h])
/-- Rows of k cells each, one behind the other. -/
theorem flat_get {α : Type} (f : α → List Value) (k : Nat) (hk : ∀ x, (f x).length = k) (l : List α) : (l.flatMap f).length = l.length * k := by
  induction l with
  | nil => simp
  | cons x l ih => simp [List.flatMap_cons, hk, ih, Nat.add_mul, Nat.add_comm]
theorem flat_at {α : Type} (f : α → List Value) (k : Nat) (hk : ∀ x, (f x).length = k) : ∀ (l : List α) (i j : Nat) (x : α), l[i]? = some x → j < k → (l.flatMap f)[i * k + j]? = (f x)[j]?
  | [], i, j, x, h, _ => by simp at h
  | y :: l, 0, j, x, h, hj => by
    simp only [List.getElem?_cons_zero, Option.some.injEq] at h
    subst h
    rw [List.flatMap_cons, Nat.zero_mul, Nat.zero_add, List.getElem?_append_left (by rw [hk]; exact hj)]
  | y :: l, i + 1, j, x, h, hj => by
    rw [List.flatMap_cons, List.getElem?_append_right (by rw [hk, Nat.add_mul]; omega), hk]
    have e : (i + 1) * k + j - k = i * k + j := by rw [Nat.add_mul]; omega
    rw [e]
    exact flat_at f k hk l i j x (by simpa using h) hj
theorem rb {a b : Bool} (h : b = a) : Ending.returned (.bool a) = Ending.returned (.bool b) := by rw [h]
theorem any_next {α : Type} {f : α → Bool} {l : List α} {k : Nat} {x : α} (h : Hid ((l.take k).any f = false)) (hx : l[k]? = some x) (hf : f x = false) : Hid ((l.take (k + 1)).any f = false) := by
  obtain ⟨hk, rfl⟩ := List.getElem?_eq_some_iff.1 hx
  show (l.take (k + 1)).any f = false
  rw [List.take_succ_eq_append_getElem hk, List.any_append, h.out]
  simp [hf]
theorem any_end {α : Type} {f : α → Bool} {l : List α} {k : Nat} (h : Hid ((l.take k).any f = false)) (hk : l.length ≤ k) : Hid (l.any f = false) := by
  show l.any f = false
  have := h.out
  rwa [List.take_of_length_le hk] at this
theorem ri {a b : Int} (h : b = a) : Ending.returned (.int .i64 a) = Ending.returned (.int .i64 b) := by rw [h]
theorem all_next {α : Type} {f : α → Bool} {l : List α} {k : Nat} {x : α} (h : Hid ((l.take k).all f = true)) (hx : l[k]? = some x) (hf : f x = true) : Hid ((l.take (k + 1)).all f = true) := by
  obtain ⟨hk, rfl⟩ := List.getElem?_eq_some_iff.1 hx
  show (l.take (k + 1)).all f = true
  rw [List.take_succ_eq_append_getElem hk, List.all_append, h.out]
  simp [hf]
theorem all_end {α : Type} {f : α → Bool} {l : List α} {k : Nat} (h : Hid ((l.take k).all f = true)) (hk : l.length ≤ k) : Hid (l.all f = true) := by
  show l.all f = true
  have := h.out
  rwa [List.take_of_length_le hk] at this
theorem all_not {α : Type} {f : α → Bool} {l : List α} {k : Nat} {x : α} (hx : l[k]? = some x) (hf : f x = false) : l.all f = false := by
  cases h : l.all f with
  | false => rfl
  | true =>
    have := List.all_eq_true.1 h x (List.mem_of_getElem? hx)
    rw [hf] at this
    cases this
theorem slice_len {B : Nat} {w : World} {k n : Nat} {v : Value} {xs : List Value} (h : Rd B w k v n xs) : ∃ A c, v = .slice A n c ∧ n ≤ 9223372036854775807 := by
  obtain ⟨A, c, rfl, -, hm, -⟩ := h
  exact ⟨A, c, rfl, by simpa [maxLen] using hm⟩
theorem ownsRow_base {w : World} {b b' : Nat} {e : TypeId} {k n : Nat} {v : Value} {xs : List Value} (h : w.ownsRow b e k v n xs) (hb : b' ≤ b) : w.ownsRow b' e k v n xs := by
  refine ⟨h.1, ?_⟩
  rcases h.2 with h2 | ⟨g, cap, cur, hv, hg, r⟩
  · exact .inl h2
  · exact .inr ⟨g, cap, cur, hv, by omega, r⟩
theorem grownBy_below {A B : World} (h : Below A.heap.size A B) (row : Option Nat) : A.grownBy B row := ⟨h.os, h.tape, h.output, h.size, fun i hi _ => h.block i hi⟩
theorem not_row' {W : World} {B : Nat} {t e : TypeId} {cs : Array Value} {fr : Nat × Nat} (h : W.heap[B]? = some (.cells cs t fr)) (hte : t ≠ e) {base size k : Nat} {v : Value} {xs : List Value} (hr : W.ownsRow base e size v k xs) : some B ≠ v.ownBlock := by
  rcases hr.2 with ⟨rfl, _⟩ | ⟨g, cap, cur, rfl, _, hgb, _⟩
  · simp [Value.ownBlock]
  · intro e'
    obtain rfl : B = g := by simpa [Value.ownBlock] using e'
    have := h.symm.trans hgb
    simp at this
    exact hte this.2.1
/-- All blocks of cells whose elements are not of type e lie as they lay. -/
def Grew (e : TypeId) (w w1 : World) : Prop := ∀ (g : Nat) (cs : Array Value) (t : TypeId) (fr : Nat × Nat), w.heap[g]? = some (Obj.cells cs t fr) → t ≠ e → w1.heap[g]? = w.heap[g]?
theorem Grew.of_below {e : TypeId} {w w1 : World} (h : Below w.heap.size w w1) : Grew e w w1 := fun g _ _ _ hg _ => h.block g (Array.getElem?_eq_some_iff.1 hg).1
theorem Grew.of_append {e : TypeId} {w w1 : World} {base k n : Nat} {v : Value} {xs : List Value} {tmp : Obj} (hr : w.ownsRow base e k v n xs) (hg : (w.alloc tmp).grownBy w1 v.ownBlock) : Grew e w w1 := fun g cs t fr hc hne => by
  have hlt : g < w.heap.size := (Array.getElem?_eq_some_iff.1 hc).1
  rw [hg.block g (by simp; omega) (not_row' hc hne hr), Below.heap_alloc w tmp g hlt]
theorem Grew.trans {e : TypeId} {a b c : World} (h : Grew e a b) (k : Grew e b c) : Grew e a c := fun g cs t fr hc hne => by
  have h1 := h g cs t fr hc hne
  rw [k g cs t fr (h1.trans hc) hne, h1]
theorem ownsRow_grew {e e' : TypeId} {w w1 : World} {base k n : Nat} {v : Value} {xs : List Value} (h : w.ownsRow base e' k v n xs) (hg : Grew e w w1) (hne : e' ≠ e) : w1.ownsRow base e' k v n xs := by
  refine ⟨h.1, ?_⟩
  rcases h.2 with h2 | ⟨g, cap, cur, hv, hb, hh, r⟩
  · exact .inl h2
  · exact .inr ⟨g, cap, cur, hv, hb, (hg g _ _ _ hh hne).trans hh, r⟩
theorem ownsRow_below {e : TypeId} {w w1 : World} {base k n : Nat} {v : Value} {xs : List Value} (h : w.ownsRow base e k v n xs) (hb : Below w.heap.size w w1) : w1.ownsRow base e k v n xs := by
  refine ⟨h.1, ?_⟩
  rcases h.2 with h2 | ⟨g, cap, cur, hv, hb2, hh, r⟩
  · exact .inl h2
  · exact .inr ⟨g, cap, cur, hv, hb2, (hb.block g (Array.getElem?_eq_some_iff.1 hh).1).trans hh, r⟩
theorem ownsRow_form {e : TypeId} {w : World} {base k n : Nat} {v : Value} {xs : List Value} (h : w.ownsRow base e k v n xs) : ∃ A c, v = .slice A n c := by
  rcases h.2 with ⟨rfl, rfl⟩ | ⟨g, cap, cur, rfl, _⟩
  · exact ⟨_, _, rfl⟩
  · exact ⟨_, _, rfl⟩
/-- A slice of one's own, whose elements (one cell each) read by R. -/
def OAll {α : Type} (R : World → Value → α → Prop) (e : TypeId) (base : Nat) (w : World) (v : Value) (vs : List Value) (l : List α) : Prop :=
  w.ownsRow base e 1 v l.length vs ∧ ∀ (i : Nat) (u : Value) (x : α), vs[i]? = some u → l[i]? = some x → R w u x
theorem OAll.nil {α : Type} {R : World → Value → α → Prop} {e : TypeId} {base : Nat} {w : World} : OAll R e base w (.slice none 0 0) [] ([] : List α) := ⟨World.ownsRow_nil _ _ _ _, fun i u x h => by simp at h⟩
theorem OAll.len {α : Type} {R : World → Value → α → Prop} {e : TypeId} {base : Nat} {w : World} {v : Value} {vs : List Value} {l : List α} (h : OAll R e base w v vs l) : vs.length = l.length := by simpa using h.1.1
theorem OAll.append {α : Type} {R : World → Value → α → Prop} {e : TypeId} {base : Nat} {w w1 : World} {v v' u : Value} {vs : List Value} {l : List α} {x : α}
    (h : OAll R e base w v vs l) (hk : ∀ u x, R w u x → R w1 u x) (hR : R w u x) (hown : w1.ownsRow base e 1 v' (l.length + 1) (vs ++ [u])) : OAll R e base w1 v' (vs ++ [u]) (l ++ [x]) := by
  refine ⟨by simpa using hown, fun i u' x' hu hx => ?_⟩
  have hl := h.len
  rcases Nat.lt_or_ge i l.length with hi | hi
  · rw [List.getElem?_append_left (by omega)] at hu
    rw [List.getElem?_append_left hi] at hx
    exact hk _ _ (h.2 i u' x' hu hx)
  · rw [List.getElem?_append_right (by omega)] at hu
    rw [List.getElem?_append_right hi] at hx
    have hi0 : i - l.length = 0 := by
      rcases Nat.eq_zero_or_pos (i - l.length) with h0 | h0
      · exact h0
      · rw [List.getElem?_eq_none (by simp; omega)] at hx; cases hx
    rw [hl, hi0] at hu
    rw [hi0] at hx
    simp only [List.getElem?_cons_zero, Option.some.injEq] at hu hx
    subst hu hx
    exact hk _ _ hR
theorem OAll.keep {α : Type} {R : World → Value → α → Prop} {e e' : TypeId} {base : Nat} {w w1 : World} {v : Value} {vs : List Value} {l : List α} (h : OAll R e base w v vs l) (hg : Grew e' w w1) (hne : e ≠ e') (hk : ∀ u x, R w u x → R w1 u x) : OAll R e base w1 v vs l :=
  ⟨ownsRow_grew h.1 hg hne, fun i u x hu hx => hk _ _ (h.2 i u x hu hx)⟩
theorem OAll.below {α : Type} {R : World → Value → α → Prop} {e : TypeId} {base : Nat} {w w1 : World} {v : Value} {vs : List Value} {l : List α} (h : OAll R e base w v vs l) (hb : Below w.heap.size w w1) (hk : ∀ u x, R w u x → R w1 u x) : OAll R e base w1 v vs l :=
  ⟨ownsRow_below h.1 hb, fun i u x hu hx => hk _ _ (h.2 i u x hu hx)⟩
theorem OAll.base_ {α : Type} {R R' : World → Value → α → Prop} {e : TypeId} {b b' : Nat} {w : World} {v : Value} {vs : List Value} {l : List α} (h : OAll R e b w v vs l) (hb : b' ≤ b) (hR : ∀ u x, R w u x → R' w u x) : OAll R' e b' w v vs l :=
  ⟨ownsRow_base h.1 hb, fun i u x hu hx => hR _ _ (h.2 i u x hu hx)⟩
theorem own_le {w : World} {base k n : Nat} {e : TypeId} {v : Value} {xs : List Value} (h : w.ownsRow base e k v n xs) : n ≤ maxLen := by
  rcases h.2 with ⟨_, rfl⟩ | ⟨g, cap, cur, _, _, _, h1, h2, _⟩
  · simp [maxLen]
  · omega
/-- A block of cells, known whole. -/
def Blk (W : World) (b : Nat) (t : TypeId) (cs : Array Value) : Prop := W.heap[b]? = some (.cells cs t (0, 0))
theorem Blk.lt {W : World} {b : Nat} {t : TypeId} {cs : Array Value} (h : Blk W b t cs) : b < W.heap.size := (Array.getElem?_eq_some_iff.1 h).1
theorem Blk.cell {W : World} {b : Nat} {t : TypeId} {cs : Array Value} (h : Blk W b t cs) (j : Nat) : W.cell? ⟨b, j, none⟩ = cs[j]? := cell_of_row W b j _ t (0, 0) h
theorem Blk.frozen {W : World} {b : Nat} {t : TypeId} {cs : Array Value} (h : Blk W b t cs) (j : Nat) : W.frozen? ⟨b, j, none⟩ = false := by
  unfold Blk at h
  simp [World.frozen?, h]
theorem Blk.below {W W' : World} {b B : Nat} {t : TypeId} {cs : Array Value} (h : Blk W b t cs) (hb : Below B W W') (hl : b < B) : Blk W' b t cs := (hb.block b hl).trans h
theorem Blk.new (W : World) (t : TypeId) (cs : Array Value) : Blk (W.alloc (.cells cs t)) W.heap.size t cs := heap_alloc_new W _
theorem Blk.alloc {W : World} {b : Nat} {t : TypeId} {cs : Array Value} (h : Blk W b t cs) (o : Obj) : Blk (W.alloc o) b t cs := (Below.heap_alloc W o b h.lt).trans h
theorem Blk.far {W : World} {b : Nat} {t : TypeId} {cs : Array Value} (h : Blk W b t cs) {p : Addr} (hp : b ≠ p.block) (u : Value) : Blk (W.setCell p u) b t cs := (Below.heap_setCell W p u b hp).trans h
theorem Blk.put {W : World} {b : Nat} {t : TypeId} {cs : Array Value} (h : Blk W b t cs) (i : Nat) (u : Value) : Blk (W.setCell ⟨b, i, none⟩ u) b t (cs.setIfInBounds i u) := by
  unfold Blk at h ⊢
  simp [World.setCell, Array.getElem?_modify, h]
theorem below_set4 {B b : Nat} {W W' : World} (h : Below B W W') (hb : B ≤ b) (x0 x1 x2 x3 : Value) : Below B W ((((W'.setCell ⟨b, 0, none⟩ x0).setCell ⟨b, 1, none⟩ x1).setCell ⟨b, 2, none⟩ x2).setCell ⟨b, 3, none⟩ x3) :=
  (((h.setCell (p := ⟨b, 0, none⟩) hb _).setCell (p := ⟨b, 1, none⟩) hb _).setCell (p := ⟨b, 2, none⟩) hb _).setCell (p := ⟨b, 3, none⟩) hb _
theorem below_set3 {B b : Nat} {W W' : World} (h : Below B W W') (hb : B ≤ b) (x0 x1 x2 : Value) : Below B W (((W'.setCell ⟨b, 0, none⟩ x0).setCell ⟨b, 1, none⟩ x1).setCell ⟨b, 2, none⟩ x2) :=
  ((h.setCell (p := ⟨b, 0, none⟩) hb _).setCell (p := ⟨b, 1, none⟩) hb _).setCell (p := ⟨b, 2, none⟩) hb _
theorem cellOf {W : World} {b : Nat} {t : TypeId} {cs : Array Value} (h : Blk W b t cs) (j : Nat) {x : Value} (hx : cs[j]? = some x) : W.cell? ⟨b, j, none⟩ = some x := (h.cell j).trans hx
theorem below_alloc (w : World) (o : Obj) : Below w.heap.size w (w.alloc o) := (Below.refl _ _).alloc (Nat.le_refl _) _
theorem len_snoc {α : Type} (l : List α) (x : α) : (l ++ [x]).length = l.length + 1 := by simp
theorem rd_slice {B k n : Nat} {w : World} {v : Value} {xs : List Value} (h : Rd B w k v n xs) : ∃ A c, v = .slice A n c ∧ xs.length = n * k ∧ (0 < n → A ≠ none) ∧ ∀ a, A = some a → ∀ j u, xs[j]? = some u → w.cell? (a.add j) = some u := by
  obtain ⟨A, c, rfl, hl, -, hr⟩ := h
  refine ⟨A, c, rfl, hl, fun hn => ?_, fun a ha j u hu => ?_⟩
  · obtain ⟨g, o, rfl, -⟩ := hr hn
    simp
  · have hj : j < xs.length := (List.getElem?_eq_some_iff.1 hu).1
    have hn : 0 < n := by
      rcases Nat.eq_zero_or_pos n with h | h
      · rw [h] at hl; omega
      · exact h
    obtain ⟨g, o, hA, hb, hc⟩ := hr hn
    rw [ha] at hA
    cases hA
    rw [Addr.add_lit]
    exact hc j u hu
def CloneRet (t : TypeId) (k n : Nat) (xs : List Value) (w : World) (e : Ending) (w' : World) : Prop :=
  ∃ v', e = .returned v' ∧ w'.ownsRow w.heap.size t k v' n xs ∧ Below w.heap.size w w'
theorem sliceInts : Try.prog.underlying 31 = some (.slice 3) := by kernel_rfl
theorem infoInt0 : (Try.prog.info? 3).map (fun i => (i.zero, i.size, i.bytes)) = some (some (.int .i64 0), 1, 8) := by kernel_rfl
def OInts (base : Nat) (w : World) (v : Value) (l : List Int) : Prop := w.ownsRow base 3 1 v l.length (l.map (Value.int .i64))
theorem Grew.set {w : World} {B : Nat} {t : TypeId} {cs : Array Value} (h : Blk w B t cs) (j : Nat) (u : Value) : Grew t w (w.setCell ⟨B, j, none⟩ u) := fun g cs' t' fr hg hne => by
  have hgb : g ≠ B := by
    rintro rfl
    unfold Blk at h
    rw [h] at hg
    cases hg
    exact hne rfl
  exact Below.heap_setCell w ⟨B, j, none⟩ u g hgb
theorem Blk.grew {w w1 : World} {B : Nat} {t e : TypeId} {cs : Array Value} (h : Blk w B t cs) (hg : Grew e w w1) (hne : t ≠ e) : Blk w1 B t cs := (hg B cs t (0, 0) h hne).trans h
theorem Grew.alloc {w : World} (e : TypeId) (o : Obj) : Grew e w (w.alloc o) := Grew.of_below ((Below.refl _ _).alloc (Nat.le_refl _) o)
theorem snoc_get {α : Type} {l : List α} {y x : α} {i : Nat} (h : (l ++ [y])[i]? = some x) : (i < l.length ∧ l[i]? = some x) ∨ (i = l.length ∧ x = y) := by
  rcases Nat.lt_or_ge i l.length with hi | hi
  · rw [List.getElem?_append_left hi] at h
    exact .inl ⟨hi, h⟩
  · rw [List.getElem?_append_right hi] at h
    have h0 : i - l.length = 0 := by
      rcases Nat.eq_zero_or_pos (i - l.length) with h0 | h0
      · exact h0
      · rw [List.getElem?_eq_none (by simp; omega)] at h; cases h
    rw [h0] at h
    simp only [List.getElem?_cons_zero, Option.some.injEq] at h
    exact .inr ⟨by omega, h.symm⟩
theorem ownsRow_block {base n k c : Nat} {w : World} {e : TypeId} {A : Option Addr} {xs : List Value} (h : w.ownsRow base e k (.slice A n c) n xs) (hn : 0 < n) : ∃ g, A = some ⟨g, 0, none⟩ ∧ base ≤ g ∧ g < w.heap.size := by
  rcases h.2 with ⟨-, h2⟩ | ⟨g, cap, cur, he, hb, hh, -⟩
  · omega
  · cases he
    exact ⟨g, rfl, hb, (Array.getElem?_eq_some_iff.1 hh).1⟩
theorem int_cells_one (l : List Int) : ∀ u ∈ l.map (Value.int .i64), u.oneCell' = true := fun u hu => by
  obtain ⟨x, -, rfl⟩ := List.mem_map.1 hu
  rfl
theorem blk_new {W : World} {n : Nat} (h : W.heap.size = n) (t : TypeId) (cs : Array Value) : Blk (W.alloc (.cells cs t)) n t cs := h ▸ Blk.new W t cs
end Go.Proofs.Ytlmpbmlbllndcaa
