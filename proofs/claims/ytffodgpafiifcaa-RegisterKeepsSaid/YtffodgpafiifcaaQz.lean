/-
  The program's desk with the set of its blocks; lists of loops of one's own. (Parts of Qd, without the reference.)
-/
import Derived.Test.YtffodgpafiifcaaOi
import Derived.Test.YtffodgpafiifcaaJc
namespace Go.Proofs.Ytffodgpafiifcaa
open Go.RowKit

theorem infoLoop : (Try.prog.info? 26).map (fun i => (i.zero, i.size, i.bytes)) = some (some (.agg #[.int .i64 0, .int .i64 0, .int .i64 0, .int .i64 0]), 4, 32) := by kernel_rfl
def OLoops (base : Nat) (w : World) (v : Value) (ls : List LoopD) : Prop := w.ownsRow base 26 4 v ls.length (loopCells ls)
theorem loopCells_snoc (ls : List LoopD) (l : LoopD) : loopCells (ls ++ [l]) = loopCells ls ++ [.int .i64 l.dead, .int .i64 l.noise, .int .i64 l.blur, .int .i64 l.step] := by unfold loopCells; rw [List.flatMap_append]; rfl
/-- The program's desk; F are its blocks. -/
def PSt (w : World) (D : Nat) (d : DeskD) (F : Nat → Prop) (X : World) : Prop :=
  ∃ (b : Nat) (mv cv pv : Value) (Cs : List Nat) (vs : List Value) (es : List (Value × Value)), w.heap.size ≤ b ∧ DeskOk d ∧ DeskAt b X D d mv cv pv Cs vs es ∧ ∀ k, F k ↔ Foot D mv cv pv Cs vs es k
section
variable {w X Y : World} {D : Nat} {d : DeskD} {F S : Nat → Prop}
theorem PSt.ok (h : PSt w D d F X) : DeskOk d := by
  obtain ⟨b, mv, cv, pv, Cs, vs, es, h0, h1, h2, h3⟩ := h
  exact h1
theorem PSt.lt (h : PSt w D d F X) {k : Nat} (hk : F k) : w.heap.size ≤ k ∧ k < X.heap.size := by
  obtain ⟨b, mv, cv, pv, Cs, vs, es, h0, h1, h2, h3⟩ := h
  have h9 := h2.foot_lt ((h3 k).1 hk)
  exact ⟨by omega, h9.2⟩
theorem PSt.keep (h : PSt w D d F X) (hk : KeptBut S X Y) (hS : ∀ k, F k → ¬ S k) : PSt w D d F Y := by
  obtain ⟨b, mv, cv, pv, Cs, vs, es, h0, h1, h2, h3⟩ := h
  exact ⟨b, mv, cv, pv, Cs, vs, es, h0, h1, h2.keep hk fun k hf => hS k ((h3 k).2 hf), h3⟩
theorem PSt.below (h : PSt w D d F X) (hb : Below X.heap.size X Y) : PSt w D d F Y := h.keep (S := fun _ => False) (KeptBut.of_below hb) fun _ _ => id
theorem PSt.read (h : PSt w D d F X) (v : Value) (seen : List Int) (hv : RInts X.heap.size X v seen) (hl : seen.length ≤ 1000000) :
    Calls Try.prog 32 #[.pointer (some ⟨D, 0, none⟩), v] X fun e w' => ∃ (c : CopyD) (code : Int) (d' : DeskD) (F' : Nat → Prop) (ue um : Value), e = .returned (.tuple #[.agg #[.bool c.good, .int .i64 c.shift, ue, um], .int .i64 code]) ∧ ReadIs d seen c code d' ∧
      PSt w D d' F' w' ∧ KeptBut F X w' ∧ (∀ k, F' k → F k ∨ X.heap.size ≤ k) ∧ OInts X.heap.size w' ue c.errors ∧ OInts X.heap.size w' um c.moves ∧ ∀ k, (ue.ownBlock = some k ∨ um.ownBlock = some k) → ¬ F' k := by
  obtain ⟨b, mv, cv, pv, Cs, vs, es, h0, h1, h2, h3⟩ := h
  refine (Read_any b D d mv cv pv Cs vs es X h2 h1 v seen hv hl).mono ?_
  rintro e w' ⟨c, code, d', pv', vs', es', ue, um, rfl, his, hok', hat', hk', hf', hue, hum, hno⟩
  refine ⟨c, code, d', Foot D mv cv pv' Cs vs' es', ue, um, rfl, his, ⟨b, mv, cv, pv', Cs, vs', es', h0, hok', hat', fun k => Iff.rfl⟩, hk'.mono fun k _ hf => (h3 k).2 hf, fun k hk => ?_, hue, hum, hno⟩
  rcases hf' k hk with h9 | h9
  · exact .inl ((h3 k).2 h9)
  · exact .inr h9
theorem PSt.waste (h : PSt w D d F X) : Calls Try.prog 36 #[.pointer (some ⟨D, 0, none⟩)] X fun e w' => e = .returned (.tuple #[.int .i64 (wasteD d.copies : Nat), .int .i64 0]) ∧ Below X.heap.size X w' := by
  obtain ⟨b, mv, cv, pv, Cs, vs, es, h0, h1, h2, h3⟩ := h
  exact Waste_any b D d mv cv pv Cs vs es X h2 h1.play
theorem PSt.copies (h : PSt w D d F X) : Calls Try.prog 35 #[.pointer (some ⟨D, 0, none⟩)] X fun e w' => ∃ u es', e = .returned (.tuple #[u, .int .i64 0]) ∧ OCps X.heap.size w' u d.copies es' ∧ Rising es' ∧ Below X.heap.size X w' := by
  obtain ⟨b, mv, cv, pv, Cs, vs, es, h0, h1, h2, h3⟩ := h
  have hlo : d.loops.length ≤ 12 := by have := h1.len; have := h1.many; omega
  exact Copies_any b D d mv cv pv Cs vs es X h2 h1.play fun c hc => by
    have := h1.each c hc
    omega
end

theorem kept_cell {S : Nat → Prop} {X Y : World} (h : KeptBut S X Y) {p : Addr} (hp : p.block < X.heap.size) (hs : ¬ S p.block) : Y.cell? p = X.cell? p := World.cell?_of_block (h.block _ hp hs)
/-- The block of a row of one's own that is not empty. -/
theorem own_blk {base n k c : Nat} {w : World} {e : TypeId} {A : Option Addr} {xs : List Value} (h : w.ownsRow base e k (.slice A n c) n xs) (hn : 0 < n) : ∃ g cs, A = some ⟨g, 0, none⟩ ∧ base ≤ g ∧ Blk w g e cs ∧ n * k ≤ cs.size := by
  rcases h.2 with ⟨-, h2⟩ | ⟨g, cap, cur, he, hb, hh, h1, h2, h3, h4⟩
  · omega
  · cases he
    exact ⟨g, cur, rfl, hb, hh, by rw [h3]; exact Nat.mul_le_mul_right _ h1⟩
theorem own_type {base n k : Nat} {w : World} {e : TypeId} {v : Value} {xs : List Value} (h : w.ownsRow base e k v n xs) {g : Nat} (hg : v.ownBlock = some g) : ∃ cs, Blk w g e cs := by
  rcases h.2 with ⟨rfl, -⟩ | ⟨g', cap, cur, rfl, hb, hh, -⟩
  · simp [Value.ownBlock] at hg
  · have : g' = g := by simpa [Value.ownBlock] using hg
    subst this
    exact ⟨cur, hh⟩
theorem blk_some {w : World} {b j : Nat} {t : TypeId} {cs : Array Value} (h : Blk w b t cs) (hj : j < cs.size) : ∃ v, w.cell? ⟨b, j, none⟩ = some v := ⟨cs[j], by rw [h.cell, Array.getElem?_eq_getElem hj]⟩

end Go.Proofs.Ytffodgpafiifcaa
