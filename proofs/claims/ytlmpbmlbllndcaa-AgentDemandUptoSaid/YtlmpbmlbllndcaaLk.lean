/-
  What stays of memory when some blocks are written.
-/
import Derived.Test.YtlmpbmlbllndcaaLa
namespace Go.Proofs.Ytlmpbmlbllndcaa
open Go.RowKit

/-- All blocks that lay there lie as they lay, but those of S. -/
structure KeptBut (S : Nat → Prop) (w w' : World) : Prop where
  os : w'.os = w.os
  tape : w'.tape = w.tape
  output : w'.output = w.output
  size : w.heap.size ≤ w'.heap.size
  block : ∀ k, k < w.heap.size → ¬ S k → w'.heap[k]? = w.heap[k]?
section
variable {S T : Nat → Prop} {w w' w'' : World}
theorem KeptBut.refl (S : Nat → Prop) (w : World) : KeptBut S w w := ⟨rfl, rfl, rfl, Nat.le_refl _, fun _ _ _ => rfl⟩
theorem KeptBut.below (h : KeptBut S w w') {B : Nat} (hS : ∀ k, S k → B ≤ k) (hB : B ≤ w.heap.size) : Below B w w' := ⟨h.os, h.tape, h.output, h.size, fun k hk => h.block k (by omega) fun hs => by have := hS k hs; omega⟩
theorem KeptBut.grown {row : Option Nat} (h : w.grownBy w' row) (hS : ∀ k, some k = row → S k) : KeptBut S w w' := ⟨h.os, h.tape, h.output, h.size, fun k hk hs => h.block k hk fun e => hs (hS k e)⟩
theorem KeptBut.of_below (h : Below w.heap.size w w') : KeptBut S w w' := ⟨h.os, h.tape, h.output, h.size, fun k hk _ => h.block k hk⟩
theorem KeptBut.setCell {p : Addr} (h : S p.block) (u : Value) : KeptBut S w (w.setCell p u) := ⟨rfl, rfl, rfl, by simp [World.setCell], fun k _ hs => Below.heap_setCell _ _ _ _ fun e => hs (e ▸ h)⟩
theorem KeptBut.trans (h : KeptBut S w w') (k : KeptBut T w' w'') (hT : ∀ i, i < w.heap.size → T i → S i) : KeptBut S w w'' :=
  ⟨k.os.trans h.os, k.tape.trans h.tape, k.output.trans h.output, Nat.le_trans h.size k.size, fun i hi hs => (k.block i (Nat.lt_of_lt_of_le hi h.size) fun ht => hs (hT i hi ht)).trans (h.block i hi hs)⟩
theorem KeptBut.mono (h : KeptBut S w w') (hT : ∀ i, i < w.heap.size → S i → T i) : KeptBut T w w' := ⟨h.os, h.tape, h.output, h.size, fun k hk hs => h.block k hk fun e => hs (hT k hk e)⟩
theorem KeptBut.blk (h : KeptBut S w w') {b : Nat} {t : TypeId} {cs : Array Value} (hB : Blk w b t cs) (hs : ¬ S b) : Blk w' b t cs := (h.block b hB.lt hs).trans hB
theorem KeptBut.cell (h : KeptBut S w w') {p : Addr} (hp : p.block < w.heap.size) (hs : ¬ S p.block) : w'.cell? p = w.cell? p := World.cell?_of_block (h.block p.block hp hs)
end
theorem ownsRow_keptBut {S : Nat → Prop} {w w' : World} {base k n : Nat} {e : TypeId} {v : Value} {xs : List Value} (h : w.ownsRow base e k v n xs) (hk : KeptBut S w w') (hS : ∀ g cs, v.ownBlock = some g → Blk w g e cs → ¬ S g) : w'.ownsRow base e k v n xs := by
  refine ⟨h.1, ?_⟩
  rcases h.2 with h2 | ⟨g, cap, cur, rfl, hb, hg, r⟩
  · exact .inl h2
  · exact .inr ⟨g, cap, cur, rfl, hb, hk.blk hg (hS g cur rfl hg), r⟩
theorem Blk.ne {w : World} {a b : Nat} {s t : TypeId} {cs ds : Array Value} (h : Blk w a s cs) (k : Blk w b t ds) (hne : s ≠ t) : a ≠ b := fun e => by
  subst e
  have := h.symm.trans k
  simp at this
  exact hne this.2
end Go.Proofs.Ytlmpbmlbllndcaa
