/-
  WORDS FOR MEMORY, no dump: a slice value that reads as a list of cells, nil let in; it is kept where its blocks are.
-/
import Derived.WalkKit
import Derived.WalkSpells
import Derived.Deep.AppendLies
import Derived.Lib.Hide
import Derived.BigQuiet
import Derived.Deep.QuietTactic
import Derived.WalkLawsBesides
namespace Go.Proofs.Ytdbfhdncjblleaa
open Go.RowKit

theorem addBlock (a : Addr) (n : Nat) : (a.add n).block = a.block := by unfold Addr.add; split <;> rfl
theorem addAdd (a : Addr) (i j : Nat) : (a.add i).add j = a.add (i + j) := by
  unfold Addr.add
  by_cases hi : i = 0 <;> by_cases hj : j = 0 <;> simp [hi, hj, Nat.add_assoc]

/-- The slice value v holds n elements of k cells each, all below block B: the cells xs. -/
def Rd (B : Nat) (w : World) (k : Nat) (v : Value) (n : Nat) (xs : List Value) : Prop :=
  ∃ A c, v = .slice A n c ∧ xs.length = n * k ∧ n ≤ maxLen ∧ (0 < n → ∃ g o, A = some ⟨g, o, none⟩ ∧ g < B ∧ ∀ j u, xs[j]? = some u → w.cell? ⟨g, o + j, none⟩ = some u)

section
variable {B B' : Nat} {w w' : World} {k n : Nat} {v : Value} {xs : List Value}
theorem Rd.keep (h : Rd B w k v n xs) (hk : ∀ p : Addr, p.block < B → w'.cell? p = w.cell? p) : Rd B w' k v n xs := by
  obtain ⟨A, c, hv, hl, hm, hr⟩ := h
  refine ⟨A, c, hv, hl, hm, fun h0 => ?_⟩
  obtain ⟨g, o, hA, hF, hc⟩ := hr h0
  exact ⟨g, o, hA, hF, fun j u hu => (hk _ hF).trans (hc j u hu)⟩
theorem Rd.more (h : Rd B w k v n xs) (hB : B ≤ B') : Rd B' w k v n xs := by
  obtain ⟨A, c, hv, hl, hm, hr⟩ := h
  refine ⟨A, c, hv, hl, hm, fun h0 => ?_⟩
  obtain ⟨g, o, hA, hF1, hc⟩ := hr h0
  exact ⟨g, o, hA, by omega, hc⟩
theorem Rd.below (h : Rd B w k v n xs) (hb : Below B w w') : Rd B w' k v n xs := h.keep fun p hp => hb.cell (p := p) hp
theorem Rd.nil : Rd B w k (.slice none 0 0) 0 [] := ⟨none, 0, rfl, by simp, by simp [maxLen], fun h => absurd h (by omega)⟩
/-- What a call of one's own has made reads. -/
theorem Rd.own {base : Nat} {e : TypeId} (h : w.ownsRow base e k v n xs) (hn : n ≤ maxLen) : Rd w.heap.size w k v n xs := by
  have hc := fun g => h.cells (g := g)
  have hlt := h.lt
  rcases h.2 with ⟨rfl, rfl⟩ | ⟨g, cap, cur, rfl, hb, hg, _⟩
  · exact ⟨none, 0, rfl, h.1, hn, fun h0 => absurd h0 (by omega)⟩
  · refine ⟨_, _, rfl, h.1, hn, fun _ => ⟨g, 0, rfl, (hlt g rfl).2, fun j u hu => ?_⟩⟩
    have := hc g rfl j u hu
    rwa [show (⟨g, 0, none⟩ : Addr).add j = ⟨g, 0 + j, none⟩ from by unfold Addr.add; split <;> simp_all] at this
end

theorem cell_far (w : World) (p a : Addr) (v : Value) (h : p.block ≠ a.block) : (w.setCell p v).cell? a = w.cell? a := World.cell?_of_block (Below.heap_setCell w p v a.block (Ne.symm h))

/-- The cells of a block that has just been made. -/
theorem cells_new (w : World) (cs : Array Value) (t : TypeId) : ∀ j u, cs.toList[j]? = some u → (w.alloc (.cells cs t)).cell? ((⟨w.heap.size, 0, none⟩ : Addr).add j) = some u := by
  intro j u hu
  rw [show (⟨w.heap.size, 0, none⟩ : Addr).add j = ⟨w.heap.size, j, none⟩ from by unfold Addr.add; split <;> simp_all, World.cell?_alloc_at _ _ _ _ rfl]
  simpa using hu

theorem below_drewN {B : Nat} {a w : World} (h : Below B a w) (n : Nat) : Below B a (w.drewN n) := ⟨h.os, h.tape, h.output, h.size, h.block⟩

end Go.Proofs.Ytdbfhdncjblleaa
