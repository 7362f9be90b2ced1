/-
  What lies there in RegisterFinds.
-/
import Derived.Test.YtffodgpafiifcaaNb
import Derived.Test.YtffodgpafiifcaaNc
namespace Go.Proofs.Ytffodgpafiifcaa
open Go.RowKit

theorem underInt : Try.prog.underlying 3 = some (.int .i64) := by kernel_rfl
theorem seenMap : Try.prog.underlying 98 = some (.map 3 4) := by kernel_rfl
theorem zeroBool (w : World) : (zeroValue 4).run Try.prog w = .ok (.bool false) w := by kernel_rfl
/-- The set lies behind everything else. -/
def SetSt (w3 : World) (l : List Int) (X : World) : Prop := SetAt X w3.heap.size l ∧ Below w3.heap.size w3 X
theorem SetSt.put {w3 X Y : World} {l l' : List Int} (h : SetSt w3 l X) (hs : SetAt Y w3.heap.size l') (hg : X.grownBy Y (some w3.heap.size)) : SetSt w3 l' Y :=
  ⟨hs, h.2.grown hg h.2.size fun k hk => by cases hk; exact Nat.le_refl _⟩
/-- The set, its iterator, the list so far. -/
def ListSt (w3 : World) (rr : Nat) (l : List Int) (got : Array Nat) (lst : List Int) (u : Value) (X : World) : Prop :=
  SetAt X w3.heap.size l ∧ IterAt X w3.heap.size rr l.length got ∧ OInts (rr + 1) X u lst ∧ Below w3.heap.size w3 X
theorem ListSt.step {w3 X Y : World} {rr : Nat} {l : List Int} {got : Array Nat} {lst lst' : List Int} {u u' : Value} (h : ListSt w3 rr l got lst u X) (hr : w3.heap.size < rr) (hb : Below (rr + 1) X Y) (hO : OInts (rr + 1) Y u' lst') : ListSt w3 rr l got lst' u' Y :=
  ⟨h.1.below hb (by omega), h.2.1.below hb (by omega), hO, h.2.2.2.trans (hb.mono (by omega))⟩
theorem ListSt.next {w3 X Y : World} {rr i : Nat} {l : List Int} {got : Array Nat} {lst : List Int} {u : Value} (h : ListSt w3 rr l got lst u X) (hr : w3.heap.size < rr) (hs : SetAt Y w3.heap.size l) (hi : IterAt Y w3.heap.size rr l.length (got.push i)) (hg : X.grownBy Y (some rr)) : ListSt w3 rr l (got.push i) lst u Y := by
  have hne : ∀ j, u.ownBlock = some j → j ≠ rr := fun j hj => by have := (h.2.2.1.lt j hj).1; omega
  refine ⟨hs, hi, ?_, h.2.2.2.grown hg h.2.2.2.size fun k hk => by cases hk; omega⟩
  have hO := h.2.2.1
  refine ⟨hO.1, ?_⟩
  rcases hO.2 with h1 | ⟨g, cap, cur, rfl, h2, h3, h4⟩
  · exact .inl h1
  · exact .inr ⟨g, cap, cur, rfl, h2, (hg.block g (Array.getElem?_eq_some_iff.1 h3).1 (fun e => by cases e; omega)).trans h3, h4⟩
theorem ListSt.still {w3 X Y : World} {rr : Nat} {l : List Int} {got : Array Nat} {lst : List Int} {u : Value} (h : ListSt w3 rr l got lst u X) (hr : w3.heap.size < rr) (hb : Below X.heap.size X Y) : ListSt w3 rr l got lst u Y :=
  h.step hr (hb.mono h.2.1.lt) (ownsRow_below h.2.2.1 hb)
theorem oints_alloc {b : Nat} {w : World} {v : Value} {l : List Int} (h : OInts b w v l) (o : Obj) : OInts b (w.alloc o) v l := ownsRow_below h (below_alloc w o)
theorem ints_new (w : World) (x : Int) : RInts (w.heap.size + 1) (w.alloc (.cells #[.int .i64 x] 3)) (.slice (some ⟨w.heap.size, 0, none⟩) 1 1) [x] := by
  refine ⟨some ⟨w.heap.size, 0, none⟩, 1, rfl, rfl, by simp [maxLen], fun _ => ⟨w.heap.size, 0, rfl, by omega, fun j u hu => ?_⟩⟩
  have h := cells_new w #[.int .i64 x] 3 j u hu
  rwa [show (⟨w.heap.size, 0, none⟩ : Addr).add j = ⟨w.heap.size, 0 + j, none⟩ from by unfold Addr.add; split <;> simp_all] at h
theorem take_low {lst : List Int} (h : lst.Pairwise (· < ·)) {j : Nat} {x y : Int} (hy : lst[j]? = some y) (hle : y ≤ x) : ∀ z ∈ lst.take (j + 1), z ≤ x := fun z hz => by
  obtain ⟨l1, e1⟩ := List.getElem?_eq_some_iff.1 hy
  obtain ⟨i, hi, rfl⟩ := List.getElem_of_mem hz
  rw [List.length_take] at hi
  rw [List.getElem_take]
  by_cases he : i = j
  · subst he; omega
  · have := List.pairwise_iff_getElem.1 h i j (by omega) l1 (by omega)
    omega
theorem drop_high {lst : List Int} {j : Nat} {x y : Int} (hy : lst[j]? = some y) (hlt : x < y) (h : ∀ z ∈ lst.drop (j + 1), x < z) : ∀ z ∈ lst.drop j, x < z := fun z hz => by
  obtain ⟨l1, e1⟩ := List.getElem?_eq_some_iff.1 hy
  rw [List.drop_eq_getElem_cons l1] at hz
  rcases List.mem_cons.1 hz with rfl | hz
  · omega
  · exact h z hz
theorem ListSt.lt {w3 X : World} {rr : Nat} {l : List Int} {got : Array Nat} {lst : List Int} {u : Value} (h : ListSt w3 rr l got lst u X) : rr + 1 ≤ X.heap.size := h.2.1.lt
end Go.Proofs.Ytffodgpafiifcaa
