/-
  Arguments read as data: lists of numbers, of bytes.
-/
import Derived.Deep.Slices
import Derived.Deep.Fields
import Derived.Lib.SmallJoins
import Derived.ProofKit
import Derived.OpenShut
import Derived.JoinedCond
import Derived.DataShut
import Derived.Test.YtlmpbmlbllndcaaMag
import Derived.Test.YtlmpbmlbllndcaaRows
namespace Go.Proofs.Ytlmpbmlbllndcaa
open Go.RowKit Go.ChangeShapes Go.WideShapes Go.ChangeAt Go.Deep Go.Joins

/-- Numbers of an int. -/
def InI (l : List Int) : Prop := ∀ x ∈ l, -9223372036854775808 ≤ x ∧ x ≤ 9223372036854775807
section
variable {H : Type} {enc : TypeId × Value → H} {w W' : World} {base b0 : Nat} {rc : Reach} {spare : Nat → Bool} {held : Bool} {v : Value} {d : DataW H} {p : List MemPlace}
theorem pick_list {α : Type} {P : Nat → α → Prop} : ∀ (n : Nat), (∀ i, i < n → ∃ x, P i x) → ∃ l : List α, l.length = n ∧ ∀ i x, l[i]? = some x → P i x
  | 0, _ => ⟨[], rfl, fun i x h => by simp at h⟩
  | n + 1, h => by
    obtain ⟨l, hl, hp⟩ := pick_list n fun i hi => h i (by omega)
    obtain ⟨x, hx⟩ := h n (by omega)
    refine ⟨l ++ [x], by simp [hl], fun i y hy => ?_⟩
    rcases snoc_get hy with ⟨-, hy⟩ | ⟨hi, rfl⟩
    · exact hp i y hy
    · rw [hi, hl]; exact hx
theorem addr_lit {a : Addr} {v : Value} (h : w.cell? a = some v) : ∃ g o, a = ⟨g, o, none⟩ ∧ g < w.heap.size ∧ ∀ i, a.add i = ⟨g, o + i, none⟩ := by
  obtain ⟨g, o, s⟩ := a
  have hlt := World.block_lt_of_cell? w _ h
  cases s with
  | none => exact ⟨g, o, rfl, hlt, fun i => by unfold Addr.add; split <;> simp_all⟩
  | some s =>
    exfalso
    unfold World.cell? at h
    split at h <;> simp_all
theorem rd_of {k n c : Nat} {xs : List Value} {a : Addr} (hl : xs.length = n * k) (hk : 0 < k) (hm : n ≤ maxLen) (hc : ∀ j u, xs[j]? = some u → w.cell? (a.add j) = some u) : Rd w.heap.size w k (.slice (some a) n c) n xs := by
  refine ⟨some a, c, rfl, hl, hm, fun h0 => ?_⟩
  have hp : 0 < xs.length := by rw [hl]; exact Nat.mul_pos h0 hk
  obtain ⟨g, o, rfl, hg, hadd⟩ := addr_lit (a := a) (hc 0 _ (List.getElem?_eq_getElem hp))
  exact ⟨g, o, rfl, hg, fun j u hu => by rw [← hadd]; exact hc j u hu⟩
theorem flat_inv {α : Type} (f : α → List Value) (k : Nat) (hk : ∀ x, (f x).length = k) (hk0 : 0 < k) {l : List α} {j : Nat} {u : Value} (h : (l.flatMap f)[j]? = some u) : ∃ i r x, j = i * k + r ∧ r < k ∧ l[i]? = some x ∧ (f x)[r]? = some u := by
  have hj := (List.getElem?_eq_some_iff.1 h).1
  rw [flat_get f k hk] at hj
  have hi : j / k < l.length := Nat.div_lt_of_lt_mul (by rw [Nat.mul_comm]; exact hj)
  have hr : j % k < k := Nat.mod_lt _ hk0
  have he : j = j / k * k + j % k := by rw [Nat.mul_comm]; exact (Nat.div_add_mod j k).symm
  have hx : l[j / k]? = some l[j / k] := List.getElem?_eq_getElem hi
  refine ⟨j / k, j % k, _, he, hr, hx, ?_⟩
  rw [← flat_at f k hk l (j / k) (j % k) _ hx hr, ← he]
  exact h
/-- A slice of structs that were read one by one. -/
theorem rd_rows {α : Type} (f : α → List Value) (k : Nat) (hk : ∀ x, (f x).length = k) (hk0 : 0 < k) {l : List α} {n c : Nat} {a : Addr} (hl : l.length = n) (hm : n ≤ maxLen) (hc : ∀ i x r u, l[i]? = some x → (f x)[r]? = some u → w.cell? (a.add (i * k + r)) = some u) :
    Rd w.heap.size w k (.slice (some a) n c) l.length (l.flatMap f) := by
  rw [hl]
  refine rd_of (by rw [flat_get f k hk, hl]) hk0 hm fun j u hu => ?_
  obtain ⟨i, r, x, rfl, hr, hx, hf⟩ := flat_inv f k hk hk0 hu
  exact hc i x r u hx hf
theorem wf_i64 {z : Int} (h : (Lit.int .i64 z).wf = true) : -9223372036854775808 ≤ z ∧ z ≤ 9223372036854775807 := (Lit.wf_int_iff _ _).1 h
theorem field_int {n : Nat} {v : Value} {y : DataW H × List MemPlace} (h : DataW.trod enc Try.prog w base spare held n 3 [v] = some y) : ∃ z, v = .int .i64 z ∧ -9223372036854775808 ≤ z ∧ z ≤ 9223372036854775807 := by
  obtain ⟨z, hz, -, hw⟩ := DataW.trod_int Try.underlying3 h
  exact ⟨z, by simpa using hz, wf_i64 hw⟩
theorem ints_of {n : Nat} {v : Value} {y : DataW H × List MemPlace} (h : DataW.trod enc Try.prog w base spare held n 31 [v] = some y) : ∃ l : List Int, RInts w.heap.size w v l ∧ InI l := by
  rcases open_slice1 Try.underlying31 (by kernel_rfl) h with ⟨hv, rfl⟩ | ⟨a, len, cap, m, n', V, D, Pl, hv, hb, hl, hm, hmm, rfl, hx⟩
  · obtain rfl : v = .slice none 0 0 := by simpa using hv
    exact ⟨[], Rd.nil, fun x hx => absurd hx (by simp)⟩
  · obtain rfl : v = .slice (some a) len cap := by simpa using hv
    have hle : len ≤ m := by rw [hmm]; split <;> omega
    obtain ⟨l, hl2, hp⟩ := pick_list (P := fun i (z : Int) => w.cell? (a.add i) = some (.int .i64 z) ∧ -9223372036854775808 ≤ z ∧ z ≤ 9223372036854775807) len fun i hi => by
      obtain ⟨h1, h2⟩ := hx i (by omega)
      obtain ⟨z, hz, hw⟩ := field_int h2
      exact ⟨z, by rw [h1, hz], hw⟩
    refine ⟨l, ?_, fun x hx => ?_⟩
    · unfold RInts
      rw [hl2]
      refine rd_of (by simp [hl2]) (by omega) (by omega) fun j u hu => ?_
      rw [List.getElem?_map] at hu
      obtain ⟨z, hz, rfl⟩ := Option.map_eq_some_iff.1 hu
      exact (hp j z hz).1
    · obtain ⟨i, hi⟩ := List.getElem?_of_mem hx
      exact (hp i x hi).2
theorem field_u8 {n : Nat} {v : Value} {y : DataW H × List MemPlace} (h : DataW.trod enc Try.prog w base spare held n 5 [v] = some y) : ∃ z, v = .int .u8 z ∧ 0 ≤ z ∧ z ≤ 255 := by
  obtain ⟨z, hz, -, hw⟩ := DataW.trod_int Try.underlying5 h
  exact ⟨z, by simpa using hz, (Lit.wf_int_iff _ _).1 hw⟩
theorem bytes_of {n : Nat} {v : Value} {y : DataW H × List MemPlace} (h : DataW.trod enc Try.prog w base spare held n 46 [v] = some y) : ∃ l : List Int, RBytes w.heap.size w v l ∧ Bytes l := by
  rcases open_slice1 Try.underlying46 (by kernel_rfl) h with ⟨hv, rfl⟩ | ⟨a, len, cap, m, n', V, D, Pl, hv, hb, hl, hm, hmm, rfl, hx⟩
  · obtain rfl : v = .slice none 0 0 := by simpa using hv
    exact ⟨[], Rd.nil, fun x hx => absurd hx (by simp)⟩
  · obtain rfl : v = .slice (some a) len cap := by simpa using hv
    have hle : len ≤ m := by rw [hmm]; split <;> omega
    obtain ⟨l, hl2, hp⟩ := pick_list (P := fun i (z : Int) => w.cell? (a.add i) = some (.int .u8 z) ∧ 0 ≤ z ∧ z ≤ 255) len fun i hi => by
      obtain ⟨h1, h2⟩ := hx i (by omega)
      obtain ⟨z, hz, hw⟩ := field_u8 h2
      exact ⟨z, by rw [h1, hz], hw⟩
    refine ⟨l, ?_, fun x hx => ?_⟩
    · unfold RBytes
      rw [hl2]
      refine rd_of (by simp [hl2]) (by omega) (by omega) fun j u hu => ?_
      rw [List.getElem?_map] at hu
      obtain ⟨z, hz, rfl⟩ := Option.map_eq_some_iff.1 hu
      exact (hp j z hz).1
    · obtain ⟨i, hi⟩ := List.getElem?_of_mem hx
      exact (hp i x hi).2
set_option maxRecDepth 100000 in
theorem bytes_arg (hv : Value.okWide Try.prog W' rc b0 46 v) (h : DataW.Trod enc Try.prog w base spare held 46 v d p) : ∃ l : List Int, RBytes w.heap.size w v l ∧ Bytes l := by
  obtain ⟨a, len, cap, rfl⟩ := okWide_slice Try.underlying46 hv
  obtain ⟨fuel, hf⟩ := h
  exact bytes_of (y := (d, p)) hf
set_option maxRecDepth 100000 in
theorem ints_arg (hv : Value.okWide Try.prog W' rc b0 31 v) (h : DataW.Trod enc Try.prog w base spare held 31 v d p) : ∃ l : List Int, RInts w.heap.size w v l ∧ InI l := by
  obtain ⟨a, len, cap, rfl⟩ := okWide_slice Try.underlying31 hv
  obtain ⟨fuel, hf⟩ := h
  exact ints_of (y := (d, p)) hf
end
theorem ownN : ownKnob Try.prog.godebug = none := by kernel_rfl
theorem laidOutN : laidOutB Try.prog = true := by kernel_rfl
end Go.Proofs.Ytlmpbmlbllndcaa
