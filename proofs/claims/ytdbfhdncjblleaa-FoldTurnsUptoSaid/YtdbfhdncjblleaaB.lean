/-
  Big; hasPages.
-/
import Derived.Test.YtdbfhdncjblleaaD
namespace Go.Proofs.Ytdbfhdncjblleaa
open Go.RowKit

def bigB (r : RunD) : Bool := decide (40 < r.webs.length) || decide (40 < r.ribs.length) || decide (40 < r.stacks.length) || r.webs.any (fun x => decide (40 < x.plates.length)) || r.stacks.any (fun x => decide (40 < x.length))

theorem rb {a b : Bool} (h : b = a) : Ending.returned (.bool a) = Ending.returned (.bool b) := by rw [h]
theorem any_next {α : Type} {f : α → Bool} {l : List α} {k : Nat} {x : α} (h : Hid ((l.take k).any f = false)) (hx : l[k]? = some x) (hf : f x = false) : Hid ((l.take (k + 1)).any f = false) := by
  obtain ⟨hk, rfl⟩ := List.getElem?_eq_some_iff.1 hx
  show (l.take (k + 1)).any f = false
  rw [List.take_succ_eq_append_getElem hk, List.any_append, h.out]
  simp [hf]
theorem any_end {α : Type} {f : α → Bool} {l : List α} {k : Nat} (h : Hid ((l.take k).any f = false)) (hk : l.length ≤ k) : Hid (l.any f = false) := by
  show l.any f = false
  have := h.out
  rwa [List.take_of_length_le hk] at this
theorem big_web {r : RunD} {k : Nat} {x : WebD} (hx : r.webs[k]? = some x) (h : 40 < x.plates.length) : bigB r = true := by
  have : r.webs.any (fun x => decide (40 < x.plates.length)) = true := List.any_eq_true.2 ⟨x, List.mem_of_getElem? hx, by simpa using h⟩
  simp only [bigB, this, Bool.or_true, Bool.true_or]
theorem big_stack {r : RunD} {k : Nat} {x : List Int} (hx : r.stacks[k]? = some x) (h : 40 < x.length) : bigB r = true := by
  have : r.stacks.any (fun x => decide (40 < x.length)) = true := List.any_eq_true.2 ⟨x, List.mem_of_getElem? hx, by simpa using h⟩
  simp only [bigB, this, Bool.or_true]
theorem big_not {r : RunD} (h1 : ¬ 40 < r.webs.length) (h2 : ¬ 40 < r.ribs.length) (h3 : ¬ 40 < r.stacks.length) (h4 : Hid (r.webs.any (fun x => decide (40 < x.plates.length)) = false)) (h5 : Hid (r.stacks.any (fun x => decide (40 < x.length)) = false)) : bigB r = false := by
  unfold bigB
  rw [h4.out, h5.out]
  simp only [h1, h2, h3, decide_false, Bool.or_self]

theorem slice_len {B : Nat} {w : World} {k n : Nat} {v : Value} {xs : List Value} (h : Rd B w k v n xs) : ∃ A c, v = .slice A n c ∧ n ≤ 9223372036854775807 := by
  obtain ⟨A, c, rfl, -, hm, -⟩ := h
  exact ⟨A, c, rfl, by simpa [maxLen] using hm⟩

set_option maxHeartbeats 400000 in
theorem big_any (v : Value) (r : RunD) (w : World) (h : RRun w.heap.size w v r) :
    Calls Try.prog 10 #[v] w fun e w' => e = .returned (.bool (bigB r)) ∧ Below w.heap.size w w' := by
  obtain ⟨v1, v2, v3, rfl, hw, hr, hs⟩ := h
  obtain ⟨A, c, rfl, hA1, hA⟩ := hw.open_
  obtain ⟨A2, c2, rfl, hA2⟩ := slice_len hr
  obtain ⟨A3, c3, rfl, hA3, hA4⟩ := hs.open_
  by_cases h1 : 40 < r.webs.length
  · go_enter Try.func10, Try.ntmps10
    go_wp2
    go_ret
    exact ⟨by simp [bigB, h1], (Below.refl _ _).alloc (Nat.le_refl _) _⟩
  by_cases h2 : 40 < r.ribs.length
  · go_enter Try.func10, Try.ntmps10
    go_wp2
    go_ret
    exact ⟨by simp [bigB, h2], (Below.refl _ _).alloc (Nat.le_refl _) _⟩
  by_cases h3 : 40 < r.stacks.length
  · go_enter Try.func10, Try.ntmps10
    go_wp2
    go_ret
    exact ⟨by simp [bigB, h3], (Below.refl _ _).alloc (Nat.le_refl _) _⟩
  go_enter Try.func10, Try.ntmps10
  go_wp2
  go_loop [3] (fun i => ∃ k : Nat, k ≤ r.webs.length ∧ i = .int .i64 k ∧ Hid ((r.webs.take k).any (fun x => decide (40 < x.plates.length)) = false)) (fun i => r.webs.length - (intOf i).toNat)
  case atStart => exact ⟨0, Nat.zero_le _, rfl, rfl⟩
  case round =>
    obtain ⟨k, hk, rfl, ht⟩ := hrel
    by_cases hlt : k < r.webs.length
    · obtain ⟨x, hx⟩ : ∃ x, r.webs[k]? = some x := ⟨_, List.getElem?_eq_getElem hlt⟩
      obtain ⟨g, o, u, rfl, hb, hc1, hc2, hc3, hp⟩ := hA k x hx
      obtain ⟨A5, c5, rfl, hA5⟩ := slice_len hp
      have Hx := Lib.hid hx
      clear hx
      by_cases h5 : 40 < x.plates.length
      · go_wp2
        go_ret
        exact ⟨rb (big_web (Hx.out) h5), (Below.refl _ _).alloc (Nat.le_refl _) _⟩
      · go_wp2
        go_round
        case rel => exact ⟨k + 1, by omega, by go_num, any_next ht Hx.out (by simpa using h5)⟩
        case measure => simp [intOf]; omega
    · have Ht := any_end ht (by omega)
      go_wp2
      go_loop [4] (fun i => ∃ k : Nat, k ≤ r.stacks.length ∧ i = .int .i64 k ∧ Hid ((r.stacks.take k).any (fun x => decide (40 < x.length)) = false)) (fun i => r.stacks.length - (intOf i).toNat)
      case atStart => exact ⟨0, Nat.zero_le _, rfl, rfl⟩
      case round =>
        obtain ⟨m, hm, rfl, hs1⟩ := hrel
        by_cases hmt : m < r.stacks.length
        · obtain ⟨x, hx⟩ : ∃ x, r.stacks[m]? = some x := ⟨_, List.getElem?_eq_getElem hmt⟩
          obtain ⟨g, o, u, rfl, hb, hc1, hp⟩ := hA4 m x hx
          obtain ⟨A5, c5, rfl, hA5⟩ := slice_len hp
          have Hx := Lib.hid hx
          clear hx
          by_cases h5 : 40 < x.length
          · go_wp2
            go_ret
            exact ⟨rb (big_stack (Hx.out) h5), (Below.refl _ _).alloc (Nat.le_refl _) _⟩
          · go_wp2
            go_round
            case rel => exact ⟨m + 1, by omega, by go_num, any_next hs1 Hx.out (by simpa using h5)⟩
            case measure => simp [intOf]; omega
        · have Hs := any_end hs1 (by omega)
          go_wp2
          go_ret
          exact ⟨rb (big_not h1 h2 h3 Ht Hs), (Below.refl _ _).alloc (Nat.le_refl _) _⟩

/-- The four cells of a run in its box. -/
theorem box4 {w : World} {a b c d : Value} {t : TypeId} (j : Nat) (x : Value) (h : #[a, b, c, d][j]? = some x) : (w.alloc (.cells #[a, b, c, d] t)).cell? ⟨w.heap.size, j, none⟩ = some x := by
  rw [World.cell?_alloc_at _ _ _ _ rfl, h]

end Go.Proofs.Ytdbfhdncjblleaa
