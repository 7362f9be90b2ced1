/-
  THE LEAVES OF PACKAGE fold: contracts of the small functions.
-/
import Derived.Test.YtdbfhdncjblleaaRows
import Derived.WalkKit
import Derived.WalkSpells
import Derived.WalkLawsBesides
import Derived.BigQuiet
import Derived.Deep.QuietTactic
import Derived.Lib.Hide
import Derived.Test.YtdbfhdncjblleaaM
namespace Go.Proofs.Ytdbfhdncjblleaa
open Go.RowKit

def isPageB (p : Int) : Bool := decide (0 ≤ p) && decide (p ≤ 128)

set_option maxHeartbeats 400000 in
theorem isPage_any (p : Int) (w : World) :
    Calls Try.prog 72 #[.int .i64 p] w fun e w' => e = .returned (.bool (isPageB p)) ∧ w = w' := by
  by_cases h1 : 0 ≤ p
  · by_cases h2 : p ≤ 128
    · go_enter Try.func72, Try.ntmps72
      go_wp2
      go_ret
      exact ⟨by simp [isPageB, h1, h2], rfl⟩
    · go_enter Try.func72, Try.ntmps72
      go_wp2
      go_ret
      exact ⟨by simp [isPageB, h1, h2], rfl⟩
  · go_enter Try.func72, Try.ntmps72
    go_wp2
    go_ret
    exact ⟨by have : ¬ 0 ≤ p := by omega
              simp [isPageB, this], rfl⟩

set_option maxHeartbeats 400000 in
theorem pick_any (x n : Int) (hn : 1 ≤ n) (hn2 : n ≤ 1000000) (w : World) :
    Calls Try.prog 39 #[.int .i64 x, .int .i64 n] w fun e w' => e = .returned (.int .i64 (x % n)) ∧ w = w' := by
  have h3 : x % n = if x.tmod n < 0 then x.tmod n + n else x.tmod n := by
    rw [Int.tmod_eq_emod]
    have := Int.emod_nonneg x (show n ≠ 0 by omega)
    have := Int.emod_lt_of_pos x (show 0 < n by omega)
    have : (n.natAbs : Int) = n := Int.natAbs_of_nonneg (by omega)
    split <;> split <;> omega
  have h4 : -1000000 < x.tmod n ∧ x.tmod n < 1000000 := by
    have := Int.emod_nonneg x (show n ≠ 0 by omega)
    have := Int.emod_lt_of_pos x (show 0 < n by omega)
    rw [Int.tmod_eq_emod]
    have : (n.natAbs : Int) = n := Int.natAbs_of_nonneg (by omega)
    split <;> omega
  obtain ⟨h5, h6⟩ := h4
  have H := Lib.hid h3; clear h3
  by_cases hx : x.tmod n < 0
  · go_enter Try.func39, Try.ntmps39
    go_wp2
    go_ret
    exact ⟨by rw [H.out, if_pos hx]; go_num, rfl⟩
  · go_enter Try.func39, Try.ntmps39
    go_wp2
    go_ret
    exact ⟨by rw [H.out, if_neg (by omega)]; rfl, rfl⟩

/-- A slice of numbers. -/
def RInts (B : Nat) (w : World) (v : Value) (l : List Int) : Prop := Rd B w 1 v l.length (l.map (Value.int .i64))

theorem RInts.below {B : Nat} {w w' : World} {v : Value} {l : List Int} (h : RInts B w v l) (hb : Below B w w') : RInts B w' v l := Rd.below h hb
theorem RInts.more {B B' : Nat} {w : World} {v : Value} {l : List Int} (h : RInts B w v l) (hB : B ≤ B') : RInts B' w v l := Rd.more h hB

/-- The shape, and each cell. -/
theorem RInts.open_ {B : Nat} {w : World} {v : Value} {l : List Int} (h : RInts B w v l) : ∃ A c, v = .slice A l.length c ∧ l.length ≤ 9223372036854775807 ∧
    ∀ k, k < l.length → ∃ g o x, A = some ⟨g, o, none⟩ ∧ g < B ∧ w.cell? ⟨g, o + k, none⟩ = some (.int .i64 x) ∧ Hid (l.getD k 0 = x) := by
  obtain ⟨A, c, rfl, -, hlm, hr⟩ := h
  refine ⟨A, c, rfl, by simpa [maxLen] using hlm, fun k hk => ?_⟩
  obtain ⟨g, o, hA, hb, hc⟩ := hr (by omega)
  exact ⟨g, o, _, hA, hb, hc k _ (by simp [hk]), rfl⟩

theorem take_all {α : Type} {l m : List α} {n : Nat} (h : l.take n = m.take n) (hl : l.length ≤ n) (hm : m.length ≤ n) : l = m := by
  rwa [List.take_of_length_le hl, List.take_of_length_le hm] at h
theorem take_next {l m : List Int} {k : Nat} (h : l.take k = m.take k) (hl : k < l.length) (hm : k < m.length) (he : l.getD k 0 = m.getD k 0) : l.take (k + 1) = m.take (k + 1) := by
  simp only [List.getD_eq_getElem?_getD, List.getElem?_eq_getElem hl, List.getElem?_eq_getElem hm, Option.getD_some] at he
  rw [List.take_succ_eq_append_getElem hl, List.take_succ_eq_append_getElem hm, h, he]
theorem ne_at {l m : List Int} {k : Nat} (hl : k < l.length) (hm : k < m.length) (he : ¬ l.getD k 0 = m.getD k 0) : l ≠ m := fun h => he (by rw [h])

set_option maxHeartbeats 400000 in
theorem sameInts_any (a b : Value) (l m : List Int) (w : World) (ha : RInts w.heap.size w a l) (hb : RInts w.heap.size w b m) :
    Calls Try.prog 20 #[a, b] w fun e w' => e = .returned (.bool (decide (l = m))) ∧ Below w.heap.size w w' := by
  obtain ⟨A, c, rfl, hlm, hr⟩ := ha.open_
  obtain ⟨B, d, rfl, hmm, hs⟩ := hb.open_
  by_cases hne : l.length = m.length
  · obtain ⟨n, hn⟩ : ∃ n, l.length = n := ⟨_, rfl⟩
    have hm : m.length = n := by omega
    rw [hn] at hr hlm ⊢
    rw [hm] at hs hmm ⊢
    have Hn := Lib.hid hn
    have Hm := Lib.hid hm
    clear hn hm hne
    go_enter Try.func20, Try.ntmps20
    go_wp2
    go_loopw [5] (fun i wr => ∃ k : Nat, k ≤ n ∧ i = .int .i64 k ∧ Hid (l.take k = m.take k) ∧ Below w.heap.size w wr) (fun i _ => n - (intOf i).toNat)
    case atStart => exact ⟨0, Nat.zero_le _, rfl, rfl, Below.refl _ _⟩
    case round =>
      obtain ⟨k, hk, rfl, ht, hB⟩ := hrel
      by_cases hlt : k < n
      · obtain ⟨g, o, x, rfl, hb1, hc, hx⟩ := hr k hlt
        obtain ⟨g2, o2, y, rfl, hb2, hd, hy⟩ := hs k hlt
        rw [← hB.cell (p := ⟨g, o + k, none⟩) hb1] at hc
        rw [← hB.cell (p := ⟨g2, o2 + k, none⟩) hb2] at hd
        clear hr hs ha hb
        by_cases he : x = y
        · subst he
          go_wp2
          go_quiet (fail)
          go_wp2
          go_roundw
          case rel => exact ⟨k + 1, by omega, by go_num, take_next ht (by rw [Hn.out]; exact hlt) (by rw [Hm.out]; exact hlt) (by rw [hx.out, hy.out]), below_drewN hB _⟩
          case measure => simp [intOf]; omega
        · have he2 : (x != y) = true := by simp [he]
          go_wp2
          go_quiet (fail)
          go_wp2
          go_ret
          exact ⟨by simp [ne_at (k := k) (l := l) (m := m) (by rw [Hn.out]; exact hlt) (by rw [Hm.out]; exact hlt) (by rw [hx.out, hy.out]; exact he)], below_drewN hB _⟩
      · go_wp2
        go_ret
        exact ⟨by simp [take_all ht.out (by rw [Hn.out]; omega) (by rw [Hm.out]; omega)], hB⟩
  · go_enter Try.func20, Try.ntmps20
    go_wp2
    go_ret
    exact ⟨by simp [show l ≠ m from fun h => hne (by rw [h])], Below.refl _ _⟩

end Go.Proofs.Ytdbfhdncjblleaa
