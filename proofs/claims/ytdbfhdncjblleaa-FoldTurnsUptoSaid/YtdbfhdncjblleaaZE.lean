/-
  The kit's comparison of lists of lists.
-/
import Derived.Test.YtdbfhdncjblleaaZD
namespace Go.Proofs.Ytdbfhdncjblleaa
open Go.RowKit

set_option maxHeartbeats 400000 in
theorem SameList_any (a b : Value) (l m : List Int) (w : World) (ha : RInts w.heap.size w a l) (hb : RInts w.heap.size w b m) :
    Calls Try.prog 61 #[a, b] w fun e w' => e = .returned (.bool (decide (l = m))) ∧ Below w.heap.size w w' := by
  have HC := Lib.hid (sameInts_any a b l m w ha hb)
  clear ha hb
  go_enter Try.func61, Try.ntmps61
  go_wp2_with fail
  refine HC.out.mono ?_
  rintro e w2 ⟨rfl, hb⟩
  go_wp2
  go_ret
  exact ⟨rfl, hb⟩

theorem ne_at2 {α : Type} {l m : List α} {k : Nat} {x y : α} (hx : l[k]? = some x) (hy : m[k]? = some y) (he : x ≠ y) : l ≠ m := by
  rintro rfl
  rw [hx] at hy
  exact he (Option.some.inj hy)
theorem take_next2 {α : Type} {l m : List α} {k : Nat} {x : α} (h : Hid (l.take k = m.take k)) (hx : l[k]? = some x) (hy : m[k]? = some x) : Hid (l.take (k + 1) = m.take (k + 1)) := by
  show l.take (k + 1) = m.take (k + 1)
  rw [List.take_add_one, List.take_add_one, h.out, hx, hy]

set_option maxHeartbeats 2000000 in
set_option maxRecDepth 100000 in
theorem SameLists_any (a b : Value) (l m : List (List Int)) (w : World) (ha : RIntss w.heap.size w a l) (hb : RIntss w.heap.size w b m) :
    Calls Try.prog 37 #[a, b] w fun e w' => e = .returned (.bool (decide (l = m))) ∧ Below w.heap.size w w' := by
  obtain ⟨A, c, rfl, hlm, hA⟩ := RAll.open_ ha
  obtain ⟨B, d, rfl, hmm, hB'⟩ := RAll.open_ hb
  have HA := Lib.hid hA
  have HB := Lib.hid hB'
  clear ha hb hA hB'
  by_cases hne : l.length = m.length
  · have Hn := Lib.hid hne
    clear hne
    rw [← Hn.out]
    go_enter Try.func37, Try.ntmps37
    go_wp2
    go_loopw [5] (fun i wr => ∃ k : Nat, k ≤ l.length ∧ i = .int .i64 k ∧ Hid (l.take k = m.take k) ∧ Below w.heap.size w wr) (fun i _ => l.length - (intOf i).toNat)
    case atStart => exact ⟨0, Nat.zero_le _, rfl, rfl, Below.refl _ _⟩
    case round =>
      obtain ⟨k, hk, rfl, ht, hB⟩ := hrel
      by_cases hlt : k < l.length
      · obtain ⟨x, hx⟩ : ∃ x, l[k]? = some x := ⟨_, List.getElem?_eq_getElem hlt⟩
        obtain ⟨y, hy⟩ : ∃ y, m[k]? = some y := ⟨_, List.getElem?_eq_getElem (by have := Hn.out; omega)⟩
        obtain ⟨g, o, u, rfl, hb1, hc1, hp⟩ := HA.out k x hx
        obtain ⟨g2, o2, u2, rfl, hb2, hc2, hp2⟩ := HB.out k y hy
        rw [← hB.cell (p := ⟨g, o + k, none⟩) hb1] at hc1
        rw [← hB.cell (p := ⟨g2, o2 + k, none⟩) hb2] at hc2
        obtain ⟨A5, c5, rfl, -⟩ := rd_slice hp
        obtain ⟨A6, c6, rfl, -⟩ := rd_slice hp2
        have hcall : ∀ X, Below wr.heap.size wr X → Calls Try.prog 61 #[.slice A5 x.length c5, .slice A6 y.length c6] X fun e w' => e = .returned (.bool (decide (x = y))) ∧ Below wr.heap.size wr w' := fun X hX => by
          have hX2 := hB.trans (hX.mono hB.size)
          exact (SameList_any _ _ x y X ((hp.below hX2).more hX2.size) ((hp2.below hX2).more hX2.size)).mono fun e w' he => ⟨he.1, hX.trans (he.2.mono hX.size)⟩
        have HX := Lib.hid hx
        have HY := Lib.hid hy
        clear hp hp2 hx hy hb1 hb2
        cases hxy : decide (x = y)
        · rw [hxy] at hcall
          have HC := Lib.hid hcall
          have HD : Hid (decide (l = m) = false) := by
            show decide (l = m) = false
            exact decide_eq_false (ne_at2 HX.out HY.out (of_decide_eq_false hxy))
          clear hcall hxy
          go_wp2_with fail
          go_still_tail 8, (by kernel_rfl)
          change wpList _ _ _ _ _ wr.drew
          go_wp2_with fail
          refine (HC.out _ (Below.refl _ _).drew).mono ?_
          rintro e w5 ⟨rfl, h5⟩
          have hB5 := hB.trans (h5.mono hB.size)
          clear hc1 hc2 hB h5
          go_wp2
          go_ret
          exact ⟨rb HD.out, hB5⟩
        · rw [hxy] at hcall
          have HC := Lib.hid hcall
          have hxe : x = y := of_decide_eq_true hxy
          have HT := take_next2 ht HX.out (by rw [hxe]; exact HY.out)
          clear hcall hxy hxe
          go_wp2_with fail
          go_still_tail 8, (by kernel_rfl)
          change wpList _ _ _ _ _ wr.drew
          go_wp2_with fail
          refine (HC.out _ (Below.refl _ _).drew).mono ?_
          rintro e w5 ⟨rfl, h5⟩
          have hB5 := hB.trans (h5.mono hB.size)
          clear hc1 hc2 hB h5
          go_wp2
          go_roundw
          case rel => exact ⟨k + 1, by omega, by go_num, HT, hB5⟩
          case measure => simp [intOf]; omega
      · have HD : Hid (decide (l = m) = true) := by
          show decide (l = m) = true
          have h1 := ht.out
          rw [List.take_of_length_le (by omega), List.take_of_length_le (by have := Hn.out; omega)] at h1
          exact decide_eq_true h1
        go_wp2
        go_ret
        exact ⟨rb HD.out, hB⟩
  · have hd : decide (l = m) = false := decide_eq_false fun h => hne (by rw [h])
    have HD := Lib.hid hd
    have hne' : ((l.length : Int) != (m.length : Int)) = true := by simp; omega
    clear hd
    go_enter Try.func37, Try.ntmps37
    go_wp2
    go_ret
    exact ⟨rb HD.out, Below.refl _ _⟩
end Go.Proofs.Ytdbfhdncjblleaa
