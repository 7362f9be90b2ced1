/-
  slices.Equal, of numbers and of spans.
-/
import Derived.Test.YtpkepacbondopaaLl
namespace Go.Proofs.Ytpkepacbondopaa
open Go.RowKit

set_option maxHeartbeats 1000000 in
theorem eqInts_any (a b : Value) (l m : List Int) (w : World) (ha : RInts w.heap.size w a l) (hb : RInts w.heap.size w b m) :
    Calls Try.prog 32 #[a, b] w fun e w' => e = .returned (.bool (decide (l = m))) ∧ Below w.heap.size w w' := by
  obtain ⟨A, c, rfl, hlm, hr⟩ := ha.open_
  obtain ⟨B, d, rfl, hmm, hs⟩ := hb.open_
  by_cases hne : l.length = m.length
  · obtain ⟨n, hn⟩ : ∃ n, l.length = n := ⟨_, rfl⟩
    have hm : m.length = n := by omega
    rw [hn] at hr hlm ⊢
    rw [hm] at hs hmm ⊢
    have Hn := Lib.hid hn
    have Hm := Lib.hid hm
    clear hn hm hne
    go_enter Try.func32, Try.ntmps32
    go_wp2
    go_loopw [13] (fun i wr => ∃ k : Nat, k ≤ n ∧ i = .int .i64 k ∧ Hid (l.take k = m.take k) ∧ Below w.heap.size w wr) (fun i _ => n - (intOf i).toNat)
    case atStart => exact ⟨0, Nat.zero_le _, rfl, rfl, Below.refl _ _⟩
    case round =>
      obtain ⟨k, hk, rfl, ht, hB⟩ := hrel
      by_cases hlt : k < n
      · obtain ⟨g, o, x, rfl, hb1, hc, hx⟩ := hr k hlt
        obtain ⟨g2, o2, y, rfl, hb2, hd, hy⟩ := hs k hlt
        rw [← hB.cell (p := ⟨g, o + k, none⟩) hb1] at hc
        rw [← hB.cell (p := ⟨g2, o2 + k, none⟩) hb2] at hd
        clear hr hs ha hb
        by_cases he : x = y
        · subst he
          go_wp2
          go_quiet (fail)
          go_wp2
          go_roundw
          case rel => exact ⟨k + 1, by omega, by go_num, take_next ht (by rw [Hn.out]; exact hlt) (by rw [Hm.out]; exact hlt) (by rw [hx.out, hy.out]), below_drewN hB _⟩
          case measure => simp [intOf]; omega
        · have he2 : (x != y) = true := by simp [he]
          go_wp2
          go_quiet (fail)
          go_wp2
          go_ret
          exact ⟨by simp [ne_at (k := k) (l := l) (m := m) (by rw [Hn.out]; exact hlt) (by rw [Hm.out]; exact hlt) (by rw [hx.out, hy.out]; exact he)], below_drewN hB _⟩
      · go_wp2
        go_ret
        exact ⟨by simp [take_all ht.out (by rw [Hn.out]; omega) (by rw [Hm.out]; omega)], hB⟩
  · go_enter Try.func32, Try.ntmps32
    go_wp2
    go_ret
    exact ⟨by simp [show l ≠ m from fun h => hne (by rw [h])], Below.refl _ _⟩

theorem fieldsSp : Try.prog.underlying 45 = some (.struct (Try.prog.fieldsOf 45)) := by kernel_rfl
theorem heldSp : Try.prog.stoodInHeld 45 = false := by kernel_rfl
theorem flSp : (Try.prog.fieldsOf 45).toList.map (fun f => (f.name != "_", f.type, f.offset)) = [(true, 3, 0), (true, 3, 1)] := by kernel_rfl
theorem eqSpan (a b a' b' : Int) (w : World) : (Op.equalIn 10000 45 (.agg #[.int .i64 a, .int .i64 b]) (.agg #[.int .i64 a', .int .i64 b'])).run Try.prog w = .ok (decide (a = a' ∧ b = b')) w := by
  rw [run_equalIn_agg w 9999 _ _ _ fieldsSp heldSp]
  have hl := flSp
  generalize (Try.prog.fieldsOf 45).toList = fs at hl ⊢
  obtain ⟨f0, r0, rfl, h0, hl⟩ := List.map_eq_cons_iff.1 hl
  obtain ⟨f1, r1, rfl, h1, hl⟩ := List.map_eq_cons_iff.1 hl
  obtain rfl := List.map_eq_nil_iff.1 hl
  simp only [Prod.mk.injEq, bne_iff_ne, ne_eq] at h0 h1
  obtain ⟨n0, t0, o0⟩ := h0
  obtain ⟨n1, t1, o1⟩ := h1
  clear hl
  simp [Op.eqFields, n0, n1, t0, t1, o0, o1, go_sem]
  by_cases ea : a = a' <;> by_cases eb : b = b' <;> simp [ea, eb]
theorem take_same {α : Type} {l m : List α} {k : Nat} {x : α} (h : Hid (l.take k = m.take k)) (hl : l[k]? = some x) (hm : m[k]? = some x) : Hid (l.take (k + 1) = m.take (k + 1)) := by
  show l.take (k + 1) = m.take (k + 1)
  rw [List.take_add_one, List.take_add_one, hl, hm, h.out]
theorem take_end {α : Type} {l m : List α} {k : Nat} (h : Hid (l.take k = m.take k)) (hl : l.length ≤ k) (hm : m.length ≤ k) : l = m := by
  have := h.out
  rwa [List.take_of_length_le hl, List.take_of_length_le hm] at this
theorem ne_here {α : Type} {l m : List α} {k : Nat} {x y : α} (hl : l[k]? = some x) (hm : m[k]? = some y) (h : x ≠ y) : l ≠ m := fun e => h (by rw [e, hm] at hl; exact (Option.some.inj hl).symm)
set_option maxHeartbeats 1000000 in
theorem eqSpans_any (a b : Value) (l m : List Sp) (w : World) (ha : RSpans w.heap.size w a l) (hb : RSpans w.heap.size w b m) :
    Calls Try.prog 49 #[a, b] w fun e w' => e = .returned (.bool (decide (l = m))) ∧ Below w.heap.size w w' := by
  obtain ⟨A, c, rfl, hlm, hr⟩ := ha.open_
  obtain ⟨B, d, rfl, hmm, hs⟩ := hb.open_
  by_cases hne : l.length = m.length
  · obtain ⟨n, hn⟩ : ∃ n, l.length = n := ⟨_, rfl⟩
    have hm : m.length = n := by omega
    rw [hn] at hlm ⊢
    rw [hm] at hmm ⊢
    have Hn := Lib.hid hn
    have Hm := Lib.hid hm
    have HR := Lib.hid hr
    have HS := Lib.hid hs
    clear hn hm hne hr hs ha hb
    go_enter Try.func49, Try.ntmps49
    go_wp2
    go_loopw [13] (fun i wr => ∃ k : Nat, k ≤ n ∧ i = .int .i64 k ∧ Hid (l.take k = m.take k) ∧ Below w.heap.size w wr) (fun i _ => n - (intOf i).toNat)
    case atStart => exact ⟨0, Nat.zero_le _, rfl, rfl, Below.refl _ _⟩
    case round =>
      obtain ⟨k, hk, rfl, ht, hB⟩ := hrel
      by_cases hlt : k < n
      · obtain ⟨x, hx⟩ : ∃ x, l[k]? = some x := ⟨_, List.getElem?_eq_getElem (by rw [Hn.out]; exact hlt)⟩
        obtain ⟨y, hy⟩ : ∃ y, m[k]? = some y := ⟨_, List.getElem?_eq_getElem (by rw [Hm.out]; exact hlt)⟩
        obtain ⟨g, o, rfl, hb1, c0, c1⟩ := HR.out k x hx
        obtain ⟨g2, o2, rfl, hb2, d0, d1⟩ := HS.out k y hy
        rw [← hB.cell (p := ⟨g, o + k * 2, none⟩) hb1] at c0
        rw [← hB.cell (p := ⟨g, o + k * 2 + 1, none⟩) hb1] at c1
        rw [← hB.cell (p := ⟨g2, o2 + k * 2, none⟩) hb2] at d0
        rw [← hB.cell (p := ⟨g2, o2 + k * 2 + 1, none⟩) hb2] at d1
        obtain ⟨x0, x1⟩ := x
        obtain ⟨y0, y1⟩ := y
        have HX := Lib.hid hx
        have HY := Lib.hid hy
        simp only at c0 c1 d0 d1
        clear hx hy
        by_cases he : x0 = y0 ∧ x1 = y1
        · obtain ⟨rfl, rfl⟩ := he
          have hse : ∀ W, (Op.equalIn 10000 45 (.agg #[.int .i64 x0, .int .i64 x1]) (.agg #[.int .i64 x0, .int .i64 x1])).run Try.prog W = .ok true W := fun W => by rw [eqSpan]; simp
          go_wp2
          go_quiet (fail)
          clear hse
          go_wp2
          go_roundw
          case rel => exact ⟨k + 1, by omega, by go_num, take_same ht HX.out HY.out, below_drewN hB _⟩
          case measure => simp [intOf]; omega
        · have hse : ∀ W, (Op.equalIn 10000 45 (.agg #[.int .i64 x0, .int .i64 x1]) (.agg #[.int .i64 y0, .int .i64 y1])).run Try.prog W = .ok false W := fun W => by rw [eqSpan, decide_eq_false he]
          have HE := Lib.hid he
          clear he
          go_wp2
          go_quiet (fail)
          clear hse
          go_wp2
          go_ret
          exact ⟨by simp [ne_here HX.out HY.out (fun e => HE.out (by cases e; exact ⟨rfl, rfl⟩))], below_drewN hB _⟩
      · go_wp2
        go_ret
        exact ⟨by simp [take_end ht (by rw [Hn.out]; omega) (by rw [Hm.out]; omega)], hB⟩
  · go_enter Try.func49, Try.ntmps49
    go_wp2
    go_ret
    exact ⟨by simp [show l ≠ m from fun h => hne (by rw [h])], Below.refl _ _⟩
end Go.Proofs.Ytpkepacbondopaa
