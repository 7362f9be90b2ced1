/-
  slices.Backward: its iterator's contract.
-/
import Derived.Test.YtpkepacbondopaaMc
import Derived.Test.YtpkepacbondopaaZc
namespace Go.Proofs.Ytpkepacbondopaa
open Go.RowKit Go.Shelf
attribute [local go_sem] Oper.semAt_some

/-- An index of a list. -/
abbrev Ix (l : List Int) := { j : Nat // j < l.length }
/-- The last q indexes, the last one first. -/
def backTo (l : List Int) (q : Nat) : List (Ix l) := if h : 0 < l.length then (List.range q).map fun j => ⟨l.length - 1 - j, by omega⟩ else []
theorem backTo_next {l : List Int} {r : Nat} (h : r < l.length) : backTo l (l.length - (r + 1) + 1) = backTo l (l.length - (r + 1)) ++ [⟨r, h⟩] := by
  unfold backTo
  rw [dif_pos (by omega), dif_pos (by omega), List.range_succ, List.map_append]
  congr 1
  simp only [List.map_cons, List.map_nil, List.cons.injEq, and_true, Subtype.mk.injEq]
  omega
theorem backTo_next' {l : List Int} {m r : Nat} (hm : l.length = m) (h : r < l.length) : backTo l (m - r) = backTo l (m - (r + 1)) ++ [⟨r, h⟩] := by
  subst hm
  rw [← backTo_next h, show l.length - (r + 1) + 1 = l.length - r by omega]
theorem backTo_pre {l : List Int} {q : Nat} : ∀ d, backTo l q <+: backTo l (q + d)
  | 0 => List.prefix_refl _
  | d + 1 => by
    refine (backTo_pre (l := l) (q := q) d).trans ?_
    unfold backTo
    by_cases h : 0 < l.length
    · rw [dif_pos h, dif_pos h, ← Nat.add_assoc, List.range_succ, List.map_append]
      exact List.prefix_append _ _
    · rw [dif_neg h, dif_neg h]
      exact List.prefix_refl _
theorem backTo_len {l : List Int} {q : Nat} : (backTo l q).length ≤ q := by
  unfold backTo
  split <;> simp
set_option maxRecDepth 100000 in
set_option maxHeartbeats 4000000 in
theorem backward_stops (n : Nat) (hn : 3 ≤ n) (l : List Int) (hl : l.length ≤ 1000) (A : Option Addr) (c Bs n₀ : Nat) (w : World) (hBs : Blk w Bs 30 #[.slice A l.length c]) (hn₀ : n₀ ≤ w.heap.size) (hr : RInts n₀ w (.slice A l.length c) l) :
    SeqStopsK Fence.wide n Try.prog 133 #[.pointer (some ⟨Bs, 0, none⟩)] (fun y : Ix l => #[.int .i64 (y.1 : Int), .int .i64 (l.getD y.1 0)]) (KpB n₀ Bs Bs) (fun ys => ys = backTo l l.length) (fun pre => pre <+: backTo l l.length) (l.length + 1) w := by
  intro lo J Jx W hW hJ hJx hY h0
  have hKs : Blk W Bs 30 _ := hBs.below hW hBs.lt
  have hrW : RInts n₀ W (.slice A l.length c) l := RInts.below hr (hW.mono hn₀)
  obtain ⟨A', c', e1, hlm, hc⟩ := hrW.open_
  cases e1
  obtain ⟨m, hm⟩ : ∃ m, l.length = m := ⟨_, rfl⟩
  have HKs := Lib.hid hKs
  have HY := Lib.hid hY
  have HC := Lib.hid hc
  have Hm := Lib.hid hm
  have H0 : Hid (J (backTo l 0) W) := by
    show J _ _
    have : backTo l 0 = [] := by unfold backTo; split <;> rfl
    rw [this]; exact h0
  have hW9 : n₀ ≤ W.heap.size := Nat.le_trans hn₀ hW.size
  have HCells : Hid (∀ X, KpB n₀ Bs Bs W X → X.cell? ⟨Bs, 0, none⟩ = some (.slice A m c)) := fun X hX => by
    have q1 : Blk X Bs 30 _ := hX.2.1.trans HKs.out
    rw [← Hm.out]
    exact cellOf q1 0 rfl
  have HRead : Hid (∀ X, KpB n₀ Bs Bs W X → ∀ j, j < m → ∃ g o, A = some ⟨g, o, none⟩ ∧ X.cell? ⟨g, o + j, none⟩ = some (.int .i64 (l.getD j 0))) := fun X hX j hj => by
    obtain ⟨g, o, x, e9, hg, c0, hx⟩ := HC.out j (by rw [Hm.out]; exact hj)
    refine ⟨g, o, e9, ?_⟩
    rw [hX.1.cell (p := ⟨g, o + j, none⟩) hg, hx.out]
    exact c0
  have s0 := HCells.out W (KpB.refl _ _ _ _)
  rw [hm] at hl hlm
  clear hm hKs hY h0 hJ hJx hBs hr hW hc hrW
  refine callsIn_of_wp Try.func133 rfl trivial ?_ rfl
  simp only [Try.ntmps133, List.size_toArray, List.length_cons, List.length_nil, Nat.reduceAdd, Nat.reduceSub, Array.replicate_succ, Array.replicate_zero, List.push_toArray, List.append_toArray, List.nil_append, List.cons_append]
  gi_wp2_with fail
  clear s0
  gi_loopw [3] (fun i wr => ∃ r : Nat, r ≤ m ∧ i = .int .i64 ((r : Int) - 1) ∧ Hid (J (backTo l (m - r)) wr) ∧ Hid (KpB n₀ Bs Bs W wr)) (fun i _ => (intOf i + 1).toNat)
  case atStart => exact ⟨m, Nat.le_refl _, by go_num, by show J _ _; rw [Nat.sub_self]; exact H0.out, KpB.refl _ _ _ _⟩
  case round =>
  clear H0
  obtain ⟨r, hr, rfl, hJr, hKr⟩ := hrel
  rcases Nat.eq_zero_or_pos r with h0 | h0
  · subst h0
    have hfin : Hid (∃ ys, ys = backTo l l.length ∧ J ys wr) := ⟨_, rfl, by rw [Hm.out]; exact hJr.out⟩
    gi_wp2
    go_end0
    exact ⟨⟨_, rfl⟩, .inl hfin.out⟩
  obtain ⟨k, rfl⟩ : ∃ k, r = k + 1 := ⟨r - 1, by omega⟩
  rw [show ((k + 1 : Nat) : Int) - 1 = (k : Int) by omega]
  have s0 := HCells.out wr hKr.out
  obtain ⟨g, o, rfl, c0⟩ := HRead.out wr hKr.out k (by omega)
  have hkm : k < m := by omega
  have hkl : k < l.length := by rw [Hm.out]; exact hkm
  obtain ⟨x, hx⟩ : ∃ x, l.getD k 0 = x := ⟨_, rfl⟩
  obtain ⟨fn, tmps, assign, body, hy, hR⟩ := HY.out (backTo l (m - (k + 1))) ⟨k, hkl⟩ wr hJr.out (by have := backTo_len (l := l) (q := m - (k + 1)); have := Hm.out; omega)
  simp only at hy
  rw [hx] at hy c0
  clear hx
  gi_wp2_with fail
  refine ⟨fun _ => by omega, hR.mono ?_⟩
  rintro e W6 (⟨rfl, hJ6, hb6⟩ | ⟨rfl, hJx6⟩)
  · have HJ7 : Hid (J (backTo l (m - k)) W6) := by
      show J _ W6
      rw [backTo_next' Hm.out hkl]
      exact hJ6
    have HK7 : Hid (KpB n₀ Bs Bs W W6) := hKr.out.trans hb6
    clear hJ6 hb6 hJr hKr hy hR s0 c0
    gi_wp2_with fail
    go_roundw
    case rel => exact ⟨k, by omega, by go_num, HJ7, HK7⟩
    case measure => (simp [intOf]) <;> omega
  · have HX : Hid (∃ pre, pre <+: backTo l l.length ∧ Jx pre W6) := ⟨_, by
      have h2 := backTo_pre (l := l) (q := m - k) k
      rw [show m - k + k = l.length by rw [Hm.out]; omega, backTo_next' Hm.out hkl] at h2
      exact h2, hJx6⟩
    clear hJx6 hy hR
    gi_wp2
    refine bodyPost_ret (results_none rfl _ _ _) rfl ?_
    exact ⟨⟨_, rfl⟩, .inr HX.out⟩
end Go.Proofs.Ytpkepacbondopaa
