/-
  isSchedule.
-/
import Derived.Test.YtpkepacbondopaaZb
namespace Go.Proofs.Ytpkepacbondopaa
open Go.RowKit
attribute [local go_sem] Oper.semAt_some

def stepB (m : Nat) (l : List Int) (i : Nat) : Bool := withinB (l.getD (i + 1) 0) (l.getD i 0 + 1) ((m : Int) - 1)
/-- Increasing weeks, of which the first one is 0. -/
def schedB (m : Nat) (l : List Int) : Bool := decide (0 < l.length) && decide (l.getD 0 0 = 0) && (List.range (l.length - 1)).all (stepB m l)
set_option maxHeartbeats 2000000 in
theorem isSchedule_any (s : SupD) (l : List Int) (v u : Value) (w : World) (h : RSup w.heap.size w v s) (hm : s.need.length ≤ 20) (hu : RInts w.heap.size w u l) (hl : l.length ≤ 1000) (hcap : ∀ A n c, u = .slice A n c → n ≤ c) (hx : ∀ k, k < l.length → 0 ≤ l.getD k 0 ∧ l.getD k 0 ≤ 1000000) :
    Calls Try.prog 88 #[v, u] w fun e w' => e = .returned (.bool (schedB s.need.length l)) ∧ Below w.heap.size w w' := by
  obtain ⟨vn, vo, rfl, hN, hO⟩ := h
  obtain ⟨An, cn, rfl, hnm, -⟩ := hN.open_
  obtain ⟨m, hm9⟩ : ∃ m, s.need.length = m := ⟨_, rfl⟩
  rw [hm9] at hm ⊢
  have F0 : ∃ W0, w.alloc (.cells #[.slice An m cn, vo, .int .i64 s.keep, .int .i64 s.room] 33) = W0 ∧ Below w.heap.size w W0 ∧ Blk W0 w.heap.size 33 #[.slice An m cn, vo, .int .i64 s.keep, .int .i64 s.room] := ⟨_, rfl, below_alloc _ _, Blk.new _ _ _⟩
  obtain ⟨W0, e0, hb0, B0⟩ := F0
  have HU : Hid (RInts W0.heap.size W0 u l) := (hu.below hb0).more hb0.size
  obtain ⟨Au, cu, rfl, -, hr⟩ := HU.out.open_
  obtain ⟨n, hn⟩ : ∃ n, l.length = n := ⟨_, rfl⟩
  have hcu := hcap _ _ _ rfl
  rw [hn] at hcu
  clear hcap
  have Hn := Lib.hid hn
  have HX := Lib.hid hx
  rw [hn] at hr hl HX ⊢
  have HE : Hid (schedB m l = (decide (0 < n) && decide (l.getD 0 0 = 0) && (List.range (n - 1)).all (stepB m l))) := by show _ = _; unfold schedB; rw [hn]
  have E0 := Lib.hid e0
  have HB0 := Lib.hid hb0
  have HK0 := Lib.hid B0
  have HR := Lib.hid hr
  have s0 := cellOf B0 0 (x := .slice An m cn) rfl
  clear hN hO hnm hm9 e0 hb0 B0 hu hn HU hx
  by_cases h1 : n = 0
  · have HF : Hid (schedB m l = false) := by show _ = _; rw [HE.out]; simp [h1]
    have g1 : ((n : Int) == 0) = true := by simp; omega
    clear h1 hr
    go_enter Try.func88, Try.ntmps88
    go_upto_region 1 with fail
    rw [E0.out]
    go_wp2_with fail
    go_ret
    exact ⟨by rw [HF.out]; rfl, HB0.out⟩
  have g1 : ((n : Int) == 0) = false := by simp; omega
  have gn : 0 < n := by omega
  obtain ⟨b, o, x, rfl, hb, c0, hx⟩ := hr 0 (by omega)
  rw [Nat.add_zero] at c0
  by_cases h2 : x = 0
  case neg =>
    have g2 : (x != 0) = true := by simpa using h2
    have HF : Hid (schedB m l = false) := by show _ = _; rw [HE.out, hx.out]; simp [h2]
    clear h1 hr h2 hx hb
    go_enter Try.func88, Try.ntmps88
    go_upto_region 1 with fail
    rw [E0.out]
    go_wp2_with fail
    go_ret
    exact ⟨by rw [HF.out]; rfl, HB0.out⟩
  subst h2
  have HF : Hid (schedB m l = (List.range (n - 1)).all (stepB m l)) := by show _ = _; rw [HE.out, hx.out]; simp [gn]
  clear h1 hr hx hb
  by_cases hn1 : n = 1
  · have HT : Hid (schedB m l = true) := by show _ = _; rw [HF.out, hn1]; rfl
    subst hn1
    by_cases hc1 : cu = 1
    all_goals
      go_enter Try.func88, Try.ntmps88
      go_upto_region 1 with fail
      rw [E0.out]
      go_wp2_with fail
      go_loopw [19] (fun i wr => i = .int .i64 0 ∧ wr = W0) (fun _ _ => 0)
      case atStart => exact ⟨rfl, rfl⟩
      case round =>
      obtain ⟨rfl, rfl⟩ := hrel
      go_wp2_with fail
      go_ret
      exact ⟨by rw [HT.out]; rfl, HB0.out⟩
  have hc1 : ¬ cu = 1 := by omega
  clear hcu hn1
  go_enter Try.func88, Try.ntmps88
  go_upto_region 1 with fail
  rw [E0.out]
  go_wp2_with fail
  clear c0 s0 hc1
  obtain ⟨n1, hn1⟩ : ∃ a, n - 1 = a := ⟨_, rfl⟩
  rw [hn1]
  go_loopw [19] (fun i wr => ∃ k : Nat, k ≤ n1 ∧ i = .int .i64 (k : Int) ∧ Hid (∀ j, j < k → stepB m l j = true) ∧ Hid (Below W0.heap.size W0 wr)) (fun i _ => n1 - (intOf i).toNat)
  case atStart => exact ⟨0, Nat.zero_le _, rfl, fun j hj => absurd hj (Nat.not_lt_zero _), Below.refl _ _⟩
  case round =>
  obtain ⟨k, hk, rfl, hall, hB⟩ := hrel
  obtain ⟨V, rfl⟩ : ∃ V : World, V = wr := ⟨_, rfl⟩
  by_cases hlt : k < n1
  case neg =>
    have HT : Hid (schedB m l = true) := by
      show _ = _
      rw [HF.out, hn1]
      exact List.all_eq_true.2 fun j hj => hall.out j (by have := List.mem_range.1 hj; omega)
    have HB9 : Hid (Below w.heap.size w V) := HB0.out.trans (hB.out.mono HB0.out.size)
    clear hn1 hall hB
    go_wp2_with fail
    go_ret
    exact ⟨by rw [HT.out]; rfl, HB9.out⟩
  obtain ⟨g1', o1, x, e1, hg1, c0, hx⟩ := HR.out k (by omega)
  injection e1 with e1
  injection e1 with e1 e2
  subst e1
  subst e2
  obtain ⟨g2', o2, y, e2, hg2, d0, hy⟩ := HR.out (k + 1) (by omega)
  injection e2 with e1
  injection e1 with e1 e2
  subst e1
  subst e2
  rw [show o + (k + 1) = o + 1 + k by omega] at d0
  rw [← hB.out.cell (p := ⟨b, o + k, none⟩) hg1] at c0
  rw [← hB.out.cell (p := ⟨b, o + 1 + k, none⟩) hg1] at d0
  have hxb := HX.out k (by omega)
  rw [hx.out] at hxb
  obtain ⟨hx0, hx1⟩ := hxb
  obtain ⟨z, hz⟩ : ∃ z, x + 1 = z := ⟨_, rfl⟩
  obtain ⟨mm, hmm⟩ : ∃ z, (m : Int) - 1 = z := ⟨_, rfl⟩
  obtain ⟨b5, hb5⟩ : ∃ b, withinB y (x + 1) ((m : Int) - 1) = b := ⟨_, rfl⟩
  have C5 : Hid (∀ W, Calls Try.prog 75 #[.int .i64 y, .int .i64 (x + 1), .int .i64 ((m : Int) - 1)] W fun e w' => e = .returned (.bool b5) ∧ w' = W) := fun W => (within_let hb5 W).mono fun e w' h => ⟨h.1, h.2.symm⟩
  have HW : Hid (stepB m l k = b5) := by show _ = _; unfold stepB; rw [hx.out, hy.out, hb5]
  have kw1 : IntKind.i64.wrap (x + 1) = x + 1 := IntWalk.i64_in _ ⟨by omega, by omega⟩
  have kw2 : IntKind.i64.wrap ((m : Int) - 1) = (m : Int) - 1 := IntWalk.i64_in _ ⟨by omega, by omega⟩
  have HKV := Lib.hid (HK0.out.below hB.out HK0.out.lt)
  have s0 := cellOf HKV.out 0 (x := .slice An m cn) rfl
  have hkn : k < n := by omega
  have HBV : Hid (Below w.heap.size w V) := HB0.out.trans (hB.out.mono HB0.out.size)
  have HN1 := Lib.hid hn1
  clear hb5 hx hy hn1 hz hmm hg2
  go_upto_region 6 with fail
  go_cut [35] (fun s wx => s = .bool (!b5) ∧ Hid (Below V.heap.size V wx))
  case first =>
    go_quiet ((go_at_call 75; refine Calls.quiet_of_same (C5.out _)))
    all_goals
      go_wp2_with fail
      go_meet
      exact ⟨rfl, below_drewN (Below.refl _ _) _⟩
  case rest =>
  obtain ⟨rfl, hb9⟩ := hcut
  obtain ⟨V2, rfl⟩ : ∃ X, X = wc := ⟨_, rfl⟩
  have HB2 : Hid (Below w.heap.size w V2) := HBV.out.trans (hb9.out.mono HBV.out.size)
  have HB3 : Hid (Below W0.heap.size W0 V2) := hB.out.trans (hb9.out.mono hB.out.size)
  clear hb9 hB c0 d0 s0 HKV C5
  cases b5
  · have HT : Hid (schedB m l = false) := by
      show _ = _
      rw [HF.out, HN1.out]
      refine Bool.eq_false_iff.2 fun h9 => ?_
      have := List.all_eq_true.1 h9 k (List.mem_range.2 hlt)
      rw [HW.out] at this
      cases this
    go_wp2_with fail
    go_ret
    exact ⟨by rw [HT.out]; rfl, HB2.out⟩
  · have HA : Hid (∀ j, j < k + 1 → stepB m l j = true) := fun j hj => by
      rcases Nat.lt_or_ge j k with h | h
      · exact hall.out j h
      · obtain rfl : j = k := by omega
        exact HW.out
    clear hall
    go_wp2_with fail
    go_roundw
    case rel => exact ⟨k + 1, by omega, by go_num, HA, HB3⟩
    case measure => simp [intOf]; omega
end Go.Proofs.Ytpkepacbondopaa
