/-
  CheckSupply.
-/
import Derived.Test.YtpkepacbondopaaLg
import Derived.Test.YtpkepacbondopaaMb
namespace Go.Proofs.Ytpkepacbondopaa
open Go.RowKit
attribute [local go_sem] Oper.semAt_some

def weekB (s : SupD) (k : Nat) : Bool := withinB (s.need.getD k 0) 0 1000 && withinB (s.order.getD k 0) 0 1000000
def checkS (s : SupD) : Int :=
  if withinB (s.need.length : Int) 1 20 && decide (s.order.length = s.need.length) then
    if withinB s.keep 0 1000 && withinB s.room 0 100000 then
      if (List.range s.need.length).all (weekB s) then 0 else 6
    else 6
  else 2
theorem checkS_ok {s : SupD} (h : checkS s = 0) : s.Ok := by
  unfold checkS at h
  split at h
  · rename_i h1
    rw [Bool.and_eq_true, within_iff, decide_eq_true_eq] at h1
    split at h
    · rename_i h2
      rw [Bool.and_eq_true, within_iff, within_iff] at h2
      split at h
      · rename_i h3
        have h4 : ∀ k, k < s.need.length → (0 ≤ s.need.getD k 0 ∧ s.need.getD k 0 ≤ 1000) ∧ (0 ≤ s.order.getD k 0 ∧ s.order.getD k 0 ≤ 1000000) := fun k hk => by
          have := List.all_eq_true.1 h3 k (List.mem_range.2 hk)
          unfold weekB at this
          rwa [Bool.and_eq_true, within_iff, within_iff] at this
        exact ⟨by omega, h1.2, h2.1, h2.2, fun k hk => (h4 k hk).1, fun k hk => (h4 k hk).2⟩
      · cases h
    · cases h
  · cases h
set_option maxRecDepth 100000 in
set_option maxHeartbeats 4000000 in
theorem CheckSupply_any (s : SupD) (v : Value) (w : World) (h : RSup w.heap.size w v s) :
    Calls Try.prog 66 #[v] w fun e w' => e = .returned (.int .i64 (checkS s)) ∧ Below w.heap.size w w' := by
  obtain ⟨vn, vo, rfl, hN, hO⟩ := h
  obtain ⟨An, cn, rfl, hnm, hN⟩ := hN.open_
  obtain ⟨Ao, co, rfl, hom, hO⟩ := hO.open_
  obtain ⟨n, hn⟩ : ∃ n, s.need.length = n := ⟨_, rfl⟩
  obtain ⟨o, ho⟩ : ∃ n, s.order.length = n := ⟨_, rfl⟩
  obtain ⟨r, hr⟩ : ∃ r, checkS s = r := ⟨_, rfl⟩
  rw [hr]
  have HR := Lib.hid hr
  rw [hn] at hnm hN ⊢
  rw [ho] at hom hO ⊢
  have HN := Lib.hid hN
  have HO := Lib.hid hO
  have Hn := Lib.hid hn
  have Ho := Lib.hid ho
  obtain ⟨kp, hkp⟩ : ∃ x, s.keep = x := ⟨_, rfl⟩
  obtain ⟨rm, hrm⟩ : ∃ x, s.room = x := ⟨_, rfl⟩
  rw [hkp, hrm]
  obtain ⟨b1, hb1⟩ : ∃ b, withinB (n : Int) 1 20 = b := ⟨_, rfl⟩
  obtain ⟨b2, hb2⟩ : ∃ b, withinB kp 0 1000 = b := ⟨_, rfl⟩
  obtain ⟨b3, hb3⟩ : ∃ b, withinB rm 0 100000 = b := ⟨_, rfl⟩
  have C1 := Lib.hid (within_let hb1)
  have C2 := Lib.hid (within_let hb2)
  have C3 := Lib.hid (within_let hb3)
  have HE : Hid (r = if b1 && decide (o = n) then (if b2 && b3 then (if (List.range n).all (weekB s) then 0 else 6) else 6) else 2) := by
    show _ = _
    rw [← hr]
    unfold checkS
    rw [hn, ho, hkp, hrm, hb1, hb2, hb3]
  have F0 : ∃ W0, w.alloc (.cells #[.slice An n cn, .slice Ao o co, .int .i64 kp, .int .i64 rm] 33) = W0 ∧ Below w.heap.size w W0 ∧ Blk W0 w.heap.size 33 #[.slice An n cn, .slice Ao o co, .int .i64 kp, .int .i64 rm] := ⟨_, rfl, below_alloc _ _, Blk.new _ _ _⟩
  obtain ⟨W0, e0, hb0, B0⟩ := F0
  have E0 := Lib.hid e0
  have HB0 := Lib.hid hb0
  have HK0 := Lib.hid B0
  have s0 := cellOf B0 0 (x := .slice An n cn) rfl
  have s1 := cellOf B0 1 (x := .slice Ao o co) rfl
  have s2 := cellOf B0 2 (x := .int .i64 kp) rfl
  have s3 := cellOf B0 3 (x := .int .i64 rm) rfl
  clear hn ho hr hN hO hkp hrm e0 hb0 B0 hb1 hb2 hb3 HR
  go_enter Try.func66, Try.ntmps66
  go_upto_region 1 with fail
  rw [E0.out]
  go_wp2_with fail
  refine (C1.out _).mono ?_
  rintro _ _ ⟨rfl, rfl⟩
  cases b1
  · have hr2 : r = 2 := HE.out
    subst hr2
    go_wp2_with fail
    go_ret
    exact ⟨rfl, HB0.out⟩
  by_cases hon : o = n
  case neg =>
    have hr2 : r = 2 := by have := HE.out; simpa [hon] using this
    subst hr2
    have hon' : ((o : Int) != (n : Int)) = true := by simp; omega
    go_wp2_with fail
    go_ret
    exact ⟨rfl, HB0.out⟩
  subst hon
  have HE : Hid (r = if b2 && b3 then (if (List.range o).all (weekB s) then 0 else 6) else 6) := by
    have h9 := HE.out
    rw [show (true && decide (o = o)) = true by simp, if_pos rfl] at h9
    exact h9
  go_wp2_with fail
  refine (C2.out _).mono ?_
  rintro _ _ ⟨rfl, rfl⟩
  cases b2
  · have hr2 : r = 6 := HE.out
    subst hr2
    go_wp2_with fail
    go_ret
    exact ⟨rfl, HB0.out⟩
  go_wp2_with fail
  refine (C3.out _).mono ?_
  rintro _ _ ⟨rfl, rfl⟩
  cases b3
  · have hr2 : r = 6 := HE.out
    subst hr2
    go_wp2_with fail
    go_ret
    exact ⟨rfl, HB0.out⟩
  have HE : Hid (r = if (List.range o).all (weekB s) then 0 else 6) := HE.out
  go_wp2_with fail
  clear C1 C2 C3
  go_loopw [31] (fun i wr => ∃ k : Nat, k ≤ o ∧ i = .int .i64 (k : Int) ∧ Hid (∀ j, j < k → weekB s j = true) ∧ wr = W0) (fun i _ => o - (intOf i).toNat)
  case atStart => exact ⟨0, Nat.zero_le _, rfl, fun j hj => absurd hj (Nat.not_lt_zero _), rfl⟩
  case round =>
  obtain ⟨k, hk, rfl, hall, rfl⟩ := hrel
  by_cases hlt : k < o
  case neg =>
    have hr2 : r = 0 := by
      rw [HE.out, if_pos (List.all_eq_true.2 fun j hj => hall.out j (by have := List.mem_range.1 hj; omega))]
    subst hr2
    go_wp2_with fail
    go_ret
    exact ⟨rfl, HB0.out⟩
  obtain ⟨gn, on, x, rfl, hgn, c0, hx⟩ := HN.out k hlt
  obtain ⟨go, oo, y, rfl, hgo, d0, hy⟩ := HO.out k hlt
  rw [← HB0.out.cell (p := ⟨gn, on + k, none⟩) hgn] at c0
  rw [← HB0.out.cell (p := ⟨go, oo + k, none⟩) hgo] at d0
  obtain ⟨b5, hb5⟩ : ∃ b, withinB x 0 1000 = b := ⟨_, rfl⟩
  obtain ⟨b6, hb6⟩ : ∃ b, withinB y 0 1000000 = b := ⟨_, rfl⟩
  have C5 := Lib.hid (within_let hb5)
  have C6 := Lib.hid (within_let hb6)
  have HW : Hid (weekB s k = (b5 && b6)) := by show _ = _; unfold weekB; rw [hx.out, hy.out, hb5, hb6]
  have HBad : Hid (weekB s k = false → r = 6) := fun h => by
    rw [HE.out, if_neg]
    intro h9
    have := List.all_eq_true.1 h9 k (List.mem_range.2 hlt)
    rw [h] at this
    cases this
  clear hb5 hb6
  go_wp2_with fail
  refine (C5.out _).mono ?_
  rintro _ _ ⟨rfl, rfl⟩
  cases b5
  · have hr2 : r = 6 := HBad.out (by rw [HW.out]; rfl)
    subst hr2
    go_wp2_with fail
    go_ret
    exact ⟨rfl, HB0.out⟩
  go_wp2_with fail
  refine (C6.out _).mono ?_
  rintro _ _ ⟨rfl, rfl⟩
  cases b6
  · have hr2 : r = 6 := HBad.out (by rw [HW.out]; rfl)
    subst hr2
    go_wp2_with fail
    go_ret
    exact ⟨rfl, HB0.out⟩
  have HA : Hid (∀ j, j < k + 1 → weekB s j = true) := fun j hj => by
    rcases Nat.lt_or_ge j k with h | h
    · exact hall.out j h
    · rw [show j = k by omega, HW.out]; rfl
  clear HW HBad hall C5 C6 c0 d0
  go_wp2_with fail
  go_roundw
  case rel => exact ⟨k + 1, by omega, by go_num, HA, trivial⟩
  case measure => simp [intOf]; omega
end Go.Proofs.Ytpkepacbondopaa
