/-
  batch for any two weeks; Cost: its state, a round.
-/
import Derived.Test.YtpkepacbondopaaZg
import Derived.Test.YtpkepacbondopaaZe
import Derived.Test.YtpkepacbondopaaLw
namespace Go.Proofs.Ytpkepacbondopaa
open Go.RowKit Go.Shelf
attribute [local go_sem] Oper.semAt_some

set_option maxRecDepth 100000 in
set_option maxHeartbeats 4000000 in
theorem batch_short (s : SupD) (hs : s.Ok) (a e : Nat) (ha : a < s.need.length) (hea : e ≤ a) (he : e ≤ s.need.length) (v : Value) (w : World) (h : RSup w.heap.size w v s) :
    Calls Try.prog 90 #[v, .int .i64 (a : Int), .int .i64 (e : Int)] w fun r w' => r = .returned (.tuple #[.int .i64 (s.cost a (e - a - 1)), .bool (decide (s.kept a (e - a - 1) ≤ s.room))]) ∧ Below w.heap.size w w' := by
  obtain ⟨vn, vo, rfl, hN, hO⟩ := h
  obtain ⟨An, cn, rfl, hnm, hN⟩ := hN.open_
  obtain ⟨Ao, co, rfl, hom, hO⟩ := hO.open_
  obtain ⟨n, hn⟩ : ∃ n, s.need.length = n := ⟨_, rfl⟩
  have hm : s.order.length = n := hs.same.trans hn
  have hn20 := hs.weeks
  rw [hn] at hnm hN hn20 he ha ⊢
  rw [hm] at hom hO ⊢
  have HN := Lib.hid hN
  have Hn := Lib.hid hn
  have HS := Lib.hid hs
  obtain ⟨kp, hkp⟩ : ∃ x, s.keep = x := ⟨_, rfl⟩
  obtain ⟨rm, hrm⟩ : ∃ x, s.room = x := ⟨_, rfl⟩
  rw [hkp, hrm]
  have Hkp := Lib.hid hkp
  have Hrm := Lib.hid hrm
  obtain ⟨go, oo, xo, rfl, hgo, co0, hxo⟩ := hO a (by omega)
  have hxob : 0 ≤ xo ∧ xo ≤ 1000000 := by have := hs.order a (by omega); rwa [hxo.out] at this
  have F0 : ∃ W0, w.alloc (.cells #[.slice An n cn, .slice (some ⟨go, oo, none⟩) n co, .int .i64 kp, .int .i64 rm] 33) = W0 ∧ Below w.heap.size w W0 ∧ Blk W0 w.heap.size 33 #[.slice An n cn, .slice (some ⟨go, oo, none⟩) n co, .int .i64 kp, .int .i64 rm] := ⟨_, rfl, below_alloc _ _, Blk.new _ _ _⟩
  obtain ⟨W0, e0, hb0, B0⟩ := F0
  have E0 := Lib.hid e0
  have HB0 := Lib.hid hb0
  have HK0 := Lib.hid B0
  rw [← hb0.cell (p := ⟨go, oo + a, none⟩) hgo] at co0
  have s0 := cellOf B0 0 (x := .slice An n cn) rfl
  have s1 := cellOf B0 1 (x := .slice (some ⟨go, oo, none⟩) n co) rfl
  have s2 := cellOf B0 2 (x := .int .i64 kp) rfl
  have s3 := cellOf B0 3 (x := .int .i64 rm) rfl
  obtain ⟨hxo1, hxo2⟩ := hxob
  have hea0 : e - a - 1 = 0 := by omega
  rw [hea0]
  clear hn hm hs hN hO hkp hrm e0 hb0 B0
  go_enter Try.func90, Try.ntmps90
  go_upto_region 1 with fail
  rw [E0.out]
  go_wp2_with fail
  clear co0
  go_loopw [8, 9, 10] (fun c k9 i wr => i = .int .i64 ((a : Int) + 1) ∧ ∃ C : Int, c = .int .i64 C ∧ k9 = .int .i64 0 ∧ Hid (C = s.cost a 0) ∧ Hid (Below W0.heap.size W0 wr)) (fun _ _ i _ => 0)
  case atStart => exact ⟨by go_num, xo, rfl, rfl, hxo.out.symm, Below.refl _ _⟩
  case round =>
  obtain ⟨rfl, C, rfl, rfl, hC, hB⟩ := hrel
  have M := HK0.out.below hB.out HK0.out.lt
  have z0 := cellOf M 0 (x := .slice An n cn) rfl
  have z2 := cellOf M 2 (x := .int .i64 kp) rfl
  have z3 := cellOf M 3 (x := .int .i64 rm) rfl
  clear M s0 s1 s2 s3
  have hlt : ¬ ((a : Int) + 1 < (e : Int)) := by omega
  have hK : Hid ((0 : Int) = s.kept a 0) := rfl
  have HFin : Hid (∀ X, Below wr.heap.size wr X → Below w.heap.size w X) := fun X hX => HB0.out.trans ((hB.out.trans (hX.mono hB.out.size)).mono HB0.out.size)
  go_upto_region 7 with fail
  go_region_held3 (fun X => X.cell? ⟨w.heap.size, 3, none⟩ = some (.int .i64 rm)) (go_keep) (fail)
  all_goals
    go_wp2_with fail
    go_ret2
    exact ⟨by rw [← hC.out, ← hK.out]; rfl, HFin.out _ (by first | exact (Below.refl _ _).drew | exact below_drewN (Below.refl _ _) _)⟩
theorem batch_all (s : SupD) (hs : s.Ok) (a e : Nat) (ha : a < s.need.length) (he : e ≤ s.need.length) (v : Value) (w : World) (h : RSup w.heap.size w v s) :
    Calls Try.prog 90 #[v, .int .i64 (a : Int), .int .i64 (e : Int)] w fun r w' => r = .returned (.tuple #[.int .i64 (costE s a e), .bool (okE s a e)]) ∧ Below w.heap.size w w' := by
  rcases Nat.lt_or_ge a e with h1 | h1
  · exact batch_any s hs a e h1 he v w h
  · exact batch_short s hs a e ha h1 he v w h
theorem SupD.Ok.costE_all {s : SupD} (h : s.Ok) {a e : Nat} (h1 : a < s.need.length) (h2 : e ≤ s.need.length) : 0 ≤ costE s a e ∧ costE s a e ≤ 450000000 := by
  rcases Nat.lt_or_ge a e with h3 | h3
  · exact h.costE_bound h3 h2
  · have h4 := h.cost a 0 (by omega)
    unfold costE
    rw [show e - a - 1 = 0 by omega]
    omega
end Go.Proofs.Ytpkepacbondopaa
