/-
  thrownBy: the copies that a splice throws out.
-/
import Derived.Test.YtpkepacbondopaaLh
namespace Go.Proofs.Ytpkepacbondopaa
open Go.RowKit

def SpanRet (w : World) (lo hi : Int) (e : Ending) (w' : World) : Prop := e = .returned (.agg #[.int .i64 lo, .int .i64 hi]) ∧ Below w.heap.size w w'
set_option maxRecDepth 100000 in
set_option maxHeartbeats 2000000 in
theorem thrownBy_any (cut mg off bef aft place : Int) (A A2 : Option Addr) (n c n2 c2 : Nat) (hc : 300 ≤ cut ∧ cut ≤ 1500) (hm : 0 ≤ mg ∧ mg ≤ 20) (ho : 0 ≤ off ∧ off ≤ 200000) (hb : 0 ≤ bef ∧ bef ≤ 5000) (ha : 0 ≤ aft ∧ aft ≤ 5000) (hp : 0 ≤ place ∧ place ≤ 400000000) (w : World) :
    Calls Try.prog 114 #[.agg #[.int .i64 cut, .int .i64 mg, .slice A n c], .agg #[.slice A2 n2 c2, .int .i64 off, .int .i64 bef, .int .i64 aft], .int .i64 place] w (SpanRet w ((place - bef - off) / cut - mg) ((place + aft - 1 - off) / cut + mg)) := by
  obtain ⟨hc1, hc2⟩ := hc
  obtain ⟨hm1, hm2⟩ := hm
  obtain ⟨ho1, ho2⟩ := ho
  obtain ⟨hb1, hb2⟩ := hb
  obtain ⟨ha1, ha2⟩ := ha
  obtain ⟨hp1, hp2⟩ := hp
  have CF := Lib.hid (fun x => floor_any x cut (by omega))
  have F0 : ∃ W0, ((w.alloc (.cells #[.int .i64 cut, .int .i64 mg, .slice A n c] 24)).alloc (.cells #[.slice A2 n2 c2, .int .i64 off, .int .i64 bef, .int .i64 aft] 47)).alloc (.cells #[.int .i64 0, .int .i64 0] 45) = W0 ∧ Below w.heap.size w W0 ∧
      Blk W0 w.heap.size 24 #[.int .i64 cut, .int .i64 mg, .slice A n c] ∧ Blk W0 (w.heap.size + 1) 47 #[.slice A2 n2 c2, .int .i64 off, .int .i64 bef, .int .i64 aft] ∧ Blk W0 (w.heap.size + 1 + 1) 45 #[.int .i64 0, .int .i64 0] := by
    refine ⟨_, rfl, (((Below.refl _ _).alloc (Nat.le_refl _) _).alloc (by simp) _).alloc (by simp; omega) _, ((Blk.new _ _ _).alloc _).alloc _, (blk_new (by simp) _ _).alloc _, blk_new (by simp) _ _⟩
  obtain ⟨W0, e0, hb0, K1, K2, K3⟩ := F0
  have E0 := Lib.hid e0
  have HB0 := Lib.hid hb0
  have HK3 := Lib.hid K3
  have p0 := cellOf K1 0 (x := .int .i64 cut) rfl
  have p1 := cellOf K1 1 (x := .int .i64 mg) rfl
  have x1 := cellOf K2 1 (x := .int .i64 off) rfl
  have x2 := cellOf K2 2 (x := .int .i64 bef) rfl
  have x3 := cellOf K2 3 (x := .int .i64 aft) rfl
  have s0 := cellOf K3 0 (x := .int .i64 0) rfl
  have s1 := cellOf K3 1 (x := .int .i64 0) rfl
  have s0f := K3.frozen 0
  have s1f := K3.frozen 1
  clear e0 hb0 K1 K2 K3
  have kw1 : IntKind.i64.wrap (place - bef) = place - bef := IntWalk.i64_in _ ⟨by omega, by omega⟩
  have kw2 : IntKind.i64.wrap (place + aft) = place + aft := IntWalk.i64_in _ ⟨by omega, by omega⟩
  have kw3 : IntKind.i64.wrap (place + aft - 1) = place + aft - 1 := IntWalk.i64_in _ ⟨by omega, by omega⟩
  have d1 : -300000 ≤ (place - bef - off) / cut ∧ (place - bef - off) / cut ≤ 400000000 := by
    constructor
    · exact Int.le_ediv_of_mul_le (by omega) (by omega)
    · exact Int.ediv_le_of_le_mul (by omega) (by omega)
  have d2 : -300000 ≤ (place + aft - 1 - off) / cut ∧ (place + aft - 1 - off) / cut ≤ 410000000 := by
    constructor
    · exact Int.le_ediv_of_mul_le (by omega) (by omega)
    · exact Int.ediv_le_of_le_mul (by omega) (by omega)
  go_enter Try.func114, Try.ntmps114
  go_upto_region 1 with fail
  rw [E0.out]
  go_quiet (fail)
  clear kw1 kw2 kw3
  obtain ⟨q1, hq1⟩ : ∃ q, (place - bef - off) / cut = q := ⟨_, rfl⟩
  obtain ⟨q2, hq2⟩ : ∃ q, (place + aft - 1 - off) / cut = q := ⟨_, rfl⟩
  have Q1 : Hid (∀ X, Calls Try.prog 149 #[.int .i64 (place - bef - off), .int .i64 cut] X fun e w' => e = .returned (.int .i64 q1) ∧ X = w') := fun X => by rw [← hq1]; exact CF.out _ (by omega) (by omega) X
  have Q2 : Hid (∀ X, Calls Try.prog 149 #[.int .i64 (place + aft - 1 - off), .int .i64 cut] X fun e w' => e = .returned (.int .i64 q2) ∧ X = w') := fun X => by rw [← hq2]; exact CF.out _ (by omega) (by omega) X
  rw [hq1] at d1
  rw [hq2] at d2
  obtain ⟨d11, d12⟩ := d1
  obtain ⟨d21, d22⟩ := d2
  have HQ1 := Lib.hid hq1
  have HQ2 := Lib.hid hq2
  clear hq1 hq2 CF
  have kw4 : IntKind.i64.wrap (place - bef - off) = place - bef - off := IntWalk.i64_in _ ⟨by omega, by omega⟩
  have kw5 : IntKind.i64.wrap (place + aft - 1 - off) = place + aft - 1 - off := IntWalk.i64_in _ ⟨by omega, by omega⟩
  have kw6 : IntKind.i64.wrap (q1 - mg) = q1 - mg := IntWalk.i64_in _ ⟨by omega, by omega⟩
  have kw7 : IntKind.i64.wrap (q2 + mg) = q2 + mg := IntWalk.i64_in _ ⟨by omega, by omega⟩
  go_upto_region 2 with fail
  refine wp_tail 21 (by kernel_rfl) (by kernel_rfl) ?_
  simp only [List.take_succ_cons, List.take_zero, List.drop_succ_cons, List.drop_zero]
  repeat go_big_quiet_step (fail)
  go_big_quiet_want
  go_big_quiet_op
  apply Exists.intro
  refine ⟨?_, ?_⟩
  · exact (Q1.out _).mono fun _ _ h => ⟨h.1, h.2.symm⟩
  go_big_quiet_on
  repeat go_big_quiet_step (fail)
  go_big_quiet_want
  go_big_quiet_op
  apply Exists.intro
  refine ⟨?_, ?_⟩
  · exact (Q2.out _).mono fun _ _ h => ⟨h.1, h.2.symm⟩
  go_big_quiet_on
  repeat go_big_quiet_step (fail)
  refine wpQuiet_nil ?_
  clear kw4 kw5 kw6 kw7
  go_wp2_with fail
  have hB := ((HK3.out.below (below_drewN (Below.refl _ _) (nq + 1)) HK3.out.lt).put 0 (.int .i64 (q1 - mg))).put 1 (.int .i64 (q2 + mg))
  have r0 := cellOf hB 0 (x := .int .i64 (q1 - mg)) rfl
  have r1 := cellOf hB 1 (x := .int .i64 (q2 + mg)) rfl
  refine bodyPost_ret (v := .agg #[.int .i64 (q1 - mg), .int .i64 (q2 + mg)]) (by simp [results, Try.results114, go_sem, r0, r1]) rfl ⟨by rw [HQ1.out, HQ2.out], ?_⟩
  exact ((below_drewN HB0.out (nq + 1)).setCell (p := ⟨w.heap.size + 1 + 1, 0, none⟩) (by show w.heap.size ≤ w.heap.size + 1 + 1; omega) _).setCell (p := ⟨w.heap.size + 1 + 1, 1, none⟩) (by show w.heap.size ≤ w.heap.size + 1 + 1; omega) _
end Go.Proofs.Ytpkepacbondopaa
