/-
  The reference's priced and sum.
-/
import Derived.Test.YtlmpbmlbllndcaaMa
import Derived.Test.YtlmpbmlbllndcaaDd
namespace Go.Proofs.Ytlmpbmlbllndcaa
open Go.RowKit
attribute [local go_sem] Oper.semAt_some

set_option maxRecDepth 100000 in
set_option maxHeartbeats 4000000 in
theorem priced_any (t : TarD) (w : World) : Calls Try.prog 111 #[.agg #[.int .i64 t.price, .int .i64 t.back, .int .i64 t.late, .int .i64 t.carry, .int .i64 t.credit]] w fun e w' => e = .returned (.bool t.okB) ∧ Below w.heap.size w w' := by
  obtain ⟨b1, hb1⟩ : ∃ b, inB t.price 0 10000 = b := ⟨_, rfl⟩
  obtain ⟨b2, hb2⟩ : ∃ b, inB t.back 0 t.price = b := ⟨_, rfl⟩
  obtain ⟨b3, hb3⟩ : ∃ b, inB t.late 0 t.price = b := ⟨_, rfl⟩
  obtain ⟨b4, hb4⟩ : ∃ b, inB t.carry 0 10000 = b := ⟨_, rfl⟩
  obtain ⟨b5, hb5⟩ : ∃ b, inB t.credit 0 10000 = b := ⟨_, rfl⟩
  have HE : Hid (t.okB = ((((b1 && b2) && b3) && b4) && b5)) := by show _ = _; rw [← hb1, ← hb2, ← hb3, ← hb4, ← hb5]; rfl
  have C1 := Lib.hid (fun w => refIn_any t.price 0 10000 w)
  rw [hb1] at C1
  have C2 := Lib.hid (fun w => refIn_any t.back 0 t.price w)
  rw [hb2] at C2
  have C3 := Lib.hid (fun w => refIn_any t.late 0 t.price w)
  rw [hb3] at C3
  have C4 := Lib.hid (fun w => refIn_any t.carry 0 10000 w)
  rw [hb4] at C4
  have C5 := Lib.hid (fun w => refIn_any t.credit 0 10000 w)
  rw [hb5] at C5
  have F0 : ∃ W0, w.alloc (.cells #[.int .i64 t.price, .int .i64 t.back, .int .i64 t.late, .int .i64 t.carry, .int .i64 t.credit] 140) = W0 ∧ Hid (Below w.heap.size w W0) ∧ Hid (Blk W0 w.heap.size 140 #[.int .i64 t.price, .int .i64 t.back, .int .i64 t.late, .int .i64 t.carry, .int .i64 t.credit]) := ⟨_, rfl, below_alloc _ _, Blk.new _ _ _⟩
  obtain ⟨W0, e0, HB0, HK0⟩ := F0
  have E0 := Lib.hid e0
  have z0 := cellOf HK0.out 0 (x := .int .i64 t.price) rfl
  have z1 := cellOf HK0.out 1 (x := .int .i64 t.back) rfl
  have z2 := cellOf HK0.out 2 (x := .int .i64 t.late) rfl
  have z3 := cellOf HK0.out 3 (x := .int .i64 t.carry) rfl
  have z4 := cellOf HK0.out 4 (x := .int .i64 t.credit) rfl
  clear hb1 hb2 hb3 hb4 hb5 e0
  cases b1
  · go_enter Try.func111, Try.ntmps111
    go_upto_region 1 with fail
    rw [E0.out]
    go_wp2_with fail
    refine (C1.out _).mono ?_
    rintro _ _ ⟨rfl, rfl⟩
    go_wp2_with fail
    go_ret
    exact ⟨rb (HE.out.trans (by simp)), HB0.out⟩
  cases b2
  · go_enter Try.func111, Try.ntmps111
    go_upto_region 1 with fail
    rw [E0.out]
    go_wp2_with fail
    refine (C1.out _).mono ?_
    rintro _ _ ⟨rfl, rfl⟩
    go_wp2_with fail
    refine (C2.out _).mono ?_
    rintro _ _ ⟨rfl, rfl⟩
    go_wp2_with fail
    go_ret
    exact ⟨rb (HE.out.trans (by simp)), HB0.out⟩
  cases b3
  · go_enter Try.func111, Try.ntmps111
    go_upto_region 1 with fail
    rw [E0.out]
    go_wp2_with fail
    refine (C1.out _).mono ?_
    rintro _ _ ⟨rfl, rfl⟩
    go_wp2_with fail
    refine (C2.out _).mono ?_
    rintro _ _ ⟨rfl, rfl⟩
    go_wp2_with fail
    refine (C3.out _).mono ?_
    rintro _ _ ⟨rfl, rfl⟩
    go_wp2_with fail
    go_ret
    exact ⟨rb (HE.out.trans (by simp)), HB0.out⟩
  cases b4
  · go_enter Try.func111, Try.ntmps111
    go_upto_region 1 with fail
    rw [E0.out]
    go_wp2_with fail
    refine (C1.out _).mono ?_
    rintro _ _ ⟨rfl, rfl⟩
    go_wp2_with fail
    refine (C2.out _).mono ?_
    rintro _ _ ⟨rfl, rfl⟩
    go_wp2_with fail
    refine (C3.out _).mono ?_
    rintro _ _ ⟨rfl, rfl⟩
    go_wp2_with fail
    refine (C4.out _).mono ?_
    rintro _ _ ⟨rfl, rfl⟩
    go_wp2_with fail
    go_ret
    exact ⟨rb (HE.out.trans (by simp)), HB0.out⟩
  cases b5
  · go_enter Try.func111, Try.ntmps111
    go_upto_region 1 with fail
    rw [E0.out]
    go_wp2_with fail
    refine (C1.out _).mono ?_
    rintro _ _ ⟨rfl, rfl⟩
    go_wp2_with fail
    refine (C2.out _).mono ?_
    rintro _ _ ⟨rfl, rfl⟩
    go_wp2_with fail
    refine (C3.out _).mono ?_
    rintro _ _ ⟨rfl, rfl⟩
    go_wp2_with fail
    refine (C4.out _).mono ?_
    rintro _ _ ⟨rfl, rfl⟩
    go_wp2_with fail
    refine (C5.out _).mono ?_
    rintro _ _ ⟨rfl, rfl⟩
    go_wp2_with fail
    go_ret
    exact ⟨rb (HE.out.trans (by simp)), HB0.out⟩
  · go_enter Try.func111, Try.ntmps111
    go_upto_region 1 with fail
    rw [E0.out]
    go_wp2_with fail
    refine (C1.out _).mono ?_
    rintro _ _ ⟨rfl, rfl⟩
    go_wp2_with fail
    refine (C2.out _).mono ?_
    rintro _ _ ⟨rfl, rfl⟩
    go_wp2_with fail
    refine (C3.out _).mono ?_
    rintro _ _ ⟨rfl, rfl⟩
    go_wp2_with fail
    refine (C4.out _).mono ?_
    rintro _ _ ⟨rfl, rfl⟩
    go_wp2_with fail
    refine (C5.out _).mono ?_
    rintro _ _ ⟨rfl, rfl⟩
    go_wp2_with fail
    go_ret
    exact ⟨rb (HE.out.trans (by simp)), HB0.out⟩
end Go.Proofs.Ytlmpbmlbllndcaa
