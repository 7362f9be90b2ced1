/-
  AgentDemand.
-/
import Derived.Test.YtlmpbmlbllndcaaNd
import Derived.Test.YtlmpbmlbllndcaaGb
namespace Go.Proofs.Ytlmpbmlbllndcaa
open Go.RowKit
attribute [local go_sem] Oper.semAt_some

set_option maxRecDepth 1000000 in
set_option maxHeartbeats 4000000 in
theorem agentDemand_any (l : List DayD) (hl : l.length ≤ 2000000) (d : DayD) (q a b : Int) (v vd : Value) (w : World) (hvd : vd = .agg #[.int .i64 d.sup, .int .i64 d.ret]) (h : RDays w.heap.size w v l) :
    Calls Try.prog 3 #[v, vd, .int .i64 q, .int .i64 a, .int .i64 b] w fun e w' => e = .returned (.bool true) ∧ Below w.heap.size w w' := by
  subst hvd
  have HR := Lib.hid h
  obtain ⟨A, c, rfl, hlm, -⟩ := days_later h
  obtain ⟨n, hn⟩ : ∃ n, l.length = n := ⟨_, rfl⟩
  have HN := Lib.hid hn
  rw [hn] at HR hlm ⊢
  have F0 : ∃ W0, w.alloc (.cells #[.int .i64 d.sup, .int .i64 d.ret] 24) = W0 ∧ Hid (Below w.heap.size w W0) ∧ Hid (Blk W0 w.heap.size 24 #[.int .i64 d.sup, .int .i64 d.ret]) := ⟨_, rfl, below_alloc _ _, Blk.new _ _ _⟩
  obtain ⟨W0, e0, HB0, HK0⟩ := F0
  have E0 := Lib.hid e0
  have C1 := Lib.hid (dear_any l hl (.slice A n c) W0 ((Rd.below HR.out HB0.out).more HB0.out.size))
  have C2 : Hid (∀ Y, Below W0.heap.size W0 Y → Calls Try.prog 14 #[.slice A n c, .agg #[.int .i64 d.sup, .int .i64 d.ret], .int .i64 q, .int .i64 a, .int .i64 b] Y fun e w' => e = .returned (.bool true) ∧ Below Y.heap.size Y w') := fun Y hY =>
    demand_any l hl d q a b _ Y ((Rd.below HR.out (HB0.out.trans (hY.mono HB0.out.size))).more (Nat.le_trans HB0.out.size hY.size))
  obtain ⟨p, hp⟩ : ∃ p, w.heap.size = p := ⟨_, rfl⟩
  have HP := Lib.hid hp
  have HSY : Hid (∀ Y, Below W0.heap.size W0 Y → Y.cell? ⟨p, 0, none⟩ = some (.int .i64 d.sup) ∧ Y.cell? ⟨p, 1, none⟩ = some (.int .i64 d.ret)) := fun Y hY => by
    rw [← HP.out]
    have h1 := HK0.out.below hY HK0.out.lt
    exact ⟨cellOf h1 0 rfl, cellOf h1 1 rfl⟩
  clear h hn hl e0 hp HK0
  go_enter Try.func3, Try.ntmps3
  go_upto_region 1 with fail
  rw [E0.out, HP.out]
  clear E0
  go_wp2_with fail
  refine C1.out.mono ?_
  rintro _ w7 ⟨b7, rfl, hb7⟩
  have HB7 := Lib.hid hb7
  clear hb7 C1
  obtain ⟨s0, s1⟩ := HSY.out w7 HB7.out
  have HBW7 : Hid (Below w.heap.size w w7) := HB0.out.trans (HB7.out.mono HB0.out.size)
  cases b7 with
  | true =>
    go_wp2_with fail
    refine (awake_any _).mono ?_
    rintro _ w9 ⟨rfl, b9⟩
    have HB9 : Hid (Below w.heap.size w w9) := HBW7.out.trans (b9.mono HBW7.out.size)
    clear b9
    go_wp2
    go_ret
    exact ⟨rfl, HB9.out⟩
  | false =>
    go_wp2_with fail
    refine (C2.out w7 HB7.out).mono ?_
    rintro _ w8 ⟨rfl, hb8⟩
    have HB8 : Hid (Below w.heap.size w w8) := HBW7.out.trans (hb8.mono HBW7.out.size)
    clear hb8
    go_wp2_with fail
    refine (awake_any _).mono ?_
    rintro _ w9 ⟨rfl, b9⟩
    have HB9 : Hid (Below w.heap.size w w9) := HB8.out.trans (b9.mono HB8.out.size)
    clear b9
    go_wp2
    go_ret
    exact ⟨rfl, HB9.out⟩
end Go.Proofs.Ytlmpbmlbllndcaa
