/-
  AgentSettles.
-/
import Derived.Test.YtlmpbmlbllndcaaMi
import Derived.Test.YtlmpbmlbllndcaaGb
namespace Go.Proofs.Ytlmpbmlbllndcaa
open Go.RowKit
attribute [local go_sem] Oper.semAt_some

set_option maxRecDepth 1000000 in
set_option maxHeartbeats 4000000 in
theorem agentSettles_any (t : TarD) (l : List DayD) (m : List Int) (v vm : Value) (w : World) (h : RDays w.heap.size w v l) (hm : RInts w.heap.size w vm m) :
    Calls Try.prog 7 #[.agg #[.int .i64 t.price, .int .i64 t.back, .int .i64 t.late, .int .i64 t.carry, .int .i64 t.credit], v, vm] w fun e w' => e = .returned (.bool true) ∧ Below w.heap.size w w' := by
  have HR := Lib.hid h
  have HM := Lib.hid hm
  obtain ⟨A, c, rfl, hlm, -⟩ := days_later h
  obtain ⟨A2, c2, rfl, hmm, -⟩ := ints_later hm
  obtain ⟨n, hn⟩ : ∃ n, l.length = n := ⟨_, rfl⟩
  obtain ⟨n2, hn2⟩ : ∃ n, m.length = n := ⟨_, rfl⟩
  have HN := Lib.hid hn
  have HN2 := Lib.hid hn2
  rw [hn] at HR hlm ⊢
  rw [hn2] at HM hmm ⊢
  have F0 : ∃ W0, w.alloc (.cells #[.int .i64 t.price, .int .i64 t.back, .int .i64 t.late, .int .i64 t.carry, .int .i64 t.credit] 37) = W0 ∧ Hid (Below w.heap.size w W0) ∧ Hid (Blk W0 w.heap.size 37 #[.int .i64 t.price, .int .i64 t.back, .int .i64 t.late, .int .i64 t.carry, .int .i64 t.credit]) :=
    ⟨_, rfl, below_alloc _ _, Blk.new _ _ _⟩
  obtain ⟨W0, e0, HB0, HK0⟩ := F0
  have E0 := Lib.hid e0
  have z0 := cellOf HK0.out 0 (x := .int .i64 t.price) rfl
  have z1 := cellOf HK0.out 1 (x := .int .i64 t.back) rfl
  have z2 := cellOf HK0.out 2 (x := .int .i64 t.late) rfl
  have z3 := cellOf HK0.out 3 (x := .int .i64 t.carry) rfl
  have z4 := cellOf HK0.out 4 (x := .int .i64 t.credit) rfl
  have CS : Hid (n ≤ 1000000 → n2 ≤ 1000000 → Calls Try.prog 21 #[.agg #[.int .i64 t.price, .int .i64 t.back, .int .i64 t.late, .int .i64 t.carry, .int .i64 t.credit], .slice A n c, .slice A2 n2 c2] W0 fun e w' => e = .returned (.bool true) ∧ Below W0.heap.size W0 w') := fun h1 h2 =>
    settles_any t l m (by rw [HN.out]; exact h1) (by rw [HN2.out]; exact h2) _ _ W0 ((Rd.below HR.out HB0.out).more HB0.out.size) ((Rd.below HM.out HB0.out).more HB0.out.size)
  clear h hm hn hn2 e0 HK0
  go_enter Try.func7, Try.ntmps7
  go_upto_region 1 with fail
  rw [E0.out]
  clear E0
  by_cases hb : 500 < n
  · have hb1 : decide ((500 : Int) < (n : Int)) = true := by simp; omega
    go_wp2_with fail
    refine (awake_any _).mono ?_
    rintro _ w9 ⟨rfl, b9⟩
    have HB9 : Hid (Below w.heap.size w w9) := HB0.out.trans (b9.mono HB0.out.size)
    clear b9
    go_wp2
    go_ret
    exact ⟨rfl, HB9.out⟩
  have hb1 : decide ((500 : Int) < (n : Int)) = false := by simp; omega
  by_cases hb2 : 600 < n2
  · have hb3 : decide ((600 : Int) < (n2 : Int)) = true := by simp; omega
    go_wp2_with fail
    refine (awake_any _).mono ?_
    rintro _ w9 ⟨rfl, b9⟩
    have HB9 : Hid (Below w.heap.size w w9) := HB0.out.trans (b9.mono HB0.out.size)
    clear b9
    go_wp2
    go_ret
    exact ⟨rfl, HB9.out⟩
  have hb3 : decide ((600 : Int) < (n2 : Int)) = false := by simp; omega
  have C1 := Lib.hid (CS.out (by omega) (by omega))
  go_wp2_with (go_at_call 21; refine C1.out.mono ?_; rintro _ w8 ⟨rfl, b8⟩; have HB8 : Hid (Below w.heap.size w w8) := HB0.out.trans (b8.mono HB0.out.size); clear b8 C1 CS)
  refine (awake_any _).mono ?_
  rintro _ w9 ⟨rfl, b9⟩
  have HB9 : Hid (Below w.heap.size w w9) := HB8.out.trans (b9.mono HB8.out.size)
  clear b9
  go_wp2
  go_ret
  exact ⟨rfl, HB9.out⟩
end Go.Proofs.Ytlmpbmlbllndcaa
