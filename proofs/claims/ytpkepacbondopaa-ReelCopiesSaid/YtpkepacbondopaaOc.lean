/-
  awake: the examples of the chapter.
-/
import Derived.Test.YtpkepacbondopaaOa
import Derived.Test.YtpkepacbondopaaOb
namespace Go.Proofs.Ytpkepacbondopaa
open Go.RowKit
attribute [local go_sem] Oper.semAt_some

theorem thrown_ex (u : Value) (w : World) (h : RPress w.heap.size w u exD) : Calls Try.prog 20 #[u, .int .i64 39] w fun e w' => ∃ A c, e = .returned (.tuple #[.slice A 1 c, .int .i64 0]) ∧ OSpans w.heap.size w' (.slice A 1 c) [⟨18, 20⟩] ∧ Below w.heap.size w w' := by
  refine (Thrown_any exD 39 u w h).mono ?_
  rintro e w' ⟨v, l, rfl, h1, -, -, h2, h3⟩
  obtain rfl := ex_thrown (h1 ex_copies)
  obtain ⟨A, c, rfl⟩ := ownsRow_form h2
  rw [ex_copies]
  exact ⟨A, c, rfl, h2, h3⟩
theorem run_ex (u : Value) (w : World) (h : RPress w.heap.size w u exD) : Calls Try.prog 23 #[u, .int .i64 19] w fun e w' => e = .returned (.tuple #[.int .i64 22, .int .i64 0]) ∧ Below w.heap.size w w' := by
  refine (Run_any exD 19 u w h).mono ?_
  rintro e w' ⟨n, c, rfl, h1, h2 | h2 | ⟨-, -, l, h3, h4⟩⟩
  · exact absurd ex_check h2.1
  · exact absurd ⟨by omega, by omega⟩ h2.2.1
  · rw [ex_reach] at h3 h4
    obtain rfl := ex_thrown h3
    rw [ex_run] at h4
    rcases h4 with ⟨h5, -⟩ | ⟨-, rfl, rfl⟩
    · omega
    · exact ⟨rfl, h1⟩
theorem sched_ex (u : Value) (w : World) (h : RSup w.heap.size w u supD) : Calls Try.prog 33 #[u] w fun e w' => ∃ A c, e = .returned (.tuple #[.slice A 2 c, .int .i64 22, .int .i64 0]) ∧ OInts w.heap.size w' (.slice A 2 c) [0, 2] ∧ Below w.heap.size w w' := by
  refine (Schedule_any supD u w h).mono ?_
  rintro e w' ⟨v, rfl, h2, h3⟩
  rw [sup_check, if_pos rfl, sup_weeks] at h2
  rw [sup_check, if_pos rfl, sup_cheap]
  obtain ⟨A, c, rfl⟩ := ownsRow_form h2
  exact ⟨A, c, rfl, h2, h3⟩
theorem prices_ex (u : Value) (w : World) (h : RSup w.heap.size w u supD) : Calls Try.prog 34 #[u] w fun e w' => ∃ A c, e = .returned (.tuple #[.slice A 4 c, .int .i64 0]) ∧ OInts w.heap.size w' (.slice A 4 c) [0, 10, 12, 22] ∧ Below w.heap.size w w' := by
  refine (Prices_any supD u w h).mono ?_
  rintro e w' ⟨v, rfl, h2, h3⟩
  rw [sup_check, if_pos rfl, show supD.need.length = 3 from rfl, sup_prices] at h2
  rw [sup_check]
  obtain ⟨A, c, rfl⟩ := ownsRow_form h2
  exact ⟨A, c, rfl, h2, h3⟩

set_option maxRecDepth 100000 in
set_option maxHeartbeats 4000000 in
theorem awake_any (w : World) : Calls Try.prog 15 #[] w fun e w' => e = .returned (.bool true) ∧ Below w.heap.size w w' := by
  go_enter Try.func15, Try.ntmps15
  go_wp2_with fail
  refine (example_any _).mono ?_
  rintro _ w1 ⟨u1, rfl, h1, b1⟩
  have B1 := Lib.hid b1
  have C1 := Lib.hid (thrown_ex u1 w1 h1)
  clear b1 h1
  go_wp2_with fail
  refine C1.out.mono ?_
  rintro _ w2 ⟨A1, c1, rfl, s2, b2⟩
  have S2 := Lib.hid s2
  have B2 : Hid (Below w.heap.size w w2) := B1.out.trans (b2.mono B1.out.size)
  have S2 : Hid (OSpans w.heap.size w2 (.slice A1 1 c1) [⟨18, 20⟩]) := ownsRow_base S2.out B1.out.size
  clear s2 b2 C1
  go_wp2_with fail
  refine (example_any _).mono ?_
  rintro _ w3 ⟨u3, rfl, h3, b3⟩
  have B3 : Hid (Below w.heap.size w w3) := B2.out.trans (b3.mono B2.out.size)
  have S3 : Hid (OSpans w.heap.size w3 (.slice A1 1 c1) [⟨18, 20⟩]) := ownsRow_below S2.out b3
  have C3 := Lib.hid (run_ex u3 w3 h3)
  clear b3 h3 S2 B2 B1
  go_wp2_with fail
  refine C3.out.mono ?_
  rintro _ w4 ⟨rfl, b4⟩
  have B4 : Hid (Below w.heap.size w w4) := B3.out.trans (b4.mono B3.out.size)
  have S4 : Hid (OSpans w.heap.size w4 (.slice A1 1 c1) [⟨18, 20⟩]) := ownsRow_below S3.out b4
  clear b4 C3 S3 B3
  go_wp2_with fail
  refine (supply_any _).mono ?_
  rintro _ w5 ⟨u5, rfl, h5, b5⟩
  have B5 : Hid (Below w.heap.size w w5) := B4.out.trans (b5.mono B4.out.size)
  have S5 : Hid (OSpans w.heap.size w5 (.slice A1 1 c1) [⟨18, 20⟩]) := ownsRow_below S4.out b5
  have C5 := Lib.hid (sched_ex u5 w5 h5)
  clear b5 h5 S4 B4
  go_wp2_with fail
  refine C5.out.mono ?_
  rintro _ w6 ⟨A2, c2, rfl, t6, b6⟩
  have B6 : Hid (Below w.heap.size w w6) := B5.out.trans (b6.mono B5.out.size)
  have S6 : Hid (OSpans w.heap.size w6 (.slice A1 1 c1) [⟨18, 20⟩]) := ownsRow_below S5.out b6
  have T6 : Hid (OInts w.heap.size w6 (.slice A2 2 c2) [0, 2]) := ownsRow_base t6 B5.out.size
  clear b6 t6 C5 S5 B5
  go_wp2_with fail
  refine (supply_any _).mono ?_
  rintro _ w7 ⟨u7, rfl, h7, b7⟩
  have B7 : Hid (Below w.heap.size w w7) := B6.out.trans (b7.mono B6.out.size)
  have S7 : Hid (OSpans w.heap.size w7 (.slice A1 1 c1) [⟨18, 20⟩]) := ownsRow_below S6.out b7
  have T7 : Hid (OInts w.heap.size w7 (.slice A2 2 c2) [0, 2]) := ownsRow_below T6.out b7
  have C7 := Lib.hid (prices_ex u7 w7 h7)
  clear b7 h7 S6 T6 B6
  go_wp2_with fail
  refine C7.out.mono ?_
  rintro _ w8 ⟨A3, c3, rfl, r8, b8⟩
  have B8 : Hid (Below w.heap.size w w8) := B7.out.trans (b8.mono B7.out.size)
  have S8 : Hid (OSpans w.heap.size w8 (.slice A1 1 c1) [⟨18, 20⟩]) := ownsRow_below S7.out b8
  have T8 : Hid (OInts w.heap.size w8 (.slice A2 2 c2) [0, 2]) := ownsRow_below T7.out b8
  have R8 : Hid (OInts w.heap.size w8 (.slice A3 4 c3) [0, 10, 12, 22]) := ownsRow_base r8 B7.out.size
  have F9 : ∃ w9, w8.alloc (.cells #[.int .i64 18, .int .i64 20] 45) = w9 ∧ Below w8.heap.size w8 w9 ∧ Blk w9 w8.heap.size 45 #[.int .i64 18, .int .i64 20] := ⟨_, rfl, below_alloc _ _, Blk.new _ _ _⟩
  obtain ⟨w9, e9, b9, k9⟩ := F9
  have E9 := Lib.hid e9
  have B9 : Hid (Below w.heap.size w w9) := B8.out.trans (b9.mono B8.out.size)
  have T9 : Hid (OInts w.heap.size w9 (.slice A2 2 c2) [0, 2]) := ownsRow_below T8.out b9
  have R9 : Hid (OInts w.heap.size w9 (.slice A3 4 c3) [0, 10, 12, 22]) := ownsRow_below R8.out b9
  have C9 : Hid (Calls Try.prog 49 #[.slice A1 1 c1, .slice (some ⟨w8.heap.size, 0, none⟩) 1 1] w9 fun e w' => e = .returned (.bool true) ∧ Below w9.heap.size w9 w') :=
    eqSpans_any _ _ [⟨18, 20⟩] [⟨18, 20⟩] w9 (OSpans.reads (ownsRow_below S8.out b9)) (rd_blk (n := 1) (k := 2) (xs := [.int .i64 18, .int .i64 20]) k9 rfl (by omega))
  clear b8 r8 C7 S7 T7 B7 e9 b9 k9 S8 T8 R8
  go_wp2_with fail
  rw [E9.out]
  refine C9.out.mono ?_
  rintro _ w10 ⟨rfl, b10⟩
  have B10 : Hid (Below w.heap.size w w10) := B9.out.trans (b10.mono B9.out.size)
  have T10 : Hid (OInts w.heap.size w10 (.slice A2 2 c2) [0, 2]) := ownsRow_below T9.out b10
  have R10 : Hid (OInts w.heap.size w10 (.slice A3 4 c3) [0, 10, 12, 22]) := ownsRow_below R9.out b10
  have F11 : ∃ w11, w10.alloc (.cells #[.int .i64 0, .int .i64 2] 3) = w11 ∧ Below w10.heap.size w10 w11 ∧ Blk w11 w10.heap.size 3 #[.int .i64 0, .int .i64 2] := ⟨_, rfl, below_alloc _ _, Blk.new _ _ _⟩
  obtain ⟨w11, e11, b11, k11⟩ := F11
  have E11 := Lib.hid e11
  have B11 : Hid (Below w.heap.size w w11) := B10.out.trans (b11.mono B10.out.size)
  have R11 : Hid (OInts w.heap.size w11 (.slice A3 4 c3) [0, 10, 12, 22]) := ownsRow_below R10.out b11
  have C11 : Hid (Calls Try.prog 32 #[.slice A2 2 c2, .slice (some ⟨w10.heap.size, 0, none⟩) 2 2] w11 fun e w' => e = .returned (.bool true) ∧ Below w11.heap.size w11 w') :=
    eqInts_any _ _ [0, 2] [0, 2] w11 (Rd.own (ownsRow_below T10.out b11) (own_le T10.out)) (rd_blk (n := 2) (k := 1) (xs := [.int .i64 0, .int .i64 2]) k11 rfl (by omega))
  clear b10 C9 T9 R9 B9 E9 e11 b11 k11 R10 T10
  go_wp2_with fail
  rw [E11.out]
  refine C11.out.mono ?_
  rintro _ w12 ⟨rfl, b12⟩
  have B12 : Hid (Below w.heap.size w w12) := B11.out.trans (b12.mono B11.out.size)
  have R12 : Hid (OInts w.heap.size w12 (.slice A3 4 c3) [0, 10, 12, 22]) := ownsRow_below R11.out b12
  have F13 : ∃ w13, w12.alloc (.cells #[.int .i64 0, .int .i64 10, .int .i64 12, .int .i64 22] 3) = w13 ∧ Below w12.heap.size w12 w13 ∧ Blk w13 w12.heap.size 3 #[.int .i64 0, .int .i64 10, .int .i64 12, .int .i64 22] := ⟨_, rfl, below_alloc _ _, Blk.new _ _ _⟩
  obtain ⟨w13, e13, b13, k13⟩ := F13
  have E13 := Lib.hid e13
  have B13 : Hid (Below w.heap.size w w13) := B12.out.trans (b13.mono B12.out.size)
  have C13 : Hid (Calls Try.prog 32 #[.slice A3 4 c3, .slice (some ⟨w12.heap.size, 0, none⟩) 4 4] w13 fun e w' => e = .returned (.bool true) ∧ Below w13.heap.size w13 w') :=
    eqInts_any _ _ [0, 10, 12, 22] [0, 10, 12, 22] w13 (Rd.own (ownsRow_below R12.out b13) (own_le R12.out)) (rd_blk (n := 4) (k := 1) (xs := [.int .i64 0, .int .i64 10, .int .i64 12, .int .i64 22]) k13 rfl (by omega))
  clear b12 C11 R11 B11 E11 e13 b13 k13 R12
  go_wp2_with fail
  rw [E13.out]
  refine C13.out.mono ?_
  rintro _ w14 ⟨rfl, b14⟩
  have B14 : Hid (Below w.heap.size w w14) := B13.out.trans (b14.mono B13.out.size)
  clear b14 C13 B13 E13
  go_wp2
  go_ret
  exact ⟨rfl, B14.out⟩
end Go.Proofs.Ytpkepacbondopaa
