/-
  awake.
-/
import Derived.Test.YtlmpbmlbllndcaaMbg
namespace Go.Proofs.Ytlmpbmlbllndcaa
open Go.RowKit
attribute [local go_sem] Oper.semAt_some

theorem best_ex (u : Value) (w : World) (h : RDays w.heap.size w u weekD) : Calls Try.prog 23 #[u, .int .i64 1, .int .i64 2] w fun e w' => e = .returned (.tuple #[.int .i64 8, .int .i64 5, .int .i64 0]) ∧ Below w.heap.size w w' := by
  have := Best_any 1 2 weekD u w h
  rw [ex_bestE, ex_bestV] at this
  exact this
theorem says_ex (u : Value) (w : World) (h : RDays w.heap.size w u weekD) : Calls Try.prog 27 #[.agg #[.int .i64 2, .int .i64 3], u, .int .i64 3] w fun e w' => e = .returned (.tuple #[.int .i64 9, .bool true, .int .i64 0]) ∧ Below w.heap.size w w' := by
  have := Says_any ⟨2, 3⟩ weekD 3 u w h
  rw [ex_saysE, ex_saysB, ex_saysV] at this
  exact this
theorem share_ex (u : Value) (w : World) (h : ROrds w.heap.size w u ordsD) : Calls Try.prog 30 #[u, .int .i64 8] w fun e w' => ∃ A c, e = .returned (.tuple #[.slice A 3 c, .int .i64 0]) ∧ OInts w.heap.size w' (.slice A 3 c) [5, 2, 1] ∧ Below w.heap.size w w' := by
  refine (Share_any ordsD 8 (by omega) u w h).mono ?_
  rintro e w' ⟨v, rfl, -, h2, h3⟩
  have h4 := h2 ex_ordE
  rw [ex_shares] at h4
  rw [ex_ordE]
  obtain ⟨A, c, rfl⟩ := ownsRow_form h4
  exact ⟨A, c, rfl, h4, h3⟩
theorem copies_ex (u : Value) (w : World) (h : RSub w.heap.size w u readerD) : Calls Try.prog 34 #[u, .int .i64 0, .int .i64 30] w fun e w' => e = .returned (.tuple #[.int .i64 16, .int .i64 0]) ∧ Below w.heap.size w w' := by
  have := Copies_any readerD 0 30 u w h
  rw [ex_copE, ex_copV] at this
  exact this
theorem settle_ex (u v : Value) (w : World) (h : RDays w.heap.size w u weekD) (hv : RInts w.heap.size w v [0, 0, 3]) : Calls Try.prog 37 #[.agg #[.int .i64 9, .int .i64 5, .int .i64 2, .int .i64 0, .int .i64 0], u, v] w fun e w' => ∃ Az nz cz, e = .returned (.tuple #[.agg #[.slice Az nz cz, .int .i64 262], .int .i64 0]) ∧ Below w.heap.size w w' := by
  refine (Settle_any tarD weekD [0, 0, 3] u v w h hv).mono ?_
  rintro e w' ⟨z, rfl, hO, hb⟩
  rw [ex_accS, ex_setE]
  obtain ⟨A, c, rfl⟩ := ownsRow_form hO.out
  exact ⟨A, _, c, rfl, hb.out⟩

set_option maxRecDepth 100000 in
set_option maxHeartbeats 4000000 in
theorem awake_any (w : World) : Calls Try.prog 15 #[] w fun e w' => e = .returned (.bool true) ∧ Below w.heap.size w w' := by
  go_enter Try.func15, Try.ntmps15
  go_wp2_with fail
  refine (week_any _).mono ?_
  rintro _ w1 ⟨A1, c1, rfl, h1, b1⟩
  have B1 := Lib.hid b1
  have C1 := Lib.hid (best_ex _ w1 h1)
  clear b1 h1
  go_wp2_with fail
  refine C1.out.mono ?_
  rintro _ w2 ⟨rfl, b2⟩
  have B2 : Hid (Below w.heap.size w w2) := B1.out.trans (b2.mono B1.out.size)
  clear b2 C1 B1
  go_wp2_with fail
  refine (week_any _).mono ?_
  rintro _ w3 ⟨A3, c3, rfl, h3, b3⟩
  have B3 : Hid (Below w.heap.size w w3) := B2.out.trans (b3.mono B2.out.size)
  have C3 := Lib.hid (says_ex _ w3 h3)
  clear b3 h3 B2
  go_wp2_with fail
  refine C3.out.mono ?_
  rintro _ w4 ⟨rfl, b4⟩
  have B4 : Hid (Below w.heap.size w w4) := B3.out.trans (b4.mono B3.out.size)
  clear b4 C3 B3
  have F5 : ∃ w5, w4.alloc (.cells #[.int .i64 1, .int .i64 10, .int .i64 1, .int .i64 2, .int .i64 4, .int .i64 1, .int .i64 3, .int .i64 2, .int .i64 1] 33) = w5 ∧ Below w4.heap.size w4 w5 ∧ Blk w5 w4.heap.size 33 #[.int .i64 1, .int .i64 10, .int .i64 1, .int .i64 2, .int .i64 4, .int .i64 1, .int .i64 3, .int .i64 2, .int .i64 1] := ⟨_, rfl, below_alloc _ _, Blk.new _ _ _⟩
  obtain ⟨w5, e5, b5, k5⟩ := F5
  have E5 := Lib.hid e5
  have B5 : Hid (Below w.heap.size w w5) := B4.out.trans (b5.mono B4.out.size)
  have C5 : Hid (∀ c, Calls Try.prog 30 #[.slice (some ⟨w4.heap.size, 0, none⟩) 3 c, .int .i64 8] w5 fun e w' => ∃ A c, e = .returned (.tuple #[.slice A 3 c, .int .i64 0]) ∧ OInts w5.heap.size w' (.slice A 3 c) [5, 2, 1] ∧ Below w5.heap.size w5 w') := fun c =>
    share_ex _ w5 (rd_blk (n := 3) (k := 3) (xs := ordsD.flatMap OrdD.cells) k5 rfl (by omega))
  clear e5 b5 k5 B4
  go_wp2_with fail
  rw [E5.out]
  refine (C5.out _).mono ?_
  rintro _ w6 ⟨A6, c6, rfl, t6, b6⟩
  have B6 : Hid (Below w.heap.size w w6) := B5.out.trans (b6.mono B5.out.size)
  have T6 : Hid (OInts w.heap.size w6 (.slice A6 3 c6) [5, 2, 1]) := ownsRow_base t6 B5.out.size
  clear b6 t6 C5 E5 B5
  go_wp2_with fail
  refine (reader_any _).mono ?_
  rintro _ w7 ⟨u7, rfl, h7, b7⟩
  have B7 : Hid (Below w.heap.size w w7) := B6.out.trans (b7.mono B6.out.size)
  have T7 : Hid (OInts w.heap.size w7 (.slice A6 3 c6) [5, 2, 1]) := ownsRow_below T6.out b7
  have C7 := Lib.hid (copies_ex u7 w7 h7)
  clear b7 h7 B6 T6
  go_wp2_with fail
  refine C7.out.mono ?_
  rintro _ w8 ⟨rfl, b8⟩
  have B8 : Hid (Below w.heap.size w w8) := B7.out.trans (b8.mono B7.out.size)
  have T8 : Hid (OInts w.heap.size w8 (.slice A6 3 c6) [5, 2, 1]) := ownsRow_below T7.out b8
  clear b8 C7 B7 T7
  go_wp2_with fail
  refine (week_any _).mono ?_
  rintro _ w9 ⟨A9, c9, rfl, h9, b9⟩
  have B9 : Hid (Below w.heap.size w w9) := B8.out.trans (b9.mono B8.out.size)
  have T9 : Hid (OInts w.heap.size w9 (.slice A6 3 c6) [5, 2, 1]) := ownsRow_below T8.out b9
  have F10 : ∃ w10, w9.alloc (.cells #[.int .i64 0, .int .i64 0, .int .i64 3] 3) = w10 ∧ Below w9.heap.size w9 w10 ∧ Blk w10 w9.heap.size 3 #[.int .i64 0, .int .i64 0, .int .i64 3] := ⟨_, rfl, below_alloc _ _, Blk.new _ _ _⟩
  obtain ⟨w10, e10, b10, k10⟩ := F10
  have E10 := Lib.hid e10
  have B10 : Hid (Below w.heap.size w w10) := B9.out.trans (b10.mono B9.out.size)
  have T10 : Hid (OInts w.heap.size w10 (.slice A6 3 c6) [5, 2, 1]) := ownsRow_below T9.out b10
  have C10 : Hid (∀ c, Calls Try.prog 37 #[.agg #[.int .i64 9, .int .i64 5, .int .i64 2, .int .i64 0, .int .i64 0], .slice A9 3 c9, .slice (some ⟨w9.heap.size, 0, none⟩) 3 c] w10 fun e w' => ∃ Az nz cz, e = .returned (.tuple #[.agg #[.slice Az nz cz, .int .i64 262], .int .i64 0]) ∧ Below w10.heap.size w10 w') := fun c =>
    settle_ex _ _ w10 (Rd.more (Rd.below h9 b10) b10.size) (rd_blk (n := 3) (k := 1) (xs := [.int .i64 0, .int .i64 0, .int .i64 3]) k10 rfl (by omega))
  clear b9 h9 B8 T8 B9 T9 e10 b10 k10
  go_wp2_with fail
  rw [E10.out]
  refine (C10.out _).mono ?_
  rintro _ w11 ⟨Az, nz, cz, rfl, b11⟩
  have B11 : Hid (Below w.heap.size w w11) := B10.out.trans (b11.mono B10.out.size)
  have T11 : Hid (OInts w.heap.size w11 (.slice A6 3 c6) [5, 2, 1]) := ownsRow_below T10.out b11
  have F12 : ∃ w12, w11.alloc (.cells #[.slice Az nz cz, .int .i64 262] 80) = w12 ∧ Below w11.heap.size w11 w12 ∧ Blk w12 w11.heap.size 80 #[.slice Az nz cz, .int .i64 262] := ⟨_, rfl, below_alloc _ _, Blk.new _ _ _⟩
  obtain ⟨w12, e12, b12, k12⟩ := F12
  have E12 := Lib.hid e12
  have B12 : Hid (Below w.heap.size w w12) := B11.out.trans (b12.mono B11.out.size)
  have T12 : Hid (OInts w.heap.size w12 (.slice A6 3 c6) [5, 2, 1]) := ownsRow_below T11.out b12
  have K12 := Lib.hid k12
  have F13 : ∃ w13, w12.alloc (.cells #[.int .i64 5, .int .i64 2, .int .i64 1] 3) = w13 ∧ Below w12.heap.size w12 w13 ∧ Blk w13 w12.heap.size 3 #[.int .i64 5, .int .i64 2, .int .i64 1] := ⟨_, rfl, below_alloc _ _, Blk.new _ _ _⟩
  obtain ⟨w13, e13, b13, k13⟩ := F13
  have E13 := Lib.hid e13
  have B13 : Hid (Below w.heap.size w w13) := B12.out.trans (b13.mono B12.out.size)
  have K13 : Hid (Blk w13 w11.heap.size 80 #[.slice Az nz cz, .int .i64 262]) := K12.out.below b13 K12.out.lt
  have C13 : Hid (∀ c, Calls Try.prog 48 #[.slice A6 3 c6, .slice (some ⟨w12.heap.size, 0, none⟩) 3 c] w13 fun e w' => e = .returned (.bool true) ∧ Below w13.heap.size w13 w') := fun c =>
    eqInts_any _ _ [5, 2, 1] [5, 2, 1] w13 (Rd.own (ownsRow_below T12.out b13) (own_le T12.out)) (rd_blk (n := 3) (k := 1) (xs := [.int .i64 5, .int .i64 2, .int .i64 1]) k13 rfl (by omega))
  clear C10 E10 b11 B10 T10 T11 B11 e12 b12 k12 e13 b13 k13 T12 B12
  go_upto_region 6 with fail
  rw [E12.out]
  go_wp2_with fail
  rw [E13.out]
  refine (C13.out _).mono ?_
  rintro _ w14 ⟨rfl, b14⟩
  have B14 : Hid (Below w.heap.size w w14) := B13.out.trans (b14.mono B13.out.size)
  have c1 := cellOf (K13.out.below b14 K13.out.lt) 1 (x := .int .i64 262) rfl
  clear b14 C13 B13 E13 E12
  go_wp2
  go_ret
  exact ⟨rfl, B14.out⟩
end Go.Proofs.Ytlmpbmlbllndcaa
