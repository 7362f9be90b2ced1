/-
  awake: the walk.
-/
import Derived.Test.YtffodgpafiifcaaCi
import Derived.Test.YtffodgpafiifcaaEb
namespace Go.Proofs.Ytffodgpafiifcaa
open Go.RowKit

theorem OMoms.later {b : Nat} {w w' : World} {v : Value} {l : List (Int × Int)} (h : OMoms b w v l) (hb : Below w.heap.size w w') : OMoms b w' v l := ownsRow_below h hb

set_option maxRecDepth 100000 in
set_option maxHeartbeats 4000000 in
theorem awake_any (w : World) : Calls Try.prog 11 #[] w fun e w' => e = .returned (.bool true) ∧ Below w.heap.size w w' := by
  obtain ⟨w1, e1, B1, V1⟩ : ∃ w1, w.alloc (.cells #[.int .i64 2, .int .i64 3, .int .i64 1, .int .i64 10] 26) = w1 ∧ Below w.heap.size w w1 ∧ Blk w1 w.heap.size 26 #[.int .i64 2, .int .i64 3, .int .i64 1, .int .i64 10] := ⟨_, rfl, below_alloc _ _, Blk.new _ _ _⟩
  have E1 := Lib.hid e1
  have v0 := cellOf V1 0 (x := .int .i64 2) rfl
  have v1 := cellOf V1 1 (x := .int .i64 3) rfl
  have v2 := cellOf V1 2 (x := .int .i64 1) rfl
  have v3 := cellOf V1 3 (x := .int .i64 10) rfl
  have C1 := Bound_any l1D w1
  rw [bound_ex] at C1
  have C1 : Hid (Calls Try.prog 12 #[.agg #[.int .i64 2, .int .i64 3, .int .i64 1, .int .i64 10]] w1 fun e w' => e = .returned (.tuple #[.int .i64 10, .int .i64 0]) ∧ Below w1.heap.size w1 w') := C1
  clear e1
  go_enter Try.func11, Try.ntmps11
  go_upto_region 2 with fail
  rw [E1.out]
  go_wp2_with fail
  refine C1.out.mono ?_
  rintro e w2 ⟨rfl, hb2⟩
  have V2 := V1.below hb2 V1.lt
  have B2 := B1.trans (hb2.mono B1.size)
  clear C1 v0 v1 v2 v3 V1 B1 hb2 E1
  have v0 := cellOf V2 0 (x := .int .i64 2) rfl
  have v1 := cellOf V2 1 (x := .int .i64 3) rfl
  have v2 := cellOf V2 2 (x := .int .i64 1) rfl
  have v3 := cellOf V2 3 (x := .int .i64 10) rfl
  have C2 := Settle_any l1D 25 w2 (by omega)
  rw [settle_ex] at C2
  have C2 : Hid (Calls Try.prog 16 #[.agg #[.int .i64 2, .int .i64 3, .int .i64 1, .int .i64 10], .int .i64 25] w2 fun e w' => e = .returned (.tuple #[.int .i64 6, .int .i64 0]) ∧ Below w2.heap.size w2 w') := C2
  go_wp2_with fail
  refine C2.out.mono ?_
  rintro e w3 ⟨rfl, hb3⟩
  have V3 := V2.below hb3 V2.lt
  have B3 := B2.trans (hb3.mono B2.size)
  clear C2 v0 v1 v2 v3 V2 B2 hb3
  have F4 : ∃ w4, (w3.alloc (.cells #[.int .i64 3, .int .i64 3, .int .i64 3, .int .i64 3] 3)).alloc (.cells #[.int .i64 (-1), .int .i64 0, .int .i64 0, .int .i64 0] 3) = w4 ∧ Below w3.heap.size w3 w4 ∧ Blk w4 w3.heap.size 3 #[.int .i64 3, .int .i64 3, .int .i64 3, .int .i64 3] ∧ Blk w4 (w3.heap.size + 1) 3 #[.int .i64 (-1), .int .i64 0, .int .i64 0, .int .i64 0] :=
    ⟨_, rfl, (below_alloc _ _).trans ((below_alloc _ _).mono (by simp)), (Blk.new _ _ _).alloc _, blk_new (by simp) _ _⟩
  obtain ⟨w4, e4, hb4, N4, M4⟩ := F4
  have E4 := Lib.hid e4
  have V4 := V3.below hb4 V3.lt
  have B4 := B3.trans (hb4.mono B3.size)
  have v0 := cellOf V3 0 (x := .int .i64 2) rfl
  have v1 := cellOf V3 1 (x := .int .i64 3) rfl
  have v2 := cellOf V3 2 (x := .int .i64 1) rfl
  have v3 := cellOf V3 3 (x := .int .i64 10) rfl
  have C4 : Hid (Calls Try.prog 19 #[.agg #[.int .i64 2, .int .i64 3, .int .i64 1, .int .i64 10], .int .i64 0, .slice (some ⟨w3.heap.size, 0, none⟩) 4 4, .slice (some ⟨w3.heap.size + 1, 0, none⟩) 4 4] w4 fun e w' => ∃ u, e = .returned (.tuple #[u, .int .i64 0]) ∧ OMoms w4.heap.size w' u (p1D.moms 4) ∧ Below w4.heap.size w4 w') :=
    Play_ok p1D p1_ok _ _ w4 (rints_blk N4 rfl (by omega)) (rints_blk M4 rfl (by omega))
  clear e4 hb4 N4 M4 V3 B3
  go_wp2_with fail
  rw [E4.out]
  refine C4.out.mono ?_
  rintro e w5 ⟨u5, rfl, hu5, hb5⟩
  have V5 := V4.below hb5 V4.lt
  have B5 := B4.trans (hb5.mono B4.size)
  clear C4 v0 v1 v2 v3 V4 B4 hb5 E4
  have F6 : ∃ w6, (w5.alloc (.cells #[.int .i64 5, .int .i64 (-5), .int .i64 0] 3)).alloc (.cells #[.int .i64 0, .int .i64 0, .int .i64 0] 3) = w6 ∧ Below w5.heap.size w5 w6 ∧ Blk w6 w5.heap.size 3 #[.int .i64 5, .int .i64 (-5), .int .i64 0] ∧ Blk w6 (w5.heap.size + 1) 3 #[.int .i64 0, .int .i64 0, .int .i64 0] :=
    ⟨_, rfl, (below_alloc _ _).trans ((below_alloc _ _).mono (by simp)), (Blk.new _ _ _).alloc _, blk_new (by simp) _ _⟩
  obtain ⟨w6, e6, hb6, N6, M6⟩ := F6
  have E6 := Lib.hid e6
  have B6 := B5.trans (hb6.mono B5.size)
  have hu6 := hu5.later hb6
  have C6 : Hid (Calls Try.prog 19 #[.agg #[.int .i64 0, .int .i64 5, .int .i64 0, .int .i64 5], .int .i64 4, .slice (some ⟨w5.heap.size, 0, none⟩) 3 3, .slice (some ⟨w5.heap.size + 1, 0, none⟩) 3 3] w6 fun e w' => ∃ u, e = .returned (.tuple #[u, .int .i64 0]) ∧ OMoms w6.heap.size w' u (p2D.moms 3) ∧ Below w6.heap.size w6 w') :=
    Play_ok p2D p2_ok _ _ w6 (rints_blk N6 rfl (by omega)) (rints_blk M6 rfl (by omega))
  clear e6 hb6 N6 M6 V5 B5 hu5
  go_wp2_with fail
  rw [E6.out]
  refine C6.out.mono ?_
  rintro e w7 ⟨u7, rfl, hu7, hb7⟩
  have B7 := B6.trans (hb7.mono B6.size)
  have ha7 := hu6.later hb7
  clear C6 B6 hb7 E6 hu6
  have F8 : ∃ w8, (w7.alloc (.cells #[.int .i64 0, .int .i64 100, .int .i64 300] 3)).alloc (.cells #[.int .i64 49, .int .i64 151, .int .i64 200, .int .i64 351] 3) = w8 ∧ Below w7.heap.size w7 w8 ∧ Blk w8 w7.heap.size 3 #[.int .i64 0, .int .i64 100, .int .i64 300] ∧ Blk w8 (w7.heap.size + 1) 3 #[.int .i64 49, .int .i64 151, .int .i64 200, .int .i64 351] :=
    ⟨_, rfl, (below_alloc _ _).trans ((below_alloc _ _).mono (by simp)), (Blk.new _ _ _).alloc _, blk_new (by simp) _ _⟩
  obtain ⟨w8, e8, hb8, N8, M8⟩ := F8
  have E8 := Lib.hid e8
  have B8 := B7.trans (hb8.mono B7.size)
  have ha8 := ha7.later hb8
  have hc8 := hu7.later hb8
  have C8 := Match_ok _ _ [0, 100, 300] 2 [49, 151, 200, 351] w8 (rints_blk (k := 3) N8 rfl (by omega)) (rints_blk (k := 4) M8 rfl (by omega)) pat_ok cam_ok
  rw [fit_ex] at C8
  unfold fitVal at C8
  rw [best_ex] at C8
  have C8 := Lib.hid C8
  clear e8 hb8 N8 M8 B7 ha7 hu7
  go_wp2_with fail
  rw [E8.out]
  refine C8.out.mono ?_
  rintro e w9 ⟨u9, rfl, hu9, hb9⟩
  have B9 := B8.trans (hb9.mono B8.size)
  have ha9 := ha8.later hb9
  have hc9 := hc8.later hb9
  obtain ⟨A9, c9, rfl⟩ := ownsRow_form hu9
  clear C8 B8 hb9 E8 ha8 hc8
  simp only [List.length_cons, List.length_nil, Nat.zero_add, Nat.reduceAdd] at *
  have F10 : ∃ w10, (w9.alloc (.cells #[.int .i64 49, .int .i64 3, .slice A9 3 c9] 52)).alloc (.cells #[.int .i64 0, .int .i64 3, .int .i64 6, .int .i64 10] 3) = w10 ∧ Below w9.heap.size w9 w10 ∧ Blk w10 w9.heap.size 52 #[.int .i64 49, .int .i64 3, .slice A9 3 c9] ∧ Blk w10 (w9.heap.size + 1) 3 #[.int .i64 0, .int .i64 3, .int .i64 6, .int .i64 10] :=
    ⟨_, rfl, (below_alloc _ _).trans ((below_alloc _ _).mono (by simp)), (Blk.new _ _ _).alloc _, blk_new (by simp) _ _⟩
  obtain ⟨w10, e10, hb10, R10, M10⟩ := F10
  have E10 := Lib.hid e10
  have B10 := B9.trans (hb10.mono B9.size)
  have ha10 := ha9.later hb10
  have hc10 := hc9.later hb10
  have hu10 := ownsRow_below hu9 hb10
  have C10 := Lib.hid (errors_yes _ _ _ [0, 3, 6, 10] w10 ha10.reads (rints_blk (k := 4) M10 rfl (by omega)) p1_errs)
  clear e10 hb10 M10 B9 ha9 hc9 hu9 ha10
  go_wp2_with fail
  rw [E10.out]
  refine C10.out.mono ?_
  rintro e w11 ⟨rfl, hb11⟩
  have B11 := B10.trans (hb11.mono B10.size)
  have R11 := R10.below hb11 R10.lt
  have hc11 := hc10.later hb11
  have hu11 := ownsRow_below hu10 hb11
  clear C10 B10 hb11 E10 R10 hc10 hu10
  obtain ⟨w12, e12, hb12, M12⟩ : ∃ w12, w11.alloc (.cells #[.int .i64 4, .int .i64 5, .int .i64 (-5)] 3) = w12 ∧ Below w11.heap.size w11 w12 ∧ Blk w12 w11.heap.size 3 #[.int .i64 4, .int .i64 5, .int .i64 (-5)] := ⟨_, rfl, below_alloc _ _, Blk.new _ _ _⟩
  have E12 := Lib.hid e12
  have B12 := B11.trans (hb12.mono B11.size)
  have R12 := R11.below hb12 R11.lt
  have hc12 := hc11.later hb12
  have hu12 := ownsRow_below hu11 hb12
  have C12 := Lib.hid (errors_yes _ _ _ [4, 5, -5] w12 hc12.reads (rints_blk (k := 3) M12 rfl (by omega)) p2_errs)
  clear e12 hb12 M12 B11 R11 hc11 hu11 hc12
  go_wp2_with fail
  rw [E12.out]
  refine C12.out.mono ?_
  rintro e w13 ⟨rfl, hb13⟩
  have B13 := B12.trans (hb13.mono B12.size)
  have R13 := R12.below hb13 R12.lt
  have hu13 := ownsRow_below hu12 hb13
  clear C12 B12 hb13 E12 R12 hu12
  obtain ⟨w14, e14, hb14, M14⟩ : ∃ w14, w13.alloc (.cells #[.int .i64 49, .int .i64 151, .int .i64 351] 3) = w14 ∧ Below w13.heap.size w13 w14 ∧ Blk w14 w13.heap.size 3 #[.int .i64 49, .int .i64 151, .int .i64 351] := ⟨_, rfl, below_alloc _ _, Blk.new _ _ _⟩
  have E14 := Lib.hid e14
  have B14 := B13.trans (hb14.mono B13.size)
  have hu14 := ownsRow_below hu13 hb14
  have r0 := cellOf R13 0 (x := .int .i64 49) rfl
  have r1 := cellOf R13 1 (x := .int .i64 3) rfl
  have r2 := cellOf R13 2 (x := .slice A9 3 c9) rfl
  have C14 := Lib.hid (sameInts_any _ _ [49, 151, 351] [49, 151, 351] w14 (Rd.own hu14 (own_le hu14)) (rints_blk (k := 3) M14 rfl (by omega)))
  clear e14 hb14 M14 B13 hu13 hu14 R13
  go_wp2_with fail
  rw [E14.out]
  refine C14.out.mono ?_
  rintro e w15 ⟨rfl, hb15⟩
  have B15 := B14.trans (hb15.mono B14.size)
  clear C14 B14 hb15 E14 r0 r1 r2
  go_wp2
  go_ret
  exact ⟨rfl, B15⟩
end Go.Proofs.Ytffodgpafiifcaa
