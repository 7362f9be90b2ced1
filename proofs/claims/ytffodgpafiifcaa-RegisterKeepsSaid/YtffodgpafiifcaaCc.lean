/-
  Settle.
-/
import Derived.Test.YtffodgpafiifcaaCb
namespace Go.Proofs.Ytffodgpafiifcaa
open Go.RowKit

theorem settle_no {l : LoopD} {e : Int} (h : ¬ LoopOk l) : settleRet l e = .tuple #[.int .i64 0, .int .i64 60] := by unfold settleRet; rw [if_pos h]
theorem settle_range {l : LoopD} {e : Int} (h : LoopOk l) (he : ¬ (e ≤ 1000000 ∧ -1000000 ≤ e)) : settleRet l e = .tuple #[.int .i64 0, .int .i64 6] := by unfold settleRet; rw [if_neg (fun k => k h), if_pos he]
theorem settle_some {l : LoopD} {e m : Int} (h : LoopOk l) (he : e ≤ 1000000 ∧ -1000000 ≤ e) (hm : moreD l e = some m) : settleRet l e = .tuple #[.int .i64 (l.dead + 1 + m), .int .i64 0] := by unfold settleRet; rw [if_neg (fun k => k h), if_neg (fun k => k he), hm]
theorem settle_none {l : LoopD} {e : Int} (h : LoopOk l) (he : e ≤ 1000000 ∧ -1000000 ≤ e) (hm : moreD l e = none) : settleRet l e = .tuple #[.int .i64 0, .int .i64 4] := by unfold settleRet; rw [if_neg (fun k => k h), if_neg (fun k => k he), hm]
theorem more_zero {l : LoopD} {e a : Int} (ha : max e (-e) = a) (h : a - (l.step - l.blur) ≤ 0) : moreD l e = some 0 := by unfold moreD; rw [ha, if_pos (by omega)]
theorem more_none {l : LoopD} {e a : Int} (ha : max e (-e) = a) (h : ¬ a - (l.step - l.blur) ≤ 0) (h2 : l.step - l.noise = 0) : moreD l e = none := by unfold moreD; rw [ha, if_neg (by omega), if_pos (by omega)]
theorem more_some {l : LoopD} {e a : Int} (ha : max e (-e) = a) (h : ¬ a - (l.step - l.blur) ≤ 0) (h2 : ¬ l.step - l.noise = 0) : moreD l e = some ((a - (l.step - l.blur) + (l.step - l.noise) - 1) / (l.step - l.noise)) := by unfold moreD; rw [ha, if_neg (by omega), if_neg (by omega)]
theorem farD_one (e : Int) : farD [e] = max (max e (-e)) 0 := rfl

set_option maxHeartbeats 2000000 in
theorem Settle_any (l : LoopD) (e : Int) (w : World) (hi : -9223372036854775808 ≤ e ∧ e ≤ 9223372036854775807) : Calls Try.prog 16 #[l.val, .int .i64 e] w fun en w' => en = .returned (settleRet l e) ∧ Below w.heap.size w w' := by
  obtain ⟨w1, e1, B1, V1⟩ : ∃ w1, w.alloc (.cells l.cells 26) = w1 ∧ Below w.heap.size w w1 ∧ Blk w1 w.heap.size 26 l.cells := ⟨_, rfl, below_alloc _ _, Blk.new _ _ _⟩
  unfold LoopD.cells at e1 V1
  have E1 := Lib.hid e1
  clear e1
  have v0 := cellOf V1 0 (x := .int .i64 l.dead) rfl
  have v1 := cellOf V1 1 (x := .int .i64 l.noise) rfl
  have v2 := cellOf V1 2 (x := .int .i64 l.blur) rfl
  have v3 := cellOf V1 3 (x := .int .i64 l.step) rfl
  have HI := Lib.hid hi
  clear hi
  unfold LoopD.val
  go_enter Try.func16, Try.ntmps16
  go_upto_region 1 with fail
  rw [E1.out]
  go_wp2_with fail
  refine (Check_any l _).mono ?_
  rintro en w2 ⟨rfl, hb2⟩
  have V2 := V1.below hb2 V1.lt
  have B2 := B1.trans (hb2.mono B1.size)
  clear v0 v1 v2 v3 V1 B1 hb2
  by_cases hok : LoopOk l
  case neg =>
    rw [checkE_no hok]
    have HR := Lib.hid (settle_no (e := e) hok)
    clear hok V2
    go_wp2
    go_ret2
    exact ⟨by rw [HR.out]; rfl, B2⟩
  rw [checkE_ok hok]
  obtain ⟨w3, e3, B3, V3⟩ : ∃ w3, w2.alloc (.cells #[.int .i64 e] 3) = w3 ∧ Below w2.heap.size w2 w3 ∧ Blk w3 w2.heap.size 3 #[.int .i64 e] := ⟨_, rfl, below_alloc _ _, Blk.new _ _ _⟩
  have E3 := Lib.hid e3
  have C := Lib.hid (areWithin_any 1000000 _ [e] w3 ⟨by omega, by omega⟩ (rints_one V3) (fun x hx => by rw [List.mem_singleton] at hx; rw [hx]; exact HI.out))
  rw [farD_one] at C
  have B23 := B2.trans (B3.mono B2.size)
  have V23 := V2.below B3 V2.lt
  clear e3 V2 V3 B3 B2
  by_cases he : e ≤ 1000000 ∧ -1000000 ≤ e
  case neg =>
    have HR := Lib.hid (settle_range hok he)
    rw [decide_eq_false (by omega)] at C
    clear hok he V23
    go_wp2_with fail
    rw [E3.out]
    refine C.out.mono ?_
    rintro en w' ⟨rfl, rfl⟩
    go_wp2
    go_ret2
    exact ⟨by rw [HR.out]; rfl, B23⟩
  rw [decide_eq_true (by omega)] at C
  have v0 := cellOf V23 0 (x := .int .i64 l.dead) rfl
  have v1 := cellOf V23 1 (x := .int .i64 l.noise) rfl
  have v2 := cellOf V23 2 (x := .int .i64 l.blur) rfl
  have v3 := cellOf V23 3 (x := .int .i64 l.step) rfl
  clear V23
  go_wp2_with fail
  rw [E3.out]
  refine C.out.mono ?_
  rintro en w' ⟨rfl, rfl⟩
  clear C
  have HRs := fun m h => Lib.hid (settle_some (m := m) hok he h)
  have HRn := fun h => Lib.hid (settle_none hok he h)
  obtain ⟨k1, k2, k3, k4, k5, k6, k7, k8, k9⟩ := hok
  obtain ⟨k10, k11⟩ := he
  by_cases hneg : e < -e
  · have ha : max e (-e) = -e := by omega
    by_cases hab : -e - (l.step - l.blur) ≤ 0
    · have HR := HRs 0 (more_zero ha hab)
      clear HRs HRn ha
      go_wp2
      go_ret2
      exact ⟨by rw [HR.out]; simp, B23⟩
    · by_cases hl : l.step - l.noise = 0
      · have HR := HRn (more_none ha hab hl)
        clear HRs HRn ha
        go_wp2
        go_ret2
        exact ⟨by rw [HR.out]; rfl, B23⟩
      · have HR := HRs _ (more_some ha hab hl)
        clear HRs HRn ha
        go_upto_region 12 with fail
        have y1 : 0 < -e - (l.step - l.blur) := by omega
        have y2 : -e - (l.step - l.blur) ≤ 2000000 := by omega
        have z1 : 0 < l.step - l.noise := by omega
        have z2 : l.step - l.noise ≤ 10000 := by omega
        generalize -e - (l.step - l.blur) = y at *
        generalize l.step - l.noise = z at *
        have q1 : 0 ≤ (y + z - 1) / z := Int.ediv_nonneg (by omega) (by omega)
        have q2 : (y + z - 1) / z ≤ y + z - 1 := Int.ediv_le_self _ (by omega)
        have kq : (y + z - 1).tdiv z = (y + z - 1) / z := Int.tdiv_eq_ediv_of_nonneg (by omega)
        have kw1 : IntKind.i64.wrap (l.dead + 1) = l.dead + 1 := IntWalk.i64_in _ ⟨by omega, by omega⟩
        have kw2 : IntKind.i64.wrap (y + z) = y + z := IntWalk.i64_in _ ⟨by omega, by omega⟩
        have kw3 : IntKind.i64.wrap (y + z - 1) = y + z - 1 := IntWalk.i64_in _ ⟨by omega, by omega⟩
        generalize (y + z - 1) / z = u at *
        have kw4 : IntKind.i64.wrap u = u := IntWalk.i64_in _ ⟨by omega, by omega⟩
        have kw5 : IntKind.i64.wrap (l.dead + 1 + u) = l.dead + 1 + u := IntWalk.i64_in _ ⟨by omega, by omega⟩
        have hz0 : ¬ z = 0 := hl
        have hz1 : (z == 0) = false := by simpa using hl
        clear hl hab y1 y2 q1 q2 k1 k2 k3 k4 k5 k6 k7 k8 k9 k10 k11 hneg
        go_quiet (fail)
        clear kw1 kw2 kw3 kw4 kw5 kq
        go_wp2
        go_ret2
        exact ⟨by rw [HR.out]; rfl, below_drewN B23 _⟩
  · have ha : max e (-e) = e := by omega
    by_cases hab : e - (l.step - l.blur) ≤ 0
    · have HR := HRs 0 (more_zero ha hab)
      clear HRs HRn ha
      go_wp2
      go_ret2
      exact ⟨by rw [HR.out]; simp, B23⟩
    · by_cases hl : l.step - l.noise = 0
      · have HR := HRn (more_none ha hab hl)
        clear HRs HRn ha
        go_wp2
        go_ret2
        exact ⟨by rw [HR.out]; rfl, B23⟩
      · have HR := HRs _ (more_some ha hab hl)
        clear HRs HRn ha
        go_upto_region 12 with fail
        have y1 : 0 < e - (l.step - l.blur) := by omega
        have y2 : e - (l.step - l.blur) ≤ 2000000 := by omega
        have z1 : 0 < l.step - l.noise := by omega
        have z2 : l.step - l.noise ≤ 10000 := by omega
        generalize e - (l.step - l.blur) = y at *
        generalize l.step - l.noise = z at *
        have q1 : 0 ≤ (y + z - 1) / z := Int.ediv_nonneg (by omega) (by omega)
        have q2 : (y + z - 1) / z ≤ y + z - 1 := Int.ediv_le_self _ (by omega)
        have kq : (y + z - 1).tdiv z = (y + z - 1) / z := Int.tdiv_eq_ediv_of_nonneg (by omega)
        have kw1 : IntKind.i64.wrap (l.dead + 1) = l.dead + 1 := IntWalk.i64_in _ ⟨by omega, by omega⟩
        have kw2 : IntKind.i64.wrap (y + z) = y + z := IntWalk.i64_in _ ⟨by omega, by omega⟩
        have kw3 : IntKind.i64.wrap (y + z - 1) = y + z - 1 := IntWalk.i64_in _ ⟨by omega, by omega⟩
        generalize (y + z - 1) / z = u at *
        have kw4 : IntKind.i64.wrap u = u := IntWalk.i64_in _ ⟨by omega, by omega⟩
        have kw5 : IntKind.i64.wrap (l.dead + 1 + u) = l.dead + 1 + u := IntWalk.i64_in _ ⟨by omega, by omega⟩
        have hz0 : ¬ z = 0 := hl
        have hz1 : (z == 0) = false := by simpa using hl
        clear hl hab y1 y2 q1 q2 k1 k2 k3 k4 k5 k6 k7 k8 k9 k10 k11 hneg
        go_quiet (fail)
        clear kw1 kw2 kw3 kw4 kw5 kq
        go_wp2
        go_ret2
        exact ⟨by rw [HR.out]; rfl, below_drewN B23 _⟩
end Go.Proofs.Ytffodgpafiifcaa
