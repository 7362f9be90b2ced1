/-
  The program's Loss for any day; the reference's Loss, total and Total.
-/
import Derived.Test.YtlmpbmlbllndcaaMag
import Derived.Test.YtlmpbmlbllndcaaMak
namespace Go.Proofs.Ytlmpbmlbllndcaa
open Go.RowKit
attribute [local go_sem] Oper.semAt_some

set_option maxHeartbeats 2000000 in
theorem Loss_any (d : DayD) (q : Int) (ca cb : Int) (w : World) :
    Calls Try.prog 28 #[.agg #[.int .i64 d.sup, .int .i64 d.ret], .int .i64 q, .int .i64 ca, .int .i64 cb] w fun e w' => e = .returned (.tuple #[.int .i64 (totalV ca cb [d] q), .int .i64 (totalE ca cb [d] q)]) ∧ Below w.heap.size w w' := by
  have F0 : ∃ W0, w.alloc (.cells #[.int .i64 d.sup, .int .i64 d.ret] 24) = W0 ∧ Hid (Below w.heap.size w W0) ∧ Hid (Blk W0 w.heap.size 24 #[.int .i64 d.sup, .int .i64 d.ret]) := ⟨_, rfl, below_alloc _ _, Blk.new _ _ _⟩
  obtain ⟨W0, e0, HB0, HK0⟩ := F0
  have E0 := Lib.hid e0
  have F1 : ∃ W1, W0.alloc (.cells #[.int .i64 d.sup, .int .i64 d.ret] 24) = W1 ∧ Hid (Below W0.heap.size W0 W1) ∧ Hid (Blk W1 W0.heap.size 24 #[.int .i64 d.sup, .int .i64 d.ret]) := ⟨_, rfl, below_alloc _ _, Blk.new _ _ _⟩
  obtain ⟨W1, e1, HB1, HK1⟩ := F1
  have E1 := Lib.hid e1
  have HBW1 : Hid (Below w.heap.size w W1) := HB0.out.trans (HB1.out.mono HB0.out.size)
  obtain ⟨g, hg⟩ : ∃ q, W0.heap.size = q := ⟨_, rfl⟩
  rw [hg] at HK1
  have HG := Lib.hid hg
  have hrd : RDays W1.heap.size W1 (.slice (some ⟨g, 0, none⟩) 1 1) [d] := ⟨_, _, rfl, rfl, by simp [maxLen], fun _ => ⟨g, 0, rfl, HK1.out.lt, fun j u hj => by rw [Nat.zero_add, HK1.out.cell]; simpa [DayD.cells] using hj⟩⟩
  have C1 := Lib.hid (Total_any ca cb [d] q _ W1 hrd)
  obtain ⟨V, hV⟩ : ∃ z, totalV ca cb [d] q = z := ⟨_, rfl⟩
  obtain ⟨E, hE⟩ : ∃ z, totalE ca cb [d] q = z := ⟨_, rfl⟩
  rw [hV, hE] at C1 ⊢
  have z0 := cellOf HK0.out 0 (x := .int .i64 d.sup) rfl
  have z1 := cellOf HK0.out 1 (x := .int .i64 d.ret) rfl
  clear e0 e1 hg hrd hV hE HK0 HK1
  go_enter Try.func28, Try.ntmps28
  go_upto_region 1 with fail
  rw [E0.out]
  clear E0
  go_wp2_with (go_at_call 24; rw [E1.out, HG.out]; refine C1.out.mono ?_; rintro _ Y ⟨rfl, hb2⟩)
  go_ret2
  exact ⟨rfl, HBW1.out.trans (hb2.mono HBW1.out.size)⟩
theorem okB_iff {d : DayD} : d.okB = true ↔ d.ok := by
  unfold DayD.okB DayD.ok
  rw [Bool.and_eq_true, inB_iff, inB_iff, and_assoc]
theorem check_one (d : DayD) : checkH [d] = if d.okB then 0 else 120 := by
  unfold checkH
  rw [if_neg (by simp)]
  simp
set_option maxHeartbeats 2000000 in
theorem refLoss_any (d : DayD) (q : Int) (a b : Int) (w : World) :
    Calls Try.prog 42 #[.agg #[.int .i64 d.sup, .int .i64 d.ret], .int .i64 q, .int .i64 a, .int .i64 b] w fun e w' => e = .returned (.tuple #[.int .i64 (totalV a b [d] q), .int .i64 (totalE a b [d] q)]) ∧ Below w.heap.size w w' := by
  have F0 : ∃ W0, w.alloc (.cells #[.int .i64 d.sup, .int .i64 d.ret] 99) = W0 ∧ Hid (Below w.heap.size w W0) ∧ Hid (Blk W0 w.heap.size 99 #[.int .i64 d.sup, .int .i64 d.ret]) := ⟨_, rfl, below_alloc _ _, Blk.new _ _ _⟩
  obtain ⟨W0, e0, HB0, HK0⟩ := F0
  have E0 := Lib.hid e0
  obtain ⟨p, hp⟩ : ∃ p, w.heap.size = p := ⟨_, rfl⟩
  have HP := Lib.hid hp
  rw [hp] at HK0
  have z0 := cellOf HK0.out 0 (x := .int .i64 d.sup) rfl
  have z1 := cellOf HK0.out 1 (x := .int .i64 d.ret) rfl
  have C1 := Lib.hid (refRight_any d W0)
  have C2 := Lib.hid (fun w => refIn_any q 0 10000 w)
  have C3 := Lib.hid (fun w => refCosts_any a b w)
  obtain ⟨rt, hrt⟩ : ∃ x, d.okB = x := ⟨_, rfl⟩
  obtain ⟨qi, hqi⟩ : ∃ x, inB q 0 10000 = x := ⟨_, rfl⟩
  obtain ⟨cb, hcb⟩ : ∃ x, costB a b = x := ⟨_, rfl⟩
  have HRT := Lib.hid hrt
  have HQI := Lib.hid hqi
  have HCB := Lib.hid hcb
  rw [hrt] at C1
  rw [hqi] at C2
  rw [hcb] at C3
  have HE : Hid (totalE a b [d] q = if rt then (if qi then (if cb then 0 else 1) else 6) else 120) := by
    show _ = _
    unfold totalE
    rw [check_one, hrt, hqi, hcb]
    cases rt <;> cases qi <;> cases cb <;> rfl
  have HVE : Hid (¬ totalE a b [d] q = 0 → totalV a b [d] q = 0) := fun h => by unfold totalV; rw [if_neg h]
  clear e0 hp hrt hqi hcb
  go_enter Try.func42, Try.ntmps42
  go_upto_region 1 with fail
  rw [E0.out, HP.out]
  clear E0
  go_wp2_with fail
  refine C1.out.mono ?_
  rintro _ Y1 ⟨rfl, hb1⟩
  have HB1 : Hid (Below w.heap.size w Y1) := HB0.out.trans (hb1.mono HB0.out.size)
  have y0 := cellOf (HK0.out.below hb1 HK0.out.lt) 0 (x := .int .i64 d.sup) rfl
  have y1 := cellOf (HK0.out.below hb1 HK0.out.lt) 1 (x := .int .i64 d.ret) rfl
  clear hb1 C1 z0 z1
  cases rt with
  | false =>
    have HX : Hid (totalE a b [d] q = 120) := by show _ = _; rw [HE.out]; rfl
    have HV : Hid (totalV a b [d] q = 0) := HVE.out (by rw [HX.out]; omega)
    go_wp2_with fail
    go_ret2
    exact ⟨ret_two HV.out.symm HX.out.symm, HB1.out⟩
  | true =>
  go_wp2_with fail
  refine (C2.out _).mono ?_
  rintro _ _ ⟨rfl, rfl⟩
  cases qi with
  | false =>
    have HX : Hid (totalE a b [d] q = 6) := by show _ = _; rw [HE.out]; rfl
    have HV : Hid (totalV a b [d] q = 0) := HVE.out (by rw [HX.out]; omega)
    go_wp2_with fail
    go_ret2
    exact ⟨ret_two HV.out.symm HX.out.symm, HB1.out⟩
  | true =>
  go_wp2_with fail
  refine (C3.out _).mono ?_
  rintro _ _ ⟨rfl, rfl⟩
  cases cb with
  | false =>
    have HX : Hid (totalE a b [d] q = 1) := by show _ = _; rw [HE.out]; rfl
    have HV : Hid (totalV a b [d] q = 0) := HVE.out (by rw [HX.out]; omega)
    go_wp2_with fail
    go_ret2
    exact ⟨ret_two HV.out.symm HX.out.symm, HB1.out⟩
  | true =>
  have HX : Hid (totalE a b [d] q = 0) := by show _ = _; rw [HE.out]; rfl
  have HV : Hid (totalV a b [d] q = lossD a b d q) := by
    show _ = _
    unfold totalV
    rw [if_pos HX.out]
    show lossD a b d q + totD a b [] q = _
    simp [totD]
  have hcc := costB_iff.1 HCB.out
  have hok := okB_iff.1 HRT.out
  have C4 := Lib.hid (refLossC_any d.sup d.ret q a b ⟨hok.2.2.1, hok.2.2.2, hok.2.1⟩ (inB_iff.1 HQI.out) hcc.1 hcc.2.1 Y1)
  clear hcc hok
  go_wp2_with fail
  refine C4.out.mono ?_
  rintro _ Y2 ⟨rfl, hb2⟩
  have HB2 : Hid (Below w.heap.size w Y2) := HB1.out.trans (hb2.mono HB1.out.size)
  clear hb2 C4
  go_wp2_with fail
  go_ret2
  exact ⟨ret_two HV.out.symm HX.out.symm, HB2.out⟩
theorem tot_next {a b q : Int} {l : List DayD} {k : Nat} {d : DayD} (h : l[k]? = some d) : totD a b (l.take (k + 1)) q = totD a b (l.take k) q + lossD a b d q := by
  rw [List.take_add_one, h, Option.toList_some, totD_app]
  simp [totD]
set_option maxRecDepth 100000 in
set_option maxHeartbeats 4000000 in
theorem refTotC_any (a b q : Int) (l : List DayD) (ha : 0 ≤ a ∧ a ≤ 1000) (hb : 0 ≤ b ∧ b ≤ 1000) (hq : 0 ≤ q ∧ q ≤ 10000) (hl : l.length ≤ 400) (hd : ∀ d ∈ l, d.ok) (v : Value) (w : World) (h : RDays w.heap.size w v l) :
    Calls Try.prog 101 #[v, .int .i64 q, .int .i64 a, .int .i64 b] w fun e w' => e = .returned (.int .i64 (totD a b l q)) ∧ Below w.heap.size w w' := by
  obtain ⟨A, c, rfl, hlm, HD⟩ := days_later h
  obtain ⟨n, hn⟩ : ∃ n, l.length = n := ⟨_, rfl⟩
  have HN := Lib.hid hn
  have HDO := Lib.hid hd
  have HC := Lib.hid (And.intro ha (And.intro hb hq))
  rw [hn] at hl hlm ⊢
  clear h hn hd ha hb hq
  go_enter Try.func101, Try.ntmps101
  go_wp2_with fail
  go_loopw [9, 10] (fun s i wr => ∃ (k : Nat) (y : Int), k ≤ n ∧ i = .int .i64 k ∧ s = .int .i64 y ∧ Hid (y = totD a b (l.take k) q) ∧ 0 ≤ y ∧ y ≤ 10000000 * (k : Int) ∧ Hid (Below w.heap.size w wr)) (fun _ i _ => n - (intOf i).toNat)
  case atStart => exact ⟨0, 0, Nat.zero_le _, rfl, rfl, by show _ = _; simp [totD], by omega, by omega, Below.refl _ _⟩
  case round =>
  obtain ⟨k, y, hk, rfl, rfl, hy, y0, y1, hB⟩ := hrel
  obtain ⟨X, rfl⟩ : ∃ X : World, X = wr := ⟨_, rfl⟩
  by_cases hlt : k < n
  · obtain ⟨d, hd⟩ : ∃ x, l[k]? = some x := ⟨_, List.getElem?_eq_getElem (by rw [HN.out]; exact hlt)⟩
    obtain ⟨g, o, rfl, HX⟩ := HD.out k d hd
    obtain ⟨c0, c1⟩ := HX.out X hB.out
    have hok := HDO.out d (List.mem_of_getElem? hd)
    obtain ⟨ha, hb, hq⟩ := HC.out
    have C1 := Lib.hid (refLossC_any d.sup d.ret q a b ⟨hok.2.2.1, hok.2.2.2, hok.2.1⟩ hq ha hb X)
    obtain ⟨x0, x1⟩ := loss_bd ha.1 ha.2 hb.1 hb.2 hok hq.1 hq.2
    obtain ⟨x, hx⟩ : ∃ z, lossD a b d q = z := ⟨_, rfl⟩
    have HN2 : Hid (y + x = totD a b (l.take (k + 1)) q) := by show _ = _; rw [tot_next hd, ← hx, hy.out]
    have C2 : Hid (Calls Try.prog 100 #[.agg #[.int .i64 d.sup, .int .i64 d.ret], .int .i64 q, .int .i64 a, .int .i64 b] X fun e w' => e = .returned (.int .i64 x) ∧ Below X.heap.size X w') := by rw [← hx]; exact C1.out
    rw [hx] at x0 x1
    have k0 : (0 : Int) ≤ (k : Int) := by omega
    have k1 : (k : Int) < (n : Int) := by omega
    have v1 : -100000000000 ≤ y + x := by omega
    have v2 : y + x ≤ 100000000000 := by omega
    clear hd hok ha hb hq C1 hx
    go_wp2_with fail
    refine C2.out.mono ?_
    rintro _ Y ⟨rfl, hbY⟩
    have HBY : Hid (Below w.heap.size w Y) := hB.out.trans (hbY.mono hB.out.size)
    clear hbY C2 c0 c1
    go_wp2_with fail
    go_roundw
    case rel => exact ⟨k + 1, y + x, by omega, by go_num, rfl, HN2, by omega, by push_cast; omega, HBY⟩
    case measure => simp [intOf]; omega
  · have HV : Hid (y = totD a b l q) := by show _ = _; rw [hy.out, List.take_of_length_le (by rw [HN.out]; omega)]
    go_wp2_with fail
    go_ret
    exact ⟨by rw [← HV.out]; rfl, hB.out⟩
end Go.Proofs.Ytlmpbmlbllndcaa
