/-
  Rate and Loss, where all is right; plain: scores.
-/
import Derived.Test.YtlmpbmlbllndcaaMbj
namespace Go.Proofs.Ytlmpbmlbllndcaa
open Go.RowKit
attribute [local go_sem] Oper.semAt_some

set_option maxRecDepth 100000 in
set_option maxHeartbeats 4000000 in
theorem Rate_ok (m : MethD) (hm : m.okB = true) (h : List DayD) (hh : checkH h = 0) (ca cb : Int) (hc : costB ca cb = true) (hb : 0 ≤ scLoss m h ca cb h.length ∧ scLoss m h ca cb h.length ≤ 4000000000) (vh : Value) (w : World) (hvh : RDays w.heap.size w vh h) :
    Calls Try.prog 26 #[.agg #[.int .i64 m.kind, .int .i64 m.days], vh, .int .i64 ca, .int .i64 cb] w fun e w' => e = .returned (.tuple #[.agg #[.int .i64 (choR [m] h ca cb).days, .int .i64 (choR [m] h ca cb).n, .int .i64 (choR [m] h ca cb).d], .int .i64 (choE [m] h ca cb)]) ∧ Below w.heap.size w w' := by
  have HVH := Lib.hid hvh
  have CC := Lib.hid (fun v vh w hv hvh => Choose_ok [m] (by simp) (fun x hx => by rw [List.mem_singleton] at hx; rw [hx]; exact hm) h hh ca cb hc (fun x hx => by rw [List.mem_singleton] at hx; rw [hx]; exact hb) v vh w hv hvh)
  obtain ⟨R, hR⟩ : ∃ R, choR [m] h ca cb = R := ⟨_, rfl⟩
  obtain ⟨E, hE⟩ : ∃ R, choE [m] h ca cb = R := ⟨_, rfl⟩
  rw [hR, hE] at CC ⊢
  have F0 : ∃ W0, (w.alloc (.cells #[.int .i64 m.kind, .int .i64 m.days] 56)).alloc (.cells #[.int .i64 0, .int .i64 0, .int .i64 0] 60) = W0 ∧ Hid (Below w.heap.size w W0) ∧ Hid (Blk W0 w.heap.size 56 #[.int .i64 m.kind, .int .i64 m.days] ∧ Blk W0 (w.heap.size + 1) 60 #[.int .i64 0, .int .i64 0, .int .i64 0]) :=
    ⟨_, rfl, sbelow_al (below_alloc _ _) _, (Blk.new _ _ _).alloc _, blk_new (by simp) _ _⟩
  obtain ⟨W0, e0, HB0, HK0⟩ := F0
  have E0 := Lib.hid e0
  obtain ⟨p, hp⟩ : ∃ p, w.heap.size = p := ⟨_, rfl⟩
  rw [hp] at HK0
  have HP := Lib.hid hp
  have F1 : ∃ W1, W0.alloc (.cells #[.int .i64 m.kind, .int .i64 m.days] 56) = W1 ∧ Hid (Below W0.heap.size W0 W1) ∧ Hid (Blk W1 W0.heap.size 56 #[.int .i64 m.kind, .int .i64 m.days]) := ⟨_, rfl, below_alloc _ _, Blk.new _ _ _⟩
  obtain ⟨W1, e1, HB1, HK1⟩ := F1
  have E1 := Lib.hid e1
  have HBW1 : Hid (Below w.heap.size w W1) := HB0.out.trans (HB1.out.mono HB0.out.size)
  obtain ⟨q, hq⟩ : ∃ q, W0.heap.size = q := ⟨_, rfl⟩
  rw [hq] at HK1
  have HQ := Lib.hid hq
  have hrm : RMeths W1.heap.size W1 (.slice (some ⟨q, 0, none⟩) 1 1) [m] := ⟨_, _, rfl, rfl, by simp [maxLen], fun _ => ⟨q, 0, rfl, HK1.out.lt, fun j u hj => by rw [Nat.zero_add, HK1.out.cell]; simpa [MethD.cells] using hj⟩⟩
  have C1 := Lib.hid (CC.out _ vh W1 hrm ((Rd.below HVH.out HBW1.out).more HBW1.out.size))
  have HKP : Hid (∀ Y, Below W1.heap.size W1 Y → Blk Y (p + 1) 60 #[.int .i64 0, .int .i64 0, .int .i64 0]) := fun Y hY => (HK0.out.2.below HB1.out HK0.out.2.lt).below hY (HK0.out.2.below HB1.out HK0.out.2.lt).lt
  have z0 := cellOf HK0.out.1 0 (x := .int .i64 m.kind) rfl
  have z1 := cellOf HK0.out.1 1 (x := .int .i64 m.days) rfl
  clear hvh hm hh hc hb hR hE e0 e1 hp hq hrm CC HK1
  go_enter Try.func26, Try.ntmps26
  go_upto_region 1 with fail
  rw [E0.out, HP.out]
  clear E0
  go_upto_region 2 with (go_at_call 25; rw [E1.out, HQ.out]; refine C1.out.mono ?_; rintro _ Y ⟨rfl, hb2⟩)
  have F6 : ∃ Z, Y.alloc (.cells #[.int .i64 R.days, .int .i64 R.n, .int .i64 R.d] 60) = Z ∧ Hid (Below Y.heap.size Y Z) ∧ Hid (Blk Z Y.heap.size 60 #[.int .i64 R.days, .int .i64 R.n, .int .i64 R.d]) := ⟨_, rfl, below_alloc _ _, Blk.new _ _ _⟩
  obtain ⟨Z, e6, HZ, HKR⟩ := F6
  have E6 := Lib.hid e6
  have HBZ1 : Hid (Below W1.heap.size W1 Z) := hb2.trans (HZ.out.mono hb2.size)
  have HBZ : Hid (Below w.heap.size w Z) := HBW1.out.trans (HBZ1.out.mono HBW1.out.size)
  have HKZ := Lib.hid (HKP.out Z HBZ1.out)
  obtain ⟨rb, hrb⟩ : ∃ q, Y.heap.size = q := ⟨_, rfl⟩
  rw [hrb] at HKR
  have HRB := Lib.hid hrb
  clear C1 hb2 e6 hrb HZ z0 z1
  rw [E6.out, HRB.out]
  clear E6
  have s0 := cellOf HKR.out 0 (x := .int .i64 R.days) rfl
  have s1 := cellOf HKR.out 1 (x := .int .i64 R.n) rfl
  have s2 := cellOf HKR.out 2 (x := .int .i64 R.d) rfl
  have r0 := cellOf HKZ.out 0 (x := .int .i64 0) rfl
  have r1 := cellOf HKZ.out 1 (x := .int .i64 0) rfl
  have r2 := cellOf HKZ.out 2 (x := .int .i64 0) rfl
  have f0 := HKZ.out.frozen 0
  have f1 := HKZ.out.frozen 1
  have f2 := HKZ.out.frozen 2
  have hK : KeptBut (fun i => i = p + 1) Z (((Z.setCell ⟨p + 1, 0, none⟩ (.int .i64 R.days)).setCell ⟨p + 1, 1, none⟩ (.int .i64 R.n)).setCell ⟨p + 1, 2, none⟩ (.int .i64 R.d)) := ((KeptBut.setCell (S := fun i => i = p + 1) rfl _).trans (KeptBut.setCell (S := fun i => i = p + 1) rfl _) fun _ _ h => h).trans (KeptBut.setCell (S := fun i => i = p + 1) rfl _) fun _ _ h => h
  have R' := ((HKZ.out.put 0 (.int .i64 R.days)).put 1 (.int .i64 R.n)).put 2 (.int .i64 R.d)
  have e0 := cellOf R' 0 (x := .int .i64 R.days) rfl
  have e1 := cellOf R' 1 (x := .int .i64 R.n) rfl
  have e2 := cellOf R' 2 (x := .int .i64 R.d) rfl
  have HFIN : Hid (Below w.heap.size w (((Z.setCell ⟨p + 1, 0, none⟩ (.int .i64 R.days)).setCell ⟨p + 1, 1, none⟩ (.int .i64 R.n)).setCell ⟨p + 1, 2, none⟩ (.int .i64 R.d))) := HBZ.out.trans (hK.below (fun i hi => by rw [hi, ← HP.out]; omega) HBZ.out.size)
  clear hK R'
  go_wp2_with fail
  exact bodyPost_ret (v := .tuple #[.agg #[.int .i64 R.days, .int .i64 R.n, .int .i64 R.d], .int .i64 E]) (by simp [results, Try.results26, go_sem, e0, e1, e2]) rfl ⟨rfl, HFIN.out⟩
set_option maxHeartbeats 2000000 in
theorem Loss_ok (d : DayD) (hd : d.ok) (q : Int) (hq : 0 ≤ q ∧ q ≤ 10000) (ca cb : Int) (hc : costB ca cb = true) (w : World) :
    Calls Try.prog 28 #[.agg #[.int .i64 d.sup, .int .i64 d.ret], .int .i64 q, .int .i64 ca, .int .i64 cb] w fun e w' => e = .returned (.tuple #[.int .i64 (lossD ca cb d q), .int .i64 0]) ∧ Below w.heap.size w w' := by
  have F0 : ∃ W0, w.alloc (.cells #[.int .i64 d.sup, .int .i64 d.ret] 24) = W0 ∧ Hid (Below w.heap.size w W0) ∧ Hid (Blk W0 w.heap.size 24 #[.int .i64 d.sup, .int .i64 d.ret]) := ⟨_, rfl, below_alloc _ _, Blk.new _ _ _⟩
  obtain ⟨W0, e0, HB0, HK0⟩ := F0
  have E0 := Lib.hid e0
  have F1 : ∃ W1, W0.alloc (.cells #[.int .i64 d.sup, .int .i64 d.ret] 24) = W1 ∧ Hid (Below W0.heap.size W0 W1) ∧ Hid (Blk W1 W0.heap.size 24 #[.int .i64 d.sup, .int .i64 d.ret]) := ⟨_, rfl, below_alloc _ _, Blk.new _ _ _⟩
  obtain ⟨W1, e1, HB1, HK1⟩ := F1
  have E1 := Lib.hid e1
  have HBW1 : Hid (Below w.heap.size w W1) := HB0.out.trans (HB1.out.mono HB0.out.size)
  obtain ⟨g, hg⟩ : ∃ q, W0.heap.size = q := ⟨_, rfl⟩
  rw [hg] at HK1
  have HG := Lib.hid hg
  have hrd : RDays W1.heap.size W1 (.slice (some ⟨g, 0, none⟩) 1 1) [d] := ⟨_, _, rfl, rfl, by simp [maxLen], fun _ => ⟨g, 0, rfl, HK1.out.lt, fun j u hj => by rw [Nat.zero_add, HK1.out.cell]; simpa [DayD.cells] using hj⟩⟩
  have C1 := Lib.hid (Total_any ca cb [d] q _ W1 hrd)
  have hte : totalE ca cb [d] q = 0 := totalE_of (checkH_of (by simp) fun x hx => by rw [List.mem_singleton] at hx; rw [hx]; exact hd) hq hc
  have htv : totalV ca cb [d] q = lossD ca cb d q := by
    unfold totalV
    rw [if_pos hte]
    show lossD ca cb d q + totD ca cb [] q = _
    simp [totD]
  rw [hte, htv] at C1
  have z0 := cellOf HK0.out 0 (x := .int .i64 d.sup) rfl
  have z1 := cellOf HK0.out 1 (x := .int .i64 d.ret) rfl
  obtain ⟨L, hL⟩ : ∃ L, lossD ca cb d q = L := ⟨_, rfl⟩
  rw [hL] at C1 ⊢
  clear hd hq hc e0 e1 hg hrd hte htv hL HK0 HK1
  go_enter Try.func28, Try.ntmps28
  go_upto_region 1 with fail
  rw [E0.out]
  clear E0
  go_wp2_with (go_at_call 24; rw [E1.out, HG.out]; refine C1.out.mono ?_; rintro _ Y ⟨rfl, hb2⟩)
  go_ret2
  exact ⟨rfl, HBW1.out.trans (hb2.mono HBW1.out.size)⟩
/-- A loss twice as dear. -/
theorem loss_twice (a b : Int) (d : DayD) (q : Int) : lossD (2 * a) (2 * b) d q = 2 * lossD a b d q := by
  unfold lossD
  split
  · rw [Int.mul_assoc]
  · split
    · rw [Int.mul_assoc]
    · rfl
theorem scLoss_twice (m : MethD) (h : List DayD) (a b : Int) : ∀ k, scLoss m h (2 * a) (2 * b) k = 2 * scLoss m h a b k
  | 0 => rfl
  | k + 1 => by
    simp only [scLoss]
    rw [scLoss_twice m h a b k, loss_twice]
    split <;> omega
theorem low_times {n d : Int} (hn : 0 ≤ n) (hd : 0 < d) : ∃ g : Int, 0 < g ∧ n = lowN n d * g ∧ d = lowD n d * g := by
  have hg := gcd_pos (n := n) hd
  refine ⟨(Nat.gcd n.toNat d.toNat : Int), by omega, ?_, ?_⟩
  · unfold lowN
    refine (Int.ediv_mul_cancel ?_).symm
    have h1 : ((Nat.gcd n.toNat d.toNat : Nat) : Int) ∣ ((n.toNat : Nat) : Int) := Int.natCast_dvd_natCast.2 (Nat.gcd_dvd_left _ _)
    rwa [show ((n.toNat : Nat) : Int) = n by omega] at h1
  · unfold lowD
    refine (Int.ediv_mul_cancel ?_).symm
    have h1 : ((Nat.gcd n.toNat d.toNat : Nat) : Int) ∣ ((d.toNat : Nat) : Int) := Int.natCast_dvd_natCast.2 (Nat.gcd_dvd_right _ _)
    rwa [show ((d.toNat : Nat) : Int) = d by omega] at h1
/-- The fraction in lowest terms is the fraction. -/
theorem low_cross {n d : Int} (hn : 0 ≤ n) (hd : 0 < d) : lowN n d * d = n * lowD n d := by
  obtain ⟨g, -, h1, h2⟩ := low_times hn hd
  calc lowN n d * d = lowN n d * (lowD n d * g) := by rw [← h2]
    _ = (lowN n d * g) * lowD n d := by rw [Int.mul_assoc, Int.mul_comm g]
    _ = n * lowD n d := by rw [← h1]
theorem low_twice {n d : Int} (hn : 0 ≤ n) (hd : 0 < d) : lowN (2 * n) d * lowD n d = 2 * lowN n d * lowD (2 * n) d := by
  have h1 := low_cross (n := 2 * n) (by omega) hd
  have h2 := low_cross hn hd
  have e : (lowN (2 * n) d * lowD n d) * d = (2 * lowN n d * lowD (2 * n) d) * d := by
    calc (lowN (2 * n) d * lowD n d) * d = (lowN (2 * n) d * d) * lowD n d := by rw [Int.mul_right_comm]
      _ = (2 * n * lowD (2 * n) d) * lowD n d := by rw [h1]
      _ = 2 * (n * lowD n d) * lowD (2 * n) d := by simp only [Int.mul_assoc, Int.mul_left_comm, Int.mul_comm]
      _ = 2 * (lowN n d * d) * lowD (2 * n) d := by rw [h2]
      _ = (2 * lowN n d * lowD (2 * n) d) * d := by simp only [Int.mul_assoc, Int.mul_left_comm, Int.mul_comm]
  exact Int.eq_of_mul_eq_mul_right (by omega) e
theorem frac_lt {a b c d e f : Int} (hb : 0 < b) (hd : 0 < d) (hf : 0 < f) (h1 : c * b ≤ a * d) (h2 : e * d < c * f) : e * b < a * f := by
  have h3 : (c * b) * f ≤ (a * d) * f := Int.mul_le_mul_of_nonneg_right h1 (by omega)
  have h4 : (e * d) * b < (c * f) * b := Int.mul_lt_mul_of_pos_right h2 hb
  have h5 : (e * b) * d < (a * f) * d := by
    have e1 : (e * d) * b = (e * b) * d := Int.mul_right_comm _ _ _
    have e2 : (c * f) * b = (c * b) * f := Int.mul_right_comm _ _ _
    have e3 : (a * d) * f = (a * f) * d := Int.mul_right_comm _ _ _
    omega
  exact Int.lt_of_mul_lt_mul_right h5 (by omega)
end Go.Proofs.Ytlmpbmlbllndcaa
