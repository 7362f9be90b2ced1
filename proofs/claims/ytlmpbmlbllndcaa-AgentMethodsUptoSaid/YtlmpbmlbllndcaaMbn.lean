/-
  The reference's Choose.
-/
import Derived.Test.YtlmpbmlbllndcaaMbm
namespace Go.Proofs.Ytlmpbmlbllndcaa
open Go.RowKit
attribute [local go_sem] Oper.semAt_some

def put3 (X : World) (p : Nat) (x0 x1 x2 : Value) : World := ((X.setCell ⟨p, 0, none⟩ x0).setCell ⟨p, 1, none⟩ x1).setCell ⟨p, 2, none⟩ x2
theorem put3_kept (X : World) (p : Nat) (x0 x1 x2 : Value) : KeptBut (fun g => g = p) X (((X.setCell ⟨p, 0, none⟩ x0).setCell ⟨p, 1, none⟩ x1).setCell ⟨p, 2, none⟩ x2) :=
  ((KeptBut.setCell (S := fun g => g = p) rfl _).trans (KeptBut.setCell (S := fun g => g = p) rfl _) fun _ _ h => h).trans (KeptBut.setCell (S := fun g => g = p) rfl _) fun _ _ h => h
theorem put3_blk {X : World} {p : Nat} {t : TypeId} {z0 z1 z2 : Value} (h : Blk X p t #[z0, z1, z2]) (x0 x1 x2 : Value) : Blk (((X.setCell ⟨p, 0, none⟩ x0).setCell ⟨p, 1, none⟩ x1).setCell ⟨p, 2, none⟩ x2) p t #[x0, x1, x2] := ((h.put 0 x0).put 1 x1).put 2 x2
set_option maxRecDepth 1000000 in
set_option maxHeartbeats 4000000 in
theorem refChoose_any (l : List MethD) (h : List DayD) (a b : Int) (v vh : Value) (w : World) (hv : RMeths w.heap.size w v l) (hvh : RDays w.heap.size w vh h) :
    Calls Try.prog 52 #[v, vh, .int .i64 a, .int .i64 b] w fun e w' => e = .returned (.tuple #[.int .i64 (chR l h a b).m, .agg #[.int .i64 (chR l h a b).days, .int .i64 (chR l h a b).n, .int .i64 (chR l h a b).d], .int .i64 (chE l h a b)]) ∧ Below w.heap.size w w' := by
  have HVH := Lib.hid hvh
  obtain ⟨A, c, rfl, hlm, HD⟩ := meths_later hv
  obtain ⟨n, hn⟩ : ∃ n, l.length = n := ⟨_, rfl⟩
  have HN := Lib.hid hn
  rw [hn] at hlm ⊢
  obtain ⟨ch, hch⟩ : ∃ x, checkH h = x := ⟨_, rfl⟩
  obtain ⟨cc, hcc⟩ : ∃ x, costB a b = x := ⟨_, rfl⟩
  obtain ⟨CK, hCK⟩ : ∃ x, choChk l h a b = x := ⟨_, rfl⟩
  obtain ⟨RE, hRE⟩ : ∃ x, chE l h a b = x := ⟨_, rfl⟩
  obtain ⟨RR, hRR⟩ : ∃ x, chR l h a b = x := ⟨_, rfl⟩
  have HCK : Hid (CK = if ch = 0 then (if 40 < n then 2 else if l.all MethD.okB && cc then 0 else 1) else ch) := by
    show _ = _
    rw [← hCK]
    unfold choChk
    rw [hch, hcc, hn]
  have HERR : Hid (∀ E : Int, CK = E → ¬ E = 0 → RE = E ∧ RR.m = 0 ∧ RR.days = 0 ∧ RR.n = 0 ∧ RR.d = 0) := fun E h1 h2 => by
    have h3 : ¬ choChk l h a b = 0 := by rw [hCK, h1]; exact h2
    have h4 : RR = zeroR := by rw [← hRR]; exact if_neg h3
    have h5 : RE = E := by rw [← hRE, ← h1, ← hCK]; exact if_neg h3
    rw [h4]
    exact ⟨h5, rfl, rfl, rfl, rfl⟩
  have HRC : Hid (CK = 0 → ((ratTo l h a b n).length = 0 → RE = 4 ∧ RR.m = 0 ∧ RR.days = 0 ∧ RR.n = 0 ∧ RR.d = 0) ∧ (¬ (ratTo l h a b n).length = 0 → RE = 0 ∧ RR.m = rcAt (ratTo l h a b n) ∧ RR.days = (rcBest (ratTo l h a b n)).days ∧ RR.n = (rcBest (ratTo l h a b n)).n ∧ RR.d = (rcBest (ratTo l h a b n)).d)) := fun h1 => by
    have h2 := ch_rc (hCK.trans h1)
    rw [hRE, hRR, hn] at h2
    refine ⟨fun h3 => ?_, h2.2⟩
    obtain ⟨h4, h5⟩ := h2.1 h3
    rw [h5]
    exact ⟨h4, rfl, rfl, rfl, rfl⟩
  have HOK : Hid (CK = 0 → checkH h = 0 ∧ l.length ≤ 40 ∧ (∀ m ∈ l, m.okB = true) ∧ costB a b = true) := fun h1 => choChk_ok (hCK.trans h1)
  rw [hRR, hRE]
  have F0 : ∃ W0, w.alloc (.cells #[.int .i64 0, .int .i64 0, .int .i64 0] 110) = W0 ∧ Hid (Below w.heap.size w W0) ∧ Hid (Blk W0 w.heap.size 110 #[.int .i64 0, .int .i64 0, .int .i64 0]) := ⟨_, rfl, below_alloc _ _, Blk.new _ _ _⟩
  obtain ⟨W0, e0, HB0, HK0⟩ := F0
  have E0 := Lib.hid e0
  obtain ⟨p, hp⟩ : ∃ p, w.heap.size = p := ⟨_, rfl⟩
  have HP := Lib.hid hp
  rw [hp] at HK0
  have HKP : Hid (∀ Y, Below W0.heap.size W0 Y → Blk Y p 110 #[.int .i64 0, .int .i64 0, .int .i64 0]) := fun Y hY => HK0.out.below hY HK0.out.lt
  have HPUT : Hid (∀ Y (x y z : Int), Below W0.heap.size W0 Y → Below w.heap.size w (((Y.setCell ⟨p, 0, none⟩ (.int .i64 x)).setCell ⟨p, 1, none⟩ (.int .i64 y)).setCell ⟨p, 2, none⟩ (.int .i64 z))) := fun Y x y z hY => by
    have h1 := HB0.out.trans (hY.mono HB0.out.size)
    exact h1.trans ((put3_kept Y p _ _ _).below (fun i hi => by rw [hi, HP.out]; exact Nat.le_refl _) h1.size)
  have HRY : Hid (∀ Y, Below W0.heap.size W0 Y → RDays Y.heap.size Y vh h) := fun Y hY => (Rd.below HVH.out (HB0.out.trans (hY.mono HB0.out.size))).more (Nat.le_trans HB0.out.size hY.size)
  have C1 : Hid (Calls Try.prog 40 #[vh] W0 fun e w' => e = .returned (.int .i64 ch) ∧ Below W0.heap.size W0 w') := by rw [← hch]; exact refCheck_any h _ W0 (HRY.out W0 (Below.refl _ _))
  have C3 : Hid (∀ Y, Calls Try.prog 99 #[.int .i64 a, .int .i64 b] Y fun e w' => e = .returned (.bool cc) ∧ Y = w') := fun Y => by rw [← hcc]; exact refCosts_any a b Y
  clear hv hvh hn hch hcc hCK hRE hRR e0 hp HK0
  go_enter Try.func52, Try.ntmps52
  go_upto_region 1 with fail
  rw [E0.out, HP.out]
  clear E0
  go_wp2_with fail
  refine C1.out.mono ?_
  rintro _ Y1 ⟨rfl, hb1⟩
  have HB1 := Lib.hid hb1
  clear hb1 C1
  by_cases hc0 : ch = 0
  case neg =>
    have hcn : (ch != 0) = true := by simpa using hc0
    have HKZ := Lib.hid (HKP.out Y1 HB1.out)
    have c0 := cellOf HKZ.out 0 (x := .int .i64 0) rfl
    have c1 := cellOf HKZ.out 1 (x := .int .i64 0) rfl
    have c2' := cellOf HKZ.out 2 (x := .int .i64 0) rfl
    have f0 := HKZ.out.frozen 0
    have f1 := HKZ.out.frozen 1
    have f2 := HKZ.out.frozen 2
    have R' := put3_blk HKZ.out (.int .i64 0) (.int .i64 0) (.int .i64 0)
    have e0 := cellOf R' 0 (x := .int .i64 0) rfl
    have e1 := cellOf R' 1 (x := .int .i64 0) rfl
    have e2 := cellOf R' 2 (x := .int .i64 0) rfl
    have HFIN := Lib.hid (HPUT.out Y1 0 0 0 HB1.out)
    have HEQ := Lib.hid (HERR.out ch (by rw [HCK.out, if_neg hc0]) hc0)
    clear R'
    go_wp2_with fail
    exact bodyPost_ret (v := .tuple #[.int .i64 0, .agg #[.int .i64 0, .int .i64 0, .int .i64 0], .int .i64 ch]) (by simp [results, Try.results52, go_sem, e0, e1, e2]) rfl ⟨ret_choose HEQ.out.2.1.symm HEQ.out.2.2.1.symm HEQ.out.2.2.2.1.symm HEQ.out.2.2.2.2.symm HEQ.out.1.symm, HFIN.out⟩
  subst hc0
  have hcn : ((0 : Int) != 0) = false := rfl
  by_cases h40 : (40 : Int) < (n : Int)
  case pos =>
    have HKZ := Lib.hid (HKP.out Y1 HB1.out)
    have c0 := cellOf HKZ.out 0 (x := .int .i64 0) rfl
    have c1 := cellOf HKZ.out 1 (x := .int .i64 0) rfl
    have c2' := cellOf HKZ.out 2 (x := .int .i64 0) rfl
    have f0 := HKZ.out.frozen 0
    have f1 := HKZ.out.frozen 1
    have f2 := HKZ.out.frozen 2
    have R' := put3_blk HKZ.out (.int .i64 0) (.int .i64 0) (.int .i64 0)
    have e0 := cellOf R' 0 (x := .int .i64 0) rfl
    have e1 := cellOf R' 1 (x := .int .i64 0) rfl
    have e2 := cellOf R' 2 (x := .int .i64 0) rfl
    have HFIN := Lib.hid (HPUT.out Y1 0 0 0 HB1.out)
    have HEQ := Lib.hid (HERR.out 2 (by rw [HCK.out, if_pos rfl, if_pos (by omega)]) (by omega))
    clear R'
    go_wp2_with fail
    exact bodyPost_ret (v := .tuple #[.int .i64 0, .agg #[.int .i64 0, .int .i64 0, .int .i64 0], .int .i64 2]) (by simp [results, Try.results52, go_sem, e0, e1, e2]) rfl ⟨ret_choose HEQ.out.2.1.symm HEQ.out.2.2.1.symm HEQ.out.2.2.2.1.symm HEQ.out.2.2.2.2.symm HEQ.out.1.symm, HFIN.out⟩
  have HCK2 : Hid (CK = if l.all MethD.okB && cc then 0 else 1) := by show _ = _; rw [HCK.out, if_pos rfl, if_neg (by omega)]
  go_wp2_with fail
  go_loopw [12] (fun i wr => ∃ k : Nat, k ≤ n ∧ i = .int .i64 k ∧ Hid ((l.take k).all MethD.okB = true) ∧ Hid (Below W0.heap.size W0 wr)) (fun i _ => n - (intOf i).toNat)
  case atStart => exact ⟨0, Nat.zero_le _, rfl, rfl, HB1.out⟩
  case round =>
  clear HB1
  obtain ⟨k, hk, rfl, hA, hB⟩ := hrel
  obtain ⟨X, rfl⟩ : ∃ X : World, X = wr := ⟨_, rfl⟩
  by_cases hlt : k < n
  · obtain ⟨m, hmk⟩ : ∃ x, l[k]? = some x := ⟨_, List.getElem?_eq_getElem (by rw [HN.out]; exact hlt)⟩
    obtain ⟨g, o, rfl, HX⟩ := HD.out k m hmk
    obtain ⟨d0, d1⟩ := HX.out X (HB0.out.trans (hB.out.mono HB0.out.size))
    have CM := Lib.hid (refWrong_any m X)
    obtain ⟨mo, hmo⟩ : ∃ b, m.okB = b := ⟨_, rfl⟩
    rw [hmo] at CM
    have HNO : Hid (mo = false → l.all MethD.okB = false) := fun h1 => by
      rw [List.all_eq_false]
      exact ⟨m, List.mem_of_getElem? hmk, by rw [hmo, h1]; simp⟩
    have HNY : Hid (mo = true → (l.take (k + 1)).all MethD.okB = true) := fun h1 => all_next hA hmk (hmo.trans h1)
    have k0 : (0 : Int) ≤ (k : Int) := by omega
    have k1 : (k : Int) < (n : Int) := by omega
    clear hmk HX hmo hcn
    go_wp2_with fail
    refine CM.out.mono ?_
    rintro _ X2 ⟨rfl, hb2⟩
    have HB2 : Hid (Below W0.heap.size W0 X2) := hB.out.trans (hb2.mono hB.out.size)
    clear CM hb2 d0 d1 hB
    cases mo with
    | false =>
      have HKZ := Lib.hid (HKP.out X2 HB2.out)
      have c0 := cellOf HKZ.out 0 (x := .int .i64 0) rfl
      have c1 := cellOf HKZ.out 1 (x := .int .i64 0) rfl
      have c2' := cellOf HKZ.out 2 (x := .int .i64 0) rfl
      have f0 := HKZ.out.frozen 0
      have f1 := HKZ.out.frozen 1
      have f2 := HKZ.out.frozen 2
      have R' := put3_blk HKZ.out (.int .i64 0) (.int .i64 0) (.int .i64 0)
      have e0 := cellOf R' 0 (x := .int .i64 0) rfl
      have e1 := cellOf R' 1 (x := .int .i64 0) rfl
      have e2 := cellOf R' 2 (x := .int .i64 0) rfl
      have HFIN := Lib.hid (HPUT.out X2 0 0 0 HB2.out)
      have HEQ := Lib.hid (HERR.out 1 (by rw [HCK2.out, HNO.out rfl]; rfl) (by omega))
      clear R'
      go_wp2_with fail
      exact bodyPost_ret (v := .tuple #[.int .i64 0, .agg #[.int .i64 0, .int .i64 0, .int .i64 0], .int .i64 1]) (by simp [results, Try.results52, go_sem, e0, e1, e2]) rfl ⟨ret_choose HEQ.out.2.1.symm HEQ.out.2.2.1.symm HEQ.out.2.2.2.1.symm HEQ.out.2.2.2.2.symm HEQ.out.1.symm, HFIN.out⟩
    | true =>
      have HA2 := Lib.hid (HNY.out rfl)
      clear HNO HNY
      go_wp2_with fail
      go_roundw
      case rel => exact ⟨k + 1, by omega, by go_num, HA2, HB2⟩
      case measure => simp [intOf]; omega
  obtain rfl : k = n := by omega
  have HAL : Hid (l.all MethD.okB = true) := by
    have h1 := hA.out
    rw [List.take_of_length_le (by rw [HN.out]; omega)] at h1
    exact h1
  clear hA hcn
  go_wp2_with fail
  refine (C3.out _).mono ?_
  rintro _ _ ⟨rfl, rfl⟩
  cases cc with
  | false =>
    have HKZ := Lib.hid (HKP.out X hB.out)
    have c0 := cellOf HKZ.out 0 (x := .int .i64 0) rfl
    have c1 := cellOf HKZ.out 1 (x := .int .i64 0) rfl
    have c2' := cellOf HKZ.out 2 (x := .int .i64 0) rfl
    have f0 := HKZ.out.frozen 0
    have f1 := HKZ.out.frozen 1
    have f2 := HKZ.out.frozen 2
    have R' := put3_blk HKZ.out (.int .i64 0) (.int .i64 0) (.int .i64 0)
    have e0 := cellOf R' 0 (x := .int .i64 0) rfl
    have e1 := cellOf R' 1 (x := .int .i64 0) rfl
    have e2 := cellOf R' 2 (x := .int .i64 0) rfl
    have HFIN := Lib.hid (HPUT.out X 0 0 0 hB.out)
    have HEQ := Lib.hid (HERR.out 1 (by rw [HCK2.out, HAL.out]; rfl) (by omega))
    clear R'
    go_wp2_with fail
    exact bodyPost_ret (v := .tuple #[.int .i64 0, .agg #[.int .i64 0, .int .i64 0, .int .i64 0], .int .i64 1]) (by simp [results, Try.results52, go_sem, e0, e1, e2]) rfl ⟨ret_choose HEQ.out.2.1.symm HEQ.out.2.2.1.symm HEQ.out.2.2.2.1.symm HEQ.out.2.2.2.2.symm HEQ.out.1.symm, HFIN.out⟩
  | true =>
  have HC0 : Hid (CK = 0) := by show _ = _; rw [HCK2.out, HAL.out]; rfl
  have HO := Lib.hid (HOK.out HC0.out)
  have HRO : Hid (∀ j, ∀ x ∈ ratTo l h a b j, x.ok) := fun j => by
    obtain ⟨g1, g2, g3, g4⟩ := HO.out
    have hho := checkH_ok g1
    have hcc := costB_iff.1 g4
    exact ratTo_ok hho.1 (fun m hm => by
      have := scLoss_bd (g3 m hm) hho.2 hcc.1 hcc.2.1 h.length (Nat.le_refl _)
      have := hho.1
      omega) j
  have HRT : Hid (∀ m ∈ l, rateE m h a b = (if m.scored h then 0 else 4) ∧ (m.scored h = true → rateS m h a b = m.score h a b)) := fun m hm => by
    obtain ⟨g1, g2, g3, g4⟩ := HO.out
    have e1 : rateE m h a b = (if m.scored h then 0 else 4) := by
      unfold rateE MethD.scored
      rw [if_pos g1, g3 m hm, g4]
      by_cases hs : scDays m h.length = 0 <;> simp [hs]
    exact ⟨e1, fun hs => by unfold rateS; rw [e1, hs]; rfl⟩
  have HFI := Lib.hid (HRC.out HC0.out)
  have CR : Hid (∀ (m : MethD) (Y : World), Below W0.heap.size W0 Y → Calls Try.prog 51 #[.agg #[.int .i64 m.kind, .int .i64 m.days], vh, .int .i64 a, .int .i64 b] Y fun e w' => e = .returned (.tuple #[.agg #[.int .i64 (rateS m h a b).days, .int .i64 (rateS m h a b).n, .int .i64 (rateS m h a b).d], .int .i64 (rateE m h a b)]) ∧ Below Y.heap.size Y w') := fun m Y hY => refRate_any m h a b vh Y (HRY.out Y hY)
  have F1 : ∃ Z, X.alloc (.cells #[.int .i64 0, .int .i64 0, .int .i64 0] 110) = Z ∧ Hid (Below X.heap.size X Z) ∧ Hid (Blk Z X.heap.size 110 #[.int .i64 0, .int .i64 0, .int .i64 0]) := ⟨_, rfl, below_alloc _ _, Blk.new _ _ _⟩
  obtain ⟨Z, e1, HZ, HKQ⟩ := F1
  have E1 := Lib.hid e1
  obtain ⟨q, hq⟩ : ∃ q, X.heap.size = q := ⟨_, rfl⟩
  have HQ := Lib.hid hq
  rw [hq] at HKQ
  clear e1 hq HCK HCK2 HERR HRC HOK HAL HC0 C3
  go_upto_region 15 with fail
  rw [E1.out, HQ.out]
  clear E1
  go_wp2_with fail
  go_loopw [13, 15] (fun s i wr => ∃ (j : Nat) (t b1 b2 b3 : Int), j ≤ k ∧ i = .int .i64 j ∧ s = .int .i64 t ∧ Hid (t = rcAt (ratTo l h a b j) ∧ rcBest (ratTo l h a b j) = ⟨b1, b2, b3⟩) ∧ Hid (Blk wr q 110 #[.int .i64 b1, .int .i64 b2, .int .i64 b3]) ∧ Hid (Below X.heap.size X wr)) (fun _ i _ => k - (intOf i).toNat)
  case atStart => exact ⟨0, -1, 0, 0, 0, Nat.zero_le _, rfl, rfl, ⟨rfl, rfl⟩, HKQ.out, HZ.out⟩
  case round =>
  clear HKQ HZ
  obtain ⟨j, t, b1, b2, b3, hj, rfl, rfl, hst, hKq, hbx⟩ := hrel
  obtain ⟨U, rfl⟩ : ∃ U : World, U = wr := ⟨_, rfl⟩
  have HBU : Hid (Below W0.heap.size W0 U) := hB.out.trans (hbx.out.mono hB.out.size)
  by_cases hlt : j < k
  · obtain ⟨m, hmk⟩ : ∃ x, l[j]? = some x := ⟨_, List.getElem?_eq_getElem (by rw [HN.out]; exact hlt)⟩
    obtain ⟨g, o, rfl, HX⟩ := HD.out j m hmk
    obtain ⟨d0, d1⟩ := HX.out U (HB0.out.trans (HBU.out.mono HB0.out.size))
    have CR1 := Lib.hid (CR.out m U HBU.out)
    have HRM := Lib.hid (HRT.out m (List.mem_of_getElem? hmk))
    obtain ⟨sc, hsc⟩ : ∃ z, m.scored h = z := ⟨_, rfl⟩
    obtain ⟨S, hS⟩ : ∃ z, rateS m h a b = z := ⟨_, rfl⟩
    obtain ⟨E, hE⟩ : ∃ z, rateE m h a b = z := ⟨_, rfl⟩
    rw [hsc, hS, hE] at HRM
    rw [hS, hE] at CR1
    have HNX : Hid (ratTo l h a b (j + 1) = ratTo l h a b j ++ if sc then [⟨(j : Int), S.days, S.n, S.d⟩] else []) := by
      show ratTo l h a b j ++ ratOf l h a b j = _
      unfold ratOf
      rw [hmk]
      simp only [hsc]
      cases sc with
      | true => rw [HRM.out.2 rfl]
      | false => rfl
    obtain ⟨s1, hs1⟩ : ∃ z, S.days = z := ⟨_, rfl⟩
    obtain ⟨s2, hs2⟩ : ∃ z, S.n = z := ⟨_, rfl⟩
    obtain ⟨s3, hs3⟩ : ∃ z, S.d = z := ⟨_, rfl⟩
    rw [hs1, hs2, hs3] at HNX CR1
    have HE : Hid (E = if sc then 0 else 4) := HRM.out.1
    have k0 : (0 : Int) ≤ (j : Int) := by omega
    have k1 : (j : Int) < (k : Int) := by omega
    clear hmk HX hsc hS hE hs1 hs2 hs3 HRM
    go_wp2_with fail
    refine CR1.out.mono ?_
    rintro _ X2 ⟨rfl, hb2⟩
    have F3 : ∃ X3, X2.alloc (.cells #[.int .i64 s1, .int .i64 s2, .int .i64 s3] 110) = X3 ∧ Hid (Below X2.heap.size X2 X3) ∧ Hid (Blk X3 X2.heap.size 110 #[.int .i64 s1, .int .i64 s2, .int .i64 s3]) := ⟨_, rfl, below_alloc _ _, Blk.new _ _ _⟩
    obtain ⟨X3, e3, HX3, HKS⟩ := F3
    have E3 := Lib.hid e3
    have HB23 : Hid (Below U.heap.size U X3) := hb2.trans (HX3.out.mono hb2.size)
    have HBX3 : Hid (Below X.heap.size X X3) := hbx.out.trans (HB23.out.mono hbx.out.size)
    have HKq3 : Hid (Blk X3 q 110 #[.int .i64 b1, .int .i64 b2, .int .i64 b3]) := hKq.out.below HB23.out hKq.out.lt
    obtain ⟨sb, hsb⟩ : ∃ q, X2.heap.size = q := ⟨_, rfl⟩
    rw [hsb] at HKS
    have HSB := Lib.hid hsb
    clear CR1 hb2 e3 d0 d1 HX3 HB23 hsb hKq hbx HBU
    go_upto_region 19 with fail
    rw [E3.out, HSB.out]
    clear E3
    cases sc with
    | false =>
      have hE4 : E = 4 := HE.out
      subst hE4
      have HN2 : Hid (ratTo l h a b (j + 1) = ratTo l h a b j) := by show _ = _; rw [HNX.out]; simp
      have HST2 : Hid (t = rcAt (ratTo l h a b (j + 1)) ∧ rcBest (ratTo l h a b (j + 1)) = ⟨b1, b2, b3⟩) := by
        show _ ∧ _
        rw [HN2.out]
        exact hst.out
      clear HE HNX
      go_wp2_with fail
      go_roundw
      case rel => exact ⟨j + 1, t, b1, b2, b3, by omega, by go_num, rfl, HST2, HKq3, HBX3⟩
      case measure => simp [intOf]; omega
    | true =>
      have hE0 : E = 0 := HE.out
      subst hE0
      have HN2 : Hid (ratTo l h a b (j + 1) = ratTo l h a b j ++ [⟨(j : Int), s1, s2, s3⟩]) := by show _ = _; rw [HNX.out]; rfl
      have HNOK := Lib.hid (HRO.out (j + 1) ⟨(j : Int), s1, s2, s3⟩ (by rw [HN2.out]; simp))
      have hxo : (0 ≤ s2 ∧ s2 ≤ 4000000000) ∧ (1 ≤ s3 ∧ s3 ≤ 400) := HNOK.out
      obtain ⟨⟨s20, s21⟩, s30, s31⟩ := hxo
      have HPQ : Hid (Below X.heap.size X (((X3.setCell ⟨q, 0, none⟩ (.int .i64 s1)).setCell ⟨q, 1, none⟩ (.int .i64 s2)).setCell ⟨q, 2, none⟩ (.int .i64 s3))) := HBX3.out.trans ((put3_kept X3 q _ _ _).below (fun i hi => by rw [hi, HQ.out]; exact Nat.le_refl _) HBX3.out.size)
      have HPK : Hid (Blk (((X3.setCell ⟨q, 0, none⟩ (.int .i64 s1)).setCell ⟨q, 1, none⟩ (.int .i64 s2)).setCell ⟨q, 2, none⟩ (.int .i64 s3)) q 110 #[.int .i64 s1, .int .i64 s2, .int .i64 s3]) := put3_blk HKq3.out _ _ _
      have z0 := cellOf HKS.out 0 (x := .int .i64 s1) rfl
      have z1 := cellOf HKS.out 1 (x := .int .i64 s2) rfl
      have z2 := cellOf HKS.out 2 (x := .int .i64 s3) rfl
      have y0 := cellOf HKq3.out 0 (x := .int .i64 b1) rfl
      have y1 := cellOf HKq3.out 1 (x := .int .i64 b2) rfl
      have y2 := cellOf HKq3.out 2 (x := .int .i64 b3) rfl
      have f0 := HKq3.out.frozen 0
      have f1 := HKq3.out.frozen 1
      have f2 := HKq3.out.frozen 2
      have hsg := rcAt_sign (ratTo_m l h a b j)
      clear HE HNX HNOK
      by_cases hz : (ratTo l h a b j).length = 0
      · have ht : t = -1 := hst.out.1.trans (hsg.1 hz)
        have g1 : decide (t < 0) = true := by rw [ht]; rfl
        have HST2 : Hid ((j : Int) = rcAt (ratTo l h a b (j + 1)) ∧ rcBest (ratTo l h a b (j + 1)) = ⟨s1, s2, s3⟩) := by
          show _ ∧ _
          rw [HN2.out]
          have h1 := rc_first (L := ratTo l h a b j) ⟨(j : Int), s1, s2, s3⟩ hz
          exact ⟨h1.1.symm, h1.2⟩
        clear hsg hst hz ht
        go_wp2_with fail
        go_roundw
        case rel => exact ⟨j + 1, (j : Int), s1, s2, s3, by omega, by go_num, rfl, HST2, HPK, HPQ⟩
        case measure => simp [intOf]; omega
      · have ht : 0 ≤ t := by rw [hst.out.1]; exact hsg.2 hz
        have g1 : decide (t < 0) = false := by simp; omega
        have hbo := rcBest_ok (HRO.out j) hz
        rw [hst.out.2] at hbo
        obtain ⟨⟨b20, b21⟩, b30, b31⟩ : (0 ≤ b2 ∧ b2 ≤ 4000000000) ∧ (1 ≤ b3 ∧ b3 ≤ 400) := hbo
        have hP : 0 ≤ s2 * b3 ∧ s2 * b3 ≤ 4000000000 * 400 := ⟨Int.mul_nonneg s20 (by omega), Int.mul_le_mul s21 b31 (by omega) (by omega)⟩
        have hQ : 0 ≤ b2 * s3 ∧ b2 * s3 ≤ 4000000000 * 400 := ⟨Int.mul_nonneg b20 (by omega), Int.mul_le_mul b21 s31 (by omega) (by omega)⟩
        have HL1 : Hid (s2 * b3 < b2 * s3 → (j : Int) = rcAt (ratTo l h a b (j + 1)) ∧ rcBest (ratTo l h a b (j + 1)) = ⟨s1, s2, s3⟩) := fun h0 => by
          rw [HN2.out]
          have h1 := rc_less (L := ratTo l h a b j) ⟨(j : Int), s1, s2, s3⟩ hz (by rw [hst.out.2]; exact h0)
          exact ⟨h1.1.symm, h1.2⟩
        have HL2 : Hid (¬ s2 * b3 < b2 * s3 → t = rcAt (ratTo l h a b (j + 1)) ∧ rcBest (ratTo l h a b (j + 1)) = ⟨b1, b2, b3⟩) := fun h0 => by
          rw [HN2.out]
          have h1 := rc_more (L := ratTo l h a b j) ⟨(j : Int), s1, s2, s3⟩ hz (by rw [hst.out.2]; exact h0)
          rw [h1.1, h1.2]
          exact hst.out
        obtain ⟨P, hPe⟩ : ∃ z, s2 * b3 = z := ⟨_, rfl⟩
        obtain ⟨Q, hQe⟩ : ∃ z, b2 * s3 = z := ⟨_, rfl⟩
        rw [hPe] at hP HL1 HL2
        rw [hQe] at hQ HL1 HL2
        obtain ⟨P0, P1⟩ := hP
        obtain ⟨Q0, Q1⟩ := hQ
        clear hsg hst hz
        by_cases hPQ : P < Q
        · have HST2 := Lib.hid (HL1.out hPQ)
          go_wp2_with fail
          go_roundw
          case rel => exact ⟨j + 1, (j : Int), s1, s2, s3, by omega, by go_num, rfl, HST2, HPK, HPQ⟩
          case measure => simp [intOf]; omega
        · have HST2 := Lib.hid (HL2.out hPQ)
          go_wp2_with fail
          go_roundw
          case rel => exact ⟨j + 1, t, b1, b2, b3, by omega, by go_num, rfl, HST2, HKq3, HBX3⟩
          case measure => simp [intOf]; omega
  obtain rfl : j = k := by omega
  have hsg := rcAt_sign (ratTo_m l h a b j)
  by_cases hz : (ratTo l h a b j).length = 0
  · have ht : t = -1 := hst.out.1.trans (hsg.1 hz)
    have g1 : decide (t < 0) = true := by rw [ht]; rfl
    have HEQ0 := Lib.hid (HFI.out.1 hz)
    clear hsg hst hz ht
    have HKZ := Lib.hid (HKP.out U HBU.out)
    have c0 := cellOf HKZ.out 0 (x := .int .i64 0) rfl
    have c1 := cellOf HKZ.out 1 (x := .int .i64 0) rfl
    have c2' := cellOf HKZ.out 2 (x := .int .i64 0) rfl
    have f0 := HKZ.out.frozen 0
    have f1 := HKZ.out.frozen 1
    have f2 := HKZ.out.frozen 2
    have R' := put3_blk HKZ.out (.int .i64 0) (.int .i64 0) (.int .i64 0)
    have e0 := cellOf R' 0 (x := .int .i64 0) rfl
    have e1 := cellOf R' 1 (x := .int .i64 0) rfl
    have e2 := cellOf R' 2 (x := .int .i64 0) rfl
    have HFIN := Lib.hid (HPUT.out U 0 0 0 HBU.out)
    have HEQ := HEQ0
    clear R'
    go_wp2_with fail
    exact bodyPost_ret (v := .tuple #[.int .i64 0, .agg #[.int .i64 0, .int .i64 0, .int .i64 0], .int .i64 4]) (by simp [results, Try.results52, go_sem, e0, e1, e2]) rfl ⟨ret_choose HEQ.out.2.1.symm HEQ.out.2.2.1.symm HEQ.out.2.2.2.1.symm HEQ.out.2.2.2.2.symm HEQ.out.1.symm, HFIN.out⟩
  · have ht : 0 ≤ t := by rw [hst.out.1]; exact hsg.2 hz
    have g1 : decide (t < 0) = false := by simp; omega
    have HEQ : Hid (RE = 0 ∧ RR.m = t ∧ RR.days = b1 ∧ RR.n = b2 ∧ RR.d = b3) := by
      have h1 := HFI.out.2 hz
      rw [← hst.out.1, hst.out.2] at h1
      exact h1
    clear hsg hst hz
    have HKZ := Lib.hid (HKP.out U HBU.out)
    have r0 := cellOf HKZ.out 0 (x := .int .i64 0) rfl
    have r1 := cellOf HKZ.out 1 (x := .int .i64 0) rfl
    have r2 := cellOf HKZ.out 2 (x := .int .i64 0) rfl
    have f0 := HKZ.out.frozen 0
    have f1 := HKZ.out.frozen 1
    have f2 := HKZ.out.frozen 2
    have s0 := cellOf hKq.out 0 (x := .int .i64 b1) rfl
    have s1 := cellOf hKq.out 1 (x := .int .i64 b2) rfl
    have s2 := cellOf hKq.out 2 (x := .int .i64 b3) rfl
    have r0' := cellOf HKZ.out.drew_ 0 (x := .int .i64 0) rfl
    have r1' := cellOf HKZ.out.drew_ 1 (x := .int .i64 0) rfl
    have r2' := cellOf HKZ.out.drew_ 2 (x := .int .i64 0) rfl
    have f0' := HKZ.out.drew_.frozen 0
    have f1' := HKZ.out.drew_.frozen 1
    have f2' := HKZ.out.drew_.frozen 2
    have s0' := cellOf hKq.out.drew_ 0 (x := .int .i64 b1) rfl
    have s1' := cellOf hKq.out.drew_ 1 (x := .int .i64 b2) rfl
    have s2' := cellOf hKq.out.drew_ 2 (x := .int .i64 b3) rfl
    have R' := put3_blk HKZ.out.drew_ (.int .i64 b1) (.int .i64 b2) (.int .i64 b3)
    have HFIN := Lib.hid (HPUT.out U b1 b2 b3 HBU.out).drew
    have e0 := cellOf (put3_blk HKZ.out (.int .i64 b1) (.int .i64 b2) (.int .i64 b3)).drew_ 0 (x := .int .i64 b1) rfl
    have e1 := cellOf (put3_blk HKZ.out (.int .i64 b1) (.int .i64 b2) (.int .i64 b3)).drew_ 1 (x := .int .i64 b2) rfl
    have e2 := cellOf (put3_blk HKZ.out (.int .i64 b1) (.int .i64 b2) (.int .i64 b3)).drew_ 2 (x := .int .i64 b3) rfl
    clear R'
    go_upto_region 24 with fail
    go_region
    clear s0 s1 s2 s0' s1' s2' r0 r1 r2 r0' r1' r2' f0 f1 f2 f0' f1' f2'
    go_wp2_with fail
    exact bodyPost_ret (v := .tuple #[.int .i64 t, .agg #[.int .i64 b1, .int .i64 b2, .int .i64 b3], .int .i64 0]) (by simp [results, Try.results52, go_sem, e0, e1, e2]) rfl ⟨ret_choose HEQ.out.2.1.symm HEQ.out.2.2.1.symm HEQ.out.2.2.2.1.symm HEQ.out.2.2.2.2.symm HEQ.out.1.symm, HFIN.out⟩
end Go.Proofs.Ytlmpbmlbllndcaa
