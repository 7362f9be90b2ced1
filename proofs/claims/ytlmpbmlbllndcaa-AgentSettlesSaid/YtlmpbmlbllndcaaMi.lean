/-
  settles: the program's Settle beside the reference's.
-/
import Derived.Test.YtlmpbmlbllndcaaMh
import Derived.Test.YtlmpbmlbllndcaaMc
namespace Go.Proofs.Ytlmpbmlbllndcaa
open Go.RowKit
attribute [local go_sem] Oper.semAt_some

theorem acc_put {Z Y : World} {B b : Nat} {v u x : Value} {u0 x0 : Value} {L : List LineD} (hK : Blk Y b 137 #[u0, x0]) (hR : ORLns B Y v L) (hB : Below Z.heap.size Z Y) (hb : Z.heap.size ≤ b) :
    Blk ((Y.setCell ⟨b, 0, none⟩ u).setCell ⟨b, 1, none⟩ x) b 137 #[u, x] ∧ ORLns B ((Y.setCell ⟨b, 0, none⟩ u).setCell ⟨b, 1, none⟩ x) v L ∧ Below Z.heap.size Z ((Y.setCell ⟨b, 0, none⟩ u).setCell ⟨b, 1, none⟩ x) := by
  have hk : KeptBut (fun i => i = b) Y ((Y.setCell ⟨b, 0, none⟩ u).setCell ⟨b, 1, none⟩ x) := (KeptBut.setCell (S := fun i => i = b) rfl _).trans (KeptBut.setCell (S := fun i => i = b) rfl _) fun _ _ h => h
  exact ⟨(hK.put 0 u).put 1 x, ownsRow_keptBut hR hk fun g cs _ hB e => by subst e; exact Blk.ne hB hK (by decide) rfl, hB.trans (hk.below (fun i hi => by rw [hi]; exact hb) hB.size)⟩
theorem acc_new {Z Y : World} {B : Nat} {v u x : Value} {L : List LineD} (hR : ORLns B Y v L) (hB : Below Z.heap.size Z Y) :
    Blk (Y.alloc (.cells #[u, x] 137)) Y.heap.size 137 #[u, x] ∧ ORLns B (Y.alloc (.cells #[u, x] 137)) v L ∧ Below Z.heap.size Z (Y.alloc (.cells #[u, x] 137)) :=
  ⟨Blk.new _ _ _, ownsRow_below hR (below_alloc _ _), sbelow_al hB _⟩
theorem rl_own {B : Nat} {w : World} {v : Value} {L : List LineD} (h : ORLns B w v L) : RLns w.heap.size w v L := Rd.own h (own_le h)
set_option maxRecDepth 1000000 in
set_option maxHeartbeats 4000000 in
theorem settles_any (t : TarD) (l : List DayD) (m : List Int) (hl : l.length ≤ 1000000) (hml : m.length ≤ 1000000) (v vm : Value) (w : World) (h : RDays w.heap.size w v l) (hm : RInts w.heap.size w vm m) :
    Calls Try.prog 21 #[.agg #[.int .i64 t.price, .int .i64 t.back, .int .i64 t.late, .int .i64 t.carry, .int .i64 t.credit], v, vm] w fun e w' => e = .returned (.bool true) ∧ Below w.heap.size w w' := by
  have HR := Lib.hid h
  have HM := Lib.hid hm
  obtain ⟨A, c, rfl, -, -⟩ := days_later h
  obtain ⟨A2, c2, rfl, -, -⟩ := ints_later hm
  obtain ⟨n, hn⟩ : ∃ n, l.length = n := ⟨_, rfl⟩
  obtain ⟨n2, hn2⟩ : ∃ n, m.length = n := ⟨_, rfl⟩
  have HN := Lib.hid hn
  have HN2 := Lib.hid hn2
  have HL := Lib.hid hl
  have HML := Lib.hid hml
  rw [hn] at HR ⊢
  rw [hn2] at HM ⊢
  have F0 : ∃ W0, w.alloc (.cells #[.int .i64 t.price, .int .i64 t.back, .int .i64 t.late, .int .i64 t.carry, .int .i64 t.credit] 37) = W0 ∧ Hid (Below w.heap.size w W0) ∧ Hid (Blk W0 w.heap.size 37 #[.int .i64 t.price, .int .i64 t.back, .int .i64 t.late, .int .i64 t.carry, .int .i64 t.credit]) :=
    ⟨_, rfl, below_alloc _ _, Blk.new _ _ _⟩
  obtain ⟨W0, e0, HB0, HK0⟩ := F0
  have E0 := Lib.hid e0
  obtain ⟨p, hp⟩ : ∃ p, w.heap.size = p := ⟨_, rfl⟩
  have HP := Lib.hid hp
  have HTK : Hid (∀ Y, Below W0.heap.size W0 Y → Y.cell? ⟨p, 0, none⟩ = some (.int .i64 t.price) ∧ Y.cell? ⟨p, 1, none⟩ = some (.int .i64 t.back) ∧ Y.cell? ⟨p, 2, none⟩ = some (.int .i64 t.late) ∧ Y.cell? ⟨p, 3, none⟩ = some (.int .i64 t.carry) ∧ Y.cell? ⟨p, 4, none⟩ = some (.int .i64 t.credit)) := fun Y hY => by
    rw [← HP.out]
    have h1 := HK0.out.below hY HK0.out.lt
    exact ⟨cellOf h1 0 rfl, cellOf h1 1 rfl, cellOf h1 2 rfl, cellOf h1 3 rfl, cellOf h1 4 rfl⟩
  have HRY : Hid (∀ Y, Below W0.heap.size W0 Y → RDays Y.heap.size Y (.slice A n c) l) := fun Y hY => (Rd.below HR.out (HB0.out.trans (hY.mono HB0.out.size))).more (Nat.le_trans HB0.out.size hY.size)
  have HMY : Hid (∀ Y, Below W0.heap.size W0 Y → RInts Y.heap.size Y (.slice A2 n2 c2) m) := fun Y hY => (Rd.below HM.out (HB0.out.trans (hY.mono HB0.out.size))).more (Nat.le_trans HB0.out.size hY.size)
  have C1 := Lib.hid (cloneDays_any l hl (.slice A n c) W0 (HRY.out W0 (Below.refl _ _)))
  obtain ⟨SU, hSU⟩ : ∃ z, accS t l m = z := ⟨_, rfl⟩
  obtain ⟨ER, hER⟩ : ∃ z, setE t l m = z := ⟨_, rfl⟩
  obtain ⟨LL, hLL⟩ : ∃ z, accL t l m = z := ⟨_, rfl⟩
  have HSU := Lib.hid hSU
  have HER := Lib.hid hER
  have HLL := Lib.hid hLL
  clear h hm hn hn2 hl hml e0 hp HK0 hSU hER hLL
  go_enter Try.func21, Try.ntmps21
  go_upto_region 1 with fail
  rw [E0.out, HP.out]
  clear E0
  go_wp2_with fail
  refine C1.out.mono ?_
  rintro _ Y1 ⟨u, rfl, hO1, hb1⟩
  have HB1 := Lib.hid hb1
  have HO1 := Lib.hid hO1
  obtain ⟨B1, d1, rfl⟩ := ownsRow_form hO1
  rw [HN.out] at HO1 ⊢
  have C2 := Lib.hid (cloneInts_any m HML.out (.slice A2 n2 c2) Y1 (HMY.out Y1 HB1.out))
  clear C1 hO1 hb1
  go_wp2_with fail
  refine C2.out.mono ?_
  rintro _ Y2 ⟨u, rfl, hO2, hb2⟩
  have HB2 : Hid (Below W0.heap.size W0 Y2) := HB1.out.trans (hb2.mono HB1.out.size)
  have HO2 := Lib.hid hO2
  obtain ⟨B2, d2, rfl⟩ := ownsRow_form hO2
  have HOW : Hid (∀ Y, Below Y2.heap.size Y2 Y → RDays Y.heap.size Y (.slice B1 n d1) l) := fun Y hY => by
    have h1 : RDays Y1.heap.size Y1 (.slice B1 n d1) l := by show Rd _ _ _ _ _ _; rw [HN.out]; exact Rd.own HO1.out (own_le HO1.out)
    have h2 : Below Y1.heap.size Y1 Y := hb2.trans (hY.mono hb2.size)
    exact (Rd.below h1 h2).more h2.size
  have HOI : Hid (∀ Y, Below Y2.heap.size Y2 Y → RInts Y.heap.size Y (.slice B2 n2 d2) m) := fun Y hY => by
    have h1 : RInts Y2.heap.size Y2 (.slice B2 m.length d2) m := Rd.own HO2.out (own_le HO2.out)
    rw [HN2.out] at h1
    exact (Rd.below h1 hY).more hY.size
  rw [HN2.out]
  obtain ⟨t0, t1, t2, t3, t4⟩ := HTK.out Y2 HB2.out
  have C3 := Lib.hid (Settle_any t l m (.slice B1 n d1) (.slice B2 n2 d2) Y2 (HOW.out Y2 (Below.refl _ _)) (HOI.out Y2 (Below.refl _ _)))
  clear C2 hO2 hb2 HB1 HO1 HO2
  go_upto_region 2 with fail
  go_wp2_with (go_at_call 37; refine C3.out.mono ?_; rintro _ Y3 ⟨u, rfl, HOL, HB3⟩; obtain ⟨B3, d3, rfl⟩ := ownsRow_form HOL.out; rw [HSU.out, HER.out, HLL.out])
  rw [HLL.out] at HOL
  obtain ⟨nl, hnl⟩ : ∃ z, LL.length = z := ⟨_, rfl⟩
  have HNL := Lib.hid hnl
  rw [hnl] at HOL ⊢
  have HB3' : Hid (Below W0.heap.size W0 Y3) := HB2.out.trans (HB3.out.mono HB2.out.size)
  have F4 : ∃ Z, Y3.alloc (.cells #[.slice B3 nl d3, .int .i64 SU] 80) = Z ∧ Hid (Below W0.heap.size W0 Z) ∧ Hid (Below Y2.heap.size Y2 Z) ∧ Hid (Blk Z Y3.heap.size 80 #[.slice B3 nl d3, .int .i64 SU]) ∧ Hid (RLns Z.heap.size Z (.slice B3 nl d3) LL) := by
    refine ⟨_, rfl, sbelow_al HB3'.out _, sbelow_al HB3.out _, Blk.new _ _ _, ?_⟩
    have h1 : RLns Y3.heap.size Y3 (.slice B3 nl d3) LL := by
      have h0 := Rd.own HOL.out (own_le HOL.out)
      exact h0
    exact (Rd.below h1 (below_alloc _ _)).more (below_alloc _ _).size
  obtain ⟨Z, e4, HZ, HZ2, HKA, HRA⟩ := F4
  have E4 := Lib.hid e4
  obtain ⟨pa, hpa⟩ : ∃ q, Y3.heap.size = q := ⟨_, rfl⟩
  have HPA := Lib.hid hpa
  rw [hpa] at HKA
  have HT : Hid (∀ Y, Below Z.heap.size Z Y → Y.cell? ⟨p, 0, none⟩ = some (.int .i64 t.price) ∧ Y.cell? ⟨p, 1, none⟩ = some (.int .i64 t.back) ∧ Y.cell? ⟨p, 2, none⟩ = some (.int .i64 t.late) ∧ Y.cell? ⟨p, 3, none⟩ = some (.int .i64 t.carry) ∧ Y.cell? ⟨p, 4, none⟩ = some (.int .i64 t.credit)) := fun Y hY => HTK.out Y (HZ.out.trans (hY.mono HZ.out.size))
  have CD : Hid (∀ Y, Below Z.heap.size Z Y → Calls Try.prog 41 #[.slice A n c] Y fun e w' => ∃ A' c', e = .returned (.slice A' n c') ∧ Hid (Below Y.heap.size Y w') ∧ Hid (∀ X, Below w'.heap.size w' X → RDays X.heap.size X (.slice A' n c') l)) := fun Y hY => by
    refine (days_any l HL.out (.slice A n c) Y (HRY.out Y (HZ.out.trans (hY.mono HZ.out.size)))).mono ?_
    rintro _ w' ⟨A', c', rfl, hO, hb⟩
    rw [HN.out] at hO ⊢
    refine ⟨A', c', rfl, hb, fun X hX => ?_⟩
    have h1 : RDays w'.heap.size w' (.slice A' n c') l := by show Rd _ _ _ _ _ _; rw [HN.out]; exact Rd.own hO (own_le hO)
    exact (Rd.below h1 hX).more hX.size
  have CS : Hid (∀ Y A' c', Below Z.heap.size Z Y → RDays Y.heap.size Y (.slice A' n c') l → Calls Try.prog 71 #[.agg #[.int .i64 t.price, .int .i64 t.back, .int .i64 t.late, .int .i64 t.carry, .int .i64 t.credit], .slice A' n c', .slice A2 n2 c2] Y fun e w' => ∃ B d, e = .returned (.tuple #[.agg #[.slice B nl d, .int .i64 SU], .int .i64 ER]) ∧ Hid (ORLns Y.heap.size w' (.slice B nl d) LL) ∧ Hid (Below Y.heap.size Y w')) := fun Y A' c' hY hD => by
    refine (refSettle_any t l m (.slice A' n c') (.slice A2 n2 c2) Y hD (HMY.out Y (HZ.out.trans (hY.mono HZ.out.size)))).mono ?_
    rintro _ w' ⟨u, rfl, hO, hb⟩
    obtain ⟨B, d, rfl⟩ := ownsRow_form hO.out
    rw [HSU.out, HER.out]
    rw [HLL.out] at hO ⊢
    rw [HNL.out] at hO ⊢
    exact ⟨B, d, rfl, hO, hb⟩
  clear e4 hpa hnl C3 t0 t1 t2 t3 t4 HOL HB3 HB3' HB2
  go_upto_region 3 with fail
  rw [E4.out, HPA.out]
  clear E4
  go_cut [11, 12] from 24 to 31 (fun s11 s12 wx => ∃ (ac : Nat) (B : Option Addr) (d : Nat), s11 = .pointer (some ⟨ac, 0, none⟩) ∧ s12 = .int .i64 ER ∧ Hid (Blk wx ac 137 #[.slice B nl d, .int .i64 SU] ∧ RLns wx.heap.size wx (.slice B nl d) LL) ∧ Hid (Below Z.heap.size Z wx))
  case first =>
    have S1 := HT.out Z (Below.refl _ _)
    have HD0 : Hid (Below Z.heap.size Z Z.drew) := (Below.refl _ _).drew
    have HDA : Hid (∀ o, Below Z.heap.size Z (Z.alloc o).drew) := fun o => (below_alloc _ o).drew
    clear HRY HMY HOW HOI HTK HRA HKA HZ HZ2
    go_region_held3 (fun X => X.cell? ⟨p, 0, none⟩ = some (.int .i64 t.price) ∧ X.cell? ⟨p, 1, none⟩ = some (.int .i64 t.back) ∧ X.cell? ⟨p, 2, none⟩ = some (.int .i64 t.late) ∧ X.cell? ⟨p, 3, none⟩ = some (.int .i64 t.carry) ∧ X.cell? ⟨p, 4, none⟩ = some (.int .i64 t.credit))
      (first | with_reducible exact T2 | with_reducible exact T1 | with_reducible exact S1 | with_reducible exact HT.out _ ((H2.out.setCell (p := ⟨_, 0, none⟩) (Nat.le_refl _) _).setCell (p := ⟨_, 1, none⟩) (Nat.le_refl _) _) | with_reducible exact HT.out _ ((H2.out.setCell (p := ⟨_, 0, none⟩) HSZ.out _).setCell (p := ⟨_, 1, none⟩) HSZ.out _) | with_reducible exact HT.out _ (sbelow_al H2.out _) | go_keep)
      (first | (go_at_call 41; with_reducible refine (CD.out _ HD0.out).mono ?_; rintro _ y1 ⟨A', c', rfl, HY1, HRD⟩; have H1 := Lib.hid (HD0.out.trans (HY1.out.mono HD0.out.size)); have T1 := HT.out y1 H1.out)
             | (go_at_call 41; with_reducible refine (CD.out _ (HDA.out _)).mono ?_; rintro _ y1 ⟨A', c', rfl, HY1, HRD⟩; have H1 := Lib.hid ((HDA.out _).trans (HY1.out.mono (HDA.out _).size)); have T1 := HT.out y1 H1.out; have K := Lib.hid (((Blk.new Z 137 #[.slice none 0 0, .int .i64 0]).drew_).below HY1.out ((Blk.new Z 137 #[.slice none 0 0, .int .i64 0]).drew_).lt))
             | (go_at_call 71; with_reducible refine (CS.out _ _ _ H1.out (HRD.out _ (Below.refl _ _))).mono ?_; rintro _ y2 ⟨B, d, rfl, HRL, HY2⟩; have H2 := Lib.hid (H1.out.trans (HY2.out.mono H1.out.size)); have T2 := HT.out y2 H2.out; have K2 := Lib.hid (K.out.below HY2.out K.out.lt); have a0 := cellOf K2.out 0 (x := .slice none 0 0) rfl; have a1 := cellOf K2.out 1 (x := .int .i64 0) rfl; have f0 := K2.out.frozen 0; have f1 := K2.out.frozen 1)
             | (go_at_call 71; with_reducible refine (CS.out _ _ _ H1.out (HRD.out _ (Below.refl _ _))).mono ?_; rintro _ y2 ⟨B, d, rfl, HRL, HY2⟩; have H2 := Lib.hid (H1.out.trans (HY2.out.mono H1.out.size)); have T2 := HT.out y2 H2.out)
             | (go_at_call 71; with_reducible refine (CS.out _ _ _ (sbelow_al H1.out _) (HRD.out _ (below_alloc _ _))).mono ?_; rintro _ y2 ⟨B, d, rfl, HRL, HY2⟩; have H2 := Lib.hid ((sbelow_al H1.out _).trans (HY2.out.mono (sbelow_al H1.out _).size)); have T2 := HT.out y2 H2.out; have K2 := Lib.hid ((Blk.new y1 137 #[.slice none 0 0, .int .i64 0]).below HY2.out (Blk.new y1 _ _).lt); have HSZ := Lib.hid H1.out.size; have a0 := cellOf K2.out 0 (x := .slice none 0 0) rfl; have a1 := cellOf K2.out 1 (x := .int .i64 0) rfl; have f0 := K2.out.frozen 0; have f1 := K2.out.frozen 1))
    all_goals
      clear S1
      go_wp2_with fail
      go_meet
      first
        | exact ⟨_, _, _, rfl, rfl, ⟨(acc_new HRL.out H2.out).1, rl_own (acc_new HRL.out H2.out).2.1⟩, (acc_new HRL.out H2.out).2.2⟩
        | exact ⟨_, _, _, rfl, rfl, ⟨(acc_put K2.out HRL.out H2.out (Nat.le_refl _)).1, rl_own (acc_put K2.out HRL.out H2.out (Nat.le_refl _)).2.1⟩, (acc_put K2.out HRL.out H2.out (Nat.le_refl _)).2.2⟩
        | exact ⟨_, _, _, rfl, rfl, ⟨(acc_put K2.out HRL.out H2.out HSZ.out).1, rl_own (acc_put K2.out HRL.out H2.out HSZ.out).2.1⟩, (acc_put K2.out HRL.out H2.out HSZ.out).2.2⟩
  case rest =>
  obtain ⟨ac, B5, d5, rfl, rfl, hbr, hbe⟩ := hcut
  have HWC : Hid (Below W0.heap.size W0 wc) := HZ.out.trans (hbe.out.mono HZ.out.size)
  have HWC2 : Hid (Below Y2.heap.size Y2 wc) := HZ2.out.trans (hbe.out.mono HZ2.out.size)
  have hka := HKA.out.below hbe.out HKA.out.lt
  have a0 := cellOf hka 0 (x := .slice B3 nl d3) rfl
  have a1 := cellOf hka 1 (x := .int .i64 SU) rfl
  have b0 := cellOf hbr.out.1 0 (x := .slice B5 nl d5) rfl
  have b1 := cellOf hbr.out.1 1 (x := .int .i64 SU) rfl
  have CA := Lib.hid (account_same (.slice B3 nl d3) (.slice B5 nl d5) SU LL wc ((Rd.below HRA.out hbe.out).more hbe.out.size) hbr.out.2)
  have CE : Hid (∀ Y, Below wc.heap.size wc Y → Calls Try.prog 45 #[.slice B1 n d1, .slice A n c] Y fun e w' => e = .returned (.bool true) ∧ Below Y.heap.size Y w') := fun Y hY => by
    have h1 := eqDays_any (.slice B1 n d1) (.slice A n c) l l Y (HOW.out Y (HWC2.out.trans (hY.mono HWC2.out.size))) (HRY.out Y (HWC.out.trans (hY.mono HWC.out.size)))
    simpa using h1
  have CI : Hid (∀ Y, Below wc.heap.size wc Y → Calls Try.prog 48 #[.slice B2 n2 d2, .slice A2 n2 c2] Y fun e w' => e = .returned (.bool true) ∧ Below Y.heap.size Y w') := fun Y hY => by
    have h1 := eqInts_any (.slice B2 n2 d2) (.slice A2 n2 c2) m m Y (HOI.out Y (HWC2.out.trans (hY.mono HWC2.out.size))) (HMY.out Y (HWC.out.trans (hY.mono HWC.out.size)))
    simpa using h1
  have hee : (ER == ER) = true := by simp
  have HBw : Hid (Below w.heap.size w wc) := HB0.out.trans (HWC.out.mono HB0.out.size)
  clear hka CD CS HT HRY HMY HOW HOI HTK HRA HKA HZ HZ2 hbr hbe
  go_upto_region 4 with fail
  go_wp2_with (go_at_call 66; refine CA.out.mono ?_; rintro _ v1 ⟨rfl, hv1⟩; have HV1 := Lib.hid hv1; clear hv1)
  go_wp2_with (go_at_call 45; refine (CE.out v1 HV1.out).mono ?_; rintro _ v2 ⟨rfl, hv2⟩; have HV2 := Lib.hid (HV1.out.trans (hv2.mono HV1.out.size)); clear hv2)
  go_wp2_with (go_at_call 48; refine (CI.out v2 HV2.out).mono ?_; rintro _ v3 ⟨rfl, hv3⟩; have HV3 := Lib.hid (HV2.out.trans (hv3.mono HV2.out.size)); clear hv3)
  go_ret
  exact ⟨rfl, HBw.out.trans (HV3.out.mono HBw.out.size)⟩
end Go.Proofs.Ytlmpbmlbllndcaa
