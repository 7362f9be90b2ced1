/-
  checkMethods, Choose and Rate, whatever they are given.
-/
import Derived.Test.YtlmpbmlbllndcaaMbk
namespace Go.Proofs.Ytlmpbmlbllndcaa
open Go.RowKit
attribute [local go_sem] Oper.semAt_some

/-- The first error of methods that are to be scored. -/
def choChk (l : List MethD) (h : List DayD) (a b : Int) : Int := if checkH h = 0 then (if 40 < l.length then 2 else if l.all MethD.okB && costB a b then 0 else 1) else checkH h
theorem choChk_ok {l : List MethD} {h : List DayD} {a b : Int} (hc : choChk l h a b = 0) : checkH h = 0 ∧ l.length ≤ 40 ∧ (∀ m ∈ l, m.okB = true) ∧ costB a b = true := by
  unfold choChk at hc
  by_cases h1 : checkH h = 0
  · rw [if_pos h1] at hc
    by_cases h2 : 40 < l.length
    · rw [if_pos h2] at hc; omega
    · rw [if_neg h2] at hc
      cases h3 : l.all MethD.okB && costB a b with
      | true =>
        rw [Bool.and_eq_true] at h3
        exact ⟨h1, by omega, fun m hm => List.all_eq_true.1 h3.1 m hm, h3.2⟩
      | false => rw [h3] at hc; simp at hc
  · rw [if_neg h1] at hc; exact absurd hc h1
set_option maxRecDepth 100000 in
set_option maxHeartbeats 4000000 in
theorem checkMeths_any (l : List MethD) (h : List DayD) (ca cb : Int) (v vh : Value) (w : World) (hv : RMeths w.heap.size w v l) (hvh : RDays w.heap.size w vh h) :
    Calls Try.prog 76 #[v, vh, .agg #[.int .i64 ca, .int .i64 cb]] w fun e w' => e = .returned (.int .i64 (choChk l h ca cb)) ∧ Below w.heap.size w w' := by
  have HV := Lib.hid hv
  have HVH := Lib.hid hvh
  obtain ⟨A, c, rfl, hlm, HD⟩ := meths_later hv
  obtain ⟨n, hn⟩ : ∃ n, l.length = n := ⟨_, rfl⟩
  have HN := Lib.hid hn
  rw [hn] at hlm HV ⊢
  obtain ⟨ch, hch⟩ : ∃ x, checkH h = x := ⟨_, rfl⟩
  obtain ⟨cc, hcc⟩ : ∃ x, costB ca cb = x := ⟨_, rfl⟩
  obtain ⟨RE, hRE⟩ : ∃ x, choChk l h ca cb = x := ⟨_, rfl⟩
  have HE : Hid (RE = if ch = 0 then (if 40 < n then 2 else if l.all MethD.okB && cc then 0 else 1) else ch) := by
    show _ = _
    rw [← hRE]
    unfold choChk
    rw [hch, hcc, hn]
  rw [hRE]
  have F0 : ∃ W0, w.alloc (.cells #[.int .i64 ca, .int .i64 cb] 148) = W0 ∧ Hid (Below w.heap.size w W0) ∧ Hid (Blk W0 w.heap.size 148 #[.int .i64 ca, .int .i64 cb]) := ⟨_, rfl, below_alloc _ _, Blk.new _ _ _⟩
  obtain ⟨W0, e0, HB0, HK0⟩ := F0
  have E0 := Lib.hid e0
  have C1 := Lib.hid (Check_any h vh W0 ((Rd.below hvh HB0.out).more HB0.out.size))
  rw [hch] at C1
  have C2 := Lib.hid (fun w => areRight_any ca cb w)
  rw [hcc] at C2
  obtain ⟨p, hp⟩ : ∃ p, w.heap.size = p := ⟨_, rfl⟩
  rw [hp] at HK0
  have HP := Lib.hid hp
  clear hv hvh hn hch hcc hRE e0 hp
  go_enter Try.func76, Try.ntmps76
  go_upto_region 1 with fail
  rw [E0.out, HP.out]
  clear E0
  go_wp2_with fail
  refine C1.out.mono ?_
  rintro _ W1 ⟨rfl, hb1⟩
  have HB1 := Lib.hid hb1
  have HBW1 : Hid (Below w.heap.size w W1) := HB0.out.trans (hb1.mono HB0.out.size)
  clear C1 hb1
  by_cases hc0 : ch = 0
  case neg =>
    have hcn : (ch != 0) = true := by simpa using hc0
    have HX : Hid (RE = ch) := by show _ = _; rw [HE.out, if_neg hc0]
    clear hc0
    go_wp2_with fail
    go_ret
    exact ⟨ri HX.out, HBW1.out⟩
  subst hc0
  have hcn : ((0 : Int) != 0) = false := rfl
  by_cases h40 : (40 : Int) < (n : Int)
  case pos =>
    have HX : Hid (RE = 2) := by show _ = _; rw [HE.out, if_pos rfl, if_pos (by omega)]
    go_wp2_with fail
    go_ret
    exact ⟨ri HX.out, HBW1.out⟩
  have HE2 : Hid (RE = if l.all MethD.okB && cc then 0 else 1) := by show _ = _; rw [HE.out, if_pos rfl, if_neg (by omega)]
  go_wp2_with fail
  go_loopw [20] (fun i wr => ∃ k : Nat, k ≤ n ∧ i = .int .i64 k ∧ Hid ((l.take k).all MethD.okB = true) ∧ Hid (Below W0.heap.size W0 wr)) (fun i _ => n - (intOf i).toNat)
  case atStart => exact ⟨0, Nat.zero_le _, rfl, rfl, HB1.out⟩
  case round =>
  clear HB1 HBW1
  obtain ⟨k, hk, rfl, hA, hB⟩ := hrel
  obtain ⟨X, rfl⟩ : ∃ X : World, X = wr := ⟨_, rfl⟩
  by_cases hlt : k < n
  · obtain ⟨m, hmk⟩ : ∃ x, l[k]? = some x := ⟨_, List.getElem?_eq_getElem (by rw [HN.out]; exact hlt)⟩
    obtain ⟨g, o, rfl, HX⟩ := HD.out k m hmk
    obtain ⟨c0, c1⟩ := HX.out X (HB0.out.trans (hB.out.mono HB0.out.size))
    have F1 : ∃ X1, X.alloc (.cells #[.int .i64 m.kind, .int .i64 m.days] 56) = X1 ∧ Hid (Below X.heap.size X X1) ∧ Hid (Blk X1 X.heap.size 56 #[.int .i64 m.kind, .int .i64 m.days]) := ⟨_, rfl, below_alloc _ _, Blk.new _ _ _⟩
    obtain ⟨X1, e1, HX1, HK1⟩ := F1
    have E1 := Lib.hid e1
    have HBX1 : Hid (Below W0.heap.size W0 X1) := hB.out.trans (HX1.out.mono hB.out.size)
    have CM := Lib.hid (methRight_any m X1)
    obtain ⟨mo, hmo⟩ : ∃ b, m.okB = b := ⟨_, rfl⟩
    rw [hmo] at CM
    have HNO : Hid (mo = false → l.all MethD.okB = false) := fun h1 => by
      rw [List.all_eq_false]
      exact ⟨m, List.mem_of_getElem? hmk, by rw [hmo, h1]; simp⟩
    have HNY : Hid (mo = true → (l.take (k + 1)).all MethD.okB = true) := fun h1 => all_next hA hmk (hmo.trans h1)
    have d0 := cellOf HK1.out 0 (x := .int .i64 m.kind) rfl
    have d1 := cellOf HK1.out 1 (x := .int .i64 m.days) rfl
    have k0 : (0 : Int) ≤ (k : Int) := by omega
    have k1 : (k : Int) < (n : Int) := by omega
    clear hmk HX e1 hB HX1 HK1 h40 hcn hmo
    go_upto_region 9 with fail
    rw [E1.out]
    clear E1 c0 c1
    go_wp2_with fail
    refine CM.out.mono ?_
    rintro _ X2 ⟨rfl, hb2⟩
    have HB2 : Hid (Below W0.heap.size W0 X2) := HBX1.out.trans (hb2.mono HBX1.out.size)
    clear CM hb2 d0 d1
    cases mo with
    | false =>
      have HX : Hid (RE = 1) := by show _ = _; rw [HE2.out, HNO.out rfl]; rfl
      have HBF : Hid (Below w.heap.size w X2) := HB0.out.trans (HB2.out.mono HB0.out.size)
      clear HNO HNY
      go_wp2_with fail
      go_ret
      exact ⟨ri HX.out, HBF.out⟩
    | true =>
      have HA2 := Lib.hid (HNY.out rfl)
      clear HNO HNY
      go_wp2_with fail
      go_roundw
      case rel => exact ⟨k + 1, by omega, by go_num, HA2, HB2⟩
      case measure => simp [intOf]; omega
  · have HK2 := Lib.hid (HK0.out.below hB.out HK0.out.lt)
    have d0 := cellOf HK2.out 0 (x := .int .i64 ca) rfl
    have d1 := cellOf HK2.out 1 (x := .int .i64 cb) rfl
    have HBX : Hid (Below w.heap.size w X) := HB0.out.trans (hB.out.mono HB0.out.size)
    have HAL : Hid (l.all MethD.okB = true) := by
      have h1 := hA.out
      rw [List.take_of_length_le (by rw [HN.out]; omega)] at h1
      exact h1
    have HX : Hid (RE = if cc then 0 else 1) := by show _ = _; rw [HE2.out, HAL.out]; rfl
    clear hB hA
    go_wp2_with fail
    refine (C2.out _).mono ?_
    rintro _ X2 ⟨rfl, hb2⟩
    have HB2 : Hid (Below w.heap.size w X2) := HBX.out.trans (hb2.mono HBX.out.size)
    clear C2 hb2 d0 d1
    cases cc with
    | true =>
      have HX2 : Hid (RE = 0) := HX.out
      go_wp2_with fail
      go_ret
      exact ⟨ri HX2.out, HB2.out⟩
    | false =>
      have HX2 : Hid (RE = 1) := HX.out
      go_wp2_with fail
      go_ret
      exact ⟨ri HX2.out, HB2.out⟩
/-- What Choose answers to anything: the error, the method, its score. -/
def chE (l : List MethD) (h : List DayD) (a b : Int) : Int := if choChk l h a b = 0 then choE l h a b else choChk l h a b
def chR (l : List MethD) (h : List DayD) (a b : Int) : RatD := if choChk l h a b = 0 then choR l h a b else zeroR
theorem ret_choose {i a b c i' a' b' c' e f : Int} (h0 : i = i') (h1 : a = a') (h2 : b = b') (h3 : c = c') (h4 : e = f) : Ending.returned (.tuple #[.int .i64 i, .agg #[.int .i64 a, .int .i64 b, .int .i64 c], .int .i64 e]) = .returned (.tuple #[.int .i64 i', .agg #[.int .i64 a', .int .i64 b', .int .i64 c'], .int .i64 f]) := by rw [h0, h1, h2, h3, h4]
set_option maxRecDepth 100000 in
set_option maxHeartbeats 4000000 in
theorem Choose_any (l : List MethD) (h : List DayD) (ca cb : Int) (v vh : Value) (w : World) (hv : RMeths w.heap.size w v l) (hvh : RDays w.heap.size w vh h) :
    Calls Try.prog 25 #[v, vh, .int .i64 ca, .int .i64 cb] w fun e w' => e = .returned (.tuple #[.int .i64 (chR l h ca cb).m, .agg #[.int .i64 (chR l h ca cb).days, .int .i64 (chR l h ca cb).n, .int .i64 (chR l h ca cb).d], .int .i64 (chE l h ca cb)]) ∧ Below w.heap.size w w' := by
  by_cases hk : choChk l h ca cb = 0
  · obtain ⟨h1, h2, h3, h4⟩ := choChk_ok hk
    have hho := checkH_ok h1
    have hcc := costB_iff.1 h4
    have hb : ∀ m ∈ l, 0 ≤ scLoss m h ca cb h.length ∧ scLoss m h ca cb h.length ≤ 4000000000 := fun m hm => by
      have := scLoss_bd (h3 m hm) hho.2 hcc.1 hcc.2.1 h.length (Nat.le_refl _)
      have := hho.1
      omega
    have e1 : chE l h ca cb = choE l h ca cb := if_pos hk
    have e2 : chR l h ca cb = choR l h ca cb := if_pos hk
    rw [e1, e2]
    exact Choose_ok l h2 h3 h h1 ca cb h4 hb v vh w hv hvh
  · have e1 : chE l h ca cb = choChk l h ca cb := if_neg hk
    have e2 : chR l h ca cb = zeroR := if_neg hk
    rw [e1, e2]
    have HV := Lib.hid hv
    have HVH := Lib.hid hvh
    obtain ⟨A, c, rfl, -, -⟩ := meths_later hv
    obtain ⟨n, hn⟩ : ∃ n, l.length = n := ⟨_, rfl⟩
    have CM := Lib.hid (fun v vh w hv hvh => checkMeths_any l h ca cb v vh w hv hvh)
    rw [hn] at HV ⊢
    obtain ⟨E, hE⟩ : ∃ e, choChk l h ca cb = e := ⟨_, rfl⟩
    rw [hE] at CM hk ⊢
    have F0 : ∃ W0, w.alloc (.cells #[.int .i64 0, .int .i64 0, .int .i64 0] 60) = W0 ∧ Hid (Below w.heap.size w W0) ∧ Hid (Blk W0 w.heap.size 60 #[.int .i64 0, .int .i64 0, .int .i64 0]) := ⟨_, rfl, below_alloc _ _, Blk.new _ _ _⟩
    obtain ⟨W0, e0, HB0, HK0⟩ := F0
    have E0 := Lib.hid e0
    have F1 : ∃ W1, W0.alloc (.cells #[.int .i64 ca, .int .i64 cb] 148) = W1 ∧ Hid (Below W0.heap.size W0 W1) ∧ Hid (Blk W1 W0.heap.size 148 #[.int .i64 ca, .int .i64 cb]) := ⟨_, rfl, below_alloc _ _, Blk.new _ _ _⟩
    obtain ⟨W1, e1', HB1, HK1⟩ := F1
    have E1 := Lib.hid e1'
    have HBW1 : Hid (Below w.heap.size w W1) := HB0.out.trans (HB1.out.mono HB0.out.size)
    obtain ⟨p, hp⟩ : ∃ p, w.heap.size = p := ⟨_, rfl⟩
    rw [hp] at HK0
    have HP := Lib.hid hp
    obtain ⟨q, hq⟩ : ∃ q, W0.heap.size = q := ⟨_, rfl⟩
    rw [hq] at HK1
    have HQ := Lib.hid hq
    have y0 := cellOf HK1.out 0 (x := .int .i64 ca) rfl
    have y1 := cellOf HK1.out 1 (x := .int .i64 cb) rfl
    have C1 := Lib.hid (CM.out (.slice A n c) vh W1 ((Rd.below HV.out HBW1.out).more HBW1.out.size) ((Rd.below HVH.out HBW1.out).more HBW1.out.size))
    have hcn : (E != 0) = true := by simpa using hk
    have HKP : Hid (Blk W1 p 60 #[.int .i64 0, .int .i64 0, .int .i64 0]) := HK0.out.below HB1.out HK0.out.lt
    clear hv hvh hn hE hk e0 e1 e2 e1' hp hq CM HK0 HK1
    go_enter Try.func25, Try.ntmps25
    go_upto_region 1 with fail
    rw [E0.out, HP.out]
    go_upto_region 2 with fail
    rw [E1.out, HQ.out]
    clear E0 E1
    go_wp2_with fail
    refine C1.out.mono ?_
    rintro _ Y ⟨rfl, hb2⟩
    have HBY : Hid (Below w.heap.size w Y) := HBW1.out.trans (hb2.mono HBW1.out.size)
    have HKY := Lib.hid (HKP.out.below hb2 HKP.out.lt)
    have r0 := cellOf HKY.out 0 (x := .int .i64 0) rfl
    have r1 := cellOf HKY.out 1 (x := .int .i64 0) rfl
    have r2 := cellOf HKY.out 2 (x := .int .i64 0) rfl
    have f0 := HKY.out.frozen 0
    have f1 := HKY.out.frozen 1
    have f2 := HKY.out.frozen 2
    have hK : KeptBut (fun i => i = p) Y (((Y.setCell ⟨p, 0, none⟩ (.int .i64 0)).setCell ⟨p, 1, none⟩ (.int .i64 0)).setCell ⟨p, 2, none⟩ (.int .i64 0)) := ((KeptBut.setCell (S := fun i => i = p) rfl _).trans (KeptBut.setCell (S := fun i => i = p) rfl _) fun _ _ h => h).trans (KeptBut.setCell (S := fun i => i = p) rfl _) fun _ _ h => h
    have R' := (((HKY.out.put 0 (.int .i64 0)).put 1 (.int .i64 0)).put 2 (.int .i64 0))
    have g0 := cellOf R' 0 (x := .int .i64 0) rfl
    have g1 := cellOf R' 1 (x := .int .i64 0) rfl
    have g2 := cellOf R' 2 (x := .int .i64 0) rfl
    have HFIN : Hid (Below w.heap.size w (((Y.setCell ⟨p, 0, none⟩ (.int .i64 0)).setCell ⟨p, 1, none⟩ (.int .i64 0)).setCell ⟨p, 2, none⟩ (.int .i64 0))) := HBY.out.trans (hK.below (fun i hi => by rw [hi, HP.out]; exact Nat.le_refl _) HBY.out.size)
    clear hK R' C1 hb2 y0 y1
    go_wp2_with fail
    exact bodyPost_ret (v := .tuple #[.int .i64 0, .agg #[.int .i64 0, .int .i64 0, .int .i64 0], .int .i64 E]) (by simp [results, Try.results25, go_sem, g0, g1, g2]) rfl ⟨rfl, HFIN.out⟩
set_option maxRecDepth 100000 in
set_option maxHeartbeats 4000000 in
theorem Rate_any (m : MethD) (h : List DayD) (ca cb : Int) (vh : Value) (w : World) (hvh : RDays w.heap.size w vh h) :
    Calls Try.prog 26 #[.agg #[.int .i64 m.kind, .int .i64 m.days], vh, .int .i64 ca, .int .i64 cb] w fun e w' => e = .returned (.tuple #[.agg #[.int .i64 (chR [m] h ca cb).days, .int .i64 (chR [m] h ca cb).n, .int .i64 (chR [m] h ca cb).d], .int .i64 (chE [m] h ca cb)]) ∧ Below w.heap.size w w' := by
  have HVH := Lib.hid hvh
  have CC := Lib.hid (fun v vh w hv hvh => Choose_any [m] h ca cb v vh w hv hvh)
  obtain ⟨R, hR⟩ : ∃ R, chR [m] h ca cb = R := ⟨_, rfl⟩
  obtain ⟨E, hE⟩ : ∃ R, chE [m] h ca cb = R := ⟨_, rfl⟩
  rw [hR, hE] at CC ⊢
  have F0 : ∃ W0, (w.alloc (.cells #[.int .i64 m.kind, .int .i64 m.days] 56)).alloc (.cells #[.int .i64 0, .int .i64 0, .int .i64 0] 60) = W0 ∧ Hid (Below w.heap.size w W0) ∧ Hid (Blk W0 w.heap.size 56 #[.int .i64 m.kind, .int .i64 m.days] ∧ Blk W0 (w.heap.size + 1) 60 #[.int .i64 0, .int .i64 0, .int .i64 0]) :=
    ⟨_, rfl, sbelow_al (below_alloc _ _) _, (Blk.new _ _ _).alloc _, blk_new (by simp) _ _⟩
  obtain ⟨W0, e0, HB0, HK0⟩ := F0
  have E0 := Lib.hid e0
  obtain ⟨p, hp⟩ : ∃ p, w.heap.size = p := ⟨_, rfl⟩
  rw [hp] at HK0
  have HP := Lib.hid hp
  have F1 : ∃ W1, W0.alloc (.cells #[.int .i64 m.kind, .int .i64 m.days] 56) = W1 ∧ Hid (Below W0.heap.size W0 W1) ∧ Hid (Blk W1 W0.heap.size 56 #[.int .i64 m.kind, .int .i64 m.days]) := ⟨_, rfl, below_alloc _ _, Blk.new _ _ _⟩
  obtain ⟨W1, e1, HB1, HK1⟩ := F1
  have E1 := Lib.hid e1
  have HBW1 : Hid (Below w.heap.size w W1) := HB0.out.trans (HB1.out.mono HB0.out.size)
  obtain ⟨q, hq⟩ : ∃ q, W0.heap.size = q := ⟨_, rfl⟩
  rw [hq] at HK1
  have HQ := Lib.hid hq
  have hrm : RMeths W1.heap.size W1 (.slice (some ⟨q, 0, none⟩) 1 1) [m] := ⟨_, _, rfl, rfl, by simp [maxLen], fun _ => ⟨q, 0, rfl, HK1.out.lt, fun j u hj => by rw [Nat.zero_add, HK1.out.cell]; simpa [MethD.cells] using hj⟩⟩
  have C1 := Lib.hid (CC.out _ vh W1 hrm ((Rd.below HVH.out HBW1.out).more HBW1.out.size))
  have HKP : Hid (∀ Y, Below W1.heap.size W1 Y → Blk Y (p + 1) 60 #[.int .i64 0, .int .i64 0, .int .i64 0]) := fun Y hY => (HK0.out.2.below HB1.out HK0.out.2.lt).below hY (HK0.out.2.below HB1.out HK0.out.2.lt).lt
  have z0 := cellOf HK0.out.1 0 (x := .int .i64 m.kind) rfl
  have z1 := cellOf HK0.out.1 1 (x := .int .i64 m.days) rfl
  clear hvh hR hE e0 e1 hp hq hrm CC HK1
  go_enter Try.func26, Try.ntmps26
  go_upto_region 1 with fail
  rw [E0.out, HP.out]
  clear E0
  go_upto_region 2 with (go_at_call 25; rw [E1.out, HQ.out]; refine C1.out.mono ?_; rintro _ Y ⟨rfl, hb2⟩)
  have F6 : ∃ Z, Y.alloc (.cells #[.int .i64 R.days, .int .i64 R.n, .int .i64 R.d] 60) = Z ∧ Hid (Below Y.heap.size Y Z) ∧ Hid (Blk Z Y.heap.size 60 #[.int .i64 R.days, .int .i64 R.n, .int .i64 R.d]) := ⟨_, rfl, below_alloc _ _, Blk.new _ _ _⟩
  obtain ⟨Z, e6, HZ, HKR⟩ := F6
  have E6 := Lib.hid e6
  have HBZ1 : Hid (Below W1.heap.size W1 Z) := hb2.trans (HZ.out.mono hb2.size)
  have HBZ : Hid (Below w.heap.size w Z) := HBW1.out.trans (HBZ1.out.mono HBW1.out.size)
  have HKZ := Lib.hid (HKP.out Z HBZ1.out)
  obtain ⟨rb, hrb⟩ : ∃ q, Y.heap.size = q := ⟨_, rfl⟩
  rw [hrb] at HKR
  have HRB := Lib.hid hrb
  clear C1 hb2 e6 hrb HZ z0 z1
  rw [E6.out, HRB.out]
  clear E6
  have s0 := cellOf HKR.out 0 (x := .int .i64 R.days) rfl
  have s1 := cellOf HKR.out 1 (x := .int .i64 R.n) rfl
  have s2 := cellOf HKR.out 2 (x := .int .i64 R.d) rfl
  have r0 := cellOf HKZ.out 0 (x := .int .i64 0) rfl
  have r1 := cellOf HKZ.out 1 (x := .int .i64 0) rfl
  have r2 := cellOf HKZ.out 2 (x := .int .i64 0) rfl
  have f0 := HKZ.out.frozen 0
  have f1 := HKZ.out.frozen 1
  have f2 := HKZ.out.frozen 2
  have hK : KeptBut (fun i => i = p + 1) Z (((Z.setCell ⟨p + 1, 0, none⟩ (.int .i64 R.days)).setCell ⟨p + 1, 1, none⟩ (.int .i64 R.n)).setCell ⟨p + 1, 2, none⟩ (.int .i64 R.d)) := ((KeptBut.setCell (S := fun i => i = p + 1) rfl _).trans (KeptBut.setCell (S := fun i => i = p + 1) rfl _) fun _ _ h => h).trans (KeptBut.setCell (S := fun i => i = p + 1) rfl _) fun _ _ h => h
  have R' := ((HKZ.out.put 0 (.int .i64 R.days)).put 1 (.int .i64 R.n)).put 2 (.int .i64 R.d)
  have e0 := cellOf R' 0 (x := .int .i64 R.days) rfl
  have e1 := cellOf R' 1 (x := .int .i64 R.n) rfl
  have e2 := cellOf R' 2 (x := .int .i64 R.d) rfl
  have HFIN : Hid (Below w.heap.size w (((Z.setCell ⟨p + 1, 0, none⟩ (.int .i64 R.days)).setCell ⟨p + 1, 1, none⟩ (.int .i64 R.n)).setCell ⟨p + 1, 2, none⟩ (.int .i64 R.d))) := HBZ.out.trans (hK.below (fun i hi => by rw [hi, ← HP.out]; omega) HBZ.out.size)
  clear hK R'
  go_wp2_with fail
  exact bodyPost_ret (v := .tuple #[.agg #[.int .i64 R.days, .int .i64 R.n, .int .i64 R.d], .int .i64 E]) (by simp [results, Try.results26, go_sem, e0, e1, e2]) rfl ⟨rfl, HFIN.out⟩
end Go.Proofs.Ytlmpbmlbllndcaa
