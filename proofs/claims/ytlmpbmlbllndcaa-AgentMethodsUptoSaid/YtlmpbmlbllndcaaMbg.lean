/-
  The reference's Rate.
-/
import Derived.Test.YtlmpbmlbllndcaaMas
import Derived.Test.YtlmpbmlbllndcaaMbf
namespace Go.Proofs.Ytlmpbmlbllndcaa
open Go.RowKit
attribute [local go_sem] Oper.semAt_some

/-- What Rate answers. -/
def rateE (m : MethD) (l : List DayD) (a b : Int) : Int := if checkH l = 0 then (if m.okB && costB a b then (if scDays m l.length = 0 then 4 else 0) else 1) else checkH l
def rateS (m : MethD) (l : List DayD) (a b : Int) : ScoreD := if rateE m l a b = 0 then m.score l a b else ⟨0, 0, 0⟩
theorem ret_rate {a b c a' b' c' e f : Int} (h1 : a = a') (h2 : b = b') (h3 : c = c') (h4 : e = f) : Ending.returned (.tuple #[.agg #[.int .i64 a, .int .i64 b, .int .i64 c], .int .i64 e]) = .returned (.tuple #[.agg #[.int .i64 a', .int .i64 b', .int .i64 c'], .int .i64 f]) := by rw [h1, h2, h3, h4]
set_option maxRecDepth 1000000 in
set_option maxHeartbeats 4000000 in
theorem refRate_any (m : MethD) (l : List DayD) (a b : Int) (v : Value) (w : World) (h : RDays w.heap.size w v l) :
    Calls Try.prog 51 #[.agg #[.int .i64 m.kind, .int .i64 m.days], v, .int .i64 a, .int .i64 b] w fun e w' => e = .returned (.tuple #[.agg #[.int .i64 (rateS m l a b).days, .int .i64 (rateS m l a b).n, .int .i64 (rateS m l a b).d], .int .i64 (rateE m l a b)]) ∧ Below w.heap.size w w' := by
  have HR := Lib.hid h
  obtain ⟨A, c, rfl, hlm, HD⟩ := days_later h
  obtain ⟨n, hn⟩ : ∃ n, l.length = n := ⟨_, rfl⟩
  have HN := Lib.hid hn
  rw [hn] at HR hlm ⊢
  obtain ⟨kd, hkd⟩ : ∃ k, m.kind = k := ⟨_, rfl⟩
  obtain ⟨dd, hdd⟩ : ∃ k, m.days = k := ⟨_, rfl⟩
  have F0 : ∃ W0, (w.alloc (.cells #[.int .i64 kd, .int .i64 dd] 108)).alloc (.cells #[.int .i64 0, .int .i64 0, .int .i64 0] 110) = W0 ∧ Hid (Below w.heap.size w W0) ∧ Hid (Blk W0 w.heap.size 108 #[.int .i64 kd, .int .i64 dd] ∧ Blk W0 (w.heap.size + 1) 110 #[.int .i64 0, .int .i64 0, .int .i64 0]) :=
    ⟨_, rfl, sbelow_al (below_alloc _ _) _, (Blk.new _ _ _).alloc _, blk_new (by simp) _ _⟩
  obtain ⟨W0, e0, HB0, HK0⟩ := F0
  have E0 := Lib.hid e0
  obtain ⟨p, hp⟩ : ∃ p, w.heap.size = p := ⟨_, rfl⟩
  have HP := Lib.hid hp
  rw [hp] at HK0
  have HSY : Hid (∀ Y, Below W0.heap.size W0 Y → Y.cell? ⟨p, 0, none⟩ = some (.int .i64 kd) ∧ Y.cell? ⟨p, 1, none⟩ = some (.int .i64 dd)) := fun Y hY => by
    have h1 := HK0.out.1.below hY HK0.out.1.lt
    exact ⟨cellOf h1 0 rfl, cellOf h1 1 rfl⟩
  have HPUT : Hid (∀ Y (x y z : Int), Below W0.heap.size W0 Y → Below w.heap.size w (((Y.setCell ⟨p + 1, 0, none⟩ (.int .i64 x)).setCell ⟨p + 1, 1, none⟩ (.int .i64 y)).setCell ⟨p + 1, 2, none⟩ (.int .i64 z))) := fun Y x y z hY => by
    have hK : KeptBut (fun i => i = p + 1) Y (((Y.setCell ⟨p + 1, 0, none⟩ (.int .i64 x)).setCell ⟨p + 1, 1, none⟩ (.int .i64 y)).setCell ⟨p + 1, 2, none⟩ (.int .i64 z)) := ((KeptBut.setCell (S := fun i => i = p + 1) rfl _).trans (KeptBut.setCell (S := fun i => i = p + 1) rfl _) fun _ _ h => h).trans (KeptBut.setCell (S := fun i => i = p + 1) rfl _) fun _ _ h => h
    have h1 := HB0.out.trans (hY.mono HB0.out.size)
    exact h1.trans (hK.below (fun i hi => by rw [hi, HP.out]; omega) h1.size)
  have HRY : Hid (∀ Y, Below W0.heap.size W0 Y → RDays Y.heap.size Y (.slice A n c) l) := fun Y hY => (Rd.below HR.out (HB0.out.trans (hY.mono HB0.out.size))).more (Nat.le_trans HB0.out.size hY.size)
  obtain ⟨ch, hch⟩ : ∃ x, checkH l = x := ⟨_, rfl⟩
  obtain ⟨mo, hmo⟩ : ∃ x, m.okB = x := ⟨_, rfl⟩
  obtain ⟨cb, hcb⟩ : ∃ x, costB a b = x := ⟨_, rfl⟩
  obtain ⟨RE, hRE⟩ : ∃ x, rateE m l a b = x := ⟨_, rfl⟩
  obtain ⟨RS, hRS⟩ : ∃ x, rateS m l a b = x := ⟨_, rfl⟩
  have HE : Hid (RE = if ch = 0 then (if mo && cb then (if scDays m n = 0 then 4 else 0) else 1) else ch) := by
    show _ = _
    rw [← hRE]
    unfold rateE
    rw [hch, hmo, hcb, hn]
  have HERR : Hid (∀ E : Int, RE = E → ¬ E = 0 → RE = E ∧ RS.days = 0 ∧ RS.n = 0 ∧ RS.d = 0) := fun E h1 h2 => by
    have h3 : RS = ⟨0, 0, 0⟩ := by rw [← hRS]; unfold rateS; rw [hRE, h1, if_neg h2]
    rw [h3]
    exact ⟨h1, rfl, rfl, rfl⟩
  have HYES : Hid (RE = 0 → RS = m.score l a b) := fun h1 => by rw [← hRS]; unfold rateS; rw [hRE, if_pos h1]
  have HCH := Lib.hid hch
  have HMO := Lib.hid hmo
  have HCB := Lib.hid hcb
  have C1 : Hid (Calls Try.prog 40 #[.slice A n c] W0 fun e w' => e = .returned (.int .i64 ch) ∧ Below W0.heap.size W0 w') := by rw [← hch]; exact refCheck_any l _ W0 (HRY.out W0 (Below.refl _ _))
  have C2 : Hid (∀ Y, Calls Try.prog 102 #[.agg #[.int .i64 kd, .int .i64 dd]] Y fun e w' => e = .returned (.bool (!mo)) ∧ Below Y.heap.size Y w') := fun Y => by rw [← hkd, ← hdd, ← hmo]; exact refWrong_any m Y
  have C3 : Hid (∀ Y, Calls Try.prog 99 #[.int .i64 a, .int .i64 b] Y fun e w' => e = .returned (.bool cb) ∧ Y = w') := fun Y => by rw [← hcb]; exact refCosts_any a b Y
  have HKM : Hid (m.kind = kd ∧ m.days = dd) := ⟨hkd, hdd⟩
  rw [hRS, hRE, hkd, hdd]
  obtain ⟨z0, z1⟩ := HSY.out W0 (Below.refl _ _)
  clear h hn hkd hdd e0 hp hch hmo hcb hRE hRS
  go_enter Try.func51, Try.ntmps51
  go_upto_region 1 with fail
  rw [E0.out, HP.out]
  clear E0
  go_wp2_with fail
  refine C1.out.mono ?_
  rintro _ Y1 ⟨rfl, hb1⟩
  have HB1 := Lib.hid hb1
  clear hb1 C1 z0 z1
  by_cases hc0 : ch = 0
  case neg =>
    have hcn : (ch != 0) = true := by simpa using hc0
    have HKZ := Lib.hid (HK0.out.2.below HB1.out HK0.out.2.lt)
    have c0 := cellOf HKZ.out 0 (x := .int .i64 0) rfl
    have c1 := cellOf HKZ.out 1 (x := .int .i64 0) rfl
    have c2' := cellOf HKZ.out 2 (x := .int .i64 0) rfl
    have f0 := HKZ.out.frozen 0
    have f1 := HKZ.out.frozen 1
    have f2 := HKZ.out.frozen 2
    have R' := ((HKZ.out.put 0 (.int .i64 0)).put 1 (.int .i64 0)).put 2 (.int .i64 0)
    have e0 := cellOf R' 0 (x := .int .i64 0) rfl
    have e1 := cellOf R' 1 (x := .int .i64 0) rfl
    have e2 := cellOf R' 2 (x := .int .i64 0) rfl
    have HFIN := HPUT.out Y1 0 0 0 HB1.out
    have HEQ : Hid (RE = ch ∧ RS.days = 0 ∧ RS.n = 0 ∧ RS.d = 0) := HERR.out ch (by rw [HE.out, if_neg hc0]) (by exact hc0)
    clear R'
    go_wp2_with fail
    exact bodyPost_ret (v := .tuple #[.agg #[.int .i64 0, .int .i64 0, .int .i64 0], .int .i64 ch]) (by simp [results, Try.results51, go_sem, e0, e1, e2]) rfl ⟨ret_rate HEQ.out.2.1.symm HEQ.out.2.2.1.symm HEQ.out.2.2.2.symm HEQ.out.1.symm, HFIN⟩
  subst hc0
  have hcn : ((0 : Int) != 0) = false := rfl
  obtain ⟨z0, z1⟩ := HSY.out Y1 HB1.out
  go_wp2_with fail
  refine (C2.out _).mono ?_
  rintro _ Y2 ⟨rfl, hb2⟩
  have HB2 : Hid (Below W0.heap.size W0 Y2) := HB1.out.trans (hb2.mono HB1.out.size)
  clear hb2 C2 z0 z1
  cases mo with
  | false =>
    have HKZ := Lib.hid (HK0.out.2.below HB2.out HK0.out.2.lt)
    have c0 := cellOf HKZ.out 0 (x := .int .i64 0) rfl
    have c1 := cellOf HKZ.out 1 (x := .int .i64 0) rfl
    have c2' := cellOf HKZ.out 2 (x := .int .i64 0) rfl
    have f0 := HKZ.out.frozen 0
    have f1 := HKZ.out.frozen 1
    have f2 := HKZ.out.frozen 2
    have R' := ((HKZ.out.put 0 (.int .i64 0)).put 1 (.int .i64 0)).put 2 (.int .i64 0)
    have e0 := cellOf R' 0 (x := .int .i64 0) rfl
    have e1 := cellOf R' 1 (x := .int .i64 0) rfl
    have e2 := cellOf R' 2 (x := .int .i64 0) rfl
    have HFIN := HPUT.out Y2 0 0 0 HB2.out
    have HEQ : Hid (RE = 1 ∧ RS.days = 0 ∧ RS.n = 0 ∧ RS.d = 0) := HERR.out 1 (by rw [HE.out]; rfl) (by omega)
    clear R'
    go_wp2_with fail
    exact bodyPost_ret (v := .tuple #[.agg #[.int .i64 0, .int .i64 0, .int .i64 0], .int .i64 1]) (by simp [results, Try.results51, go_sem, e0, e1, e2]) rfl ⟨ret_rate HEQ.out.2.1.symm HEQ.out.2.2.1.symm HEQ.out.2.2.2.symm HEQ.out.1.symm, HFIN⟩
  | true =>
  go_wp2_with fail
  refine (C3.out _).mono ?_
  rintro _ _ ⟨rfl, rfl⟩
  cases cb with
  | false =>
    have HKZ := Lib.hid (HK0.out.2.below HB2.out HK0.out.2.lt)
    have c0 := cellOf HKZ.out 0 (x := .int .i64 0) rfl
    have c1 := cellOf HKZ.out 1 (x := .int .i64 0) rfl
    have c2' := cellOf HKZ.out 2 (x := .int .i64 0) rfl
    have f0 := HKZ.out.frozen 0
    have f1 := HKZ.out.frozen 1
    have f2 := HKZ.out.frozen 2
    have R' := ((HKZ.out.put 0 (.int .i64 0)).put 1 (.int .i64 0)).put 2 (.int .i64 0)
    have e0 := cellOf R' 0 (x := .int .i64 0) rfl
    have e1 := cellOf R' 1 (x := .int .i64 0) rfl
    have e2 := cellOf R' 2 (x := .int .i64 0) rfl
    have HFIN := HPUT.out Y2 0 0 0 HB2.out
    have HEQ : Hid (RE = 1 ∧ RS.days = 0 ∧ RS.n = 0 ∧ RS.d = 0) := HERR.out 1 (by rw [HE.out]; rfl) (by omega)
    clear R'
    go_wp2_with fail
    exact bodyPost_ret (v := .tuple #[.agg #[.int .i64 0, .int .i64 0, .int .i64 0], .int .i64 1]) (by simp [results, Try.results51, go_sem, e0, e1, e2]) rfl ⟨ret_rate HEQ.out.2.1.symm HEQ.out.2.2.1.symm HEQ.out.2.2.2.symm HEQ.out.1.symm, HFIN⟩
  | true =>
  have hl4 : n ≤ 400 := by rw [← HN.out]; exact (checkH_ok HCH.out).1
  have HDO : Hid (∀ d ∈ l, d.ok) := (checkH_ok HCH.out).2
  have HCC := Lib.hid (costB_iff.1 HCB.out)
  have HSB : Hid (∀ k : Nat, k ≤ n → 0 ≤ scLoss m l a b k ∧ scLoss m l a b k ≤ 10000000 * k) := fun k hk => scLoss_bd HMO.out HDO.out HCC.out.1 HCC.out.2.1 k (by rw [HN.out]; exact hk)
  have HSD : Hid (∀ k : Int, 0 ≤ m.said l k ∧ m.said l k ≤ 10000) := fun k => said_bd HMO.out HDO.out k
  have CS : Hid (∀ (k : Nat) (Y : World), k < n → Below W0.heap.size W0 Y → Calls Try.prog 103 #[.agg #[.int .i64 kd, .int .i64 dd], .slice A n c, .int .i64 (k : Int)] Y fun e w' => e = .returned (.tuple #[.int .i64 (if m.says (k : Int) then m.said l (k : Int) else 0), .bool (m.says (k : Int))]) ∧ Below Y.heap.size Y w') := fun k Y hk hY => by
    rw [← HKM.out.1, ← HKM.out.2]
    exact refSaysC_any m HMO.out l (checkH_ok HCH.out).1 HDO.out k (by rw [HN.out]; omega) _ Y (HRY.out Y hY)
  have CL : Hid (∀ (d : DayD) (q : Int), d.ok → 0 ≤ q ∧ q ≤ 10000 → ∀ Y, Calls Try.prog 100 #[.agg #[.int .i64 d.sup, .int .i64 d.ret], .int .i64 q, .int .i64 a, .int .i64 b] Y fun e w' => e = .returned (.int .i64 (lossD a b d q)) ∧ Below Y.heap.size Y w') := fun d q hd hq Y => refLossC_any d.sup d.ret q a b (by obtain ⟨h1, h2, h3, h4⟩ := hd; omega) hq HCC.out.1 HCC.out.2.1 Y
  clear C3
  go_wp2_with fail
  go_loopw [11, 12, 13] (fun s q i wr => ∃ (k : Nat) (x y : Int), k ≤ n ∧ i = .int .i64 k ∧ s = .int .i64 y ∧ q = .int .i64 x ∧ Hid (x = scDays m k ∧ y = scLoss m l a b k) ∧ Hid (Below W0.heap.size W0 wr)) (fun _ _ i _ => n - (intOf i).toNat)
  case atStart => exact ⟨0, 0, 0, Nat.zero_le _, rfl, rfl, rfl, ⟨rfl, rfl⟩, HB2.out⟩
  case round =>
  clear HB2 HB1
  obtain ⟨k, x, y, hk, rfl, rfl, rfl, hxy, hB⟩ := hrel
  obtain ⟨X, rfl⟩ : ∃ X : World, X = wr := ⟨_, rfl⟩
  have hab1 := scDays_bd m k
  have hab2 := HSB.out k hk
  rw [← hxy.out.1] at hab1
  rw [← hxy.out.2] at hab2
  obtain ⟨x0, x1⟩ := hab1
  obtain ⟨y0, y1⟩ := hab2
  have HBX : Hid (Below w.heap.size w X) := HB0.out.trans (hB.out.mono HB0.out.size)
  by_cases hlt : k < n
  · obtain ⟨d, hd⟩ : ∃ x, l[k]? = some x := ⟨_, List.getElem?_eq_getElem (by rw [HN.out]; exact hlt)⟩
    obtain ⟨g, o, rfl, HX⟩ := HD.out k d hd
    have CS1 := Lib.hid (CS.out k X hlt hB.out)
    obtain ⟨V, hV⟩ : ∃ V : Int, (if m.says (k : Int) then m.said l (k : Int) else 0) = V := ⟨_, rfl⟩
    obtain ⟨sb, hsb⟩ : ∃ s, m.says (k : Int) = s := ⟨_, rfl⟩
    have HV0 := Lib.hid hV
    rw [hV, hsb] at CS1
    have hVb : 0 ≤ V ∧ V ≤ 10000 := by
      rw [← hV]
      have := HSD.out (k : Int)
      split
      · exact this
      · omega
    obtain ⟨V0, V1⟩ := hVb
    have HDK := Lib.hid (HDO.out d (List.mem_of_getElem? hd))
    have HNX : Hid (scDays m (k + 1) = x + (if sb then 1 else 0) ∧ scLoss m l a b (k + 1) = y + if sb then lossD a b d V else 0) := by
      constructor
      · show scDays m k + _ = _
        rw [hsb, hxy.out.1]
      · show scLoss m l a b k + _ = _
        rw [hd, ← hV, hsb, hxy.out.2]
        cases sb <;> rfl
    have k0 : (0 : Int) ≤ (k : Int) := by omega
    have k1 : (k : Int) < (n : Int) := by omega
    obtain ⟨z0, z1⟩ := HSY.out X hB.out
    have hnb := HSB.out (k + 1) (by omega)
    rw [HNX.out.2] at hnb
    have HXW := Lib.hid (fun Y (hY : Below W0.heap.size W0 Y) => HX.out Y (HB0.out.trans (hY.mono HB0.out.size)))
    clear hd hV hsb hxy HV0 HX
    go_wp2_with fail
    refine CS1.out.mono ?_
    rintro _ X2 ⟨rfl, hb2⟩
    have HB2 : Hid (Below W0.heap.size W0 X2) := hB.out.trans (hb2.mono hB.out.size)
    clear CS1 hb2 z0 z1 hB HBX
    cases sb with
    | false =>
      have HN2 : Hid (x = scDays m (k + 1) ∧ y = scLoss m l a b (k + 1)) := by
        rw [HNX.out.1, HNX.out.2]
        exact ⟨by simp, by simp⟩
      clear hnb
      go_wp2_with fail
      go_roundw
      case rel => exact ⟨k + 1, x, y, by omega, by go_num, rfl, rfl, HN2, HB2⟩
      case measure => simp [intOf]; omega
    | true =>
      obtain ⟨lo, hlo⟩ : ∃ z, lossD a b d V = z := ⟨_, rfl⟩
      have CL1 := Lib.hid (CL.out d V HDK.out ⟨V0, V1⟩)
      rw [hlo] at CL1 hnb
      have HN2 : Hid (x + 1 = scDays m (k + 1) ∧ y + lo = scLoss m l a b (k + 1)) := by
        rw [HNX.out.1, HNX.out.2, hlo]
        exact ⟨by simp, by simp⟩
      rw [if_pos rfl] at hnb
      have u1 : -1000 ≤ x + 1 := by omega
      have u2 : x + 1 ≤ 1000 := by omega
      have u3 : -10000000000 ≤ y + lo := by omega
      have u4 : y + lo ≤ 10000000000 := by omega
      obtain ⟨c0, c1⟩ := HXW.out X2 HB2.out
      clear hlo hnb
      go_wp2_with fail
      refine (CL1.out _).mono ?_
      rintro _ X3 ⟨rfl, hb3⟩
      have HB3 : Hid (Below W0.heap.size W0 X3) := HB2.out.trans (hb3.mono HB2.out.size)
      clear CL1 hb3 c0 c1 HB2
      go_wp2_with fail
      go_roundw
      case rel => exact ⟨k + 1, x + 1, y + lo, by omega, by go_num, rfl, rfl, HN2, HB3⟩
      case measure => simp [intOf]; omega
  obtain rfl : k = n := by omega
  have HKZ := Lib.hid (HK0.out.2.below hB.out HK0.out.2.lt)
  by_cases hz : x = 0
  · have hz' : (x == 0) = true := by simp [hz]
    have c0 := cellOf HKZ.out 0 (x := .int .i64 0) rfl
    have c1 := cellOf HKZ.out 1 (x := .int .i64 0) rfl
    have c2' := cellOf HKZ.out 2 (x := .int .i64 0) rfl
    have f0 := HKZ.out.frozen 0
    have f1 := HKZ.out.frozen 1
    have f2 := HKZ.out.frozen 2
    have R' := ((HKZ.out.put 0 (.int .i64 0)).put 1 (.int .i64 0)).put 2 (.int .i64 0)
    have e0 := cellOf R' 0 (x := .int .i64 0) rfl
    have e1 := cellOf R' 1 (x := .int .i64 0) rfl
    have e2 := cellOf R' 2 (x := .int .i64 0) rfl
    have HFIN := HPUT.out X 0 0 0 hB.out
    have HEQ : Hid (RE = 4 ∧ RS.days = 0 ∧ RS.n = 0 ∧ RS.d = 0) := HERR.out 4 (by have h1 : scDays m k = 0 := by rw [← hxy.out.1]; exact hz
                                                                                  rw [HE.out]; simp [h1]) (by omega)
    clear R' hz
    go_wp2_with fail
    exact bodyPost_ret (v := .tuple #[.agg #[.int .i64 0, .int .i64 0, .int .i64 0], .int .i64 4]) (by simp [results, Try.results51, go_sem, e0, e1, e2]) rfl ⟨ret_rate HEQ.out.2.1.symm HEQ.out.2.2.1.symm HEQ.out.2.2.2.symm HEQ.out.1.symm, HFIN⟩
  · have hz' : (x == 0) = false := by simp [hz]
    have hRE : RE = 0 := by
      have h1 : ¬ scDays m k = 0 := by rw [← hxy.out.1]; exact hz
      rw [HE.out]
      simp [h1]
    obtain ⟨N, hN⟩ : ∃ z, lowN y x = z := ⟨_, rfl⟩
    obtain ⟨D, hD⟩ : ∃ z, lowD y x = z := ⟨_, rfl⟩
    have HEQ : Hid (RE = 0 ∧ RS.days = x ∧ RS.n = N ∧ RS.d = D) := by
      refine ⟨hRE, ?_⟩
      have h1 := HYES.out hRE
      rw [h1, ← hN, ← hD]
      unfold MethD.score
      rw [HN.out, ← hxy.out.1, ← hxy.out.2, if_neg hz]
      exact ⟨rfl, rfl, rfl⟩
    obtain ⟨G, hG⟩ : ∃ g, Nat.gcd y.toNat x.toNat = g := ⟨_, rfl⟩
    have hg0 : 0 < G := by rw [← hG]; exact gcd_pos (by omega)
    have HNG : Hid (y / (G : Int) = N) := by show _ = _; rw [← hN, ← hG]; rfl
    have HDG : Hid (x / (G : Int) = D) := by show _ = _; rw [← hD, ← hG]; rfl
    have hNb : 0 ≤ N ∧ N ≤ y := by rw [← HNG.out]; exact ⟨Int.ediv_nonneg y0 (by omega), Int.ediv_le_self _ y0⟩
    have hDb : 0 ≤ D ∧ D ≤ x := by rw [← HDG.out]; exact ⟨Int.ediv_nonneg (by omega) (by omega), Int.ediv_le_self _ (by omega)⟩
    have CG : Hid (∀ Y, Calls Try.prog 104 #[.int .i64 y, .int .i64 x] Y fun e w' => e = .returned (.int .i64 (G : Int)) ∧ Y = w') := fun Y => by
      have h1 := refGcd_any x.toNat y.toNat (by omega) (by omega) Y
      rw [hG, show ((y.toNat : Nat) : Int) = y by omega, show ((x.toNat : Nat) : Int) = x by omega] at h1
      exact h1
    clear hxy hN hD hG hRE
    go_wp2_with fail
    refine (CG.out _).mono ?_
    rintro _ _ ⟨rfl, rfl⟩
    have r0 := cellOf HKZ.out 0 (x := .int .i64 0) rfl
    have r1 := cellOf HKZ.out 1 (x := .int .i64 0) rfl
    have r2 := cellOf HKZ.out 2 (x := .int .i64 0) rfl
    have f0 := HKZ.out.frozen 0
    have f1 := HKZ.out.frozen 1
    have f2 := HKZ.out.frozen 2
    have r0' := cellOf HKZ.out.drew_ 0 (x := .int .i64 0) rfl
    have r1' := cellOf HKZ.out.drew_ 1 (x := .int .i64 0) rfl
    have r2' := cellOf HKZ.out.drew_ 2 (x := .int .i64 0) rfl
    have f0' := HKZ.out.drew_.frozen 0
    have f1' := HKZ.out.drew_.frozen 1
    have f2' := HKZ.out.drew_.frozen 2
    have ke : ((G : Int) == 0) = false := by simp; omega
    have ke' : ¬ (G : Int) = 0 := by omega
    have ke2 : ¬ G = 0 := by omega
    have kn : IntKind.i64.wrap (y.tdiv (G : Int)) = N := by rw [Int.tdiv_eq_ediv_of_nonneg y0, HNG.out]; exact IntWalk.i64_in _ ⟨by omega, by omega⟩
    have kdd : IntKind.i64.wrap (x.tdiv (G : Int)) = D := by rw [Int.tdiv_eq_ediv_of_nonneg (by omega), HDG.out]; exact IntWalk.i64_in _ ⟨by omega, by omega⟩
    have KN : Hid (wrap64 N = N) := (IntWalk.i64_left _).symm.trans (IntWalk.i64_in _ ⟨by omega, by omega⟩)
    have KD : Hid (wrap64 D = D) := (IntWalk.i64_left _).symm.trans (IntWalk.i64_in _ ⟨by omega, by omega⟩)
    have R := ((HKZ.out.put 0 (.int .i64 x)).put 1 (.int .i64 N)).put 2 (.int .i64 D)
    have e0 := cellOf R.drew_ 0 (x := .int .i64 x) rfl
    have e1 := cellOf R.drew_ 1 (x := .int .i64 N) rfl
    have e2 := cellOf R.drew_ 2 (x := .int .i64 D) rfl
    have HFIN := Lib.hid (HPUT.out X x N D hB.out).drew
    clear R
    go_upto_region 17 with fail
    go_region
    clear r0 r1 r2 f0 f1 f2 r0' r1' r2' f0' f1' f2' ke ke' ke2 kn kdd
    go_wp2_with fail
    exact bodyPost_ret (v := .tuple #[.agg #[.int .i64 x, .int .i64 N, .int .i64 D], .int .i64 0]) (by simp [results, Try.results51, go_sem, e0, e1, e2]) rfl ⟨ret_rate HEQ.out.2.1.symm HEQ.out.2.2.1.symm HEQ.out.2.2.2.symm HEQ.out.1.symm, HFIN.out⟩
end Go.Proofs.Ytlmpbmlbllndcaa
