/-
  The score of a method.
-/
import Derived.Test.YtlmpbmlbllndcaaMbe
namespace Go.Proofs.Ytlmpbmlbllndcaa
open Go.RowKit
attribute [local go_sem] Oper.semAt_some

structure CostD where
  over : Int
  under : Int
/-- On how many of the first k days a method says something, and the losses of what it says. -/
def scDays (m : MethD) : Nat → Int
  | 0 => 0
  | k + 1 => scDays m k + if m.says k then 1 else 0
def scLoss (m : MethD) (h : List DayD) (a b : Int) : Nat → Int
  | 0 => 0
  | k + 1 => scLoss m h a b k + if m.says k then lossD a b ((h[k]?).getD ⟨0, 0⟩) (m.said h k) else 0
theorem scDays_bd (m : MethD) : ∀ k : Nat, 0 ≤ scDays m k ∧ scDays m k ≤ k
  | 0 => by simp [scDays]
  | k + 1 => by
    have := scDays_bd m k
    simp only [scDays]
    push_cast
    split <;> omega
theorem scLoss_bd {m : MethD} (hm : m.okB = true) {h : List DayD} (hd : ∀ d ∈ h, d.ok) {a b : Int} (ha : 0 ≤ a ∧ a ≤ 1000) (hb : 0 ≤ b ∧ b ≤ 1000) : ∀ k : Nat, k ≤ h.length → 0 ≤ scLoss m h a b k ∧ scLoss m h a b k ≤ 10000000 * k
  | 0, _ => by simp [scLoss]
  | k + 1, hk => by
    have ih := scLoss_bd hm hd ha hb k (by omega)
    have hx : h[k]? = some h[k] := List.getElem?_eq_getElem (by omega)
    have h1 := said_bd hm hd (k : Int)
    have h2 := loss_bd ha.1 ha.2 hb.1 hb.2 (hd _ (List.getElem_mem (show k < h.length by omega))) h1.1 h1.2
    simp only [scLoss, hx, Option.getD_some]
    push_cast
    split <;> omega
/-- The score: days, and the mean loss as a fraction. -/
structure ScoreD where
  days : Int
  n : Int
  d : Int
def MethD.score (m : MethD) (h : List DayD) (a b : Int) : ScoreD := if scDays m h.length = 0 then ⟨0, 0, 0⟩ else ⟨scDays m h.length, lowN (scLoss m h a b h.length) (scDays m h.length), lowD (scLoss m h a b h.length) (scDays m h.length)⟩
def MethD.scored (m : MethD) (h : List DayD) : Bool := decide (¬ scDays m h.length = 0)
set_option maxRecDepth 100000 in
set_option maxHeartbeats 4000000 in
theorem score_any (m : MethD) (hm : m.okB = true) (l : List DayD) (hl : l.length ≤ 400) (hd : ∀ d ∈ l, d.ok) (ca cb : Int) (hca : 0 ≤ ca ∧ ca ≤ 1000) (hcb : 0 ≤ cb ∧ cb ≤ 1000) (v : Value) (w : World) (h : RDays w.heap.size w v l) :
    Calls Try.prog 77 #[.agg #[.int .i64 m.kind, .int .i64 m.days], v, .agg #[.int .i64 ca, .int .i64 cb]] w fun e w' => e = .returned (.tuple #[.agg #[.int .i64 (m.score l ca cb).days, .int .i64 (m.score l ca cb).n, .int .i64 (m.score l ca cb).d], .bool (m.scored l)]) ∧ Below w.heap.size w w' := by
  have HR := Lib.hid h
  have HLD := Lib.hid hd
  have HL4 := Lib.hid hl
  have HSB : Hid (∀ k : Nat, k ≤ l.length → 0 ≤ scLoss m l ca cb k ∧ scLoss m l ca cb k ≤ 10000000 * k) := fun k hk => scLoss_bd hm hd hca hcb k hk
  have CSY := Lib.hid (fun (day : Int) (hday : 0 ≤ day ∧ day ≤ l.length) (v : Value) (w : World) (h : RDays w.heap.size w v l) => says_any m hm l hl hd day hday v w h)
  have CLO := Lib.hid (fun (d : DayD) (hd : d.ok) (q : Int) (hq : 0 ≤ q ∧ q ≤ 10000) (w : World) => loss_any ca cb ⟨hca, hcb⟩ d hd q hq w)
  have HSD : Hid (∀ k : Int, 0 ≤ m.said l k ∧ m.said l k ≤ 10000) := fun k => said_bd hm hd k
  obtain ⟨A, c, rfl, hlm, HD⟩ := days_later h
  obtain ⟨n, hn⟩ : ∃ n, l.length = n := ⟨_, rfl⟩
  obtain ⟨S, hS⟩ : ∃ s, m.score l ca cb = s := ⟨_, rfl⟩
  obtain ⟨B, hB⟩ : ∃ s, m.scored l = s := ⟨_, rfl⟩
  have HSC : Hid (S = if scDays m n = 0 then ⟨0, 0, 0⟩ else ⟨scDays m n, lowN (scLoss m l ca cb n) (scDays m n), lowD (scLoss m l ca cb n) (scDays m n)⟩) := by show _ = _; rw [← hS, ← hn]; rfl
  have HBC : Hid (B = decide (¬ scDays m n = 0)) := by show _ = _; rw [← hB, ← hn]; rfl
  rw [hS, hB]
  have HN := Lib.hid hn
  rw [hn] at hlm hl HR ⊢
  obtain ⟨mk, hmk⟩ : ∃ x, m.kind = x := ⟨_, rfl⟩
  obtain ⟨md, hmd⟩ : ∃ x, m.days = x := ⟨_, rfl⟩
  rw [hmk, hmd] at CSY ⊢
  have F0 : ∃ W0, ((w.alloc (.cells #[.int .i64 mk, .int .i64 md] 56)).alloc (.cells #[.int .i64 ca, .int .i64 cb] 148)).alloc (.cells #[.int .i64 0, .int .i64 0, .int .i64 0] 60) = W0 ∧ Hid (Below w.heap.size w W0) ∧ Hid (Blk W0 w.heap.size 56 #[.int .i64 mk, .int .i64 md] ∧ Blk W0 (w.heap.size + 1) 148 #[.int .i64 ca, .int .i64 cb] ∧ Blk W0 (w.heap.size + 2) 60 #[.int .i64 0, .int .i64 0, .int .i64 0]) :=
    ⟨_, rfl, sbelow_al (sbelow_al (below_alloc _ _) _) _, ((Blk.new _ _ _).alloc _).alloc _, (blk_new (by simp) _ _).alloc _, blk_new (by simp) _ _⟩
  obtain ⟨W0, e0, HB0, HK0⟩ := F0
  have E0 := Lib.hid e0
  obtain ⟨p, hp⟩ : ∃ p, w.heap.size = p := ⟨_, rfl⟩
  rw [hp] at HK0
  have HP := Lib.hid hp
  have HK : Hid (∀ Y, Below W0.heap.size W0 Y → (Y.cell? ⟨p, 0, none⟩ = some (.int .i64 mk) ∧ Y.cell? ⟨p, 1, none⟩ = some (.int .i64 md)) ∧ (Y.cell? ⟨p + 1, 0, none⟩ = some (.int .i64 ca) ∧ Y.cell? ⟨p + 1, 1, none⟩ = some (.int .i64 cb)) ∧ Blk Y (p + 2) 60 #[.int .i64 0, .int .i64 0, .int .i64 0]) := fun Y hY => by
    have h1 := HK0.out.1.below hY HK0.out.1.lt
    have h2 := HK0.out.2.1.below hY HK0.out.2.1.lt
    exact ⟨⟨cellOf h1 0 rfl, cellOf h1 1 rfl⟩, ⟨cellOf h2 0 rfl, cellOf h2 1 rfl⟩, HK0.out.2.2.below hY HK0.out.2.2.lt⟩
  clear h hn hS hB hmk hmd e0 hp HK0 hm hd hca hcb
  go_enter Try.func77, Try.ntmps77
  go_upto_region 1 with fail
  rw [E0.out, HP.out]
  clear E0
  go_wp2_with fail
  go_loopw [8, 9, 16] (fun s q i wr => ∃ (k : Nat) (a b : Int), k ≤ n ∧ i = .int .i64 k ∧ s = .int .i64 a ∧ q = .int .i64 b ∧ Hid (a = scDays m k ∧ b = scLoss m l ca cb k) ∧ Hid (Below W0.heap.size W0 wr)) (fun _ _ i _ => n - (intOf i).toNat)
  case atStart => exact ⟨0, 0, 0, Nat.zero_le _, rfl, rfl, rfl, ⟨rfl, rfl⟩, Below.refl _ _⟩
  case round =>
  obtain ⟨k, a, b, hk, rfl, rfl, rfl, hab, hB⟩ := hrel
  obtain ⟨X, rfl⟩ : ∃ X : World, X = wr := ⟨_, rfl⟩
  have hab1 := scDays_bd m k
  have hab2 := HSB.out k (by rw [HN.out]; exact hk)
  rw [← hab.out.1] at hab1
  rw [← hab.out.2] at hab2
  obtain ⟨a0, a1⟩ := hab1
  obtain ⟨b0, b1⟩ := hab2
  have HBX : Hid (Below w.heap.size w X) := HB0.out.trans (hB.out.mono HB0.out.size)
  by_cases hlt : k < n
  · obtain ⟨d, hd⟩ : ∃ x, l[k]? = some x := ⟨_, List.getElem?_eq_getElem (by rw [HN.out]; exact hlt)⟩
    obtain ⟨g, o, rfl, HX⟩ := HD.out k d hd
    obtain ⟨c0, c1⟩ := HX.out X HBX.out
    have F1 : ∃ X1, X.alloc (.cells #[.int .i64 d.sup, .int .i64 d.ret] 24) = X1 ∧ Hid (Below X.heap.size X X1) ∧ Hid (Blk X1 X.heap.size 24 #[.int .i64 d.sup, .int .i64 d.ret]) := ⟨_, rfl, below_alloc _ _, Blk.new _ _ _⟩
    obtain ⟨X1, e1, HX1, HK1⟩ := F1
    have E1 := Lib.hid e1
    have HB1 : Hid (Below W0.heap.size W0 X1) := hB.out.trans (HX1.out.mono hB.out.size)
    have HBX1 : Hid (Below w.heap.size w X1) := HBX.out.trans (HX1.out.mono HBX.out.size)
    obtain ⟨q, hq⟩ : ∃ q, X.heap.size = q := ⟨_, rfl⟩
    rw [hq] at HK1
    have HQ := Lib.hid hq
    have CS := Lib.hid (CSY.out (k : Int) (by rw [HN.out]; omega) _ X1 ((Rd.below HR.out HBX1.out).more HBX1.out.size))
    obtain ⟨sb, hsb⟩ : ∃ s, m.says (k : Int) = s := ⟨_, rfl⟩
    obtain ⟨sd, hsd⟩ : ∃ s, m.said l (k : Int) = s := ⟨_, rfl⟩
    rw [hsb, hsd] at CS
    have hsdb := HSD.out (k : Int)
    rw [hsd] at hsdb
    obtain ⟨sd0, sd1⟩ := hsdb
    have HDO := Lib.hid (HLD.out d (List.mem_of_getElem? hd))
    have HNX : Hid (scDays m (k + 1) = a + (if sb then 1 else 0) ∧ scLoss m l ca cb (k + 1) = b + if sb then lossD ca cb d sd else 0) := by
      constructor
      · show scDays m k + _ = _
        rw [hsb, hab.out.1]
      · show scLoss m l ca cb k + _ = _
        rw [hd, hsb, hsd, hab.out.2]
        rfl
    have k0 : (0 : Int) ≤ (k : Int) := by omega
    have k1 : (k : Int) < (n : Int) := by omega
    obtain ⟨⟨y0, y1⟩, -, -⟩ := HK.out X1 HB1.out
    have hnb := HSB.out (k + 1) (by rw [HN.out]; omega)
    rw [HNX.out.2] at hnb
    clear hd HX e1 hq hsb hsd hB HX1 hab CSY
    go_upto_region 5 with fail
    rw [E1.out, HQ.out]
    clear E1 c0 c1
    go_wp2_with fail
    refine CS.out.mono ?_
    rintro _ X2 ⟨rfl, hb2⟩
    have HB2 : Hid (Below W0.heap.size W0 X2) := HB1.out.trans (hb2.mono HB1.out.size)
    have HK2 := Lib.hid (HK1.out.below hb2 HK1.out.lt)
    clear CS hb2 y0 y1
    cases sb with
    | false =>
      have HN2 : Hid (a = scDays m (k + 1) ∧ b = scLoss m l ca cb (k + 1)) := by
        rw [HNX.out.1, HNX.out.2]
        exact ⟨by simp, by simp⟩
      clear hnb
      go_wp2_with fail
      go_roundw
      case rel => exact ⟨k + 1, a, b, by omega, by go_num, rfl, rfl, HN2, HB2⟩
      case measure => simp [intOf]; omega
    | true =>
      obtain ⟨lo, hlo⟩ : ∃ z, lossD ca cb d sd = z := ⟨_, rfl⟩
      have CL := Lib.hid (CLO.out d HDO.out sd ⟨sd0, sd1⟩)
      rw [hlo] at CL hnb
      have HN2 : Hid (a + 1 = scDays m (k + 1) ∧ b + lo = scLoss m l ca cb (k + 1)) := by
        rw [HNX.out.1, HNX.out.2, hlo]
        exact ⟨by simp, by simp⟩
      rw [if_pos rfl] at hnb
      have u1 : -1000 ≤ a + 1 := by omega
      have u2 : a + 1 ≤ 1000 := by omega
      have u3 : -10000000000 ≤ b + lo := by omega
      have u4 : b + lo ≤ 10000000000 := by omega
      obtain ⟨-, ⟨y2, y3⟩, -⟩ := HK.out X2 HB2.out
      have d0 := cellOf HK2.out 0 (x := .int .i64 d.sup) rfl
      have d1 := cellOf HK2.out 1 (x := .int .i64 d.ret) rfl
      clear hlo hnb CLO
      go_wp2_with fail
      refine (CL.out _).mono ?_
      rintro _ X3 ⟨rfl, hb3⟩
      have HB3 : Hid (Below W0.heap.size W0 X3) := HB2.out.trans (hb3.mono HB2.out.size)
      clear CL hb3 y2 y3 d0 d1
      go_wp2_with fail
      go_roundw
      case rel => exact ⟨k + 1, a + 1, b + lo, by omega, by go_num, rfl, rfl, HN2, HB3⟩
      case measure => simp [intOf]; omega
  · obtain rfl : k = n := by omega
    have HKY := Lib.hid (HK.out X hB.out).2.2
    by_cases hz : a = 0
    · have hz' : (a == 0) = true := by simp [hz]
      have HSE : Hid (S = ⟨0, 0, 0⟩ ∧ B = false) := by
        have h1 := hab.out.1
        rw [hz] at h1
        exact ⟨by rw [HSC.out, if_pos h1.symm], by rw [HBC.out, ← h1]; rfl⟩
      have r0 := cellOf HKY.out 0 (x := .int .i64 0) rfl
      have r1 := cellOf HKY.out 1 (x := .int .i64 0) rfl
      have r2 := cellOf HKY.out 2 (x := .int .i64 0) rfl
      have f0 := HKY.out.frozen 0
      have f1 := HKY.out.frozen 1
      have f2 := HKY.out.frozen 2
      have hK : KeptBut (fun i => i = p + 2) X (((X.setCell ⟨p + 2, 0, none⟩ (.int .i64 0)).setCell ⟨p + 2, 1, none⟩ (.int .i64 0)).setCell ⟨p + 2, 2, none⟩ (.int .i64 0)) := ((KeptBut.setCell (S := fun i => i = p + 2) rfl _).trans (KeptBut.setCell (S := fun i => i = p + 2) rfl _) fun _ _ h => h).trans (KeptBut.setCell (S := fun i => i = p + 2) rfl _) fun _ _ h => h
      have R := ((HKY.out.put 0 (.int .i64 0)).put 1 (.int .i64 0)).put 2 (.int .i64 0)
      have e0 := cellOf R 0 (x := .int .i64 0) rfl
      have e1 := cellOf R 1 (x := .int .i64 0) rfl
      have e2 := cellOf R 2 (x := .int .i64 0) rfl
      have HFIN : Hid (Below w.heap.size w (((X.setCell ⟨p + 2, 0, none⟩ (.int .i64 0)).setCell ⟨p + 2, 1, none⟩ (.int .i64 0)).setCell ⟨p + 2, 2, none⟩ (.int .i64 0))) := HBX.out.trans (hK.below (fun i hi => by rw [hi, HP.out]; omega) HBX.out.size)
      clear hK R hz hab hB
      go_wp2_with fail
      rw [HSE.out.1, HSE.out.2]
      exact bodyPost_ret (v := .tuple #[.agg #[.int .i64 0, .int .i64 0, .int .i64 0], .bool false]) (by simp [results, Try.results77, go_sem, e0, e1, e2]) rfl ⟨rfl, HFIN.out⟩
    · have hz' : (a == 0) = false := by simp [hz]
      have hk400 : k ≤ 400 := hl
      have CW := Lib.hid (lowest_any b a ⟨b0, by omega⟩ ⟨by omega, by omega⟩ X)
      obtain ⟨N, hN⟩ : ∃ z, lowN b a = z := ⟨_, rfl⟩
      obtain ⟨D, hD⟩ : ∃ z, lowD b a = z := ⟨_, rfl⟩
      rw [hN, hD] at CW
      have HSE : Hid (S = ⟨a, N, D⟩ ∧ B = true) := by
        have h1 := hab.out.1
        have h2 := hab.out.2
        rw [HSC.out, HBC.out, ← h1, ← h2, if_neg hz, hN, hD]
        exact ⟨rfl, by simpa using hz⟩
      have HKL := Lib.hid (fun Y hY => (HK.out Y hY).2.2)
      have hBX0 := hB
      clear hz hab hN hD HKY
      go_wp2_with fail
      refine CW.out.mono ?_
      rintro _ Y ⟨rfl, hb3⟩
      have HKY := Lib.hid (HKL.out Y (hBX0.out.trans (hb3.mono hBX0.out.size)))
      have HBY : Hid (Below w.heap.size w Y) := HBX.out.trans (hb3.mono HBX.out.size)
      have r0 := cellOf HKY.out 0 (x := .int .i64 0) rfl
      have r1 := cellOf HKY.out 1 (x := .int .i64 0) rfl
      have r2 := cellOf HKY.out 2 (x := .int .i64 0) rfl
      have f0 := HKY.out.frozen 0
      have f1 := HKY.out.frozen 1
      have f2 := HKY.out.frozen 2
      have hK : KeptBut (fun i => i = p + 2) Y (((Y.setCell ⟨p + 2, 0, none⟩ (.int .i64 a)).setCell ⟨p + 2, 1, none⟩ (.int .i64 N)).setCell ⟨p + 2, 2, none⟩ (.int .i64 D)) := ((KeptBut.setCell (S := fun i => i = p + 2) rfl _).trans (KeptBut.setCell (S := fun i => i = p + 2) rfl _) fun _ _ h => h).trans (KeptBut.setCell (S := fun i => i = p + 2) rfl _) fun _ _ h => h
      have R := ((HKY.out.put 0 (.int .i64 a)).put 1 (.int .i64 N)).put 2 (.int .i64 D)
      have e0 := cellOf R 0 (x := .int .i64 a) rfl
      have e1 := cellOf R 1 (x := .int .i64 N) rfl
      have e2 := cellOf R 2 (x := .int .i64 D) rfl
      have HFIN : Hid (Below w.heap.size w (((Y.setCell ⟨p + 2, 0, none⟩ (.int .i64 a)).setCell ⟨p + 2, 1, none⟩ (.int .i64 N)).setCell ⟨p + 2, 2, none⟩ (.int .i64 D))) := HBY.out.trans (hK.below (fun i hi => by rw [hi, HP.out]; omega) HBY.out.size)
      clear hK R hB hb3 CW
      go_wp2_with fail
      rw [HSE.out.1, HSE.out.2]
      exact bodyPost_ret (v := .tuple #[.agg #[.int .i64 a, .int .i64 N, .int .i64 D], .bool true]) (by simp [results, Try.results77, go_sem, e0, e1, e2]) rfl ⟨rfl, HFIN.out⟩
end Go.Proofs.Ytlmpbmlbllndcaa
