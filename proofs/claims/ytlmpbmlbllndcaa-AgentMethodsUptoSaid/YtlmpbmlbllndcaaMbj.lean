/-
  Choose, where all is right.
-/
import Derived.Maps.AppendAt
import Derived.Test.YtlmpbmlbllndcaaMbi
namespace Go.Proofs.Ytlmpbmlbllndcaa
open Go.RowKit
attribute [local go_sem] Oper.semAt_some

def ratOf (ms : List MethD) (h : List DayD) (a b : Int) (k : Nat) : List RatD := match ms[k]? with
  | some m => if m.scored h then [⟨(k : Int), (m.score h a b).days, (m.score h a b).n, (m.score h a b).d⟩] else []
  | none => []
/-- The first k methods that say something, with their scores. -/
def ratTo (ms : List MethD) (h : List DayD) (a b : Int) : Nat → List RatD
  | 0 => []
  | k + 1 => ratTo ms h a b k ++ ratOf ms h a b k
theorem ratTo_len (ms : List MethD) (h : List DayD) (a b : Int) : ∀ k, (ratTo ms h a b k).length ≤ k
  | 0 => Nat.le_refl _
  | k + 1 => by
    have := ratTo_len ms h a b k
    unfold ratTo
    rw [List.length_append]
    have h2 : (ratOf ms h a b k).length ≤ 1 := by
      unfold ratOf
      split
      · split <;> simp
      · simp
    omega
theorem low_bd {n d : Int} (hn : 0 ≤ n) (hd : 0 < d) : (0 ≤ lowN n d ∧ lowN n d ≤ n) ∧ (1 ≤ lowD n d ∧ lowD n d ≤ d) := by
  have hg := gcd_pos (n := n) hd
  unfold lowN lowD
  refine ⟨⟨Int.ediv_nonneg hn (by omega), Int.ediv_le_self _ hn⟩, ?_, Int.ediv_le_self _ (by omega)⟩
  have h1 : (Nat.gcd n.toNat d.toNat : Int) ≤ d := by
    have := Nat.le_of_dvd (show 0 < d.toNat by omega) (Nat.gcd_dvd_right n.toNat d.toNat)
    omega
  exact Int.le_ediv_of_mul_le (by omega) (by omega)
theorem ratTo_ok {ms : List MethD} {h : List DayD} {a b : Int} (hh : h.length ≤ 400) (hb : ∀ m ∈ ms, 0 ≤ scLoss m h a b h.length ∧ scLoss m h a b h.length ≤ 4000000000) : ∀ k, ∀ x ∈ ratTo ms h a b k, x.ok
  | 0, x, hx => by cases hx
  | k + 1, x, hx => by
    unfold ratTo at hx
    rcases List.mem_append.1 hx with hx | hx
    · exact ratTo_ok hh hb k x hx
    · unfold ratOf at hx
      split at hx
      · rename_i m hm
        split at hx
        · rename_i hs
          rw [List.mem_singleton] at hx
          subst hx
          have hs' : ¬ scDays m h.length = 0 := by simpa [MethD.scored] using hs
          have h1 := hb m (List.mem_of_getElem? hm)
          have h2 := scDays_bd m h.length
          have h3 := low_bd h1.1 (show 0 < scDays m h.length by omega)
          unfold RatD.ok MethD.score
          rw [if_neg hs']
          simp only
          omega
        · cases hx
      · cases hx
theorem sliceRated : Try.prog.underlying 155 = some (.slice 159) := by kernel_rfl
theorem infoRated : (Try.prog.info? 159).map (fun i => (i.zero, i.size, i.bytes)) = some (some (.agg #[.int .i64 0, .int .i64 0, .int .i64 0, .int .i64 0]), 4, 32) := by kernel_rfl
/-- What Choose answers. -/
def choE (ms : List MethD) (h : List DayD) (a b : Int) : Int := if 0 < (ratTo ms h a b ms.length).length then 0 else 4
def choR (ms : List MethD) (h : List DayD) (a b : Int) : RatD := if 0 < (ratTo ms h a b ms.length).length then lstR (ratTo ms h a b ms.length) (ratTo ms h a b ms.length).length else zeroR
set_option maxRecDepth 100000 in
set_option maxHeartbeats 4000000 in
theorem Choose_ok (l : List MethD) (hl : l.length ≤ 40) (hm : ∀ m ∈ l, m.okB = true) (h : List DayD) (hh : checkH h = 0) (ca cb : Int) (hc : costB ca cb = true) (hb : ∀ m ∈ l, 0 ≤ scLoss m h ca cb h.length ∧ scLoss m h ca cb h.length ≤ 4000000000) (v vh : Value) (w : World) (hv : RMeths w.heap.size w v l) (hvh : RDays w.heap.size w vh h) :
    Calls Try.prog 25 #[v, vh, .int .i64 ca, .int .i64 cb] w fun e w' => e = .returned (.tuple #[.int .i64 (choR l h ca cb).m, .agg #[.int .i64 (choR l h ca cb).days, .int .i64 (choR l h ca cb).n, .int .i64 (choR l h ca cb).d], .int .i64 (choE l h ca cb)]) ∧ Below w.heap.size w w' := by
  have HV := Lib.hid hv
  have HVH := Lib.hid hvh
  have HMO := Lib.hid hm
  have hho := checkH_ok hh
  have HRO : Hid (∀ k, ∀ x ∈ ratTo l h ca cb k, x.ok) := fun k => ratTo_ok hho.1 hb k
  have hcc := costB_iff.1 hc
  have CSC := Lib.hid (fun (m : MethD) (hm' : m.okB = true) (v : Value) (w : World) (hv : RDays w.heap.size w v h) => score_any m hm' h hho.1 hho.2 ca cb hcc.1 hcc.2.1 v w hv)
  obtain ⟨A, c, rfl, hlm, HD⟩ := meths_later hv
  obtain ⟨n, hn⟩ : ∃ n, l.length = n := ⟨_, rfl⟩
  have HN := Lib.hid hn
  have CM := Lib.hid (fun v vh w hv hvh => checkMeths_ok l hl hm h hh ca cb hc v vh w hv hvh)
  rw [hn] at hl hlm HV ⊢
  have F0 : ∃ W0, w.alloc (.cells #[.int .i64 0, .int .i64 0, .int .i64 0] 60) = W0 ∧ Hid (Below w.heap.size w W0) ∧ Hid (Blk W0 w.heap.size 60 #[.int .i64 0, .int .i64 0, .int .i64 0]) := ⟨_, rfl, below_alloc _ _, Blk.new _ _ _⟩
  obtain ⟨W0, e0, HB0, HK0⟩ := F0
  have E0 := Lib.hid e0
  have F1 : ∃ W1, W0.alloc (.cells #[.int .i64 ca, .int .i64 cb] 148) = W1 ∧ Hid (Below W0.heap.size W0 W1) ∧ Hid (Blk W1 W0.heap.size 148 #[.int .i64 ca, .int .i64 cb]) := ⟨_, rfl, below_alloc _ _, Blk.new _ _ _⟩
  obtain ⟨W1, e1, HB1, HK1⟩ := F1
  have E1 := Lib.hid e1
  have HBW1 : Hid (Below w.heap.size w W1) := HB0.out.trans (HB1.out.mono HB0.out.size)
  obtain ⟨p, hp⟩ : ∃ p, w.heap.size = p := ⟨_, rfl⟩
  rw [hp] at HK0
  have HP := Lib.hid hp
  obtain ⟨q, hq⟩ : ∃ q, W0.heap.size = q := ⟨_, rfl⟩
  rw [hq] at HK1
  have HQ := Lib.hid hq
  have HK : Hid (∀ Y, Below W1.heap.size W1 Y → (Y.cell? ⟨q, 0, none⟩ = some (.int .i64 ca) ∧ Y.cell? ⟨q, 1, none⟩ = some (.int .i64 cb)) ∧ Blk Y p 60 #[.int .i64 0, .int .i64 0, .int .i64 0]) := fun Y hY => by
    have h1 := HK1.out.below hY HK1.out.lt
    have h2 := HK0.out.below HB1.out HK0.out.lt
    exact ⟨⟨cellOf h1 0 rfl, cellOf h1 1 rfl⟩, h2.below hY h2.lt⟩
  have C1 := Lib.hid (CM.out (.slice A n c) vh W1 ((Rd.below HV.out HBW1.out).more HBW1.out.size) ((Rd.below HVH.out HBW1.out).more HBW1.out.size))
  obtain ⟨⟨y0, y1⟩, -⟩ := HK.out W1 (Below.refl _ _)
  have h00 : ((0 : Int) != 0) = false := rfl
  obtain ⟨i0, hi0, hz0, hz1, hz2⟩ := info_parts infoRated
  clear hv hvh hm hh hc hb hn e0 e1 hp hq hho hcc CM HK0 HK1
  go_enter Try.func25, Try.ntmps25
  go_upto_region 1 with fail
  rw [E0.out, HP.out]
  go_upto_region 2 with fail
  rw [E1.out, HQ.out]
  clear E0 E1
  go_wp2_with fail
  refine C1.out.mono ?_
  rintro _ W2 ⟨rfl, hb2⟩
  have HB2 := Lib.hid hb2
  have HBW2 : Hid (Below w.heap.size w W2) := HBW1.out.trans (hb2.mono HBW1.out.size)
  have HO0 : Hid (W2.ownsRow W2.heap.size 159 4 (.slice none 0 0) (ratTo l h ca cb 0).length ((ratTo l h ca cb 0).flatMap ratCells)) := World.ownsRow_nil _ _ _ _
  clear C1 hb2 y0 y1
  go_wp2_with fail
  go_loopw [13, 33] (fun s i wr => ∃ k : Nat, k ≤ n ∧ i = .int .i64 k ∧ Hid (wr.ownsRow W2.heap.size 159 4 s (ratTo l h ca cb k).length ((ratTo l h ca cb k).flatMap ratCells)) ∧ Hid (Below W2.heap.size W2 wr)) (fun _ i _ => n - (intOf i).toNat)
  case atStart => exact ⟨0, Nat.zero_le _, rfl, HO0, Below.refl _ _⟩
  case round =>
  clear HO0
  obtain ⟨k, hk, rfl, hO, hB⟩ := hrel
  obtain ⟨X, rfl⟩ : ∃ X : World, X = wr := ⟨_, rfl⟩
  obtain ⟨Av, cv, rfl⟩ := ownsRow_form hO.out
  have hlk := ratTo_len l h ca cb k
  obtain ⟨rm, hrm⟩ : ∃ m, (ratTo l h ca cb k).length = m := ⟨_, rfl⟩
  rw [hrm] at hO hlk ⊢
  have HRM := Lib.hid hrm
  have HBX : Hid (Below w.heap.size w X) := HBW2.out.trans (hB.out.mono HBW2.out.size)
  have HB1X : Hid (Below W1.heap.size W1 X) := HB2.out.trans (hB.out.mono HB2.out.size)
  clear hrm
  by_cases hlt : k < n
  · obtain ⟨m, hmk⟩ : ∃ x, l[k]? = some x := ⟨_, List.getElem?_eq_getElem (by rw [HN.out]; exact hlt)⟩
    obtain ⟨g, o, rfl, HX⟩ := HD.out k m hmk
    obtain ⟨c0, c1⟩ := HX.out X HBX.out
    have F2 : ∃ X1, X.alloc (.cells #[.int .i64 m.kind, .int .i64 m.days] 56) = X1 ∧ Hid (Below X.heap.size X X1) ∧ Hid (Blk X1 X.heap.size 56 #[.int .i64 m.kind, .int .i64 m.days]) := ⟨_, rfl, below_alloc _ _, Blk.new _ _ _⟩
    obtain ⟨X1, e2, HX1, HKM⟩ := F2
    have E2 := Lib.hid e2
    have HB3 : Hid (Below W2.heap.size W2 X1) := hB.out.trans (HX1.out.mono hB.out.size)
    have HBX1 : Hid (Below w.heap.size w X1) := HBX.out.trans (HX1.out.mono HBX.out.size)
    have HO1 : Hid (X1.ownsRow W2.heap.size 159 4 (.slice Av rm cv) rm ((ratTo l h ca cb k).flatMap ratCells)) := ownsRow_below hO.out HX1.out
    have CS := Lib.hid (CSC.out m (HMO.out m (List.mem_of_getElem? hmk)) vh X1 ((Rd.below HVH.out HBX1.out).more HBX1.out.size))
    obtain ⟨S, hS⟩ : ∃ s, m.score h ca cb = s := ⟨_, rfl⟩
    obtain ⟨B, hBs⟩ : ∃ s, m.scored h = s := ⟨_, rfl⟩
    rw [hS, hBs] at CS
    have HNX : Hid (ratTo l h ca cb (k + 1) = ratTo l h ca cb k ++ if B then [⟨(k : Int), S.days, S.n, S.d⟩] else []) := by
      show ratTo l h ca cb k ++ ratOf l h ca cb k = _
      unfold ratOf
      rw [hmk]
      simp only [hS, hBs]
    have d0 := cellOf HKM.out 0 (x := .int .i64 m.kind) rfl
    have d1 := cellOf HKM.out 1 (x := .int .i64 m.days) rfl
    obtain ⟨⟨y0, y1⟩, -⟩ := HK.out X1 (HB1X.out.trans (HX1.out.mono HB1X.out.size))
    have k0 : (0 : Int) ≤ (k : Int) := by omega
    have k1 : (k : Int) < (n : Int) := by omega
    clear hmk HX e2 hS hBs hO hB HX1 HKM HB1X h00
    go_upto_region 9 with fail
    rw [E2.out]
    clear E2 c0 c1
    go_wp2_with fail
    refine CS.out.mono ?_
    rintro _ X2 ⟨rfl, hb4⟩
    have F3 : ∃ X3, X2.alloc (.cells #[.int .i64 S.days, .int .i64 S.n, .int .i64 S.d] 60) = X3 ∧ Hid (Below X2.heap.size X2 X3) ∧ Hid (Blk X3 X2.heap.size 60 #[.int .i64 S.days, .int .i64 S.n, .int .i64 S.d]) := ⟨_, rfl, below_alloc _ _, Blk.new _ _ _⟩
    obtain ⟨X3, e3, HX3, HKS⟩ := F3
    have E3 := Lib.hid e3
    have HB13 : Hid (Below X1.heap.size X1 X3) := hb4.trans (HX3.out.mono hb4.size)
    have HB5 : Hid (Below W2.heap.size W2 X3) := HB3.out.trans (HB13.out.mono HB3.out.size)
    have HO3 : Hid (X3.ownsRow W2.heap.size 159 4 (.slice Av rm cv) rm ((ratTo l h ca cb k).flatMap ratCells)) := ownsRow_below HO1.out HB13.out
    obtain ⟨sb, hsb⟩ : ∃ q, X2.heap.size = q := ⟨_, rfl⟩
    rw [hsb] at HKS
    have HSB := Lib.hid hsb
    clear CS hb4 e3 d0 d1 y0 y1 HO1 HX3 HB13 hsb
    go_upto_region 10 with fail
    rw [E3.out, HSB.out]
    clear E3
    cases B with
    | false =>
      have HN2 : Hid (ratTo l h ca cb (k + 1) = ratTo l h ca cb k) := by show _ = _; rw [HNX.out]; simp
      go_wp2_with fail
      go_roundw
      case rel =>
        refine ⟨k + 1, by omega, by go_num, ?_, HB5⟩
        show World.ownsRow _ _ _ _ _ _ _
        rw [HN2.out, HRM.out]
        exact HO3.out
      case measure => simp [intOf]; omega
    | true =>
      have HN2 : Hid (ratTo l h ca cb (k + 1) = ratTo l h ca cb k ++ [⟨(k : Int), S.days, S.n, S.d⟩]) := by show _ = _; rw [HNX.out]; rfl
      have s0 := cellOf HKS.out 0 (x := .int .i64 S.days) rfl
      have s1 := cellOf HKS.out 1 (x := .int .i64 S.n) rfl
      have s2 := cellOf HKS.out 2 (x := .int .i64 S.d) rfl
      have F5 : ∃ X5, X3.alloc (.cells #[.int .i64 (k : Int), .int .i64 S.days, .int .i64 S.n, .int .i64 S.d] 159) = X5 ∧ Hid (Below X3.heap.size X3 X5) := ⟨_, rfl, below_alloc _ _⟩
      obtain ⟨X5, e5, HX5⟩ := F5
      have HC5 := Lib.hid (cells_new X3 #[.int .i64 (k : Int), .int .i64 S.days, .int .i64 S.n, .int .i64 S.d] 159)
      rw [e5] at HC5
      have E5 := Lib.hid e5
      have HO5 : Hid (X5.ownsRow W2.heap.size 159 4 (.slice Av rm cv) rm ((ratTo l h ca cb k).flatMap ratCells)) := ownsRow_below HO3.out HX5.out
      have HB6 : Hid (Below W2.heap.size W2 X5) := HB5.out.trans (HX5.out.mono HB5.out.size)
      clear e5
      go_wp2_with (at_builtin; rw [E5.out]; refine wpList_append_own _ rfl _ _ 155 rfl W2.heap.size 159 i0 _ 4 32 sliceRated hi0 hz0 hz1 hz2 rfl (by decide) (.slice Av rm cv) rm ((ratTo l h ca cb k).flatMap ratCells) rfl HO5.out ⟨X3.heap.size, 0, none⟩ 1 1 [.int .i64 (k : Int), .int .i64 S.days, .int .i64 S.n, .int .i64 S.d] rfl rfl HC5.out (by simp [Value.oneCell']) (by simp only [maxLen]; omega) (by omega) HB6.out.size ?_; intro v2 w2 hO4 hG4 hN4)
      have hB4 : Below W2.heap.size W2 w2 := HB6.out.trans ((KeptBut.grown (S := fun j => some j = (Value.slice Av rm cv).ownBlock) hG4 fun j hj => hj).below (fun i hi => (ownsRow_own HO5.out hi.symm).1) HB6.out.size)
      refine ⟨⟨k + 1, by omega, by go_num, ?_, hB4⟩, by simp [intOf]; omega⟩
      show World.ownsRow _ _ _ _ _ _ _
      rw [HN2.out, List.length_append, List.flatMap_append, HRM.out]
      exact hO4
  · obtain rfl : k = n := by omega
    obtain ⟨L, hL⟩ : ∃ L, ratTo l h ca cb k = L := ⟨_, rfl⟩
    have HLK := Lib.hid hL
    have HRL : Hid (RRats X.heap.size X (.slice Av rm cv) L) := by
      have h1 := Rd.own hO.out (own_le hO.out)
      show Rd _ _ _ _ _ _
      rw [← hL, HRM.out]
      exact h1
    have CL := Lib.hid (leastR_any L (by rw [← hL]; exact HRO.out k) _ X HRL.out)
    have hrml : L.length = rm := by rw [← hL]; exact HRM.out
    rw [hrml] at CL
    have HCE : Hid (choE l h ca cb = if 0 < rm then 0 else 4) := by show _ = _; unfold choE; rw [HN.out, HLK.out, hrml]
    have HCR : Hid (choR l h ca cb = if 0 < rm then lstR L rm else zeroR) := by show _ = _; unfold choR; rw [HN.out, HLK.out, hrml]
    obtain ⟨R, hR⟩ : ∃ R, lstR L rm = R := ⟨_, rfl⟩
    rw [hR] at CL HCR
    clear hO hR hL hrml h00
    go_wp2_with fail
    refine CL.out.mono ?_
    rintro _ Y ⟨rfl, hb5⟩
    have F6 : ∃ Z, Y.alloc (.cells #[.int .i64 R.m, .int .i64 R.days, .int .i64 R.n, .int .i64 R.d] 159) = Z ∧ Hid (Below Y.heap.size Y Z) ∧ Hid (Blk Z Y.heap.size 159 #[.int .i64 R.m, .int .i64 R.days, .int .i64 R.n, .int .i64 R.d]) := ⟨_, rfl, below_alloc _ _, Blk.new _ _ _⟩
    obtain ⟨Z, e6, HZ, HKR⟩ := F6
    have E6 := Lib.hid e6
    have HBZ1 : Hid (Below W1.heap.size W1 Z) := HB1X.out.trans ((hb5.trans (HZ.out.mono hb5.size)).mono HB1X.out.size)
    have HBZ : Hid (Below w.heap.size w Z) := HBX.out.trans ((hb5.trans (HZ.out.mono hb5.size)).mono HBX.out.size)
    have HKZ := Lib.hid (HK.out Z HBZ1.out).2
    obtain ⟨rb, hrb⟩ : ∃ q, Y.heap.size = q := ⟨_, rfl⟩
    rw [hrb] at HKR
    have HRB := Lib.hid hrb
    clear CL hb5 e6 hrb HZ hB
    go_upto_region 14 with fail
    rw [E6.out, HRB.out]
    clear E6
    by_cases hr0 : 0 < rm
    · have HCE2 : Hid (choE l h ca cb = 0) := by show _ = _; rw [HCE.out, if_pos hr0]
      have HCR2 : Hid (choR l h ca cb = R) := by show _ = _; rw [HCR.out, if_pos hr0]
      have hdr : decide (0 < rm) = true := decide_eq_true hr0
      have r0 := cellOf HKZ.out 0 (x := .int .i64 0) rfl
      have r1 := cellOf HKZ.out 1 (x := .int .i64 0) rfl
      have r2 := cellOf HKZ.out 2 (x := .int .i64 0) rfl
      have f0 := HKZ.out.frozen 0
      have f1 := HKZ.out.frozen 1
      have f2 := HKZ.out.frozen 2
      have hK : KeptBut (fun i => i = p) Z (((Z.setCell ⟨p, 0, none⟩ (.int .i64 R.days)).setCell ⟨p, 1, none⟩ (.int .i64 R.n)).setCell ⟨p, 2, none⟩ (.int .i64 R.d)) := ((KeptBut.setCell (S := fun i => i = p) rfl _).trans (KeptBut.setCell (S := fun i => i = p) rfl _) fun _ _ h => h).trans (KeptBut.setCell (S := fun i => i = p) rfl _) fun _ _ h => h
      have R' := (((HKZ.out.put 0 (.int .i64 R.days)).put 1 (.int .i64 R.n)).put 2 (.int .i64 R.d)).drew_
      have e0 := cellOf R' 0 (x := .int .i64 R.days) rfl
      have e1 := cellOf R' 1 (x := .int .i64 R.n) rfl
      have e2 := cellOf R' 2 (x := .int .i64 R.d) rfl
      have HFIN : Hid (Below w.heap.size w (((Z.setCell ⟨p, 0, none⟩ (.int .i64 R.days)).setCell ⟨p, 1, none⟩ (.int .i64 R.n)).setCell ⟨p, 2, none⟩ (.int .i64 R.d)).drew) := (HBZ.out.trans (hK.below (fun i hi => by rw [hi, HP.out]; exact Nat.le_refl _) HBZ.out.size)).drew
      clear hK R'
      have s0 := cellOf HKR.out 0 (x := .int .i64 R.m) rfl
      have s1 := cellOf HKR.out 1 (x := .int .i64 R.days) rfl
      have s2 := cellOf HKR.out 2 (x := .int .i64 R.n) rfl
      have s3 := cellOf HKR.out 3 (x := .int .i64 R.d) rfl
      have s0' := cellOf HKR.out.drew_ 0 (x := .int .i64 R.m) rfl
      have s1' := cellOf HKR.out.drew_ 1 (x := .int .i64 R.days) rfl
      have s2' := cellOf HKR.out.drew_ 2 (x := .int .i64 R.n) rfl
      have s3' := cellOf HKR.out.drew_ 3 (x := .int .i64 R.d) rfl
      have r0' := cellOf HKZ.out.drew_ 0 (x := .int .i64 0) rfl
      have r1' := cellOf HKZ.out.drew_ 1 (x := .int .i64 0) rfl
      have r2' := cellOf HKZ.out.drew_ 2 (x := .int .i64 0) rfl
      have f0' := HKZ.out.drew_.frozen 0
      have f1' := HKZ.out.drew_.frozen 1
      have f2' := HKZ.out.drew_.frozen 2
      go_upto_region 16 with fail
      go_region
      clear s0 s1 s2 s3 s0' s1' s2' s3' r0 r1 r2 r0' r1' r2' f0 f1 f2 f0' f1' f2'
      go_wp2_with fail
      rw [HCE2.out, HCR2.out]
      exact bodyPost_ret (v := .tuple #[.int .i64 R.m, .agg #[.int .i64 R.days, .int .i64 R.n, .int .i64 R.d], .int .i64 0]) (by simp [results, Try.results25, go_sem, e0, e1, e2]) rfl ⟨rfl, HFIN.out⟩
    · have HCE2 : Hid (choE l h ca cb = 4) := by show _ = _; rw [HCE.out, if_neg hr0]
      have HCR2 : Hid (choR l h ca cb = zeroR) := by show _ = _; rw [HCR.out, if_neg hr0]
      have hdr : decide (0 < rm) = false := decide_eq_false hr0
      have r0 := cellOf HKZ.out 0 (x := .int .i64 0) rfl
      have r1 := cellOf HKZ.out 1 (x := .int .i64 0) rfl
      have r2 := cellOf HKZ.out 2 (x := .int .i64 0) rfl
      have f0 := HKZ.out.frozen 0
      have f1 := HKZ.out.frozen 1
      have f2 := HKZ.out.frozen 2
      have hK : KeptBut (fun i => i = p) Z (((Z.setCell ⟨p, 0, none⟩ (.int .i64 0)).setCell ⟨p, 1, none⟩ (.int .i64 0)).setCell ⟨p, 2, none⟩ (.int .i64 0)) := ((KeptBut.setCell (S := fun i => i = p) rfl _).trans (KeptBut.setCell (S := fun i => i = p) rfl _) fun _ _ h => h).trans (KeptBut.setCell (S := fun i => i = p) rfl _) fun _ _ h => h
      have R' := (((HKZ.out.put 0 (.int .i64 0)).put 1 (.int .i64 0)).put 2 (.int .i64 0))
      have e0 := cellOf R' 0 (x := .int .i64 0) rfl
      have e1 := cellOf R' 1 (x := .int .i64 0) rfl
      have e2 := cellOf R' 2 (x := .int .i64 0) rfl
      have HFIN : Hid (Below w.heap.size w (((Z.setCell ⟨p, 0, none⟩ (.int .i64 0)).setCell ⟨p, 1, none⟩ (.int .i64 0)).setCell ⟨p, 2, none⟩ (.int .i64 0))) := HBZ.out.trans (hK.below (fun i hi => by rw [hi, HP.out]; exact Nat.le_refl _) HBZ.out.size)
      clear hK R'
      go_wp2_with fail
      rw [HCE2.out, HCR2.out]
      exact bodyPost_ret (v := .tuple #[.int .i64 0, .agg #[.int .i64 0, .int .i64 0, .int .i64 0], .int .i64 4]) (by simp [results, Try.results25, go_sem, e0, e1, e2]) rfl ⟨rfl, HFIN.out⟩
end Go.Proofs.Ytlmpbmlbllndcaa
