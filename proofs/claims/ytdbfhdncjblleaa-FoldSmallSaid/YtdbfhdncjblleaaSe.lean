/-
  FoldFills: the walk: whatever the run, the product and the number, the call returns true and what there was stays as it was.
-/
import Derived.Test.YtdbfhdncjblleaaSd
namespace Go.Proofs.Ytdbfhdncjblleaa
open Go.RowKit

theorem WSh.base_ {B B' : Nat} {X : World} {A : Option Addr} {n : Nat} {T : Nat → Option Addr × Nat × Nat} (h : WSh B X A n T) (hb : B' ≤ B) : WSh B' X A n T := fun i hi => by
  obtain ⟨g, cs, e, h1, h2, h3, h4⟩ := h i hi
  refine ⟨g, cs, e, h1, h2, h3, fun k hk => ?_⟩
  obtain ⟨g2, cs2, e2, h5, h6, h7⟩ := h4 k hk
  exact ⟨g2, cs2, e2, by omega, h6, h7⟩
theorem RbSh.base_ {B B' : Nat} {X : World} {A : Option Addr} {n : Nat} (h : RbSh B X A n) (hb : B' ≤ B) : RbSh B' X A n := fun i hi => by
  obtain ⟨g, cs, e, h1, h2, h3⟩ := h i hi
  exact ⟨g, cs, e, by omega, h2, h3⟩
/-- The plates of a web of one's own, in a world. -/
theorem WSh.web {B : Nat} {X : World} {g i n tn tc : Nat} {Ti : Option Addr} {T : Nat → Option Addr × Nat × Nat} (h : WSh B X (some ⟨g, 0, none⟩) n T) (hi : i < n) (hT : T i = (Ti, tn, tc)) :
    X.cell? ⟨g, i * 3 + 2, none⟩ = some (.slice Ti tn tc) ∧ tn ≤ 1000 ∧ ∀ k, k < tn → ∃ g2 cs2, Ti = some ⟨g2, 0, none⟩ ∧ B ≤ g2 ∧ Blk X g2 89 cs2 ∧ k * 2 < cs2.size := by
  obtain ⟨g', cs, e, h1, h2, h3, h4⟩ := h i hi
  cases e
  rw [hT] at h2 h3 h4
  exact ⟨cellOf h1 _ h2, h3, h4⟩

set_option maxRecDepth 100000 in
set_option maxHeartbeats 8000000 in
theorem Fills_any (RC : RefCheckOk) (v pv : Value) (r : RunD) (product : List (List Int)) (n : Int) (w : World) (h : RRun w.heap.size w v r) (hp : RIntss w.heap.size w pv product) :
    Calls Try.prog 4 #[v, pv, .int .i64 n] w fun e w' => e = .returned (.bool true) ∧ Below w.heap.size w w' := by
  have HRC := Lib.hid RC
  have hrun := Lib.hid h
  have HP := Lib.hid hp
  obtain ⟨A1, c1, A2, c2, A3, c3, rfl⟩ := h.shape
  obtain ⟨Ap, cp, rfl, hpl, hpr⟩ := hp.deepB
  have HPR := Lib.hid hpr
  have HSTK := Lib.hid h.stacks
  clear h RC hp hpr
  have F0 : ∃ W0, w.alloc (.cells #[.slice A1 r.webs.length c1, .slice A2 r.ribs.length c2, .slice A3 r.stacks.length c3, .bool r.coll] 26) = W0 ∧ Below w.heap.size w W0 ∧ Blk W0 w.heap.size 26 #[.slice A1 r.webs.length c1, .slice A2 r.ribs.length c2, .slice A3 r.stacks.length c3, .bool r.coll] :=
    ⟨_, rfl, (Below.refl _ _).alloc (Nat.le_refl _) _, Blk.new _ _ _⟩
  obtain ⟨W0, e0, B0, V0⟩ := F0
  have E0 := Lib.hid e0
  have v0 := cellOf V0 0 (x := .slice A1 r.webs.length c1) rfl
  have v1 := cellOf V0 1 (x := .slice A2 r.ribs.length c2) rfl
  have v2 := cellOf V0 2 (x := .slice A3 r.stacks.length c3) rfl
  have v3 := cellOf V0 3 (x := .bool r.coll) rfl
  have C := Lib.hid (big_any _ r W0 ((hrun.out.below B0).more B0.size))
  have HV0 := Lib.hid V0
  clear e0 V0
  go_enter Try.func4, Try.ntmps4
  go_upto_region 1 with fail
  rw [E0.out]
  cases hbig : bigB r
  case true =>
    rw [hbig] at C
    go_wp2_with fail
    refine C.out.mono ?_
    rintro e w5 ⟨rfl, hb5⟩
    have B5 := B0.trans (hb5.mono B0.size)
    go_wp2_with fail
    refine (awake_any _).mono ?_
    rintro e w6 ⟨rfl, hb6⟩
    go_wp2
    go_ret
    exact ⟨rfl, B5.trans (hb6.mono B5.size)⟩
  rw [hbig] at C
  have HSM := Lib.hid (small_of3 hbig)
  clear hbig
  by_cases h40 : 40 < product.length
  case pos =>
    have h40' : (40 : Int) < (product.length : Int) := by omega
    go_wp2_with fail
    refine C.out.mono ?_
    rintro e w5 ⟨rfl, hb5⟩
    have B5 := B0.trans (hb5.mono B0.size)
    go_wp2_with fail
    refine (awake_any _).mono ?_
    rintro e w6 ⟨rfl, hb6⟩
    go_wp2
    go_ret
    exact ⟨rfl, B5.trans (hb6.mono B5.size)⟩
  have h40' : ¬ (40 : Int) < (product.length : Int) := by omega
  go_wp2_with fail
  refine C.out.mono ?_
  rintro e w1 ⟨rfl, hb1⟩
  have B1 := B0.trans (hb1.mono B0.size)
  have HV1 := Lib.hid (HV0.out.below hb1 HV0.out.lt)
  have H40 := Lib.hid h40
  clear v0 v1 v2 v3 C hb1
  go_wp2
  clear h40 h40'
  go_loop [7] (fun i => ∃ k : Nat, k ≤ product.length ∧ i = .int .i64 k ∧ Hid (∀ (j : Nat) s, j < k → product[j]? = some s → s.length ≤ 200)) (fun i => product.length - (intOf i).toNat)
  case atStart => exact ⟨0, Nat.zero_le _, rfl, fun j s hj => by omega⟩
  case round =>
    obtain ⟨k, hk, rfl, ht⟩ := hrel
    by_cases hlt : k < product.length
    case pos =>
      obtain ⟨sec, hx⟩ : ∃ s, product[k]? = some s := ⟨_, List.getElem?_eq_getElem hlt⟩
      obtain ⟨g, o, D, d, rfl, -, hsl, hcs, -⟩ := HPR.out k sec hx
      have m0 := hcs w1 B1
      have hki : (k : Int) < (product.length : Int) := by omega
      have HX := Lib.hid hx
      clear hx hcs
      by_cases h2 : 200 < sec.length
      case pos =>
        have h2' : (200 : Int) < (sec.length : Int) := by omega
        go_wp2_with fail
        refine (awake_any _).mono ?_
        rintro e w6 ⟨rfl, hb6⟩
        go_wp2
        go_ret
        exact ⟨rfl, B1.trans (hb6.mono B1.size)⟩
      have h2' : ¬ (200 : Int) < (sec.length : Int) := by omega
      have HN : Hid (∀ (j : Nat) s, j < k + 1 → product[j]? = some s → s.length ≤ 200) := fun j s hj hs => by
        rcases Nat.lt_or_ge j k with h | h
        · exact ht.out j s h hs
        · obtain rfl : j = k := by omega
          obtain rfl := Option.some.inj (HX.out.symm.trans hs)
          omega
      clear ht
      go_wp2
      go_round
      case rel => exact ⟨k + 1, by omega, by go_num, HN⟩
      case measure => simp [intOf]; omega
    have H200 : Hid (∀ s ∈ product, s.length ≤ 1048576) := fun s hs => by
      obtain ⟨j, hj, rfl⟩ := List.getElem_of_mem hs
      have := ht.out j _ (by omega) (List.getElem?_eq_getElem hj)
      omega
    clear ht
    have v0 := cellOf HV1.out 0 (x := .slice A1 r.webs.length c1) rfl
    have v1 := cellOf HV1.out 1 (x := .slice A2 r.ribs.length c2) rfl
    have v2 := cellOf HV1.out 2 (x := .slice A3 r.stacks.length c3) rfl
    have v3 := cellOf HV1.out 3 (x := .bool r.coll) rfl
    have C := Lib.hid (Own_any _ r w1 ((hrun.out.below B1).more B1.size) HSM.out.bounded)
    go_wp2_with fail
    refine C.out.mono ?_
    rintro e w3 ⟨u, rfl, hor, hb3⟩
    have B3 := B1.trans (hb3.mono B1.size)
    obtain ⟨X1, d1, X2, d2, X3, d3, rfl⟩ := (orun_reads hor).shape
    have CL := Lib.hid (CopyLists_any _ product w3 ((HP.out.below B3).more B3.size) (by have := H40.out; omega) H200.out)
    have HXR := Lib.hid (orun_reads hor)
    have HV3 := Lib.hid (HV1.out.below hb3 HV1.out.lt)
    clear v0 v1 v2 v3 C hor hb3 hlt
    go_wp2_with fail
    refine CL.out.mono ?_
    rintro e w4 ⟨ow, rfl, how, hb4⟩
    have B4 := B3.trans (hb4.mono B3.size)
    obtain ⟨Ao, co, rfl⟩ := OIntss.form how
    have hor4 : RIntss w4.heap.size w4 (.slice Ao product.length co) product := by
      obtain ⟨ws, how⟩ := how
      exact OAll.reads how fun _ _ hr => Rd.own hr (own_le hr)
    have F5 : ∃ w5, w4.alloc (.cells #[.slice X1 r.webs.length d1, .slice X2 r.ribs.length d2, .slice X3 r.stacks.length d3, .bool r.coll] 36) = w5 ∧ Below w4.heap.size w4 w5 ∧ Blk w5 w4.heap.size 36 #[.slice X1 r.webs.length d1, .slice X2 r.ribs.length d2, .slice X3 r.stacks.length d3, .bool r.coll] :=
      ⟨_, rfl, (Below.refl _ _).alloc (Nat.le_refl _) _, Blk.new _ _ _⟩
    obtain ⟨w5, e5, hb5, O5⟩ := F5
    have E5 := Lib.hid e5
    have B5 := B4.trans (hb5.mono B4.size)
    have V5 := (HV3.out.below hb4 HV3.out.lt).below hb5 (Nat.lt_of_lt_of_le HV3.out.lt hb4.size)
    have HXR5 := Lib.hid ((((HXR.out.below hb4).more hb4.size).below hb5).more hb5.size)
    have HOW5 := Lib.hid ((hor4.below hb5).more hb5.size)
    -- what stands, in every later world
    have hbox : ∀ X, Below w5.heap.size w5 X → X.cell? ⟨w.heap.size, 0, none⟩ = some (.slice A1 r.webs.length c1) ∧ X.cell? ⟨w.heap.size, 1, none⟩ = some (.slice A2 r.ribs.length c2) ∧ X.cell? ⟨w.heap.size, 2, none⟩ = some (.slice A3 r.stacks.length c3) ∧ X.cell? ⟨w.heap.size, 3, none⟩ = some (.bool r.coll) ∧
        X.cell? ⟨w4.heap.size, 0, none⟩ = some (.slice X1 r.webs.length d1) ∧ X.cell? ⟨w4.heap.size, 1, none⟩ = some (.slice X2 r.ribs.length d2) ∧ X.cell? ⟨w4.heap.size, 2, none⟩ = some (.slice X3 r.stacks.length d3) ∧ X.cell? ⟨w4.heap.size, 3, none⟩ = some (.bool r.coll) := fun X hX => by
      have t := V5.below hX V5.lt
      have u := O5.below hX O5.lt
      exact ⟨cellOf t 0 rfl, cellOf t 1 rfl, cellOf t 2 rfl, cellOf t 3 rfl, cellOf u 0 rfl, cellOf u 1 rfl, cellOf u 2 rfl, cellOf u 3 rfl⟩
    have HBX := Lib.hid hbox
    have HRR : Hid (∀ X, Below w5.heap.size w5 X → RRun X.heap.size X (.agg #[.slice A1 r.webs.length c1, .slice A2 r.ribs.length c2, .slice A3 r.stacks.length c3, .bool r.coll]) r) := fun X hX => (hrun.out.below (B5.trans (hX.mono B5.size))).more (Nat.le_trans B5.size hX.size)
    have HRX : Hid (∀ X, Below w5.heap.size w5 X → RRun X.heap.size X (.agg #[.slice X1 r.webs.length d1, .slice X2 r.ribs.length d2, .slice X3 r.stacks.length d3, .bool r.coll]) r) := fun X hX => (HXR5.out.below hX).more hX.size
    have HPP : Hid (∀ X, Below w5.heap.size w5 X → RIntss X.heap.size X (.slice Ap product.length cp) product) := fun X hX => (HP.out.below (B5.trans (hX.mono B5.size))).more (Nat.le_trans B5.size hX.size)
    have HPO : Hid (∀ X, Below w5.heap.size w5 X → RIntss X.heap.size X (.slice Ao product.length co) product) := fun X hX => (HOW5.out.below hX).more hX.size
    have HSS : Hid (∀ X, Below w5.heap.size w5 X → RIntss X.heap.size X (.slice A3 r.stacks.length c3) r.stacks) := fun X hX => (HSTK.out.below (B5.trans (hX.mono B5.size))).more (Nat.le_trans B5.size hX.size)
    have HBF : Hid (∀ X, Below w5.heap.size w5 X → Below w.heap.size w X) := fun X hX => B5.trans (hX.mono B5.size)
    clear CL how hor4 hb4 hb5 e5 O5 V5 hbox HXR HXR5 HOW5 HV3 HV1 HV0 B0 B1 B3 B4 B5 HSTK
    -- Right of both
    obtain ⟨v0, v1, v2, v3, x0, x1, x2, x3⟩ := HBX.out w5 (Below.refl _ _)
    obtain ⟨rb1, re1, hrv⟩ := right_form r product
    have hr1 := Right_any _ _ r product w5 (HRX.out w5 (Below.refl _ _)) (HPO.out w5 (Below.refl _ _))
    rw [hrv] at hr1
    have C := Lib.hid hr1
    clear hr1
    go_upto_region 9 with fail
    rw [E5.out]
    go_wp2_with fail
    refine C.out.mono ?_
    rintro e w6 ⟨rfl, hb6⟩
    clear C v0 v1 v2 v3 x0 x1 x2 x3
    obtain ⟨v0, v1, v2, v3, x0, x1, x2, x3⟩ := HBX.out w6 hb6
    have hr1 := refRight_any HRC.out _ _ r product w6 (HRR.out w6 hb6) HSM.out (HPP.out w6 hb6)
    rw [hrv] at hr1
    have C := Lib.hid hr1
    clear hr1
    go_wp2_with fail
    refine C.out.mono ?_
    rintro e w7 ⟨rfl, h7⟩
    have hb7 := hb6.trans (h7.mono hb6.size)
    have k0 : (rb1 != rb1) = false := by simp
    have k1 : (re1 != re1) = false := by simp
    clear C v0 v1 v2 v3 x0 x1 x2 x3 hb6 h7 hrv
    -- Fill of both
    obtain ⟨v0, v1, v2, v3, x0, x1, x2, x3⟩ := HBX.out w7 hb7
    have C := Lib.hid (Fill_any _ _ r product w7 (HRX.out w7 hb7) (HPO.out w7 hb7))
    go_upto_region 13 with fail
    go_wp2_with fail
    refine C.out.mono ?_
    intro e w8 hfr
    obtain ⟨ua, ra, rfl, hoa, hf0, hf1, h8⟩ := fill_ret hfr
    obtain ⟨E, hE⟩ : ∃ E, fillE r product = E := ⟨_, rfl⟩
    have hb8 := hb7.trans (h8.mono hb7.size)
    have hsa : SmallRun ra := by
      by_cases hf : fillE r product = 0
      · exact small_filled HSM.out (hf0 hf)
      · rw [hf1 hf]; exact zero_small
    obtain ⟨Y1, y1, Y2, y2, Y3, y3, TA, rfl, hwa, hba⟩ := orun_shape hoa hsa
    have F9 : ∃ w9, w8.alloc (.cells #[.slice Y1 ra.webs.length y1, .slice Y2 ra.ribs.length y2, .slice Y3 ra.stacks.length y3, .bool ra.coll] 36) = w9 ∧ Below w8.heap.size w8 w9 ∧ Blk w9 w8.heap.size 36 #[.slice Y1 ra.webs.length y1, .slice Y2 ra.ribs.length y2, .slice Y3 ra.stacks.length y3, .bool ra.coll] :=
      ⟨_, rfl, (Below.refl _ _).alloc (Nat.le_refl _) _, Blk.new _ _ _⟩
    obtain ⟨w9, e9, h9, O9⟩ := F9
    have E9 := Lib.hid e9
    have hb9 := hb8.trans (h9.mono hb8.size)
    have HAR := Lib.hid (((orun_reads hoa).below h9).more h9.size)
    have HWA := Lib.hid (hwa.below h9)
    have HBA := Lib.hid (hba.below h9)
    have HO9 := Lib.hid O9
    have HF0 := Lib.hid hf0
    have HF1 := Lib.hid hf1
    have H79 := Lib.hid (h8.trans (h9.mono h8.size))
    have HLA : Hid (ra.webs.length ≤ 1000 ∧ ra.ribs.length ≤ 1000) := ⟨hsa.1, hsa.2.1⟩
    clear C v0 v1 v2 v3 x0 x1 x2 x3 hfr hoa hf0 hf1 h8 hb8 hsa hwa hba e9 h9 O9 k0 k1
    obtain ⟨v0, v1, v2, v3, x0, x1, x2, x3⟩ := HBX.out w9 hb9
    have C := Lib.hid (refFill_any HRC.out A1 A2 A3 c1 c2 c3 _ r product w9 (HRR.out w9 hb9) HSM.out (HPP.out w9 hb9))
    go_upto_region 14 with fail
    rw [E9.out]
    go_wp2_with fail
    refine C.out.mono ?_
    intro e w10 hfr
    obtain ⟨ub, rb, rfl, hrb, hg0, hg1, h10⟩ := rfill_ret hfr (HSS.out w9 hb9)
    rw [hE]
    have hb10 := hb9.trans (h10.mono hb9.size)
    have hab : rb = ra := by
      by_cases hf : fillE r product = 0
      · have hck : checkE r = 0 := by
          unfold fillE at hf
          by_cases hc : checkE r = 0
          · exact hc
          · rw [if_pos hc] at hf; exact absurd hf hc
        exact filled_same hck (hg0 hf) (HF0.out hf)
      · rw [hg1 hf, HF1.out hf]
    rw [hab] at hrb
    obtain ⟨Z1, z1, Z2, z2, Z3, z3, rfl⟩ := hrb.shape
    have F11 : ∃ w11, w10.alloc (.cells #[.slice Z1 ra.webs.length z1, .slice Z2 ra.ribs.length z2, .slice Z3 ra.stacks.length z3, .bool ra.coll] 26) = w11 ∧ Below w10.heap.size w10 w11 ∧ Blk w11 w10.heap.size 26 #[.slice Z1 ra.webs.length z1, .slice Z2 ra.ribs.length z2, .slice Z3 ra.stacks.length z3, .bool ra.coll] :=
      ⟨_, rfl, (Below.refl _ _).alloc (Nat.le_refl _) _, Blk.new _ _ _⟩
    obtain ⟨w11, e11, h11, O11⟩ := F11
    have E11 := Lib.hid e11
    have hb11 := hb10.trans (h11.mono hb10.size)
    have h911 := h10.trans (h11.mono h10.size)
    have O9' := HO9.out.below h911 HO9.out.lt
    have HB911 := Lib.hid h911
    have a0 := cellOf O9' 0 (x := .slice Y1 ra.webs.length y1) rfl
    have a1 := cellOf O9' 1 (x := .slice Y2 ra.ribs.length y2) rfl
    have a2 := cellOf O9' 2 (x := .slice Y3 ra.stacks.length y3) rfl
    have a3 := cellOf O9' 3 (x := .bool ra.coll) rfl
    have b0 := cellOf O11 0 (x := .slice Z1 ra.webs.length z1) rfl
    have b1 := cellOf O11 1 (x := .slice Z2 ra.ribs.length z2) rfl
    have b2 := cellOf O11 2 (x := .slice Z3 ra.stacks.length z3) rfl
    have b3 := cellOf O11 3 (x := .bool ra.coll) rfl
    have hs1 := Same_any _ _ ra ra w11 ((HAR.out.below h911).more h911.size) ((hrb.below h11).more h11.size)
    rw [decide_eq_true (rfl : ra = ra)] at hs1
    have CS := Lib.hid hs1
    have kE : (E != E) = false := by simp
    clear C v0 v1 v2 v3 x0 x1 x2 x3 hfr hg0 hg1 hab hrb e11 h10 h11 O11 O9' h911 hs1 HF0 HF1 hb9 hb10
    go_upto_region 15 with fail
    rw [E11.out]
    go_wp2_with fail
    refine CS.out.mono ?_
    rintro e w12 ⟨rfl, h12⟩
    have hb12 := hb11.trans (h12.mono hb11.size)
    have HB912 := Lib.hid (HB911.out.trans (h12.mono HB911.out.size))
    clear CS a0 a1 a2 a3 b0 b1 b2 b3 kE h12 hb11 HB911 hE
    -- Turn of both
    obtain ⟨v0, v1, v2, v3, x0, x1, x2, x3⟩ := HBX.out w12 hb12
    have C := Lib.hid (Turn_any _ r n w12 (HRX.out w12 hb12))
    obtain ⟨rc, hrc⟩ : ∃ rc, (if turnE r n = 0 then turnD r n else zeroRun) = rc := ⟨_, rfl⟩
    have hsc : SmallRun rc := by
      rw [← hrc]
      split
      · exact small_turn HSM.out n
      · exact zero_small
    obtain ⟨E2, hE2⟩ : ∃ E2, turnE r n = E2 := ⟨_, rfl⟩
    go_upto_region 17 with fail
    go_wp2_with fail
    refine C.out.mono ?_
    intro e w13 hfr
    obtain ⟨uc, rfl, hoc, h13⟩ := turn_ret hfr
    rw [hrc] at hoc
    have hb13 := hb12.trans (h13.mono hb12.size)
    obtain ⟨P1, p1, P2, p2, P3, p3, TC, rfl, hwc, hbc⟩ := orun_shape hoc hsc
    have F14 : ∃ w14, w13.alloc (.cells #[.slice P1 rc.webs.length p1, .slice P2 rc.ribs.length p2, .slice P3 rc.stacks.length p3, .bool rc.coll] 36) = w14 ∧ Below w13.heap.size w13 w14 ∧ Blk w14 w13.heap.size 36 #[.slice P1 rc.webs.length p1, .slice P2 rc.ribs.length p2, .slice P3 rc.stacks.length p3, .bool rc.coll] :=
      ⟨_, rfl, (Below.refl _ _).alloc (Nat.le_refl _) _, Blk.new _ _ _⟩
    obtain ⟨w14, e14, h14, O14⟩ := F14
    have E14 := Lib.hid e14
    have hb14 := hb13.trans (h14.mono hb13.size)
    have HCR := Lib.hid (((orun_reads hoc).below h14).more h14.size)
    have HWC := Lib.hid (hwc.below h14)
    have HBC := Lib.hid (hbc.below h14)
    have HO14 := Lib.hid O14
    have H1214 := Lib.hid (h13.trans (h14.mono h13.size))
    have hz12 := hb12.size
    have HLC : Hid (rc.webs.length ≤ 1000 ∧ rc.ribs.length ≤ 1000) := ⟨hsc.1, hsc.2.1⟩
    clear C v0 v1 v2 v3 x0 x1 x2 x3 hfr hoc h13 hb13 hsc hwc hbc e14 h14 O14
    obtain ⟨v0, v1, v2, v3, x0, x1, x2, x3⟩ := HBX.out w14 hb14
    have C := Lib.hid (refTurn_any HRC.out A1 A2 A3 c1 c2 c3 r n w14 (HRR.out w14 hb14) HSM.out)
    go_upto_region 18 with fail
    rw [E14.out]
    go_wp2_with fail
    refine C.out.mono ?_
    intro e w15 hfr
    obtain ⟨ud, rfl, hrd, h15⟩ := rturn_ret hfr (HSS.out w14 hb14)
    rw [hrc] at hrd
    rw [hE2]
    have hb15 := hb14.trans (h15.mono hb14.size)
    obtain ⟨Q1, q1, Q2, q2, Q3, q3, rfl⟩ := hrd.shape
    have F16 : ∃ w16, w15.alloc (.cells #[.slice Q1 rc.webs.length q1, .slice Q2 rc.ribs.length q2, .slice Q3 rc.stacks.length q3, .bool rc.coll] 26) = w16 ∧ Below w15.heap.size w15 w16 ∧ Blk w16 w15.heap.size 26 #[.slice Q1 rc.webs.length q1, .slice Q2 rc.ribs.length q2, .slice Q3 rc.stacks.length q3, .bool rc.coll] :=
      ⟨_, rfl, (Below.refl _ _).alloc (Nat.le_refl _) _, Blk.new _ _ _⟩
    obtain ⟨w16, e16, h16, O16⟩ := F16
    have E16 := Lib.hid e16
    have hb16 := hb15.trans (h16.mono hb15.size)
    have h1416 := h15.trans (h16.mono h15.size)
    have O14' := HO14.out.below h1416 HO14.out.lt
    have a0 := cellOf O14' 0 (x := .slice P1 rc.webs.length p1) rfl
    have a1 := cellOf O14' 1 (x := .slice P2 rc.ribs.length p2) rfl
    have a2 := cellOf O14' 2 (x := .slice P3 rc.stacks.length p3) rfl
    have a3 := cellOf O14' 3 (x := .bool rc.coll) rfl
    have b0 := cellOf O16 0 (x := .slice Q1 rc.webs.length q1) rfl
    have b1 := cellOf O16 1 (x := .slice Q2 rc.ribs.length q2) rfl
    have b2 := cellOf O16 2 (x := .slice Q3 rc.stacks.length q3) rfl
    have b3 := cellOf O16 3 (x := .bool rc.coll) rfl
    have hs1 := Same_any _ _ rc rc w16 ((HCR.out.below h1416).more h1416.size) ((hrd.below h16).more h16.size)
    rw [decide_eq_true (rfl : rc = rc)] at hs1
    have CS := Lib.hid hs1
    have kE : (E2 != E2) = false := by simp
    have H1416 := Lib.hid h1416
    clear C v0 v1 v2 v3 x0 x1 x2 x3 hfr hrd e16 h15 h16 O16 O14' h1416 hs1 hb14 hb15 hrc hE2
    go_upto_region 19 with fail
    rw [E16.out]
    go_wp2_with fail
    refine CS.out.mono ?_
    rintro e w17 ⟨rfl, h17⟩
    have hb17 := hb16.trans (h17.mono hb16.size)
    have h1417 := H1416.out.trans (h17.mono H1416.out.size)
    have h1217 := H1214.out.trans (h1417.mono H1214.out.size)
    have h917 := HB912.out.trans (h1217.mono HB912.out.size)
    have O9' := HO9.out.below h917 HO9.out.lt
    have O14' := HO14.out.below h1417 HO14.out.lt
    have hz7 := hb7.size
    have h717 := H79.out.trans (h917.mono H79.out.size)
    have a0 := cellOf O9' 0 (x := .slice Y1 ra.webs.length y1) rfl
    have a1 := cellOf O9' 1 (x := .slice Y2 ra.ribs.length y2) rfl
    have a2 := cellOf O9' 2 (x := .slice Y3 ra.stacks.length y3) rfl
    have a3 := cellOf O9' 3 (x := .bool ra.coll) rfl
    have c0 := cellOf O14' 0 (x := .slice P1 rc.webs.length p1) rfl
    have c1' := cellOf O14' 1 (x := .slice P2 rc.ribs.length p2) rfl
    have c2' := cellOf O14' 2 (x := .slice P3 rc.stacks.length p3) rfl
    have c3' := cellOf O14' 3 (x := .bool rc.coll) rfl
    clear CS b0 b1 b2 b3 kE h17 hb16
    have F18 : ∃ (w18 : World) (ya yc : YRun), w17.alloc (.cells #[.slice Y1 ra.webs.length y1, .slice Y2 ra.ribs.length y2, .slice Y3 ra.stacks.length y3, .bool ra.coll, .slice P1 rc.webs.length p1, .slice P2 rc.ribs.length p2, .slice P3 rc.stacks.length p3, .bool rc.coll] 36) = w18 ∧ MSt w7 w17.heap.size ya yc w18 ∧
        ∀ j, (yAt ya yc j).n1 ≤ 1000 ∧ (yAt ya yc j).n2 ≤ 1000 := by
      refine ⟨_, ⟨Y1, ra.webs.length, y1, Y2, ra.ribs.length, y2, Y3, ra.stacks.length, y3, ra.coll, TA⟩, ⟨P1, rc.webs.length, p1, P2, rc.ribs.length, p2, P3, rc.stacks.length, p3, rc.coll, TC⟩, rfl, ?_, fun j => ?_⟩
      · have hl := (Below.refl w17.heap.size w17).alloc (Nat.le_refl _) (.cells #[.slice Y1 ra.webs.length y1, .slice Y2 ra.ribs.length y2, .slice Y3 ra.stacks.length y3, .bool ra.coll, .slice P1 rc.webs.length p1, .slice P2 rc.ribs.length p2, .slice P3 rc.stacks.length p3, .bool rc.coll] 36)
        have hz : w7.heap.size ≤ w12.heap.size := by have := H79.out.size; have := HB912.out.size; omega
        exact ⟨h717.trans (hl.mono h717.size), Blk.new _ _ _, ⟨(HWA.out.below h917).below hl, (HBA.out.below h917).below hl⟩, ((HWC.out.below h1417).below hl).base_ hz, ((HBC.out.below h1417).below hl).base_ hz⟩
      · unfold yAt
        split
        · exact HLA.out
        · exact HLC.out
    obtain ⟨w18, ya, yc, e18, hM18, hlen⟩ := F18
    have E18 := Lib.hid e18
    have HM18 := Lib.hid hM18
    have HLEN := Lib.hid hlen
    have HB7 := Lib.hid hb7
    clear e18 hM18 hlen O9' O14' h717 h917 h1217 h1417 hb17 hb12 hz7 hz12 hb7
    go_upto_region 22 with fail
    rw [E18.out]
    clear a0 a1 a2 a3 c0 c1' c2' c3' E18
    obtain ⟨gS, hgS⟩ : ∃ gS, w17.heap.size = gS := ⟨_, rfl⟩
    rw [hgS] at HM18 ⊢
    clear hgS
    go_loopw [114] (fun i wr => ∃ j : Nat, j ≤ 2 ∧ i = .int .i64 j ∧ Hid (MSt w7 gS ya yc wr)) (fun i _ => 2 - (intOf i).toNat)
    case atStart => exact ⟨0, by omega, rfl, HM18⟩
    case round =>
      clear HM18
      obtain ⟨j, hj, rfl, hM⟩ := hrel
      by_cases hltj : j < 2
      case neg =>
        have hbF := HB7.out.trans (hM.out.1.mono HB7.out.size)
        obtain ⟨v0, v1, v2, v3, x0, x1, x2, x3⟩ := HBX.out wr hbF
        have hs1 := Same_any _ _ r r wr (HRX.out wr hbF) (HRR.out wr hbF)
        rw [decide_eq_true (rfl : r = r)] at hs1
        have CS := Lib.hid hs1
        have HBW := Lib.hid hbF
        clear hs1 hM hbF
        go_wp2_with fail
        refine CS.out.mono ?_
        rintro e w20 ⟨rfl, h20⟩
        have hb20 := HBW.out.trans (h20.mono HBW.out.size)
        have hs2 := SameLists_any _ _ product product w20 (HPO.out w20 hb20) (HPP.out w20 hb20)
        rw [decide_eq_true (rfl : product = product)] at hs2
        have CL := Lib.hid hs2
        clear CS v0 v1 v2 v3 x0 x1 x2 x3 hs2 h20
        go_wp2_with fail
        refine CL.out.mono ?_
        rintro e w21 ⟨rfl, h21⟩
        have hb21 := hb20.trans (h21.mono hb20.size)
        have BF := HBF.out w21 hb21
        clear CL h21 hb20
        go_wp2_with fail
        refine (awake_any _).mono ?_
        rintro e w22 ⟨rfl, h22⟩
        go_wp2
        go_ret
        exact ⟨rfl, BF.trans (h22.mono BF.size)⟩
      have hji : (j : Int) < 2 := by omega
      obtain ⟨m0, m1, m2, m3, -, -⟩ := hM.out.at hltj
      have hln := HLEN.out j
      have HAT : Hid (∀ X, MSt w7 gS ya yc X → WSh w7.heap.size X (yAt ya yc j).A1 (yAt ya yc j).n1 (yAt ya yc j).T ∧ RbSh w7.heap.size X (yAt ya yc j).A2 (yAt ya yc j).n2) := fun X hX => ⟨(hX.at hltj).2.2.2.2.1, (hX.at hltj).2.2.2.2.2⟩
      obtain ⟨Y, hY⟩ : ∃ Y, yAt ya yc j = Y := ⟨_, rfl⟩
      rw [hY] at m0 m1 m2 m3 hln HAT
      clear hY
      obtain ⟨yA1, yn1, yc1, yA2, yn2, yc2, yA3, yn3, yc3, yco, yT⟩ := Y
      dsimp only at m0 m1 m2 m3 hln HAT
      have F19 : ∃ w19, wr.alloc (.cells #[.slice yA1 yn1 yc1, .slice yA2 yn2 yc2, .slice yA3 yn3 yc3, .bool yco] 36) = w19 ∧ Below wr.heap.size wr w19 ∧ Blk w19 wr.heap.size 36 #[.slice yA1 yn1 yc1, .slice yA2 yn2 yc2, .slice yA3 yn3 yc3, .bool yco] :=
        ⟨_, rfl, (Below.refl _ _).alloc (Nat.le_refl _) _, Blk.new _ _ _⟩
      obtain ⟨w19, e19, h19, O19⟩ := F19
      have E19 := Lib.hid e19
      have HS19 : Hid (MSt w7 gS ya yc w19 ∧ Blk w19 wr.heap.size 36 #[.slice yA1 yn1 yc1, .slice yA2 yn2 yc2, .slice yA3 yn3 yc3, .bool yco]) := ⟨hM.out.below h19, O19⟩
      clear e19 h19 O19 hM
      go_upto_region 24 with fail
      rw [E19.out]
      clear m0 m1 m2 m3 E19
      go_wp2
      obtain ⟨gb, hgb⟩ : ∃ gb, wr.heap.size = gb := ⟨_, rfl⟩
      rw [hgb] at HS19 ⊢
      clear hgb
      go_loopw [20] (fun i wr => ∃ i' : Nat, i' ≤ yn1 ∧ i = .int .i64 i' ∧ Hid (MSt w7 gS ya yc wr ∧ Blk wr gb 36 #[.slice yA1 yn1 yc1, .slice yA2 yn2 yc2, .slice yA3 yn3 yc3, .bool yco])) (fun i _ => yn1 - (intOf i).toNat)
      case atStart => exact ⟨0, Nat.zero_le _, rfl, HS19⟩
      case round =>
        clear HS19
        obtain ⟨i, hi, rfl, hS⟩ := hrel
        have b0 := cellOf hS.out.2 0 (x := .slice yA1 yn1 yc1) rfl
        by_cases hlti : i < yn1
        case neg =>
          go_wp2
          clear b0
          go_loopw [22] (fun i wr => ∃ i' : Nat, i' ≤ yn2 ∧ i = .int .i64 i' ∧ Hid (MSt w7 gS ya yc wr ∧ Blk wr gb 36 #[.slice yA1 yn1 yc1, .slice yA2 yn2 yc2, .slice yA3 yn3 yc3, .bool yco])) (fun i _ => yn2 - (intOf i).toNat)
          case atStart => exact ⟨0, Nat.zero_le _, rfl, hS⟩
          case round =>
            clear hS
            obtain ⟨m, hm, rfl, hS⟩ := hrel
            have b1 := cellOf hS.out.2 1 (x := .slice yA2 yn2 yc2) rfl
            by_cases hltm : m < yn2
            case neg =>
              have hS1 := Lib.hid hS.out.1
              clear hS
              go_wp2
              go_roundw
              case rel => exact ⟨j + 1, by omega, by go_num, hS1⟩
              case measure => (simp [intOf]) <;> omega
            obtain ⟨g, cs, rfl, hg, hbk, hsz⟩ := (HAT.out wr hS.out.1).2 m hltm
            have hmi : (m : Int) < (yn2 : Int) := by omega
            have q0 := cellOf hbk (m * 5 + 1) (Array.getElem?_eq_getElem hsz)
            have q1 := hbk.frozen (m * 5 + 1)
            have hne := blk_ne hS.out.2 hbk (by decide)
            have hne2 : g ≠ gb := Ne.symm hne
            have HNX : Hid (MSt w7 gS ya yc (wr.setCell ⟨g, m * 5 + 1, none⟩ (.int .i64 9)) ∧ Blk (wr.setCell ⟨g, m * 5 + 1, none⟩ (.int .i64 9)) gb 36 #[.slice yA1 yn1 yc1, .slice (some ⟨g, 0, none⟩) yn2 yc2, .slice yA3 yn3 yc3, .bool yco]) :=
              ⟨hS.out.1.set hbk (by decide) (by decide) hg _ _, hS.out.2.far (p := ⟨g, m * 5 + 1, none⟩) hne _⟩
            clear hS hbk
            go_wp2
            go_roundw
            case rel => exact ⟨m + 1, by omega, by go_num, HNX⟩
            case measure => (simp [intOf]) <;> omega
        obtain ⟨g, -, rfl, -⟩ := (HAT.out wr hS.out.1).1 i hlti
        obtain ⟨Ti, tn, tc, hT⟩ : ∃ Ti tn tc, yT i = (Ti, tn, tc) := ⟨_, _, _, rfl⟩
        have HW : Hid (∀ X, MSt w7 gS ya yc X → X.cell? ⟨g, i * 3 + 2, none⟩ = some (.slice Ti tn tc) ∧ tn ≤ 1000 ∧ ∀ k, k < tn → ∃ g2 cs2, Ti = some ⟨g2, 0, none⟩ ∧ w7.heap.size ≤ g2 ∧ Blk X g2 89 cs2 ∧ k * 2 < cs2.size) :=
          fun X hX => (HAT.out X hX).1.web hlti hT
        have htn := (HW.out wr hS.out.1).2.1
        have hii : (i : Int) < (yn1 : Int) := by omega
        clear hT
        go_wp2
        clear b0
        go_loopw [21] (fun i wr => ∃ i' : Nat, i' ≤ tn ∧ i = .int .i64 i' ∧ Hid (MSt w7 gS ya yc wr ∧ Blk wr gb 36 #[.slice (some ⟨g, 0, none⟩) yn1 yc1, .slice yA2 yn2 yc2, .slice yA3 yn3 yc3, .bool yco])) (fun i _ => tn - (intOf i).toNat)
        case atStart => exact ⟨0, Nat.zero_le _, rfl, hS⟩
        case round =>
          clear hS
          obtain ⟨k', hk', rfl, hS⟩ := hrel
          have b0 := cellOf hS.out.2 0 (x := .slice (some ⟨g, 0, none⟩) yn1 yc1) rfl
          obtain ⟨q2, -, hpl⟩ := HW.out wr hS.out.1
          by_cases hltk : k' < tn
          case neg =>
            clear hpl
            go_wp2
            go_roundw
            case rel => exact ⟨i + 1, by omega, by go_num, hS⟩
            case measure => (simp [intOf]) <;> omega
          obtain ⟨g2, cs, rfl, hg, hbk, hsz⟩ := hpl k' hltk
          have hki : (k' : Int) < (tn : Int) := by omega
          have q0 := cellOf hbk (k' * 2) (Array.getElem?_eq_getElem hsz)
          have q1 := hbk.frozen (k' * 2)
          have hne := blk_ne hS.out.2 hbk (by decide)
          have hne2 : g2 ≠ gb := Ne.symm hne
          have HNX : Hid (MSt w7 gS ya yc (wr.setCell ⟨g2, k' * 2, none⟩ (.int .i64 77)) ∧ Blk (wr.setCell ⟨g2, k' * 2, none⟩ (.int .i64 77)) gb 36 #[.slice (some ⟨g, 0, none⟩) yn1 yc1, .slice yA2 yn2 yc2, .slice yA3 yn3 yc3, .bool yco]) :=
            ⟨hS.out.1.set hbk (by decide) (by decide) hg _ _, hS.out.2.far (p := ⟨g2, k' * 2, none⟩) hne _⟩
          clear hS hbk hpl
          go_wp2
          go_roundw
          case rel => exact ⟨k' + 1, by omega, by go_num, HNX⟩
          case measure => (simp [intOf]) <;> omega
end Go.Proofs.Ytdbfhdncjblleaa
