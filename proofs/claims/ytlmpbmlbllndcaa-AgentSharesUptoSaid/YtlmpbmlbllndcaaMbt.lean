/-
  shared: Share and Fair beside the reference's.
-/
import Derived.Test.YtlmpbmlbllndcaaMbo
import Derived.Test.YtlmpbmlbllndcaaMbr
import Derived.Test.YtlmpbmlbllndcaaMbs
namespace Go.Proofs.Ytlmpbmlbllndcaa
open Go.RowKit
attribute [local go_sem] Oper.semAt_some

theorem sliceROrd : Try.prog.underlying 117 = some (.slice 118) := by kernel_rfl
theorem infoROrd : (Try.prog.info? 118).map (fun i => (i.zero, i.size, i.bytes)) = some (some (.agg #[.int .i64 0, .int .i64 0, .int .i64 0]), 3, 24) := by kernel_rfl
/-- What Share returns, as a list. -/
def shG (l : List OrdD) (c : Int) : List Int := if ordE l c = 0 then sharesD l c else []
theorem shG_len (l : List OrdD) (c : Int) : (shG l c).length ≤ 40 := by
  unfold shG
  by_cases h : ordE l c = 0
  · rw [if_pos h, shares_len (ordE_ok h).2.1]
    exact (ordE_ok h).1
  · rw [if_neg h]
    simp
theorem ShRet.reads {l : List OrdD} {c : Int} {w w' : World} {e : Ending} (h : ShRet l c w e w') : ∃ B d, e = .returned (.tuple #[.slice B (shG l c).length d, .int .i64 (ordE l c)]) ∧ RInts w'.heap.size w' (.slice B (shG l c).length d) (shG l c) ∧ Below w.heap.size w w' := by
  obtain ⟨v, rfl, h1, h2, hb⟩ := h
  by_cases h0 : ordE l c = 0
  · have h3 := h2 h0
    have h4 : shG l c = sharesD l c := if_pos h0
    unfold OInts at h3
    obtain ⟨B, d, rfl⟩ := ownsRow_form h3
    rw [h4]
    exact ⟨B, d, rfl, Rd.own h3 (own_le h3), hb⟩
  · have h4 : shG l c = [] := if_neg h0
    rw [h1 h0, h4]
    exact ⟨none, 0, rfl, Rd.nil, hb⟩
set_option maxRecDepth 1000000 in
set_option maxHeartbeats 4000000 in
theorem shared_any (l : List OrdD) (s : List Int) (c0 : Int) (hl : l.length ≤ 2000000) (hs : s.length ≤ 2000000) (hc1 : c0 ≤ 9223372036854775807) (v vs : Value) (w : World) (hv : ROrds w.heap.size w v l) (hvs : RInts w.heap.size w vs s) :
    Calls Try.prog 17 #[v, .int .i64 c0, vs] w fun e w' => e = .returned (.bool true) ∧ Below w.heap.size w w' := by
  have HM := Lib.hid hv
  have HR := Lib.hid hvs
  obtain ⟨A, c, rfl, hlm, HD⟩ := ords_later hv
  obtain ⟨A2, c2, rfl, -, -⟩ := ints_later hvs
  obtain ⟨n, hn⟩ : ∃ n, l.length = n := ⟨_, rfl⟩
  obtain ⟨n2, hn2⟩ : ∃ n, s.length = n := ⟨_, rfl⟩
  have HN := Lib.hid hn
  have HN2 := Lib.hid hn2
  have HSL := Lib.hid hs
  have HC := Lib.hid hc1
  have C1 := Lib.hid (cloneOrds_any l hl (.slice A l.length c) w hv)
  rw [hn] at HM hlm hl C1 ⊢
  rw [hn2] at HR ⊢
  have HMY : Hid (∀ Y, Below w.heap.size w Y → ROrds Y.heap.size Y (.slice A n c) l) := fun Y hY => (Rd.below HM.out hY).more hY.size
  have HSY : Hid (∀ Y, Below w.heap.size w Y → RInts Y.heap.size Y (.slice A2 n2 c2) s) := fun Y hY => (Rd.below HR.out hY).more hY.size
  obtain ⟨i0, hi0, hz0, hz1, hz2⟩ := info_parts infoROrd
  clear hv hvs hn hn2 hs hc1
  go_enter Try.func17, Try.ntmps17
  go_wp2_with fail
  refine C1.out.mono ?_
  rintro _ Y2 ⟨u, rfl, hO2, hb2⟩
  have HB2 := Lib.hid hb2
  have HO2 := Lib.hid hO2
  obtain ⟨B2, d2, rfl⟩ := ownsRow_form hO2
  have HOM : Hid (∀ Y, Below Y2.heap.size Y2 Y → ROrds Y.heap.size Y (.slice B2 n d2) l) := fun Y hY => by
    have h1 : ROrds Y2.heap.size Y2 (.slice B2 n d2) l := by show Rd _ _ _ _ _ _; rw [HN.out]; exact Rd.own HO2.out (own_le HO2.out)
    exact (Rd.below h1 hY).more hY.size
  have HTO : Hid (∀ Y, Below Y2.heap.size Y2 Y → Below w.heap.size w Y) := fun Y hY => HB2.out.trans (hY.mono HB2.out.size)
  have HO0 : Hid (Y2.ownsRow Y2.heap.size 118 3 (.slice none 0 0) 0 ((l.take 0).flatMap OrdD.cells)) := World.ownsRow_nil _ _ _ _
  clear C1 hO2 hb2 HO2
  go_wp2_with fail
  go_loopw [8, 26] (fun s i wr => ∃ k : Nat, k ≤ n ∧ i = .int .i64 k ∧ Hid (wr.ownsRow Y2.heap.size 118 3 s k ((l.take k).flatMap OrdD.cells)) ∧ Hid (Below Y2.heap.size Y2 wr)) (fun _ i _ => n - (intOf i).toNat)
  case atStart => exact ⟨0, Nat.zero_le _, rfl, HO0.out, Below.refl _ _⟩
  case round =>
  clear HO0
  obtain ⟨k, hk, rfl, hO, hB⟩ := hrel
  obtain ⟨X, rfl⟩ : ∃ X : World, X = wr := ⟨_, rfl⟩
  obtain ⟨Av, cv, rfl⟩ := ownsRow_form hO.out
  by_cases hlt : k < n
  · obtain ⟨m, hm⟩ : ∃ x, l[k]? = some x := ⟨_, List.getElem?_eq_getElem (by rw [HN.out]; exact hlt)⟩
    obtain ⟨g, o, rfl, -, HX⟩ := HD.out k m hm
    obtain ⟨c0', c1', c2'⟩ := HX.out X (HTO.out X hB.out)
    have F1 : ∃ X1, X.alloc (.cells #[.int .i64 m.ag, .int .i64 m.cop, .int .i64 m.least] 33) = X1 ∧ Hid (Below X.heap.size X X1) ∧ Hid (Blk X1 X.heap.size 33 #[.int .i64 m.ag, .int .i64 m.cop, .int .i64 m.least]) := ⟨_, rfl, below_alloc _ _, Blk.new _ _ _⟩
    obtain ⟨X1, e1, HX1, HK1⟩ := F1
    have E1 := Lib.hid e1
    have F2 : ∃ X2, X1.alloc (.cells #[.int .i64 m.ag, .int .i64 m.cop, .int .i64 m.least] 118) = X2 ∧ Hid (Below X1.heap.size X1 X2) := ⟨_, rfl, below_alloc _ _⟩
    obtain ⟨X2, e2, HX2⟩ := F2
    have HC2 := Lib.hid (cells_new X1 #[.int .i64 m.ag, .int .i64 m.cop, .int .i64 m.least] 118)
    rw [e2] at HC2
    have E2 := Lib.hid e2
    have HO2 : Hid (X2.ownsRow Y2.heap.size 118 3 (.slice Av k cv) k ((l.take k).flatMap OrdD.cells)) := ownsRow_below (ownsRow_below hO.out HX1.out) HX2.out
    have HB3 : Hid (Below Y2.heap.size Y2 X2) := hB.out.trans ((HX1.out.trans (HX2.out.mono HX1.out.size)).mono hB.out.size)
    have HTK : Hid ((l.take (k + 1)).flatMap OrdD.cells = (l.take k).flatMap OrdD.cells ++ m.cells) := by
      show _ = _
      rw [List.take_add_one, hm, Option.toList_some, List.flatMap_append]
      simp
    obtain ⟨q, hq⟩ : ∃ q, X.heap.size = q := ⟨_, rfl⟩
    rw [hq] at HK1
    have HQ := Lib.hid hq
    have d0 := cellOf HK1.out 0 (x := .int .i64 m.ag) rfl
    have d1 := cellOf HK1.out 1 (x := .int .i64 m.cop) rfl
    have d2' := cellOf HK1.out 2 (x := .int .i64 m.least) rfl
    have k0 : (0 : Int) ≤ (k : Int) := by omega
    have k1 : (k : Int) < (n : Int) := by omega
    clear hm HX e1 e2 hq hO hB HX1 HX2
    go_upto_region 6 with fail
    rw [E1.out, HQ.out]
    clear E1 c0' c1' c2'
    go_wp2_with (at_builtin; rw [E2.out]; refine wpList_append_own _ rfl _ _ 117 rfl Y2.heap.size 118 i0 _ 3 24 sliceROrd hi0 hz0 hz1 hz2 rfl (by decide) (.slice Av k cv) k ((l.take k).flatMap OrdD.cells) rfl HO2.out ⟨X1.heap.size, 0, none⟩ 1 1 [.int .i64 m.ag, .int .i64 m.cop, .int .i64 m.least] rfl rfl HC2.out (by simp [Value.oneCell']) (by simp only [maxLen]; omega) (by omega) HB3.out.size ?_; intro v2 w2 hO4 hG4 hN4)
    have hB4 : Below Y2.heap.size Y2 w2 := HB3.out.trans ((KeptBut.grown (S := fun j => some j = (Value.slice Av k cv).ownBlock) hG4 fun j hj => hj).below (fun i hi => (ownsRow_own HO2.out hi.symm).1) HB3.out.size)
    refine ⟨⟨k + 1, by omega, by go_num, ?_, hB4⟩, by simp [intOf]; omega⟩
    show World.ownsRow _ _ _ _ _ _ _
    rw [HTK.out]
    exact hO4
  obtain rfl : k = n := by omega
  have HRF : Hid (∀ Y, Below X.heap.size X Y → ROrds Y.heap.size Y (.slice Av k cv) l) := fun Y hY => by
    have h1 := hO.out
    rw [List.take_of_length_le (by rw [HN.out]; omega)] at h1
    have h2 : ROrds X.heap.size X (.slice Av k cv) l := by show Rd _ _ _ _ _ _; rw [HN.out]; exact Rd.own h1 (own_le h1)
    exact (Rd.below h2 hY).more hY.size
  have HT2 : Hid (∀ Y, Below X.heap.size X Y → Below Y2.heap.size Y2 Y) := fun Y hY => hB.out.trans (hY.mono hB.out.size)
  obtain ⟨G, hG⟩ : ∃ z, shG l c0 = z := ⟨_, rfl⟩
  obtain ⟨E, hE⟩ : ∃ z, ordE l c0 = z := ⟨_, rfl⟩
  have HGL : Hid (G.length ≤ 40) := by show _ ≤ _; rw [← hG]; exact shG_len l c0
  have CP : Hid (∀ Y, Below X.heap.size X Y → Calls Try.prog 30 #[.slice B2 k d2, .int .i64 c0] Y fun e w' => ∃ B d, e = .returned (.tuple #[.slice B G.length d, .int .i64 E]) ∧ RInts w'.heap.size w' (.slice B G.length d) G ∧ Below Y.heap.size Y w') := fun Y hY => by
    rw [← hG, ← hE]
    exact (Share_any l c0 HC.out _ Y (HOM.out Y (HT2.out Y hY))).mono fun e w' h => h.reads
  have CR : Hid (∀ Y, Below X.heap.size X Y → Calls Try.prog 55 #[.slice Av k cv, .int .i64 c0] Y fun e w' => ∃ B d, e = .returned (.tuple #[.slice B G.length d, .int .i64 E]) ∧ RInts w'.heap.size w' (.slice B G.length d) G ∧ Below Y.heap.size Y w') := fun Y hY => by
    rw [← hG, ← hE]
    exact (refShare_any l c0 HC.out _ Y (HRF.out Y hY)).mono fun e w' h => h.reads
  have gE : (E != E) = false := by simp
  have C1 := Lib.hid (CP.out X (Below.refl _ _))
  clear hO i0 hi0 hz0 hz1 hz2 hG hE CP
  go_wp2_with fail
  refine C1.out.mono ?_
  rintro _ V1 ⟨Ba, da, rfl, hra, hv1⟩
  have HV1 : Hid (Below X.heap.size X V1) := hv1
  have HRA : Hid (∀ Y, Below V1.heap.size V1 Y → RInts Y.heap.size Y (.slice Ba G.length da) G) := fun Y hY => (Rd.below hra hY).more hY.size
  have C2 := Lib.hid (CR.out V1 hv1)
  clear C1 CR hra hv1
  obtain ⟨ng, hng⟩ : ∃ z, G.length = z := ⟨_, rfl⟩
  have HNG := Lib.hid hng
  rw [hng] at HRA C2 HGL ⊢
  go_wp2_with fail
  refine C2.out.mono ?_
  rintro _ V2 ⟨Bb, db, rfl, hrb, hv2⟩
  have HV12 : Hid (Below V1.heap.size V1 V2) := hv2
  have HV2 : Hid (Below X.heap.size X V2) := HV1.out.trans (hv2.mono HV1.out.size)
  have CE := Lib.hid (eqInts_any (.slice Ba ng da) (.slice Bb ng db) G G V2 (HRA.out V2 hv2) hrb)
  rw [decide_eq_true rfl] at CE
  clear C2 hrb hv2 hng
  go_wp2_with fail
  refine CE.out.mono ?_
  rintro _ V3 ⟨rfl, hv3⟩
  have HV13 : Hid (Below V1.heap.size V1 V3) := HV12.out.trans (hv3.mono HV12.out.size)
  have HV3 : Hid (Below X.heap.size X V3) := HV2.out.trans (hv3.mono HV2.out.size)
  have F4 : ∃ Z, V3.alloc (.cells #[.slice A2 n2 c2, .slice Ba ng da] 31) = Z ∧ Hid (Below V3.heap.size V3 Z) ∧ Hid (Blk Z V3.heap.size 31 #[.slice A2 n2 c2, .slice Ba ng da]) := ⟨_, rfl, below_alloc _ _, Blk.new _ _ _⟩
  obtain ⟨Z, e4, HZ, HKZ⟩ := F4
  have E4 := Lib.hid e4
  obtain ⟨q, hq⟩ : ∃ q, V3.heap.size = q := ⟨_, rfl⟩
  rw [hq] at HKZ
  have HQ := Lib.hid hq
  have HV1Z : Hid (Below V1.heap.size V1 Z) := HV13.out.trans (HZ.out.mono HV13.out.size)
  have HXZ : Hid (Below X.heap.size X Z) := HV3.out.trans (HZ.out.mono HV3.out.size)
  have HEL : Hid (∀ j : Nat, j < 2 → ∃ (Ax : Option Addr) (nx cx : Nat) (gl : List Int), gl.length = nx ∧ gl.length ≤ 2000000 ∧ (∀ Y, Below Z.heap.size Z Y → Y.cell? ⟨q, j, none⟩ = some (.slice Ax nx cx)) ∧ (∀ Y, Below Z.heap.size Z Y → RInts Y.heap.size Y (.slice Ax nx cx) gl)) := fun j hj => by
    have hj2 : j = 0 ∨ j = 1 := by omega
    rcases hj2 with rfl | rfl
    · exact ⟨A2, n2, c2, s, HN2.out, HSL.out, fun Y hY => cellOf (HKZ.out.below hY HKZ.out.lt) 0 rfl, fun Y hY => HSY.out Y (HTO.out Y (HT2.out Y (HXZ.out.trans (hY.mono HXZ.out.size))))⟩
    · exact ⟨Ba, ng, da, G, HNG.out, by have h1 := HGL.out; have h2 := HNG.out; omega, fun Y hY => cellOf (HKZ.out.below hY HKZ.out.lt) 1 rfl, fun Y hY => HRA.out Y (HV1Z.out.trans (hY.mono HV1Z.out.size))⟩
  have PF : Hid (∀ (gl : List Int) (vg : Value) Y, Below Z.heap.size Z Y → RInts Y.heap.size Y vg gl → Calls Try.prog 31 #[.slice B2 k d2, .int .i64 c0, vg] Y fun e w' => e = .returned (.tuple #[.bool (fairB l c0 gl), .int .i64 (fairE l c0 gl)]) ∧ Below Y.heap.size Y w') := fun gl vg Y hY hg =>
    Fair_any l c0 HC.out gl _ vg Y (HOM.out Y (HT2.out Y (HXZ.out.trans (hY.mono HXZ.out.size)))) hg
  have RF : Hid (∀ (gl : List Int) (vg : Value) Y, Below Z.heap.size Z Y → RInts Y.heap.size Y vg gl → Calls Try.prog 57 #[.slice Av k cv, .int .i64 c0, vg] Y fun e w' => e = .returned (.tuple #[.bool (fairB l c0 gl), .int .i64 (fairE l c0 gl)]) ∧ Below Y.heap.size Y w') := fun gl vg Y hY hg =>
    refFair_any l c0 gl _ vg Y (HRF.out Y (HXZ.out.trans (hY.mono HXZ.out.size))) hg
  have HEO : Hid (∀ Y, Below Z.heap.size Z Y → Calls Try.prog 58 #[.slice B2 k d2, .slice A k c] Y fun e w' => e = .returned (.bool true) ∧ Below Y.heap.size Y w') := fun Y hY => by
    have hX := HXZ.out.trans (hY.mono HXZ.out.size)
    have h1 := eqOrds_any (.slice B2 k d2) (.slice A k c) l l Y (HOM.out Y (HT2.out Y hX)) (HMY.out Y (HTO.out Y (HT2.out Y hX)))
    simpa using h1
  have HWZ := Lib.hid (HTO.out Z (HT2.out Z HXZ.out))
  clear CE e4 hq hv3 HZ HKZ HV1Z HXZ HV13 HV3 HV12 HV2 HV1 HRA HMY HSY HOM HRF HT2 HTO
  go_upto_region 13 with fail
  rw [E4.out, HQ.out]
  clear E4
  go_loopw [60] (fun i wr => ∃ j : Nat, j ≤ 2 ∧ i = .int .i64 j ∧ Hid (Below Z.heap.size Z wr)) (fun i _ => 2 - (intOf i).toNat)
  case atStart => exact ⟨0, by omega, rfl, Below.refl _ _⟩
  case round =>
  obtain ⟨j, hj, rfl, hB⟩ := hrel
  obtain ⟨U, rfl⟩ : ∃ U : World, U = wr := ⟨_, rfl⟩
  by_cases hlt : j < 2
  · obtain ⟨Ax, nx, cx, gl, hgn, hgl, HCE, HRE⟩ := HEL.out j hlt
    have z0 := HCE U hB.out
    have HRX := Lib.hid HRE
    have HGN := Lib.hid hgn
    have C3 := Lib.hid (cloneInts_any gl hgl (.slice Ax nx cx) U (HRE U hB.out))
    obtain ⟨FB, hFB⟩ : ∃ z, fairB l c0 gl = z := ⟨_, rfl⟩
    obtain ⟨FE, hFE⟩ : ∃ z, fairE l c0 gl = z := ⟨_, rfl⟩
    have PF1 := Lib.hid (fun vg Y hY hg => PF.out gl vg Y hY hg)
    have RF1 := Lib.hid (fun vg Y hY hg => RF.out gl vg Y hY hg)
    rw [hFB, hFE] at PF1 RF1
    have g1 : (FB != FB) = false := by simp
    have g2 : (FE != FE) = false := by simp
    have k0 : (0 : Int) ≤ (j : Int) := by omega
    have k1 : (j : Int) < 2 := by omega
    clear HCE HRE hgn hgl hFB hFE
    go_wp2_with fail
    refine C3.out.mono ?_
    rintro _ U1 ⟨u, rfl, hO, hb1⟩
    have HB1 : Hid (Below Z.heap.size Z U1) := hB.out.trans (hb1.mono hB.out.size)
    have HO := Lib.hid hO
    obtain ⟨By, dy, rfl⟩ := ownsRow_form hO
    rw [HGN.out] at HO ⊢
    have HRY : Hid (∀ Y, Below U1.heap.size U1 Y → RInts Y.heap.size Y (.slice By nx dy) gl) := fun Y hY => by
      have h1 : RInts U1.heap.size U1 (.slice By nx dy) gl := by show Rd _ _ _ _ _ _; rw [HGN.out]; exact Rd.own HO.out (own_le HO.out)
      exact (Rd.below h1 hY).more hY.size
    have C4 := Lib.hid (PF1.out (.slice By nx dy) U1 HB1.out (HRY.out U1 (Below.refl _ _)))
    clear C3 hO hb1 z0 HO
    go_wp2_with fail
    refine C4.out.mono ?_
    rintro _ U2 ⟨rfl, hb2⟩
    have HU12 : Hid (Below U1.heap.size U1 U2) := hb2
    have HB3 : Hid (Below Z.heap.size Z U2) := HB1.out.trans (hb2.mono HB1.out.size)
    have C5 := Lib.hid (RF1.out (.slice Ax nx cx) U2 HB3.out (HRX.out U2 HB3.out))
    clear C4 hb2
    go_wp2_with fail
    refine C5.out.mono ?_
    rintro _ U3 ⟨rfl, hb3⟩
    have HB4 : Hid (Below Z.heap.size Z U3) := HB3.out.trans (hb3.mono HB3.out.size)
    have C6 := Lib.hid (eqInts_any (.slice Ax nx cx) (.slice By nx dy) gl gl U3 (HRX.out U3 HB4.out) (HRY.out U3 (HU12.out.trans (hb3.mono HU12.out.size))))
    rw [decide_eq_true rfl] at C6
    clear C5 hb3
    go_wp2_with fail
    refine C6.out.mono ?_
    rintro _ U4 ⟨rfl, hb4⟩
    have HB5 : Hid (Below Z.heap.size Z U4) := HB4.out.trans (hb4.mono HB4.out.size)
    clear C6 hb4
    go_wp2_with fail
    go_roundw
    case rel => exact ⟨j + 1, by omega, by go_num, HB5⟩
    case measure => simp [intOf]; omega
  obtain rfl : j = 2 := by omega
  have C7 := Lib.hid (HEO.out U hB.out)
  go_wp2_with fail
  refine C7.out.mono ?_
  rintro _ U5 ⟨rfl, hb5⟩
  have HB5 : Hid (Below Z.heap.size Z U5) := hB.out.trans (hb5.mono hB.out.size)
  clear C7 hb5
  go_wp2_with fail
  go_ret
  exact ⟨rfl, HWZ.out.trans (HB5.out.mono HWZ.out.size)⟩
end Go.Proofs.Ytlmpbmlbllndcaa
