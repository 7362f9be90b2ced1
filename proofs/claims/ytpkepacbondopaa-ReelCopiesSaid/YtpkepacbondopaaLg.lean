/-
  Check.
-/
import Derived.Test.YtpkepacbondopaaLf
namespace Go.Proofs.Ytpkepacbondopaa
open Go.RowKit

theorem within_let {n lo hi : Int} {B : Bool} (h : withinB n lo hi = B) : ∀ W, Calls Try.prog 75 #[.int .i64 n, .int .i64 lo, .int .i64 hi] W fun e w' => e = .returned (.bool B) ∧ W = w' := fun W => by rw [← h]; exact within_any _ _ _ _
theorem websE_no {met : List Int} {x : WebD} {l : List WebD} (h : ¬ x.ok) : websE met (x :: l) = 6 := by rw [websE, if_pos h]
theorem websE_bad {met : List Int} {x : WebD} {l : List WebD} (h : x.ok) (hr : reelsE met x.reels ≠ 0) : websE met (x :: l) = reelsE met x.reels := by rw [websE, if_neg (by simpa using h), if_pos hr]
theorem websE_next {met : List Int} {x : WebD} {l : List WebD} (h : x.ok) (hr : reelsE met x.reels = 0) : websE met (x :: l) = websE (met ++ idsL x.reels) l := by rw [websE, if_neg (by simpa using h), if_neg (by simpa using hr)]
theorem webOk {x : WebD} : x.ok ↔ withinB x.off 0 200000 = true ∧ withinB x.before 0 5000 = true ∧ withinB x.after 0 5000 = true := by
  unfold WebD.ok
  rw [within_iff, within_iff, within_iff]
theorem checkE_many {p : PressD} (h : hasB p = false) : checkE p = 2 := by
  unfold checkE hasB at *
  rw [if_neg]
  rintro ⟨h1, h2, h3⟩
  rw [h3, decide_eq_true (show 1 ≤ p.webs.length ∧ p.webs.length ≤ 6 from ⟨h1, h2⟩)] at h
  cases h
theorem hasB_iff {p : PressD} : hasB p = true ↔ 1 ≤ p.webs.length ∧ p.webs.length ≤ 6 ∧ p.webs.all (fun x => decide (x.reels.length ≤ 20)) = true := by
  unfold hasB
  rw [Bool.and_eq_true, decide_eq_true_iff, and_assoc]
theorem checkE_range {p : PressD} (h : hasB p = true) (h2 : ¬ ((300 ≤ p.cut ∧ p.cut ≤ 1500) ∧ (0 ≤ p.margin ∧ p.margin ≤ 20))) : checkE p = 6 := by
  unfold checkE
  rw [if_pos (hasB_iff.1 h), if_neg h2]
theorem checkE_webs {p : PressD} (h : hasB p = true) (h2 : (300 ≤ p.cut ∧ p.cut ≤ 1500) ∧ (0 ≤ p.margin ∧ p.margin ≤ 20)) : checkE p = websE [] p.webs := by
  unfold checkE
  rw [if_pos (hasB_iff.1 h), if_pos h2]
/-- How far Check is. -/
def ChSt (w W2 : World) (N M R : Nat) (l : List WebD) (k : Nat) (X : World) : Prop :=
  ∃ met, RulesAt X N M R met ∧ KeptBut (fun k => k = N) W2 X ∧ websE [] l = websE met (l.drop k)

set_option maxRecDepth 100000 in
set_option maxHeartbeats 4000000 in
theorem Check_any (p : PressD) (v : Value) (w : World) (h : RPress w.heap.size w v p) :
    Calls Try.prog 44 #[v] w fun e w' => e = .returned (.int .i64 (checkE p)) ∧ Below w.heap.size w w' := by
  obtain ⟨u, rfl, hw⟩ := id h
  obtain ⟨A, c, rfl, hlm, hr⟩ := hw.open_
  obtain ⟨n, hn⟩ : ∃ n, p.webs.length = n := ⟨_, rfl⟩
  have HP := Lib.hid h
  have HR := Lib.hid hr
  clear h hr hw
  have F0 : ∃ W0, w.alloc (.cells #[.int .i64 p.cut, .int .i64 p.margin, .slice A p.webs.length c] 24) = W0 ∧ Below w.heap.size w W0 ∧ Blk W0 w.heap.size 24 #[.int .i64 p.cut, .int .i64 p.margin, .slice A p.webs.length c] := ⟨_, rfl, below_alloc _ _, Blk.new _ _ _⟩
  obtain ⟨W0, e0, hb0, B0⟩ := F0
  obtain ⟨bh, hbh⟩ : ∃ b, hasB p = b := ⟨_, rfl⟩
  have CH := has_any p _ W0 ((HP.out.below hb0).more hb0.size)
  rw [hbh] at CH
  rw [hn] at e0 B0 CH hlm ⊢
  have Hn := Lib.hid hn
  have CH := Lib.hid CH
  have E0 := Lib.hid e0
  have HB0 := Lib.hid hb0
  have HK0 := Lib.hid B0
  have Hbh := Lib.hid hbh
  have m0 := cellOf B0 0 (x := .int .i64 p.cut) rfl
  have m1 := cellOf B0 1 (x := .int .i64 p.margin) rfl
  have m2 := cellOf B0 2 (x := .slice A n c) rfl
  obtain ⟨b1, hb1⟩ : ∃ b, withinB p.cut 300 1500 = b := ⟨_, rfl⟩
  obtain ⟨b2, hb2⟩ : ∃ b, withinB p.margin 0 20 = b := ⟨_, rfl⟩
  have CW1 := Lib.hid (within_let hb1)
  have CW2 := Lib.hid (within_let hb2)
  have Hb1 := Lib.hid hb1
  have Hb2 := Lib.hid hb2
  clear hn e0 hb0 B0 hbh hb1 hb2
  go_enter Try.func44, Try.ntmps44
  go_upto_region 1 with fail
  rw [E0.out]
  go_wp2_with fail
  refine CH.out.mono ?_
  rintro _ W1 ⟨rfl, hb⟩
  have hK1 := HK0.out.below hb HK0.out.lt
  have HB1 : Hid (Below w.heap.size w W1) := HB0.out.trans (hb.mono HB0.out.size)
  have HK1 := Lib.hid hK1
  have hz1 : Hid (w.heap.size < W1.heap.size) := hK1.lt
  clear m0 m1 m2 CH hb
  have m0 := cellOf hK1 0 (x := .int .i64 p.cut) rfl
  have m1 := cellOf hK1 1 (x := .int .i64 p.margin) rfl
  have m2 := cellOf hK1 2 (x := .slice A n c) rfl
  clear hK1
  cases bh
  · have hfin := Lib.hid (checkE_many Hbh.out)
    go_wp2
    go_ret
    exact ⟨ri hfin.out, HB1.out⟩
  cases b1
  · have hfin := Lib.hid (checkE_range Hbh.out fun h => by have := Hb1.out; rw [within_t h.1.1 h.1.2] at this; cases this)
    go_wp2_with fail
    refine (CW1.out _).mono ?_
    rintro _ _ ⟨rfl, rfl⟩
    go_wp2
    go_ret
    exact ⟨ri hfin.out, HB1.out⟩
  go_wp2_with fail
  refine (CW1.out _).mono ?_
  rintro _ _ ⟨rfl, rfl⟩
  go_wp2_with fail
  refine (CW2.out _).mono ?_
  rintro _ _ ⟨rfl, rfl⟩
  cases b2
  · have hfin := Lib.hid (checkE_range Hbh.out fun h => by have := Hb2.out; rw [within_t h.2.1 h.2.2] at this; cases this)
    go_wp2
    go_ret
    exact ⟨ri hfin.out, HB1.out⟩
  have HW := Lib.hid (checkE_webs Hbh.out ⟨within_iff.1 Hb1.out, within_iff.1 Hb2.out⟩)
  clear Hbh Hb1 Hb2 CW1 CW2
  go_wp2_with fail
  refine (rules_any _).mono ?_
  rintro _ W2 ⟨rfl, hru, hb2⟩
  obtain ⟨N, hN⟩ : ∃ N, W1.heap.size = N := ⟨_, rfl⟩
  rw [hN] at hru
  have hN1 := hz1.out
  rw [hN] at hN1
  have hNw : w.heap.size ≤ N := by omega
  have HB2 : Hid (Below w.heap.size w W2) := HB1.out.trans (hb2.mono HB1.out.size)
  have hK2 := HK1.out.below hb2 HK1.out.lt
  have HK2 := Lib.hid hK2
  have HS : Hid (ChSt w W2 N (N + 1) (N + 1 + 1) p.webs 0 W2) := ⟨[], hru, KeptBut.refl _ _, rfl⟩
  clear m0 m1 m2 hb2 hru
  have m2 := cellOf hK2 2 (x := .slice A n c) rfl
  clear hK2
  rw [hN]
  clear hN hz1
  go_wp2
  clear m2
  go_loopw [26] (fun i wr => ∃ k : Nat, k ≤ n ∧ i = .int .i64 k ∧ Hid (ChSt w W2 N (N + 1) (N + 1 + 1) p.webs k wr)) (fun i _ => n - (intOf i).toNat)
  case atStart => exact ⟨0, Nat.zero_le _, rfl, HS⟩
  case round =>
    clear HS
    obtain ⟨k, hk, rfl, hst⟩ := hrel
    have hBw : Hid (Below w.heap.size w wr) := by
      obtain ⟨met, -, h2, -⟩ := hst.out
      exact HB2.out.trans (h2.below (fun k hk => by subst hk; exact hNw) HB2.out.size)
    by_cases hlt : k < n
    case neg =>
      have hfin : Hid (checkE p = 0) := by
        obtain ⟨met, h1, h2, h3⟩ := hst.out
        show _ = _
        rw [HW.out, h3, List.drop_of_length_le (by rw [Hn.out]; omega)]
        rfl
      clear hst
      go_wp2
      go_ret
      exact ⟨ri hfin.out, hBw.out⟩
    obtain ⟨x, hx⟩ : ∃ x, p.webs[k]? = some x := ⟨_, List.getElem?_eq_getElem (by rw [Hn.out]; exact hlt)⟩
    obtain ⟨b, o, A2, c2', rfl, hb, c0, c1, c2, c3, hrr⟩ := HR.out k x hx
    rw [← hBw.out.cell (p := ⟨b, o + k * 4, none⟩) hb] at c0
    rw [← hBw.out.cell (p := ⟨b, o + k * 4 + 1, none⟩) hb] at c1
    rw [← hBw.out.cell (p := ⟨b, o + k * 4 + 2, none⟩) hb] at c2
    rw [← hBw.out.cell (p := ⟨b, o + k * 4 + 3, none⟩) hb] at c3
    obtain ⟨met, hru, hk1, he⟩ := hst.out
    rw [drop_cons hx] at he
    have F1 : ∃ X1, wr.alloc (.cells #[.slice A2 x.reels.length c2', .int .i64 x.off, .int .i64 x.before, .int .i64 x.after] 47) = X1 ∧ Below wr.heap.size wr X1 ∧ Blk X1 wr.heap.size 47 #[.slice A2 x.reels.length c2', .int .i64 x.off, .int .i64 x.before, .int .i64 x.after] := ⟨_, rfl, below_alloc _ _, Blk.new _ _ _⟩
    obtain ⟨X1, e1, hb1, B1⟩ := F1
    have hwX : Below w.heap.size w X1 := hBw.out.trans (hb1.mono hBw.out.size)
    have CR := checkReels_any x.reels _ N (N + 1) (N + 1 + 1) met X1 ((Rd.below hrr hwX).more hwX.size) (hru.below hb1) (fun A9 n9 c9 h0 e9 => by
      cases e9
      obtain ⟨A', c', e8, -, -, hr8⟩ := hrr
      injection e8 with e8 _ _
      obtain ⟨g, o', e7, hg, -⟩ := hr8 h0
      rw [← e8] at e7
      injection e7 with e7
      subst e7
      show g ≠ N
      omega)
    obtain ⟨E, hE⟩ : ∃ E, reelsE met x.reels = E := ⟨_, rfl⟩
    obtain ⟨b3, hb3⟩ : ∃ b, withinB x.off 0 200000 = b := ⟨_, rfl⟩
    obtain ⟨b4, hb4⟩ : ∃ b, withinB x.before 0 5000 = b := ⟨_, rfl⟩
    obtain ⟨b5, hb5⟩ : ∃ b, withinB x.after 0 5000 = b := ⟨_, rfl⟩
    have CW3 := Lib.hid (within_let hb3)
    have CW4 := Lib.hid (within_let hb4)
    have CW5 := Lib.hid (within_let hb5)
    have Hb3 := Lib.hid hb3
    have Hb4 := Lib.hid hb4
    have Hb5 := Lib.hid hb5
    have HE := Lib.hid hE
    have CR := Lib.hid CR
    have HKX := Lib.hid B1
    have HbX := Lib.hid hb1
    have HwX := Lib.hid hwX
    have HRu := Lib.hid hru
    have HK1' := Lib.hid hk1
    have HEw := Lib.hid he
    have E1 := Lib.hid e1
    clear hx hru hk1 he e1 hb1 hwX hb3 hb4 hb5 hE hst hrr
    go_upto_region 9 with fail
    rw [E1.out]
    clear c0 c1 c2 c3
    have d0 := cellOf B1 0 (x := .slice A2 x.reels.length c2') rfl
    have d1 := cellOf B1 1 (x := .int .i64 x.off) rfl
    have d2 := cellOf B1 2 (x := .int .i64 x.before) rfl
    have d3 := cellOf B1 3 (x := .int .i64 x.after) rfl
    clear B1
    have hbad : Hid (¬ x.ok → checkE p = 6) := fun h => by rw [HW.out, HEw.out, websE_no h]
    go_wp2_with fail
    refine (CW3.out _).mono ?_
    rintro _ _ ⟨rfl, rfl⟩
    cases b3
    · have hfin := Lib.hid (hbad.out fun h => by have := (webOk.1 h).1; rw [Hb3.out] at this; cases this)
      go_wp2
      go_ret
      exact ⟨ri hfin.out, HwX.out⟩
    go_wp2_with fail
    refine (CW4.out _).mono ?_
    rintro _ _ ⟨rfl, rfl⟩
    cases b4
    · have hfin := Lib.hid (hbad.out fun h => by have := (webOk.1 h).2.1; rw [Hb4.out] at this; cases this)
      go_wp2
      go_ret
      exact ⟨ri hfin.out, HwX.out⟩
    go_wp2_with fail
    refine (CW5.out _).mono ?_
    rintro _ _ ⟨rfl, rfl⟩
    cases b5
    · have hfin := Lib.hid (hbad.out fun h => by have := (webOk.1 h).2.2; rw [Hb5.out] at this; cases this)
      go_wp2
      go_ret
      exact ⟨ri hfin.out, HwX.out⟩
    have HO := Lib.hid (webOk.2 ⟨Hb3.out, Hb4.out, Hb5.out⟩)
    clear hbad CW3 CW4 CW5 Hb3 Hb4 Hb5
    go_wp2_with fail
    refine CR.out.mono ?_
    rintro _ W9 ⟨rfl, hk9, hm9, hs9⟩
    rw [HE.out] at hs9 ⊢
    have HB9 : Hid (Below w.heap.size w W9) := HwX.out.trans (hk9.below (fun k hk => by subst hk; exact hNw) HwX.out.size)
    have HS9 := Lib.hid hs9
    have HK9 := Lib.hid hk9
    clear hs9 hk9 hm9 d0 d1 d2 d3 CR
    by_cases hE0 : E = 0
    · subst hE0
      have hst : Hid (ChSt w W2 N (N + 1) (N + 1 + 1) p.webs (k + 1) W9) := by
        refine ⟨met ++ idsL x.reels, (HRu.out.below HbX.out).put HK9.out (HS9.out rfl), (HK1'.out.trans (KeptBut.of_below HbX.out) fun _ _ h => h).trans HK9.out fun _ _ h => h, ?_⟩
        rw [HEw.out, websE_next HO.out HE.out]
      go_wp2
      go_roundw
      case rel => exact ⟨k + 1, by omega, by go_num, hst⟩
      case measure => (simp [intOf]) <;> omega
    · have hE1 : (E != 0) = true := by simpa using hE0
      have hfin : Hid (checkE p = E) := by
        show _ = _
        rw [HW.out, HEw.out, websE_bad HO.out (by rw [HE.out]; exact hE0), HE.out]
      clear hE0
      go_wp2
      go_ret
      exact ⟨ri hfin.out, HB9.out⟩
end Go.Proofs.Ytpkepacbondopaa
