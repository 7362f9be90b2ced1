/-
  Run.
-/
import Derived.Test.YtpkepacbondopaaLx
namespace Go.Proofs.Ytpkepacbondopaa
open Go.RowKit
attribute [local go_sem] Oper.semAt_some

/-- How far the press must run for g good copies, if it throws out some intervals. -/
def runL : Int → List Sp → Int
  | g, [] => g
  | g, s :: l => if g ≤ s.lo then g else runL (g + (s.hi - s.lo + 1)) l
/-- What Run answers. -/
def RunRet (w : World) (p : PressD) (g : Int) (e : Ending) (w' : World) : Prop :=
  ∃ n c, e = .returned (.tuple #[.int .i64 n, .int .i64 c]) ∧ Below w.heap.size w w' ∧
    ((checkE p ≠ 0 ∧ n = 0 ∧ c = checkE p) ∨ (checkE p = 0 ∧ ¬ (0 ≤ g ∧ g ≤ 1000000) ∧ n = 0 ∧ c = 6) ∨
      (checkE p = 0 ∧ (0 ≤ g ∧ g ≤ 1000000) ∧ ∃ l, p.ThrownIs p.reach l ∧ ((p.reach < runL g l ∧ n = 0 ∧ c = 70) ∨ (runL g l ≤ p.reach ∧ n = runL g l ∧ c = 0))))
/-- What region 7 of Run leaves. -/
def RunCut (w W1 : World) (p : PressD) (re : Int) (s9 s10 : Value) (X : World) : Prop :=
  ∃ l A c, s9 = .slice A l.length c ∧ s10 = .int .i64 (l.length : Int) ∧ p.ThrownIs re l ∧ l.length ≤ 120 ∧ RSpans X.heap.size X (.slice A l.length c) l ∧ Below W1.heap.size W1 X
theorem ThrownIs.bound {p : PressD} {re : Int} {l : List Sp} (h : p.ThrownIs re l) (hr : re ≤ 1000000) : ∀ s ∈ l, 0 ≤ s.lo ∧ s.lo ≤ s.hi ∧ s.hi < 1000000 := fun s hs => by
  have h1 := h.1.1 s hs
  have h2 := (h.2 s.lo).1 ⟨s, hs, Int.le_refl _, h1⟩
  have h3 := (h.2 s.hi).1 ⟨s, hs, h1, Int.le_refl _⟩
  omega
set_option maxRecDepth 100000 in
set_option maxHeartbeats 4000000 in
theorem Run_any (p : PressD) (g0 : Int) (v : Value) (w : World) (h : RPress w.heap.size w v p) :
    Calls Try.prog 23 #[v, .int .i64 g0] w (RunRet w p g0) := by
  obtain ⟨u, rfl, hw⟩ := id h
  obtain ⟨A, c, rfl, hlm, hr⟩ := hw.open_
  have HP := Lib.hid h
  clear h hr hw hlm
  have F0 : ∃ W0, w.alloc (.cells #[.int .i64 p.cut, .int .i64 p.margin, .slice A p.webs.length c] 24) = W0 ∧ Below w.heap.size w W0 ∧ Blk W0 w.heap.size 24 #[.int .i64 p.cut, .int .i64 p.margin, .slice A p.webs.length c] := ⟨_, rfl, below_alloc _ _, Blk.new _ _ _⟩
  obtain ⟨W0, e0, hb0, B0⟩ := F0
  have E0 := Lib.hid e0
  have HB0 := Lib.hid hb0
  have HK0 := Lib.hid B0
  have m0 := cellOf B0 0 (x := .int .i64 p.cut) rfl
  have m1 := cellOf B0 1 (x := .int .i64 p.margin) rfl
  have m2 := cellOf B0 2 (x := .slice A p.webs.length c) rfl
  clear e0 hb0 B0
  obtain ⟨ce, hce⟩ : ∃ e, checkE p = e := ⟨_, rfl⟩
  have CC := Check_any p _ W0 ((HP.out.below HB0.out).more HB0.out.size)
  rw [hce] at CC
  have HCE := Lib.hid hce
  clear hce
  obtain ⟨b1, hb1⟩ : ∃ b, withinB g0 0 1000000 = b := ⟨_, rfl⟩
  have CW := Lib.hid (within_let hb1)
  have Hb1 := Lib.hid hb1
  clear hb1
  go_enter Try.func23, Try.ntmps23
  go_upto_region 1 with fail
  rw [E0.out]
  go_wp2_with fail
  refine CC.mono ?_
  rintro _ W1 ⟨rfl, hb1⟩
  have m0 := cellOf (HK0.out.below hb1 HK0.out.lt) 0 (x := .int .i64 p.cut) rfl
  have m1 := cellOf (HK0.out.below hb1 HK0.out.lt) 1 (x := .int .i64 p.margin) rfl
  have m2 := cellOf (HK0.out.below hb1 HK0.out.lt) 2 (x := .slice A p.webs.length c) rfl
  have HB1 : Hid (Below w.heap.size w W1) := HB0.out.trans (hb1.mono HB0.out.size)
  have HK1 := Lib.hid (HK0.out.below hb1 HK0.out.lt)
  have HZ1 : Hid (w.heap.size < W1.heap.size) := HK1.out.lt
  clear hb1 CC
  by_cases hc : ce = 0
  case neg =>
    have hc' : (ce != 0) = true := by simpa using hc
    have HFin : Hid (RunRet w p g0 (.returned (.tuple #[.int .i64 0, .int .i64 ce])) W1) := ⟨0, ce, rfl, HB1.out, .inl ⟨by rw [HCE.out]; exact hc, rfl, HCE.out.symm⟩⟩
    go_wp2_with fail
    go_ret2
    exact HFin.out
  subst hc
  have hok := checkE_ok HCE.out
  have HOK := Lib.hid hok
  go_wp2_with fail
  refine (CW.out _).mono ?_
  rintro _ _ ⟨rfl, rfl⟩
  cases b1
  · have HFin : Hid (RunRet w p g0 (.returned (.tuple #[.int .i64 0, .int .i64 6])) W1) := ⟨0, 6, rfl, HB1.out, .inr (.inl ⟨HCE.out, fun h => (by have := Hb1.out; rw [within_t h.1 h.2] at this; cases this), rfl, rfl⟩)⟩
    go_wp2_with fail
    go_ret2
    exact HFin.out
  have hg0 := within_iff.1 Hb1.out
  have HG := Lib.hid hg0
  obtain ⟨re, hre⟩ : ∃ e, p.reach = e := ⟨_, rfl⟩
  have hrb := reach_bound hok
  rw [hre] at hrb
  have HRE := Lib.hid hre
  have CR : Hid (∀ X, Below W1.heap.size W1 X → Calls Try.prog 72 #[.agg #[.int .i64 p.cut, .int .i64 p.margin, .slice A p.webs.length c]] X fun e w' => e = .returned (.int .i64 re) ∧ Below W1.heap.size W1 w' ∧
      (w'.cell? ⟨w.heap.size, 0, none⟩ = some (.int .i64 p.cut) ∧ w'.cell? ⟨w.heap.size, 1, none⟩ = some (.int .i64 p.margin) ∧ w'.cell? ⟨w.heap.size, 2, none⟩ = some (.slice A p.webs.length c))) := fun X hX => by
    have h9 := reach_any p HOK.out X _ ((HP.out.below (HB1.out.trans (hX.mono HB1.out.size))).more (HB1.out.trans (hX.mono HB1.out.size)).size)
    rw [hre] at h9
    refine h9.mono ?_
    rintro _ w' ⟨rfl, hb9⟩
    have hY := hX.trans (hb9.mono hX.size)
    have q := HK1.out.below hY HK1.out.lt
    exact ⟨rfl, hY, cellOf q 0 rfl, cellOf q 1 rfl, cellOf q 2 rfl⟩
  have CT : Hid (∀ X, Below W1.heap.size W1 X → Calls Try.prog 74 #[.agg #[.int .i64 p.cut, .int .i64 p.margin, .slice A p.webs.length c], .int .i64 re] X fun e w' => ∃ l A' c', e = .returned (.slice A' l.length c') ∧ Hid (p.ThrownIs re l ∧ l.length ≤ 120 ∧ RSpans w'.heap.size w' (.slice A' l.length c') l ∧ Below W1.heap.size W1 w') ∧
      (w'.cell? ⟨w.heap.size, 0, none⟩ = some (.int .i64 p.cut) ∧ w'.cell? ⟨w.heap.size, 1, none⟩ = some (.int .i64 p.margin) ∧ w'.cell? ⟨w.heap.size, 2, none⟩ = some (.slice A p.webs.length c))) := fun X hX => by
    have h9 := thrown_any p HOK.out re hrb X _ ((HP.out.below (HB1.out.trans (hX.mono HB1.out.size))).more (HB1.out.trans (hX.mono HB1.out.size)).size)
    refine h9.mono ?_
    rintro _ w' ⟨u9, l, rfl, hl, hl2, hO, hb9⟩
    have hY := hX.trans (hb9.mono hX.size)
    have q := HK1.out.below hY HK1.out.lt
    obtain ⟨A', c', rfl⟩ := ownsRow_form hO
    exact ⟨l, A', c', rfl, ⟨hl, hl2, OSpans.reads hO, hY⟩, cellOf q 0 rfl, cellOf q 1 rfl, cellOf q 2 rfl⟩
  have CR2 : Hid (∀ X, Below w.heap.size w X → Calls Try.prog 72 #[.agg #[.int .i64 p.cut, .int .i64 p.margin, .slice A p.webs.length c]] X fun e w' => e = .returned (.int .i64 re) ∧ Below w.heap.size w w') := fun X hX => by
    have h9 := reach_any p HOK.out X _ ((HP.out.below hX).more hX.size)
    rw [hre] at h9
    refine h9.mono ?_
    rintro _ w' ⟨rfl, hb9⟩
    exact ⟨rfl, hX.trans (hb9.mono hX.size)⟩
  clear hre hok hg0
  go_upto_region 7 with fail
  go_cut [22, 23, 24] (fun s t i wx => i = .int .i64 0 ∧ RunCut w W1 p re s t wx)
  case first =>
    have S1 : W1.cell? ⟨w.heap.size, 0, none⟩ = some (.int .i64 p.cut) ∧ W1.cell? ⟨w.heap.size, 1, none⟩ = some (.int .i64 p.margin) ∧ W1.cell? ⟨w.heap.size, 2, none⟩ = some (.slice A p.webs.length c) := ⟨m0, m1, m2⟩
    clear m0 m1 m2
    go_region_held3 (fun X => X.cell? ⟨w.heap.size, 0, none⟩ = some (.int .i64 p.cut) ∧ X.cell? ⟨w.heap.size, 1, none⟩ = some (.int .i64 p.margin) ∧ X.cell? ⟨w.heap.size, 2, none⟩ = some (.slice A p.webs.length c))
      (first | exact S3 | exact S2 | exact S1 | go_keep)
      (first | (go_at_call 72; refine (CR.out _ (by first | exact Below.refl _ _ | exact (Below.refl _ _).drew)).mono ?_; rintro _ y1 ⟨rfl, hy1, S2⟩) | (go_at_call 74; refine (CT.out _ hy1).mono ?_; rintro _ y2 ⟨l, A', c', rfl, hy2, S3⟩))
    all_goals
      go_wp2_with fail
      go_meet
      exact ⟨rfl, l, A', c', rfl, rfl, hy2.out⟩
  case rest =>
    obtain ⟨rfl, l, A', c', rfl, rfl, hT, hl, hR, hBW⟩ := hcut
    obtain ⟨W2, rfl⟩ : ∃ X, X = wc := ⟨_, rfl⟩
    obtain ⟨A2, c2, e1, -, hC⟩ := hR.open_
    injection e1 with e1 e2 e3
    subst e1
    subst e3
    have HT := Lib.hid hT
    have HC := Lib.hid hC
    have HBO := Lib.hid (ThrownIs.bound hT hrb.2)
    have HBW : Hid (Below w.heap.size w W2) := HB1.out.trans (hBW.mono HB1.out.size)
    have HKW := Lib.hid (HK1.out.below hBW HK1.out.lt)
    have HZW : Hid (w.heap.size < W2.heap.size) := HKW.out.lt
    obtain ⟨n, hn⟩ : ∃ n, l.length = n := ⟨_, rfl⟩
    rw [hn] at hl
    have HN := Lib.hid hn
    rw [hn]
    clear hT hR hBW hC hn m0 m1 m2 CR CT e2
    go_wp2_with fail
    go_loopw [7, 24] (fun s i wr => ∃ k : Nat, k ≤ n ∧ i = .int .i64 k ∧ ∃ g : Int, s = .int .i64 g ∧ Hid (runL g (l.drop k) = runL g0 l) ∧ 0 ≤ g ∧ g ≤ 1000000 + k * 1000000 ∧ Hid (Below W2.heap.size W2 wr)) (fun _ i _ => n - (intOf i).toNat)
    case atStart => exact ⟨0, Nat.zero_le _, rfl, g0, rfl, rfl, HG.out.1, by have := HG.out.2; omega, Below.refl _ _⟩
    case round =>
    obtain ⟨k, hk, rfl, g, rfl, hg, hg1, hg2, hB⟩ := hrel
    have M := HKW.out.below hB.out HKW.out.lt
    have m0 := cellOf M 0 (x := .int .i64 p.cut) rfl
    have m1 := cellOf M 1 (x := .int .i64 p.margin) rfl
    have m2 := cellOf M 2 (x := .slice A p.webs.length c) rfl
    clear M
    by_cases hlt : k < n
    case neg =>
      have HEND : Hid (g = runL g0 l) := by
        show _ = _
        rw [← hg.out, List.drop_of_length_le (by rw [HN.out]; omega)]
        rfl
      go_wp2_with fail
      refine (CR2.out _ (HBW.out.trans (hB.out.mono HBW.out.size))).mono ?_
      rintro _ w5 ⟨rfl, hb5⟩
      have HB5 := Lib.hid hb5
      clear hb5
      by_cases hcr : re < g
      · go_wp2_with fail
        go_ret2
        exact ⟨0, 70, rfl, HB5.out, .inr (.inr ⟨HCE.out, HG.out, l, by rw [HRE.out]; exact HT.out, .inl ⟨by rw [HRE.out, ← HEND.out]; exact hcr, rfl, rfl⟩⟩)⟩
      · go_wp2_with fail
        go_ret2
        exact ⟨g, 0, rfl, HB5.out, .inr (.inr ⟨HCE.out, HG.out, l, by rw [HRE.out]; exact HT.out, .inr ⟨by rw [HRE.out, ← HEND.out]; omega, HEND.out, rfl⟩⟩)⟩

    obtain ⟨x, hx⟩ : ∃ x, l[k]? = some x := ⟨_, List.getElem?_eq_getElem (by rw [HN.out]; exact hlt)⟩
    have hxb := HBO.out x (List.mem_of_getElem? hx)
    have hdr : l.drop k = x :: l.drop (k + 1) := by
      rw [List.drop_eq_getElem_cons (by rw [HN.out]; exact hlt)]
      rw [List.getElem?_eq_getElem (by rw [HN.out]; exact hlt)] at hx
      injection hx with hx
      rw [hx]
    obtain ⟨b, o, rfl, hb, c0, c1⟩ := HC.out k x hx
    rw [← hB.out.cell (p := ⟨b, o + k * 2, none⟩) hb] at c0
    rw [← hB.out.cell (p := ⟨b, o + k * 2 + 1, none⟩) hb] at c1
    obtain ⟨hx1, hx2, hx3⟩ := hxb
    have F1 : ∃ X1, wr.alloc (.cells #[.int .i64 x.lo, .int .i64 x.hi] 45) = X1 ∧ Below wr.heap.size wr X1 ∧ Blk X1 wr.heap.size 45 #[.int .i64 x.lo, .int .i64 x.hi] := ⟨_, rfl, below_alloc _ _, Blk.new _ _ _⟩
    obtain ⟨X1, e1, hb1, B1⟩ := F1
    have E1 := Lib.hid e1
    have HX1 : Hid (Below W2.heap.size W2 X1) := hB.out.trans (hb1.mono hB.out.size)
    have HDR := Lib.hid hdr
    have d0 := cellOf B1 0 (x := .int .i64 x.lo) rfl
    have d1 := cellOf B1 1 (x := .int .i64 x.hi) rfl
    have M := HKW.out.below HX1.out HKW.out.lt
    have m0 := cellOf M 0 (x := .int .i64 p.cut) rfl
    have m1 := cellOf M 1 (x := .int .i64 p.margin) rfl
    have m2 := cellOf M 2 (x := .slice A p.webs.length c) rfl
    clear M hx hdr e1 hb1 B1
    go_upto_region 10 with fail
    rw [E1.out]
    clear c0 c1
    by_cases hge : g ≤ x.lo
    · have HEND : Hid (g = runL g0 l) := by
        show _ = _
        rw [← hg.out, HDR.out]
        unfold runL
        rw [if_pos hge]
      go_wp2_with fail
      refine (CR2.out _ (HBW.out.trans (HX1.out.mono HBW.out.size))).mono ?_
      rintro _ w5 ⟨rfl, hb5⟩
      have HB5 := Lib.hid hb5
      clear hb5
      by_cases hcr : re < g
      · go_wp2_with fail
        go_ret2
        exact ⟨0, 70, rfl, HB5.out, .inr (.inr ⟨HCE.out, HG.out, l, by rw [HRE.out]; exact HT.out, .inl ⟨by rw [HRE.out, ← HEND.out]; exact hcr, rfl, rfl⟩⟩)⟩
      · go_wp2_with fail
        go_ret2
        exact ⟨g, 0, rfl, HB5.out, .inr (.inr ⟨HCE.out, HG.out, l, by rw [HRE.out]; exact HT.out, .inr ⟨by rw [HRE.out, ← HEND.out]; omega, HEND.out, rfl⟩⟩)⟩

    · have HNX : Hid (runL (g + (x.hi - x.lo + 1)) (l.drop (k + 1)) = runL g0 l) := by
        show _ = _
        rw [← hg.out, HDR.out]
        conv => rhs; unfold runL
        rw [if_neg hge]
      clear m0 m1 m2
      go_wp2_with fail
      go_roundw
      case rel => exact ⟨k + 1, by omega, by go_num, _, rfl, HNX, by omega, by omega, HX1⟩
      case measure => simp [intOf]; omega
end Go.Proofs.Ytpkepacbondopaa
