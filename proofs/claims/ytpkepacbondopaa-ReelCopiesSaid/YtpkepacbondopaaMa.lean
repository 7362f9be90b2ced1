/-
  Used.
-/
import Derived.Test.YtpkepacbondopaaLy
namespace Go.Proofs.Ytpkepacbondopaa
open Go.RowKit
attribute [local go_sem] Oper.semAt_some

structure UseD where
  reel : Int
  used : Int
  rest : Int
def UseD.cells (x : UseD) : List Value := [.int .i64 x.reel, .int .i64 x.used, .int .i64 x.rest]
def usesR : Int → List ReelD → List UseD
  | _, [] => []
  | left, r :: l => ⟨r.id, min left r.gives, r.length - min left r.gives⟩ :: usesR (left - min left r.gives) l
/-- How much of a web the copies take. -/
def takenW (p : PressD) (n : Int) (x : WebD) : Int := if 0 < n then x.off + n * p.cut else 0
def usesTo (p : PressD) (n : Int) (k : Nat) : List UseD := (p.webs.take k).flatMap fun x => usesR (takenW p n x) x.reels
theorem usesTo_next {p : PressD} {n : Int} {k : Nat} {x : WebD} (h : p.webs[k]? = some x) : usesTo p n (k + 1) = usesTo p n k ++ usesR (takenW p n x) x.reels := by
  unfold usesTo
  rw [take_snoc_get h, List.flatMap_append]
  simp
theorem usesR_len : ∀ (l : List ReelD) (left : Int), (usesR left l).length = l.length
  | [], _ => rfl
  | r :: l, left => by unfold usesR; simp [usesR_len l]
theorem usesTo_len {p : PressD} {n : Int} (hp : p.Ok) (k : Nat) : (usesTo p n k).length ≤ 20 * k := by
  induction k with
  | zero => simp [usesTo]
  | succ k ih =>
    rcases Nat.lt_or_ge k p.webs.length with h | h
    · have hx := List.getElem?_eq_getElem h
      rw [usesTo_next hx, List.length_append, usesR_len]
      have := hp.reels _ (List.mem_of_getElem? hx)
      omega
    · unfold usesTo at ih ⊢
      rw [List.take_of_length_le h] at ih
      rw [List.take_of_length_le (by omega)]
      omega
def OUses (base : Nat) (w : World) (v : Value) (l : List UseD) : Prop := w.ownsRow base 60 3 v l.length (l.flatMap UseD.cells)
theorem sliceUse : Try.prog.underlying 54 = some (.slice 60) := by kernel_rfl
theorem infoUse : (Try.prog.info? 60).map (fun i => (i.zero, i.size, i.bytes)) = some (some (.agg #[.int .i64 0, .int .i64 0, .int .i64 0]), 3, 24) := by kernel_rfl
/-- A list of uses so far. -/
structure UseSt (w : World) (p : PressD) (u : Value) (acc : List UseD) (v : Value) (X : World) : Prop where
  row : OUses w.heap.size X v acc
  below_ : Below w.heap.size w X
  press : Blk X w.heap.size 24 #[.int .i64 p.cut, .int .i64 p.margin, u]
theorem UseSt.below {w : World} {p : PressD} {u : Value} {acc : List UseD} {v : Value} {X Y : World} (h : UseSt w p u acc v X) (hb : Below X.heap.size X Y) : UseSt w p u acc v Y :=
  ⟨ownsRow_below h.row hb, h.below_.trans (hb.mono h.below_.size), h.press.below hb h.press.lt⟩
theorem UseSt.append {w : World} {p : PressD} {u : Value} {acc : List UseD} {v v' : Value} {X Y : World} {tmp : Obj} {x : UseD} (h : UseSt w p u acc v X) (hg : (X.alloc tmp).grownBy Y v.ownBlock) (ho : Y.ownsRow w.heap.size 60 3 v' (acc.length + 1) (acc.flatMap UseD.cells ++ x.cells)) : UseSt w p u (acc ++ [x]) v' Y := by
  have hK : KeptBut (fun k => some k = v.ownBlock) X Y := by
    have h1 : KeptBut (fun k => some k = v.ownBlock) X (X.alloc tmp) := (KeptBut.mono (S := fun _ => False) (KeptBut.of_below (below_alloc X tmp) |>.mono fun _ _ h => h) fun _ _ h => h.elim)
    exact h1.trans (KeptBut.grown (S := fun k => some k = v.ownBlock) hg fun k hk => hk) fun i _ hi => hi
  refine ⟨?_, h.below_.trans (hK.below (fun k hk => (ownsRow_own h.row hk.symm).1) h.below_.size), hK.blk h.press fun hk => ?_⟩
  · unfold OUses
    rw [List.flatMap_append, List.length_append]
    simpa using ho
  · obtain ⟨-, cs', hB'⟩ := ownsRow_own h.row hk.symm
    have := h.press.symm.trans hB'
    simp at this
/-- What Used answers. -/
def UsedRet (w : World) (p : PressD) (n : Int) (e : Ending) (w' : World) : Prop :=
  ∃ u, e = .returned (.tuple #[u, .int .i64 (copiesE p n)]) ∧ OUses w.heap.size w' u (if copiesE p n = 0 then usesTo p n p.webs.length else []) ∧ Below w.heap.size w w'
set_option maxRecDepth 100000 in
set_option maxHeartbeats 4000000 in
theorem Used_any (p : PressD) (n : Int) (v : Value) (w : World) (h : RPress w.heap.size w v p) :
    Calls Try.prog 25 #[v, .int .i64 n] w (UsedRet w p n) := by
  obtain ⟨i0, hi0, hz0, hz1, hz2⟩ := info_parts infoUse
  obtain ⟨u, rfl, hw⟩ := id h
  obtain ⟨A, c, rfl, hlm, hr⟩ := hw.open_
  have HR := Lib.hid hr
  have HP := Lib.hid h
  clear h hr hw hlm
  have F0 : ∃ W0, w.alloc (.cells #[.int .i64 p.cut, .int .i64 p.margin, .slice A p.webs.length c] 24) = W0 ∧ Below w.heap.size w W0 ∧ Blk W0 w.heap.size 24 #[.int .i64 p.cut, .int .i64 p.margin, .slice A p.webs.length c] := ⟨_, rfl, below_alloc _ _, Blk.new _ _ _⟩
  obtain ⟨W0, e0, hb0, B0⟩ := F0
  have E0 := Lib.hid e0
  have HB0 := Lib.hid hb0
  have HK0 := Lib.hid B0
  have m0 := cellOf B0 0 (x := .int .i64 p.cut) rfl
  have m1 := cellOf B0 1 (x := .int .i64 p.margin) rfl
  have m2 := cellOf B0 2 (x := .slice A p.webs.length c) rfl
  clear e0 hb0 B0
  obtain ⟨ce, hce⟩ : ∃ e, copiesE p n = e := ⟨_, rfl⟩
  have CC := copies_any p n _ W0 ((HP.out.below HB0.out).more HB0.out.size)
  rw [hce] at CC
  have HCE := Lib.hid hce
  clear hce
  obtain ⟨m, hm⟩ : ∃ m, p.webs.length = m := ⟨_, rfl⟩
  have HM := Lib.hid hm
  rw [hm] at CC m2 E0 HK0
  have HP' := HP.out
  rw [hm] at HP'
  clear hm HP
  go_enter Try.func25, Try.ntmps25
  rw [HM.out]
  go_upto_region 1 with fail
  rw [E0.out]
  go_wp2_with fail
  refine CC.mono ?_
  rintro _ W1 ⟨rfl, hb1⟩
  have m0 := cellOf (HK0.out.below hb1 HK0.out.lt) 0 (x := .int .i64 p.cut) rfl
  have m1 := cellOf (HK0.out.below hb1 HK0.out.lt) 1 (x := .int .i64 p.margin) rfl
  have m2 := cellOf (HK0.out.below hb1 HK0.out.lt) 2 (x := .slice A m c) rfl
  have HB1 : Hid (Below w.heap.size w W1) := HB0.out.trans (hb1.mono HB0.out.size)
  have HK1 := Lib.hid (HK0.out.below hb1 HK0.out.lt)
  clear hb1 CC HP'
  by_cases hc : ce = 0
  case neg =>
    have hc' : (ce != 0) = true := by simpa using hc
    have HFin : Hid (UsedRet w p n (.returned (.tuple #[.slice none 0 0, .int .i64 ce])) W1) := ⟨.slice none 0 0, by rw [HCE.out], by rw [HCE.out, if_neg hc]; exact World.ownsRow_nil _ _ _ _, HB1.out⟩
    go_wp2_with fail
    go_ret2
    exact HFin.out
  subst hc
  obtain ⟨hc0, hn1, hn2⟩ := copiesE_ok HCE.out
  have hok := checkE_ok hc0
  have hrb := reach_bound hok
  have hn3 : n ≤ 1000000 := by omega
  have HOK := Lib.hid hok
  have hm6 : m ≤ 6 := by have := hok.webs; have := HM.out; omega
  have hcut := hok.cut
  obtain ⟨y, hy⟩ : ∃ y, n * p.cut = y := ⟨_, rfl⟩
  have hy1 : 0 ≤ y := by rw [← hy]; exact Int.mul_nonneg hn1 (by omega)
  have hy2 : y ≤ 1500000000 := by
    rw [← hy]
    have h1 : n * p.cut ≤ n * 1500 := Int.mul_le_mul_of_nonneg_left (by omega) hn1
    omega
  have HY := Lib.hid hy
  have HS1 : Hid (UseSt w p (.slice A m c) (usesTo p n 0) (.slice none 0 0) W1) := ⟨World.ownsRow_nil _ _ _ _, HB1.out, HK1.out⟩
  clear hc0 hn2 hok hrb hy
  go_wp2_with fail
  clear m0 m1 m2
  go_loopw [7, 23] (fun s i wr => ∃ k : Nat, k ≤ m ∧ i = .int .i64 k ∧ Hid (UseSt w p (.slice A m c) (usesTo p n k) s wr)) (fun _ i _ => m - (intOf i).toNat)
  case atStart => exact ⟨0, Nat.zero_le _, rfl, HS1⟩
  case round =>
  obtain ⟨k, hk, rfl, hst⟩ := hrel
  obtain ⟨wo, rfl⟩ : ∃ wo : World, wo = wr := ⟨_, rfl⟩
  by_cases hlt : k < m
  case neg =>
    have HFin : Hid (UsedRet w p n (.returned (.tuple #[u7, .int .i64 0])) wo) := ⟨u7, by rw [HCE.out], by
      rw [HCE.out, if_pos rfl]
      obtain rfl : k = m := by omega
      rw [HM.out]
      exact hst.out.row, hst.out.below_⟩
    go_wp2_with fail
    go_ret2
    exact HFin.out
  obtain ⟨x, hx⟩ : ∃ x, p.webs[k]? = some x := ⟨_, List.getElem?_eq_getElem (by rw [HM.out]; exact hlt)⟩
  have hmem := List.mem_of_getElem? hx
  have hxo := HOK.out.web x hmem
  have hxl := HOK.out.reels x hmem
  have HXR := Lib.hid (HOK.out.reel x hmem)
  obtain ⟨b, o, A2, c2', rfl, hb, c0, c1, c2, c3, hrr⟩ := HR.out k x hx
  have hBw := hst.out.below_
  rw [← hBw.cell (p := ⟨b, o + k * 4, none⟩) hb] at c0
  rw [← hBw.cell (p := ⟨b, o + k * 4 + 1, none⟩) hb] at c1
  rw [← hBw.cell (p := ⟨b, o + k * 4 + 2, none⟩) hb] at c2
  rw [← hBw.cell (p := ⟨b, o + k * 4 + 3, none⟩) hb] at c3
  have F1 : ∃ X1, wo.alloc (.cells #[.slice A2 x.reels.length c2', .int .i64 x.off, .int .i64 x.before, .int .i64 x.after] 47) = X1 ∧ Below wo.heap.size wo X1 ∧ Blk X1 wo.heap.size 47 #[.slice A2 x.reels.length c2', .int .i64 x.off, .int .i64 x.before, .int .i64 x.after] := ⟨_, rfl, below_alloc _ _, Blk.new _ _ _⟩
  obtain ⟨X1, e1, hb1, B1⟩ := F1
  obtain ⟨q, hq⟩ : ∃ q, x.reels.length = q := ⟨_, rfl⟩
  have HQ := Lib.hid hq
  obtain ⟨A3, c3', e3, -, hC⟩ := hrr.open_
  injection e3 with e31 e32 e33
  subst e31
  subst e33
  have HC := Lib.hid hC
  rw [hq] at c0 e1 B1 hxl
  have E1 := Lib.hid e1
  have HS2 := Lib.hid (hst.out.below hb1)
  have HUN := Lib.hid (usesTo_next (n := n) hx)
  have HUL := usesTo_len (n := n) HOK.out k
  obtain ⟨⟨ho1, ho2⟩, -, -⟩ := hxo
  have d0 := cellOf B1 0 (x := .slice A2 q c2') rfl
  have d1 := cellOf B1 1 (x := .int .i64 x.off) rfl
  have m0 := cellOf HS2.out.press 0 (x := .int .i64 p.cut) rfl
  have hy := HY.out
  clear hx hmem hrr hBw hb1 e1 B1 hC hq e32
  go_upto_region 8 with fail
  rw [E1.out]
  clear c0 c1 c2 c3
  have HUL2 := usesTo_len (n := n) HOK.out (k + 1)
  have kw : IntKind.i64.wrap y = y := IntWalk.i64_in _ ⟨by omega, by omega⟩
  have kw2 : IntKind.i64.wrap (x.off + y) = x.off + y := IntWalk.i64_in _ ⟨by omega, by omega⟩
  by_cases hn0 : 0 < n
  all_goals
    have HST : ∃ T, Hid (usesTo p n k ++ usesR T (x.reels.drop 0) = usesTo p n (k + 1)) ∧ (0 ≤ T ∧ T ≤ 2000000000) ∧ T = takenW p n x :=
      ⟨_, HUN.out.symm, by unfold takenW; rw [hy]; split <;> omega, rfl⟩
    obtain ⟨T, HST, ⟨hT1, hT2⟩, hT3⟩ := HST
    first
      | rw [show takenW p n x = x.off + y by unfold takenW; rw [if_pos hn0, hy]] at hT3
      | rw [show takenW p n x = 0 by unfold takenW; rw [if_neg hn0]] at hT3
    subst hT3
    go_upto_region 11 with fail
    clear hy kw kw2 hn0
    go_wp2_with fail
    clear d0 d1 m0
    go_loopw [7, 10, 39] (fun s lf i wr => ∃ j : Nat, j ≤ q ∧ i = .int .i64 j ∧ ∃ left : Int, lf = .int .i64 left ∧ 0 ≤ left ∧ left ≤ 2000000000 ∧ ∃ acc, Hid (acc ++ usesR left (x.reels.drop j) = usesTo p n (k + 1)) ∧ Hid (UseSt w p (.slice (some ⟨b, o, none⟩) m c) acc s wr)) (fun _ _ i _ => q - (intOf i).toNat)
    case atStart => exact ⟨0, Nat.zero_le _, rfl, _, rfl, hT1, hT2, _, HST, HS2⟩
    case round =>
    obtain ⟨j, hj, rfl, left, rfl, hl1, hl2, acc, hacc, hus⟩ := hrel
    clear HST hT1 hT2
    by_cases hjq : j < q
    case neg =>
      have HNX : Hid (UseSt w p (.slice (some ⟨b, o, none⟩) m c) (usesTo p n (k + 1)) u7 wr) := by
        have h1 := hacc.out
        rw [List.drop_of_length_le (by rw [HQ.out]; omega)] at h1
        simp only [usesR, List.append_nil] at h1
        show UseSt _ _ _ _ _ _
        rw [← h1]
        exact hus.out
      go_wp2_with fail
      go_roundw
      case rel => exact ⟨k + 1, by omega, by go_num, HNX⟩
      case measure => simp [intOf]; omega
    obtain ⟨r, hr⟩ : ∃ r, x.reels[j]? = some r := ⟨_, List.getElem?_eq_getElem (by rw [HQ.out]; exact hjq)⟩
    have hro := HXR.out r (List.mem_of_getElem? hr)
    have hdr : x.reels.drop j = r :: x.reels.drop (j + 1) := by
      rw [List.drop_eq_getElem_cons (by rw [HQ.out]; exact hjq)]
      rw [List.getElem?_eq_getElem (by rw [HQ.out]; exact hjq)] at hr
      injection hr with hr
      rw [hr]
    obtain ⟨b2, o2, rfl, hb2, c0, c1, c2, c3⟩ := HC.out j r hr
    have hBw := hus.out.below_
    rw [← hBw.cell (p := ⟨b2, o2 + j * 4, none⟩) hb2] at c0
    rw [← hBw.cell (p := ⟨b2, o2 + j * 4 + 1, none⟩) hb2] at c1
    rw [← hBw.cell (p := ⟨b2, o2 + j * 4 + 2, none⟩) hb2] at c2
    rw [← hBw.cell (p := ⟨b2, o2 + j * 4 + 3, none⟩) hb2] at c3
    have F2 : ∃ X2, wr.alloc (.cells #[.int .i64 r.id, .int .i64 r.width, .int .i64 r.length, .int .i64 r.core] 58) = X2 ∧ Below wr.heap.size wr X2 ∧ Blk X2 wr.heap.size 58 #[.int .i64 r.id, .int .i64 r.width, .int .i64 r.length, .int .i64 r.core] := ⟨_, rfl, below_alloc _ _, Blk.new _ _ _⟩
    obtain ⟨X2, e2, hb9, B2⟩ := F2
    have E2 := Lib.hid e2
    have HU2 := Lib.hid (hus.out.below hb9)
    have HK2 := Lib.hid B2
    have HDR := Lib.hid hdr
    have CG := gives_any r hro X2
    obtain ⟨G, hG⟩ : ∃ G, r.gives = G := ⟨_, rfl⟩
    rw [hG] at CG
    have hGb : 0 ≤ G ∧ G ≤ 20000000 := by
      rw [← hG]
      unfold ReelD.gives
      have h1 := hro.2.2.1
      have h2 := hro.2.2.2
      omega
    have hLb := hro.2.2.1
    have HG := Lib.hid hG
    have hacl : acc.length ≤ 120 := by
      have h1 := congrArg List.length hacc.out
      rw [List.length_append] at h1
      omega
    have HCG := Lib.hid CG
    obtain ⟨Av, cv, rfl⟩ := ownsRow_form hus.out.row
    have r0 := cellOf B2 0 (x := .int .i64 r.id) rfl
    have r1 := cellOf B2 1 (x := .int .i64 r.width) rfl
    have r2 := cellOf B2 2 (x := .int .i64 r.length) rfl
    have r3 := cellOf B2 3 (x := .int .i64 r.core) rfl
    obtain ⟨hG1, hG2⟩ := hGb
    obtain ⟨hL1, hL2⟩ := hLb
    clear hr hro hdr hBw e2 hb9 B2 CG hG
    go_upto_region 14 with fail
    rw [E2.out]
    clear c0 c1 c2 c3
    go_wp2_with fail
    refine HCG.out.mono ?_
    rintro _ w5 ⟨rfl, hb5⟩
    clear r0 r1 r2 r3
    have B5 := HK2.out.below hb5 HK2.out.lt
    have r0 := cellOf B5 0 (x := .int .i64 r.id) rfl
    have r2 := cellOf B5 2 (x := .int .i64 r.length) rfl
    have HU5 := Lib.hid (HU2.out.below hb5)
    have HO5 := Lib.hid (ownsRow_below HU2.out.row hb5)
    have HZ5 : Hid (w.heap.size ≤ w5.heap.size) := HU5.out.below_.size
    obtain ⟨M, hM⟩ : ∃ M, min left G = M := ⟨_, rfl⟩
    have HAp : Hid (∀ Y v' tmp, (w5.alloc tmp).grownBy Y (Value.slice Av acc.length cv).ownBlock → Y.ownsRow w.heap.size 60 3 v' (acc.length + 1) (acc.flatMap UseD.cells ++ [.int .i64 r.id, .int .i64 M, .int .i64 (r.length - M)]) → Hid (UseSt w p (.slice (some ⟨b, o, none⟩) m c) (acc ++ [⟨r.id, M, r.length - M⟩]) v' Y)) := fun Y v' tmp hg ho => HU5.out.append (x := ⟨r.id, M, r.length - M⟩) hg ho
    have HNX : Hid ((acc ++ [⟨r.id, M, r.length - M⟩]) ++ usesR (left - M) (x.reels.drop (j + 1)) = usesTo p n (k + 1)) := by
      have h1 := hacc.out
      rw [HDR.out] at h1
      unfold usesR at h1
      rw [HG.out, hM] at h1
      show _ = _
      rw [← h1, List.append_assoc]
      rfl
    clear B5 hb5 HCG hus hacc
    have hM1 : 0 ≤ M ∧ M ≤ left ∧ M ≤ G := by omega
    obtain ⟨hM1, hM2, hM3⟩ := hM1
    go_wp2_with (at_builtin; refine wpList_append_own _ rfl _ _ 54 rfl w.heap.size 60 i0 _ 3 24 sliceUse hi0 hz0 hz1 hz2 rfl (by decide) (.slice Av acc.length cv) acc.length (acc.flatMap UseD.cells) rfl (HO5.out.alloc _) ⟨w5.heap.size, 0, none⟩ 1 1 [.int .i64 r.id, .int .i64 M, .int .i64 (r.length - M)] rfl rfl (cells_new _ _ _) (by simp [Value.oneCell']) (by simp only [maxLen]; omega) (by omega) (by have := HZ5.out; simp; omega) ?_; intro v2' w10 hown' hgrow _)
    have HSt := HAp.out _ _ _ hgrow hown'
    clear hown' hgrow HAp
    go_roundw
    case rel => exact ⟨j + 1, by omega, by go_num, _, rfl, by omega, by omega, _, HNX, HSt⟩
    case measure => simp [intOf]; omega
end Go.Proofs.Ytpkepacbondopaa
