/-
  The reference's Read.
-/
import Derived.Test.YtffodgpafiifcaaQb
namespace Go.Proofs.Ytffodgpafiifcaa
open Go.RowKit

theorem rdesk_own {base n : Nat} {w : World} {e : TypeId} {k : Nat} {v : Value} {xs : List Value} (h : w.ownsRow base e k v n xs) : Rd w.heap.size w k v n xs := Rd.own h (own_le h)
theorem errsD_at {marks found : List Int} {n k : Nat} (h : k < n) : (errsD marks found n)[k]? = some (errD marks found k) := by simp [errsD, h]
theorem errs_rep {n k : Nat} (h : k < n) : (List.replicate n lostD)[k]? = some lostD := by simp [List.getElem?_replicate, h]
theorem get_getD {l : List Int} {k : Nat} {x : Int} (h : l[k]? = some x) : l.getD k 0 = x := by rw [List.getD_eq_getElem?_getD, h]; rfl
/-- What the first lines of Read leave. -/
def RdCut (d : DeskD) (l : List Int) (s ct : Int) (wA : World) (b9 : Nat) (s8 : Value) (X : World) : Prop :=
  ∃ (bad : Bool), s8 = .int .i64 (if bad then 4 else 0) ∧ (bad = true ↔ BadFit d l ct) ∧ Blk X b9 75 #[.bool (!bad), .int .i64 (if bad then 0 else s), .slice none 0 0, .slice none 0 0] ∧ Below wA.heap.size wA X

set_option maxRecDepth 100000 in
set_option maxHeartbeats 40000000 in
theorem refRead_any (mp ml pc : Value) (d : DeskD) (es : List (Value × Value)) (w : World) (h : RDesk w.heap.size w mp ml pc d es) (hok : DeskOk d) (vsn : Value) (seen : List Int) (hs : RInts w.heap.size w vsn seen) (hl : seen.length ≤ 1000000) :
    Calls Try.prog 33 #[.agg #[mp, ml, .int .i64 d.W, .int .i64 d.limit, pc], vsn] w (RefReadRet mp ml pc d es seen w) := by
  have H := Lib.hid h
  have HOk := Lib.hid hok
  have HSn := Lib.hid hs
  obtain ⟨np, hnp⟩ : ∃ n, d.copies.length = n := ⟨_, rfl⟩
  obtain ⟨n1, hn1⟩ : ∃ n, d.loops.length = n := ⟨_, rfl⟩
  obtain ⟨nm, hnm⟩ : ∃ n, d.marks.length = n := ⟨_, rfl⟩
  have HNP := Lib.hid hnp
  have HN1 := Lib.hid hn1
  have HNM := Lib.hid hnm
  have hp5 := hok.play
  have hmm := hok.many
  have hml := hok.len
  have hli := hok.limit
  rw [hnp] at hp5
  rw [hnm] at hmm hml
  rw [hn1] at hml
  have hml1 : n1 + 1 ≤ nm := by omega
  have hml2 : nm ≤ n1 + 1 := by omega
  clear hml
  obtain ⟨Ap, cp, rfl⟩ : ∃ A c, pc = .slice A np c := by
    obtain ⟨A, c, e⟩ := rd_form h.rows
    exact ⟨A, c, by rw [← hnp]; exact e⟩
  obtain ⟨Am, cm, rfl⟩ : ∃ A c, mp = .slice A nm c := by
    obtain ⟨A, c, e⟩ := rd_form h.marks
    exact ⟨A, c, by rw [← hnm]; exact e⟩
  obtain ⟨Al, cl, rfl⟩ : ∃ A c, ml = .slice A n1 c := by
    obtain ⟨A, c, e⟩ := rd_form h.loops
    exact ⟨A, c, by rw [← hn1]; exact e⟩
  obtain ⟨As, csn, rfl, -⟩ := slice_len hs
  obtain ⟨W, hW⟩ : ∃ W, d.W = W := ⟨_, rfl⟩
  obtain ⟨lim, hlim⟩ : ∃ lim, d.limit = lim := ⟨_, rfl⟩
  have HW := Lib.hid hW
  have HLim := Lib.hid hlim
  rw [hW, hlim]
  rw [hlim] at hli
  obtain ⟨b0, hb0⟩ : ∃ b, w.heap.size = b := ⟨_, rfl⟩
  obtain ⟨w1, e1, B1, K0, K1, K2⟩ : ∃ w1, ((w.alloc (.cells #[.slice Am nm cm, .slice Al n1 cl, .int .i64 W, .int .i64 lim, .slice Ap np cp] 68)).alloc (.cells #[.slice none 0 0, .slice none 0 0, .int .i64 0, .int .i64 0, .slice none 0 0] 68)).alloc (.cells #[.bool false, .int .i64 0, .slice none 0 0, .slice none 0 0] 75) = w1 ∧ Below w.heap.size w w1 ∧
      Blk w1 b0 68 #[.slice Am nm cm, .slice Al n1 cl, .int .i64 W, .int .i64 lim, .slice Ap np cp] ∧ Blk w1 (b0 + 1) 68 #[.slice none 0 0, .slice none 0 0, .int .i64 0, .int .i64 0, .slice none 0 0] ∧ Blk w1 (b0 + 1 + 1) 75 #[.bool false, .int .i64 0, .slice none 0 0, .slice none 0 0] := by
    have b1 := below_alloc w (.cells #[.slice Am nm cm, .slice Al n1 cl, .int .i64 W, .int .i64 lim, .slice Ap np cp] 68)
    have b2 := below_alloc (w.alloc (.cells #[.slice Am nm cm, .slice Al n1 cl, .int .i64 W, .int .i64 lim, .slice Ap np cp] 68)) (.cells #[.slice none 0 0, .slice none 0 0, .int .i64 0, .int .i64 0, .slice none 0 0] 68)
    refine ⟨_, rfl, b1.trans ((b2.trans ((below_alloc _ _).mono b2.size)).mono b1.size), ?_, ?_, ?_⟩
    · rw [← hb0]; exact ((Blk.new w _ _).alloc _).alloc _
    · exact (blk_new (by simp [hb0]) _ _).alloc _
    · exact blk_new (by simp [hb0]) _ _
  have E1 := Lib.hid e1
  have HB1 := Lib.hid B1
  have HK0 := Lib.hid K0
  have HK1 := Lib.hid K1
  have HK2 := Lib.hid K2
  have hd1 := h.later B1
  have H1 := Lib.hid hd1
  have hz0 : w.heap.size ≤ b0 := by omega
  have HZ0 := Lib.hid hz0
  have d0 := cellOf K0 0 (x := .slice Am nm cm) rfl
  have d1 := cellOf K0 1 (x := .slice Al n1 cl) rfl
  have d2 := cellOf K0 2 (x := .int .i64 W) rfl
  have d3 := cellOf K0 3 (x := .int .i64 lim) rfl
  have d4 := cellOf K0 4 (x := .slice Ap np cp) rfl
  have CMt := Lib.hid (refMatch_any (.slice Am nm cm) (.slice As seen.length csn) d.marks d.W seen w1 hd1.marks ((hs.below B1).more B1.size) (by omega) hl)
  rw [hW] at CMt
  have HSto : Hid (∀ (X : World) (cs1 cs2 : Array Value), cs1.size = 5 → cs2.size = 4 → Blk X (b0 + 1) 68 cs1 → Blk X (b0 + 1 + 1) 75 cs2 → Below w.heap.size w X → ∀ x0 x1 x2 x3 x4 y0 y1 y2 y3, ∃ Y, Sto (b0 + 1) (b0 + 1 + 1) X x0 x1 x2 x3 x4 y0 y1 y2 y3 = Y ∧ Blk Y (b0 + 1) 68 #[x0, x1, x2, x3, x4] ∧ Blk Y (b0 + 1 + 1) 75 #[y0, y1, y2, y3] ∧ Below w.heap.size w Y ∧ KeptBut (fun k => k = b0 + 1 ∨ k = b0 + 1 + 1) X Y) :=
    Lib.hid fun X cs1 cs2 hc1 hc2 hK1 hK2 hB x0 x1 x2 x3 x4 y0 y1 y2 y3 => sto_is hc1 hc2 hK1 hK2 hB (by omega) (by omega) x0 x1 x2 x3 x4 y0 y1 y2 y3
  clear h hok hs e1 B1 K0 K1 K2 hd1 hnp hn1 hnm hW hlim hz0
  go_enter Try.func33, Try.ntmps33
  go_upto_region 1 with fail
  rw [E1.out]
  clear E1 hb0
  by_cases hfull : np = 5000
  · have HI : Hid (ReadIs d seen zeroC 2 d) := Lib.hid (.inl ⟨HNP.out.trans hfull, rfl, rfl, rfl⟩)
    subst hfull
    obtain ⟨Y, eY, hY1, hY2, hBY, hkY⟩ := HSto.out w1 _ _ rfl rfl (HK1.out) (HK2.out) (HB1.out) (.slice Am nm cm) (.slice Al n1 cl) (.int .i64 W) (.int .i64 lim) (.slice Ap 5000 cp) (.bool false) (.int .i64 0) (.slice none 0 0) (.slice none 0 0)
    unfold Sto at eY
    have EY := Lib.hid eY
    have HBY := Lib.hid hBY
    have HKY := Lib.hid (H.out.later hBY)
    have k0 := (HK1.out).frozen 0
    have r0 := cellOf (HK1.out) 0 (x := .slice none 0 0) rfl
    have k1 := (HK1.out).frozen 1
    have r1 := cellOf (HK1.out) 1 (x := .slice none 0 0) rfl
    have k2 := (HK1.out).frozen 2
    have r2 := cellOf (HK1.out) 2 (x := .int .i64 0) rfl
    have k3 := (HK1.out).frozen 3
    have r3 := cellOf (HK1.out) 3 (x := .int .i64 0) rfl
    have k4 := (HK1.out).frozen 4
    have r4 := cellOf (HK1.out) 4 (x := .slice none 0 0) rfl
    have j0 := (HK2.out).frozen 0
    have q0 := cellOf (HK2.out) 0 (x := .bool false) rfl
    have j1 := (HK2.out).frozen 1
    have q1 := cellOf (HK2.out) 1 (x := .int .i64 0) rfl
    have j2 := (HK2.out).frozen 2
    have q2 := cellOf (HK2.out) 2 (x := .slice none 0 0) rfl
    have j3 := (HK2.out).frozen 3
    have q3 := cellOf (HK2.out) 3 (x := .slice none 0 0) rfl
    have x0 := cellOf hY1 0 (x := .slice Am nm cm) rfl
    have x1 := cellOf hY1 1 (x := .slice Al n1 cl) rfl
    have x2 := cellOf hY1 2 (x := .int .i64 W) rfl
    have x3 := cellOf hY1 3 (x := .int .i64 lim) rfl
    have x4 := cellOf hY1 4 (x := .slice Ap 5000 cp) rfl
    have y0 := cellOf hY2 0 (x := .bool false) rfl
    have y1 := cellOf hY2 1 (x := .int .i64 0) rfl
    have y2 := cellOf hY2 2 (x := .slice none 0 0) rfl
    have y3 := cellOf hY2 3 (x := .slice none 0 0) rfl
    clear eY hBY hY1 hY2 hkY
    go_wp2
    rw [EY.out]
    refine bodyPost_ret (v := .tuple #[.agg #[.slice Am nm cm, .slice Al n1 cl, .int .i64 W, .int .i64 lim, .slice Ap 5000 cp], .agg #[.bool false, .int .i64 0, .slice none 0 0, .slice none 0 0], .int .i64 2]) (by simp [results, Try.results33, go_sem, x0, x1, x2, x3, x4, y0, y1, y2, y3]) rfl ?_
    refine ⟨zeroC, 2, d, _, .slice none 0 0, .slice none 0 0, ?_, HI.out, .inl ⟨rfl, rfl⟩, World.ownsRow_nil _ _ _ _, World.ownsRow_nil _ _ _ _, HBY.out⟩
    rw [HW.out, HLim.out]
    rfl
  have hnf : ¬ (5000 : Int) ≤ (np : Int) := by omega
  go_wp2_with fail
  refine CMt.out.mono ?_
  rintro en w2 ⟨⟨s, ct, l, err, u, rfl, hfit, hu⟩, hb2⟩
  clear CMt
  obtain ⟨Au, cu, rfl⟩ := ownsRow_form hu
  obtain ⟨nl, hnl⟩ : ∃ n, l.length = n := ⟨_, rfl⟩
  have HNL := Lib.hid hnl
  have hu : OInts w1.heap.size w2 (.slice Au nl cu) l := by rw [hnl] at hu; exact hu
  rw [hnl]
  have HFit : Hid (FitIs d.marks d.W seen s ct l err) := Lib.hid (by rw [HW.out]; exact hfit)
  obtain ⟨bF, hbF⟩ : ∃ b, w2.heap.size = b := ⟨_, rfl⟩
  obtain ⟨w3, e3, B3, F3⟩ : ∃ w3, w2.alloc (.cells #[.int .i64 s, .int .i64 ct, .slice Au nl cu] 55) = w3 ∧ Below w2.heap.size w2 w3 ∧ Blk w3 bF 55 #[.int .i64 s, .int .i64 ct, .slice Au nl cu] := ⟨_, rfl, below_alloc _ _, hbF ▸ Blk.new _ _ _⟩
  have E3 := Lib.hid e3
  have hb13 : Below w1.heap.size w1 w3 := hb2.trans (B3.mono hb2.size)
  have HB13 := Lib.hid hb13
  have HB3 := Lib.hid (HB1.out.trans (hb13.mono HB1.out.size))
  have hK0 := HK0.out.below hb13 HK0.out.lt
  have hK1 := HK1.out.below hb13 HK1.out.lt
  have hK2 := HK2.out.below hb13 HK2.out.lt
  have HK0 := Lib.hid hK0
  have HK1 := Lib.hid hK1
  have HK2 := Lib.hid hK2
  have H3 := Lib.hid (H1.out.later hb13)
  have hU3 := rdesk_own (ownsRow_below hu B3)
  have HU3 : Hid (RInts w3.heap.size w3 (.slice Au nl cu) l) := Lib.hid (by
    rw [HNL.out] at hU3
    show Rd _ _ _ _ l.length _
    rw [HNL.out]
    exact hU3)
  have HF3 := Lib.hid F3
  clear hfit hu hnl e3 B3 hb2 d0 d1 d2 d3 d4 hU3 hb13 H1 F3
  go_upto_region 4 with fail
  rw [E3.out]
  clear hbF E3
  have d0 := cellOf hK0 0 (x := .slice Am nm cm) rfl
  have d1 := cellOf hK0 1 (x := .slice Al n1 cl) rfl
  have d2 := cellOf hK0 2 (x := .int .i64 W) rfl
  have d3 := cellOf hK0 3 (x := .int .i64 lim) rfl
  have d4 := cellOf hK0 4 (x := .slice Ap np cp) rfl
  clear hK0 hK1 hK2
  by_cases herr : err = 0
  case neg =>
    have herr2 : (err != 0) = true := by simpa using herr
    have HI : Hid (ReadIs d seen zeroC err d) := Lib.hid (.inr ⟨by rw [HNP.out]; exact hfull, s, ct, l, err, HFit.out, .inl ⟨herr, rfl, rfl, rfl⟩⟩)
    obtain ⟨Y, eY, hY1, hY2, hBY, hkY⟩ := HSto.out w3 _ _ rfl rfl (HK1.out) (HK2.out) (HB3.out) (.slice Am nm cm) (.slice Al n1 cl) (.int .i64 W) (.int .i64 lim) (.slice Ap np cp) (.bool false) (.int .i64 0) (.slice none 0 0) (.slice none 0 0)
    unfold Sto at eY
    have EY := Lib.hid eY
    have HBY := Lib.hid hBY
    have HKY := Lib.hid (H.out.later hBY)
    have k0 := (HK1.out).frozen 0
    have r0 := cellOf (HK1.out) 0 (x := .slice none 0 0) rfl
    have k1 := (HK1.out).frozen 1
    have r1 := cellOf (HK1.out) 1 (x := .slice none 0 0) rfl
    have k2 := (HK1.out).frozen 2
    have r2 := cellOf (HK1.out) 2 (x := .int .i64 0) rfl
    have k3 := (HK1.out).frozen 3
    have r3 := cellOf (HK1.out) 3 (x := .int .i64 0) rfl
    have k4 := (HK1.out).frozen 4
    have r4 := cellOf (HK1.out) 4 (x := .slice none 0 0) rfl
    have j0 := (HK2.out).frozen 0
    have q0 := cellOf (HK2.out) 0 (x := .bool false) rfl
    have j1 := (HK2.out).frozen 1
    have q1 := cellOf (HK2.out) 1 (x := .int .i64 0) rfl
    have j2 := (HK2.out).frozen 2
    have q2 := cellOf (HK2.out) 2 (x := .slice none 0 0) rfl
    have j3 := (HK2.out).frozen 3
    have q3 := cellOf (HK2.out) 3 (x := .slice none 0 0) rfl
    have x0 := cellOf hY1 0 (x := .slice Am nm cm) rfl
    have x1 := cellOf hY1 1 (x := .slice Al n1 cl) rfl
    have x2 := cellOf hY1 2 (x := .int .i64 W) rfl
    have x3 := cellOf hY1 3 (x := .int .i64 lim) rfl
    have x4 := cellOf hY1 4 (x := .slice Ap np cp) rfl
    have y0 := cellOf hY2 0 (x := .bool false) rfl
    have y1 := cellOf hY2 1 (x := .int .i64 0) rfl
    have y2 := cellOf hY2 2 (x := .slice none 0 0) rfl
    have y3 := cellOf hY2 3 (x := .slice none 0 0) rfl
    clear eY hBY hY1 hY2 hkY
    go_wp2
    rw [EY.out]
    refine bodyPost_ret (v := .tuple #[.agg #[.slice Am nm cm, .slice Al n1 cl, .int .i64 W, .int .i64 lim, .slice Ap np cp], .agg #[.bool false, .int .i64 0, .slice none 0 0, .slice none 0 0], .int .i64 err]) (by simp [results, Try.results33, go_sem, x0, x1, x2, x3, x4, y0, y1, y2, y3]) rfl ?_
    refine ⟨zeroC, err, d, _, .slice none 0 0, .slice none 0 0, ?_, HI.out, .inl ⟨rfl, rfl⟩, World.ownsRow_nil _ _ _ _, World.ownsRow_nil _ _ _ _, HBY.out⟩
    rw [HW.out, HLim.out]
    rfl
  subst herr
  obtain ⟨hfl, hfr, hmr⟩ : nl = n1 + 1 ∧ (∀ x ∈ l, x = lostD ∨ (-100000 ≤ x ∧ x ≤ 200000)) ∧ (∀ x ∈ d.marks, 0 ≤ x ∧ x ≤ 100000) := by
    rcases HFit.out with ⟨-, -, -, -, h9⟩ | ⟨-, -, -, -, -, h9⟩ | ⟨-, -, -, -, -, -, h9⟩ | ⟨-, h2, h3, h4, h5, h6, -⟩
    · omega
    · omega
    · omega
    · refine ⟨?_, fun x hx => ?_, h2.place⟩
      · have h8 : l.length = d.marks.length := by rw [h6]; exact fitTo_len _ _ _ _
        rw [HNL.out, HNM.out] at h8
        omega
      · obtain ⟨i, hi, rfl⟩ := List.getElem_of_mem hx
        have h8 : l.length = d.marks.length := by rw [h6]; exact fitTo_len _ _ _ _
        have h7 := fitD_at (W := d.W) (seen := seen) (List.getElem?_eq_getElem (show i < d.marks.length by omega))
        rw [← h6, List.getElem?_eq_getElem hi] at h7
        injection h7 with h7
        rw [h7]
        by_cases hl9 : findD seen (d.marks[i]'(by omega) + (bestD d.marks d.W seen).1 - d.W) (d.marks[i]'(by omega) + (bestD d.marks d.W seen).1 + d.W) = lostD
        · exact .inl hl9
        · exact .inr (h3.place _ (findD_mem hl9).1)
  have hct : 0 ≤ ct ∧ ct ≤ 12 := by
    rcases HFit.out with ⟨-, -, -, -, h9⟩ | ⟨-, -, -, -, -, h9⟩ | ⟨-, -, -, -, -, -, h9⟩ | ⟨-, h2, h3, h4, h5, h6, -⟩
    · omega
    · omega
    · omega
    · have h9 := best_is (seen := seen) h2
      have h8 := countD_le d.marks d.W seen (bestD d.marks d.W seen).1
      rw [HNM.out] at h8
      rw [h5, h9]
      omega
  have HFR := Lib.hid hfr
  have HMR := Lib.hid hmr
  subst hfl
  clear hfr hmr
  -- the copy in the making
  obtain ⟨b9, hb9⟩ : ∃ b, w3.heap.size = b := ⟨_, rfl⟩
  obtain ⟨w4, e4, B4, T4⟩ : ∃ w4, w3.alloc (.cells #[.bool true, .int .i64 s, .slice none 0 0, .slice none 0 0] 75) = w4 ∧ Below w3.heap.size w3 w4 ∧ Blk w4 b9 75 #[.bool true, .int .i64 s, .slice none 0 0, .slice none 0 0] := ⟨_, rfl, below_alloc _ _, hb9 ▸ Blk.new _ _ _⟩
  have E4 := Lib.hid e4
  have HB4 := Lib.hid B4
  have HT4 := Lib.hid T4
  have HZ9 : Hid (w3.heap.size ≤ b9) := Lib.hid (by omega)
  have x0 := cellOf HF3.out 0 (x := .int .i64 s) rfl
  clear e4 B4 T4
  go_upto_region 7 with fail
  rw [E4.out]
  clear E4 hb9 x0
  obtain ⟨f0, hf0⟩ : ∃ x, l[0]? = some x := ⟨_, List.getElem?_eq_getElem (by rw [HNL.out]; omega)⟩
  obtain ⟨gF, oF, rfl, hgF, cf0⟩ := HU3.out.at hf0
  rw [Nat.add_zero] at cf0
  have HF0 := Lib.hid hf0
  have HCF : Hid _ := Lib.hid cf0
  have HGF := Lib.hid hgF
  have HBF : Hid (BadFit d l ct ↔ (f0 = 1000000000 ∨ 2 * ct < (nm : Int))) := Lib.hid (by
    unfold BadFit
    rw [List.getD_eq_getElem?_getD, HF0.out, HNM.out]
    exact Iff.rfl)
  have cf0' := (HB4.out.cell (p := ⟨gF, oF, none⟩) hgF).trans cf0
  have hF4 := HF3.out.below HB4.out HF3.out.lt
  have hK4 := HK0.out.below HB4.out HK0.out.lt
  have x1 := cellOf hF4 1 (x := .int .i64 ct) rfl
  have x2 := cellOf hF4 2 (x := .slice (some ⟨gF, oF, none⟩) (n1 + 1) cu) rfl
  have y0 := cellOf hK4 0 (x := .slice Am nm cm) rfl
  have kw1 : IntKind.i64.wrap (ct + ct) = 2 * ct := by rw [show ct + ct = 2 * ct by omega]; exact IntWalk.i64_in _ ⟨by omega, by omega⟩
  have in1 : (0 : Int) < (n1 : Int) + 1 := by omega
  clear hf0 cf0 hgF hF4 hK4 d0 d1 d2 d3 d4
  go_cut [56] (fun s56 wx => ∃ b, s56 = .bool b ∧ (b = true ↔ BadFit d l ct) ∧ Below w4.heap.size w4 wx)
  case first =>
    by_cases c1 : f0 = 1000000000
    · have HBt : Hid (BadFit d l ct) := Lib.hid (HBF.out.2 (.inl c1))
      subst c1
      clear HBF
      go_wp2_with fail
      go_meet
      exact ⟨true, rfl, ⟨fun _ => HBt.out, fun _ => rfl⟩, Below.refl _ _⟩
    · have c1' : (f0 == 1000000000) = false := by simpa using c1
      by_cases c2 : 2 * ct < (nm : Int)
      · have HBt : Hid (BadFit d l ct) := Lib.hid (HBF.out.2 (.inr c2))
        clear HBF
        go_wp2_with fail
        go_meet
        exact ⟨true, rfl, ⟨fun _ => HBt.out, fun _ => rfl⟩, Below.refl _ _⟩
      · have HBt : Hid (¬ BadFit d l ct) := Lib.hid fun h => by rcases HBF.out.1 h with h | h <;> contradiction
        clear HBF
        go_wp2_with fail
        go_meet
        exact ⟨false, rfl, ⟨fun h => (by cases h), fun h => absurd h HBt.out⟩, Below.refl _ _⟩
  case rest =>
  obtain ⟨b, h56, hbad, hb45⟩ := hcut
  obtain ⟨w5, rfl⟩ : ∃ w5, w5 = wc := ⟨wc, rfl⟩
  have H56 := Lib.hid h56
  have HBad := Lib.hid hbad
  have HB45 := Lib.hid hb45
  clear h56 hbad hb45 x1 x2 y0 cf0' kw1 in1
  go_upto_region 11 with fail
  go_cut [8] (fun s8 wx => RdCut d l s ct w3 b9 s8 wx)
  case first =>
    have h56 := H56.out
    subst h56
    have hT5 := HT4.out.below HB45.out HT4.out.lt
    have HB35 := Lib.hid (HB4.out.trans (HB45.out.mono HB4.out.size))
    cases b
    · have HT5 := Lib.hid hT5
      clear hT5
      go_wp2_with fail
      go_meet
      exact ⟨false, rfl, HBad.out, HT5.out, HB35.out⟩
    · have g0 := hT5.frozen 0
      have t0 := cellOf hT5 0 (x := .bool true) rfl
      have g1 := hT5.frozen 1
      have t1 := cellOf hT5 1 (x := .int .i64 s) rfl
      have HT6 := Lib.hid ((hT5.put 0 (.bool false)).put 1 (.int .i64 0))
      have HB36 := Lib.hid (below_far (j := 1) (v := .int .i64 0) (below_far (j := 0) (v := .bool false) HB35.out HZ9.out) HZ9.out)
      clear hT5
      go_wp2_with fail
      go_meet
      exact ⟨true, rfl, ⟨fun _ => (by have h9 := HBad.out; simpa using h9), fun _ => rfl⟩, HT6.out, HB36.out⟩
  case rest =>
  obtain ⟨bad, h8, hbad, hT6, hb36⟩ := hcut
  obtain ⟨w6, rfl⟩ : ∃ w6, w6 = wc := ⟨wc, rfl⟩
  obtain ⟨code, hcode⟩ : ∃ c : Int, (if bad then (4 : Int) else 0) = c := ⟨_, rfl⟩
  obtain ⟨S0, hS0⟩ : ∃ c : Int, (if bad then (0 : Int) else s) = c := ⟨_, rfl⟩
  rw [hcode] at h8
  rw [hS0] at hT6
  have HCode := Lib.hid hcode
  have HS0 := Lib.hid hS0
  have HBad2 := Lib.hid hbad
  have HT6 := Lib.hid hT6
  have HB36 := Lib.hid hb36
  subst h8
  obtain ⟨errs, herrs⟩ : ∃ e, (if bad then List.replicate d.loops.length lostD else errsD d.marks l d.loops.length) = e := ⟨_, rfl⟩
  obtain ⟨moves, hmoves⟩ : ∃ m, movesD d.loops (Qd d) errs = m := ⟨_, rfl⟩
  have HErrs := Lib.hid herrs
  have HMoves := Lib.hid hmoves
  have HStart : Hid (RdLoop w3 b9 S0 bad lim errs moves 0 w6) := Lib.hid ⟨_, _, ⟨HB36.out, World.ownsRow_nil _ _ _ _, World.ownsRow_nil _ _ _ _, fun g hg => by cases hg⟩, by rw [gTo_zero bad hli.1]; exact HT6.out⟩
  have HEA : Hid (∀ k, k < n1 → errs[k]? = some (if bad then lostD else errD d.marks l k)) := Lib.hid fun k hk => by
    rw [← HErrs.out]
    cases bad
    · exact errsD_at (by rw [HN1.out]; exact hk)
    · exact errs_rep (by rw [HN1.out]; exact hk)
  have HMA : Hid (∀ k lp x, d.loops[k]? = some lp → errs[k]? = some x → moves[k]? = some (moveD lp (Qd d k) x)) := Lib.hid fun k lp x hlp hx => by
    rw [← HMoves.out, movesD_at hlp, get_getD hx]
  clear hcode hS0 hbad hT6 hb36 herrs hmoves HBad H56 HB45 HBF HT4
  obtain ⟨i0, hi0, hz0, hz1, hz2⟩ := info_parts infoInt0
  go_wp2
  go_loopw [10, 11, 12, 13, 14, 15, 16] (fun iq _ _ _ _ _ _ wr => ∃ k : Nat, k ≤ n1 ∧ iq = .int .i64 k ∧ RdLoop w3 b9 S0 bad lim errs moves k wr) (fun iq _ _ _ _ _ _ _ => n1 - (intOf iq).toNat)
  case atStart => exact ⟨0, Nat.zero_le _, rfl, HStart.out⟩
  case round =>
    clear HStart
    obtain ⟨k, hk, rfl, u, v, htw, hT⟩ := hrel
    obtain ⟨wo, rfl⟩ : ∃ wo, wo = wr := ⟨_, rfl⟩
    have hbo := htw.1
    have HTw := Lib.hid htw
    have HT := Lib.hid hT
    have HBo := Lib.hid hbo
    have hK0 := HK0.out.below hbo HK0.out.lt
    have hF := HF3.out.below hbo HF3.out.lt
    have HK0o := Lib.hid hK0
    have HFo := Lib.hid hF
    have HDo := Lib.hid (H3.out.later hbo)
    have d1 := cellOf hK0 1 (x := .slice Al n1 cl) rfl
    clear hT htw
    by_cases hlt : k < n1
    · obtain ⟨lp, hlp⟩ : ∃ lp, d.loops[k]? = some lp := ⟨_, List.getElem?_eq_getElem (by rw [HN1.out]; exact hlt)⟩
      have HLp := Lib.hid hlp
      have hek := HEA.out k hlt
      have HEk := Lib.hid hek
      have ik : (k : Int) < (n1 : Int) := by omega
      have kk : IntKind.i64.wrap ((k : Int) + 1) = (k : Int) + 1 := IntWalk.i64_in _ ⟨by omega, by omega⟩
      have hk5 : k + 1 ≤ 1000000 := by have := hmm.2; omega
      have hk6 : (errs.take k).length = k := by
        rw [List.length_take]
        have := (List.getElem?_eq_some_iff.1 hek).1
        omega
      have hk7 : (moves.take k).length = k := by
        rw [List.length_take]
        have := (List.getElem?_eq_some_iff.1 (HMA.out k lp _ hlp hek)).1
        omega
      have HL6 := Lib.hid hk6
      have HL7 := Lib.hid hk7
      obtain ⟨Aux, cux, rfl⟩ : ∃ A c, u = .slice A k c := by
        obtain ⟨A, c, e⟩ := ownsRow_form HTw.out.2.1
        rw [hk6] at e
        exact ⟨A, c, e⟩
      obtain ⟨Avx, cvx, rfl⟩ : ∃ A c, v = .slice A k c := by
        obtain ⟨A, c, e⟩ := ownsRow_form HTw.out.2.2.1
        rw [hk7] at e
        exact ⟨A, c, e⟩
      clear hk6 hk7 hek hlp
      cases hbb : bad
      case true =>
        subst hbb
        have hc4 : code = 4 := HCode.out.symm
        subst hc4
        have HX : Hid (errs[k]? = some lostD) := Lib.hid HEk.out
        have HU : Hid (moves[k]? = some 0) := Lib.hid (by rw [HMA.out k lp _ HLp.out HX.out, move_lost])
        have HGn : Hid (gTo true lim errs (k + 1) = false) := Lib.hid (gTo_out HX.out (by unfold lostD; omega))
        obtain ⟨gk, hgk⟩ : ∃ g, gTo true lim errs k = g := ⟨_, rfl⟩
        rw [hgk] at HT
        clear hgk
        have t0 := cellOf HT.out 0 (x := .bool gk) rfl
        have g0 := HT.out.frozen 0
        obtain ⟨wa, ea, hTa, twa⟩ : ∃ wa, wo.setCell ⟨b9, 0, none⟩ (.bool false) = wa ∧ Blk wa b9 75 #[.bool false, .int .i64 S0, .slice Aux k cux, .slice Avx k cvx] ∧ Two w3 (.slice Aux k cux) (.slice Avx k cvx) (errs.take k) (moves.take k) wa := ⟨_, rfl, HT.out.put 0 _, HTw.out.set HT.out HZ9.out⟩
        have EA := Lib.hid ea
        have HTa9 := Lib.hid hTa
        have Htwa9 := Lib.hid twa
        clear ea hTa twa hbo hK0 hF
        go_upto_region 25 with fail
        rw [EA.out]
        clear t0 g0 EA
        have hTa := HTa9.out
        have twa := Htwa9.out
        have t2 := cellOf hTa 2 (x := .slice Aux k cux) rfl
        have t3 := cellOf hTa 3 (x := .slice Avx k cvx) rfl
        have HTa := Lib.hid hTa
        have HTwa := Lib.hid twa
        clear hTa twa
        go_quiet (fail)
        obtain ⟨wb, eb⟩ : ∃ wb, wa.drewN nq = wb := ⟨_, rfl⟩
        have htwb : Two w3 (.slice Aux k cux) (.slice Avx k cvx) (errs.take k) (moves.take k) (wa.drewN nq) := ⟨below_drewN HTwa.out.1 _, HTwa.out.2.1, HTwa.out.2.2.1, HTwa.out.2.2.2⟩
        have hTb : Blk (wa.drewN nq) b9 75 #[.bool false, .int .i64 S0, .slice Aux k cux, .slice Avx k cvx] := HTa.out
        rw [eb] at htwb hTb ⊢
        have HTb := Lib.hid hTb
        have HTwb := Lib.hid htwb
        have HUo : Hid (wb.ownsRow w3.heap.size 3 1 (.slice Aux k cux) k ((errs.take k).map (Value.int .i64))) := by have h1 := htwb.2.1; unfold OInts at h1; rwa [HL6.out] at h1
        have hzb : w3.heap.size ≤ wb.heap.size := htwb.1.size
        clear eb htwb hTb t2 t3 HTwa HTa
        go_upto_region 27 with (at_builtin; refine wpList_append_lies _ rfl _ _ 24 rfl w3.heap.size 3 i0 _ 1 8 sliceInts hi0 hz0 hz1 hz2 rfl (by decide) (.slice Aux k cux) k _ rfl (HUo.out.alloc _) ⟨wb.heap.size, 0, none⟩ 1 1 [.int .i64 (1000000000)] rfl rfl (cells_new _ _ _) (by simp [Value.oneCell']) (by omega) (by simp only [maxLen]; omega) (by omega) (by simp; omega) (wb.heap.size + 1) (by simp) ?_; intro g6 c6 w8 hown hgrow hat hlt6; have HT8 := Lib.hid (HTwb.out.left HL6.out hown hgrow hat); have hK8 := HTb.out.grew (Grew.of_append HUo.out hgrow) (by decide); have f8 := hK8.frozen 2; have p8 := cellOf hK8 2 (x := .slice Aux k cux) rfl; have HK8 := Lib.hid hK8; clear hown hgrow hat hK8)
        obtain ⟨w9, e9, hK9, htw9⟩ : ∃ w9, w8.setCell ⟨b9, 2, none⟩ (.slice (some ⟨g6, 0, none⟩) (k + 1) c6) = w9 ∧ Blk w9 b9 75 #[.bool false, .int .i64 S0, .slice (some ⟨g6, 0, none⟩) (k + 1) c6, .slice Avx k cvx] ∧ Two w3 (.slice (some ⟨g6, 0, none⟩) (k + 1) c6) (.slice Avx k cvx) (errs.take k ++ [1000000000]) (moves.take k) w9 := ⟨_, rfl, HK8.out.put 2 _, HT8.out.set HK8.out HZ9.out⟩
        rw [e9]
        have HK9 := Lib.hid hK9
        have HTw9 := Lib.hid htw9
        have HVo : Hid (w9.ownsRow w3.heap.size 3 1 (.slice Avx k cvx) k ((moves.take k).map (Value.int .i64))) := by have h1 := htw9.2.2.1; unfold OInts at h1; rwa [HL7.out] at h1
        have hz9 : w3.heap.size ≤ w9.heap.size := htw9.1.size
        clear e9 hK9 htw9 f8 p8 HT8 HK8 hlt6 HTb HTwb HUo
        go_wp2_with (at_builtin; refine wpList_append_lies _ rfl _ _ 24 rfl w3.heap.size 3 i0 _ 1 8 sliceInts hi0 hz0 hz1 hz2 rfl (by decide) (.slice Avx k cvx) k _ rfl (HVo.out.alloc _) ⟨w9.heap.size, 0, none⟩ 1 1 [.int .i64 (0)] rfl rfl (cells_new _ _ _) (by simp [Value.oneCell']) (by omega) (by simp only [maxLen]; omega) (by omega) (by simp; omega) (w9.heap.size + 1) (by simp) ?_; intro g7 c7 w10 hown hgrow hat hlt7; have HT10 := Lib.hid ((HTw9.out.swap).left HL7.out hown hgrow hat); have hK10 := HK9.out.grew (Grew.of_append HVo.out hgrow) (by decide); have f10 := hK10.frozen 3; have p10 := cellOf hK10 3 (x := .slice Avx k cvx) rfl; have HK10 := Lib.hid hK10; clear hown hgrow hat hK10)
        go_roundw
        case rel => exact ⟨k + 1, by omega, by go_num, _, _, by rw [take_one HX.out, take_one HU.out]; exact (HT10.out.swap).set HK10.out HZ9.out, by rw [HGn.out]; exact HK10.out.put 3 _⟩
        case measure => simp [intOf]; omega
      case false =>
        subst hbb
        have hc4 : code = 0 := HCode.out.symm
        subst hc4
        obtain ⟨fk, hfk⟩ : ∃ x, l[k + 1]? = some x := ⟨_, List.getElem?_eq_getElem (by rw [HNL.out]; omega)⟩
        obtain ⟨gF', oF', hA', hgF', cfk⟩ := HU3.out.at hfk
        injection hA' with hA'
        injection hA' with hA1 hA2 hA3
        subst hA1
        subst hA2
        have cfk' := (hbo.cell (p := ⟨gF, oF + (k + 1), none⟩) hgF').trans cfk
        have x2 := cellOf hF 2 (x := .slice (some ⟨gF, oF, none⟩) (n1 + 1) cu) rfl
        have HFk := Lib.hid hfk
        have ik1 : (k : Int) + 1 < (n1 : Int) + 1 := by omega
        have ik0 : (0 : Int) ≤ (k : Int) + 1 := by omega
        have tn : ((k : Int) + 1).toNat = k + 1 := by omega
        clear hA3 hgF' cfk
        by_cases hfl : fk = 1000000000
        · subst hfl
          have HX : Hid (errs[k]? = some lostD) := Lib.hid (by
            have h9 := HEk.out
            simp only [Bool.false_eq_true, if_false] at h9
            rw [h9]
            unfold errD
            rw [if_pos (show l.getD (k + 1) 0 = lostD from get_getD HFk.out)])
          have HU : Hid (moves[k]? = some 0) := Lib.hid (by rw [HMA.out k lp _ HLp.out HX.out, move_lost])
          clear hfk
          have HGn : Hid (gTo false lim errs (k + 1) = false) := Lib.hid (gTo_out HX.out (by unfold lostD; omega))
          obtain ⟨gk, hgk⟩ : ∃ g, gTo false lim errs k = g := ⟨_, rfl⟩
          rw [hgk] at HT
          clear hgk
          have t0 := cellOf HT.out 0 (x := .bool gk) rfl
          have g0 := HT.out.frozen 0
          obtain ⟨wa, ea, hTa, twa⟩ : ∃ wa, wo.setCell ⟨b9, 0, none⟩ (.bool false) = wa ∧ Blk wa b9 75 #[.bool false, .int .i64 S0, .slice Aux k cux, .slice Avx k cvx] ∧ Two w3 (.slice Aux k cux) (.slice Avx k cvx) (errs.take k) (moves.take k) wa := ⟨_, rfl, HT.out.put 0 _, HTw.out.set HT.out HZ9.out⟩
          have EA := Lib.hid ea
          have HTa9 := Lib.hid hTa
          have Htwa9 := Lib.hid twa
          clear ea hTa twa hbo hK0 hF
          go_upto_region 25 with fail
          rw [EA.out]
          clear t0 g0 EA
          have hTa := HTa9.out
          have twa := Htwa9.out
          have t2 := cellOf hTa 2 (x := .slice Aux k cux) rfl
          have t3 := cellOf hTa 3 (x := .slice Avx k cvx) rfl
          have HTa := Lib.hid hTa
          have HTwa := Lib.hid twa
          clear hTa twa
          go_quiet (fail)
          obtain ⟨wb, eb⟩ : ∃ wb, wa.drewN nq = wb := ⟨_, rfl⟩
          have htwb : Two w3 (.slice Aux k cux) (.slice Avx k cvx) (errs.take k) (moves.take k) (wa.drewN nq) := ⟨below_drewN HTwa.out.1 _, HTwa.out.2.1, HTwa.out.2.2.1, HTwa.out.2.2.2⟩
          have hTb : Blk (wa.drewN nq) b9 75 #[.bool false, .int .i64 S0, .slice Aux k cux, .slice Avx k cvx] := HTa.out
          rw [eb] at htwb hTb ⊢
          have HTb := Lib.hid hTb
          have HTwb := Lib.hid htwb
          have HUo : Hid (wb.ownsRow w3.heap.size 3 1 (.slice Aux k cux) k ((errs.take k).map (Value.int .i64))) := by have h1 := htwb.2.1; unfold OInts at h1; rwa [HL6.out] at h1
          have hzb : w3.heap.size ≤ wb.heap.size := htwb.1.size
          clear eb htwb hTb t2 t3 HTwa HTa
          go_upto_region 27 with (at_builtin; refine wpList_append_lies _ rfl _ _ 24 rfl w3.heap.size 3 i0 _ 1 8 sliceInts hi0 hz0 hz1 hz2 rfl (by decide) (.slice Aux k cux) k _ rfl (HUo.out.alloc _) ⟨wb.heap.size, 0, none⟩ 1 1 [.int .i64 (1000000000)] rfl rfl (cells_new _ _ _) (by simp [Value.oneCell']) (by omega) (by simp only [maxLen]; omega) (by omega) (by simp; omega) (wb.heap.size + 1) (by simp) ?_; intro g6 c6 w8 hown hgrow hat hlt6; have HT8 := Lib.hid (HTwb.out.left HL6.out hown hgrow hat); have hK8 := HTb.out.grew (Grew.of_append HUo.out hgrow) (by decide); have f8 := hK8.frozen 2; have p8 := cellOf hK8 2 (x := .slice Aux k cux) rfl; have HK8 := Lib.hid hK8; clear hown hgrow hat hK8)
          obtain ⟨w9, e9, hK9, htw9⟩ : ∃ w9, w8.setCell ⟨b9, 2, none⟩ (.slice (some ⟨g6, 0, none⟩) (k + 1) c6) = w9 ∧ Blk w9 b9 75 #[.bool false, .int .i64 S0, .slice (some ⟨g6, 0, none⟩) (k + 1) c6, .slice Avx k cvx] ∧ Two w3 (.slice (some ⟨g6, 0, none⟩) (k + 1) c6) (.slice Avx k cvx) (errs.take k ++ [1000000000]) (moves.take k) w9 := ⟨_, rfl, HK8.out.put 2 _, HT8.out.set HK8.out HZ9.out⟩
          rw [e9]
          have HK9 := Lib.hid hK9
          have HTw9 := Lib.hid htw9
          have HVo : Hid (w9.ownsRow w3.heap.size 3 1 (.slice Avx k cvx) k ((moves.take k).map (Value.int .i64))) := by have h1 := htw9.2.2.1; unfold OInts at h1; rwa [HL7.out] at h1
          have hz9 : w3.heap.size ≤ w9.heap.size := htw9.1.size
          clear e9 hK9 htw9 f8 p8 HT8 HK8 hlt6 HTb HTwb HUo
          go_wp2_with (at_builtin; refine wpList_append_lies _ rfl _ _ 24 rfl w3.heap.size 3 i0 _ 1 8 sliceInts hi0 hz0 hz1 hz2 rfl (by decide) (.slice Avx k cvx) k _ rfl (HVo.out.alloc _) ⟨w9.heap.size, 0, none⟩ 1 1 [.int .i64 (0)] rfl rfl (cells_new _ _ _) (by simp [Value.oneCell']) (by omega) (by simp only [maxLen]; omega) (by omega) (by simp; omega) (w9.heap.size + 1) (by simp) ?_; intro g7 c7 w10 hown hgrow hat hlt7; have HT10 := Lib.hid ((HTw9.out.swap).left HL7.out hown hgrow hat); have hK10 := HK9.out.grew (Grew.of_append HVo.out hgrow) (by decide); have f10 := hK10.frozen 3; have p10 := cellOf hK10 3 (x := .slice Avx k cvx) rfl; have HK10 := Lib.hid hK10; clear hown hgrow hat hK10)
          go_roundw
          case rel => exact ⟨k + 1, by omega, by go_num, _, _, by rw [take_one HX.out, take_one HU.out]; exact (HT10.out.swap).set HK10.out HZ9.out, by rw [HGn.out]; exact HK10.out.put 3 _⟩
          case measure => simp [intOf]; omega
        · have hfl2 : (fk != 1000000000) = true := by simpa using hfl
          have hfl3 : ¬ fk = lostD := hfl
          -- the error
          obtain ⟨m0, hm0⟩ : ∃ x, d.marks[0]? = some x := ⟨_, List.getElem?_eq_getElem (by rw [HNM.out]; omega)⟩
          obtain ⟨mk, hmk⟩ : ∃ x, d.marks[k + 1]? = some x := ⟨_, List.getElem?_eq_getElem (by rw [HNM.out]; omega)⟩
          obtain ⟨gm, om, rfl, hgm, cm0⟩ := H3.out.marks.at hm0
          obtain ⟨gm', om', hA', hgm', cmk⟩ := H3.out.marks.at hmk
          injection hA' with hA'
          injection hA' with hA1 hA2 hA3
          subst hA1
          subst hA2
          rw [Nat.add_zero] at cm0
          have cm0' := (hbo.cell (p := ⟨gm, om, none⟩) hgm).trans cm0
          have cmk' := (hbo.cell (p := ⟨gm, om + (k + 1), none⟩) hgm').trans cmk
          have cf0' := (hbo.cell (p := ⟨gF, oF, none⟩) HGF.out).trans HCF.out
          have d0 := cellOf hK0 0 (x := .slice (some ⟨gm, om, none⟩) nm cm) rfl
          have rm0 := HMR.out m0 (List.mem_of_getElem? hm0)
          have rmk := HMR.out mk (List.mem_of_getElem? hmk)
          have rf0 : -100000 ≤ f0 ∧ f0 ≤ 200000 := by
            rcases HFR.out f0 (List.mem_of_getElem? HF0.out) with h9 | h9
            · exact absurd (HBad2.out.2 (.inl (by rw [get_getD HF0.out]; exact h9))) (by simp)
            · exact h9
          have rfk : -100000 ≤ fk ∧ fk ≤ 200000 := by
            rcases HFR.out fk (List.mem_of_getElem? hfk) with h9 | h9
            · exact absurd h9 hfl3
            · exact h9
          obtain ⟨x, hx⟩ : ∃ x, fk - mk - (f0 - m0) = x := ⟨_, rfl⟩
          have kw1 : IntKind.i64.wrap (fk - mk) = fk - mk := IntWalk.i64_in _ ⟨by omega, by omega⟩
          have kw2 : IntKind.i64.wrap (f0 - m0) = f0 - m0 := IntWalk.i64_in _ ⟨by omega, by omega⟩
          have kw3 : IntKind.i64.wrap (fk - mk - (f0 - m0)) = x := by rw [hx]; exact IntWalk.i64_in _ ⟨by omega, by omega⟩
          have hxb : x ≤ 200000000 ∧ -200000000 ≤ x := by omega
          have hxl : ¬ x = 1000000000 := by omega
          have hxl2 : (x == 1000000000) = false := by simpa using hxl
          have HX : Hid (errs[k]? = some x) := Lib.hid (by
            have h9 := HEk.out
            simp only [Bool.false_eq_true, if_false] at h9
            rw [h9]
            unfold errD
            rw [get_getD HFk.out, if_neg hfl3, get_getD HF0.out, get_getD hm0, get_getD hmk]
            exact congrArg some (by omega))
          have HMv := Lib.hid (HMA.out k lp _ HLp.out HX.out)
          have inm0 : (0 : Int) < (nm : Int) := by omega
          have inm1 : (k : Int) + 1 < (nm : Int) := by omega
          have in1 : (0 : Int) < (n1 : Int) + 1 := by omega
          clear hm0 hmk cm0 cmk hA3 hgm hgm' hfk hx rm0 rmk rf0 rfk hfl hfl3
          go_upto_region 16 with fail
          go_quiet (fail)
          obtain ⟨wi, ei⟩ : ∃ wi, wo.drewN nq = wi := ⟨_, rfl⟩
          have hti := HT.out
          have htwi : Two w3 (.slice Aux k cux) (.slice Avx k cvx) (errs.take k) (moves.take k) (wo.drewN nq) := ⟨below_drewN HTw.out.1 _, HTw.out.2.1, HTw.out.2.2.1, HTw.out.2.2.2⟩
          have hti : Blk (wo.drewN nq) b9 75 #[.bool (gTo false lim errs k), .int .i64 S0, .slice Aux k cux, .slice Avx k cvx] := HT.out
          rw [ei] at htwi hti ⊢
          have HTi := Lib.hid hti
          have HTwi := Lib.hid htwi
          have HBi := Lib.hid htwi.1
          have HDi := Lib.hid (H3.out.later htwi.1)
          have HK0i := Lib.hid (HK0.out.below htwi.1 HK0.out.lt)
          clear ei hti htwi cf0' cm0' cmk' cfk' x2 d0 d1 kw1 kw2 kw3 HTw HT hK0 hF hbo HBo HDo
          go_wp2
          go_loopw [13, 14] (fun uq tq wq => ∃ t : Nat, t ≤ np ∧ tq = .int .i64 t ∧ OInts wi.heap.size wq uq (histD (d.copies.take t) k) ∧ Below wi.heap.size wi wq) (fun _ tq _ => np - (intOf tq).toNat)
          case atStart => exact ⟨0, Nat.zero_le _, rfl, World.ownsRow_nil _ _ _ _, Below.refl _ _⟩
          case round =>
            obtain ⟨t, ht, rfl, hu, hbi⟩ := hrel
            have HBr := Lib.hid hbi
            have hzr := hbi.size
            have hlen : (histD (d.copies.take t) k).length = t := by unfold histD; rw [List.length_map, List.length_take, HNP.out]; omega
            have HLen := Lib.hid hlen
            have HU := Lib.hid hu
            obtain ⟨Aq, cq, rfl⟩ : ∃ A c, u13 = .slice A t c := by
              obtain ⟨A, c, e⟩ := ownsRow_form hu
              rw [hlen] at e
              exact ⟨A, c, e⟩
            have HR : Hid (wr.ownsRow wi.heap.size 3 1 (.slice Aq t cq) t ((histD (d.copies.take t) k).map (Value.int .i64))) := by have h1 := hu; unfold OInts at h1; rwa [hlen] at h1
            have hK0r := HK0i.out.below hbi HK0i.out.lt
            have d4 := cellOf hK0r 4 (x := .slice Ap np cp) rfl
            clear hu hlen
            by_cases htl : t < np
            · obtain ⟨c, hc⟩ : ∃ c, d.copies[t]? = some c := ⟨_, List.getElem?_eq_getElem (by rw [HNP.out]; exact htl)⟩
              have HC := Lib.hid hc
              obtain ⟨gP, oP, ve, vm, rfl, hgP, -, -, -, cp3, -, hvm⟩ := HDi.out.at hc
              have cp3' := (hbi.cell (p := ⟨gP, oP + t * 4 + 3, none⟩) hgP).trans cp3
              have hcl : c.moves.length = n1 := by rw [← HN1.out]; exact (HOk.out.each c (List.mem_of_getElem? hc)).2.1
              obtain ⟨Av2, cv2, rfl⟩ : ∃ A c, vm = .slice A n1 c := by
                obtain ⟨A, c9, e⟩ := rd_form hvm
                exact ⟨A, c9, by rw [← hcl]; exact e⟩
              obtain ⟨y, hy⟩ : ∃ y, c.moves[k]? = some y := ⟨_, List.getElem?_eq_getElem (by rw [hcl]; exact hlt)⟩
              obtain ⟨gV, oV, rfl, hgV, cv⟩ := hvm.at hy
              have cv' := (hbi.cell (p := ⟨gV, oV + k, none⟩) hgV).trans cv
              have HY := Lib.hid (get_getD hy)
              have it : (t : Int) < (np : Int) := by omega
              clear hc hgP cp3 hvm hcl hy hgV cv hbi hK0r
              go_wp2_with (at_builtin; refine wpList_append_lies _ rfl _ _ 24 rfl wi.heap.size 3 i0 _ 1 8 sliceInts hi0 hz0 hz1 hz2 rfl (by decide) (.slice Aq t cq) t _ rfl (HR.out.alloc _) ⟨wr.heap.size, 0, none⟩ 1 1 [.int .i64 y] rfl rfl (cells_new _ _ _) (by simp [Value.oneCell']) (by omega) (by simp only [maxLen]; omega) (by omega) (by simp; omega) (wr.heap.size + 1) (by simp) ?_; intro g8 c8 w7 hown hgrow hat hlt7; have HN7 : Hid (OInts wi.heap.size w7 (.slice (some ⟨g8, 0, none⟩) (t + 1) c8) (histD (d.copies.take (t + 1)) k) ∧ Below wi.heap.size wi w7) := Lib.hid ⟨by rw [histD_next HC.out, HY.out]; unfold OInts; rw [List.length_append, HLen.out, List.map_append]; exact hown, (HBr.out.alloc hzr _).grown hgrow (by simp; omega) fun j hj => (HR.out.lt j hj).1⟩; clear hown hgrow hat hlt7)
              go_roundw
              case rel => exact ⟨t + 1, by omega, by go_num, HN7.out.1, HN7.out.2⟩
              case measure => simp [intOf]; omega
            · obtain rfl : np = t := by omega
              have htt : d.copies.take np = d.copies := List.take_of_length_le (by rw [HNP.out]; exact Nat.le_refl _)
              have hu9 := HU.out
              rw [htt] at hu9
              have hlh : (histD d.copies k).length = np := by unfold histD; rw [List.length_map, HNP.out]
              have CD := refDecided_any lp (HOk.out.loops lp (List.mem_of_getElem? HLp.out)) (histD d.copies k) (hist_bound HOk.out k) (by rw [hlh]; exact hp5) (.slice Aq np cq) x hxb wr (Rd.own hu9 (own_le hu9)) np hlh
              rw [move_is HLp.out hxl] at CD
              unfold LoopD.val at CD
              have CD := Lib.hid CD
              obtain ⟨gL, oL, rfl, hgL, l0, l1, l2, l3⟩ := RLoops.at HDi.out.loops HLp.out
              have l0' := (hbi.cell (p := ⟨gL, oL + k * 4, none⟩) hgL).trans l0
              have l1' := (hbi.cell (p := ⟨gL, oL + k * 4 + 1, none⟩) hgL).trans l1
              have l2' := (hbi.cell (p := ⟨gL, oL + k * 4 + 2, none⟩) hgL).trans l2
              have l3' := (hbi.cell (p := ⟨gL, oL + k * 4 + 3, none⟩) hgL).trans l3
              have d1 := cellOf hK0r 1 (x := .slice (some ⟨gL, oL, none⟩) n1 cl) rfl
              obtain ⟨mv, hmv⟩ : ∃ mv, moveD lp (Qd d k) x = mv := ⟨_, rfl⟩
              rw [hmv] at CD HMv
              clear htt hu9 hlh l0 l1 l2 l3 hgL hbi hK0r HU HR hmv
              go_wp2_with fail
              refine CD.out.mono ?_
              rintro _ wj ⟨rfl, hbj⟩
              have hbij := HBr.out.trans (hbj.mono HBr.out.size)
              have hb3j := HBi.out.trans (hbij.mono HBi.out.size)
              have hKj := HK0.out.below hb3j HK0.out.lt
              have d3 := cellOf hKj 3 (x := .int .i64 lim) rfl
              have hTj := HTi.out.below hbij HTi.out.lt
              have htwj : Two w3 (.slice Aux k cux) (.slice Avx k cvx) (errs.take k) (moves.take k) wj := ⟨hb3j, ownsRow_below HTwi.out.2.1 hbij, ownsRow_below HTwi.out.2.2.1 hbij, HTwi.out.2.2.2⟩
              have HTj := Lib.hid hTj
              have HTwj := Lib.hid htwj
              clear hbj hbij hb3j hKj hTj htwj l0' l1' l2' l3' d1 d4 CD HTi HTwi HBi HDi HK0i HBr
              by_cases hin : x ≤ lim ∧ -lim ≤ x
              · have CBy := Lib.hid (beyond_in x lim hli hin wj)
                have HGn : Hid (gTo false lim errs (k + 1) = gTo false lim errs k) := Lib.hid (gTo_in HX.out hin)
                obtain ⟨gk, hgk⟩ : ∃ g, gTo false lim errs k = g := ⟨_, rfl⟩
                rw [hgk] at HGn HTj
                clear hgk
                go_wp2_with fail
                refine CBy.out.mono ?_
                rintro _ _ ⟨rfl, rfl⟩
                go_upto_region 25 with fail
                have hTa := HTj.out
                have twa := HTwj.out
                have t2 := cellOf hTa 2 (x := .slice Aux k cux) rfl
                have t3 := cellOf hTa 3 (x := .slice Avx k cvx) rfl
                have HTa := Lib.hid hTa
                have HTwa := Lib.hid twa
                clear hTa twa
                go_quiet (fail)
                obtain ⟨wb, eb⟩ : ∃ wb, wj.drewN nq = wb := ⟨_, rfl⟩
                have htwb : Two w3 (.slice Aux k cux) (.slice Avx k cvx) (errs.take k) (moves.take k) (wj.drewN nq) := ⟨below_drewN HTwa.out.1 _, HTwa.out.2.1, HTwa.out.2.2.1, HTwa.out.2.2.2⟩
                have hTb : Blk (wj.drewN nq) b9 75 #[.bool gk, .int .i64 S0, .slice Aux k cux, .slice Avx k cvx] := HTa.out
                rw [eb] at htwb hTb ⊢
                have HTb := Lib.hid hTb
                have HTwb := Lib.hid htwb
                have HUo : Hid (wb.ownsRow w3.heap.size 3 1 (.slice Aux k cux) k ((errs.take k).map (Value.int .i64))) := by have h1 := htwb.2.1; unfold OInts at h1; rwa [HL6.out] at h1
                have hzb : w3.heap.size ≤ wb.heap.size := htwb.1.size
                clear eb htwb hTb t2 t3 HTwa HTa
                go_upto_region 27 with (at_builtin; refine wpList_append_lies _ rfl _ _ 24 rfl w3.heap.size 3 i0 _ 1 8 sliceInts hi0 hz0 hz1 hz2 rfl (by decide) (.slice Aux k cux) k _ rfl (HUo.out.alloc _) ⟨wb.heap.size, 0, none⟩ 1 1 [.int .i64 (x)] rfl rfl (cells_new _ _ _) (by simp [Value.oneCell']) (by omega) (by simp only [maxLen]; omega) (by omega) (by simp; omega) (wb.heap.size + 1) (by simp) ?_; intro g6 c6 w8 hown hgrow hat hlt6; have HT8 := Lib.hid (HTwb.out.left HL6.out hown hgrow hat); have hK8 := HTb.out.grew (Grew.of_append HUo.out hgrow) (by decide); have f8 := hK8.frozen 2; have p8 := cellOf hK8 2 (x := .slice Aux k cux) rfl; have HK8 := Lib.hid hK8; clear hown hgrow hat hK8)
                obtain ⟨w9, e9, hK9, htw9⟩ : ∃ w9, w8.setCell ⟨b9, 2, none⟩ (.slice (some ⟨g6, 0, none⟩) (k + 1) c6) = w9 ∧ Blk w9 b9 75 #[.bool gk, .int .i64 S0, .slice (some ⟨g6, 0, none⟩) (k + 1) c6, .slice Avx k cvx] ∧ Two w3 (.slice (some ⟨g6, 0, none⟩) (k + 1) c6) (.slice Avx k cvx) (errs.take k ++ [x]) (moves.take k) w9 := ⟨_, rfl, HK8.out.put 2 _, HT8.out.set HK8.out HZ9.out⟩
                rw [e9]
                have HK9 := Lib.hid hK9
                have HTw9 := Lib.hid htw9
                have HVo : Hid (w9.ownsRow w3.heap.size 3 1 (.slice Avx k cvx) k ((moves.take k).map (Value.int .i64))) := by have h1 := htw9.2.2.1; unfold OInts at h1; rwa [HL7.out] at h1
                have hz9 : w3.heap.size ≤ w9.heap.size := htw9.1.size
                clear e9 hK9 htw9 f8 p8 HT8 HK8 hlt6 HTb HTwb HUo
                go_wp2_with (at_builtin; refine wpList_append_lies _ rfl _ _ 24 rfl w3.heap.size 3 i0 _ 1 8 sliceInts hi0 hz0 hz1 hz2 rfl (by decide) (.slice Avx k cvx) k _ rfl (HVo.out.alloc _) ⟨w9.heap.size, 0, none⟩ 1 1 [.int .i64 (mv)] rfl rfl (cells_new _ _ _) (by simp [Value.oneCell']) (by omega) (by simp only [maxLen]; omega) (by omega) (by simp; omega) (w9.heap.size + 1) (by simp) ?_; intro g7 c7 w10 hown hgrow hat hlt7; have HT10 := Lib.hid ((HTw9.out.swap).left HL7.out hown hgrow hat); have hK10 := HK9.out.grew (Grew.of_append HVo.out hgrow) (by decide); have f10 := hK10.frozen 3; have p10 := cellOf hK10 3 (x := .slice Avx k cvx) rfl; have HK10 := Lib.hid hK10; clear hown hgrow hat hK10)
                go_roundw
                case rel => exact ⟨k + 1, by omega, by go_num, _, _, by rw [take_one HX.out, take_one HMv.out]; exact (HT10.out.swap).set HK10.out HZ9.out, by rw [HGn.out]; exact HK10.out.put 3 _⟩
                case measure => simp [intOf]; omega
              · have CBy := Lib.hid (beyond_out x lim hli hin wj)
                have HGn : Hid (gTo false lim errs (k + 1) = false) := Lib.hid (gTo_out HX.out hin)
                obtain ⟨gk, hgk⟩ : ∃ g, gTo false lim errs k = g := ⟨_, rfl⟩
                rw [hgk] at HTj
                clear hgk
                have t0 := cellOf HTj.out 0 (x := .bool gk) rfl
                have g0 := HTj.out.frozen 0
                obtain ⟨wa, ea, hTa, twa⟩ : ∃ wa, wj.setCell ⟨b9, 0, none⟩ (.bool false) = wa ∧ Blk wa b9 75 #[.bool false, .int .i64 S0, .slice Aux k cux, .slice Avx k cvx] ∧ Two w3 (.slice Aux k cux) (.slice Avx k cvx) (errs.take k) (moves.take k) wa := ⟨_, rfl, HTj.out.put 0 _, HTwj.out.set HTj.out HZ9.out⟩
                have EA := Lib.hid ea
                have HTa9 := Lib.hid hTa
                have Htwa9 := Lib.hid twa
                clear ea hTa twa
                go_wp2_with fail
                refine CBy.out.mono ?_
                rintro _ _ ⟨rfl, rfl⟩
                go_upto_region 25 with fail
                rw [EA.out]
                clear t0 g0 EA
                have hTa := HTa9.out
                have twa := Htwa9.out
                have t2 := cellOf hTa 2 (x := .slice Aux k cux) rfl
                have t3 := cellOf hTa 3 (x := .slice Avx k cvx) rfl
                have HTa := Lib.hid hTa
                have HTwa := Lib.hid twa
                clear hTa twa
                go_quiet (fail)
                obtain ⟨wb, eb⟩ : ∃ wb, wa.drewN nq = wb := ⟨_, rfl⟩
                have htwb : Two w3 (.slice Aux k cux) (.slice Avx k cvx) (errs.take k) (moves.take k) (wa.drewN nq) := ⟨below_drewN HTwa.out.1 _, HTwa.out.2.1, HTwa.out.2.2.1, HTwa.out.2.2.2⟩
                have hTb : Blk (wa.drewN nq) b9 75 #[.bool false, .int .i64 S0, .slice Aux k cux, .slice Avx k cvx] := HTa.out
                rw [eb] at htwb hTb ⊢
                have HTb := Lib.hid hTb
                have HTwb := Lib.hid htwb
                have HUo : Hid (wb.ownsRow w3.heap.size 3 1 (.slice Aux k cux) k ((errs.take k).map (Value.int .i64))) := by have h1 := htwb.2.1; unfold OInts at h1; rwa [HL6.out] at h1
                have hzb : w3.heap.size ≤ wb.heap.size := htwb.1.size
                clear eb htwb hTb t2 t3 HTwa HTa
                go_upto_region 27 with (at_builtin; refine wpList_append_lies _ rfl _ _ 24 rfl w3.heap.size 3 i0 _ 1 8 sliceInts hi0 hz0 hz1 hz2 rfl (by decide) (.slice Aux k cux) k _ rfl (HUo.out.alloc _) ⟨wb.heap.size, 0, none⟩ 1 1 [.int .i64 (x)] rfl rfl (cells_new _ _ _) (by simp [Value.oneCell']) (by omega) (by simp only [maxLen]; omega) (by omega) (by simp; omega) (wb.heap.size + 1) (by simp) ?_; intro g6 c6 w8 hown hgrow hat hlt6; have HT8 := Lib.hid (HTwb.out.left HL6.out hown hgrow hat); have hK8 := HTb.out.grew (Grew.of_append HUo.out hgrow) (by decide); have f8 := hK8.frozen 2; have p8 := cellOf hK8 2 (x := .slice Aux k cux) rfl; have HK8 := Lib.hid hK8; clear hown hgrow hat hK8)
                obtain ⟨w9, e9, hK9, htw9⟩ : ∃ w9, w8.setCell ⟨b9, 2, none⟩ (.slice (some ⟨g6, 0, none⟩) (k + 1) c6) = w9 ∧ Blk w9 b9 75 #[.bool false, .int .i64 S0, .slice (some ⟨g6, 0, none⟩) (k + 1) c6, .slice Avx k cvx] ∧ Two w3 (.slice (some ⟨g6, 0, none⟩) (k + 1) c6) (.slice Avx k cvx) (errs.take k ++ [x]) (moves.take k) w9 := ⟨_, rfl, HK8.out.put 2 _, HT8.out.set HK8.out HZ9.out⟩
                rw [e9]
                have HK9 := Lib.hid hK9
                have HTw9 := Lib.hid htw9
                have HVo : Hid (w9.ownsRow w3.heap.size 3 1 (.slice Avx k cvx) k ((moves.take k).map (Value.int .i64))) := by have h1 := htw9.2.2.1; unfold OInts at h1; rwa [HL7.out] at h1
                have hz9 : w3.heap.size ≤ w9.heap.size := htw9.1.size
                clear e9 hK9 htw9 f8 p8 HT8 HK8 hlt6 HTb HTwb HUo
                go_wp2_with (at_builtin; refine wpList_append_lies _ rfl _ _ 24 rfl w3.heap.size 3 i0 _ 1 8 sliceInts hi0 hz0 hz1 hz2 rfl (by decide) (.slice Avx k cvx) k _ rfl (HVo.out.alloc _) ⟨w9.heap.size, 0, none⟩ 1 1 [.int .i64 (mv)] rfl rfl (cells_new _ _ _) (by simp [Value.oneCell']) (by omega) (by simp only [maxLen]; omega) (by omega) (by simp; omega) (w9.heap.size + 1) (by simp) ?_; intro g7 c7 w10 hown hgrow hat hlt7; have HT10 := Lib.hid ((HTw9.out.swap).left HL7.out hown hgrow hat); have hK10 := HK9.out.grew (Grew.of_append HVo.out hgrow) (by decide); have f10 := hK10.frozen 3; have p10 := cellOf hK10 3 (x := .slice Avx k cvx) rfl; have HK10 := Lib.hid hK10; clear hown hgrow hat hK10)
                go_roundw
                case rel => exact ⟨k + 1, by omega, by go_num, _, _, by rw [take_one HX.out, take_one HMv.out]; exact (HT10.out.swap).set HK10.out HZ9.out, by rw [HGn.out]; exact HK10.out.put 3 _⟩
                case measure => simp [intOf]; omega
    · obtain rfl : n1 = k := by omega
      have hel : errs.length = n1 := by
        rw [← HErrs.out, ← HN1.out]
        cases bad
        · exact errsD_len _ _ _
        · exact List.length_replicate
      have hme : moves.length = n1 := by rw [← HMoves.out, movesD_len, HN1.out]
      have het : errs.take n1 = errs := List.take_of_length_le (by omega)
      have hmt : moves.take n1 = moves := List.take_of_length_le (by omega)
      rw [het, hmt] at HTw
      obtain ⟨g9, hg9⟩ : ∃ g, gTo bad lim errs n1 = g := ⟨_, rfl⟩
      rw [hg9] at HT
      have HG9 := Lib.hid hg9
      have HET := Lib.hid het
      obtain ⟨Aux, cux, rfl⟩ : ∃ A c, u = .slice A n1 c := by
        obtain ⟨A, c, e⟩ := ownsRow_form HTw.out.2.1
        rw [hel] at e
        exact ⟨A, c, e⟩
      obtain ⟨Avx, cvx, rfl⟩ : ∃ A c, v = .slice A n1 c := by
        obtain ⟨A, c, e⟩ := ownsRow_form HTw.out.2.2.1
        rw [hme] at e
        exact ⟨A, c, e⟩
      have hb0l := hK0.lt
      have d4 := cellOf hK0 4 (x := .slice Ap np cp) rfl
      obtain ⟨ic, hic, hc0, hc1, hc2⟩ := info_parts infoRefCopy
      have HEmp : Hid ((wo.alloc (.cells #[] 75)).ownsRow wo.heap.size 75 4 (.slice (some ⟨wo.heap.size, 0, none⟩) 0 0) 0 []) := Lib.hid ⟨rfl, .inr ⟨wo.heap.size, 0, #[], rfl, Nat.le_refl _, Blk.new _ _ _, Nat.le_refl _, by simp [maxLen], rfl, rfl⟩⟩
      have HRow : Hid (Rd wo.heap.size (wo.alloc (.cells #[] 75)) 4 (.slice Ap np cp) np (rowsC d.copies es)) := Lib.hid (by
        have h9 := HDo.out.rows.below (below_alloc wo (.cells #[] 75))
        rwa [HNP.out] at h9)
      have HOne := Lib.hid HDo.out.one
      have hw30 := hbo.size
      clear hel hme het hmt hg9 hF hbo
      go_upto_region 29 with (at_builtin; refine wpList_append_rows rfl _ _ 66 75 rfl wo.heap.size 4 64 ic _ Try.underlying66 hic hc0 hc1 hc2 rfl (by decide) (by decide) (.slice (some ⟨wo.heap.size, 0, none⟩) 0 0) (.slice Ap np cp) [] (rowsC d.copies es) 0 np np _ rfl rfl HEmp.out HRow.out HOne.out (by omega) (by omega) (by simp) ?_; intro A7 c7 w7 hown hgrow; have HR7 := Lib.hid hown; have HB7 : Hid (Below wo.heap.size wo w7) := Lib.hid (((Below.refl _ _).alloc (Nat.le_refl _) _).grown hgrow (by simp) fun j hj => by (injection hj with hj; exact Nat.le_of_eq hj)); clear hown hgrow)
      have hT7 := HT.out.below HB7.out HT.out.lt
      have hK7 := hK0.below HB7.out hK0.lt
      have HT7 := Lib.hid hT7
      have HK7 := Lib.hid hK7
      have t0 := cellOf hT7 0 (x := .bool g9) rfl
      have t1 := cellOf hT7 1 (x := .int .i64 S0) rfl
      have t2 := cellOf hT7 2 (x := .slice Aux n1 cux) rfl
      have t3 := cellOf hT7 3 (x := .slice Avx n1 cvx) rfl
      have hz7 : wo.heap.size ≤ w7.heap.size := HB7.out.size
      have hb07 : b0 < w7.heap.size := by omega
      have hb97 : b9 < w7.heap.size := HT7.out.lt
      clear d1 d4 hT7 hK7 HEmp HRow HOne
      go_upto_region 30 with (at_builtin; refine wpList_append_lies _ rfl _ _ 66 rfl wo.heap.size 75 ic _ 4 64 Try.underlying66 hic hc0 hc1 hc2 rfl (by decide) (.slice A7 np c7) np _ rfl (HR7.out.alloc _) ⟨w7.heap.size, 0, none⟩ 1 1 [.bool g9, .int .i64 S0, .slice Aux n1 cux, .slice Avx n1 cvx] rfl rfl (cells_new _ _ _) (by simp [Value.oneCell']) (by omega) (by simp only [maxLen]; omega) (by omega) (by simp; omega) (w7.heap.size + 1) (by simp) ?_; intro g8 c8 w8 hown hgrow hat hlt8; have HR8 := Lib.hid hown; have HB8 : Hid (Below wo.heap.size wo w8) := Lib.hid ((HB7.out.alloc HB7.out.size _).grown hgrow (by simp; omega) fun j hj => (HR7.out.lt j hj).1); have hK8 := HK0o.out.below HB8.out HK0o.out.lt; have f4 := hK8.frozen 4; have p4 := cellOf hK8 4 (x := .slice Ap np cp) rfl; have HK8 := Lib.hid hK8; clear hown hgrow hat hK8)
      have HB38 := Lib.hid (HBo.out.trans (HB8.out.mono hw30))
      have hK1 := HK1.out.below HB38.out HK1.out.lt
      have hK2 := HK2.out.below HB38.out HK2.out.lt
      have hT8 := HT.out.below HB8.out HT.out.lt
      have hu8 := ownsRow_below HTw.out.2.1 HB8.out
      have hv8 := ownsRow_below HTw.out.2.2.1 HB8.out
      have hn90 : b9 ≠ b0 := Blk.ne hT8 HK8.out (by decide)
      have hn91 : b9 ≠ b0 + 1 := Blk.ne hT8 hK1 (by decide)
      have hn92 : b9 ≠ b0 + 1 + 1 := by have := HK2.out.lt; have := HZ9.out; omega
      obtain ⟨wz, ez, kZ0, kZ1, kZ2, kZ9, BZ, RZ, UZ, VZ⟩ : ∃ wz, w8.setCell ⟨b0, 4, none⟩ (.slice (some ⟨g8, 0, none⟩) (np + 1) c8) = wz ∧ Blk wz b0 68 #[.slice Am nm cm, .slice Al n1 cl, .int .i64 W, .int .i64 lim, .slice (some ⟨g8, 0, none⟩) (np + 1) c8] ∧ Blk wz (b0 + 1) 68 #[.slice none 0 0, .slice none 0 0, .int .i64 0, .int .i64 0, .slice none 0 0] ∧ Blk wz (b0 + 1 + 1) 75 #[.bool false, .int .i64 0, .slice none 0 0, .slice none 0 0] ∧
          Blk wz b9 75 #[.bool g9, .int .i64 S0, .slice Aux n1 cux, .slice Avx n1 cvx] ∧ Below w.heap.size w wz ∧ wz.ownsRow wo.heap.size 75 4 (.slice (some ⟨g8, 0, none⟩) (np + 1) c8) (np + 1) (([] ++ rowsC d.copies es) ++ [.bool g9, .int .i64 S0, .slice Aux n1 cux, .slice Avx n1 cvx]) ∧ OInts w3.heap.size wz (.slice Aux n1 cux) errs ∧ OInts w3.heap.size wz (.slice Avx n1 cvx) moves :=
        ⟨_, rfl, HK8.out.put 4 _, hK1.far (p := ⟨b0, 4, none⟩) (by show b0 + 1 ≠ b0; omega) _, hK2.far (p := ⟨b0, 4, none⟩) (by show b0 + 1 + 1 ≠ b0; omega) _, hT8.far (p := ⟨b0, 4, none⟩) hn90 _, below_far (HB3.out.trans (HB38.out.mono HB3.out.size)) HZ0.out, ownsRow_grew HR8.out (Grew.set HK8.out 4 _) (by decide), ownsRow_grew hu8 (Grew.set HK8.out 4 _) (by decide), ownsRow_grew hv8 (Grew.set HK8.out 4 _) (by decide)⟩
      rw [ez]
      have HRZ := Lib.hid RZ
      have HUZ := Lib.hid UZ
      have HVZ := Lib.hid VZ
      have HBZ := Lib.hid BZ
      have HZ1 := Lib.hid kZ1
      have HZ2 := Lib.hid kZ2
      have x0 := cellOf kZ0 0 (x := .slice Am nm cm) rfl
      have x1 := cellOf kZ0 1 (x := .slice Al n1 cl) rfl
      have x2 := cellOf kZ0 2 (x := .int .i64 W) rfl
      have x3 := cellOf kZ0 3 (x := .int .i64 lim) rfl
      have x4 := cellOf kZ0 4 (x := .slice (some ⟨g8, 0, none⟩) (np + 1) c8) rfl
      have t0 := cellOf kZ9 0 (x := .bool g9) rfl
      have t1 := cellOf kZ9 1 (x := .int .i64 S0) rfl
      have t2 := cellOf kZ9 2 (x := .slice Aux n1 cux) rfl
      have t3 := cellOf kZ9 3 (x := .slice Avx n1 cvx) rfl
      have q0 := cellOf kZ1 0 (x := .slice none 0 0) rfl
      have q1 := cellOf kZ1 1 (x := .slice none 0 0) rfl
      have q2 := cellOf kZ1 2 (x := .int .i64 0) rfl
      have q3 := cellOf kZ1 3 (x := .int .i64 0) rfl
      have q4 := cellOf kZ1 4 (x := .slice none 0 0) rfl
      have k0 := kZ1.frozen 0
      have k1 := kZ1.frozen 1
      have k2 := kZ1.frozen 2
      have k3 := kZ1.frozen 3
      have k4 := kZ1.frozen 4
      have r0 := cellOf kZ2 0 (x := .bool false) rfl
      have r1 := cellOf kZ2 1 (x := .int .i64 0) rfl
      have r2 := cellOf kZ2 2 (x := .slice none 0 0) rfl
      have r3 := cellOf kZ2 3 (x := .slice none 0 0) rfl
      have j0 := kZ2.frozen 0
      have j1 := kZ2.frozen 1
      have j2 := kZ2.frozen 2
      have j3 := kZ2.frozen 3
      have nb0 : ¬ b0 + 1 + 1 = b9 := fun e => hn92 e.symm
      have nb1 : ¬ b0 + 1 = b9 := fun e => hn91 e.symm
      clear ez kZ0 kZ1 kZ2 kZ9 BZ RZ UZ VZ hK1 hK2 hT8 hu8 hv8 hK0 f4 p4
      go_region
      obtain ⟨wY, eY, hY1, hY2, hBY, hkY⟩ := HSto.out wz _ _ rfl rfl HZ1.out HZ2.out HBZ.out (.slice Am nm cm) (.slice Al n1 cl) (.int .i64 W) (.int .i64 lim) (.slice (some ⟨g8, 0, none⟩) (np + 1) c8) (.bool g9) (.int .i64 S0) (.slice Aux n1 cux) (.slice Avx n1 cvx)
      unfold Sto at eY
      rw [eY]
      obtain ⟨wD, eD, kD1, kD2, hkD, hBD⟩ : ∃ wD, wY.drew = wD ∧ Blk wD (b0 + 1) 68 #[.slice Am nm cm, .slice Al n1 cl, .int .i64 W, .int .i64 lim, .slice (some ⟨g8, 0, none⟩) (np + 1) c8] ∧ Blk wD (b0 + 1 + 1) 75 #[.bool g9, .int .i64 S0, .slice Aux n1 cux, .slice Avx n1 cvx] ∧ KeptBut (fun k => k = b0 + 1 ∨ k = b0 + 1 + 1) wz wD ∧ Below w.heap.size w wD := ⟨_, rfl, hY1, hY2, kb_drew hkY, hBY.drew⟩
      rw [eD]
      have HkD := Lib.hid hkD
      have HBD := Lib.hid hBD
      have hb2l : b0 + 1 + 1 < w3.heap.size := HK2.out.lt
      have HS : Hid (∀ k, w3.heap.size ≤ k → ¬ (k = b0 + 1 ∨ k = b0 + 1 + 1)) := Lib.hid fun k hk => by omega
      have HEnd : Hid (∃ c : CopyD, c.good = g9 ∧ c.shift = S0 ∧ c.errors = errs ∧ c.moves = moves ∧ ReadIs d seen c code (d.add c)) := Lib.hid (by
        have h5 : d.copies.length ≠ 5000 := by rw [HNP.out]; exact hfull
        have hg := HG9.out
        unfold gTo at hg
        rw [HET.out] at hg
        have he := HErrs.out
        have hc := HCode.out
        have hs0 := HS0.out
        have hbb := HBad2.out
        have hm := HMoves.out
        cases bad
        · simp only [Bool.false_eq_true, if_false] at he hc hs0
          subst hc
          subst hs0
          refine ⟨readGood d s l, ?_, rfl, he, ?_, .inr ⟨h5, s, ct, l, 0, HFit.out, .inr (.inr ⟨rfl, fun h => (by have h7 := hbb.2 h; cases h7), rfl, rfl, rfl⟩)⟩⟩
          · rw [← hg, ← he, ← HLim.out]
            rfl
          · rw [← hm, ← he]
            rfl
        · simp only [if_true] at he hc hs0
          subst hc
          subst hs0
          refine ⟨readBad d, ?_, rfl, he, ?_, .inr ⟨h5, s, ct, l, 0, HFit.out, .inr (.inl ⟨rfl, hbb.1 rfl, rfl, rfl, rfl⟩)⟩⟩
          · rw [← hg]
            rfl
          · rw [← hm, ← he]
            rfl)
      have HES := Lib.hid HDo.out.len
      have x0 := cellOf kD1 0 (x := .slice Am nm cm) rfl
      have x1 := cellOf kD1 1 (x := .slice Al n1 cl) rfl
      have x2 := cellOf kD1 2 (x := .int .i64 W) rfl
      have x3 := cellOf kD1 3 (x := .int .i64 lim) rfl
      have x4 := cellOf kD1 4 (x := .slice (some ⟨g8, 0, none⟩) (np + 1) c8) rfl
      have y0 := cellOf kD2 0 (x := .bool g9) rfl
      have y1 := cellOf kD2 1 (x := .int .i64 S0) rfl
      have y2 := cellOf kD2 2 (x := .slice Aux n1 cux) rfl
      have y3 := cellOf kD2 3 (x := .slice Avx n1 cvx) rfl
      clear eY eD hY1 hY2 hBY hkY kD1 kD2 hkD hBD t0 t1 t2 t3 q0 q1 q2 q3 q4 k0 k1 k2 k3 k4 r0 r1 r2 r3 j0 j1 j2 j3
      go_wp2
      refine bodyPost_ret (v := .tuple #[.agg #[.slice Am nm cm, .slice Al n1 cl, .int .i64 W, .int .i64 lim, .slice (some ⟨g8, 0, none⟩) (np + 1) c8], .agg #[.bool g9, .int .i64 S0, .slice Aux n1 cux, .slice Avx n1 cvx], .int .i64 code]) (by simp [results, Try.results33, go_sem, x0, x1, x2, x3, x4, y0, y1, y2, y3]) rfl ?_
      obtain ⟨c, hcg, hcs, hce, hcm, his⟩ := HEnd.out
      refine ⟨c, code, d.add c, .slice (some ⟨g8, 0, none⟩) (np + 1) c8, .slice Aux n1 cux, .slice Avx n1 cvx, by rw [HW.out, HLim.out, hcg, hcs], his, .inr ⟨rfl, ?_⟩, ?_, ?_, HBD.out⟩
      · rw [rowsC_snoc HES.out, hcg, hcs, HNP.out]
        have h9 := HRZ.out
        rw [List.nil_append] at h9
        exact ownsRow_base (ownsRow_keptBut h9 HkD.out fun g cs hg _ => HS.out g (Nat.le_trans hw30 (h9.lt g hg).1)) (Nat.le_trans HB3.out.size hw30)
      · rw [hce]
        exact ownsRow_base (ownsRow_keptBut HUZ.out HkD.out fun g cs hg _ => HS.out g (HUZ.out.lt g hg).1) HB3.out.size
      · rw [hcm]
        exact ownsRow_base (ownsRow_keptBut HVZ.out HkD.out fun g cs hg _ => HS.out g (HVZ.out.lt g hg).1) HB3.out.size
end Go.Proofs.Ytffodgpafiifcaa
