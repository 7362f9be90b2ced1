/-
  The reference's Match.
-/
import Derived.Test.YtffodgpafiifcaaId
namespace Go.Proofs.Ytffodgpafiifcaa
open Go.RowKit

theorem fit_zeroR {w w4 : World} {b1 : Nat} (R4 : Blk w4 b1 55 #[.int .i64 0, .int .i64 0, .slice none 0 0]) (B4 : Below w.heap.size w w4) (hb : w.heap.size ≤ b1) : ∃ w5, (((w4.setCell ⟨b1, 0, none⟩ (.int .i64 0)).setCell ⟨b1, 1, none⟩ (.int .i64 0)).setCell ⟨b1, 2, none⟩ (.slice none 0 0)) = w5 ∧ Blk w5 b1 55 #[.int .i64 0, .int .i64 0, .slice none 0 0] ∧ Below w.heap.size w w5 :=
  ⟨_, rfl, ((R4.put 0 _).put 1 _).put 2 _, below_set3 B4 hb _ _ _⟩
/-- What the two maxima are. -/
def NearCut (x S : Int) (wo : World) (s13 s14 : Value) (wx : World) : Prop := s13 = .int .i64 (absI x) ∧ s14 = .int .i64 (absI S) ∧ Below wo.heap.size wo wx

/-- What lies there while shifts are tried. -/
def RSt (marks : List Int) (W : Int) (seen : List Int) (x S C : Int) (b9 : Nat) (wA wr : World) : Prop := RefBest marks W seen x S C ∧ Blk wr b9 55 #[.int .i64 S, .int .i64 C, .slice none 0 0] ∧ Below wA.heap.size wA wr

/-- What lies there while marks are found. -/
def FSt (marks : List Int) (W : Int) (seen : List Int) (S C : Int) (b9 : Nat) (wA wD : World) (k : Nat) (X : World) : Prop :=
  Below wA.heap.size wA X ∧ wD.heap.size ≤ X.heap.size ∧ ∃ u, Blk X b9 55 #[.int .i64 S, .int .i64 C, u] ∧ OInts wD.heap.size X u ((fitTo marks W seen S).take k)

set_option maxRecDepth 100000 in
set_option maxHeartbeats 12000000 in
theorem refMatch_any (v vs : Value) (marks : List Int) (W : Int) (seen : List Int) (w : World) (hm : RInts w.heap.size w v marks) (hs : RInts w.heap.size w vs seen) (hlm : marks.length ≤ 1000000) (hls : seen.length ≤ 1000000) :
    Calls Try.prog 28 #[v, .int .i64 W, vs] w fun e w' => FitRet w.heap.size marks W seen e w' ∧ Below w.heap.size w w' := by
  have HM := Lib.hid hm
  have HS := Lib.hid hs
  obtain ⟨A, c, rfl, -, hA⟩ := hm.open_
  obtain ⟨A2, c2, rfl, -, hA2⟩ := hs.open_
  have HA := Lib.hid hA
  have HA2 := Lib.hid hA2
  obtain ⟨n, hn⟩ : ∃ n, marks.length = n := ⟨_, rfl⟩
  obtain ⟨n2, hn2⟩ : ∃ n, seen.length = n := ⟨_, rfl⟩
  have Hn := Lib.hid hn
  have Hn2 := Lib.hid hn2
  have hlen : LenOk marks seen ↔ (2 ≤ n ∧ n ≤ 12) ∧ n2 ≤ 40 := by unfold LenOk; rw [hn, hn2]
  have HLn := Lib.hid hlen
  rw [hn] at hlm HM ⊢
  rw [hn2] at hls HS ⊢
  obtain ⟨w1, e1, B1, R1⟩ : ∃ w1, w.alloc (.cells #[.int .i64 0, .int .i64 0, .slice none 0 0] 55) = w1 ∧ Below w.heap.size w w1 ∧ Blk w1 w.heap.size 55 #[.int .i64 0, .int .i64 0, .slice none 0 0] := ⟨_, rfl, below_alloc _ _, Blk.new _ _ _⟩
  have E1 := Lib.hid e1
  obtain ⟨b1, hb1⟩ : ∃ b, w.heap.size = b := ⟨_, rfl⟩
  have hbw : w.heap.size ≤ b1 := by omega
  rw [hb1] at R1
  have HB1 := Lib.hid B1
  have HR1 := Lib.hid R1
  have HW1 : Hid (b1 = w.heap.size) := hb1.symm
  clear hm hs hA hA2 hn hn2 hlen e1 B1 R1
  go_enter Try.func28, Try.ntmps28
  go_upto_region 1 with fail
  rw [E1.out]
  clear hb1
  by_cases hle : (2 ≤ n ∧ n ≤ 12) ∧ n2 ≤ 40
  · have HLen : Hid (LenOk marks seen) := HLn.out.2 hle
    obtain ⟨⟨hl1, hl2⟩, hl3⟩ := hle
    have hi1 : ¬ (n : Int) < 2 := by omega
    have hi2 : ¬ (12 : Int) < (n : Int) := by omega
    have hi3 : ¬ (40 : Int) < (n2 : Int) := by omega
    have CW := refWrong_any _ marks W w1 ((RInts.below HM.out HB1.out).more HB1.out.size) (by rw [Hn.out]; exact hlm)
    have CW := Lib.hid CW
    go_wp2_with fail
    refine CW.out.mono ?_
    rintro e w2 ⟨⟨b, rfl, hb⟩, hb2⟩
    have HB2 := Lib.hid (HB1.out.trans (hb2.mono HB1.out.size))
    have HR2 := Lib.hid (HR1.out.below hb2 HR1.out.lt)
    have Hb := Lib.hid hb
    clear hb hb2 hi1 hi2 hi3 CW
    cases b with
    | true =>
      have HF : Hid (FitIs marks W seen 0 0 [] 6) := Or.inr (Or.inl ⟨HLen.out, Hb.out.1 rfl, rfl, rfl, rfl, rfl⟩)
      obtain ⟨w5, e5, R5, B5⟩ := fit_zeroR HR2.out HB2.out hbw
      have E5 := Lib.hid e5
      have HR5 := Lib.hid R5
      have HB5 := Lib.hid B5
      have r0 := cellOf HR2.out 0 (x := .int .i64 0) rfl
      have r1 := cellOf HR2.out 1 (x := .int .i64 0) rfl
      have r2 := cellOf HR2.out 2 (x := .slice none 0 0) rfl
      have g0 := HR2.out.frozen 0
      have g1 := HR2.out.frozen 1
      have g2 := HR2.out.frozen 2
      clear e5 R5 B5
      go_wp2
      rw [E5.out]
      have x0 := cellOf HR5.out 0 (x := .int .i64 0) rfl
      have x1 := cellOf HR5.out 1 (x := .int .i64 0) rfl
      have x2 := cellOf HR5.out 2 (x := .slice none 0 0) rfl
      refine bodyPost_ret (v := .tuple #[.agg #[.int .i64 0, .int .i64 0, .slice none 0 0], .int .i64 6]) (by simp [results, Try.results28, go_sem, x0, x1, x2]) rfl ⟨FitRet.zero HF.out, HB5.out⟩
    | false =>
      have HAl : Hid (AllowOk marks W) := Classical.byContradiction fun h => by cases Hb.out.2 h
      go_wp2
      go_loopw [8] (fun i wr => ∃ k : Nat, k ≤ n2 ∧ i = .int .i64 k ∧ MarksTo seen 0 (-100000) 200000 k ∧ Below w2.heap.size w2 wr) (fun i _ => n2 - (intOf i).toNat)
      case atStart => exact ⟨0, Nat.zero_le _, rfl, MarksTo.zero _ _ _ _, Below.refl _ _⟩
      case round =>
        obtain ⟨k, hk, rfl, hto, hb⟩ := hrel
        have HT := Lib.hid hto
        have Hbr := Lib.hid hb
        have HBr := Lib.hid (HB2.out.trans (hb.mono HB2.out.size))
        have HRr := Lib.hid (HR2.out.below hb HR2.out.lt)
        clear hto
        by_cases hlt : k < n2
        · obtain ⟨g, o, x, rfl, hg, cx, hx⟩ := HA2.out k (by rw [Hn2.out]; exact hlt)
          have HLx := Lib.hid (get_some (by rw [Hn2.out]; exact hlt) hx.out)
          have cx' := (HBr.out.cell (p := ⟨g, o + k, none⟩) hg).trans cx
          have ik : (k : Int) < (n2 : Int) := by omega
          clear hx cx hb
          have bad : Hid (¬ SeenAsc seen → FitIs marks W seen 0 0 [] 11) := fun h => Or.inr (Or.inr (Or.inl ⟨HLen.out, HAl.out, h, rfl, rfl, rfl, rfl⟩))
          by_cases h1 : x < -100000
          · have HF := Lib.hid (bad.out fun h => by have := h.place x (List.mem_of_getElem? HLx.out); omega)
            obtain ⟨w5, e5, R5, B5⟩ := fit_zeroR HRr.out HBr.out hbw
            have E5 := Lib.hid e5
            have HR5 := Lib.hid R5
            have HB5 := Lib.hid B5
            have r0 := cellOf HRr.out 0 (x := .int .i64 0) rfl
            have r1 := cellOf HRr.out 1 (x := .int .i64 0) rfl
            have r2 := cellOf HRr.out 2 (x := .slice none 0 0) rfl
            have g0 := HRr.out.frozen 0
            have g1 := HRr.out.frozen 1
            have g2 := HRr.out.frozen 2
            clear e5 R5 B5
            go_wp2
            rw [E5.out]
            have x0 := cellOf HR5.out 0 (x := .int .i64 0) rfl
            have x1 := cellOf HR5.out 1 (x := .int .i64 0) rfl
            have x2 := cellOf HR5.out 2 (x := .slice none 0 0) rfl
            refine bodyPost_ret (v := .tuple #[.agg #[.int .i64 0, .int .i64 0, .slice none 0 0], .int .i64 11]) (by simp [results, Try.results28, go_sem, x0, x1, x2]) rfl ⟨FitRet.zero HF.out, HB5.out⟩
          · by_cases h2 : 200000 < x
            · have HF := Lib.hid (bad.out fun h => by have := h.place x (List.mem_of_getElem? HLx.out); omega)
              obtain ⟨w5, e5, R5, B5⟩ := fit_zeroR HRr.out HBr.out hbw
              have E5 := Lib.hid e5
              have HR5 := Lib.hid R5
              have HB5 := Lib.hid B5
              have r0 := cellOf HRr.out 0 (x := .int .i64 0) rfl
              have r1 := cellOf HRr.out 1 (x := .int .i64 0) rfl
              have r2 := cellOf HRr.out 2 (x := .slice none 0 0) rfl
              have g0 := HRr.out.frozen 0
              have g1 := HRr.out.frozen 1
              have g2 := HRr.out.frozen 2
              clear e5 R5 B5
              go_wp2
              rw [E5.out]
              have x0 := cellOf HR5.out 0 (x := .int .i64 0) rfl
              have x1 := cellOf HR5.out 1 (x := .int .i64 0) rfl
              have x2 := cellOf HR5.out 2 (x := .slice none 0 0) rfl
              refine bodyPost_ret (v := .tuple #[.agg #[.int .i64 0, .int .i64 0, .slice none 0 0], .int .i64 11]) (by simp [results, Try.results28, go_sem, x0, x1, x2]) rfl ⟨FitRet.zero HF.out, HB5.out⟩
            · have Hin := Lib.hid (show -100000 ≤ x ∧ x ≤ 200000 by omega)
              rcases Nat.eq_zero_or_pos k with hk0 | hk0
              · subst hk0
                rw [Nat.add_zero] at cx'
                go_upto_region 10 with fail
                go_quiet (fail)
                go_wp2
                go_roundw
                case rel => exact ⟨1, by omega, by go_num, MarksTo.one HLx.out Hin.out, below_drewN Hbr.out _⟩
                case measure => simp [intOf]; omega
              · obtain ⟨m, rfl⟩ : ∃ m, k = m + 1 := ⟨k - 1, by omega⟩
                obtain ⟨g', o', y, hgg, hg', cy, hy⟩ := HA2.out m (by rw [Hn2.out]; omega)
                cases hgg
                have HLy := Lib.hid (get_some (by rw [Hn2.out]; omega) hy.out)
                have cy' := (HBr.out.cell (p := ⟨g, o + m, none⟩) hg).trans cy
                have im1 : ((m + 1 : Nat) : Int) - 1 = (m : Int) := by omega
                have im2 : (m : Int) < (n2 : Int) := by omega
                have im3 : (0 : Int) < ((m + 1 : Nat) : Int) := by omega
                have im0 : (0 : Int) ≤ (m : Int) := by omega
                have kw1 : IntKind.i64.wrap (m : Int) = (m : Int) := IntWalk.i64_in _ ⟨by omega, by omega⟩
                clear hy cy
                by_cases hyx : y < x
                · have hd : decide (x ≤ y) = false := by simpa using hyx
                  have hd2 : ¬ x ≤ y := by omega
                  go_upto_region 10 with fail
                  go_quiet (fail)
                  clear kw1
                  go_wp2
                  go_roundw
                  case rel => exact ⟨m + 2, by omega, by go_num, HT.out.next HLy.out HLx.out Hin.out (by omega), below_drewN Hbr.out _⟩
                  case measure => simp [intOf]; omega
                · have hd : decide (x ≤ y) = true := by simp; omega
                  have hd2 : x ≤ y := by omega
                  have HF := Lib.hid (bad.out fun h => hyx (h.asc m y x HLy.out HLx.out))
                  clear hyx
                  go_upto_region 10 with fail
                  go_quiet (fail)
                  clear kw1
                  have HBq := Lib.hid (below_drewN HBr.out nq)
                  have HRq := Lib.hid (HRr.out.below (below_drewN (Below.refl wr.heap.size wr) nq) HRr.out.lt)
                  obtain ⟨wq, hwq⟩ : ∃ wq, wr.drewN nq = wq := ⟨_, rfl⟩
                  rw [hwq] at HBq HRq ⊢
                  clear hwq
                  obtain ⟨w5, e5, R5, B5⟩ := fit_zeroR HRq.out HBq.out hbw
                  have E5 := Lib.hid e5
                  have HR5 := Lib.hid R5
                  have HB5 := Lib.hid B5
                  have r0 := cellOf HRq.out 0 (x := .int .i64 0) rfl
                  have r1 := cellOf HRq.out 1 (x := .int .i64 0) rfl
                  have r2 := cellOf HRq.out 2 (x := .slice none 0 0) rfl
                  have g0 := HRq.out.frozen 0
                  have g1 := HRq.out.frozen 1
                  have g2 := HRq.out.frozen 2
                  clear e5 R5 B5
                  go_wp2
                  rw [E5.out]
                  have x0 := cellOf HR5.out 0 (x := .int .i64 0) rfl
                  have x1 := cellOf HR5.out 1 (x := .int .i64 0) rfl
                  have x2 := cellOf HR5.out 2 (x := .slice none 0 0) rfl
                  refine bodyPost_ret (v := .tuple #[.agg #[.int .i64 0, .int .i64 0, .slice none 0 0], .int .i64 11]) (by simp [results, Try.results28, go_sem, x0, x1, x2]) rfl ⟨FitRet.zero HF.out, HB5.out⟩
        · have hk' : k = n2 := by omega
          subst hk'
          have HSe : Hid (SeenAsc seen) := MarksTo.seen (by rw [Hn2.out]; exact HT.out)
          clear hb
          obtain ⟨wA, rfl⟩ : ∃ wA, wA = wr := ⟨_, rfl⟩
          obtain ⟨b9, hb9⟩ : ∃ b, wA.heap.size = b := ⟨_, rfl⟩
          have hb9' : wA.heap.size ≤ b9 := by omega
          have hb19 : b1 < b9 := by have := HRr.out.lt; omega
          obtain ⟨wB, eB, BB, RB⟩ : ∃ wB, wA.alloc (.cells #[.int .i64 0, .int .i64 (-1), .slice none 0 0] 55) = wB ∧ Below wA.heap.size wA wB ∧ Blk wB b9 55 #[.int .i64 0, .int .i64 (-1), .slice none 0 0] := ⟨_, rfl, below_alloc _ _, hb9 ▸ Blk.new _ _ _⟩
          have EB := Lib.hid eB
          have HBB := Lib.hid BB
          have HRB := Lib.hid RB
          have H9 : Hid (b9 = wA.heap.size) := hb9.symm
          clear eB BB RB
          go_upto_region 13 with fail
          rw [EB.out]
          have HAsc : Hid (Ascends seen) := (SeenAsc.cam HSe.out (by rw [Hn2.out]; exact hl3)).ascends
          have CF : Hid (∀ (X : World) (lo hi : Int), Below w.heap.size w X → Calls Try.prog 52 #[.slice A2 k c2, .int .i64 lo, .int .i64 hi] X fun e w' => e = .returned (.int .i64 (findD seen lo hi)) ∧ w' = X) := fun X lo hi hX => by
            refine (refFound_any _ seen lo hi X ((RInts.below HS.out hX).more hX.size) (by rw [Hn2.out]; exact hls) HAsc.out).mono ?_
            rintro e w' ⟨rfl, rfl⟩
            exact ⟨rfl, rfl⟩
          have hW := HAl.out.wind
          obtain ⟨hW1, hW2⟩ := hW
          clear hb9 EB E1 CW
          go_wp2
          go_loopw [10] (fun i wr => ∃ x S C : Int, i = .int .i64 x ∧ (-2000 ≤ x ∧ x ≤ 2001) ∧ RSt marks W seen x S C b9 wA wr) (fun i _ => (2001 - intOf i).toNat)
          case atStart => exact ⟨-2000, 0, -1, rfl, by omega, RefBest.start, HRB.out, HBB.out⟩
          case round =>
            obtain ⟨x, S, C, rfl, ⟨hx1, hx2⟩, hR, hB9, hbA⟩ := hrel
            have HR := Lib.hid hR
            have HB9 := Lib.hid hB9
            have HbA := Lib.hid hbA
            have HBo := Lib.hid (HBr.out.trans (hbA.mono HBr.out.size))
            clear hR hB9 hbA
            obtain ⟨wo, rfl⟩ : ∃ wo, wo = wr := ⟨_, rfl⟩
            by_cases hlt : x ≤ 2000
            · go_wp2
              go_loopw [11, 12] (fun nn i wq => ∃ j : Nat, j ≤ n ∧ i = .int .i64 j ∧ nn = .int .i64 (countD (marks.take j) W seen x : Nat) ∧ Below wo.heap.size wo wq) (fun _ i _ => n - (intOf i).toNat)
              case atStart => exact ⟨0, Nat.zero_le _, rfl, rfl, Below.refl _ _⟩
              case round =>
                obtain ⟨j, hj, rfl, rfl, hbq⟩ := hrel
                have Hbq := Lib.hid hbq
                have HBq := Lib.hid (HBo.out.trans (hbq.mono HBo.out.size))
                have hcl : countD (marks.take j) W seen x ≤ 1000000 := by
                  have h1 := countD_le (marks.take j) W seen x
                  have h2 : (marks.take j).length ≤ j := by rw [List.length_take]; omega
                  omega
                clear hbq
                by_cases hjl : j < n
                · obtain ⟨g, o, y, rfl, hg, cy, hy⟩ := HA.out j (by rw [Hn.out]; exact hjl)
                  have hly := get_some (by rw [Hn.out]; exact hjl) hy.out
                  have HCn := Lib.hid (countD_next (W := W) (s := x) (seen := seen) hly)
                  have hyp := HAl.out.place y (List.mem_of_getElem? hly)
                  have cy' := (HBq.out.cell (p := ⟨g, o + j, none⟩) hg).trans cy
                  have ij : (j : Int) < (n : Int) := by omega
                  have ij0 : (0 : Int) ≤ (j : Int) := by omega
                  have kw1 : IntKind.i64.wrap (y + x) = y + x := IntWalk.i64_in _ ⟨by omega, by omega⟩
                  have kw2 : IntKind.i64.wrap (y + x - W) = y + x - W := IntWalk.i64_in _ ⟨by omega, by omega⟩
                  have kw3 : IntKind.i64.wrap (y + x + W) = y + x + W := IntWalk.i64_in _ ⟨by omega, by omega⟩
                  obtain ⟨N, hN⟩ : ∃ N, countD (marks.take j) W seen x = N := ⟨_, rfl⟩
                  rw [hN] at HCn hcl ⊢
                  have CF1 := Lib.hid (fun X => CF.out X (y + x - W) (y + x + W))
                  obtain ⟨F, hF⟩ : ∃ F, findD seen (y + x - W) (y + x + W) = F := ⟨_, rfl⟩
                  have hfb : foundB seen W x y = (F != 1000000000) := by unfold foundB lostD; rw [hF]
                  rw [hF] at CF1
                  rw [hfb] at HCn
                  clear hy hly cy hN hF hfb
                  by_cases hl : F = 1000000000
                  · have hb1 : (F != 1000000000) = false := by simpa using hl
                    rw [hb1] at HCn
                    clear hl
                    go_upto_region 20 with fail
                    go_quiet ((go_at_call 52; refine Calls.quiet_of_same (CF1.out _ (below_drewN HBq.out _))))
                    clear kw1 kw2 kw3
                    go_wp2
                    go_roundw
                    case rel => exact ⟨j + 1, by omega, by go_num, by rw [HCn.out]; rfl, below_drewN Hbq.out _⟩
                    case measure => simp [intOf]; omega
                  · have hb1 : (F != 1000000000) = true := by simpa using hl
                    rw [hb1] at HCn
                    clear hl
                    go_upto_region 20 with fail
                    go_quiet ((go_at_call 52; refine Calls.quiet_of_same (CF1.out _ (below_drewN HBq.out _))))
                    clear kw1 kw2 kw3
                    go_wp2
                    go_roundw
                    case rel => exact ⟨j + 1, by omega, by go_num, by rw [HCn.out]; go_num, below_drewN Hbq.out _⟩
                    case measure => simp [intOf]; omega
                · have hj' : j = n := by omega
                  subst hj'
                  have ht : marks.take j = marks := List.take_of_length_le (by rw [Hn.out]; omega)
                  rw [ht] at hcl ⊢
                  obtain ⟨N, hN⟩ : ∃ N, countD marks W seen x = N := ⟨_, rfl⟩
                  have HNc := Lib.hid hN
                  rw [hN] at hcl ⊢
                  have HB9q := Lib.hid (HB9.out.below Hbq.out HB9.out.lt)
                  have HbAq := Lib.hid (HbA.out.trans (Hbq.out.mono HbA.out.size))
                  clear ht hN
                  obtain ⟨wq, rfl⟩ : ∃ wq, wq = wr := ⟨_, rfl⟩
                  have hS : -2000 ≤ S ∧ S ≤ 2000 := by
                    rcases HR.out with ⟨-, h, -⟩ | ⟨h, h', -, -⟩ <;> omega
                  obtain ⟨hS1, hS2⟩ := hS
                  have v0 := cellOf HB9q.out 0 (x := .int .i64 S) rfl
                  have v1 := cellOf HB9q.out 1 (x := .int .i64 C) rfl
                  go_upto_region 22 with fail
                  go_cut [13, 14] (fun s13 s14 wx => NearCut x S wq s13 s14 wx)
                  case first =>
                    have kw1 : IntKind.i64.wrap (-x) = -x := IntWalk.i64_in _ ⟨by omega, by omega⟩
                    have kw2 : IntKind.i64.wrap (-S) = -S := IntWalk.i64_in _ ⟨by omega, by omega⟩
                    rcases (show (-x ≤ x ∧ ¬ x < -x) ∨ (¬ -x ≤ x ∧ x < -x) by omega) with ⟨m1, m2⟩ | ⟨m1, m2⟩ <;>
                    rcases (show (-S ≤ S ∧ ¬ S < -S) ∨ (¬ -S ≤ S ∧ S < -S) by omega) with ⟨m3, m4⟩ | ⟨m3, m4⟩
                    all_goals
                      go_region_held3 (fun X => X.cell? ⟨b9, 0, none⟩ = some (.int .i64 S)) (go_keep) (fail)
                      all_goals
                        go_wp2_with fail
                        go_meet
                        exact ⟨by first | rw [show absI x = x by unfold absI; omega] | rw [show absI x = -x by unfold absI; omega], by first | rw [show absI S = S by unfold absI; omega] | rw [show absI S = -S by unfold absI; omega], (Below.refl _ _).drew⟩
                  case rest =>
                    obtain ⟨rfl, rfl, hbx⟩ := hcut
                    have HB9c := Lib.hid (HB9q.out.below hbx HB9q.out.lt)
                    have HbAc := Lib.hid (HbAq.out.trans (hbx.mono HbAq.out.size))
                    have hbet : Better marks W seen x S C ↔ (C < N ∨ ((N : Int) = C ∧ (absI x < absI S ∨ (absI x = absI S ∧ S < x)))) := by unfold Better; rw [HNc.out]
                    have Hbet := Lib.hid hbet
                    clear hbx hbet v0 v1
                    have v0 := cellOf HB9c.out 0 (x := .int .i64 S) rfl
                    have v1 := cellOf HB9c.out 1 (x := .int .i64 C) rfl
                    have v2 := cellOf HB9c.out 2 (x := .slice none 0 0) rfl
                    have g0 := HB9c.out.frozen 0
                    have g1 := HB9c.out.frozen 1
                    have g2 := HB9c.out.frozen 2
                    obtain ⟨P, hP⟩ : ∃ P, absI x = P := ⟨_, rfl⟩
                    obtain ⟨Q, hQ⟩ : ∃ Q, absI S = Q := ⟨_, rfl⟩
                    rw [hP, hQ] at Hbet ⊢
                    clear hP hQ
                    by_cases c1 : C < (N : Int)
                    · have HBt := Lib.hid (Hbet.out.2 (Or.inl c1))
                      have HN2 := Lib.hid (HR.out.yes hx1 HBt.out)
                      obtain ⟨w5, e5, R5, B5⟩ : ∃ w5, (((wc.setCell ⟨b9, 0, none⟩ (.int .i64 x)).setCell ⟨b9, 1, none⟩ (.int .i64 N)).setCell ⟨b9, 2, none⟩ (.slice none 0 0)) = w5 ∧ Blk w5 b9 55 #[.int .i64 x, .int .i64 N, .slice none 0 0] ∧ Below wA.heap.size wA w5 := ⟨_, rfl, ((HB9c.out.put 0 _).put 1 _).put 2 _, below_set3 HbAc.out hb9' _ _ _⟩
                      have E5 := Lib.hid e5
                      have HR5 := Lib.hid R5
                      have HB5 := Lib.hid B5
                      clear e5 R5 B5
                      go_wp2
                      rw [E5.out]
                      go_roundw
                      case rel => exact ⟨x + 1, x, N, by go_num, by omega, by rw [← HNc.out]; exact HN2.out, HR5.out, HB5.out⟩
                      case measure => simp [intOf]; omega
                    · by_cases c2 : (N : Int) = C
                      · have c2' : ((N : Int) == C) = true := by simpa using c2
                        have c1' : decide (C < (N : Int)) = false := by simpa using c1
                        by_cases c3 : P < Q
                        · have HBt := Lib.hid (Hbet.out.2 (Or.inr ⟨c2, Or.inl c3⟩))
                          clear c2
                          have HN2 := Lib.hid (HR.out.yes hx1 HBt.out)
                          obtain ⟨w5, e5, R5, B5⟩ : ∃ w5, (((wc.setCell ⟨b9, 0, none⟩ (.int .i64 x)).setCell ⟨b9, 1, none⟩ (.int .i64 N)).setCell ⟨b9, 2, none⟩ (.slice none 0 0)) = w5 ∧ Blk w5 b9 55 #[.int .i64 x, .int .i64 N, .slice none 0 0] ∧ Below wA.heap.size wA w5 := ⟨_, rfl, ((HB9c.out.put 0 _).put 1 _).put 2 _, below_set3 HbAc.out hb9' _ _ _⟩
                          have E5 := Lib.hid e5
                          have HR5 := Lib.hid R5
                          have HB5 := Lib.hid B5
                          clear e5 R5 B5
                          go_wp2
                          rw [E5.out]
                          go_roundw
                          case rel => exact ⟨x + 1, x, N, by go_num, by omega, by rw [← HNc.out]; exact HN2.out, HR5.out, HB5.out⟩
                          case measure => simp [intOf]; omega
                        · by_cases c4 : P = Q
                          · have c4' : (P == Q) = true := by simpa using c4
                            by_cases c5 : S < x
                            · have HBt := Lib.hid (Hbet.out.2 (Or.inr ⟨c2, Or.inr ⟨c4, c5⟩⟩))
                              clear c2 c4
                              have HN2 := Lib.hid (HR.out.yes hx1 HBt.out)
                              obtain ⟨w5, e5, R5, B5⟩ : ∃ w5, (((wc.setCell ⟨b9, 0, none⟩ (.int .i64 x)).setCell ⟨b9, 1, none⟩ (.int .i64 N)).setCell ⟨b9, 2, none⟩ (.slice none 0 0)) = w5 ∧ Blk w5 b9 55 #[.int .i64 x, .int .i64 N, .slice none 0 0] ∧ Below wA.heap.size wA w5 := ⟨_, rfl, ((HB9c.out.put 0 _).put 1 _).put 2 _, below_set3 HbAc.out hb9' _ _ _⟩
                              have E5 := Lib.hid e5
                              have HR5 := Lib.hid R5
                              have HB5 := Lib.hid B5
                              clear e5 R5 B5
                              go_wp2
                              rw [E5.out]
                              go_roundw
                              case rel => exact ⟨x + 1, x, N, by go_num, by omega, by rw [← HNc.out]; exact HN2.out, HR5.out, HB5.out⟩
                              case measure => simp [intOf]; omega
                            · have HBt : Hid (¬ Better marks W seen x S C) := fun h => by rcases Hbet.out.1 h with h | ⟨-, h | ⟨-, h⟩⟩ <;> contradiction
                              clear c2 c4
                              have HN2 := Lib.hid (HR.out.no HBt.out)
                              go_wp2
                              go_roundw
                              case rel => exact ⟨x + 1, S, C, by go_num, by omega, HN2.out, HB9c.out, HbAc.out⟩
                              case measure => simp [intOf]; omega
                          · have c4' : (P == Q) = false := by simpa using c4
                            have HBt : Hid (¬ Better marks W seen x S C) := fun h => by rcases Hbet.out.1 h with h | ⟨-, h | ⟨h, -⟩⟩ <;> contradiction
                            clear c2
                            have HN2 := Lib.hid (HR.out.no HBt.out)
                            go_wp2
                            go_roundw
                            case rel => exact ⟨x + 1, S, C, by go_num, by omega, HN2.out, HB9c.out, HbAc.out⟩
                            case measure => simp [intOf]; omega
                      · have HBt : Hid (¬ Better marks W seen x S C) := fun h => by rcases Hbet.out.1 h with h | ⟨h, -⟩ <;> contradiction
                        have HN2 := Lib.hid (HR.out.no HBt.out)
                        go_wp2
                        go_roundw
                        case rel => exact ⟨x + 1, S, C, by go_num, by omega, HN2.out, HB9c.out, HbAc.out⟩
                        case measure => simp [intOf]; omega
            · have hx9 : x = 2001 := by omega
              subst hx9
              obtain ⟨hSb, hCb⟩ := RefBest.end_ HAl.out HR.out
              have HSb := Lib.hid hSb
              have HCb := Lib.hid hCb
              have hS : -2000 ≤ S ∧ S ≤ 2000 := by
                rcases HR.out with ⟨-, h, -⟩ | ⟨h, h', -, -⟩ <;> omega
              obtain ⟨hS1, hS2⟩ := hS
              obtain ⟨i0, hi, hz0, hz1', hz2⟩ := info_parts infoInt0
              have hb9o := HB9.out.lt
              have F0 : FSt marks W seen S C b9 wA wo 0 wo := ⟨HbA.out, Nat.le_refl _, _, HB9.out, World.ownsRow_nil _ _ _ _⟩
              have HF0 := Lib.hid F0
              clear hSb hCb F0 hx1 hx2
              go_wp2
              go_loopw [15] (fun i wq => ∃ j : Nat, j ≤ n ∧ i = .int .i64 j ∧ FSt marks W seen S C b9 wA wo j wq) (fun i _ => n - (intOf i).toNat)
              case atStart => exact ⟨0, Nat.zero_le _, rfl, HF0.out⟩
              case round =>
                obtain ⟨j, hj, rfl, hfs⟩ := hrel
                have HFS := Lib.hid hfs
                obtain ⟨hbA, hzo, u, hFB, hO⟩ := hfs
                have HbA2 := Lib.hid hbA
                have HBw := Lib.hid (HBr.out.trans (hbA.mono HBr.out.size))
                by_cases hjl : j < n
                · obtain ⟨g, o, y, rfl, hg, cy, hy⟩ := HA.out j (by rw [Hn.out]; exact hjl)
                  have hly := get_some (by rw [Hn.out]; exact hjl) hy.out
                  have HL := Lib.hid hly
                  have hyp := HAl.out.place y (List.mem_of_getElem? hly)
                  have cy' := (HBw.out.cell (p := ⟨g, o + j, none⟩) hg).trans cy
                  have ij : (j : Int) < (n : Int) := by omega
                  have ij0 : (0 : Int) ≤ (j : Int) := by omega
                  have kw1 : IntKind.i64.wrap (y + S) = y + S := IntWalk.i64_in _ ⟨by omega, by omega⟩
                  have kw2 : IntKind.i64.wrap (y + S - W) = y + S - W := IntWalk.i64_in _ ⟨by omega, by omega⟩
                  have kw3 : IntKind.i64.wrap (y + S + W) = y + S + W := IntWalk.i64_in _ ⟨by omega, by omega⟩
                  replace hO : wr.ownsRow wo.heap.size 3 1 u j (((fitTo marks W seen S).take j).map (Value.int .i64)) := by
                    have h1 := hO
                    unfold OInts at h1
                    rwa [List.length_take, fitTo_len, Hn.out, Nat.min_eq_left hj] at h1
                  obtain ⟨Au, cu, rfl⟩ := ownsRow_form hO
                  have HOw := Lib.hid hO
                  have HFBl := Lib.hid hFB
                  have v0 := cellOf hFB 0 (x := .int .i64 S) rfl
                  have v2 := cellOf hFB 2 (x := .slice Au j cu) rfl
                  obtain ⟨f, hf⟩ : ∃ f, findD seen (y + S - W) (y + S + W) = f := ⟨_, rfl⟩
                  have Hf := Lib.hid hf
                  have hwA : w.heap.size ≤ wA.heap.size := HBr.out.size
                  have CFD : Hid (∀ Y, Below wr.heap.size wr Y → Calls Try.prog 52 #[.slice A2 k c2, .int .i64 (y + S - W), .int .i64 (y + S + W)] Y fun e w' => e = .returned (.int .i64 f) ∧ Below wr.heap.size wr w' ∧ (w'.cell? ⟨b9, 0, none⟩ = some (.int .i64 S) ∧ w'.cell? ⟨g, o + j, none⟩ = some (.int .i64 y))) := fun Y hY => by
                    have hwY := HBw.out.trans (hY.mono HBw.out.size)
                    refine (CF.out Y _ _ hwY).mono ?_
                    rintro e w' ⟨rfl, rfl⟩
                    have hFB' := HFBl.out.below hY HFBl.out.lt
                    exact ⟨by rw [Hf.out], hY, cellOf hFB' 0 rfl, (hwY.cell (p := ⟨g, o + j, none⟩) hg).trans cy⟩
                  have HAp : Hid (∀ w5 w6 v', Below wr.heap.size wr w5 → (w5.alloc (.cells #[.int .i64 f] 3)).grownBy w6 (Value.slice Au j cu).ownBlock → w6.ownsRow wo.heap.size 3 1 v' (j + 1) (((fitTo marks W seen S).take j).map (Value.int .i64) ++ [.int .i64 f]) →
                      (w6.cell? ⟨b9, 0, none⟩ = some (.int .i64 S) ∧ w6.cell? ⟨g, o + j, none⟩ = some (.int .i64 y)) ∧ w6.cell? ⟨b9, 2, none⟩ = some (.slice Au j cu) ∧ w6.frozen? ⟨b9, 2, none⟩ = false ∧ b9 < w6.heap.size ∧ ((w6.setCell ⟨b9, 2, none⟩ v').cell? ⟨b9, 0, none⟩ = some (.int .i64 S) ∧ (w6.setCell ⟨b9, 2, none⟩ v').cell? ⟨g, o + j, none⟩ = some (.int .i64 y)) ∧ FSt marks W seen S C b9 wA wo (j + 1) (w6.setCell ⟨b9, 2, none⟩ v')) := fun w5 w6 v' h5 hg6 ho => by
                    have ho5 := ownsRow_below HOw.out h5
                    have hrow : ∀ q, (Value.slice Au j cu).ownBlock = some q → wo.heap.size ≤ q ∧ q < w5.heap.size := ho5.lt
                    have hF5 := HFBl.out.below h5 HFBl.out.lt
                    have hFne : some b9 ≠ (Value.slice Au j cu).ownBlock := fun e => by have := (hrow b9 e.symm).1; omega
                    have h56 : ∀ q, q < w5.heap.size → some q ≠ (Value.slice Au j cu).ownBlock → w6.heap[q]? = w5.heap[q]? := fun q hq hne => (hg6.block q (by simp; omega) hne).trans (Below.heap_alloc w5 _ q hq)
                    have hF6 : Blk w6 b9 55 #[.int .i64 S, .int .i64 C, .slice Au j cu] := (h56 b9 hF5.lt hFne).trans hF5
                    have hz5 := h5.size
                    have hz6 : w5.heap.size ≤ w6.heap.size := by have := hg6.size; simp at this; omega
                    have hA5 := HbA2.out.trans (h5.mono HbA2.out.size)
                    have hA6 : Below wA.heap.size wA w6 := (hA5.alloc hA5.size _).grown hg6 (by simp; have := hA5.size; omega) (fun q hq => by have := (hrow q hq).1; have := hb9o; omega)
                    have hw6 := HBr.out.trans (hA6.mono HBr.out.size)
                    have hA7 := hA6.setCell (p := ⟨b9, 2, none⟩) hb9' v'
                    have hw7 := HBr.out.trans (hA7.mono HBr.out.size)
                    have hF7 := hF6.put 2 v'
                    refine ⟨⟨cellOf hF6 0 rfl, (hw6.cell (p := ⟨g, o + j, none⟩) hg).trans cy⟩, cellOf hF6 2 rfl, hF6.frozen 2, hF6.lt, ⟨cellOf hF7 0 rfl, (hw7.cell (p := ⟨g, o + j, none⟩) hg).trans cy⟩, hA7, by simp [World.setCell]; omega, v', hF7, ?_⟩
                    have h1 : w6.ownsRow wo.heap.size 3 1 v' ((fitTo marks W seen S).take (j + 1)).length (((fitTo marks W seen S).take (j + 1)).map (Value.int .i64)) := by
                      rw [take_snoc_get (fitTo_at HL.out), Hf.out, List.length_append, List.length_take, fitTo_len, Hn.out, Nat.min_eq_left hj, List.map_append]
                      exact ho
                    exact ownsRow_keptBut h1 (KeptBut.setCell (S := fun q => q = b9) (p := ⟨b9, 2, none⟩) rfl _) fun g' cs hg' hB => by
                      rintro rfl
                      exact Blk.ne hB hF6 (by decide) rfl
                  clear hbA hFB hO hf hly hy cy
                  have nF1 : b9 ≠ g := by omega
                  have nF2 : g ≠ b9 := by omega
                  go_upto_region 29 with fail
                  go_region_held3 (fun X => X.cell? ⟨b9, 0, none⟩ = some (.int .i64 S) ∧ X.cell? ⟨g, o + j, none⟩ = some (.int .i64 y))
                    (first | exact hc5' | exact hS6 | exact hS7 | go_keep)
                    (first | (refine step_append_lies _ (by rfl) _ _ _ (by rfl) wo.heap.size 3 i0 (.int .i64 0) 1 8 sliceInts hi hz0 hz1' hz2 rfl (by decide) (.slice Au j cu) j _ (by rfl) (by first | exact (ownsRow_below HOw.out h5b).alloc _ | exact ((ownsRow_below HOw.out h5b).alloc _).drew) ⟨w5.heap.size, 0, none⟩ 1 1 [.int .i64 f] (by rfl) (by rfl) (World.news_of_block (cs := #[.int .i64 f]) (t := 3) (fr := (0, 0)) (heap_alloc_new w5 _)) (by simp [Value.oneCell']) (by omega) (by simp only [maxLen]; omega) (by omega) (by have := h5b.size; simp; omega) (w5.heap.size + 1) (by simp) ?_; intro g9 c9 w6 hown' hgrow hat hlt9; have hA6 := HAp.out w5 w6 _ h5b ⟨hgrow.os, hgrow.tape, hgrow.output, hgrow.size, hgrow.block⟩ hown'; have hS6 := hA6.1; have q4 := hA6.1.1; have q5 := hA6.1.2; have p2 := hA6.2.1; have p3 := hA6.2.2.1; have p4 := hA6.2.2.2.1; have hS7 := hA6.2.2.2.2.1) | (go_at_call 52; refine (CFD.out _ (by first | exact Below.refl _ _ | exact (Below.refl _ _).drew)).mono ?_; rintro e w5 ⟨rfl, h5b, hc5'⟩))
                  all_goals
                    clear kw1 kw2 kw3
                    go_wp2
                    go_roundw
                    case rel => exact ⟨j + 1, by omega, by go_num, hA6.2.2.2.2.2⟩
                    case measure => simp [intOf]; omega
                · have hj' : j = n := by omega
                  subst hj'
                  have hT : (fitTo marks W seen S).take j = fitD marks W seen := by
                    unfold fitD
                    rw [← HSb.out]
                    exact List.take_of_length_le (by rw [fitTo_len, Hn.out]; omega)
                  rw [hT] at hO
                  have hu4 : OInts w.heap.size wr u (fitD marks W seen) := ownsRow_base hO HBo.out.size
                  obtain ⟨l, hl⟩ : ∃ l, fitD marks W seen = l := ⟨_, rfl⟩
                  have HF : Hid (FitIs marks W seen S C l 0) := Or.inr (Or.inr (Or.inr ⟨HLen.out, HAl.out, HSe.out, HSb.out, HCb.out, hl.symm, rfl⟩))
                  rw [hl] at hu4
                  obtain ⟨Au, cu, rfl⟩ := ownsRow_form hu4
                  have hR4 := HRr.out.below hbA HRr.out.lt
                  have hF : ∃ w5, (((wr.setCell ⟨b1, 0, none⟩ (.int .i64 S)).setCell ⟨b1, 1, none⟩ (.int .i64 C)).setCell ⟨b1, 2, none⟩ (.slice Au l.length cu)) = w5 ∧ Blk w5 b1 55 #[.int .i64 S, .int .i64 C, .slice Au l.length cu] ∧ OInts w.heap.size w5 (.slice Au l.length cu) l ∧ Below w.heap.size w w5 := by
                    refine ⟨_, rfl, ((hR4.put 0 _).put 1 _).put 2 _, ?_, below_set3 HBw.out hbw _ _ _⟩
                    refine ownsRow_keptBut hu4 (S := fun q => q = b1) ?_ fun g' cs hg' hB => ?_
                    · exact ((KeptBut.setCell (S := fun q => q = b1) (p := ⟨b1, 0, none⟩) rfl _).trans (KeptBut.setCell (S := fun q => q = b1) (p := ⟨b1, 1, none⟩) rfl _) fun _ _ h => h).trans (KeptBut.setCell (S := fun q => q = b1) (p := ⟨b1, 2, none⟩) rfl _) fun _ _ h => h
                    · rintro rfl
                      exact Blk.ne hB hR4 (by decide) rfl
                  obtain ⟨w5, e5, R5, O5, B5⟩ := hF
                  have E5 := Lib.hid e5
                  have HR5 := Lib.hid R5
                  have HO5 := Lib.hid O5
                  have HB5 := Lib.hid B5
                  have r0 := cellOf hR4 0 (x := .int .i64 0) rfl
                  have r1 := cellOf hR4 1 (x := .int .i64 0) rfl
                  have r2 := cellOf hR4 2 (x := .slice none 0 0) rfl
                  have g0 := hR4.frozen 0
                  have g1 := hR4.frozen 1
                  have g2 := hR4.frozen 2
                  have v0 := cellOf hFB 0 (x := .int .i64 S) rfl
                  have v1 := cellOf hFB 1 (x := .int .i64 C) rfl
                  have v2 := cellOf hFB 2 (x := .slice Au l.length cu) rfl
                  clear e5 R5 O5 B5 hR4 hu4 hT hO hFB hl hbA
                  go_wp2
                  rw [E5.out]
                  have x0 := cellOf HR5.out 0 (x := .int .i64 S) rfl
                  have x1 := cellOf HR5.out 1 (x := .int .i64 C) rfl
                  have x2 := cellOf HR5.out 2 (x := .slice Au l.length cu) rfl
                  refine bodyPost_ret (v := .tuple #[.agg #[.int .i64 S, .int .i64 C, .slice Au l.length cu], .int .i64 0]) (by simp [results, Try.results28, go_sem, x0, x1, x2]) rfl ⟨⟨S, C, l, 0, _, rfl, HF.out, HO5.out⟩, HB5.out⟩
  · have HF : Hid (FitIs marks W seen 0 0 [] 2) := Or.inl ⟨fun h => hle (HLn.out.1 h), rfl, rfl, rfl, rfl⟩
    rcases (show (n : Int) < 2 ∨ (¬ (n : Int) < 2 ∧ (12 : Int) < (n : Int)) ∨ (¬ (n : Int) < 2 ∧ ¬ (12 : Int) < (n : Int) ∧ (40 : Int) < (n2 : Int)) by omega) with h1 | ⟨h1, h2⟩ | ⟨h1, h2, h3⟩
    all_goals
      clear hle
      obtain ⟨w5, e5, R5, B5⟩ := fit_zeroR HR1.out HB1.out hbw
      have E5 := Lib.hid e5
      have HR5 := Lib.hid R5
      have HB5 := Lib.hid B5
      have r0 := cellOf HR1.out 0 (x := .int .i64 0) rfl
      have r1 := cellOf HR1.out 1 (x := .int .i64 0) rfl
      have r2 := cellOf HR1.out 2 (x := .slice none 0 0) rfl
      have g0 := HR1.out.frozen 0
      have g1 := HR1.out.frozen 1
      have g2 := HR1.out.frozen 2
      clear e5 R5 B5
      go_wp2
      rw [E5.out]
      have x0 := cellOf HR5.out 0 (x := .int .i64 0) rfl
      have x1 := cellOf HR5.out 1 (x := .int .i64 0) rfl
      have x2 := cellOf HR5.out 2 (x := .slice none 0 0) rfl
      refine bodyPost_ret (v := .tuple #[.agg #[.int .i64 0, .int .i64 0, .slice none 0 0], .int .i64 2]) (by simp [results, Try.results28, go_sem, x0, x1, x2]) rfl ⟨FitRet.zero HF.out, HB5.out⟩
end Go.Proofs.Ytffodgpafiifcaa
