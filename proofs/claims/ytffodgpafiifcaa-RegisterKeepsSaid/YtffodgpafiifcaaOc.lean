/-
  The errors of what was found: layout.errors.
-/
import Derived.Test.YtffodgpafiifcaaOb
import Derived.Test.YtffodgpafiifcaaDe
namespace Go.Proofs.Ytffodgpafiifcaa
open Go.RowKit

def errD (marks found : List Int) (i : Nat) : Int := if found.getD (i + 1) 0 = lostD then lostD else found.getD (i + 1) 0 - found.getD 0 0 - (marks.getD (i + 1) 0 - marks.getD 0 0)
def errsD (marks found : List Int) (k : Nat) : List Int := (List.range k).map (errD marks found)
theorem errsD_len (marks found : List Int) (k : Nat) : (errsD marks found k).length = k := by simp [errsD]
theorem errsD_next (marks found : List Int) (k : Nat) : errsD marks found (k + 1) = errsD marks found k ++ [errD marks found k] := by unfold errsD; rw [List.range_succ, List.map_append]; rfl
def ErrSt (w1 : World) (marks found : List Int) (k : Nat) (u : Value) (X : World) : Prop := OInts w1.heap.size X u (errsD marks found k) ∧ Below w1.heap.size w1 X

set_option maxRecDepth 100000 in
set_option maxHeartbeats 4000000 in
theorem errors_any (vm vf : Value) (marks found : List Int) (W : Int) (w : World) (n : Nat) (hm : RInts w.heap.size w vm marks) (hf : RInts w.heap.size w vf found) (hlm : marks.length = n + 1) (hlf : found.length = n + 1) (hn : n ≤ 1000) (hn1 : 1 ≤ n) (hcap : ∀ A c, vf = .slice A (n + 1) c → n + 1 ≤ c)
    (hmb : ∀ x ∈ marks, 0 ≤ x ∧ x ≤ 100000) (hfb : ∀ x ∈ found, x = lostD ∨ (-100000 ≤ x ∧ x ≤ 200000)) (hf0 : ∀ x, found[0]? = some x → x ≠ lostD) :
    Calls Try.prog 57 #[.agg #[vm, .int .i64 W], vf] w fun e w' => ∃ u, e = .returned u ∧ OInts w.heap.size w' u (errsD marks found n) ∧ Below w.heap.size w w' := by
  have HM := Lib.hid hm
  have HF := Lib.hid hf
  obtain ⟨f0, hf0'⟩ : ∃ x, found[0]? = some x := ⟨_, List.getElem?_eq_getElem (by omega)⟩
  obtain ⟨m0, hm0'⟩ : ∃ x, marks[0]? = some x := ⟨_, List.getElem?_eq_getElem (by omega)⟩
  obtain ⟨AM, cM, rfl, -⟩ := slice_len hm
  obtain ⟨AF, cF, rfl, -⟩ := slice_len hf
  obtain ⟨gF, oF, rfl, hgF, cf0⟩ := hf.at hf0'
  obtain ⟨gM, oM, rfl, hgM, cm0⟩ := hm.at hm0'
  have hfne := hf0 f0 hf0'
  have hfb0 := (hfb f0 (List.mem_of_getElem? hf0')).resolve_left hfne
  have hmb0 := hmb m0 (List.mem_of_getElem? hm0')
  have hF0 : found.getD 0 0 = f0 := by rw [List.getD_eq_getElem?_getD, hf0']; rfl
  have hM0 : marks.getD 0 0 = m0 := by rw [List.getD_eq_getElem?_getD, hm0']; rfl
  have HF0 := Lib.hid hF0
  have HM0 := Lib.hid hM0
  have HMB := Lib.hid hmb
  have HFB := Lib.hid hfb
  have HLM := Lib.hid hlm
  have HLF := Lib.hid hlf
  rw [hlm, hlf]
  have HM : Hid (RInts w.heap.size w (.slice (some ⟨gM, oM, none⟩) (n + 1) cM) marks) := Lib.hid (by rw [hlm] at hm; exact hm)
  have HF : Hid (RInts w.heap.size w (.slice (some ⟨gF, oF, none⟩) (n + 1) cF) found) := Lib.hid (by rw [hlf] at hf; exact hf)
  have hcF : n + 1 ≤ cF := hcap _ cF (by rw [hlf])
  have hc1 : ¬ cF = 1 := by omega
  clear hcap
  obtain ⟨w1, e1, B1, K1⟩ : ∃ w1, w.alloc (.cells #[.slice (some ⟨gM, oM, none⟩) (n + 1) cM, .int .i64 W] 87) = w1 ∧ Below w.heap.size w w1 ∧ Blk w1 w.heap.size 87 #[.slice (some ⟨gM, oM, none⟩) (n + 1) cM, .int .i64 W] := ⟨_, rfl, below_alloc _ _, Blk.new _ _ _⟩
  have E1 := Lib.hid e1
  have HB1 := Lib.hid B1
  have HK1 := Lib.hid K1
  clear hm hf hlm hlf hmb hfb hf0 hf0' hm0' hF0 hM0 e1 B1 K1
  obtain ⟨i0, hi, hz0, hz1, hz2⟩ := info_parts infoInt0
  go_enter Try.func57, Try.ntmps57
  go_upto_region 2 with fail
  rw [E1.out]
  go_wp2
  go_loopw [5, 6, 7, 11] (fun u _ _ iq wr => ∃ k : Nat, k ≤ n ∧ iq = .int .i64 k ∧ ErrSt w1 marks found k u wr) (fun _ _ _ iq _ => n - (intOf iq).toNat)
  case atStart => exact ⟨0, Nat.zero_le _, rfl, World.ownsRow_nil _ _ _ _, Below.refl _ _⟩
  case round =>
    obtain ⟨k, hk, rfl, hst⟩ := hrel
    obtain ⟨Au, cu, rfl⟩ : ∃ A c, u5 = .slice A k c := by
      obtain ⟨A, c, e⟩ := ownsRow_form hst.1
      rw [errsD_len] at e
      exact ⟨A, c, e⟩
    have HST := Lib.hid hst
    have HR6 : Hid (wr.ownsRow w1.heap.size 3 1 (.slice Au k cu) k ((errsD marks found k).map (Value.int .i64))) := Lib.hid (by
      have h9 := hst.1
      unfold OInts at h9
      rw [errsD_len] at h9
      exact h9)
    have hww : Below w.heap.size w wr := HB1.out.trans (hst.2.mono HB1.out.size)
    by_cases hlt : k < n
    · obtain ⟨x, hx⟩ : ∃ x, found[k + 1]? = some x := ⟨_, List.getElem?_eq_getElem (by rw [HLF.out]; omega)⟩
      obtain ⟨y, hy⟩ : ∃ y, marks[k + 1]? = some y := ⟨_, List.getElem?_eq_getElem (by rw [HLM.out]; omega)⟩
      have hxb := HFB.out x (List.mem_of_getElem? hx)
      have hyb := HMB.out y (List.mem_of_getElem? hy)
      have hX : found.getD (k + 1) 0 = x := by rw [List.getD_eq_getElem?_getD, hx]; rfl
      have hY : marks.getD (k + 1) 0 = y := by rw [List.getD_eq_getElem?_getD, hy]; rfl
      obtain ⟨g', o', e', -, cx⟩ := HF.out.at hx
      cases e'
      obtain ⟨g', o', e', -, cy⟩ := HM.out.at hy
      cases e'
      have cx' := (hww.cell (p := ⟨gF, oF + (k + 1), none⟩) hgF).trans cx
      rw [show oF + (k + 1) = oF + 1 + k by omega] at cx'
      have cy' := (hww.cell (p := ⟨gM, oM + (k + 1), none⟩) hgM).trans cy
      have cf0' := (hww.cell (p := ⟨gF, oF + 0, none⟩) hgF).trans cf0
      have cm0' := (hww.cell (p := ⟨gM, oM + 0, none⟩) hgM).trans cm0
      rw [Nat.add_zero] at cf0' cm0'
      have hK := HK1.out.below hst.2 HK1.out.lt
      have d0 := cellOf hK 0 (x := .slice (some ⟨gM, oM, none⟩) (n + 1) cM) rfl
      have hzr := hst.2.size
      have hED : errD marks found k = if x = lostD then lostD else x - f0 - (y - m0) := by unfold errD; rw [hX, hY, HF0.out, HM0.out]
      have HED := Lib.hid hED
      have ik : (k : Int) < (n : Int) := by omega
      have ik1 : (k : Int) + 1 < (n : Int) + 1 := by omega
      have in0 : (0 : Int) < (n : Int) + 1 := by omega
      have HNext : Hid (∀ (g c : Nat) (w6 : World) (z : Int), errD marks found k = z → w6.ownsRow w1.heap.size 3 1 (.slice (some ⟨g, 0, none⟩) (k + 1) c) (k + 1) ((errsD marks found k).map (Value.int .i64) ++ [.int .i64 z]) → (wr.alloc (.cells #[.int .i64 z] 3)).grownBy w6 (Value.slice Au k cu).ownBlock → ErrSt w1 marks found (k + 1) (.slice (some ⟨g, 0, none⟩) (k + 1) c) w6) := Lib.hid fun g c w6 z hz hown hg => by
        refine ⟨?_, (HST.out.2.alloc HST.out.2.size _).grown hg (by have := HST.out.2.size; simp; omega) fun j hj => (HR6.out.lt j hj).1⟩
        rw [errsD_next, hz]
        unfold OInts
        rw [List.map_append, List.length_append, errsD_len]
        exact hown
      clear hst hww cx cy hx hy hX hY hK hED
      by_cases hxl : x = 1000000000
      · subst hxl
        have hz : errD marks found k = 1000000000 := by rw [HED.out]; rfl
        have HZ := Lib.hid hz
        clear hz hxb
        go_wp2_with (at_builtin; refine wpList_append_lies _ rfl _ _ 24 rfl w1.heap.size 3 i0 _ 1 8 sliceInts hi hz0 hz1 hz2 rfl (by decide) (.slice Au k cu) k _ rfl (HR6.out.alloc _) ⟨wr.heap.size, 0, none⟩ 1 1 [.int .i64 1000000000] rfl rfl (cells_new _ _ _) (by simp [Value.oneCell']) (by omega) (by simp only [maxLen]; omega) (by omega) (by simp; omega) (wr.heap.size + 1) (by simp) ?_; intro g8 c8 w7 hown hgrow hat hlt7; have HN7 := Lib.hid (HNext.out g8 c8 w7 _ HZ.out hown hgrow); clear hown hgrow hat hlt7)
        go_roundw
        case rel => exact ⟨k + 1, by omega, by go_num, HN7.out⟩
        case measure => simp [intOf]; omega
      · have hxb' := hxb.resolve_left hxl
        have hz : errD marks found k = x - f0 - (y - m0) := HED.out.trans (if_neg hxl)
        have HZ := Lib.hid hz
        have kw1 : IntKind.i64.wrap (x - f0) = x - f0 := IntWalk.i64_in _ ⟨by omega, by omega⟩
        have kw2 : IntKind.i64.wrap (y - m0) = y - m0 := IntWalk.i64_in _ ⟨by omega, by omega⟩
        have kw3 : IntKind.i64.wrap (x - f0 - (y - m0)) = x - f0 - (y - m0) := IntWalk.i64_in _ ⟨by omega, by omega⟩
        have kw4 : IntKind.i64.wrap ((k : Int) + 1) = (k : Int) + 1 := IntWalk.i64_in _ ⟨by omega, by omega⟩
        have k0 : (0 : Int) ≤ (k : Int) + 1 := by omega
        clear hz hxb
        go_upto_region 7 with fail
        go_region_law (first | (refine step_append_lies _ (by rfl) _ _ _ (by rfl) w1.heap.size 3 i0 (.int .i64 0) 1 8 sliceInts hi hz0 hz1 hz2 rfl (by decide) (.slice Au k cu) k _ (by rfl) (by first | exact HR6.out.alloc _ | exact (HR6.out.alloc _).drew) ⟨wr.heap.size, 0, none⟩ 1 1 [.int .i64 (x - f0 - (y - m0))] (by rfl) (by rfl) (World.news_of_block (cs := #[.int .i64 (x - f0 - (y - m0))]) (t := 3) (fr := (0, 0)) (heap_alloc_new wr _)) (by simp [Value.oneCell']) (by omega) (by simp only [maxLen]; omega) (by omega) (by simp; omega) (wr.heap.size + 1) (by simp) ?_; intro g8 c8 w7 hown hgrow hat hlt7; have HN7 := Lib.hid (HNext.out g8 c8 w7 _ HZ.out hown ⟨hgrow.os, hgrow.tape, hgrow.output, hgrow.size, hgrow.block⟩); clear hown hgrow hat hlt7))
        all_goals
          refine NoPanic.normal ?_
          go_wp2
          go_roundw
          case rel => exact ⟨k + 1, by omega, by go_num, HN7.out⟩
          case measure => simp [intOf]; omega
    · obtain rfl : n = k := by omega
      have HEnd := Lib.hid hst
      clear hst
      go_wp2
      go_ret
      exact ⟨_, rfl, ownsRow_base HEnd.out.1 HB1.out.size, HB1.out.trans (HEnd.out.2.mono HB1.out.size)⟩
end Go.Proofs.Ytffodgpafiifcaa
