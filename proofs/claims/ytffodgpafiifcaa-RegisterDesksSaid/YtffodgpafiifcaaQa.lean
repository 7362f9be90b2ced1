/-
  sameCopy of two copies that are alike; the reference's New.
-/
import Derived.Test.YtffodgpafiifcaaOi
import Derived.Test.YtffodgpafiifcaaIb
import Derived.Test.YtffodgpafiifcaaJa
namespace Go.Proofs.Ytffodgpafiifcaa
open Go.RowKit

theorem sameInts_one (a b : Value) (l : List Int) (w : World) (ha : RInts w.heap.size w a l) (hb : RInts w.heap.size w b l) :
    Calls Try.prog 24 #[a, b] w fun e w' => e = .returned (.bool true) ∧ Below w.heap.size w w' := by
  refine (sameInts_any a b l l w ha hb).mono ?_
  rintro e w' ⟨rfl, h⟩
  exact ⟨by simp, h⟩

set_option maxRecDepth 100000 in
set_option maxHeartbeats 4000000 in
theorem sameCopy_yes (g : Bool) (s : Int) (ae am be bm : Value) (er mo : List Int) (w : World) (h1 : RInts w.heap.size w ae er) (h2 : RInts w.heap.size w am mo) (h3 : RInts w.heap.size w be er) (h4 : RInts w.heap.size w bm mo) :
    Calls Try.prog 34 #[.agg #[.bool g, .int .i64 s, ae, am], .agg #[.bool g, .int .i64 s, be, bm]] w fun e w' => e = .returned (.bool true) ∧ Below w.heap.size w w' := by
  obtain ⟨A1, n1, c1, rfl⟩ : ∃ A n c, ae = .slice A n c := by obtain ⟨A, c, e, -⟩ := h1; exact ⟨A, _, c, e⟩
  obtain ⟨A2, n2, c2, rfl⟩ : ∃ A n c, am = .slice A n c := by obtain ⟨A, c, e, -⟩ := h2; exact ⟨A, _, c, e⟩
  obtain ⟨A3, n3, c3, rfl⟩ : ∃ A n c, be = .slice A n c := by obtain ⟨A, c, e, -⟩ := h3; exact ⟨A, _, c, e⟩
  obtain ⟨A4, n4, c4, rfl⟩ : ∃ A n c, bm = .slice A n c := by obtain ⟨A, c, e, -⟩ := h4; exact ⟨A, _, c, e⟩
  obtain ⟨w1, e1, B1, K1, K2⟩ : ∃ w1, (w.alloc (.cells #[.bool g, .int .i64 s, .slice A1 n1 c1, .slice A2 n2 c2] 72)).alloc (.cells #[.bool g, .int .i64 s, .slice A3 n3 c3, .slice A4 n4 c4] 75) = w1 ∧ Below w.heap.size w w1 ∧ Blk w1 w.heap.size 72 #[.bool g, .int .i64 s, .slice A1 n1 c1, .slice A2 n2 c2] ∧ Blk w1 (w.heap.size + 1) 75 #[.bool g, .int .i64 s, .slice A3 n3 c3, .slice A4 n4 c4] :=
    ⟨_, rfl, (below_alloc _ _).trans ((below_alloc _ _).mono (by simp)), (Blk.new _ _ _).alloc _, blk_new (by simp) _ _⟩
  have E1 := Lib.hid e1
  have HB1 := Lib.hid B1
  have HK1 := Lib.hid K1
  have HK2 := Lib.hid K2
  have C1 := Lib.hid (sameInts_one _ _ er w1 ((h1.below B1).more B1.size) ((h3.below B1).more B1.size))
  have C2 := Lib.hid (fun (X : World) (hX : Below w.heap.size w X) => sameInts_one _ _ mo X ((h2.below hX).more hX.size) ((h4.below hX).more hX.size))
  have a0 := cellOf K1 0 (x := .bool g) rfl
  have a1 := cellOf K1 1 (x := .int .i64 s) rfl
  have a2 := cellOf K1 2 (x := .slice A1 n1 c1) rfl
  have b0 := cellOf K2 0 (x := .bool g) rfl
  have b1 := cellOf K2 1 (x := .int .i64 s) rfl
  have b2 := cellOf K2 2 (x := .slice A3 n3 c3) rfl
  clear h1 h2 h3 h4 e1 B1 K1 K2
  go_enter Try.func34, Try.ntmps34
  go_upto_region 1 with fail
  rw [E1.out]
  go_wp2_with fail
  refine C1.out.mono ?_
  rintro _ w2 ⟨rfl, hb2⟩
  have hK1 := HK1.out.below hb2 HK1.out.lt
  have hK2 := HK2.out.below hb2 HK2.out.lt
  have HB2 := Lib.hid (HB1.out.trans (hb2.mono HB1.out.size))
  clear a0 a1 a2 b0 b1 b2 hb2 C1
  have a3 := cellOf hK1 3 (x := .slice A2 n2 c2) rfl
  have b3 := cellOf hK2 3 (x := .slice A4 n4 c4) rfl
  have C3 := Lib.hid (C2.out w2 HB2.out)
  clear hK1 hK2 C2
  go_wp2_with fail
  refine C3.out.mono ?_
  rintro _ w3 ⟨rfl, hb3⟩
  have HB3 := Lib.hid (HB2.out.trans (hb3.mono HB2.out.size))
  clear hb3 a3 b3
  go_wp2
  go_ret
  exact ⟨rfl, HB3.out⟩

theorem desk_set {w X : World} {b : Nat} {cs : Array Value} (hc : cs.size = 5) (K : Blk X b 68 cs) (B : Below w.heap.size w X) (hb : w.heap.size ≤ b) (x0 x1 x2 x3 x4 : Value) :
    ∃ Y, (((((X.setCell ⟨b, 0, none⟩ x0).setCell ⟨b, 1, none⟩ x1).setCell ⟨b, 2, none⟩ x2).setCell ⟨b, 3, none⟩ x3).setCell ⟨b, 4, none⟩ x4) = Y ∧ Blk Y b 68 #[x0, x1, x2, x3, x4] ∧ Below w.heap.size w Y := by
  obtain ⟨a, b', c, d, e, rfl⟩ : ∃ a b' c d e, cs = #[a, b', c, d, e] := by
    rcases cs with ⟨l⟩
    match l, hc with
    | [a, b', c, d, e], _ => exact ⟨a, b', c, d, e, rfl⟩
  exact ⟨_, rfl, ((((K.put 0 _).put 1 _).put 2 _).put 3 _).put 4 _, below_far (below_set4 B hb _ _ _ _) hb⟩
def zeroDesk : Value := .agg #[.slice none 0 0, .slice none 0 0, .int .i64 0, .int .i64 0, .slice none 0 0]
def RefNewRet (vm vl : Value) (marks : List Int) (loops : List LoopD) (W limit : Int) (w : World) (e : Ending) (w' : World) : Prop :=
  ∃ (code : Int) (x : Value), NewIs marks loops W limit code ∧ (code = 0 → x = .agg #[vm, vl, .int .i64 W, .int .i64 limit, .slice none 0 0]) ∧ (code ≠ 0 → x = zeroDesk) ∧ e = .returned (.tuple #[x, .int .i64 code]) ∧ Below w.heap.size w w'

set_option maxRecDepth 100000 in
set_option maxHeartbeats 8000000 in
theorem refNew_any (vm vl : Value) (marks : List Int) (loops : List LoopD) (W limit : Int) (w : World) (hm : RInts w.heap.size w vm marks) (hl : RLoops w.heap.size w vl loops) (hlm : marks.length ≤ 1000000) (hll : loops.length ≤ 1000000) :
    Calls Try.prog 31 #[vm, vl, .int .i64 W, .int .i64 limit] w (RefNewRet vm vl marks loops W limit w) := by
  have HM := Lib.hid hm
  have HL := Lib.hid hl
  obtain ⟨Am, cm, rfl, -⟩ := slice_len hm
  obtain ⟨Al, cl, rfl, -⟩ := slice_len hl
  obtain ⟨nm, hnm⟩ : ∃ n, marks.length = n := ⟨_, rfl⟩
  obtain ⟨nl, hnl⟩ : ∃ n, loops.length = n := ⟨_, rfl⟩
  have HNM := Lib.hid hnm
  have HNL := Lib.hid hnl
  rw [hnm] at hlm HM ⊢
  rw [hnl] at hll HL ⊢
  obtain ⟨b8, hb8⟩ : ∃ b, w.heap.size = b := ⟨_, rfl⟩
  obtain ⟨w1, e1, B1, K1⟩ : ∃ w1, w.alloc (.cells #[.slice none 0 0, .slice none 0 0, .int .i64 0, .int .i64 0, .slice none 0 0] 68) = w1 ∧ Below w.heap.size w w1 ∧ Blk w1 b8 68 #[.slice none 0 0, .slice none 0 0, .int .i64 0, .int .i64 0, .slice none 0 0] := ⟨_, rfl, below_alloc _ _, hb8 ▸ Blk.new _ _ _⟩
  have E1 := Lib.hid e1
  have HB1 := Lib.hid B1
  have HK1 := Lib.hid K1
  have H8 : Hid (w.heap.size ≤ b8) := Lib.hid (by omega)
  clear hm hl hnm hnl e1 B1 K1
  have HEnd : Hid (∀ (X : World) (cs : Array Value), cs.size = 5 → Blk X b8 68 cs → Below w.heap.size w X → ∀ x0 x1 x2 x3 x4, ∃ Y, (((((X.setCell ⟨b8, 0, none⟩ x0).setCell ⟨b8, 1, none⟩ x1).setCell ⟨b8, 2, none⟩ x2).setCell ⟨b8, 3, none⟩ x3).setCell ⟨b8, 4, none⟩ x4) = Y ∧ Blk Y b8 68 #[x0, x1, x2, x3, x4] ∧ Below w.heap.size w Y) := Lib.hid fun X cs hc hK hB => desk_set hc hK hB H8.out
  go_enter Try.func31, Try.ntmps31
  go_upto_region 1 with fail
  rw [E1.out]
  clear hb8 E1
  by_cases hmany : 2 ≤ nm ∧ nm ≤ 12
  case neg =>
    have HI : Hid (NewIs marks loops W limit 2) := Lib.hid (.inl ⟨by rw [HNM.out]; exact hmany, rfl⟩)
    obtain ⟨Y, eY, hY, hBY⟩ := HEnd.out w1 _ rfl HK1.out HB1.out (.slice none 0 0) (.slice none 0 0) (.int .i64 0) (.int .i64 0) (.slice none 0 0)
    have EY := Lib.hid eY
    have HBY := Lib.hid hBY
    have k0 := HK1.out.frozen 0
    have k1 := HK1.out.frozen 1
    have k2 := HK1.out.frozen 2
    have k3 := HK1.out.frozen 3
    have k4 := HK1.out.frozen 4
    have r0 := cellOf HK1.out 0 (x := .slice none 0 0) rfl
    have r1 := cellOf HK1.out 1 (x := .slice none 0 0) rfl
    have r2 := cellOf HK1.out 2 (x := .int .i64 0) rfl
    have r3 := cellOf HK1.out 3 (x := .int .i64 0) rfl
    have r4 := cellOf HK1.out 4 (x := .slice none 0 0) rfl
    have HKY := Lib.hid hY
    clear eY hBY hY
    have hcase : nm < 2 ∨ (2 ≤ nm ∧ 12 < nm) := by omega
    rcases hcase with h9 | ⟨h9, h10⟩
    · have i1 : (nm : Int) < 2 := by omega
      clear h9 hmany
      go_wp2
      rw [EY.out]
      have x0 := cellOf HKY.out 0 (x := .slice none 0 0) rfl
      have x1 := cellOf HKY.out 1 (x := .slice none 0 0) rfl
      have x2 := cellOf HKY.out 2 (x := .int .i64 0) rfl
      have x3 := cellOf HKY.out 3 (x := .int .i64 0) rfl
      have x4 := cellOf HKY.out 4 (x := .slice none 0 0) rfl
      refine bodyPost_ret (v := .tuple #[zeroDesk, .int .i64 2]) (by simp [results, Try.results31, go_sem, x0, x1, x2, x3, x4, zeroDesk]) rfl ⟨2, _, HI.out, fun h => by omega, fun _ => rfl, rfl, HBY.out⟩
    · have i1 : ¬ (nm : Int) < 2 := by omega
      have i2 : (12 : Int) < (nm : Int) := by omega
      clear h9 h10 hmany
      go_wp2
      rw [EY.out]
      have x0 := cellOf HKY.out 0 (x := .slice none 0 0) rfl
      have x1 := cellOf HKY.out 1 (x := .slice none 0 0) rfl
      have x2 := cellOf HKY.out 2 (x := .int .i64 0) rfl
      have x3 := cellOf HKY.out 3 (x := .int .i64 0) rfl
      have x4 := cellOf HKY.out 4 (x := .slice none 0 0) rfl
      refine bodyPost_ret (v := .tuple #[zeroDesk, .int .i64 2]) (by simp [results, Try.results31, go_sem, x0, x1, x2, x3, x4, zeroDesk]) rfl ⟨2, _, HI.out, fun h => by omega, fun _ => rfl, rfl, HBY.out⟩
  have HMany : Hid (2 ≤ marks.length ∧ marks.length ≤ 12) := Lib.hid (by rw [HNM.out]; exact hmany)
  have i1 : ¬ (nm : Int) < 2 := by omega
  have i2 : ¬ (12 : Int) < (nm : Int) := by omega
  go_wp2
  go_loopw [10] (fun iq wr => ∃ k : Nat, k ≤ nl ∧ iq = .int .i64 k ∧ (∀ l ∈ loops.take k, LoopOk l) ∧ Below w1.heap.size w1 wr) (fun iq _ => nl - (intOf iq).toNat)
  case atStart => exact ⟨0, Nat.zero_le _, rfl, by simp, Below.refl _ _⟩
  case round =>
    obtain ⟨k, hk, rfl, hok, hb⟩ := hrel
    have HOks := Lib.hid hok
    have HBr := Lib.hid hb
    have hww := HB1.out.trans (hb.mono HB1.out.size)
    have HWw := Lib.hid hww
    have HKr := Lib.hid (HK1.out.below hb HK1.out.lt)
    clear hok
    by_cases hlt : k < nl
    · obtain ⟨l, hl⟩ : ∃ l, loops[k]? = some l := ⟨_, List.getElem?_eq_getElem (by rw [HNL.out]; exact hlt)⟩
      obtain ⟨g, o, rfl, hg, c0, c1, c2, c3⟩ := HL.out.at hl
      have c0' := (hww.cell (p := ⟨g, o + k * 4, none⟩) hg).trans c0
      have c1' := (hww.cell (p := ⟨g, o + k * 4 + 1, none⟩) hg).trans c1
      have c2' := (hww.cell (p := ⟨g, o + k * 4 + 2, none⟩) hg).trans c2
      have c3' := (hww.cell (p := ⟨g, o + k * 4 + 3, none⟩) hg).trans c3
      have CK := Lib.hid (refCheck_any l wr)
      unfold LoopD.val at CK
      have HLk := Lib.hid hl
      have ik : (k : Int) < (nl : Int) := by omega
      clear hl c0 c1 c2 c3 hb hww
      by_cases hlo : LoopOk l
      · have hce := checkE_ok hlo
        rw [hce] at CK
        have HNext : Hid (∀ x ∈ loops.take (k + 1), LoopOk x) := Lib.hid fun x hx => by
          rw [take_one HLk.out] at hx
          rcases List.mem_append.1 hx with hx | hx
          · exact HOks.out x hx
          · rw [List.mem_singleton] at hx
            subst hx
            exact hlo
        go_wp2_with fail
        refine CK.out.mono ?_
        rintro _ w5 ⟨rfl, hb5⟩
        have HB5 := Lib.hid (HBr.out.trans (hb5.mono HBr.out.size))
        clear hb5 c0' c1' c2' c3'
        go_wp2
        go_roundw
        case rel => exact ⟨k + 1, by omega, by go_num, HNext.out, HB5.out⟩
        case measure => simp [intOf]; omega
      · have hce := checkE_no hlo
        rw [hce] at CK
        have HI : Hid (NewIs marks loops W limit 60) := Lib.hid (.inr (.inl ⟨HMany.out, ⟨l, List.mem_of_getElem? HLk.out, hlo⟩, rfl⟩))
        go_wp2_with fail
        refine CK.out.mono ?_
        rintro _ w5 ⟨rfl, hb5⟩
        have hK5 := HKr.out.below hb5 HKr.out.lt
        obtain ⟨Y, eY, hY, hBY⟩ := HEnd.out w5 _ rfl hK5 (HWw.out.trans (hb5.mono HWw.out.size)) (.slice none 0 0) (.slice none 0 0) (.int .i64 0) (.int .i64 0) (.slice none 0 0)
        have EY := Lib.hid eY
        have HBY := Lib.hid hBY
        have k0 := hK5.frozen 0
        have k1 := hK5.frozen 1
        have k2 := hK5.frozen 2
        have k3 := hK5.frozen 3
        have k4 := hK5.frozen 4
        have r0 := cellOf hK5 0 (x := .slice none 0 0) rfl
        have r1 := cellOf hK5 1 (x := .slice none 0 0) rfl
        have r2 := cellOf hK5 2 (x := .int .i64 0) rfl
        have r3 := cellOf hK5 3 (x := .int .i64 0) rfl
        have r4 := cellOf hK5 4 (x := .slice none 0 0) rfl
        have HKY := Lib.hid hY
        clear eY hBY hY hK5 hb5 c0' c1' c2' c3'
        go_wp2
        rw [EY.out]
        have x0 := cellOf HKY.out 0 (x := .slice none 0 0) rfl
        have x1 := cellOf HKY.out 1 (x := .slice none 0 0) rfl
        have x2 := cellOf HKY.out 2 (x := .int .i64 0) rfl
        have x3 := cellOf HKY.out 3 (x := .int .i64 0) rfl
        have x4 := cellOf HKY.out 4 (x := .slice none 0 0) rfl
        refine bodyPost_ret (v := .tuple #[zeroDesk, .int .i64 60]) (by simp [results, Try.results31, go_sem, x0, x1, x2, x3, x4, zeroDesk]) rfl ⟨60, _, HI.out, fun h => by omega, fun _ => rfl, rfl, HBY.out⟩
    · obtain rfl : nl = k := by omega
      have HAll : Hid (∀ l ∈ loops, LoopOk l) := Lib.hid (by
        have h9 := HOks.out
        rw [← HNL.out, List.take_of_length_le (Nat.le_refl _)] at h9
        exact h9)
      obtain ⟨w4, hw4⟩ : ∃ X, X = wr := ⟨_, rfl⟩
      subst hw4
      clear hb hww HOks hk hlt
      by_cases hlen : nl + 1 = nm
      case neg =>
        have HI : Hid (NewIs marks loops W limit 1) := Lib.hid (.inr (.inr (.inl ⟨HMany.out, HAll.out, by rw [HNL.out, HNM.out]; exact hlen, rfl⟩)))
        have hne : ¬ (nl : Int) + 1 = (nm : Int) := by omega
        have hne2 : ((nl : Int) + 1 != (nm : Int)) = true := by simpa using hne
        obtain ⟨Y, eY, hY, hBY⟩ := HEnd.out w4 _ rfl HKr.out HWw.out (.slice none 0 0) (.slice none 0 0) (.int .i64 0) (.int .i64 0) (.slice none 0 0)
        have EY := Lib.hid eY
        have HBY := Lib.hid hBY
        have k0 := HKr.out.frozen 0
        have k1 := HKr.out.frozen 1
        have k2 := HKr.out.frozen 2
        have k3 := HKr.out.frozen 3
        have k4 := HKr.out.frozen 4
        have r0 := cellOf HKr.out 0 (x := .slice none 0 0) rfl
        have r1 := cellOf HKr.out 1 (x := .slice none 0 0) rfl
        have r2 := cellOf HKr.out 2 (x := .int .i64 0) rfl
        have r3 := cellOf HKr.out 3 (x := .int .i64 0) rfl
        have r4 := cellOf HKr.out 4 (x := .slice none 0 0) rfl
        have HKY := Lib.hid hY
        have kn : IntKind.i64.wrap ((nl : Int) + 1) = (nl : Int) + 1 := IntWalk.i64_in _ ⟨by omega, by omega⟩
        clear eY hBY hY hlen
        go_wp2
        rw [EY.out]
        have x0 := cellOf HKY.out 0 (x := .slice none 0 0) rfl
        have x1 := cellOf HKY.out 1 (x := .slice none 0 0) rfl
        have x2 := cellOf HKY.out 2 (x := .int .i64 0) rfl
        have x3 := cellOf HKY.out 3 (x := .int .i64 0) rfl
        have x4 := cellOf HKY.out 4 (x := .slice none 0 0) rfl
        refine bodyPost_ret (v := .tuple #[zeroDesk, .int .i64 1]) (by simp [results, Try.results31, go_sem, x0, x1, x2, x3, x4, zeroDesk]) rfl ⟨1, _, HI.out, fun h => by omega, fun _ => rfl, rfl, HBY.out⟩
      have hne : (nl : Int) + 1 = (nm : Int) := by omega
      have hne2 : ((nl : Int) + 1 != (nm : Int)) = false := by simpa using hne
      have HLen : Hid (loops.length + 1 = marks.length) := Lib.hid (by rw [HNL.out, HNM.out]; exact hlen)
      have kn : IntKind.i64.wrap ((nl : Int) + 1) = (nm : Int) := by rw [hne]; exact IntWalk.i64_in _ ⟨by omega, by omega⟩
      have CW := Lib.hid (refWrong_any (.slice Am nm cm) marks W w4 ((RInts.below HM.out HWw.out).more HWw.out.size) (by rw [HNM.out]; omega))
      clear hne hne2 hlen
      go_wp2_with fail
      refine CW.out.mono ?_
      rintro _ w5 ⟨⟨b, rfl, hbb⟩, hb5⟩
      have HBB := Lib.hid hbb
      have HB5 := Lib.hid (HWw.out.trans (hb5.mono HWw.out.size))
      have hK5 := HKr.out.below hb5 HKr.out.lt
      have k0 := hK5.frozen 0
      have k1 := hK5.frozen 1
      have k2 := hK5.frozen 2
      have k3 := hK5.frozen 3
      have k4 := hK5.frozen 4
      have r0 := cellOf hK5 0 (x := .slice none 0 0) rfl
      have r1 := cellOf hK5 1 (x := .slice none 0 0) rfl
      have r2 := cellOf hK5 2 (x := .int .i64 0) rfl
      have r3 := cellOf hK5 3 (x := .int .i64 0) rfl
      have r4 := cellOf hK5 4 (x := .slice none 0 0) rfl
      have HK5 := Lib.hid hK5
      clear CW hbb hb5 hK5
      by_cases hgood : b = false ∧ 0 ≤ limit ∧ limit ≤ 1000000
      case neg =>
        have HI : Hid (NewIs marks loops W limit 6) := Lib.hid (.inr (.inr (.inr (.inl ⟨HMany.out, HAll.out, HLen.out, fun h => hgood ⟨by
          cases b with
          | false => rfl
          | true => exact absurd h.1 (HBB.out.1 rfl), h.2⟩, rfl⟩))))
        obtain ⟨Y, eY, hY, hBY⟩ := HEnd.out w5 _ rfl HK5.out HB5.out (.slice none 0 0) (.slice none 0 0) (.int .i64 0) (.int .i64 0) (.slice none 0 0)
        have EY := Lib.hid eY
        have HBY := Lib.hid hBY
        have HKY := Lib.hid hY
        have x0 := cellOf hY 0 (x := .slice none 0 0) rfl
        have x1 := cellOf hY 1 (x := .slice none 0 0) rfl
        have x2 := cellOf hY 2 (x := .int .i64 0) rfl
        have x3 := cellOf hY 3 (x := .int .i64 0) rfl
        have x4 := cellOf hY 4 (x := .slice none 0 0) rfl
        clear eY hBY hY
        have hthree : b = true ∨ (b = false ∧ limit < 0) ∨ (b = false ∧ 0 ≤ limit ∧ 1000000 < limit) := by
          cases b
          · simp at hgood ⊢; omega
          · exact .inl rfl
        rcases hthree with rfl | ⟨rfl, h9⟩ | ⟨rfl, h9, h10⟩
        · clear hgood
          go_wp2
          rw [EY.out]
          refine bodyPost_ret (v := .tuple #[zeroDesk, .int .i64 6]) (by simp [results, Try.results31, go_sem, x0, x1, x2, x3, x4, zeroDesk]) rfl ⟨6, _, HI.out, fun h => by omega, fun _ => rfl, rfl, HBY.out⟩
        · clear hgood
          go_wp2
          rw [EY.out]
          refine bodyPost_ret (v := .tuple #[zeroDesk, .int .i64 6]) (by simp [results, Try.results31, go_sem, x0, x1, x2, x3, x4, zeroDesk]) rfl ⟨6, _, HI.out, fun h => by omega, fun _ => rfl, rfl, HBY.out⟩
        · have h11 : ¬ limit < 0 := by omega
          clear hgood
          go_wp2
          rw [EY.out]
          refine bodyPost_ret (v := .tuple #[zeroDesk, .int .i64 6]) (by simp [results, Try.results31, go_sem, x0, x1, x2, x3, x4, zeroDesk]) rfl ⟨6, _, HI.out, fun h => by omega, fun _ => rfl, rfl, HBY.out⟩
      obtain ⟨rfl, hl1, hl2⟩ := hgood
      have HAllow : Hid (AllowOk marks W) := Lib.hid (Classical.byContradiction fun h => by cases HBB.out.2 h)
      have HI : Hid (NewIs marks loops W limit 0) := Lib.hid (.inr (.inr (.inr (.inr ⟨HMany.out, HAll.out, HLen.out, ⟨HAllow.out, hl1, hl2⟩, rfl⟩))))
      have h11 : ¬ limit < 0 := by omega
      have h12 : ¬ (1000000 : Int) < limit := by omega
      obtain ⟨Y, eY, hY, hBY⟩ := HEnd.out w5 _ rfl HK5.out HB5.out (.slice Am nm cm) (.slice Al nl cl) (.int .i64 W) (.int .i64 limit) (.slice none 0 0)
      have EY := Lib.hid eY
      have HBY := Lib.hid hBY
      have x0 := cellOf hY 0 (x := .slice Am nm cm) rfl
      have x1 := cellOf hY 1 (x := .slice Al nl cl) rfl
      have x2 := cellOf hY 2 (x := .int .i64 W) rfl
      have x3 := cellOf hY 3 (x := .int .i64 limit) rfl
      have x4 := cellOf hY 4 (x := .slice none 0 0) rfl
      clear eY hBY hY hl1 hl2
      go_wp2
      rw [EY.out]
      refine bodyPost_ret (v := .tuple #[.agg #[.slice Am nm cm, .slice Al nl cl, .int .i64 W, .int .i64 limit, .slice none 0 0], .int .i64 0]) (by simp [results, Try.results31, go_sem, x0, x1, x2, x3, x4]) rfl ⟨0, _, HI.out, fun _ => rfl, fun h => absurd rfl h, rfl, HBY.out⟩
end Go.Proofs.Ytffodgpafiifcaa
