/-
  RegisterKeeps: the walk.
-/
import Derived.Test.YtffodgpafiifcaaTf
namespace Go.Proofs.Ytffodgpafiifcaa
open Go.RowKit

set_option maxRecDepth 100000 in
set_option maxHeartbeats 40000000 in
theorem Keeps_any (vx va : Value) (xs : List (Int × Int × Int)) (any : List Int) (b0 : Int) (w : World) (hx : RTrip w.heap.size w vx xs) (ha : RInts w.heap.size w va any) :
    Calls Try.prog 10 #[vx, .int .i64 b0, va] w fun e w' => e = .returned (.bool true) ∧ Below w.heap.size w w' := by
  have CA := Lib.hid awake_any
  have HX := Lib.hid hx
  have HA := Lib.hid ha
  obtain ⟨Ax, cx, rfl, hxm⟩ : ∃ A c, vx = .slice A xs.length c ∧ xs.length ≤ maxLen := by
    obtain ⟨A, c, e, -, hm, -⟩ := hx
    exact ⟨A, c, e, hm⟩
  obtain ⟨Aa, ca, rfl, ham⟩ := slice_len ha
  obtain ⟨n, hn⟩ : ∃ n, xs.length = n := ⟨_, rfl⟩
  obtain ⟨na, hna⟩ : ∃ n, any.length = n := ⟨_, rfl⟩
  have HN := Lib.hid hn
  have HNA := Lib.hid hna
  have HX9 : Hid (RTrip w.heap.size w (.slice Ax n cx) xs) := by rw [hn] at HX; exact HX
  clear HX
  rw [hn] at hxm ⊢
  rw [hna] at HA ham ⊢
  have hmx : maxLen ≤ 9223372036854775807 := by unfold maxLen; omega
  clear hx ha hn hna
  go_enter Try.func10, Try.ntmps10
  by_cases hsz : (1 ≤ n ∧ n ≤ 3) ∧ na ≤ 400
  case neg =>
    have CAw := Lib.hid (CA.out w)
    have h3 : n < 1 ∨ (1 ≤ n ∧ 3 < n) ∨ (1 ≤ n ∧ n ≤ 3 ∧ 400 < na) := by omega
    rcases h3 with h3 | ⟨h3, h4⟩ | ⟨h3, h4, h5⟩
    · have i1 : (n : Int) < 1 := by omega
      clear hsz h3
      go_wp2_with fail
      refine CAw.out.mono ?_
      rintro _ w9 ⟨rfl, hb9⟩
      go_wp2
      go_ret
      exact ⟨rfl, hb9⟩
    · have i1 : ¬ (n : Int) < 1 := by omega
      have i2 : (3 : Int) < (n : Int) := by omega
      clear hsz h3 h4
      go_wp2_with fail
      refine CAw.out.mono ?_
      rintro _ w9 ⟨rfl, hb9⟩
      go_wp2
      go_ret
      exact ⟨rfl, hb9⟩
    · have i1 : ¬ (n : Int) < 1 := by omega
      have i2 : ¬ (3 : Int) < (n : Int) := by omega
      have i3 : (400 : Int) < (na : Int) := by omega
      clear hsz h3 h4 h5
      go_wp2_with fail
      refine CAw.out.mono ?_
      rintro _ w9 ⟨rfl, hb9⟩
      go_wp2
      go_ret
      exact ⟨rfl, hb9⟩
  obtain ⟨⟨hn1, hn3⟩, ha4⟩ := hsz
  have i1 : ¬ (n : Int) < 1 := by omega
  have i2 : ¬ (3 : Int) < (n : Int) := by omega
  have i3 : ¬ (400 : Int) < (na : Int) := by omega
  have CB := Lib.hid (pick_any b0 101 (by omega) (by omega) w)
  have hb1 := Int.emod_nonneg b0 (show (101 : Int) ≠ 0 by omega)
  have hb2 := Int.emod_lt_of_pos b0 (show (0 : Int) < 101 by omega)
  obtain ⟨bl, hbl⟩ : ∃ b, b0 % 101 = b := ⟨_, rfl⟩
  rw [hbl] at CB hb1 hb2
  clear hbl
  go_wp2_with fail
  refine CB.out.mono ?_
  rintro _ _ ⟨rfl, rfl⟩
  clear i1 i2 i3 CB
  obtain ⟨w1, e1, B1, P1⟩ : ∃ w1, w.alloc (.cells #[.int .i64 0] 3) = w1 ∧ Below w.heap.size w w1 ∧ Blk w1 w.heap.size 3 #[.int .i64 0] := ⟨_, rfl, below_alloc _ _, Blk.new _ _ _⟩
  have HST : Hid (KSt w bl xs 0 (.slice (some ⟨w.heap.size, 0, none⟩) 1 1) (.slice none 0 0) (.slice none 0 0) (.slice none 0 0) w1) := Lib.hid ⟨⟨B1, ⟨by simp [keepMarks], .inr ⟨w.heap.size, 1, #[.int .i64 0], rfl, Nat.le_refl _, P1, Nat.le_refl _, by simp [maxLen], rfl, rfl⟩⟩, World.ownsRow_nil _ _ _ _, fun g _ h => by cases h⟩, World.ownsRow_nil _ _ _ _, World.ownsRow_nil _ _ _ _⟩
  have E1 := Lib.hid e1
  clear e1 B1 P1
  go_upto_region 5 with fail
  rw [E1.out]
  clear E1
  obtain ⟨i0, hi0, hz0, hz1, hz2⟩ := info_parts infoInt0
  obtain ⟨iL, hiL, hzL0, hzL1, hzL2⟩ := info_parts infoLoop
  obtain ⟨iI, hiI, hzI0, hzI1, hzI2⟩ := info_parts infoInts
  go_wp2
  go_loopw [7, 8, 9, 10, 11, 12, 13] (fun vp vl ve vm iq _ _ wr => ∃ k : Nat, k ≤ n ∧ iq = .int .i64 k ∧ KSt w bl xs k vp vl ve vm wr) (fun _ _ _ _ iq _ _ _ => n - (intOf iq).toNat)
  case atStart => exact ⟨0, Nat.zero_le _, rfl, HST.out⟩
  case round =>
    clear HST
    obtain ⟨k, hk, rfl, hst⟩ := hrel
    obtain ⟨wo, hwo⟩ : ∃ X, X = wr := ⟨_, rfl⟩
    subst hwo
    by_cases hlt : k < n
    ·
      obtain ⟨⟨a, b, c⟩, hxk⟩ : ∃ x, xs[k]? = some x := ⟨_, List.getElem?_eq_getElem (by rw [HN.out]; exact hlt)⟩
      obtain ⟨g, o, rfl, hg, c0, c1, c2⟩ := HX9.out.at hxk
      have hB := hst.two.1
      have c0' := (hB.cell (p := ⟨g, o + k * 3, none⟩) hg).trans c0
      have c1' := (hB.cell (p := ⟨g, o + k * 3 + 1, none⟩) hg).trans c1
      have c2' := (hB.cell (p := ⟨g, o + k * 3 + 2, none⟩) hg).trans c2
      dsimp only at c0' c1' c2'
      have hgo : g < wo.heap.size := Nat.lt_of_lt_of_le hg hB.size
      have HB := Lib.hid hB
      have HSt := Lib.hid hst
      have HXk := Lib.hid hxk
      have HG := Lib.hid hgo
      have hlp : ((xs.take k).map (keepLoop bl)).length = k := by rw [List.length_map, List.length_take, HN.out]; omega
      have hle : ((xs.take k).map (keepErr bl)).length = k := by rw [List.length_map, List.length_take, HN.out]; omega
      obtain ⟨Avp, cvp, rfl⟩ : ∃ A c, u7 = .slice A (k + 1) c := by
        obtain ⟨A, c, e⟩ := ownsRow_form hst.two.2.1
        rw [keepMarks_len] at e
        exact ⟨A, c, e⟩
      obtain ⟨Avl, cvl, rfl⟩ : ∃ A c, u8 = .slice A k c := by
        obtain ⟨A, c, e⟩ := ownsRow_form hst.lps
        rw [hlp] at e
        exact ⟨A, c, e⟩
      obtain ⟨Ave, cve, rfl⟩ : ∃ A c, u9 = .slice A k c := by
        obtain ⟨A, c, e⟩ := ownsRow_form hst.two.2.2.1
        rw [hle] at e
        exact ⟨A, c, e⟩
      obtain ⟨Avm, cvm, rfl⟩ : ∃ A c, u10 = .slice A k c := ownsRow_form hst.mvs
      have HLp := Lib.hid hlp
      have HLe := Lib.hid hle
      have q0 := Int.emod_nonneg a (show (6 : Int) ≠ 0 by omega)
      have q1 := Int.emod_lt_of_pos a (show (0 : Int) < 6 by omega)
      have q2 := Int.emod_nonneg b (show (51 : Int) ≠ 0 by omega)
      have q3 := Int.emod_lt_of_pos b (show (0 : Int) < 51 by omega)
      have C6 := Lib.hid (fun W => pick_any a 6 (by omega) (by omega) W)
      have C51 := Lib.hid (fun W => pick_any b 51 (by omega) (by omega) W)
      have C5 := Lib.hid (fun W => pick_any c 500 (by omega) (by omega) W)
      obtain ⟨da, hda⟩ : ∃ x, a % 6 = x := ⟨_, rfl⟩
      obtain ⟨nb, hnb⟩ : ∃ x, b % 51 = x := ⟨_, rfl⟩
      rw [hda] at q0 q1 C6
      rw [hnb] at q2 q3 C51
      have HDa := Lib.hid hda
      have HNb := Lib.hid hnb
      have ik : (k : Int) < (n : Int) := by omega
      have kw2 : IntKind.i64.wrap (2 * bl) = 2 * bl := IntWalk.i64_in _ ⟨by omega, by omega⟩
      have hT : ∀ X : World, Below wo.heap.size wo X → X.cell? ⟨g, o + k * 3, none⟩ = some (.int .i64 a) ∧ X.cell? ⟨g, o + k * 3 + 1, none⟩ = some (.int .i64 b) ∧ X.cell? ⟨g, o + k * 3 + 2, none⟩ = some (.int .i64 c) := fun X hX => ⟨(hX.cell (p := ⟨g, _, none⟩) hgo).trans c0', (hX.cell (p := ⟨g, _, none⟩) hgo).trans c1', (hX.cell (p := ⟨g, _, none⟩) hgo).trans c2'⟩
      have HT := Lib.hid hT
      have HT9 : Hid (∀ X : World, Below w.heap.size w X → X.cell? ⟨g, o + k * 3 + 2, none⟩ = some (.int .i64 c)) := Lib.hid fun X hX => (hX.cell (p := ⟨g, _, none⟩) hg).trans c2
      clear c0 c1 c2 hst hxk hB hlp hle hda hnb hT hgo
      go_upto_region 11 with fail
      go_cut [12] (fun s X => XCut wo da nb bl 0 s X)
      case first =>
        go_region_held3 (fun X => X.cell? ⟨g, o + k * 3, none⟩ = some (.int .i64 a) ∧ X.cell? ⟨g, o + k * 3 + 1, none⟩ = some (.int .i64 b))
          (go_keep)
          (first
            | (go_at_call 39; (with_reducible refine (C6.out _).mono ?_); rintro _ _ ⟨rfl, rfl⟩)
            | (go_at_call 39; (with_reducible refine (C51.out _).mono ?_); rintro _ _ ⟨rfl, rfl⟩))
        all_goals
          go_wp2_with fail
          go_meet
          exact ⟨_, rfl, Nat.le_refl _, blk_drew (Blk.new wo _ _), (below_alloc wo _).drew⟩
      case rest =>
      obtain ⟨bX, rfl, hbX, hKX, hbx⟩ := hcut
      obtain ⟨wx, hwx⟩ : ∃ X, X = wc := ⟨_, rfl⟩
      subst hwx
      have r0 := Int.emod_nonneg c (show (500 : Int) ≠ 0 by omega)
      have r1 := Int.emod_lt_of_pos c (show (0 : Int) < 500 by omega)
      obtain ⟨qc, hqc⟩ : ∃ x, c % 500 = x := ⟨_, rfl⟩
      rw [hqc] at r0 r1 C5
      have HQc := Lib.hid hqc
      obtain ⟨ls, hls⟩ : ∃ x, max (nb + 2 * (2 * bl)) 1 = x := ⟨_, rfl⟩
      have hls1 : 1 ≤ ls ∧ ls ≤ 450 := by omega
      obtain ⟨st, hst⟩ : ∃ x, ls + qc = x := ⟨_, rfl⟩
      have hst1 : 1 ≤ st ∧ st ≤ 949 := by omega
      have HSt9 := Lib.hid hst
      have HLs := Lib.hid hls
      have HBX := Lib.hid hbx
      have HbX := Lib.hid hbX
      have hgo := HG.out
      have hne1 : bX ≠ g := by omega
      have hne2 : g ≠ bX := by omega
      have t1 := cellOf hKX 1 (x := .int .i64 nb) rfl
      have t2 := cellOf hKX 2 (x := .int .i64 (2 * bl)) rfl
      have t3 := cellOf hKX 3 (x := .int .i64 0) rfl
      have f3 := hKX.frozen 3
      have HKX := Lib.hid hKX
      have tc := (HT.out wx hbx).2.2
      have kw3 : IntKind.i64.wrap (2 * (2 * bl)) = 2 * (2 * bl) := IntWalk.i64_in _ ⟨by omega, by omega⟩
      have kw4 : IntKind.i64.wrap (nb + 2 * (2 * bl)) = nb + 2 * (2 * bl) := IntWalk.i64_in _ ⟨by omega, by omega⟩
      have HS9 : Hid (∀ v, (wx.setCell ⟨bX, 3, none⟩ v).drew.cell? ⟨bX, 1, none⟩ = some (.int .i64 nb) ∧ (wx.setCell ⟨bX, 3, none⟩ v).drew.cell? ⟨bX, 2, none⟩ = some (.int .i64 (2 * bl)) ∧ (wx.setCell ⟨bX, 3, none⟩ v).drew.cell? ⟨g, o + k * 3 + 2, none⟩ = some (.int .i64 c)) := Lib.hid fun v => ⟨cellOf (hKX.put 3 v) 1 rfl, cellOf (hKX.put 3 v) 2 rfl, (cell_far wx ⟨bX, 3, none⟩ ⟨g, _, none⟩ v hne1).trans tc⟩
      clear hqc hst hls hbx hKX c0' c1' c2' kw2
      go_upto_region 12 with fail
      go_cut [80] (fun _ X => XC2 wo da nb bl st bX X)
      case first =>
        by_cases hc : 1 ≤ nb + 2 * (2 * bl)
        · have hl9 : ls = nb + 2 * (2 * bl) := by have := HLs.out; omega
          have kw5 : IntKind.i64.wrap (nb + 2 * (2 * bl) + qc) = nb + 2 * (2 * bl) + qc := IntWalk.i64_in _ ⟨by omega, by omega⟩
          have HE : Hid (nb + 2 * (2 * bl) + qc = st) := Lib.hid (by have := HSt9.out; omega)
          clear hl9
          go_region_held3 (fun X => X.cell? ⟨bX, 1, none⟩ = some (.int .i64 nb) ∧ X.cell? ⟨bX, 2, none⟩ = some (.int .i64 (2 * bl)) ∧ X.cell? ⟨g, o + k * 3 + 2, none⟩ = some (.int .i64 c))
            (first | exact HS9.out _ | go_keep)
            ((go_at_call 39; (with_reducible refine (C5.out _).mono ?_); rintro _ _ ⟨rfl, rfl⟩))
          all_goals
            go_wp2_with fail
            go_meet
            rw [HE.out]
            exact ⟨HKX.out.put 3 _, (below_far HBX.out HbX.out).drew⟩
        · have hl9 : ls = 1 := by have := HLs.out; omega
          have kw5 : IntKind.i64.wrap (1 + qc) = 1 + qc := IntWalk.i64_in _ ⟨by omega, by omega⟩
          have HE : Hid (1 + qc = st) := Lib.hid (by have := HSt9.out; omega)
          have hc' : nb + 2 * (2 * bl) ≤ 1 := by omega
          clear hl9
          go_region_held3 (fun X => X.cell? ⟨bX, 1, none⟩ = some (.int .i64 nb) ∧ X.cell? ⟨bX, 2, none⟩ = some (.int .i64 (2 * bl)) ∧ X.cell? ⟨g, o + k * 3 + 2, none⟩ = some (.int .i64 c))
            (first | exact HS9.out _ | go_keep)
            ((go_at_call 39; (with_reducible refine (C5.out _).mono ?_); rintro _ _ ⟨rfl, rfl⟩))
          all_goals
            go_wp2_with fail
            go_meet
            rw [HE.out]
            exact ⟨HKX.out.put 3 _, (below_far HBX.out HbX.out).drew⟩
      case rest =>
      obtain ⟨hK2, hb2⟩ := hcut
      obtain ⟨w2, hw2⟩ : ∃ X, X = wc := ⟨_, rfl⟩
      subst hw2
      have hs2 := HSt.out.below hb2
      have HTwo2 := Lib.hid hs2.two
      have HLps2 : Hid (w2.ownsRow w.heap.size 26 4 (.slice Avl k cvl) k (loopCells ((xs.take k).map (keepLoop bl)))) := Lib.hid (by have h9 := hs2.lps; unfold OLoops at h9; rwa [HLp.out] at h9)
      have HMvs2 := Lib.hid hs2.mvs
      have HK2 := Lib.hid hK2
      have HB2 := Lib.hid hb2
      have HP2 : Hid (w2.ownsRow w.heap.size 3 1 (.slice Avp (k + 1) cvp) (k + 1) ((keepMarks (k + 1)).map (Value.int .i64))) := Lib.hid (by have h9 := hs2.two.2.1; unfold OInts at h9; rwa [keepMarks_len] at h9)
      have hzz2 : w.heap.size ≤ w2.heap.size := hs2.two.1.size
      clear hs2 hb2 hK2 t1 t2 t3 f3 tc kw3 kw4
      go_upto_region 14 with (at_builtin; refine wpList_append_lies _ rfl _ _ 24 rfl w.heap.size 3 i0 _ 1 8 sliceInts hi0 hz0 hz1 hz2 rfl (by decide) (.slice Avp (k + 1) cvp) (k + 1) _ rfl (HP2.out.alloc _) ⟨w2.heap.size, 0, none⟩ 1 1 [.int .i64 (30000 * ((k : Int) + 1))] rfl rfl (cells_new _ _ _) (by simp [Value.oneCell']) (by omega) (by simp only [maxLen]; omega) (by omega) (by simp; omega) (w2.heap.size + 1) (by simp) ?_; intro g3 c3 w3 hown hgrow hat hlt3; have HTwo3 := Lib.hid (HTwo2.out.left (keepMarks_len (k + 1)) hown hgrow hat); have hgr := Grew.of_append HP2.out hgrow; have HLps3 := Lib.hid (ownsRow_grew HLps2.out hgr (by decide)); have HMvs3 := Lib.hid (ownsRow_grew HMvs2.out hgr (by decide)); have hK3 := HK2.out.grew hgr (by decide); have HK3 := Lib.hid hK3; have m0 := cellOf hK3 0 (x := .int .i64 da) rfl; have m1 := cellOf hK3 1 (x := .int .i64 nb) rfl; have m2 := cellOf hK3 2 (x := .int .i64 (2 * bl)) rfl; have m3 := cellOf hK3 3 (x := .int .i64 st) rfl; clear hown hgrow hat hgr hK3)
      have hzz3 : w.heap.size ≤ w3.heap.size := HTwo3.out.1.size
      clear hlt3
      have HKL : Hid (keepLoop bl (a, b, c) = ⟨da, nb, 2 * bl, st⟩) := Lib.hid (by
        unfold keepLoop
        dsimp only
        rw [HDa.out, HNb.out, HQc.out, HLs.out, HSt9.out])
      have hst2 : 0 ≤ st - 2 * bl ∧ st - 2 * bl ≤ 1000 := by have h1 := HSt9.out; have h2 := HLs.out; omega
      obtain ⟨mo, hmo⟩ : ∃ x, st - 2 * bl = x := ⟨_, rfl⟩
      rw [hmo] at hst2
      have HMo := Lib.hid hmo
      have HKM : Hid (keepMost bl (a, b, c) = mo) := Lib.hid (by
        unfold keepMost
        rw [HKL.out]
        show min (st - 2 * bl) 1000 = mo
        omega)
      clear hmo
      obtain ⟨pe, hpe⟩ : ∃ x, c % (2 * mo + 1) = x := ⟨_, rfl⟩
      have p0 := Int.emod_nonneg c (show 2 * mo + 1 ≠ 0 by omega)
      have p1 := Int.emod_lt_of_pos c (show 0 < 2 * mo + 1 by omega)
      have C7 := Lib.hid (fun W => pick_any c (2 * mo + 1) (by omega) (by omega) W)
      rw [hpe] at p0 p1 C7
      have HKE : Hid (keepErr bl (a, b, c) = pe - mo) := Lib.hid (by
        unfold keepErr
        rw [HKM.out]
        show c % (2 * mo + 1) - mo = pe - mo
        rw [hpe])
      clear hpe
      go_upto_region 15 with (at_builtin; refine wpList_append_lies _ rfl _ _ 61 rfl w.heap.size 26 iL _ 4 32 Try.underlying61 hiL hzL0 hzL1 hzL2 rfl (by decide) (.slice Avl k cvl) k _ rfl (HLps3.out.alloc _) ⟨w3.heap.size, 0, none⟩ 1 1 [.int .i64 da, .int .i64 nb, .int .i64 (2 * bl), .int .i64 st] rfl rfl (cells_new _ _ _) (by simp [Value.oneCell']) (by omega) (by simp only [maxLen]; omega) (by omega) (by simp; omega) (w3.heap.size + 1) (by simp) ?_; intro g4 c4 w4 hown hgrow hat hlt4; have hgr := Grew.of_append HLps3.out hgrow; have hb4 : Below w.heap.size w w4 := (HTwo3.out.1.alloc hzz3 _).grown hgrow (by simp; omega) (fun j hj => (HLps3.out.lt j hj).1); have HTwo4 := Lib.hid (HTwo3.out.grew hgr (by decide) hb4); have HMvs4 := Lib.hid (ownsRow_grew HMvs3.out hgr (by decide)); have HLps4 : Hid (OLoops w.heap.size w4 (.slice (some ⟨g4, 0, none⟩) (k + 1) c4) ((xs.take (k + 1)).map (keepLoop bl))) := Lib.hid (by rw [take_one HXk.out, List.map_append, List.map_singleton, HKL.out]; unfold OLoops; rw [List.length_append, HLp.out, loopCells_snoc]; exact hown); have hK4 : Blk w4 bX 26 #[.int .i64 da, .int .i64 nb, .int .i64 (2 * bl), .int .i64 st] := (KeptBut.grown (S := fun j => some j = (Value.slice Avl k cvl).ownBlock) hgrow (fun _ h => h)).blk (HK3.out.alloc _) (fun hs => by have h1 := (HSt.out.lps.lt bX hs.symm).2; have h2 := HbX.out; omega); have m3' := cellOf hK4 3 (x := .int .i64 st) rfl; have m2' := cellOf hK4 2 (x := .int .i64 (2 * bl)) rfl; clear hown hgrow hat hgr hK4 m0 m1 m2 m3 hlt4; have hzz4 : w.heap.size ≤ w4.heap.size := hb4.size; have hct := ((HT9.out w4 hb4)); clear hb4)
      have hmo9 : st - 2 * bl = mo := HMo.out
      have HmoB : Hid (st - 2 * bl = mo) := HMo
      clear hmo9
      go_cut [13] (fun s X => s = .int .i64 mo ∧ Below w4.heap.size w4 X)
      case first =>
        have h9 := HMo.out
        have h8 : st - 2 * bl ≤ 1000 := by omega
        have h7 : mo = st - 2 * bl := by omega
        subst h7
        clear h9
        go_wp2_with fail
        go_meet
        exact ⟨rfl, Below.refl _ _⟩
      case rest =>
      obtain ⟨rfl, hb5⟩ := hcut
      obtain ⟨w5, hw5⟩ : ∃ X, X = wc := ⟨_, rfl⟩
      subst hw5
      have hct5 := (hb5.cell (p := ⟨g, o + k * 3 + 2, none⟩) (Nat.lt_of_lt_of_le hg hzz4)).trans hct
      have HTwo5 := Lib.hid (HTwo4.out.below hb5)
      have HMvs5 := Lib.hid (ownsRow_below HMvs4.out hb5)
      have HLps5 := Lib.hid (ownsRow_below HLps4.out hb5)
      have HE5 : Hid (w5.ownsRow w.heap.size 3 1 (.slice Ave k cve) k (((xs.take k).map (keepErr bl)).map (Value.int .i64))) := Lib.hid (by have h9 := HTwo5.out.2.2.1; unfold OInts at h9; rwa [HLe.out] at h9)
      have hzz5 : w.heap.size ≤ w5.heap.size := HTwo5.out.1.size
      clear hct m2' m3' hb5
      go_upto_region 16 with fail
      go_wp2_with fail
      refine (C7.out _).mono ?_
      rintro _ _ ⟨rfl, rfl⟩
      go_upto_region 17 with (at_builtin; refine wpList_append_lies _ rfl _ _ 24 rfl w.heap.size 3 i0 _ 1 8 sliceInts hi0 hz0 hz1 hz2 rfl (by decide) (.slice Ave k cve) k _ rfl (HE5.out.alloc _) ⟨w5.heap.size, 0, none⟩ 1 1 [.int .i64 (pe - mo)] rfl rfl (cells_new _ _ _) (by simp [Value.oneCell']) (by omega) (by simp only [maxLen]; omega) (by omega) (by simp; omega) (w5.heap.size + 1) (by simp) ?_; intro g6 c6 w6 hown hgrow hat hlt6; have HTwo6 := Lib.hid (HTwo5.out.swap.left HLe.out hown hgrow hat); have hgr := Grew.of_append HE5.out hgrow; have HLps6 := Lib.hid (ownsRow_grew HLps5.out hgr (by decide)); have HMvs6 := Lib.hid (ownsRow_grew HMvs5.out hgr (by decide)); clear hown hgrow hat hgr hlt6)
      have hzz6 : w.heap.size ≤ w6.heap.size := HTwo6.out.1.size
      clear hct5
      go_wp2_with (at_builtin; refine wpList_append_lies _ rfl _ _ 60 rfl w.heap.size 24 iI _ 1 24 Try.underlying60 hiI hzI0 hzI1 hzI2 rfl (by decide) (.slice Avm k cvm) k _ rfl (HMvs6.out.alloc _) ⟨w6.heap.size, 0, none⟩ 1 1 [.slice none 0 0] rfl rfl (cells_new _ _ _) (by simp [Value.oneCell']) (by omega) (by simp only [maxLen]; omega) (by omega) (by simp; omega) (w6.heap.size + 1) (by simp) ?_; intro g7 c7 w7 hown hgrow hat hlt7; have hgr := Grew.of_append HMvs6.out hgrow; have hb7 : Below w.heap.size w w7 := (HTwo6.out.1.alloc hzz6 _).grown hgrow (by simp; omega) (fun j hj => (HMvs6.out.lt j hj).1); have HTwo7 := Lib.hid (HTwo6.out.grew hgr (by decide) hb7); have HLps7 := Lib.hid (ownsRow_grew HLps6.out hgr (by decide)); have HMvs7 : Hid (w7.ownsRow w.heap.size 24 1 (.slice (some ⟨g7, 0, none⟩) (k + 1) c7) (k + 1) (List.replicate (k + 1) (.slice none 0 0))) := Lib.hid (by rw [List.replicate_succ']; exact hown); clear hown hgrow hat hgr hb7 hlt7)
      go_roundw
      case rel => exact ⟨k + 1, by omega, by go_num, by rw [keepMarks_next (k + 1), take_one HXk.out, List.map_append, List.map_singleton, HKE.out]; exact HTwo7.out.swap, HLps7.out, HMvs7.out⟩
      case measure => simp [intOf]; omega
    · obtain rfl : n = k := by omega
      have hkn : ¬ (n : Int) < (n : Int) := by omega
      have ht : xs.take n = xs := List.take_of_length_le (by rw [HN.out]; exact Nat.le_refl _)
      obtain ⟨htwo, hlps, hmvs⟩ := hst
      rw [ht] at htwo hlps
      clear ht
      obtain ⟨ls, hls⟩ : ∃ l, xs.map (keepLoop bl) = l := ⟨_, rfl⟩
      obtain ⟨es, hes⟩ : ∃ l, xs.map (keepErr bl) = l := ⟨_, rfl⟩
      have hlen : ls.length = n := by rw [← hls, List.length_map, HN.out]
      have hlen2 : es.length = n := by rw [← hes, List.length_map, HN.out]
      have HOkA : Hid (∀ (i : Nat) (l : LoopD) (e : Int), ls[i]? = some l → es[i]? = some e → LoopOk l ∧ l.dead ≤ 5 ∧ l.noise ≤ 50 ∧ l.blur = 2 * bl ∧ Col l l.dead.toNat 0 e []) := Lib.hid fun i l e hl he => by
        rw [← hls, List.getElem?_map] at hl
        rw [← hes, List.getElem?_map] at he
        obtain ⟨x, hx, rfl⟩ := Option.map_eq_some_iff.1 hl
        rw [hx] at he
        injection he with he
        subst he
        obtain ⟨k1, k2, k3, -, k5, k6⟩ := keep_ok ⟨hb1, by omega⟩ x
        exact ⟨k1, k2, k3, rfl, Col.start k1 _ k5 k6⟩
      rw [hls] at hlps
      rw [hes] at htwo
      have HLen := Lib.hid hlen
      have HLen2 := Lib.hid hlen2
      have HBo := Lib.hid htwo.1
      obtain ⟨Avp, cvp, rfl⟩ : ∃ A c, u7 = .slice A (n + 1) c := by
        obtain ⟨A, c, e⟩ := ownsRow_form htwo.2.1
        rw [keepMarks_len] at e
        exact ⟨A, c, e⟩
      obtain ⟨Avl, cvl, rfl⟩ : ∃ A c, u8 = .slice A n c := by
        obtain ⟨A, c, e⟩ := ownsRow_form hlps
        rw [hlen] at e
        exact ⟨A, c, e⟩
      obtain ⟨Ave, cve, rfl⟩ : ∃ A c, u9 = .slice A n c := by
        obtain ⟨A, c, e⟩ := ownsRow_form htwo.2.2.1
        rw [hlen2] at e
        exact ⟨A, c, e⟩
      obtain ⟨Avm, cvm, rfl⟩ : ∃ A c, u10 = .slice A n c := ownsRow_form hmvs
      obtain ⟨gp, -, rfl, -⟩ : ∃ g, True ∧ Avp = some ⟨g, 0, none⟩ ∧ True := by
        have h9 := htwo.2.1
        unfold OInts at h9
        rw [keepMarks_len] at h9
        obtain ⟨g, cs, e, -⟩ := own_blk h9 (by omega)
        exact ⟨g, trivial, e, trivial⟩
      obtain ⟨gl, -, rfl, -⟩ : ∃ g, True ∧ Avl = some ⟨g, 0, none⟩ ∧ True := by
        have h9 := hlps
        unfold OLoops at h9
        rw [hlen] at h9
        obtain ⟨g, cs, e, -⟩ := own_blk h9 (by omega)
        exact ⟨g, trivial, e, trivial⟩
      obtain ⟨ge, -, rfl, -⟩ : ∃ g, True ∧ Ave = some ⟨g, 0, none⟩ ∧ True := by
        have h9 := htwo.2.2.1
        unfold OInts at h9
        rw [hlen2] at h9
        obtain ⟨g, cs, e, -⟩ := own_blk h9 (by omega)
        exact ⟨g, trivial, e, trivial⟩
      obtain ⟨gm, -, rfl, -⟩ : ∃ g, True ∧ Avm = some ⟨g, 0, none⟩ ∧ True := by
        obtain ⟨g, cs, e, -⟩ := own_blk hmvs (by omega)
        exact ⟨g, trivial, e, trivial⟩
      have CN := Lib.hid (New_any (.slice (some ⟨gp, 0, none⟩) (n + 1) cvp) (.slice (some ⟨gl, 0, none⟩) n cvl) (keepMarks (n + 1)) ls 5000 1000000 wo (Rd.own htwo.2.1 (own_le htwo.2.1)) (Rd.own hlps (own_le hlps)) (by rw [keepMarks_len]; omega) (by omega))
      have HTwo := Lib.hid htwo
      have HLps := Lib.hid hlps
      have HMvs := Lib.hid hmvs
      clear htwo hlps hmvs hls hes hlen hlen2
      go_wp2_with fail
      refine CN.out.mono ?_
      rintro e w3 ⟨hnew, hb3⟩
      rcases hnew with ⟨code, hc, hi, rfl⟩ | ⟨hi, D, mv, cv, Cs, vs, rfl, hok, hat⟩
      · exact absurd (keep_new hn1 hn3 HLen.out (fun l hl => by
          obtain ⟨i, hi⟩ := List.getElem?_of_mem hl
          have hin : i < es.length := by rw [HLen2.out, ← HLen.out]; exact (List.getElem?_eq_some_iff.1 hi).1
          exact (HOkA.out i l _ hi (List.getElem?_eq_getElem hin)).1) hi) hc
      have HRun : Hid (KRun w wo D n ls (.slice (some ⟨gp, 0, none⟩) (n + 1) cvp) (.slice (some ⟨gl, 0, none⟩) n cvl) (.slice (some ⟨ge, 0, none⟩) n cve) (.slice (some ⟨gm, 0, none⟩) n cvm) 0 w3) := Lib.hid
        (krun_start HTwo.out HLps.out HMvs.out HLen.out HLen2.out (fun i l e hl he => (HOkA.out i l e hl he).2.2.2.2) hok hat hb3)
      have HOkL : Hid (∀ (i : Nat) (l : LoopD), ls[i]? = some l → LoopOk l ∧ l.dead ≤ 5 ∧ l.noise ≤ 50 ∧ l.blur = 2 * bl) := Lib.hid fun i l hl => by
        have hin : i < es.length := by rw [HLen2.out, ← HLen.out]; exact (List.getElem?_eq_some_iff.1 hl).1
        obtain ⟨k1, k2, k3, k4, -⟩ := HOkA.out i l _ hl (List.getElem?_eq_getElem hin)
        exact ⟨k1, k2, k3, k4⟩
      have hz3 : w.heap.size ≤ wo.heap.size := HBo.out.size
      clear hb3 hok hat hi CN HTwo HLps HMvs HOkA
      go_wp2
      go_loopw [16] (fun tq wr => ∃ t : Nat, t ≤ 30 ∧ tq = .int .i64 t ∧ KRun w wo D n ls (.slice (some ⟨gp, 0, none⟩) (n + 1) cvp) (.slice (some ⟨gl, 0, none⟩) n cvl) (.slice (some ⟨ge, 0, none⟩) n cve) (.slice (some ⟨gm, 0, none⟩) n cvm) t wr) (fun tq _ => 30 - (intOf tq).toNat)
      case atStart => exact ⟨0, Nat.zero_le _, rfl, HRun.out⟩
      case round =>
        clear HRun
        obtain ⟨t, ht, rfl, hrun⟩ := hrel
        by_cases htt : t < 30
        · refine round2 _ _ _ _ _ _ _ _ _ _ _ _ _ _ _ _ _ _ _ _ _ _ _ _ _ _ _ _ _ _ _ _ _ _ _ _ _ _ _ _ _ _ _ _ _ _ _ _ _ _ _ _ _ _ _ _ _ _ _ _ _ _ _ _ _ _ _ _ _ _ _ _ _ _ _ _ _ _ _ _ _ _ _ _ _ _ _ _ _ _ _ _ _ _ _ _ _ _ _ _ _ _ _ _ _ _ _ _ _ _ _ _ _ _ _ _ _ _ _ _ _ _ _ _ _ _ _ _ _ _ _ _ _ _ _ _ _ _ _ _ _ _ _ _ _ _ _ _ _ _ _ _ _ _ _ _ _ _ _ _ _ _ _ _ _ _ _ _ _ _ _ _ _ _ _ _ _ _ _ _ _ _ _ _ _ _ _ _ _ _ _ _ _ _ _ _ _ _ _ _ _ _ _ _ _ _ _ _ _ _ _ _ _ _ _ _ _ _ _ _ _ _ _ _ _ _ _ _ _ _ _ _ _ _ _ _ _ _ _ _ _ _ _ _ _ _ _ _ _ _ _ _ _ _ _ _ _ _ _ _ _ _ _ _ _ _ _ _ _ _ _ _ _ _ _ _ _ _ _ _ _ _ _ _ _ _ _ _ _ _ _ _ _ _ _ _ _ _ _ _ _ _ _ _ _ _ _ _ _ _ _ _ _ _ _ _ _ _ _ _ _ _ _ _ _ _ _ _ _ _ _ _ _ _ hi0 hz0 hz1 hz2 hn1 hn3 htt hb1 hb2 hz3 HA HNA ha4 (Lib.hid hrun) HOkL (Lib.hid fun _ _ d _ _ h => by cases d <;> exact h) (Lib.hid ?_)
          clear hrun
          intro _ _ _ _ _ _ _ _ _ _ _ _ _ _ _ _ _ _ _ _ _ _ _ _ _ _ _ _ _ _ _ _ _ _ _ _ _ _ _ _ _ _ _ _ _ _ _ _ _ _ _ _ _ _ _ _ _ _ _ _ _ _ _ _ _ _ _ _ _ _ _ _ _ _ _ _ _ _ _ _ _ _ _ _ _ _ _ _ _ _ _ _ _ _ _ _ _ _ _ _ _ _ _ _ _ _ _ _ _ _ _ _ _ _ _ _ _ _ _ _ _ _ _ _ _ _ _ _ _ _ _ _ _ _ _ _ _ _ _ _ _ _ _ _ _ _ _ _ _ _ _ _ _ _ _ _ _ _ _ _ _ _ _ _ _ _ _ _ _ _ _ _ _ _ _ _ _ _ _ _ _ _ _ _ _ _ _ _ _ _ _ _ _ _ _ _ _ _ _ _ _ _ _ _ _ _ _ _ _ _ _ _ _ _ _ _ _ _ _ _ _ _ _ _ _ _ _ Y hY
          have HN := Lib.hid hY
          clear hY
          go_wp2_with fail
          go_roundw
          case rel => exact ⟨t + 1, by omega, by go_num, HN.out⟩
          case measure => simp [intOf]; omega
        · have itt : ¬ (t : Int) < 30 := by omega
          have hbw : Below w.heap.size w wr := by
            obtain ⟨d, F, es9, ms9, us9, -, -, -, -, h9, -⟩ := hrun
            exact h9.1
          have HBw := Lib.hid hbw
          clear hrun hbw
          go_wp2_with fail
          refine (CA.out _).mono ?_
          rintro _ w9 ⟨rfl, hb9⟩
          go_wp2
          go_ret
          exact ⟨rfl, HBw.out.trans (hb9.mono HBw.out.size)⟩
end Go.Proofs.Ytffodgpafiifcaa
