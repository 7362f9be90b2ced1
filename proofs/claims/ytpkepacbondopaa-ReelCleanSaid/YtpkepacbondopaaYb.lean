/-
  ReelClean: the walk.
-/
import Derived.Test.YtpkepacbondopaaYa
namespace Go.Proofs.Ytpkepacbondopaa
open Go.RowKit
attribute [local go_sem] Oper.semAt_some

theorem any_take_next {α : Type} {f : α → Bool} {l : List α} {t : Nat} {a : α} (h : l[t]? = some a) : (l.take (t + 1)).any f = ((l.take t).any f || f a) := by
  rw [take_snoc_get h, List.any_append]
  simp
set_option maxRecDepth 1000000 in
set_option maxHeartbeats 4000000 in
theorem ReelClean_any (l : List Int) (hl : Bytes l) (x : Int) (hx : 0 ≤ x ∧ x ≤ 65535) (y : Int) (hy : 0 ≤ y ∧ y ≤ 65535) (vl : Value) (w : World) (h : RBytes w.heap.size w vl l) :
    Calls Try.prog 6 #[vl, .int .u16 x, .int .u16 y] w fun e w' => e = .returned (.bool true) ∧ Below w.heap.size w w' := by
  obtain ⟨hx1, hx2⟩ := hx
  obtain ⟨hy1, hy2⟩ := hy
  have CM := Lib.hid (Made_any l hl vl w h)
  have hchk := made_check l
  have hok := made_ok l
  have hrb := reach_bound hok
  have HCH := Lib.hid hchk
  clear hl h hchk hok
  go_enter Try.func6, Try.ntmps6
  go_wp2_with fail
  refine CM.out.mono ?_
  rintro _ w1 ⟨u, rfl, ⟨v, rfl, hO⟩, hb1⟩
  obtain ⟨Av, cv, hvf⟩ := ownsRow_form hO.choose_spec.1
  subst hvf
  obtain ⟨p, hp⟩ : ∃ p, madeP l = p := ⟨_, rfl⟩
  rw [hp] at hO hrb HCH ⊢
  have F2 : ∃ w2, w1.alloc (.cells #[.int .i64 p.cut, .int .i64 p.margin, .slice Av p.webs.length cv] 24) = w2 ∧ Below w1.heap.size w1 w2 ∧ Blk w2 w1.heap.size 24 #[.int .i64 p.cut, .int .i64 p.margin, .slice Av p.webs.length cv] := ⟨_, rfl, below_alloc _ _, Blk.new _ _ _⟩
  obtain ⟨w2, e2, hb2, k2⟩ := F2
  have E2 := Lib.hid e2
  obtain ⟨P, hP⟩ : ∃ a, w1.heap.size = a := ⟨_, rfl⟩
  have HP2 : Hid (RPress w2.heap.size w2 (.agg #[.int .i64 p.cut, .int .i64 p.margin, .slice Av p.webs.length cv]) p) := ⟨_, rfl, (hO.reads.below hb2).more hb2.size⟩
  have HB2 : Hid (Below w.heap.size w w2) := hb1.trans (hb2.mono hb1.size)
  rw [hP] at k2
  have K2 := Lib.hid k2
  obtain ⟨re, hre⟩ : ∃ a, p.reach = a := ⟨_, rfl⟩
  obtain ⟨cut, hcut⟩ : ∃ a, p.cut = a := ⟨_, rfl⟩
  obtain ⟨mg, hmg⟩ : ∃ a, p.margin = a := ⟨_, rfl⟩
  obtain ⟨nw, hnw⟩ : ∃ a, p.webs.length = a := ⟨_, rfl⟩
  rw [hre] at hrb
  rw [hcut, hmg, hnw] at E2 HP2 K2 ⊢
  obtain ⟨hr0, hr1⟩ := hrb
  have HRE := Lib.hid hre
  have HCUT := Lib.hid hcut
  have HMG := Lib.hid hmg
  have HNW := Lib.hid hnw
  have hnw6 : 1 ≤ nw ∧ nw ≤ 6 := by have := (checkE_ok HCH.out).webs; omega
  have C2 := reach_ok p HCH.out _ w2 HP2.out
  rw [hre] at C2
  have C2 := Lib.hid C2
  have m0 := cellOf K2.out 0 (x := .int .i64 cut) rfl
  have m1 := cellOf K2.out 1 (x := .int .i64 mg) rfl
  have m2 := cellOf K2.out 2 (x := .slice Av nw cv) rfl
  clear CM hO hb1 e2 hb2 k2 hre hcut hmg hnw hp
  go_upto_region 2 with fail
  rw [E2.out]
  clear hP
  go_wp2_with fail
  refine C2.out.mono ?_
  rintro _ w3 ⟨rfl, hb3⟩
  have HP3 : Hid (RPress w3.heap.size w3 (.agg #[.int .i64 cut, .int .i64 mg, .slice Av nw cv]) p) := (HP2.out.below hb3).more hb3.size
  have HB3 : Hid (Below w.heap.size w w3) := HB2.out.trans (hb3.mono HB2.out.size)
  have K3 := Lib.hid (K2.out.below hb3 K2.out.lt)
  clear m0 m1 m2
  have m0 := cellOf K3.out 0 (x := .int .i64 cut) rfl
  have m1 := cellOf K3.out 1 (x := .int .i64 mg) rfl
  have m2 := cellOf K3.out 2 (x := .slice Av nw cv) rfl
  have hn0 : 0 ≤ x % (re + 1) := Int.emod_nonneg _ (by omega)
  have hn1 : x % (re + 1) < re + 1 := Int.emod_lt_of_pos _ (by omega)
  obtain ⟨n, hn⟩ : ∃ a, x % (re + 1) = a := ⟨_, rfl⟩
  rw [hn] at hn0 hn1
  have hre9 : (0 : Int) < re + 1 := by omega
  have hne : ((re + 1) == 0) = false := by simp; omega
  have hne' : ¬ re + 1 = 0 := by omega
  have C3 := Lib.hid (thrown_ok p HCH.out n hn0 (by rw [HRE.out]; omega) _ w3 HP3.out)
  clear hb3 C2 E2 HP2 K2 HB2
  go_wp2_with fail
  refine C3.out.mono ?_
  rintro _ w4 ⟨A1, n1, c1, l1, rfl, h4⟩
  rw [hn]
  have hb4 := h4.out.2.2.2.2
  have HT : Hid (p.ThrownIs n l1) := h4.out.1
  have HL : Hid (l1.length = n1 ∧ RSpans w4.heap.size w4 (.slice A1 n1 c1) l1) := ⟨h4.out.2.2.1, h4.out.2.2.2.1⟩
  have hn120 : n1 ≤ 120 := by have := h4.out.2.1; have := h4.out.2.2.1; omega
  have HP4 : Hid (RPress w4.heap.size w4 (.agg #[.int .i64 cut, .int .i64 mg, .slice Av nw cv]) p) := (HP3.out.below hb4).more hb4.size
  have HB4 : Hid (Below w.heap.size w w4) := HB3.out.trans (hb4.mono HB3.out.size)
  have K4 := Lib.hid (K3.out.below hb4 K3.out.lt)
  clear m0 m1 m2 hb4 h4 C3 K3 HP3 HB3 hn hne hne' hre9
  go_wp2_with fail
  go_loopw [48] (fun s wr => ∃ i : Nat, i ≤ n1 ∧ s = .int .i64 (i : Int) ∧ Hid (Below w4.heap.size w4 wr)) (fun s _ => n1 - (intOf s).toNat)
  case atStart => exact ⟨0, Nat.zero_le _, rfl, Below.refl _ _⟩
  case round =>
  obtain ⟨i, hi, rfl, hB⟩ := hrel
  obtain ⟨Y, rfl⟩ : ∃ Y : World, Y = wr := ⟨_, rfl⟩
  by_cases hlt : i < n1
  · obtain ⟨s, hs⟩ : ∃ s, l1[i]? = some s := ⟨_, List.getElem?_eq_getElem (by rw [HL.out.1]; exact hlt)⟩
    obtain ⟨A', c', e9, -, hR⟩ := HL.out.2.open_
    injection e9 with e91 e92 e93
    subst e91
    obtain ⟨g, o, rfl, hg, c0, c1'⟩ := hR i s hs
    have hws := ThrownIs.within HT.out s (List.mem_of_getElem? hs)
    rw [← hB.out.cell (p := ⟨g, o + i * 2, none⟩) hg] at c0
    rw [← hB.out.cell (p := ⟨g, o + i * 2 + 1, none⟩) hg] at c1'
    have F1 : ∃ Y1, Y.alloc (.cells #[.int .i64 s.lo, .int .i64 s.hi] 45) = Y1 ∧ Below Y.heap.size Y Y1 ∧ Blk Y1 Y.heap.size 45 #[.int .i64 s.lo, .int .i64 s.hi] := ⟨_, rfl, below_alloc _ _, Blk.new _ _ _⟩
    obtain ⟨Y1, e1, hy1', B1⟩ := F1
    have E1 := Lib.hid e1
    have HBY : Hid (Below w4.heap.size w4 Y1) := hB.out.trans (hy1'.mono hB.out.size)
    obtain ⟨R, hRR⟩ : ∃ R, Y.heap.size = R := ⟨_, rfl⟩
    rw [hRR] at B1
    have k0 := cellOf B1 0 (x := .int .i64 s.lo) rfl
    have k1 := cellOf B1 1 (x := .int .i64 s.hi) rfl
    obtain ⟨ph, hph⟩ : ∃ ph : Int, 0 < i → ph + 1 < s.lo ∧ 0 ≤ ph ∧ ph ≤ 1000000 ∧ Y1.cell? ⟨g, o + (i - 1) * 2 + 1, none⟩ = some (.int .i64 ph) := by
      rcases Nat.eq_zero_or_pos i with h0 | h0
      · exact ⟨0, fun h => by omega⟩
      · obtain ⟨s', hs'⟩ : ∃ s, l1[i - 1]? = some s := ⟨_, List.getElem?_eq_getElem (by rw [HL.out.1]; omega)⟩
        obtain ⟨g', o', e', -, -, d1⟩ := hR (i - 1) s' hs'
        injection e' with e'
        injection e' with e1' e2'
        subst e1'
        subst e2'
        have hw' := ThrownIs.within HT.out s' (List.mem_of_getElem? hs')
        refine ⟨s'.hi, fun _ => ⟨?_, by omega, by omega, ?_⟩⟩
        · have h1 := List.pairwise_iff_getElem.1 HT.out.1.2 (i - 1) i (by rw [HL.out.1]; omega) (by rw [HL.out.1]; exact hlt) (by omega)
          rw [List.getElem?_eq_getElem (by rw [HL.out.1]; omega)] at hs'
          rw [List.getElem?_eq_getElem (by rw [HL.out.1]; exact hlt)] at hs
          injection hs' with hs'
          injection hs with hs
          rw [hs', hs] at h1
          exact h1
        · rw [HBY.out.cell (p := ⟨g, o + (i - 1) * 2 + 1, none⟩) hg]
          exact d1
    obtain ⟨hw1, hw2, hw3⟩ := hws
    clear hs hR e1 hy1' B1 e92 e93 hB
    go_upto_region 12 with fail
    rw [E1.out]
    first | rw [hRR] | skip
    clear c0 c1' hRR
    refine clean_r12 _ _ _ _ _ _ _ _ _ _ _ _ _ _ _ _ _ _ _ _ _ _ _ _ _ _ _ _ _ _ _ _ _ _ _ _ _ _ _ _ _ _ _ _ _ _ _ _ _ _ _ _ _ _ _ _ _ _ _ _ _ _ _ _ _ _ _ _ _ _ _ _ _ _ _ _ _ _ _ _ _ _ _ _ _ _ _ _ _ _ _ _ _ _ _ _ _ _ _ _ _ _ _ _ _ _ _ _ _ _ _ _ _ _ _ _ _ _ _ _ _ _ _ _ _ _ _ _ _ _ _ _ _ _ _ _ _ _ _ _ _ _ _ _ _ _ _ _ _ _ _ _ _ _ _ _ _ _ _ _ _ _ _ _ _ _ _ _ _ _ _ _ _ _ _ _ _ _ _ _ _ hlt (by omega) hw1 hw2 hw3 hph k0 k1 (Lib.hid ?_)
    intro x0 x1 x2 x3 x4 x5 x6 x7 x8 x9 x10 x11 x12 x13 x14 x15 x16 x17 x18 x19 x20 x21 x22 x23 x24 x25 x26 x27 x28 x29 x30 nq
    have HB9 : Hid (Below w4.heap.size w4 (Y1.drewN nq)) := below_drewN HBY.out nq
    clear hph k0 k1
    go_wp2_with fail
    go_roundw
    case rel =>
      first
        | exact ⟨i + 1, by omega, by go_num, HB9⟩
        | (repeat apply Exists.intro
           refine ⟨?_, rfl⟩
           exact ⟨i + 1, by omega, by go_num, HB9⟩)
    case measure => simp [intOf]; omega
  obtain rfl : i = n1 := by omega
  have HB5 : Hid (Below w.heap.size w Y) := HB4.out.trans (hB.out.mono HB4.out.size)
  have HP5 : Hid (RPress Y.heap.size Y (.agg #[.int .i64 cut, .int .i64 mg, .slice Av nw cv]) p) := (HP4.out.below hB.out).more hB.out.size
  have K5 := Lib.hid (K4.out.below hB.out K4.out.lt)
  have HR5 : Hid (RSpans Y.heap.size Y (.slice A1 i c1) l1) := (Rd.below HL.out.2 hB.out).more hB.out.size
  by_cases hnz : n = 0
  · have hz : i = 0 := by
      rcases Nat.eq_zero_or_pos i with h0 | h0
      · exact h0
      · obtain ⟨s, hs⟩ : ∃ s, l1[0]? = some s := ⟨_, List.getElem?_eq_getElem (by rw [HL.out.1]; exact h0)⟩
        have := ThrownIs.within HT.out s (List.mem_of_getElem? hs)
        omega
    have CA := Lib.hid (awake_any Y)
    have g1 : ((i : Int) == 0) = true := by simp; omega
    have g2 : (n == 0) = true := by simp [hnz]
    clear hnz hz hB
    go_wp2_with fail
    refine CA.out.mono ?_
    rintro _ Z ⟨rfl, hz⟩
    have HZ : Hid (Below w.heap.size w Z) := HB5.out.trans (hz.mono HB5.out.size)
    clear hz CA
    go_wp2_with fail
    go_ret
    exact ⟨rfl, HZ.out⟩
  have hk0 : 0 ≤ y % n := Int.emod_nonneg _ hnz
  have hk1 : y % n < n := Int.emod_lt_of_pos _ (by omega)
  obtain ⟨k, hk⟩ : ∃ a, y % n = a := ⟨_, rfl⟩
  rw [hk] at hk0 hk1
  have hn9 : (0 : Int) < n := by omega
  have hne : (n == 0) = false := by simp [hnz]
  have m0 := cellOf K5.out 0 (x := .int .i64 cut) rfl
  have m1 := cellOf K5.out 1 (x := .int .i64 mg) rfl
  have m2 := cellOf K5.out 2 (x := .slice Av nw cv) rfl
  clear hB HP4 K4
  go_wp2_with fail
  rw [hk]
  clear m0 m1 m2 hk
  have HK5 := K5
  have HPA : Hid (∀ X, Below Y.heap.size Y X → RPress X.heap.size X (.agg #[.int .i64 cut, .int .i64 mg, .slice Av nw cv]) p ∧ (X.cell? ⟨P, 0, none⟩ = some (.int .i64 cut) ∧ X.cell? ⟨P, 1, none⟩ = some (.int .i64 mg) ∧ X.cell? ⟨P, 2, none⟩ = some (.slice Av nw cv))) := fun X hX =>
    ⟨(HP5.out.below hX).more hX.size, cellOf (K5.out.below hX K5.out.lt) 0 rfl, cellOf (K5.out.below hX K5.out.lt) 1 rfl, cellOf (K5.out.below hX K5.out.lt) 2 rfl⟩
  have HW5 : Hid (RWebs Y.heap.size Y (.slice Av nw cv) p.webs) := by
    obtain ⟨v9, e9, h9⟩ := HP5.out
    simp only [Value.agg.injEq, Array.mk.injEq, List.cons.injEq, and_true] at e9
    rw [e9.2.2]
    exact h9
  have hmg9 : 0 ≤ mg ∧ mg ≤ 20 := by have := (checkE_ok HCH.out).margin; have := HMG.out; omega
  have hcut9 : 300 ≤ cut ∧ cut ≤ 1500 := by have := (checkE_ok HCH.out).cut; have := HCUT.out; omega
  clear hn9 hne hnz HP5 K5 HK5
  go_loopw [15, 101] (fun s15 s101 wr => ∃ j : Nat, j ≤ nw ∧ s101 = .int .i64 (j : Int) ∧ ∃ b, s15 = .bool b ∧ Hid (b = nearB p k (p.webs.take j)) ∧ Hid (Below Y.heap.size Y wr)) (fun _ s _ => nw - (intOf s).toNat)
  case atStart => exact ⟨0, Nat.zero_le _, rfl, false, rfl, rfl, Below.refl _ _⟩
  case round =>
  obtain ⟨j, hj, rfl, nb, rfl, hnb, hB⟩ := hrel
  obtain ⟨X, rfl⟩ : ∃ X : World, X = wr := ⟨_, rfl⟩
  by_cases hlt : j < nw
  · obtain ⟨z, hz⟩ : ∃ z, p.webs[j]? = some z := ⟨_, List.getElem?_eq_getElem (by rw [HNW.out]; exact hlt)⟩
    have hmem := List.mem_of_getElem? hz
    have hzo := (checkE_ok HCH.out).web z hmem
    have hzl := (checkE_ok HCH.out).reels z hmem
    have HXR := Lib.hid ((checkE_ok HCH.out).reel z hmem)
    obtain ⟨A', c', e9, -, hR⟩ := HW5.out.open_
    injection e9 with e91 e92 e93
    subst e91
    subst e93
    obtain ⟨g, o, Ar, cr, rfl, hg, r0, r1, r2, r3, -⟩ := hR j z hz
    rw [← hB.out.cell (p := ⟨g, o + j * 4, none⟩) hg] at r0
    rw [← hB.out.cell (p := ⟨g, o + j * 4 + 1, none⟩) hg] at r1
    rw [← hB.out.cell (p := ⟨g, o + j * 4 + 2, none⟩) hg] at r2
    rw [← hB.out.cell (p := ⟨g, o + j * 4 + 3, none⟩) hg] at r3
    obtain ⟨off, hoff⟩ : ∃ a, z.off = a := ⟨_, rfl⟩
    obtain ⟨bef, hbef⟩ : ∃ a, z.before = a := ⟨_, rfl⟩
    obtain ⟨aft, haft⟩ : ∃ a, z.after = a := ⟨_, rfl⟩
    obtain ⟨nr, hnr⟩ : ∃ a, z.reels.length = a := ⟨_, rfl⟩
    obtain ⟨ho, hbo, hao⟩ := hzo
    have hpl : z.places.length = nr - 1 := by unfold WebD.places; rw [placesTo_len, hnr]
    have HPL : Hid (∀ a ∈ z.places, 0 ≤ a ∧ a ≤ 400000000) := fun a ha => by
      obtain ⟨i, hi, rfl⟩ := mem_places.1 ha
      have h1 := givesL_bound (l := z.reels.take (i + 1)) (mem_take_ok HXR.out _)
      have h2 : (z.reels.take (i + 1)).length ≤ 20 := Nat.le_trans (List.length_take_le' ..) hzl
      omega
    rw [hoff] at r1 ho
    rw [hbef] at r2 hbo
    rw [haft] at r3 hao
    rw [hnr] at r0 hzl
    have HHit : Hid (∀ a, hitB p k z a = (decide (0 < bef + aft) && decide (a - bef ≤ off + (k + mg + 1) * cut - 1) && decide (off + (k - mg) * cut ≤ a + aft - 1))) := fun a => by
      unfold hitB
      rw [hoff, hbef, haft, HMG.out, HCUT.out]
    have F1 : ∃ X1, X.alloc (.cells #[.slice Ar nr cr, .int .i64 off, .int .i64 bef, .int .i64 aft] 47) = X1 ∧ Below X.heap.size X X1 ∧ Blk X1 X.heap.size 47 #[.slice Ar nr cr, .int .i64 off, .int .i64 bef, .int .i64 aft] := ⟨_, rfl, below_alloc _ _, Blk.new _ _ _⟩
    obtain ⟨X1, e1, hx1', B1⟩ := F1
    have E1 := Lib.hid e1
    have HB1 : Hid (Below Y.heap.size Y X1) := hB.out.trans (hx1'.mono hB.out.size)
    obtain ⟨Wb, hWb⟩ : ∃ a, X.heap.size = a := ⟨_, rfl⟩
    rw [hWb] at B1
    have HK1 := Lib.hid B1
    obtain ⟨hp1, m0, m1, m2⟩ := HPA.out X1 HB1.out
    have CS := Lib.hid (Splices_ok p HCH.out j z hz _ X1 hp1)
    have HNX : Hid (nearB p k (p.webs.take (j + 1)) = (nearB p k (p.webs.take j) || z.places.any (hitB p k z))) := any_take_next hz
    clear hz hmem hR e1 hx1' B1 hoff hbef haft hnr hp1 e92 hB
    go_upto_region 22 with fail
    rw [E1.out]
    first | rw [hWb] | skip
    clear r0 r1 r2 r3 hWb
    go_wp2_with fail
    refine CS.out.mono ?_
    rintro _ X2 ⟨Ap, cp, rfl, hO, hb2⟩
    obtain ⟨np, hnp⟩ : ∃ a, z.places.length = a := ⟨_, rfl⟩
    have HRP : Hid (RInts X2.heap.size X2 (.slice Ap np cp) z.places) := by
      show RInts _ _ _ _
      rw [← hnp]
      exact Rd.own hO (own_le hO)
    have HNPR : Hid (np = nr - 1) := by show _ = _; omega
    have HNP := Lib.hid hnp
    have HNP20 : np ≤ 20 := by omega
    rw [hnp]
    have HB2 : Hid (Below Y.heap.size Y X2) := HB1.out.trans (hb2.mono HB1.out.size)
    have HK2 := Lib.hid (HK1.out.below hb2 HK1.out.lt)
    clear m0 m1 m2 hO hb2 hnp hpl CS HK1
    have k0 := cellOf HK2.out 0 (x := .slice Ar nr cr) rfl
    go_upto_region 23 with fail
    go_cut [123] (fun s wx => s = .bool false ∧ Hid (Below X2.heap.size X2 wx))
    case first =>
      have g1 : ((np : Int) != max ((nr : Int) - 1) 0) = false := by
        have := HNPR.out
        simp
        omega
      go_wp2_with fail
      all_goals
        go_meet
        first
          | exact ⟨rfl, Below.refl _ _⟩
          | (refine ⟨?_, Below.refl _ _⟩
             rw [g1])
    case rest =>
    obtain ⟨rfl, hb3⟩ := hcut
    obtain ⟨X3, rfl⟩ : ∃ X, X = wc := ⟨_, rfl⟩
    have HB3 : Hid (Below Y.heap.size Y X3) := HB2.out.trans (hb3.out.mono HB2.out.size)
    have HK3 := Lib.hid (HK2.out.below hb3.out HK2.out.lt)
    have HRP3 : Hid (RInts X3.heap.size X3 (.slice Ap np cp) z.places) := (RInts.below HRP.out hb3.out).more hb3.out.size
    obtain ⟨-, m0, m1, -⟩ := HPA.out X3 HB3.out
    have k1 := cellOf HK3.out 1 (x := .int .i64 off) rfl
    clear k0 hb3 HRP HK2
    go_upto_region 25 with fail
    refine clean_r25 _ _ _ _ _ _ _ _ _ _ _ _ _ _ _ _ _ _ _ _ _ _ _ _ _ _ _ _ _ _ _ _ _ _ _ _ _ _ _ _ _ _ _ _ _ _ _ _ _ _ _ _ _ _ _ _ _ _ _ _ _ _ _ _ _ _ _ _ _ _ _ _ _ _ _ _ _ _ _ _ _ _ _ _ _ _ _ _ _ _ _ _ _ _ _ _ _ _ _ _ _ _ _ _ _ _ _ _ _ _ _ _ _ _ _ _ _ _ _ _ _ _ _ _ _ _ _ _ _ _ _ _ _ _ _ _ _ _ _ _ _ _ _ _ _ _ _ _ _ _ _ _ _ _ _ _ _ _ _ _ _ _ _ _ _ _ _ _ _ _ _ _ _ _ _ _ _ _ _ _ _ _ ⟨hk0, by omega⟩ hmg9 hcut9 ho m0 m1 k1 (Lib.hid ?_)
    intro x0 x1 x2 x3 x4 x5 x6 x7 x8 x9 x10 x11 x12 x13 x14 x15 x16 x17 x18 x19 x20 x21 nq
    obtain ⟨F, hF⟩ : ∃ F, off + (k - mg) * cut = F := ⟨_, rfl⟩
    obtain ⟨L, hL⟩ : ∃ F, off + (k + mg + 1) * cut - 1 = F := ⟨_, rfl⟩
    have HHit2 : Hid (∀ a, hitB p k z a = (decide (0 < bef + aft) && decide (a - bef ≤ L) && decide (F ≤ a + aft - 1))) := fun a => by rw [HHit.out, hF, hL]
    rw [hF, hL]
    obtain ⟨X4, hX4⟩ : ∃ X4, X3.drewN nq = X4 := ⟨_, rfl⟩
    have hb4 : Below X3.heap.size X3 X4 := by rw [← hX4]; exact below_drewN (Below.refl _ _) nq
    have HB4' : Hid (Below Y.heap.size Y X4) := HB3.out.trans (hb4.mono HB3.out.size)
    have HK4 := Lib.hid (HK3.out.below hb4 HK3.out.lt)
    have HRP4 : Hid (RInts X4.heap.size X4 (.slice Ap np cp) z.places) := (RInts.below HRP3.out hb4).more hb4.size
    rw [hX4]
    clear hF hL hX4 m0 m1 k1 hb4 HRP3 HK3 HHit
    go_wp2_with fail
    go_loopw [15, 148] (fun s15 s148 wr => ∃ t : Nat, t ≤ np ∧ s148 = .int .i64 (t : Int) ∧ ∃ b, s15 = .bool b ∧ Hid (b = (nb || (z.places.take t).any (hitB p k z))) ∧ Hid (Below X4.heap.size X4 wr)) (fun _ s _ => np - (intOf s).toNat)
    case atStart => exact ⟨0, Nat.zero_le _, rfl, nb, rfl, (Bool.or_false nb).symm, Below.refl _ _⟩
    case round =>
    obtain ⟨t, ht, rfl, b, rfl, hb, hB⟩ := hrel
    obtain ⟨V, rfl⟩ : ∃ V : World, V = wr := ⟨_, rfl⟩
    by_cases hlt2 : t < np
    · obtain ⟨a, ha⟩ : ∃ a, z.places[t]? = some a := ⟨_, List.getElem?_eq_getElem (by rw [HNP.out]; exact hlt2)⟩
      obtain ⟨ha0, ha1⟩ := HPL.out a (List.mem_of_getElem? ha)
      obtain ⟨Ap', cp', e9, -, hR⟩ := HRP4.out.open_
      injection e9 with e91 e92 e93
      subst e91
      subst e93
      obtain ⟨g, o, a', rfl, hg, c0, hx⟩ := hR t (by rw [HNP.out]; exact hlt2)
      have hx' : a = a' := by
        rw [← hx.out, List.getD_eq_getElem?_getD, ha]
        rfl
      subst hx'
      rw [← hB.out.cell (p := ⟨g, o + t, none⟩) hg] at c0
      have HKV := Lib.hid (HK4.out.below hB.out HK4.out.lt)
      have k2 := cellOf HKV.out 2 (x := .int .i64 bef) rfl
      have k3 := cellOf HKV.out 3 (x := .int .i64 aft) rfl
      have HTN : Hid ((nb || (z.places.take (t + 1)).any (hitB p k z)) = (b || (decide (0 < bef + aft) && decide (a - bef ≤ L) && decide (F ≤ a + aft - 1)))) := by
        show _ = _
        rw [any_take_next ha, HHit2.out, hb.out, Bool.or_assoc]
      clear hR hx ha e92 hb
      by_cases g1 : 0 < bef + aft
      · by_cases g2 : a - bef ≤ L
        · by_cases g3 : F ≤ a + aft - 1
          · have HV : Hid (true = (nb || (z.places.take (t + 1)).any (hitB p k z))) := by show _ = _; rw [HTN.out]; simp [g1, g2, g3]
            clear HTN
            go_wp2_with fail
            go_roundw
            case rel =>
              first
                | exact ⟨t + 1, by omega, by go_num, true, rfl, HV, hB⟩
                | (repeat apply Exists.intro
                   refine ⟨?_, rfl⟩
                   exact ⟨t + 1, by omega, by go_num, true, rfl, HV, hB⟩)
            case measure => simp [intOf]; omega
          · have HV : Hid (b = (nb || (z.places.take (t + 1)).any (hitB p k z))) := by show _ = _; rw [HTN.out]; simp [g1, g2, g3]
            clear HTN
            go_wp2_with fail
            go_roundw
            case rel =>
              first
                | exact ⟨t + 1, by omega, by go_num, b, rfl, HV, hB⟩
                | (repeat apply Exists.intro
                   refine ⟨?_, rfl⟩
                   exact ⟨t + 1, by omega, by go_num, b, rfl, HV, hB⟩)
            case measure => simp [intOf]; omega
        · have HV : Hid (b = (nb || (z.places.take (t + 1)).any (hitB p k z))) := by show _ = _; rw [HTN.out]; simp [g1, g2]
          clear HTN
          go_wp2_with fail
          go_roundw
          case rel =>
            first
              | exact ⟨t + 1, by omega, by go_num, b, rfl, HV, hB⟩
              | (repeat apply Exists.intro
                 refine ⟨?_, rfl⟩
                 exact ⟨t + 1, by omega, by go_num, b, rfl, HV, hB⟩)
          case measure => simp [intOf]; omega
      · have HV : Hid (b = (nb || (z.places.take (t + 1)).any (hitB p k z))) := by show _ = _; rw [HTN.out]; simp [g1]
        clear HTN
        go_wp2_with fail
        go_roundw
        case rel =>
          first
            | exact ⟨t + 1, by omega, by go_num, b, rfl, HV, hB⟩
            | (repeat apply Exists.intro
               refine ⟨?_, rfl⟩
               exact ⟨t + 1, by omega, by go_num, b, rfl, HV, hB⟩)
        case measure => simp [intOf]; omega
    obtain rfl : t = np := by omega
    have HBJ : Hid (Below Y.heap.size Y V) := HB4'.out.trans (hB.out.mono HB4'.out.size)
    have HV : Hid (b = nearB p k (p.webs.take (j + 1))) := by
      show _ = _
      rw [HNX.out, hb.out, hnb.out, List.take_of_length_le (Nat.le_of_eq HNP.out)]
    clear hb hB hnb HB4' HK4 HRP4
    go_wp2_with fail
    go_roundw
    case rel =>
      first
        | exact ⟨j + 1, by omega, by go_num, b, rfl, HV, HBJ⟩
        | (repeat apply Exists.intro
           refine ⟨?_, rfl⟩
           exact ⟨j + 1, by omega, by go_num, b, rfl, HV, HBJ⟩)
    case measure => simp [intOf]; omega
  · obtain rfl : j = nw := by omega
    have HVN : Hid (nb = covB l1 k) := by
      show _ = _
      rw [hnb.out, List.take_of_length_le (Nat.le_of_eq HNW.out)]
      exact near_out (checkE_ok HCH.out) HT.out hk0 hk1
    have HB6 : Hid (Below w.heap.size w X) := HB5.out.trans (hB.out.mono HB5.out.size)
    have CO := Lib.hid (out_any l1 k _ X ((Rd.below HR5.out hB.out).more hB.out.size) (by rw [HL.out.1]; omega))
    clear hnb hB
    go_wp2_with fail
    refine CO.out.mono ?_
    rintro _ Z ⟨rfl, hz⟩
    rw [HVN.out]
    have HZ : Hid (Below w.heap.size w Z) := HB6.out.trans (hz.mono HB6.out.size)
    have CA := Lib.hid (awake_any Z)
    obtain ⟨cb, hcb⟩ : ∃ cb, covB l1 k = cb := ⟨_, rfl⟩
    rw [hcb]
    have g1 : (cb == cb) = true := by cases cb <;> rfl
    clear hcb hz CO
    go_wp2_with fail
    refine CA.out.mono ?_
    rintro _ Z2 ⟨rfl, hz⟩
    have HZ2 : Hid (Below w.heap.size w Z2) := HZ.out.trans (hz.mono HZ.out.size)
    clear hz CA
    go_wp2_with fail
    go_ret
    exact ⟨rfl, HZ2.out⟩
end Go.Proofs.Ytpkepacbondopaa
