/-
  ReelUsed: a web.
-/
import Derived.Test.YtpkepacbondopaaUa
namespace Go.Proofs.Ytpkepacbondopaa
open Go.RowKit
attribute [local go_sem] Oper.semAt_some

set_option maxRecDepth 1000000 in
set_option maxHeartbeats 4000000 in
theorem used_web (u0 u1 u2 u3 u4 u6 u7 u11 u12 u13 u14 u15 u16 u17 u18 u19 u20 u21 u22 u23 u24 u25 u26 u27 u28 u29 u30 u31 u32 u33 u34 u35 u36 u37 u38 u39 u43 u44 u45 u46 u47 u48 u49 u50 u51 u52 u53 u54 u55 u56 u57 u58 u59 u60 u61 u62 u63 u64 u65 u66 u67 u68 u69 u70 u71 u72 u73 u74 u75 u76 u77 u78 u79 u80 u81 u82 u83 u84 u85 u86 u87 u88 u89 u90 u91 u92 u93 u94 u95 u96 u97 u98 u99 u100 u101 u102 u103 u104 u105 u106 u107 u108 u109 u110 u111 u112 u113 u114 u115 u116 u117 u118 u119 u120 u121 u122 u123 u124 u125 u126 u127 u128 u129 u130 u131 u132 u133 u134 u135 u136 u137 u138 u139 u140 u141 u142 u143 u144 u145 u146 u147 u148 u149 u150 u151 u152 u153 u154 u155 u156 u157 u158 u159 u160 u161 : Value) {p : PressD} {U : List UseD} {Au Aw : Option Addr} {nu cu nw cw P q k : Nat} {n : Int} {W0 X : World} {Q : Exit → Act → World → Prop}
    (hp : Hid p.Ok) (hn : 0 ≤ n) (hnr : Hid (n ≤ p.reach)) (hk : k < nw) (hnw6 : nw ≤ 6) (hnw : Hid (p.webs.length = nw)) (hnu : Hid (U.length = nu)) (hnu9 : nu ≤ 1000) (hru : Hid (RUses W0.heap.size W0 (.slice Au nu cu) U)) (hrw : Hid (RWebs W0.heap.size W0 (.slice Aw nw cw) p.webs)) (hB : Hid (Below W0.heap.size W0 X))
    (hP : P < W0.heap.size) (hPc : Hid (W0.cell? ⟨P, 0, none⟩ = some (.int .i64 p.cut)))
    (hqn : q ≤ nu) (hdrop : Hid (U.drop q = (p.webs.drop k).flatMap fun x => usesR (takenW p n x) x.reels))
    (hQ : Hid (∀ (x4 x12 x13 x14 x16 x43 x44 x45 x46 x47 x48 x49 x50 x51 x52 x53 x54 x55 x56 x57 x58 x59 x60 x61 x62 x63 x64 x65 x66 x67 x68 x69 x70 x71 x72 x73 x74 x75 x76 x77 x78 x79 x80 x81 x82 x83 x84 x85 x86 x87 x88 x89 x90 x91 x92 x93 x94 x95 x96 x97 x98 x99 x100 x101 x102 x103 x104 x105 x106 x107 x108 x109 x110 x111 x112 x113 x114 x115 x116 x117 x118 x119 x120 x121 x122 x123 x124 x125 x126 x127 x128 x129 x130 x131 x132 x133 x134 x135 x136 x137 x138 x139 x140 x141 x142 x143 x144 x145 x146 x147 x148 x149 x150 x151 x152 x153 x154 : Value) (q' : Nat) (Z : World), U.drop q' = ((p.webs.drop (k + 1)).flatMap fun x => usesR (takenW p n x) x.reels) → q' ≤ nu → Below W0.heap.size W0 Z → Q .normal ⟨List.toArray (u0 :: u1 :: u2 :: u3 :: x4 :: (.pointer (some ⟨P, 0, none⟩)) :: u6 :: u7 :: (.int .i64 n) :: (.slice Au nu cu) :: (.int .i64 (q' : Int)) :: u11 :: x12 :: x13 :: x14 :: u15 :: x16 :: u17 :: u18 :: u19 :: u20 :: u21 :: u22 :: u23 :: u24 :: u25 :: u26 :: u27 :: u28 :: u29 :: u30 :: u31 :: u32 :: u33 :: u34 :: u35 :: u36 :: u37 :: u38 :: u39 :: (.slice Aw nw cw) :: (.int .i64 (nw : Int)) :: (.int .i64 ((k + 1 : Nat) : Int)) :: x43 :: x44 :: x45 :: x46 :: x47 :: x48 :: x49 :: x50 :: x51 :: x52 :: x53 :: x54 :: x55 :: x56 :: x57 :: x58 :: x59 :: x60 :: x61 :: x62 :: x63 :: x64 :: x65 :: x66 :: x67 :: x68 :: x69 :: x70 :: x71 :: x72 :: x73 :: x74 :: x75 :: x76 :: x77 :: x78 :: x79 :: x80 :: x81 :: x82 :: x83 :: x84 :: x85 :: x86 :: x87 :: x88 :: x89 :: x90 :: x91 :: x92 :: x93 :: x94 :: x95 :: x96 :: x97 :: x98 :: x99 :: x100 :: x101 :: x102 :: x103 :: x104 :: x105 :: x106 :: x107 :: x108 :: x109 :: x110 :: x111 :: x112 :: x113 :: x114 :: x115 :: x116 :: x117 :: x118 :: x119 :: x120 :: x121 :: x122 :: x123 :: x124 :: x125 :: x126 :: x127 :: x128 :: x129 :: x130 :: x131 :: x132 :: x133 :: x134 :: x135 :: x136 :: x137 :: x138 :: x139 :: x140 :: x141 :: x142 :: x143 :: x144 :: x145 :: x146 :: x147 :: x148 :: x149 :: x150 :: x151 :: x152 :: x153 :: x154 :: u155 :: u156 :: u157 :: u158 :: u159 :: u160 :: u161 :: []), []⟩ Z)) :
    Code.wp Try.prog (usLoop 11) Q ⟨List.toArray (u0 :: u1 :: u2 :: u3 :: u4 :: (.pointer (some ⟨P, 0, none⟩)) :: u6 :: u7 :: (.int .i64 n) :: (.slice Au nu cu) :: (.int .i64 (q : Int)) :: u11 :: u12 :: u13 :: u14 :: u15 :: u16 :: u17 :: u18 :: u19 :: u20 :: u21 :: u22 :: u23 :: u24 :: u25 :: u26 :: u27 :: u28 :: u29 :: u30 :: u31 :: u32 :: u33 :: u34 :: u35 :: u36 :: u37 :: u38 :: u39 :: (.slice Aw nw cw) :: (.int .i64 (nw : Int)) :: (.int .i64 (k : Int)) :: u43 :: u44 :: u45 :: u46 :: u47 :: u48 :: u49 :: u50 :: u51 :: u52 :: u53 :: u54 :: u55 :: u56 :: u57 :: u58 :: u59 :: u60 :: u61 :: u62 :: u63 :: u64 :: u65 :: u66 :: u67 :: u68 :: u69 :: u70 :: u71 :: u72 :: u73 :: u74 :: u75 :: u76 :: u77 :: u78 :: u79 :: u80 :: u81 :: u82 :: u83 :: u84 :: u85 :: u86 :: u87 :: u88 :: u89 :: u90 :: u91 :: u92 :: u93 :: u94 :: u95 :: u96 :: u97 :: u98 :: u99 :: u100 :: u101 :: u102 :: u103 :: u104 :: u105 :: u106 :: u107 :: u108 :: u109 :: u110 :: u111 :: u112 :: u113 :: u114 :: u115 :: u116 :: u117 :: u118 :: u119 :: u120 :: u121 :: u122 :: u123 :: u124 :: u125 :: u126 :: u127 :: u128 :: u129 :: u130 :: u131 :: u132 :: u133 :: u134 :: u135 :: u136 :: u137 :: u138 :: u139 :: u140 :: u141 :: u142 :: u143 :: u144 :: u145 :: u146 :: u147 :: u148 :: u149 :: u150 :: u151 :: u152 :: u153 :: u154 :: u155 :: u156 :: u157 :: u158 :: u159 :: u160 :: u161 :: []), []⟩ X := by
  have hki : (k : Int) < (nw : Int) := by omega
  obtain ⟨x, hx⟩ : ∃ x, p.webs[k]? = some x := ⟨_, List.getElem?_eq_getElem (by rw [hnw.out]; exact hk)⟩
  have hdr : p.webs.drop k = x :: p.webs.drop (k + 1) := by
    rw [List.drop_eq_getElem_cons (by rw [hnw.out]; exact hk)]
    rw [List.getElem?_eq_getElem (by rw [hnw.out]; exact hk)] at hx
    injection hx with hx
    rw [hx]
  have hmem := List.mem_of_getElem? hx
  have htw := takenW_le hp.out hn hnr.out hmem
  have hxo := hp.out.web x hmem
  have hxr := hp.out.reel x hmem
  have hxl := hp.out.reels x hmem
  have hcut := hp.out.cut
  have hrb := reach_bound hp.out
  have hgb := givesL_bound hxr
  have hd := hdrop.out
  rw [hdr, List.flatMap_cons] at hd
  obtain ⟨tl, htl⟩ : ∃ t, ((p.webs.drop (k + 1)).flatMap fun x => usesR (takenW p n x) x.reels) = t := ⟨_, rfl⟩
  rw [htl] at hd hQ
  obtain ⟨A', c', e1, -, hW⟩ := hrw.out.open_
  injection e1 with e11 e12 e13
  subst e11
  subst e13
  obtain ⟨g, o, Ar, cr, rfl, hg, r0, r1, r2, r3, hrr⟩ := hW k x hx
  obtain ⟨nr, hnr9⟩ : ∃ a, x.reels.length = a := ⟨_, rfl⟩
  obtain ⟨T, hT⟩ : ∃ a, takenW p n x = a := ⟨_, rfl⟩
  rw [hT] at hd htw
  rw [hnr9] at r0 hrr hxl
  obtain ⟨reels, hre⟩ : ∃ a, x.reels = a := ⟨_, rfl⟩
  rw [hre] at hd htw hrr hnr9 hxr hgb
  obtain ⟨off, hoff⟩ : ∃ a, x.off = a := ⟨_, rfl⟩
  obtain ⟨bef, hbef⟩ : ∃ a, x.before = a := ⟨_, rfl⟩
  obtain ⟨aft, haft⟩ : ∃ a, x.after = a := ⟨_, rfl⟩
  obtain ⟨cut, hcu⟩ : ∃ a, p.cut = a := ⟨_, rfl⟩
  rw [hoff] at r1
  rw [hbef] at r2
  rw [haft] at r3
  rw [hcu] at hPc hcut
  have hTd : T = if 0 < n then off + n * cut else 0 := by rw [← hT]; unfold takenW; rw [hoff, hcu]
  have hob := hxo.1
  rw [hoff] at hob
  rw [hnr9] at hgb
  have hT9 : T ≤ 400000000 := by omega
  have F1 : ∃ X1, X.alloc (.cells #[.slice Ar nr cr, .int .i64 off, .int .i64 bef, .int .i64 aft] 47) = X1 ∧ Below X.heap.size X X1 ∧ Blk X1 X.heap.size 47 #[.slice Ar nr cr, .int .i64 off, .int .i64 bef, .int .i64 aft] := ⟨_, rfl, below_alloc _ _, Blk.new _ _ _⟩
  obtain ⟨X1, e3, hb3, B3⟩ := F1
  have E3 := Lib.hid e3
  have HB1 : Hid (Below W0.heap.size W0 X1) := hB.out.trans (hb3.mono hB.out.size)
  rw [← hB.out.cell (p := ⟨g, o + k * 4, none⟩) hg] at r0
  rw [← hB.out.cell (p := ⟨g, o + k * 4 + 1, none⟩) hg] at r1
  rw [← hB.out.cell (p := ⟨g, o + k * 4 + 2, none⟩) hg] at r2
  rw [← hB.out.cell (p := ⟨g, o + k * 4 + 3, none⟩) hg] at r3
  obtain ⟨Wb, hWb⟩ : ∃ a, X.heap.size = a := ⟨_, rfl⟩
  rw [hWb] at B3
  have k0 := cellOf B3 0 (x := .slice Ar nr cr) rfl
  have HK3 := Lib.hid B3
  have HRR := Lib.hid hrr
  have HNR := Lib.hid hnr9
  have HXR := Lib.hid hxr
  have HTD := Lib.hid hTd
  have HD0 : Hid (U.drop (q + 0) = usesR T (reels.drop 0) ++ tl) := hd
  have HG0 : Hid (T ≤ givesL (reels.drop 0)) := htw.2
  obtain ⟨htw0, htw1⟩ := htw
  have HRB := Lib.hid hrb
  clear hx hdr hmem hxo hxr hd htl hW hrr hnr9 hT hre hoff hbef haft hcu e3 hb3 hgb B3 hTd htw1 hrb e12
  conv => arg 2; whnf
  go_upto_region 13 with fail
  rw [E3.out]
  first | rw [hWb] | skip
  clear r0 r1 r2 r3 hWb
  go_wp2_with fail
  clear k0
  go_loopw [10, 13, 14, 49] (fun s10 s13 s14 s49 Y => ∃ (j : Nat), j ≤ nr ∧ s49 = .int .i64 (j : Int) ∧ s10 = .int .i64 ((q + j : Nat) : Int) ∧ q + j ≤ nu ∧ ∃ (left : Int) (done : Bool), s13 = .int .i64 (T - left) ∧ s14 = .bool done ∧ 0 ≤ left ∧ left ≤ T ∧ Hid (left ≤ givesL (reels.drop j)) ∧ Hid (done = true → left = 0) ∧ Hid (U.drop (q + j) = usesR left (reels.drop j) ++ tl) ∧ Hid (Below X1.heap.size X1 Y)) (fun _ _ _ i _ => nr - (intOf i).toNat)
  case atStart => exact ⟨0, Nat.zero_le _, rfl, rfl, by omega, T, false, by rw [Int.sub_self], rfl, htw0, Int.le_refl _, HG0, fun h => (by cases h), HD0, Below.refl _ _⟩
  case round =>
  clear HG0 HD0
  obtain ⟨j, hjm, rfl, rfl, hqj, left, done, rfl, rfl, hl0, hl1, hl2, hdn, hdj, hBY⟩ := hrel
  obtain ⟨Y, rfl⟩ : ∃ Y : World, Y = wr := ⟨_, rfl⟩
  have HBY : Hid (Below W0.heap.size W0 Y) := HB1.out.trans (hBY.out.mono HB1.out.size)
  by_cases hj : j < nr
  · refine used_reel _ _ _ _ _ _ _ _ _ _ _ _ _ _ _ _ _ _ _ _ _ _ _ _ _ _ _ _ _ _ _ _ _ _ _ _ _ _ _ _ _ _ _ _ _ _ _ _ _ _ _ _ _ _ _ _ _ _ _ _ _ _ _ _ _ _ _ _ _ _ _ _ _ _ _ _ _ _ _ _ _ _ _ _ _ _ _ _ _ _ _ _ _ _ _ _ _ _ _ _ _ _ _ _ _ _ _ _ _ _ _ _ _ _ _ _ _ _ _ _ _ _ _ _ _ _ _ _ _ _ _ _ _ _ _ _ _ _ _ _ _ _ _ _ _ _ _ _ _ _ _ _ hj hxl HNR hnu hru HRR HXR HBY hnu9 hdj (by omega) hl0 hl1 hl2 hdn.out (Lib.hid ?_)
    intro x16 x50 x51 x52 x53 x54 x55 x56 x57 x58 x59 x60 x61 x62 x63 x64 x65 x66 x67 x68 x69 x70 x71 x72 x73 x74 x75 x76 x77 x78 x79 x80 x81 x82 x83 x84 x85 x86 x87 x88 x89 x90 x91 x92 x93 x94 x95 x96 x97 x98 x99 x100 x101 x102 x103 x104 x105 x106 x107 x108 x109 x110 x111 x112 x113 x114 x115 x116 x117 x118 x119 x120 x121 x122 x123 x124 x125 x126 x127 x128 x129 x130 x131 x132 left' done' Z h1 h2 h3 h4 h5 h7 h6
    have HX := Lib.hid (And.intro h1 (And.intro h4 (And.intro h5 h6)))
    clear h1 h4 h5 h6
    go_roundw
    case rel =>
      repeat apply Exists.intro
      refine ⟨?_, rfl⟩
      exact ⟨j + 1, by omega, by go_num, by go_num, by omega, left', done', rfl, rfl, h2, h3, HX.out.2.1, HX.out.2.2.1, HX.out.1, hBY.out.trans (HX.out.2.2.2.mono hBY.out.size)⟩
    case measure => simp [intOf]; omega
  obtain rfl : j = nr := by omega
  have hz : left = 0 := by
    have h1 := hl2.out
    rw [List.drop_of_length_le (by rw [HNR.out]; exact Nat.le_refl _)] at h1
    have : givesL [] = 0 := rfl
    omega
  have hfin : Hid (U.drop (q + j) = tl) := by
    have h1 := hdj.out
    rw [List.drop_of_length_le (l := reels) (by rw [HNR.out]; exact Nat.le_refl _)] at h1
    exact h1
  subst hz
  rw [show T - 0 = T by omega]
  have hpc : Y.cell? ⟨P, 0, none⟩ = some (.int .i64 cut) := (HBY.out.cell (p := ⟨P, 0, none⟩) hP).trans hPc.out
  have hwo := cellOf (HK3.out.below hBY.out HK3.out.lt) 1 (x := .int .i64 off) rfl
  obtain ⟨y, hy⟩ : ∃ y, n * cut = y := ⟨_, rfl⟩
  have hy1 : 0 ≤ y := by rw [← hy]; exact Int.mul_nonneg hn (by omega)
  have hn9 : n ≤ 1000000 := by have := hnr.out; have := HRB.out; omega
  have hy2 : y ≤ 1500000000 := by
    rw [← hy]
    have h1 : n * cut ≤ n * 1500 := Int.mul_le_mul_of_nonneg_left (by omega) hn
    omega
  have hTe := HTD.out
  rw [hy] at hTe
  have HTE := Lib.hid hTe
  have HH : Hid (U.drop (q + j) = tl) := hfin
  clear hTe hdj hfin hl2 hdn HTD
  by_cases hn0 : 0 < n
  · have hTe : T = off + y := by rw [HTE.out, if_pos hn0]
    obtain ⟨hob1, hob2⟩ := hob
    subst hTe
    have kw : IntKind.i64.wrap y = y := IntWalk.i64_in _ ⟨by omega, by omega⟩
    have g1 : (n == 0) = false := by simp; omega
    have g2 : decide (0 < n) = true := by simp [hn0]
    go_wp2_with fail
    exact hQ.out _ _ _ _ _ _ _ _ _ _ _ _ _ _ _ _ _ _ _ _ _ _ _ _ _ _ _ _ _ _ _ _ _ _ _ _ _ _ _ _ _ _ _ _ _ _ _ _ _ _ _ _ _ _ _ _ _ _ _ _ _ _ _ _ _ _ _ _ _ _ _ _ _ _ _ _ _ _ _ _ _ _ _ _ _ _ _ _ _ _ _ _ _ _ _ _ _ _ _ _ _ _ _ _ _ _ _ _ _ _ _ _ _ _ _ _ _ (q + j) Y HH.out hqj HBY.out
  · obtain rfl : n = 0 := by omega
    have hTe : T = 0 := by rw [HTE.out, if_neg hn0]
    subst hTe
    clear hy
    go_wp2_with fail
    rw [show (q : Int) + (j : Int) = ((q + j : Nat) : Int) by omega]
    exact hQ.out _ _ _ _ _ _ _ _ _ _ _ _ _ _ _ _ _ _ _ _ _ _ _ _ _ _ _ _ _ _ _ _ _ _ _ _ _ _ _ _ _ _ _ _ _ _ _ _ _ _ _ _ _ _ _ _ _ _ _ _ _ _ _ _ _ _ _ _ _ _ _ _ _ _ _ _ _ _ _ _ _ _ _ _ _ _ _ _ _ _ _ _ _ _ _ _ _ _ _ _ _ _ _ _ _ _ _ _ _ _ _ _ _ _ _ _ _ (q + j) Y HH.out hqj HBY.out
end Go.Proofs.Ytpkepacbondopaa
