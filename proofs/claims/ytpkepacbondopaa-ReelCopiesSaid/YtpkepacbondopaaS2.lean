/-
  ReelCopies: the reference and the law, part 2.
-/
import Derived.Test.YtpkepacbondopaaS1
import Derived.Test.YtpkepacbondopaaTr
namespace Go.Proofs.Ytpkepacbondopaa
open Go.RowKit Go.Shelf
attribute [local go_sem] Oper.semAt_some

theorem sliceUseR : Try.prog.underlying 115 = some (.slice 119) := by kernel_rfl
theorem infoUseR : (Try.prog.info? 119).map (fun i => (i.zero, i.size, i.bytes)) = some (some (.agg #[.int .i64 0, .int .i64 0, .int .i64 0]), 3, 24) := by kernel_rfl
/-- What is used of reel k. -/
def usedK (t : Int) (l : List ReelD) (k : Nat) : Int := max (min t (givesL (l.take (k + 1))) - givesL (l.take k)) 0
theorem givesL_mono {l : List ReelD} (h : ∀ r ∈ l, r.ok) (k : Nat) : 0 ≤ givesL (l.take k) ∧ givesL (l.take k) ≤ givesL (l.take (k + 1)) := by
  refine ⟨(givesL_bound fun r hr => h r (List.mem_of_mem_take hr)).1, ?_⟩
  rcases Nat.lt_or_ge k l.length with h1 | h1
  · have hx := List.getElem?_eq_getElem h1
    rw [givesL_next hx]
    have := h _ (List.mem_of_getElem? hx)
    unfold ReelD.gives
    have := this.2.2.2
    omega
  · rw [List.take_of_length_le h1, List.take_of_length_le (by omega)]
    exact Int.le_refl _
theorem usesR_get : ∀ (l : List ReelD) (t : Int) (k : Nat) (r : ReelD), 0 ≤ t → (∀ r ∈ l, r.ok) → l[k]? = some r → (usesR t l)[k]? = some ⟨r.id, usedK t l k, r.length - usedK t l k⟩
  | [], _, _, _, _, _, h => by simp at h
  | y :: l, t, 0, r, ht, hok, h => by
    obtain rfl : y = r := by simpa using h
    have hy := (hok y (by simp)).2.2.2
    have e : usedK t (y :: l) 0 = min t y.gives := by
      unfold usedK
      rw [List.take_succ_cons, List.take_zero]
      have h0 : givesL [] = 0 := rfl
      have h1 : givesL [y] = y.gives := by unfold givesL; simp
      have h2 : (y :: l).take 0 = [] := rfl
      rw [h1, h2, h0]
      unfold ReelD.gives
      omega
    rw [e]
    rfl
  | y :: l, t, k + 1, r, ht, hok, h => by
    have h1 : l[k]? = some r := by simpa using h
    have hy := (hok y (by simp)).2.2.2
    have hok2 : ∀ r ∈ l, r.ok := fun r hr => hok r (List.mem_cons_of_mem _ hr)
    have ih := usesR_get l (t - min t y.gives) k r (by omega) hok2 h1
    have hg := givesL_mono hok2 k
    have gc : ∀ m : List ReelD, givesL (y :: m) = y.gives + givesL m := fun m => by unfold givesL; simp
    have e : usedK (t - min t y.gives) l k = usedK t (y :: l) (k + 1) := by
      unfold usedK
      rw [List.take_succ_cons, List.take_succ_cons, gc, gc]
      have hgy : 0 ≤ y.gives := by unfold ReelD.gives; omega
      omega
    rw [e] at ih
    exact ih
theorem usesR_next {l : List ReelD} {t : Int} {k : Nat} {r : ReelD} (ht : 0 ≤ t) (hok : ∀ r ∈ l, r.ok) (h : l[k]? = some r) : (usesR t l).take (k + 1) = (usesR t l).take k ++ [⟨r.id, usedK t l k, r.length - usedK t l k⟩] := take_snoc_get (usesR_get l t k r ht hok h)
def OUsesR (base : Nat) (w : World) (v : Value) (l : List UseD) : Prop := w.ownsRow base 119 3 v l.length (l.flatMap UseD.cells)
/-- One more use: what else lies there stays. -/
theorem use_app {base xb z c m : Nat} {A : Option Addr} {W0 Y Z : World} {xs ys : List Value} {ve : Value} {o : Obj} {cs : Array Value} (h : Y.ownsRow base 119 3 (.slice A z c) z xs) (hB : Blk Y xb 188 cs) (hE : Y.ownsRow 0 3 1 ve m ys) (hb : Below W0.heap.size W0 Y) (hbase : W0.heap.size = base)
    (hg : (Y.alloc o).grownBy Z (Value.slice A z c).ownBlock) : Blk Z xb 188 cs ∧ Z.ownsRow 0 3 1 ve m ys ∧ Below W0.heap.size W0 Z := by
  subst hbase
  have hS : ∀ g, some g = (Value.slice A z c).ownBlock → W0.heap.size ≤ g ∧ ∃ cs, Blk Y g 119 cs := fun g hg => ownsRow_own h hg.symm
  have hK1 : KeptBut (fun g => some g = (Value.slice A z c).ownBlock) Y Z := by
    have h1 : KeptBut (fun g => some g = (Value.slice A z c).ownBlock) Y (Y.alloc o) := (KeptBut.mono (S := fun _ => False) (KeptBut.of_below (below_alloc Y o) |>.mono fun _ _ h => h) fun _ _ h => h.elim)
    exact h1.trans (KeptBut.grown (S := fun g => some g = (Value.slice A z c).ownBlock) hg fun g hg => hg) fun i _ hi => hi
  refine ⟨hK1.blk hB fun e => ?_, ownsRow_keptBut hE hK1 fun g cs' _ hG e => ?_, hb.trans (hK1.below (fun k hk => (hS k hk).1) hb.size)⟩
  · obtain ⟨-, cs', hB'⟩ := hS xb e
    exact Blk.ne hB' hB (by decide) rfl
  · obtain ⟨-, cs2, hB'⟩ := hS g e
    exact Blk.ne hB' hG (by decide) rfl
theorem ends_cell {X : World} {A : Option Addr} {m c : Nat} {l : List ReelD} (h : X.ownsRow 0 3 1 (.slice A m c) m ((endsTo l m).map (Value.int .i64))) {j : Nat} (hj : j < m) : ∃ g, A = some ⟨g, 0, none⟩ ∧ X.cell? ⟨g, j, none⟩ = some (.int .i64 (givesL (l.take (j + 1)))) := by
  have h3 : Rd X.heap.size X 1 (.slice A m c) m ((endsTo l m).map (Value.int .i64)) := Rd.own h (own_le h)
  obtain ⟨g, rfl, -, -⟩ := ownsRow_block h (by omega)
  obtain ⟨A', c', e, -, -, hr⟩ := h3
  injection e with e1 e2 e3
  obtain ⟨g', o', hA, -, hc⟩ := hr (by omega)
  rw [← e1] at hA
  injection hA with hA
  injection hA with hA1 hA2
  subst hA1
  subst hA2
  refine ⟨g, rfl, ?_⟩
  have := hc j (.int .i64 (givesL (l.take (j + 1)))) (by
    unfold endsTo
    rw [List.map_map, List.getElem?_map, List.getElem?_range hj]
    rfl)
  rw [Nat.zero_add] at this
  exact this
/-- What the reference's Used answers. -/
def RUsedRet (w : World) (p : PressD) (n : Int) (e : Ending) (w' : World) : Prop :=
  ∃ u, e = .returned (.tuple #[u, .int .i64 (copiesE p n)]) ∧ Hid (OUsesR w.heap.size w' u (if copiesE p n = 0 then usesTo p n p.webs.length else []) ∧ Below w.heap.size w w')
set_option maxRecDepth 1000000 in
set_option maxHeartbeats 4000000 in
theorem refUsed_any (p : PressD) (n : Int) (v : Value) (w : World) (h : RPress w.heap.size w v p) :
    Calls Try.prog 51 #[v, .int .i64 n] w (RUsedRet w p n) := by
  obtain ⟨iu, hiu, hz0, hz1, hz2⟩ := info_parts infoUseR
  have HP := Lib.hid h
  obtain ⟨u, rfl, hw⟩ := h
  obtain ⟨A, c, rfl, hlm, -⟩ := hw.open_
  have HR := webs_later hw
  clear hw
  obtain ⟨M, hM⟩ : ∃ n, p.webs.length = n := ⟨_, rfl⟩
  have HN := Lib.hid hM
  rw [hM] at HP hlm ⊢
  obtain ⟨cut, hcut⟩ : ∃ c, p.cut = c := ⟨_, rfl⟩
  have HC := Lib.hid hcut
  rw [hcut] at HP ⊢
  obtain ⟨W0, e0, HB0, HC0⟩ := press_box w cut p.margin (.slice A M c)
  have E0 := Lib.hid e0
  obtain ⟨p0, p1, p2⟩ := HC0.out W0 (Below.refl _ _)
  obtain ⟨ce, hce⟩ : ∃ c, copiesE p n = c := ⟨_, rfl⟩
  have HCE := Lib.hid hce
  have C1 := Lib.hid (refAsk_any p n _ W0 ((HP.out.below HB0.out).more HB0.out.size))
  rw [hce] at C1
  clear e0 hce hM hcut
  go_enter Try.func51, Try.ntmps51
  go_upto_region 1 with fail
  rw [E0.out]
  clear E0
  go_wp2_with fail
  refine C1.out.mono ?_
  rintro _ X ⟨rfl, hb⟩
  have HBX : Hid (Below W0.heap.size W0 X) := hb
  have HBW : Hid (Below w.heap.size w X) := HB0.out.trans (hb.mono HB0.out.size)
  clear C1 hb p0 p1 p2
  by_cases h0 : ce = 0
  case neg =>
    have h1 : (ce != 0) = true := by simpa using h0
    have HH := Lib.hid h0
    go_wp2_with fail
    go_ret2
    exact ⟨.slice none 0 0, by rw [HCE.out]; rfl, by rw [if_neg (by rw [HCE.out]; exact HH.out)]; exact World.ownsRow_nil _ _ _ _, HBW.out⟩
  subst h0
  obtain ⟨hc0, hn0, hnr⟩ := copiesE_ok HCE.out
  have HOK := Lib.hid (checkE_ok hc0)
  have hrb := reach_bound HOK.out
  have hn1 : n ≤ 1000000 := by omega
  have hcb : 300 ≤ cut ∧ cut ≤ 1500 := by have := HOK.out.cut; rw [HC.out] at this; exact this
  have hM6 : M ≤ 6 := by have := HOK.out.webs.2; rw [HN.out] at this; exact this
  obtain ⟨P, hP⟩ : ∃ P, n * cut = P := ⟨_, rfl⟩
  have hPb : 0 ≤ P ∧ P ≤ 1500000000 := by
    rw [← hP]
    exact ⟨Int.mul_nonneg hn0 (by omega), by
      have h1 := Int.mul_le_mul_of_nonneg_right hn1 (by omega : 0 ≤ cut)
      omega⟩
  have HPP := Lib.hid hP
  have HWP : Hid (wrap64 (n * cut) = P) := by show _ = _; rw [hP]; exact IntWalk.wrap64_in _ ⟨by omega, by omega⟩
  clear hrb hnr hc0 hP
  go_wp2_with fail
  go_loopw [7, 8] (fun u s wr => ∃ k : Nat, k ≤ M ∧ s = .int .i64 (k : Int) ∧ Hid (OUsesR W0.heap.size wr u (usesTo p n k)) ∧ Hid (Below W0.heap.size W0 wr)) (fun _ s _ => M - (intOf s).toNat)
  case atStart => exact ⟨0, Nat.zero_le _, rfl, World.ownsRow_nil _ _ _ _, HBX⟩
  case round =>
  obtain ⟨k, hk, rfl, hO, hB⟩ := hrel
  obtain ⟨Y, rfl⟩ : ∃ X : World, X = wr := ⟨_, rfl⟩
  obtain ⟨Au, cu, rfl⟩ := ownsRow_form hO.out
  have hBw : Hid (Below w.heap.size w Y) := HB0.out.trans (hB.out.mono HB0.out.size)
  obtain ⟨p0, p1, p2⟩ := HC0.out Y hB.out
  by_cases hlt : k < M
  case neg =>
    obtain rfl : k = M := by omega
    go_wp2_with fail
    go_ret2
    exact ⟨_, by rw [HCE.out]; rfl, by rw [if_pos HCE.out, HN.out]; exact ownsRow_base hO.out HB0.out.size, hBw.out⟩
  obtain ⟨x, hx⟩ : ∃ x, p.webs[k]? = some x := ⟨_, List.getElem?_eq_getElem (by rw [HN.out]; exact hlt)⟩
  have hmem := List.mem_of_getElem? hx
  have hxo := HOK.out.web x hmem
  have hxr := HOK.out.reel x hmem
  have hxl := HOK.out.reels x hmem
  obtain ⟨g, o, A2, c2, rfl, HXR⟩ := HR.out k x hx
  obtain ⟨c0, c1, c2', c3, hrr⟩ := HXR.out Y hBw.out
  have F1 : ∃ X1, Y.alloc (.cells #[.slice A2 x.reels.length c2, .int .i64 x.off, .int .i64 x.before, .int .i64 x.after] 188) = X1 ∧ Hid (Below Y.heap.size Y X1) ∧ Hid (Blk X1 Y.heap.size 188 #[.slice A2 x.reels.length c2, .int .i64 x.off, .int .i64 x.before, .int .i64 x.after]) := ⟨_, rfl, below_alloc _ _, Blk.new _ _ _⟩
  obtain ⟨X1, e1, HX1, HK1⟩ := F1
  have E1 := Lib.hid e1
  have HNX := Lib.hid (usesTo_next (n := n) hx)
  have hrr1 : RReels X1.heap.size X1 (.slice A2 x.reels.length c2) x.reels := (Rd.below hrr HX1.out).more HX1.out.size
  have CE := Lib.hid (refEnds_any x hxr hxl _ X1 hrr1)
  have HGB : Hid (∀ j, 0 ≤ givesL (x.reels.take j) ∧ givesL (x.reels.take j) ≤ 400000000) := fun j => givesTake_bound hxr hxl j
  have HXO := Lib.hid hxr
  have HUL := Lib.hid (usesTo_len (n := n) HOK.out k)
  obtain ⟨T, hT⟩ : ∃ T, takenW p n x = T := ⟨_, rfl⟩
  have HT := Lib.hid hT
  have HTE : Hid ((n = 0 → T = 0) ∧ (n ≠ 0 → T = x.off + P)) := by
    rw [← hT]
    unfold takenW
    rw [HC.out, HPP.out]
    exact ⟨fun h => if_neg (by omega), fun h => if_pos (by omega)⟩
  have hTb : 0 ≤ T ∧ T ≤ 2000000000 := by
    have h1 := hxo.1
    by_cases hn : n = 0
    · rw [HTE.out.1 hn]; omega
    · rw [HTE.out.2 hn]; omega
  obtain ⟨m, hm⟩ : ∃ m, x.reels.length = m := ⟨_, rfl⟩
  have HM := Lib.hid hm
  obtain ⟨hTb1, hTb2⟩ := hTb
  obtain ⟨⟨ho1, ho2⟩, -, -⟩ := hxo
  rw [hm] at c0 hxl E1 HK1 CE
  obtain ⟨q, hq⟩ : ∃ q, (usesTo p n k).length = q := ⟨_, rfl⟩
  have HQ := Lib.hid hq
  have hq1 : q ≤ 20 * k := by rw [← hq]; exact HUL.out
  have w0 := cellOf HK1.out 0 (x := .slice A2 m c2) rfl
  have w1 := cellOf HK1.out 1 (x := .int .i64 x.off) rfl
  have w2 := cellOf HK1.out 2 (x := .int .i64 x.before) rfl
  have w3 := cellOf HK1.out 3 (x := .int .i64 x.after) rfl
  have HBX1 : Hid (Below W0.heap.size W0 X1) := hB.out.trans (HX1.out.mono hB.out.size)
  have HO1 : Hid (X1.ownsRow W0.heap.size 119 3 (.slice Au q cu) q ((usesTo p n k).flatMap UseD.cells)) := by
    have := ownsRow_below hO.out HX1.out
    rw [hq] at this
    exact this
  obtain ⟨p01, -, -⟩ := HC0.out X1 HBX1.out
  rw [hq] at ⊢
  clear hx hmem hxr hrr hrr1 e1 hm hT hq hO
  go_upto_region 9 with fail
  rw [E1.out]
  clear c0 c1 c2' c3 E1 p0 p1 p2
  go_upto_region 10 with fail
  have HF1 : Hid (wrap64 (x.off + P) = x.off + P) := IntWalk.wrap64_in _ ⟨by omega, by omega⟩
  rw [HWP.out, HF1.out]
  go_upto_if 41 with fail
  go_cut [10] from 41 to 41 (fun q wx => q = .int .i64 T ∧ wx = X1)
  case first =>
    by_cases hn : n = 0
    · have h1 := HTE.out.1 hn
      subst hn
      subst h1
      go_wp2_with fail
      go_meet
      exact ⟨rfl, rfl⟩
    · have h1 := HTE.out.2 hn
      have h2 : (n == 0) = false := by simpa using hn
      subst h1
      go_wp2_with fail
      go_meet
      exact ⟨rfl, rfl⟩
  case rest =>
  obtain ⟨rfl, rfl⟩ := hcut
  clear p01
  go_wp2_with fail
  refine CE.out.mono ?_
  rintro _ Z ⟨ul, rfl, hOz, hb⟩
  have HOZ : Hid (Z.ownsRow W0.heap.size 119 3 (.slice Au q cu) q ((usesTo p n k).flatMap UseD.cells)) := ownsRow_below HO1.out hb
  have HKZ := Lib.hid (HK1.out.below hb HK1.out.lt)
  have HBZ : Hid (Below W0.heap.size W0 Z) := HBX1.out.trans (hb.mono HBX1.out.size)
  have hEl := endsTo_len x.reels m
  have hOz2 : Z.ownsRow 0 3 1 ul m ((endsTo x.reels m).map (Value.int .i64)) := by
    have := hOz
    unfold OInts at this
    rw [hEl] at this
    exact ownsRow_base this (Nat.zero_le _)
  obtain ⟨Ae, ce, rfl⟩ := ownsRow_form hOz2
  have HEZ := Lib.hid hOz2
  obtain ⟨xb, hxb⟩ : ∃ b, Y.heap.size = b := ⟨_, rfl⟩
  rw [hxb] at HKZ ⊢
  clear CE hOz hb hEl hOz2 w0 w1 w2 w3 HK1 HO1 hxb
  go_wp2_with fail
  go_loopw [7, 12] (fun u s wr => ∃ i : Nat, i ≤ m ∧ s = .int .i64 (i : Int) ∧ Hid (wr.ownsRow W0.heap.size 119 3 u (q + i) ((usesTo p n k ++ (usesR T x.reels).take i).flatMap UseD.cells)) ∧ Hid (Below W0.heap.size W0 wr) ∧ Hid (Blk wr xb 188 #[.slice A2 m c2, .int .i64 x.off, .int .i64 x.before, .int .i64 x.after]) ∧ Hid (wr.ownsRow 0 3 1 (.slice Ae m ce) m ((endsTo x.reels m).map (Value.int .i64)))) (fun _ s _ => m - (intOf s).toNat)
  case atStart => exact ⟨0, Nat.zero_le _, rfl, by rw [List.take_zero, List.append_nil]; exact HOZ, HBZ, HKZ, HEZ⟩
  case round =>
  obtain ⟨i, hi, rfl, hO, hBi, hK, hE⟩ := hrel
  obtain ⟨Q, rfl⟩ : ∃ X : World, X = wr := ⟨_, rfl⟩
  obtain ⟨Az, cz, rfl⟩ := ownsRow_form hO.out
  by_cases hl2 : i < m
  case neg =>
    obtain rfl : i = m := by omega
    have HUN : Hid (OUsesR W0.heap.size Q (.slice Az (q + i) cz) (usesTo p n (k + 1))) := by
      have hl : (usesR T x.reels).take i = usesR T x.reels := List.take_of_length_le (by rw [usesR_len, HM.out]; exact Nat.le_refl _)
      have := hO.out
      rw [hl] at this
      show World.ownsRow _ _ _ _ _ _ _
      rw [HNX.out, HT.out, List.length_append, HQ.out, usesR_len, HM.out]
      exact this
    go_wp2_with fail
    go_roundw
    case rel =>
      first
        | exact ⟨k + 1, by omega, by go_num, HUN, hBi⟩
        | (repeat apply Exists.intro
           refine ⟨?_, rfl⟩
           exact ⟨k + 1, by omega, by go_num, HUN, hBi⟩)
    case measure => simp [intOf]; omega
  obtain ⟨r, hr⟩ : ∃ r, x.reels[i]? = some r := ⟨_, List.getElem?_eq_getElem (by rw [HM.out]; exact hl2)⟩
  have HRI := Lib.hid hr
  obtain ⟨ge, rfl, hce⟩ := ends_cell hE.out hl2
  have hg0 := HGB.out i
  have hg1 := HGB.out (i + 1)
  have hgm := givesL_mono HXO.out i
  have HTK := Lib.hid (usesR_next hTb1 HXO.out hr)
  have HUK : Hid (usedK T x.reels i = max (min T (givesL (x.reels.take (i + 1))) - givesL (x.reels.take i)) 0) := rfl
  obtain ⟨E0, hE0⟩ : ∃ E, givesL (x.reels.take i) = E := ⟨_, rfl⟩
  obtain ⟨E1, hE1⟩ : ∃ E, givesL (x.reels.take (i + 1)) = E := ⟨_, rfl⟩
  obtain ⟨U, hU⟩ : ∃ E, usedK T x.reels i = E := ⟨_, rfl⟩
  rw [hE0] at hg0 hgm HUK
  rw [hE1] at hg1 hgm hce HUK
  rw [hU] at HTK HUK
  have HE0 := Lib.hid hE0
  have i0 : (0 : Int) ≤ (i : Int) := by omega
  have i1 : (i : Int) < (m : Int) := by omega
  clear hr hE0 hE1 hU
  go_upto_region 17 with fail
  go_upto_if 51 with fail
  go_cut [13] from 51 to 56 (fun q wx => q = .int .i64 E0 ∧ wx = Q)
  case first =>
    rcases Nat.eq_zero_or_pos i with hi9 | hi9
    · have h1 : E0 = 0 := by rw [← HE0.out, hi9]; rfl
      subst hi9
      subst h1
      go_wp2_with fail
      go_meet
      exact ⟨rfl, rfl⟩
    · obtain ⟨j, hj⟩ : ∃ j, j + 1 = i := ⟨i - 1, by omega⟩
      obtain ⟨ge2, e2, hce2⟩ := ends_cell hE.out (j := j) (by omega)
      injection e2 with e2
      injection e2 with e2
      subst e2
      rw [hj, HE0.out] at hce2
      have HJ := Lib.hid hj
      have j0 : (0 : Int) ≤ (j : Int) := by omega
      have j1 : (j : Int) < (m : Int) := by omega
      have j2 : (0 : Int) < (i : Int) := by omega
      have hij : (i : Int) - 1 = (j : Int) := by omega
      clear hj
      go_wp2_with fail
      go_meet
      exact ⟨rfl, rfl⟩
  case rest =>
  obtain ⟨rfl, rfl⟩ := hcut
  obtain ⟨Q, rfl⟩ : ∃ X : World, X = wc := ⟨_, rfl⟩
  have hg3 : 0 ≤ E0 ∧ E0 ≤ E1 ∧ E1 ≤ 400000000 := by omega
  have hU2 : 0 ≤ U ∧ U ≤ E1 - E0 := by have := HUK.out; omega
  obtain ⟨hg4, hg5, hg6⟩ := hg3
  go_upto_region 19 with fail
  go_cut [14] from 57 to 65 (fun q wx => q = .int .i64 U ∧ wx = Q)
  case first =>
    have HWM : Hid (wrap64 (min T E1 - E0) = min T E1 - E0) := IntWalk.wrap64_in _ ⟨by omega, by omega⟩
    go_wp2_with fail
    go_meet
    first
      | exact ⟨by rw [HUK.out], rfl⟩
      | exact ⟨by rw [HUK.out, HWM.out], rfl⟩
  case rest =>
  obtain ⟨rfl, rfl⟩ := hcut
  obtain ⟨Q, rfl⟩ : ∃ X : World, X = wc := ⟨_, rfl⟩
  have hBQ : Hid (Below w.heap.size w Q) := HB0.out.trans (hBi.out.mono HB0.out.size)
  obtain ⟨-, -, -, -, hrq⟩ := HXR.out Q hBQ.out
  rw [HM.out] at hrq
  obtain ⟨g2, o2, rfl, r0, -, r2, -⟩ := reels_at hrq HRI.out
  have w0 := cellOf hK.out 0 (x := .slice (some ⟨g2, o2, none⟩) m c2) rfl
  have hro := (HXO.out r (List.mem_of_getElem? HRI.out)).2.2
  obtain ⟨⟨hr1, hr2⟩, -⟩ := hro
  have hge : U ≤ 400000000 := by omega
  have s1 : IntKind.i64.wrap (r.length - U) = r.length - U := IntWalk.i64_in _ ⟨by omega, by omega⟩
  have hz9 : q + i ≤ 200 := by omega
  clear hrq hce hg0 hg1 hgm hg4 hg5 hg6 hU2
  go_upto_region 20 with fail
  refine wp_move_tail 15 (.tmp 7) (by kernel_rfl) (fun _ _ _ _ h => h) rfl rfl (by kernel_rfl) ?_
  simp only [List.take_succ_cons, List.take_zero, List.drop_succ_cons, List.drop_zero, Act.put, List.setIfInBounds_toArray, List.set_cons_zero, List.set_cons_succ]
  repeat go_big_quiet_step (fail)
  refine wpQuiet_nil ?_
  have hDr : Below Q.heap.size Q Q.drew := (Below.refl _ _).drew
  have HOD := Lib.hid (ownsRow_below hO.out hDr)
  have HKD := Lib.hid (hK.out.below hDr hK.out.lt)
  have HED := Lib.hid (ownsRow_below hE.out hDr)
  have HBD : Hid (Below W0.heap.size W0 Q.drew) := hBi.out.trans (hDr.mono hBi.out.size)
  obtain ⟨D, hD⟩ : ∃ D, Q.drew = D := ⟨_, rfl⟩
  rw [hD] at HOD HKD HED HBD ⊢
  have HSZ : Hid (W0.heap.size ≤ D.heap.size) := HBD.out.size
  have HAp : Hid (∀ v' W1, (D.alloc (.cells #[.int .i64 r.id, .int .i64 U, .int .i64 (r.length - U)] 119)).grownBy W1 (Value.slice Az (q + i) cz).ownBlock → W1.ownsRow W0.heap.size 119 3 v' (q + i + 1) ((usesTo p n k ++ (usesR T x.reels).take i).flatMap UseD.cells ++ [.int .i64 r.id, .int .i64 U, .int .i64 (r.length - U)]) → Hid (W1.ownsRow W0.heap.size 119 3 v' (q + (i + 1)) ((usesTo p n k ++ (usesR T x.reels).take (i + 1)).flatMap UseD.cells)) ∧ Hid (Below W0.heap.size W0 W1) ∧ Hid (Blk W1 xb 188 #[.slice (some ⟨g2, o2, none⟩) m c2, .int .i64 x.off, .int .i64 x.before, .int .i64 x.after]) ∧ Hid (W1.ownsRow 0 3 1 (.slice (some ⟨ge, 0, none⟩) m ce) m ((endsTo x.reels m).map (Value.int .i64)))) := fun v' W1 hg ho => by
    obtain ⟨h1, h2, h3⟩ := use_app HOD.out HKD.out HED.out HBD.out rfl hg
    refine ⟨?_, h3, h1, h2⟩
    show World.ownsRow _ _ _ _ _ _ _
    rw [HTK.out, ← List.append_assoc, List.flatMap_append, show q + (i + 1) = q + i + 1 by omega]
    simpa [UseD.cells] using ho
  clear hD hDr s1 r0 r2 w0 i0 i1 hO hK hE
  go_wp2_with (at_builtin; refine wpList_append_own _ rfl _ _ 115 rfl W0.heap.size 119 iu _ 3 24 sliceUseR hiu hz0 hz1 hz2 rfl (by decide) (.slice Az (q + i) cz) (q + i) ((usesTo p n k ++ (usesR T x.reels).take i).flatMap UseD.cells) rfl (HOD.out.alloc _) ⟨D.heap.size, 0, none⟩ 1 1 [.int .i64 r.id, .int .i64 U, .int .i64 (r.length - U)] rfl rfl (cells_new _ _ _) (by simp [Value.oneCell']) (by simp only [maxLen]; omega) (by omega) (by have := HSZ.out; simp; omega) ?_; intro v2' w10 hown' hgro _; obtain ⟨Av2, cv2, rfl⟩ := ownsRow_form hown'; obtain ⟨hfin, hfin2, hfin3, hfin4⟩ := HAp.out _ _ hgro hown'; clear HAp hown' hgro)
  go_roundw
  case rel => exact ⟨i + 1, by omega, by go_num, hfin, hfin2, hfin3, hfin4⟩
  case measure => simp [intOf]; omega
end Go.Proofs.Ytpkepacbondopaa

namespace Go.Proofs.Ytpkepacbondopaa
open Go.RowKit Go.Shelf
attribute [local go_sem] Oper.semAt_some

set_option maxRecDepth 100000 in
set_option maxHeartbeats 4000000 in
theorem Splices_bad (p : PressD) (i : Int) (hbad : checkE p ≠ 0 ∨ ¬ (0 ≤ i ∧ i < (p.webs.length : Int))) (v : Value) (w : World) (h : RPress w.heap.size w v p) :
    Calls Try.prog 21 #[v, .int .i64 i] w (SplR p i w) := by
  have HP := Lib.hid h
  obtain ⟨u, rfl, hw⟩ := h
  obtain ⟨A, c, rfl, hlm, -⟩ := hw.open_
  clear hw
  obtain ⟨n, hn⟩ : ∃ n, p.webs.length = n := ⟨_, rfl⟩
  have HN := Lib.hid hn
  have HBAD := Lib.hid hbad
  rw [hn] at HP hlm ⊢
  have F0 : ∃ W0, w.alloc (.cells #[.int .i64 p.cut, .int .i64 p.margin, .slice A n c] 24) = W0 ∧ Hid (Below w.heap.size w W0) ∧ Hid (Blk W0 w.heap.size 24 #[.int .i64 p.cut, .int .i64 p.margin, .slice A n c]) := ⟨_, rfl, below_alloc _ _, Blk.new _ _ _⟩
  obtain ⟨W0, e0, HB0, HK0⟩ := F0
  have E0 := Lib.hid e0
  have p0 := cellOf HK0.out 0 (x := .int .i64 p.cut) rfl
  have p1 := cellOf HK0.out 1 (x := .int .i64 p.margin) rfl
  have p2 := cellOf HK0.out 2 (x := .slice A n c) rfl
  obtain ⟨ce, hce⟩ : ∃ c, checkE p = c := ⟨_, rfl⟩
  have HCE := Lib.hid hce
  have C1 := Lib.hid (Check_any p _ W0 ((HP.out.below HB0.out).more HB0.out.size))
  rw [hce] at C1
  clear e0 hce hn hbad
  go_enter Try.func21, Try.ntmps21
  go_upto_region 1 with fail
  rw [E0.out]
  clear E0
  go_wp2_with fail
  refine C1.out.mono ?_
  rintro _ X ⟨rfl, hb⟩
  have HBW : Hid (Below w.heap.size w X) := HB0.out.trans (hb.mono HB0.out.size)
  have hK1 := HK0.out.below hb HK0.out.lt
  clear C1 hb p0 p1 p2
  have p2 := cellOf hK1 2 (x := .slice A n c) rfl
  clear hK1
  by_cases h0 : ce = 0
  case neg =>
    have h1 : (ce != 0) = true := by simpa using h0
    have HH := Lib.hid h0
    have HF : Hid (splE p i = ce ∧ splL p i = []) := ⟨by unfold splE; rw [HCE.out, if_pos h0], by unfold splL; rw [HCE.out, if_neg fun h => h0 h.1]⟩
    go_wp2_with fail
    go_ret2
    exact ⟨.slice none 0 0, by rw [HF.out.1]; rfl, by rw [HF.out.2]; exact Rd.nil, HBW.out⟩
  subst h0
  have HOK := Lib.hid (checkE_ok HCE.out)
  have hn6 : 1 ≤ n ∧ n ≤ 6 := by rw [← HN.out]; exact HOK.out.webs
  have hno : ¬ (0 ≤ i ∧ i < (p.webs.length : Int)) := HBAD.out.resolve_left fun h => h HCE.out
  have hb : withinB i 0 ((n : Int) - 1) = false := within_f fun h => hno (by rw [HN.out]; omega)
  have C2 := Lib.hid (within_let hb)
  have HF : Hid (splE p i = 1 ∧ splL p i = []) := ⟨by unfold splE; rw [HCE.out, if_neg (by decide), if_neg hno], by unfold splL; rw [if_neg fun h => hno h.2]⟩
  clear hb hno
  go_wp2_with fail
  refine (C2.out _).mono ?_
  rintro _ _ ⟨rfl, rfl⟩
  go_wp2_with fail
  go_ret2
  exact ⟨.slice none 0 0, by rw [HF.out.1]; rfl, by rw [HF.out.2]; exact Rd.nil, HBW.out⟩
theorem Splices_any (p : PressD) (i : Int) (v : Value) (w : World) (h : RPress w.heap.size w v p) :
    Calls Try.prog 21 #[v, .int .i64 i] w (SplR p i w) := by
  by_cases hc : checkE p = 0
  · by_cases hi : 0 ≤ i ∧ i < (p.webs.length : Int)
    · obtain ⟨k, rfl⟩ : ∃ k : Nat, i = (k : Int) := ⟨i.toNat, by omega⟩
      obtain ⟨x, hx⟩ : ∃ x, p.webs[k]? = some x := ⟨_, List.getElem?_eq_getElem (by omega)⟩
      refine (Splices_ok p hc k x hx v w h).mono ?_
      rintro e w' ⟨A, c, rfl, h1, h2⟩
      refine ⟨.slice A x.places.length c, by unfold splE; rw [hc, if_neg (by decide), if_pos hi], ?_, h2⟩
      unfold splL
      rw [if_pos ⟨hc, hi⟩, List.getD_eq_getElem?_getD, show ((k : Int)).toNat = k by omega, hx]
      exact Rd.own h1 (own_le h1)
    · exact Splices_bad p i (.inr hi) v w h
  · exact Splices_bad p i (.inl hc) v w h
end Go.Proofs.Ytpkepacbondopaa

namespace Go.Proofs.Ytpkepacbondopaa
open Go.RowKit Go.Shelf
attribute [local go_sem] Oper.semAt_some

theorem fieldsRl : Try.prog.underlying 58 = some (.struct (Try.prog.fieldsOf 58)) := by kernel_rfl
theorem heldRl : Try.prog.stoodInHeld 58 = false := by kernel_rfl
theorem flRl : (Try.prog.fieldsOf 58).toList.map (fun f => (f.name != "_", f.type, f.offset)) = [(true, 3, 0), (true, 3, 1), (true, 3, 2), (true, 3, 3)] := by kernel_rfl
theorem eqReel (w : World) (a b c d : Int) : (Op.equalIn 10000 58 (.agg #[.int .i64 a, .int .i64 b, .int .i64 c, .int .i64 d]) (.agg #[.int .i64 a, .int .i64 b, .int .i64 c, .int .i64 d])).run Try.prog w = .ok true w := by
  rw [run_equalIn_agg w 9999 _ _ _ fieldsRl heldRl]
  have hl := flRl
  generalize (Try.prog.fieldsOf 58).toList = fs at hl ⊢
  obtain ⟨f0, r0, rfl, h0, hl⟩ := List.map_eq_cons_iff.1 hl
  obtain ⟨f1, r1, rfl, h1, hl⟩ := List.map_eq_cons_iff.1 hl
  obtain ⟨f2, r2, rfl, h2, hl⟩ := List.map_eq_cons_iff.1 hl
  obtain ⟨f3, r3, rfl, h3, hl⟩ := List.map_eq_cons_iff.1 hl
  obtain rfl := List.map_eq_nil_iff.1 hl
  simp only [Prod.mk.injEq, bne_iff_ne, ne_eq] at h0 h1 h2 h3
  obtain ⟨n0, t0, o0⟩ := h0
  obtain ⟨n1, t1, o1⟩ := h1
  obtain ⟨n2, t2, o2⟩ := h2
  obtain ⟨n3, t3, o3⟩ := h3
  clear hl
  simp [Op.eqFields, n0, n1, n2, n3, t0, t1, t2, t3, o0, o1, o2, o3, go_sem]
set_option maxRecDepth 100000 in
set_option maxHeartbeats 1000000 in
theorem eqReels_same (a b : Value) (l : List ReelD) (w : World) (ha : RReels w.heap.size w a l) (hb : RReels w.heap.size w b l) :
    Calls Try.prog 64 #[a, b] w fun e w' => e = .returned (.bool true) ∧ Below w.heap.size w w' := by
  obtain ⟨A, c, rfl, hlm, hr⟩ := ha.open_
  obtain ⟨B, d, rfl, -, hs⟩ := hb.open_
  obtain ⟨n, hn⟩ : ∃ n, l.length = n := ⟨_, rfl⟩
  rw [hn] at hlm ⊢
  have Hn := Lib.hid hn
  have HR := Lib.hid hr
  have HS := Lib.hid hs
  clear hn hr hs ha hb
  go_enter Try.func64, Try.ntmps64
  go_wp2
  go_loopw [13] (fun i wr => ∃ k : Nat, k ≤ n ∧ i = .int .i64 k ∧ Hid (Below w.heap.size w wr)) (fun i _ => n - (intOf i).toNat)
  case atStart => exact ⟨0, Nat.zero_le _, rfl, Below.refl _ _⟩
  case round =>
  obtain ⟨k, hk, rfl, hB⟩ := hrel
  by_cases hlt : k < n
  · obtain ⟨x, hx⟩ : ∃ x, l[k]? = some x := ⟨_, List.getElem?_eq_getElem (by rw [Hn.out]; exact hlt)⟩
    obtain ⟨g, o, rfl, hb1, c0, c1, c2, c3⟩ := HR.out k x hx
    obtain ⟨g2, o2, rfl, hb2, d0, d1, d2, d3⟩ := HS.out k x hx
    rw [← hB.out.cell (p := ⟨g, o + k * 4, none⟩) hb1] at c0
    rw [← hB.out.cell (p := ⟨g, o + k * 4 + 1, none⟩) hb1] at c1
    rw [← hB.out.cell (p := ⟨g, o + k * 4 + 2, none⟩) hb1] at c2
    rw [← hB.out.cell (p := ⟨g, o + k * 4 + 3, none⟩) hb1] at c3
    rw [← hB.out.cell (p := ⟨g2, o2 + k * 4, none⟩) hb2] at d0
    rw [← hB.out.cell (p := ⟨g2, o2 + k * 4 + 1, none⟩) hb2] at d1
    rw [← hB.out.cell (p := ⟨g2, o2 + k * 4 + 2, none⟩) hb2] at d2
    rw [← hB.out.cell (p := ⟨g2, o2 + k * 4 + 3, none⟩) hb2] at d3
    clear hx
    have hse : ∀ W, (Op.equalIn 10000 58 (.agg #[.int .i64 x.id, .int .i64 x.width, .int .i64 x.length, .int .i64 x.core]) (.agg #[.int .i64 x.id, .int .i64 x.width, .int .i64 x.length, .int .i64 x.core])).run Try.prog W = .ok true W := fun W => eqReel W _ _ _ _
    go_wp2
    go_quiet (fail)
    clear hse
    go_wp2
    go_roundw
    case rel => exact ⟨k + 1, by omega, by go_num, below_drewN hB.out _⟩
    case measure => simp [intOf]; omega
  · go_wp2
    go_ret
    exact ⟨rfl, hB.out⟩
/-- Two webs that are alike. -/
def webVal (v : Value) (x : WebD) : Value := .agg #[v, .int .i64 x.off, .int .i64 x.before, .int .i64 x.after]
set_option maxRecDepth 100000 in
set_option maxHeartbeats 2000000 in
theorem kept1_same (a b : Value) (x : WebD) (w : World) (ha : RReels w.heap.size w a x.reels) (hb : RReels w.heap.size w b x.reels) :
    Calls Try.prog 109 #[.agg #[a, .int .i64 x.off, .int .i64 x.before, .int .i64 x.after], .agg #[b, .int .i64 x.off, .int .i64 x.before, .int .i64 x.after]] w fun e w' => e = .returned (.bool true) ∧ Below w.heap.size w w' := by
  obtain ⟨A, c, rfl, -, -⟩ := ha.open_
  obtain ⟨B, d, rfl, -, -⟩ := hb.open_
  obtain ⟨n, hn⟩ : ∃ n, x.reels.length = n := ⟨_, rfl⟩
  have HA := Lib.hid ha
  have HB := Lib.hid hb
  rw [hn] at HA HB ⊢
  have F0 : ∃ W0, (w.alloc (.cells #[.slice A n c, .int .i64 x.off, .int .i64 x.before, .int .i64 x.after] 47)).alloc (.cells #[.slice B n d, .int .i64 x.off, .int .i64 x.before, .int .i64 x.after] 47) = W0 ∧ Hid (Below w.heap.size w W0) ∧ Hid (Blk W0 w.heap.size 47 #[.slice A n c, .int .i64 x.off, .int .i64 x.before, .int .i64 x.after] ∧ Blk W0 (w.heap.size + 1) 47 #[.slice B n d, .int .i64 x.off, .int .i64 x.before, .int .i64 x.after]) := by
    have k1 := Blk.new w 47 #[.slice A n c, .int .i64 x.off, .int .i64 x.before, .int .i64 x.after]
    have b1 := below_alloc w (.cells #[.slice A n c, .int .i64 x.off, .int .i64 x.before, .int .i64 x.after] 47)
    obtain ⟨V1, e1⟩ : ∃ V, w.alloc (.cells #[.slice A n c, .int .i64 x.off, .int .i64 x.before, .int .i64 x.after] 47) = V := ⟨_, rfl⟩
    rw [e1] at k1 b1 ⊢
    have z1 : V1.heap.size = w.heap.size + 1 := by rw [← e1]; simp
    refine ⟨_, rfl, sbelow_al b1 _, k1.below (below_alloc _ _) k1.lt, ?_⟩
    rw [← z1]
    exact Blk.new _ _ _
  obtain ⟨W0, e0, HB0, HK⟩ := F0
  have E0 := Lib.hid e0
  have q0 := cellOf HK.out.1 0 (x := .slice A n c) rfl
  have q1 := cellOf HK.out.1 1 (x := .int .i64 x.off) rfl
  have q2 := cellOf HK.out.1 2 (x := .int .i64 x.before) rfl
  have q3 := cellOf HK.out.1 3 (x := .int .i64 x.after) rfl
  have r0 := cellOf HK.out.2 0 (x := .slice B n d) rfl
  have r1 := cellOf HK.out.2 1 (x := .int .i64 x.off) rfl
  have r2 := cellOf HK.out.2 2 (x := .int .i64 x.before) rfl
  have r3 := cellOf HK.out.2 3 (x := .int .i64 x.after) rfl
  have C1 := Lib.hid (eqReels_same (.slice A n c) (.slice B n d) x.reels W0 ((Rd.below HA.out HB0.out).more HB0.out.size) ((Rd.below HB.out HB0.out).more HB0.out.size))
  clear e0 ha hb hn
  go_enter Try.func109, Try.ntmps109
  go_upto_region 1 with fail
  rw [E0.out]
  clear E0
  go_wp2_with fail
  refine C1.out.mono ?_
  rintro _ X ⟨rfl, hb⟩
  have HBX : Hid (Below w.heap.size w X) := HB0.out.trans (hb.mono HB0.out.size)
  clear C1 hb q0 q1 q2 q3 r0 r1 r2 r3
  go_wp2_with fail
  go_ret
  exact ⟨rfl, HBX.out⟩
set_option maxRecDepth 100000 in
set_option maxHeartbeats 2000000 in
theorem eqWebs_same (a b : Value) (l : List WebD) (w : World) (ha : RWebs w.heap.size w a l) (hb : RWebs w.heap.size w b l) :
    Calls Try.prog 108 #[a, b, .func (.func 109) #[] #[]] w fun e w' => e = .returned (.bool true) ∧ Below w.heap.size w w' := by
  obtain ⟨A, c, rfl, hlm, -⟩ := ha.open_
  obtain ⟨B, d, rfl, -, -⟩ := hb.open_
  have HA := webs_later ha
  have HB := webs_later hb
  obtain ⟨n, hn⟩ : ∃ n, l.length = n := ⟨_, rfl⟩
  rw [hn] at hlm ⊢
  have HN := Lib.hid hn
  clear ha hb hn
  go_enter Try.func108, Try.ntmps108
  go_wp2_with fail
  go_loopw [17] (fun i wr => ∃ k : Nat, k ≤ n ∧ i = .int .i64 k ∧ Hid (Below w.heap.size w wr)) (fun i _ => n - (intOf i).toNat)
  case atStart => exact ⟨0, Nat.zero_le _, rfl, Below.refl _ _⟩
  case round =>
  obtain ⟨k, hk, rfl, hB⟩ := hrel
  obtain ⟨X, rfl⟩ : ∃ X : World, X = wr := ⟨_, rfl⟩
  by_cases hlt : k < n
  · obtain ⟨x, hx⟩ : ∃ x, l[k]? = some x := ⟨_, List.getElem?_eq_getElem (by rw [HN.out]; exact hlt)⟩
    obtain ⟨g, o, A2, c2, rfl, HXA⟩ := HA.out k x hx
    obtain ⟨g', o', B2, d2, rfl, HXB⟩ := HB.out k x hx
    obtain ⟨c0, c1, c2', c3, -⟩ := HXA.out X hB.out
    have F1 : ∃ X1, X.alloc (.cells #[.slice A2 x.reels.length c2, .int .i64 x.off, .int .i64 x.before, .int .i64 x.after] 47) = X1 ∧ Hid (Below X.heap.size X X1) ∧ Hid (Blk X1 X.heap.size 47 #[.slice A2 x.reels.length c2, .int .i64 x.off, .int .i64 x.before, .int .i64 x.after]) := ⟨_, rfl, below_alloc _ _, Blk.new _ _ _⟩
    obtain ⟨X1, e1, HX1, HK1⟩ := F1
    have HB1 : Hid (Below w.heap.size w X1) := hB.out.trans (HX1.out.mono hB.out.size)
    obtain ⟨d0, d1, d2', d3, -⟩ := HXB.out X1 HB1.out
    have F2 : ∃ X2, X1.alloc (.cells #[.slice B2 x.reels.length d2, .int .i64 x.off, .int .i64 x.before, .int .i64 x.after] 47) = X2 ∧ Hid (Below X1.heap.size X1 X2) ∧ Hid (Blk X2 X1.heap.size 47 #[.slice B2 x.reels.length d2, .int .i64 x.off, .int .i64 x.before, .int .i64 x.after]) := ⟨_, rfl, below_alloc _ _, Blk.new _ _ _⟩
    obtain ⟨X2, e2, HX2, HK2⟩ := F2
    have HB2 : Hid (Below w.heap.size w X2) := HB1.out.trans (HX2.out.mono HB1.out.size)
    have hra := (HXA.out X2 HB2.out).2.2.2.2
    have hrb := (HXB.out X2 HB2.out).2.2.2.2
    have C1 := Lib.hid (kept1_same _ _ x X2 hra hrb)
    have E1 := Lib.hid e1
    have E2 := Lib.hid e2
    obtain ⟨m, hm⟩ : ∃ m, x.reels.length = m := ⟨_, rfl⟩
    rw [hm] at c0 d0 E1 E2 HK1 HK2 C1
    have hK1 := HK1.out.below HX2.out HK1.out.lt
    have q0 := cellOf hK1 0 (x := .slice A2 m c2) rfl
    have q1 := cellOf hK1 1 (x := .int .i64 x.off) rfl
    have q2 := cellOf hK1 2 (x := .int .i64 x.before) rfl
    have q3 := cellOf hK1 3 (x := .int .i64 x.after) rfl
    have r0 := cellOf HK2.out 0 (x := .slice B2 m d2) rfl
    have r1 := cellOf HK2.out 1 (x := .int .i64 x.off) rfl
    have r2 := cellOf HK2.out 2 (x := .int .i64 x.before) rfl
    have r3 := cellOf HK2.out 3 (x := .int .i64 x.after) rfl
    have k0 : (0 : Int) ≤ (k : Int) := by omega
    have k1 : (k : Int) < (n : Int) := by omega
    clear hx e1 e2 hra hrb hm hK1
    go_upto_region 6 with fail
    rw [E1.out]
    go_upto_region 7 with fail
    rw [E2.out]
    clear c0 c1 c2' c3 d0 d1 d2' d3
    go_wp2_with fail
    refine C1.out.mono ?_
    rintro _ Y ⟨rfl, hb⟩
    have HBY : Hid (Below w.heap.size w Y) := HB2.out.trans (hb.mono HB2.out.size)
    clear C1 hb q0 q1 q2 q3 r0 r1 r2 r3
    go_wp2_with fail
    go_roundw
    case rel => exact ⟨k + 1, by omega, by go_num, HBY⟩
    case measure => simp [intOf]; omega
  · go_wp2_with fail
    go_ret
    exact ⟨rfl, hB.out⟩
end Go.Proofs.Ytpkepacbondopaa

namespace Go.Proofs.Ytpkepacbondopaa
open Go.RowKit Go.Shelf
attribute [local go_sem] Oper.semAt_some

set_option maxRecDepth 100000 in
set_option maxHeartbeats 2000000 in
theorem kept_same (p : PressD) (a b : Value) (w : World) (ha : RPress w.heap.size w a p) (hb : RPress w.heap.size w b p) :
    Calls Try.prog 54 #[a, b] w fun e w' => e = .returned (.bool true) ∧ Below w.heap.size w w' := by
  obtain ⟨u, rfl, hu⟩ := ha
  obtain ⟨v, rfl, hv⟩ := hb
  obtain ⟨A, c, rfl, -, -⟩ := hu.open_
  obtain ⟨B, d, rfl, -, -⟩ := hv.open_
  obtain ⟨n, hn⟩ : ∃ n, p.webs.length = n := ⟨_, rfl⟩
  have HU := Lib.hid hu
  have HV := Lib.hid hv
  rw [hn] at HU HV ⊢
  have F0 : ∃ W0, (w.alloc (.cells #[.int .i64 p.cut, .int .i64 p.margin, .slice A n c] 24)).alloc (.cells #[.int .i64 p.cut, .int .i64 p.margin, .slice B n d] 24) = W0 ∧ Hid (Below w.heap.size w W0) ∧ Hid (Blk W0 w.heap.size 24 #[.int .i64 p.cut, .int .i64 p.margin, .slice A n c] ∧ Blk W0 (w.heap.size + 1) 24 #[.int .i64 p.cut, .int .i64 p.margin, .slice B n d]) := by
    have k1 := Blk.new w 24 #[.int .i64 p.cut, .int .i64 p.margin, .slice A n c]
    have b1 := below_alloc w (.cells #[.int .i64 p.cut, .int .i64 p.margin, .slice A n c] 24)
    obtain ⟨V1, e1⟩ : ∃ V, w.alloc (.cells #[.int .i64 p.cut, .int .i64 p.margin, .slice A n c] 24) = V := ⟨_, rfl⟩
    rw [e1] at k1 b1 ⊢
    have z1 : V1.heap.size = w.heap.size + 1 := by rw [← e1]; simp
    refine ⟨_, rfl, sbelow_al b1 _, k1.below (below_alloc _ _) k1.lt, ?_⟩
    rw [← z1]
    exact Blk.new _ _ _
  obtain ⟨W0, e0, HB0, HK⟩ := F0
  have E0 := Lib.hid e0
  have q0 := cellOf HK.out.1 0 (x := .int .i64 p.cut) rfl
  have q1 := cellOf HK.out.1 1 (x := .int .i64 p.margin) rfl
  have q2 := cellOf HK.out.1 2 (x := .slice A n c) rfl
  have r0 := cellOf HK.out.2 0 (x := .int .i64 p.cut) rfl
  have r1 := cellOf HK.out.2 1 (x := .int .i64 p.margin) rfl
  have r2 := cellOf HK.out.2 2 (x := .slice B n d) rfl
  have C1 := Lib.hid (eqWebs_same (.slice A n c) (.slice B n d) p.webs W0 ((HU.out.below HB0.out).more HB0.out.size) ((HV.out.below HB0.out).more HB0.out.size))
  clear e0 hu hv hn
  go_enter Try.func54, Try.ntmps54
  go_upto_region 1 with fail
  rw [E0.out]
  clear E0
  go_wp2_with fail
  refine C1.out.mono ?_
  rintro _ X ⟨rfl, hb⟩
  have HBX : Hid (Below w.heap.size w X) := HB0.out.trans (hb.mono HB0.out.size)
  clear C1 hb q0 q1 q2 r0 r1 r2
  go_wp2_with fail
  go_ret
  exact ⟨rfl, HBX.out⟩
/-- A bool; if it is b, something holds. -/
def BAny (b0 : Bool) (P : Prop) (w : World) (e : Ending) (w' : World) : Prop := ∃ b, e = .returned (.bool b) ∧ Hid (b = b0 → P) ∧ Below w.heap.size w w'
/-- Few reels on each web. -/
def FewR (l : List WebD) : Prop := ∀ x ∈ l, x.reels.length ≤ 30
def IAny (P : Prop) (w : World) (e : Ending) (w' : World) : Prop := ∃ i : Int, e = .returned (.int .i64 i) ∧ Hid (i < 0 → P) ∧ Below w.heap.size w w'
set_option maxRecDepth 100000 in
set_option maxHeartbeats 2000000 in
theorem small1_any (a : Value) (x : WebD) (w : World) (ha : RReels w.heap.size w a x.reels) :
    Calls Try.prog 42 #[.agg #[a, .int .i64 x.off, .int .i64 x.before, .int .i64 x.after]] w fun e w' => e = .returned (.bool (decide (30 < x.reels.length))) ∧ Below w.heap.size w w' := by
  obtain ⟨A, c, rfl, -, -⟩ := ha.open_
  obtain ⟨b, hb⟩ : ∃ b, decide (30 < x.reels.length) = b := ⟨_, rfl⟩
  obtain ⟨m, hm⟩ : ∃ m, x.reels.length = m := ⟨_, rfl⟩
  have HD : Hid (decide (30 < m) = b) := by show _ = _; rw [← hm]; exact hb
  rw [hm] at hb ⊢
  have F0 : ∃ W0, w.alloc (.cells #[.slice A m c, .int .i64 x.off, .int .i64 x.before, .int .i64 x.after] 47) = W0 ∧ Hid (Below w.heap.size w W0) ∧ Hid (Blk W0 w.heap.size 47 #[.slice A m c, .int .i64 x.off, .int .i64 x.before, .int .i64 x.after]) := ⟨_, rfl, below_alloc _ _, Blk.new _ _ _⟩
  obtain ⟨W0, e0, HB0, HK⟩ := F0
  have E0 := Lib.hid e0
  have q0 := cellOf HK.out 0 (x := .slice A m c) rfl
  clear e0 ha hb hm
  go_enter Try.func42, Try.ntmps42
  go_upto_region 1 with fail
  rw [E0.out]
  clear E0
  go_wp2_with fail
  go_ret
  exact ⟨rb (by first | rfl | (simp; omega)), HB0.out⟩
set_option maxRecDepth 100000 in
set_option maxHeartbeats 2000000 in
theorem indexWeb_any (l : List WebD) (v : Value) (w : World) (h : RWebs w.heap.size w v l) :
    Calls Try.prog 97 #[v, .func (.func 42) #[] #[]] w (IAny (FewR l) w) := by
  obtain ⟨A, c, rfl, hlm, -⟩ := h.open_
  have HA := webs_later h
  obtain ⟨n, hn⟩ : ∃ n, l.length = n := ⟨_, rfl⟩
  rw [hn] at hlm ⊢
  have HN := Lib.hid hn
  clear h hn
  go_enter Try.func97, Try.ntmps97
  go_wp2_with fail
  go_loopw [8] (fun i wr => ∃ k : Nat, k ≤ n ∧ i = .int .i64 k ∧ Hid (FewR (l.take k)) ∧ Hid (Below w.heap.size w wr)) (fun i _ => n - (intOf i).toNat)
  case atStart => exact ⟨0, Nat.zero_le _, rfl, fun x hx => absurd hx List.not_mem_nil, Below.refl _ _⟩
  case round =>
  obtain ⟨k, hk, rfl, hF, hB⟩ := hrel
  obtain ⟨X, rfl⟩ : ∃ X : World, X = wr := ⟨_, rfl⟩
  by_cases hlt : k < n
  · obtain ⟨x, hx⟩ : ∃ x, l[k]? = some x := ⟨_, List.getElem?_eq_getElem (by rw [HN.out]; exact hlt)⟩
    obtain ⟨g, o, A2, c2, rfl, HXA⟩ := HA.out k x hx
    obtain ⟨c0, c1, c2', c3, hrr⟩ := HXA.out X hB.out
    have C1 := Lib.hid (small1_any _ x X hrr)
    have k0 : (0 : Int) ≤ (k : Int) := by omega
    have k1 : (k : Int) < (n : Int) := by omega
    have HX := Lib.hid hx
    obtain ⟨b, hbd⟩ : ∃ b, decide (30 < x.reels.length) = b := ⟨_, rfl⟩
    have HBD := Lib.hid hbd
    rw [hbd] at C1
    clear hx hrr hbd
    go_wp2_with fail
    refine C1.out.mono ?_
    rintro _ Y ⟨rfl, hb⟩
    have HBY : Hid (Below w.heap.size w Y) := hB.out.trans (hb.mono hB.out.size)
    clear C1 hb c0 c1 c2' c3
    cases b
    · have HFN : Hid (FewR (l.take (k + 1))) := fun y hy => by
        rw [take_snoc_get HX.out] at hy
        rcases List.mem_append.1 hy with hy | hy
        · exact hF.out y hy
        · rw [List.mem_singleton.1 hy]
          have := of_decide_eq_false HBD.out
          omega
      go_wp2_with fail
      go_roundw
      case rel => exact ⟨k + 1, by omega, by go_num, HFN, HBY⟩
      case measure => simp [intOf]; omega
    · go_wp2_with fail
      go_ret
      exact ⟨_, rfl, fun h => absurd h (by omega), HBY.out⟩
  · obtain rfl : k = n := by omega
    have HFA : Hid (FewR l) := by
      have := hF.out
      rw [List.take_of_length_le (by rw [HN.out]; exact Nat.le_refl _)] at this
      exact this
    go_wp2_with fail
    go_ret
    exact ⟨_, rfl, fun _ => HFA.out, hB.out⟩
set_option maxHeartbeats 2000000 in
theorem containsWeb_any (l : List WebD) (v : Value) (w : World) (h : RWebs w.heap.size w v l) :
    Calls Try.prog 41 #[v, .func (.func 42) #[] #[]] w (BAny false (FewR l) w) := by
  have C1 := Lib.hid (indexWeb_any l v w h)
  obtain ⟨A, c, rfl, -, -⟩ := h.open_
  clear h
  go_enter Try.func41, Try.ntmps41
  go_wp2_with fail
  refine C1.out.mono ?_
  rintro _ X ⟨i, rfl, hi, hb⟩
  have HB := Lib.hid hb
  clear C1 hb
  go_wp2_with fail
  go_ret
  exact ⟨_, rfl, fun h => hi.out (by have := of_decide_eq_false h; omega), HB.out⟩
end Go.Proofs.Ytpkepacbondopaa

namespace Go.Proofs.Ytpkepacbondopaa
open Go.RowKit Go.Shelf
attribute [local go_sem] Oper.semAt_some

set_option maxRecDepth 100000 in
set_option maxHeartbeats 4000000 in
theorem small_any (p : PressD) (v : Value) (w : World) (h : RPress w.heap.size w v p) :
    Calls Try.prog 13 #[v] w (BAny true (p.webs.length ≤ 8 ∧ FewR p.webs) w) := by
  obtain ⟨u, rfl, hw⟩ := h
  obtain ⟨A, c, rfl, hlm, -⟩ := hw.open_
  have HA := webs_later hw
  have HW := Lib.hid hw
  obtain ⟨n, hn⟩ : ∃ n, p.webs.length = n := ⟨_, rfl⟩
  rw [hn] at hlm HW ⊢
  have HN := Lib.hid hn
  have F0 : ∃ W0, w.alloc (.cells #[.int .i64 p.cut, .int .i64 p.margin, .slice A n c] 24) = W0 ∧ Hid (Below w.heap.size w W0) ∧ Hid (Blk W0 w.heap.size 24 #[.int .i64 p.cut, .int .i64 p.margin, .slice A n c]) := ⟨_, rfl, below_alloc _ _, Blk.new _ _ _⟩
  obtain ⟨W0, e0, HB0, HK0⟩ := F0
  have E0 := Lib.hid e0
  have p0 := cellOf HK0.out 0 (x := .int .i64 p.cut) rfl
  have p2 := cellOf HK0.out 2 (x := .slice A n c) rfl
  have C1 := Lib.hid (containsWeb_any p.webs (.slice A n c) W0 ((HW.out.below HB0.out).more HB0.out.size))
  clear hw hn e0
  go_enter Try.func13, Try.ntmps13
  go_upto_region 1 with fail
  rw [E0.out]
  clear E0
  by_cases h8 : (8 : Int) < (n : Int)
  · go_wp2_with fail
    go_ret
    exact ⟨false, rfl, fun h => Bool.noConfusion h, HB0.out⟩
  go_wp2_with fail
  refine C1.out.mono ?_
  rintro _ W1 ⟨b, rfl, hbf, hb⟩
  have HB1 : Hid (Below w.heap.size w W1) := HB0.out.trans (hb.mono HB0.out.size)
  have HK1 := Lib.hid (HK0.out.below hb HK0.out.lt)
  clear C1 hb p0 p2
  cases b
  rotate_left 1
  · go_wp2_with fail
    go_ret
    exact ⟨false, rfl, fun h => Bool.noConfusion h, HB1.out⟩
  have HGOOD : Hid (n ≤ 8 ∧ FewR p.webs) := ⟨by omega, hbf.out rfl⟩
  clear hbf
  have p2 := cellOf HK1.out 2 (x := .slice A n c) rfl
  go_wp2_with fail
  clear p2
  go_loopw [3, 21] (fun s i wr => ∃ k : Nat, k ≤ n ∧ i = .int .i64 k ∧ ∃ g : Int, s = .int .i64 g ∧ Hid (Below W1.heap.size W1 wr)) (fun _ i _ => n - (intOf i).toNat)
  case atStart => exact ⟨0, Nat.zero_le _, rfl, _, rfl, Below.refl _ _⟩
  case round =>
  obtain ⟨k, hk, rfl, g9, rfl, hB⟩ := hrel
  obtain ⟨X, rfl⟩ : ∃ X : World, X = wr := ⟨_, rfl⟩
  have HBX : Hid (Below w.heap.size w X) := HB1.out.trans (hB.out.mono HB1.out.size)
  by_cases hlt : k < n
  case neg =>
    have p0 := cellOf (HK1.out.below hB.out HK1.out.lt) 0 (x := .int .i64 p.cut) rfl
    obtain rfl : k = n := by omega
    by_cases q1 : g9 ≤ 600000
    · go_wp2_with fail
      go_ret
      exact ⟨_, rfl, fun _ => HGOOD.out, HBX.out⟩
    by_cases q2 : p.cut < 300
    · go_wp2_with fail
      go_ret
      exact ⟨_, rfl, fun _ => HGOOD.out, HBX.out⟩
    · go_wp2_with fail
      go_ret
      exact ⟨_, rfl, fun _ => HGOOD.out, HBX.out⟩
  obtain ⟨x, hx⟩ : ∃ x, p.webs[k]? = some x := ⟨_, List.getElem?_eq_getElem (by rw [HN.out]; exact hlt)⟩
  obtain ⟨g, o, A2, c2, rfl, HXA⟩ := HA.out k x hx
  obtain ⟨c0, c1, c2', c3, -⟩ := HXA.out X HBX.out
  have F1 : ∃ X1, X.alloc (.cells #[.slice A2 x.reels.length c2, .int .i64 x.off, .int .i64 x.before, .int .i64 x.after] 47) = X1 ∧ Hid (Below X.heap.size X X1) ∧ Hid (Blk X1 X.heap.size 47 #[.slice A2 x.reels.length c2, .int .i64 x.off, .int .i64 x.before, .int .i64 x.after]) := ⟨_, rfl, below_alloc _ _, Blk.new _ _ _⟩
  obtain ⟨X1, e1, HX1, HK2⟩ := F1
  have E1 := Lib.hid e1
  have HBX1 : Hid (Below W1.heap.size W1 X1) := hB.out.trans (HX1.out.mono hB.out.size)
  have HBW1 : Hid (Below w.heap.size w X1) := HBX.out.trans (HX1.out.mono HBX.out.size)
  obtain ⟨m, hm⟩ : ∃ m, x.reels.length = m := ⟨_, rfl⟩
  have HM := Lib.hid hm
  have hml : m ≤ 9223372036854775807 := by
    obtain ⟨A', c', e, hl, -⟩ := RReels.open_ (HXA.out X HBX.out).2.2.2.2
    omega
  rw [hm] at c0 E1 HK2 HXA
  have q0 := cellOf HK2.out 0 (x := .slice A2 m c2) rfl
  have k0 : (0 : Int) ≤ (k : Int) := by omega
  have k1 : (k : Int) < (n : Int) := by omega
  clear hx e1 hm
  go_upto_region 7 with fail
  rw [E1.out]
  clear c0 c1 c2' c3 E1
  go_wp2_with fail
  clear q0
  go_loopw [6, 28] (fun s i wr => ∃ j : Nat, j ≤ m ∧ i = .int .i64 j ∧ ∃ g : Int, s = .int .i64 g ∧ Hid (Below X1.heap.size X1 wr)) (fun _ i _ => m - (intOf i).toNat)
  case atStart => exact ⟨0, Nat.zero_le _, rfl, _, rfl, Below.refl _ _⟩
  case round =>
  obtain ⟨j, hj, rfl, g8, rfl, hB2⟩ := hrel
  obtain ⟨Y, rfl⟩ : ∃ X : World, X = wr := ⟨_, rfl⟩
  have HBY : Hid (Below w.heap.size w Y) := HBW1.out.trans (hB2.out.mono HBW1.out.size)
  have HBY1 : Hid (Below W1.heap.size W1 Y) := HBX1.out.trans (hB2.out.mono HBX1.out.size)
  by_cases hl2 : j < m
  case neg =>
    obtain rfl : j = m := by omega
    go_wp2_with fail
    go_roundw
    case rel =>
      first
        | exact ⟨k + 1, by omega, by go_num, _, rfl, HBY1⟩
        | (repeat apply Exists.intro
           refine ⟨?_, rfl⟩
           exact ⟨k + 1, by omega, by go_num, _, rfl, HBY1⟩)
    case measure => simp [intOf]; omega
  obtain ⟨r, hr⟩ : ∃ r, x.reels[j]? = some r := ⟨_, List.getElem?_eq_getElem (by rw [HM.out]; exact hl2)⟩
  obtain ⟨g2, o2, rfl, r0, r1, r2, r3⟩ := reels_at (HXA.out Y HBY.out).2.2.2.2 hr
  have F3 : ∃ Z, Y.alloc (.cells #[.int .i64 r.id, .int .i64 r.width, .int .i64 r.length, .int .i64 r.core] 58) = Z ∧ Hid (Below Y.heap.size Y Z) ∧ Hid (Blk Z Y.heap.size 58 #[.int .i64 r.id, .int .i64 r.width, .int .i64 r.length, .int .i64 r.core]) := ⟨_, rfl, below_alloc _ _, Blk.new _ _ _⟩
  obtain ⟨Z, e3, HZ, HKZ⟩ := F3
  have E3 := Lib.hid e3
  have HBZ : Hid (Below X1.heap.size X1 Z) := hB2.out.trans (HZ.out.mono hB2.out.size)
  have HBZw : Hid (Below w.heap.size w Z) := HBY.out.trans (HZ.out.mono HBY.out.size)
  have s2 := cellOf HKZ.out 2 (x := .int .i64 r.length) rfl
  have s3 := cellOf HKZ.out 3 (x := .int .i64 r.core) rfl
  have j0 : (0 : Int) ≤ (j : Int) := by omega
  have j1 : (j : Int) < (m : Int) := by omega
  clear hr e3
  go_upto_region 11 with fail
  rw [E3.out]
  clear r0 r1 r2 r3 E3
  by_cases t1 : r.length < 0
  · go_wp2_with fail
    go_ret
    exact ⟨_, rfl, fun _ => HGOOD.out, HBZw.out⟩
  by_cases t2 : 20000000 < r.length
  · go_wp2_with fail
    go_ret
    exact ⟨_, rfl, fun _ => HGOOD.out, HBZw.out⟩
  by_cases t3 : r.core < 0
  · go_wp2_with fail
    go_ret
    exact ⟨_, rfl, fun _ => HGOOD.out, HBZw.out⟩
  by_cases t4 : r.length < r.core
  · go_wp2_with fail
    go_ret
    exact ⟨_, rfl, fun _ => HGOOD.out, HBZw.out⟩
  go_wp2_with fail
  go_roundw
  case rel => exact ⟨j + 1, by omega, by go_num, _, rfl, HBZ⟩
  case measure => simp [intOf]; omega
end Go.Proofs.Ytpkepacbondopaa
