/-
  Made: a web.
-/
import Derived.Deep.LoopGhost
import Derived.Test.YtpkepacbondopaaGc
namespace Go.Proofs.Ytpkepacbondopaa
open Go.RowKit
attribute [local go_sem] Oper.semAt_some

theorem sliceWeb : Try.prog.underlying 22 = some (.slice 47) := by kernel_rfl
theorem infoWeb : (Try.prog.info? 47).map (fun i => (i.zero, i.size, i.bytes)) = some (some (.agg #[.slice none 0 0, .int .i64 0, .int .i64 0, .int .i64 0]), 4, 48) := by kernel_rfl
/-- Webs of one's own, with their reels. -/
def OWebs (base : Nat) (w : World) (v : Value) (l : List WebD) : Prop :=
  ∃ vs : List Value, w.ownsRow base 47 4 v l.length ((l.zip vs).flatMap fun x => webCells x.1 x.2) ∧ vs.length = l.length ∧ ∀ (i : Nat) (u : Value) (x : WebD), vs[i]? = some u → l[i]? = some x → w.ownsRow base 58 4 u x.reels.length (x.reels.flatMap ReelD.cells)
theorem OWebs.keep {base : Nat} {w w' : World} {v : Value} {l : List WebD} (h : OWebs base w v l) {S : Nat → Prop} (hk : KeptBut S w w') (hS : ∀ g cs t, Blk w g t cs → (t = 47 ∨ t = 58) → ¬ S g) : OWebs base w' v l := by
  obtain ⟨vs, h1, h2, h3⟩ := h
  exact ⟨vs, ownsRow_keptBut h1 hk fun g cs _ hB => hS g cs _ hB (.inl rfl), h2, fun i u x hu hx => ownsRow_keptBut (h3 i u x hu hx) hk fun g cs _ hB => hS g cs _ hB (.inr rfl)⟩
theorem OWebs.reads {base : Nat} {w : World} {v : Value} {l : List WebD} (h : OWebs base w v l) : RWebs w.heap.size w v l := by
  obtain ⟨vs, h1, h2, h3⟩ := h
  exact ⟨vs, Rd.own h1 (own_le h1), h2, fun i u x hu hx => Rd.own (h3 i u x hu hx) (own_le (h3 i u x hu hx))⟩
/-- What lies there between two webs. -/
structure MdSt (w : World) (vl : Value) (l : List Int) (D P k : Nat) (X : World) : Prop where
  bytes : Bytes l
  reads : RBytes w.heap.size w vl l
  below_ : Below w.heap.size w X
  res : Blk X w.heap.size 24 #[.int .i64 0, .int .i64 0, .slice none 0 0]
  dig : Blk X D 69 #[vl, .int .i64 (atM l k : Int)]
  press : ∃ v, Blk X P 24 #[.int .i64 (madeP l).cut, .int .i64 (madeP l).margin, v] ∧ OWebs w.heap.size X v (websM l k)
  base : w.heap.size < P ∧ w.heap.size < D
theorem MdSt.start {w : World} {vl : Value} {l : List Int} {D P k : Nat} {X : World} (h : MdSt w vl l D P k X) : DSt w vl l D X (atM l k) X :=
  ⟨h.bytes, h.reads.keep fun p hp => h.below_.cell hp, ⟨Nat.le_of_lt h.base.2, h.below_.size⟩, KeptBut.refl _ _, h.dig⟩
theorem MdSt.app {w : World} {vl : Value} {l : List Int} {D P k Wb : Nat} {X Y W1 : World} {v v' vr : Value} {off bef aft : Int} {x : WebD} {tmp : Obj} (h : MdSt w vl l D P k X) (hv : Blk X P 24 #[.int .i64 (madeP l).cut, .int .i64 (madeP l).margin, v])
    (hI : In2 w vl l D X Wb off bef aft vr x.reels (atM l (k + 1)) Y) (hx : websM l (k + 1) = websM l k ++ [x]) (hx2 : x.off = off ∧ x.before = bef ∧ x.after = aft) (vs : List Value) (hvl : vs.length = k) (hvr : Y.ownsRow w.heap.size 47 4 v k (((websM l k).zip vs).flatMap fun x => webCells x.1 x.2))
    (hvs : ∀ (i : Nat) (u : Value) (x : WebD), vs[i]? = some u → (websM l k)[i]? = some x → Y.ownsRow w.heap.size 58 4 u x.reels.length (x.reels.flatMap ReelD.cells))
    (hg : (Y.alloc tmp).grownBy W1 v.ownBlock) (ho : W1.ownsRow w.heap.size 47 4 v' (k + 1) ((((websM l k).zip vs).flatMap fun x => webCells x.1 x.2) ++ [vr, .int .i64 off, .int .i64 bef, .int .i64 aft])) :
    MdSt w vl l D P (k + 1) (W1.setCell ⟨P, 2, none⟩ v') ∧ (W1.cell? ⟨P, 2, none⟩ = some v ∧ W1.frozen? ⟨P, 2, none⟩ = false) := by
  have hS : ∀ g, some g = v.ownBlock → w.heap.size ≤ g ∧ ∃ cs, Blk Y g 47 cs := fun g hg => ownsRow_own hvr hg.symm
  have hK1 : KeptBut (fun g => some g = v.ownBlock) Y W1 := by
    have h1 : KeptBut (fun g => some g = v.ownBlock) Y (Y.alloc tmp) := (KeptBut.mono (S := fun _ => False) (KeptBut.of_below (below_alloc Y tmp) |>.mono fun _ _ h => h) fun _ _ h => h.elim)
    exact h1.trans (KeptBut.grown (S := fun g => some g = v.ownBlock) hg fun g hg => hg) fun i _ hi => hi
  have hKe : ∀ b t cs, Blk Y b t cs → t ≠ 47 → Blk W1 b t cs := fun b t cs hB hne => hK1.blk hB fun e => by
    obtain ⟨-, cs', hB'⟩ := hS b e
    exact Blk.ne hB hB' hne rfl
  have hKY := hI.d.kept
  have hPY : Blk Y P 24 #[.int .i64 (madeP l).cut, .int .i64 (madeP l).margin, v] := hKY.blk hv fun e => by subst e; exact Blk.ne hv h.dig (by decide) rfl
  have hRY := hKY.blk h.res fun e => by have := h.base.2; omega
  have hP1 := hKe _ _ _ hPY (by decide)
  have hR1 := hKe _ _ _ hRY (by decide)
  have hD1 := hKe _ _ _ hI.d.dig (by decide)
  have hK2 : KeptBut (fun g => g = P) W1 (W1.setCell ⟨P, 2, none⟩ v') := KeptBut.setCell (S := fun g => g = P) rfl v'
  have hB1 : Below w.heap.size w W1 := by
    have h1 : Below w.heap.size X Y := hKY.below (fun g hg => by have := h.base.2; omega) h.below_.size
    exact (h.below_.trans h1).trans (hK1.below (fun g hg => (hS g hg).1) (h.below_.trans h1).size)
  refine ⟨⟨h.bytes, h.reads, hB1.trans (hK2.below (fun g hg => by have := h.base.1; omega) hB1.size), hK2.blk hR1 (fun e => by have := h.base.1; omega), hK2.blk hD1 (fun e => by subst e; exact Blk.ne hD1 hP1 (by decide) rfl), ⟨v', hP1.put 2 v', ?_⟩, h.base⟩, cellOf hP1 2 rfl, hP1.frozen 2⟩
  rw [hx]
  have hro : ∀ u xs n, Y.ownsRow w.heap.size 58 4 u n xs → (W1.setCell ⟨P, 2, none⟩ v').ownsRow w.heap.size 58 4 u n xs := fun u xs n hu => by
    have h1 : W1.ownsRow w.heap.size 58 4 u n xs := ownsRow_keptBut hu hK1 fun g cs _ hB e => by
      obtain ⟨-, cs', hB'⟩ := hS g e
      exact Blk.ne hB hB' (by decide) rfl
    exact ownsRow_keptBut h1 hK2 fun g cs _ hB e => by subst e; exact Blk.ne hB hP1 (by decide) rfl
  refine ⟨vs ++ [vr], ?_, by simp [hvl, websM_len], fun i u y hu hy => ?_⟩
  · have h1 : (W1.setCell ⟨P, 2, none⟩ v').ownsRow w.heap.size 47 4 v' (k + 1) ((((websM l k).zip vs).flatMap fun x => webCells x.1 x.2) ++ [vr, .int .i64 off, .int .i64 bef, .int .i64 aft]) := ownsRow_keptBut ho hK2 fun g cs _ hB e => by subst e; exact Blk.ne hB hP1 (by decide) rfl
    have e1 : ((websM l k ++ [x]).zip (vs ++ [vr])).flatMap (fun x => webCells x.1 x.2) = (((websM l k).zip vs).flatMap fun x => webCells x.1 x.2) ++ [vr, .int .i64 off, .int .i64 bef, .int .i64 aft] := by
      rw [List.zip_append (by rw [hvl, websM_len]), List.flatMap_append]
      obtain ⟨rfl, rfl, rfl⟩ := hx2
      rfl
    rw [e1, List.length_append, websM_len]
    exact h1
  · rcases snoc_get hu with ⟨hi, hu⟩ | ⟨hi, rfl⟩
    · rw [List.getElem?_append_left (by rw [websM_len]; omega)] at hy
      exact hro _ _ _ (hvs i u y hu hy)
    · rw [List.getElem?_append_right (by rw [websM_len]; omega), websM_len, hi, hvl, Nat.sub_self] at hy
      simp only [List.getElem?_cons_zero, Option.some.injEq] at hy
      subst hy
      exact hro _ _ _ (ownsRow_base hI.row h.below_.size)

set_option maxRecDepth 1000000 in
set_option maxHeartbeats 4000000 in
theorem made_web (u0 u1 u2 u6 u7 u8 u9 u10 u11 u12 u13 u14 u15 u16 u17 u18 u19 u22 u23 u24 u25 u26 u27 u28 u29 u30 u31 u32 u33 u34 u35 u36 u37 u38 u39 u40 u41 u42 u43 u44 u45 u46 u47 u48 u49 u50 u51 u52 u53 u54 u55 u56 u57 u58 u59 u60 u61 u62 u63 u64 u65 u66 u67 u68 u69 u70 u71 u72 u73 u74 u75 : Value) {l : List Int} {vl : Value} {D P k m : Nat} {w X : World} {Q : Exit → Act → World → Prop}
    (hk : k < m) (hm : m ≤ 3) (hst : Hid (MdSt w vl l D P k X))
    (hQ : Hid (∀ (x6 x7 x22 x23 x24 x25 x26 x27 x28 x29 x30 x31 x32 x33 x34 x35 x36 x37 x38 x39 x40 x41 x42 x43 x44 x45 x46 x47 x48 x49 x50 x51 x52 x53 x54 x55 x56 x57 x58 x59 x60 x61 x62 x63 x64 x65 x66 x67 x68 x69 x70 x71 x72 x73 x74 : Value) (Z : World), MdSt w vl l D P (k + 1) Z → Q .normal ⟨List.toArray (u0 :: u1 :: u2 :: (.pointer (some ⟨D, 0, none⟩)) :: (.pointer (some ⟨P, 0, none⟩)) :: (.int .i64 (beforeM l (k + 1))) :: x6 :: x7 :: u8 :: u9 :: u10 :: u11 :: u12 :: u13 :: u14 :: u15 :: u16 :: u17 :: u18 :: u19 :: (.int .i64 (m : Int)) :: (.int .i64 ((k + 1 : Nat) : Int)) :: x22 :: x23 :: x24 :: x25 :: x26 :: x27 :: x28 :: x29 :: x30 :: x31 :: x32 :: x33 :: x34 :: x35 :: x36 :: x37 :: x38 :: x39 :: x40 :: x41 :: x42 :: x43 :: x44 :: x45 :: x46 :: x47 :: x48 :: x49 :: x50 :: x51 :: x52 :: x53 :: x54 :: x55 :: x56 :: x57 :: x58 :: x59 :: x60 :: x61 :: x62 :: x63 :: x64 :: x65 :: x66 :: x67 :: x68 :: x69 :: x70 :: x71 :: x72 :: x73 :: x74 :: u75 :: []), []⟩ Z)) :
    Code.wp Try.prog (mdLoop 5) Q ⟨List.toArray (u0 :: u1 :: u2 :: (.pointer (some ⟨D, 0, none⟩)) :: (.pointer (some ⟨P, 0, none⟩)) :: (.int .i64 (beforeM l k)) :: u6 :: u7 :: u8 :: u9 :: u10 :: u11 :: u12 :: u13 :: u14 :: u15 :: u16 :: u17 :: u18 :: u19 :: (.int .i64 (m : Int)) :: (.int .i64 (k : Int)) :: u22 :: u23 :: u24 :: u25 :: u26 :: u27 :: u28 :: u29 :: u30 :: u31 :: u32 :: u33 :: u34 :: u35 :: u36 :: u37 :: u38 :: u39 :: u40 :: u41 :: u42 :: u43 :: u44 :: u45 :: u46 :: u47 :: u48 :: u49 :: u50 :: u51 :: u52 :: u53 :: u54 :: u55 :: u56 :: u57 :: u58 :: u59 :: u60 :: u61 :: u62 :: u63 :: u64 :: u65 :: u66 :: u67 :: u68 :: u69 :: u70 :: u71 :: u72 :: u73 :: u74 :: u75 :: []), []⟩ X := by
  have hki : (k : Int) < (m : Int) := by omega
  have hat := atM_bound l k
  have hbf := beforeM_bound l k
  have n1 := nxD_bound l (atM l k) 200 (by omega)
  have n2 := nxD_bound l (atM l k + 1) 150 (by omega)
  have n3 := nxD_bound l (atM l k + 1 + 1) 150 (by omega)
  have n4 := nReels_bound l (atM l k)
  obtain ⟨hn41, hn42, hn43⟩ := n4
  have HN4 : Hid (nxD l (atM l k + 1 + 1 + 1) 6 = (nReels l (atM l k) : Int) - 1) := by show _ = _; rw [show atM l k + 1 + 1 + 1 = atM l k + 3 by omega]; omega
  clear hn43
  obtain ⟨d1, hd1⟩ : ∃ a, nxD l (atM l k) 200 = a := ⟨_, rfl⟩
  obtain ⟨d2, hd2⟩ : ∃ a, nxD l (atM l k + 1) 150 = a := ⟨_, rfl⟩
  obtain ⟨d3, hd3⟩ : ∃ a, nxD l (atM l k + 1 + 1) 150 = a := ⟨_, rfl⟩
  rw [hd1] at n1
  rw [hd2] at n2
  rw [hd3] at n3
  have H1 := Lib.hid hd1
  have H2 := Lib.hid hd2
  have H3 := Lib.hid hd3
  have S0 := Lib.hid hst.out.start
  have HB := Lib.hid hbf
  clear hd1 hd2 hd3 hbf
  conv => arg 2; whnf
  go_wp2_with fail
  refine (S0.out.call (by omega) 200 (by omega) (by omega)).mono ?_
  rintro _ Y1 ⟨rfl, h1⟩
  rw [H1.out]
  have S1 := Lib.hid (S0.out.next h1)
  clear h1
  go_wp2_with fail
  refine (S1.out.call (by omega) 150 (by omega) (by omega)).mono ?_
  rintro _ Y2 ⟨rfl, h2⟩
  rw [H2.out]
  have S2 := Lib.hid (S1.out.next h2)
  clear h2
  go_wp2_with fail
  refine (S2.out.call (by omega) 150 (by omega) (by omega)).mono ?_
  rintro _ Y3 ⟨rfl, h3⟩
  rw [H3.out]
  have S3 := Lib.hid (S2.out.next h3)
  clear h3
  have F4 : ∃ Y4, Y3.alloc (.cells #[.slice none 0 0, .int .i64 (13 * d1), .int .i64 (3 * d2), .int .i64 (4 * d3)] 47) = Y4 ∧ In2 w vl l D X Y3.heap.size (13 * d1) (3 * d2) (4 * d3) (.slice none 0 0) [] (atM l k + 1 + 1 + 1) Y4 := by
    refine ⟨_, rfl, S3.out.below (below_alloc _ _), Blk.new _ _ _, S3.out.kept.size, World.ownsRow_nil _ _ _ _⟩
  obtain ⟨Y4, e4, h4⟩ := F4
  have E4 := Lib.hid e4
  have S4 := Lib.hid h4
  obtain ⟨Wb, hWb⟩ : ∃ a, Y3.heap.size = a := ⟨_, rfl⟩
  rw [hWb] at S4
  have CN : Hid (Calls Try.prog 29 #[.pointer (some ⟨D, 0, none⟩), .int .i64 6] Y4 fun e w' => e = .returned (.int .i64 ((nReels l (atM l k) : Int) - 1)) ∧ Hid (In2 w vl l D X Wb (13 * d1) (3 * d2) (4 * d3) (.slice none 0 0) (reelsM l (atM l k + 4) (beforeM l k) 0) (atM l k + 4 + 5 * 0) w')) := by
    refine (S4.out.call (by omega) 6 (by omega) (by omega)).mono ?_
    rintro _ w' ⟨rfl, h⟩
    exact ⟨by rw [HN4.out], S4.out.next h⟩
  clear e4 h4
  go_upto_region 7 with fail
  rw [E4.out]
  clear hWb
  go_wp2_with fail
  refine CN.out.mono ?_
  rintro _ Y5 ⟨rfl, h5⟩
  have hsum : 1 + ((nReels l (atM l k) : Int) - 1) = (nReels l (atM l k) : Int) := by omega
  have HSum := Lib.hid hsum
  clear hsum
  go_wp2_with fail
  rw [HSum.out]
  clear CN S0 S1 S2 S3 S4 E4
  refine wp_loop_ghost (fun t b Y => ∃ (j : Nat) (vr : Value) (y7 y22 y23 y24 y25 y26 y27 y28 y29 y30 y31 y32 y33 y34 y37 y38 y39 y40 y41 y42 y43 y44 y45 y46 y47 y48 y49 y50 y51 y52 y53 y54 y55 y56 y57 y58 y59 y60 y61 y62 y63 y64 y65 y66 y67 y68 y69 y70 y71 y72 y73 y74 : Value), t = nReels l (atM l k) - j ∧ j ≤ nReels l (atM l k) ∧ Hid (In2 w vl l D X Wb (13 * d1) (3 * d2) (4 * d3) vr (reelsM l (atM l k + 4) (beforeM l k) j) (atM l k + 4 + 5 * j) Y) ∧ b = ⟨List.toArray (u0 :: u1 :: u2 :: (.pointer (some ⟨D, 0, none⟩)) :: (.pointer (some ⟨P, 0, none⟩)) :: (.int .i64 (idM l (atM l k + 4) (beforeM l k) j)) :: (.pointer (some ⟨Wb, 0, none⟩)) :: y7 :: u8 :: u9 :: u10 :: u11 :: u12 :: u13 :: u14 :: u15 :: u16 :: u17 :: u18 :: u19 :: (.int .i64 (m : Int)) :: (.int .i64 (k : Int)) :: y22 :: y23 :: y24 :: y25 :: y26 :: y27 :: y28 :: y29 :: y30 :: y31 :: y32 :: y33 :: y34 :: (.int .i64 (nReels l (atM l k) : Int)) :: (.int .i64 (j : Int)) :: y37 :: y38 :: y39 :: y40 :: y41 :: y42 :: y43 :: y44 :: y45 :: y46 :: y47 :: y48 :: y49 :: y50 :: y51 :: y52 :: y53 :: y54 :: y55 :: y56 :: y57 :: y58 :: y59 :: y60 :: y61 :: y62 :: y63 :: y64 :: y65 :: y66 :: y67 :: y68 :: y69 :: y70 :: y71 :: y72 :: y73 :: y74 :: u75 :: []), []⟩) (nReels l (atM l k)) ⟨0, _, _, _, _, _, _, _, _, _, _, _, _, _, _, _, _, _, _, _, _, _, _, _, _, _, _, _, _, _, _, _, _, _, _, _, _, _, _, _, _, _, _, _, _, _, _, _, _, _, _, _, _, _, rfl, Nat.zero_le _, h5, rfl⟩ ?_
  clear h5
  rintro t b Y ⟨j, vr, y7, y22, y23, y24, y25, y26, y27, y28, y29, y30, y31, y32, y33, y34, y37, y38, y39, y40, y41, y42, y43, y44, y45, y46, y47, y48, y49, y50, y51, y52, y53, y54, y55, y56, y57, y58, y59, y60, y61, y62, y63, y64, y65, y66, y67, y68, y69, y70, y71, y72, y73, y74, rfl, hjm, hin, rfl⟩
  by_cases hj : j < nReels l (atM l k)
  · refine wp_code (d := mdLoop 8) (by kernel_rfl) ?_
    refine made_reel _ _ _ _ _ _ _ _ _ _ _ _ _ _ _ _ _ _ _ _ _ _ _ _ _ _ _ _ _ _ _ _ _ _ _ _ _ _ _ _ _ _ _ _ _ _ _ _ _ _ _ _ _ _ _ _ _ _ _ _ _ _ _ _ _ _ _ _ _ _ _ (by omega) hj hn42 (by have := HB.out; omega) hin ?_
    intro x7 x37 x38 x39 x40 x41 x42 x43 x44 x45 x46 x47 x48 x49 x50 x51 x52 x53 x54 x55 x56 x57 x58 x59 x60 x61 x62 x63 x64 x65 x66 x67 vr' Z hZ
    exact ⟨nReels l (atM l k) - (j + 1), by omega, j + 1, vr', _, _, _, _, _, _, _, _, _, _, _, _, _, _, _, _, _, _, _, _, _, _, _, _, _, _, _, _, _, _, _, _, _, _, _, _, _, _, _, _, _, _, _, _, _, _, _, _, _, _, _, _, rfl, by omega, hZ, rfl⟩
  obtain rfl : j = nReels l (atM l k) := by omega
  obtain ⟨v, hv, vs, hvr, hvl, hvs⟩ := hst.out.press
  have HV := Lib.hid hv
  obtain ⟨Av, cv, rfl⟩ := ownsRow_form hvr
  have hKY := hin.out.d.kept
  have hnD : ∀ g cs t, Blk X g t cs → (t = 47 ∨ t = 58) → ¬ g = D := fun g cs t hB ht e => by
    subst e
    rcases ht with rfl | rfl <;> exact Blk.ne hB hst.out.dig (by decide) rfl
  have hvr' : Y.ownsRow w.heap.size 47 4 (.slice Av (websM l k).length cv) (websM l k).length (((websM l k).zip vs).flatMap fun x => webCells x.1 x.2) := ownsRow_keptBut hvr hKY fun g cs _ hB => hnD g cs _ hB (.inl rfl)
  have hvs' : ∀ (i : Nat) (u : Value) (x : WebD), vs[i]? = some u → (websM l k)[i]? = some x → Y.ownsRow w.heap.size 58 4 u x.reels.length (x.reels.flatMap ReelD.cells) := fun i u x hu hx => ownsRow_keptBut (hvs i u x hu hx) hKY fun g cs _ hB => hnD g cs _ hB (.inr rfl)
  rw [websM_len] at hvr' hv HV hvl
  have hPY : Blk Y P 24 #[.int .i64 (madeP l).cut, .int .i64 (madeP l).margin, .slice Av k cv] := hKY.blk hv fun e => by subst e; exact Blk.ne hv hst.out.dig (by decide) rfl
  have hxl : (reelsM l (atM l k + 4) (beforeM l k) (nReels l (atM l k))).length = nReels l (atM l k) := reelsM_len _ _ _ _
  have hin' : In2 w vl l D X Wb (13 * d1) (3 * d2) (4 * d3) vr (webM l (atM l k) (beforeM l k)).reels (atM l (k + 1)) Y := hin.out
  have HAp : Hid (∀ v' W1 tmp, (Y.alloc tmp).grownBy W1 (Value.slice Av k cv).ownBlock → W1.ownsRow w.heap.size 47 4 v' (k + 1) ((((websM l k).zip vs).flatMap fun x => webCells x.1 x.2) ++ [vr, .int .i64 (13 * d1), .int .i64 (3 * d2), .int .i64 (4 * d3)]) → Hid (MdSt w vl l D P (k + 1) (W1.setCell ⟨P, 2, none⟩ v')) ∧ (W1.cell? ⟨P, 2, none⟩ = some (.slice Av k cv) ∧ W1.frozen? ⟨P, 2, none⟩ = false)) := fun v' W1 tmp hg ho =>
    hst.out.app HV.out hin' rfl ⟨by rw [← H1.out]; rfl, by rw [← H2.out]; rfl, by rw [← H3.out]; rfl⟩ vs hvl hvr' hvs' hg ho
  obtain ⟨Ar, cr, hvrr⟩ := ownsRow_form hin.out.row
  rw [hxl] at hvrr
  subst hvrr
  have g0 := cellOf hPY 2 (x := .slice Av k cv) rfl
  have r0 := cellOf hin.out.web 0 (x := .slice Ar (nReels l (atM l k)) cr) rfl
  have r1 := cellOf hin.out.web 1 (x := .int .i64 (13 * d1)) rfl
  have r2 := cellOf hin.out.web 2 (x := .int .i64 (3 * d2)) rfl
  have r3 := cellOf hin.out.web 3 (x := .int .i64 (4 * d3)) rfl
  obtain ⟨i0, hi0, hz0, hz1, hz2⟩ := info_parts infoWeb
  have HO := Lib.hid hvr'
  have HZ : Hid (w.heap.size ≤ Y.heap.size) := Nat.le_trans hst.out.below_.size hKY.size
  have HNX : Hid (idM l (atM l k + 4) (beforeM l k) (nReels l (atM l k)) = beforeM l (k + 1)) := rfl
  clear hv hvr hvs hKY hnD hvr' hvs' hPY hin' hin hvl
  rw [HNX.out]
  go_wp2_with (at_builtin; refine wpList_append_own _ rfl _ _ 22 rfl w.heap.size 47 i0 _ 4 48 sliceWeb hi0 hz0 hz1 hz2 rfl (by decide) (.slice Av k cv) k (((websM l k).zip vs).flatMap fun x => webCells x.1 x.2) rfl (HO.out.alloc _) ⟨Y.heap.size, 0, none⟩ 1 1 [.slice Ar (nReels l (atM l k)) cr, .int .i64 (13 * d1), .int .i64 (3 * d2), .int .i64 (4 * d3)] rfl rfl (cells_new _ _ _) (by simp [Value.oneCell']) (by simp only [maxLen]; omega) (by omega) (by have := HZ.out; simp; omega) ?_; intro v2' w10 hown' hgro _; obtain ⟨Av2, cv2, rfl⟩ := ownsRow_form hown'; obtain ⟨hfin, q0, q1⟩ := HAp.out _ _ _ hgro hown'; clear hown' hgro)
  clear q0 q1 g0 r0 r1 r2 r3
  exact hQ.out _ _ _ _ _ _ _ _ _ _ _ _ _ _ _ _ _ _ _ _ _ _ _ _ _ _ _ _ _ _ _ _ _ _ _ _ _ _ _ _ _ _ _ _ _ _ _ _ _ _ _ _ _ _ _ _ hfin.out
end Go.Proofs.Ytpkepacbondopaa
