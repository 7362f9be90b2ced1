/-
  Made: its state; a reel.
-/
import Derived.Test.YtpkepacbondopaaGb
import Derived.Test.YtpkepacbondopaaLu
import Derived.Test.YtpkepacbondopaaTr
namespace Go.Proofs.Ytpkepacbondopaa
open Go.RowKit
attribute [local go_sem] Oper.semAt_some

noncomputable def mdLoop (k : Nat) : Code := (Try.f18.body.bind (loopAt k)).getD .skip
/-- The numbers lie there, ix of them are read; all that lay at X0 lies as it lay, but for the reader. -/
structure DSt (w : World) (vl : Value) (l : List Int) (D : Nat) (X0 : World) (ix : Nat) (Y : World) : Prop where
  bytes : Bytes l
  reads : RBytes w.heap.size X0 vl l
  low : w.heap.size ≤ D ∧ w.heap.size ≤ X0.heap.size
  kept : KeptBut (fun g => g = D) X0 Y
  dig : Blk Y D 69 #[vl, .int .i64 (ix : Int)]
section
variable {w : World} {vl : Value} {l : List Int} {D : Nat} {X0 : World} {ix : Nat} {Y Z : World}
theorem DSt.call (h : DSt w vl l D X0 ix Y) (hx : ix ≤ 100000) (n : Nat) (hn : 0 < n) (hn2 : n ≤ 1000) : Calls Try.prog 29 #[.pointer (some ⟨D, 0, none⟩), .int .i64 (n : Int)] Y fun e w' => e = .returned (.int .i64 (nxD l ix n)) ∧ NextW D vl ix Y w' :=
  next_any l h.bytes ix n hx hn hn2 w.heap.size D h.low.1 vl Y h.dig (h.reads.keep fun p hp => h.kept.cell (by have := h.low.2; omega) (by have := h.low.1; show ¬ p.block = D; omega))
theorem DSt.next (h : DSt w vl l D X0 ix Y) (hn : NextW D vl ix Y Z) : DSt w vl l D X0 (ix + 1) Z := ⟨h.bytes, h.reads, h.low, h.kept.trans hn.2 fun _ _ hi => hi, hn.1⟩
theorem DSt.below (h : DSt w vl l D X0 ix Y) (hb : Below Y.heap.size Y Z) : DSt w vl l D X0 ix Z := ⟨h.bytes, h.reads, h.low, h.kept.trans (KeptBut.of_below (S := fun g => g = D) hb) fun _ _ hi => hi, h.dig.below hb h.dig.lt⟩
theorem DSt.put (h : DSt w vl l D X0 ix Y) {S : Nat → Prop} (hk : KeptBut S Y Z) (hS : ∀ g, S g → X0.heap.size ≤ g ∧ g ≠ D) : DSt w vl l D X0 ix Z := ⟨h.bytes, h.reads, h.low, h.kept.trans hk fun i hi hs => by have := (hS i hs).1; omega, hk.blk h.dig fun hs => (hS D hs).2 rfl⟩
end
/-- A web is made: so many reels are in it. -/
structure In2 (w : World) (vl : Value) (l : List Int) (D : Nat) (X0 : World) (Wb : Nat) (off bef aft : Int) (vr : Value) (acc : List ReelD) (ix : Nat) (Y : World) : Prop where
  d : DSt w vl l D X0 ix Y
  web : Blk Y Wb 47 #[vr, .int .i64 off, .int .i64 bef, .int .i64 aft]
  out : X0.heap.size ≤ Wb
  row : Y.ownsRow X0.heap.size 58 4 vr acc.length (acc.flatMap ReelD.cells)
section
variable {w : World} {vl : Value} {l : List Int} {D : Nat} {X0 : World} {Wb : Nat} {off bef aft : Int} {vr : Value} {acc : List ReelD} {ix : Nat} {Y Z : World}
theorem In2.call (h : In2 w vl l D X0 Wb off bef aft vr acc ix Y) (hx : ix ≤ 100000) (n : Nat) (hn : 0 < n) (hn2 : n ≤ 1000) : Calls Try.prog 29 #[.pointer (some ⟨D, 0, none⟩), .int .i64 (n : Int)] Y fun e w' => e = .returned (.int .i64 (nxD l ix n)) ∧ NextW D vl ix Y w' := h.d.call hx n hn hn2
theorem In2.next (h : In2 w vl l D X0 Wb off bef aft vr acc ix Y) (hn : NextW D vl ix Y Z) : In2 w vl l D X0 Wb off bef aft vr acc (ix + 1) Z :=
  ⟨h.d.next hn, hn.2.blk h.web (fun e => by subst e; exact Blk.ne h.web h.d.dig (by decide) rfl), h.out, ownsRow_keptBut h.row hn.2 fun g cs _ hB e => by subst e; exact Blk.ne hB h.d.dig (by decide) rfl⟩
theorem In2.below (h : In2 w vl l D X0 Wb off bef aft vr acc ix Y) (hb : Below Y.heap.size Y Z) : In2 w vl l D X0 Wb off bef aft vr acc ix Z := ⟨h.d.below hb, h.web.below hb h.web.lt, h.out, ownsRow_below h.row hb⟩
/-- A write into a reel of one's own. -/
theorem In2.reel {R : Nat} {cs : Array Value} (h : In2 w vl l D X0 Wb off bef aft vr acc ix Y) (hR : Blk Y R 58 cs) (hX : X0.heap.size ≤ R) (hne : some R ≠ vr.ownBlock) (k : Nat) (x : Value) : In2 w vl l D X0 Wb off bef aft vr acc ix (Y.setCell ⟨R, k, none⟩ x) := by
  have hK : KeptBut (fun g => g = R) Y (Y.setCell ⟨R, k, none⟩ x) := KeptBut.setCell (S := fun g => g = R) rfl x
  exact ⟨h.d.put hK fun g hg => ⟨by omega, fun e => by subst hg; subst e; exact Blk.ne hR h.d.dig (by decide) rfl⟩, hK.blk h.web (fun e => by subst e; exact Blk.ne hR h.web (by decide) rfl), h.out, ownsRow_keptBut h.row hK fun g cs' e _ e2 => hne (by rw [e, e2])⟩
/-- A reel more. -/
theorem In2.app {vr' : Value} {tmp : Obj} {x : ReelD} {W1 W2 : World} (h : In2 w vl l D X0 Wb off bef aft vr acc ix Y) (hg : (Y.alloc tmp).grownBy W1 vr.ownBlock) (ho : W1.ownsRow X0.heap.size 58 4 vr' (acc.length + 1) (acc.flatMap ReelD.cells ++ x.cells)) (hW2 : W2 = W1.setCell ⟨Wb, 0, none⟩ vr') : In2 w vl l D X0 Wb off bef aft vr' (acc ++ [x]) ix W2 := by
  subst hW2
  have hS : ∀ g, some g = vr.ownBlock → X0.heap.size ≤ g ∧ ∃ cs, Blk Y g 58 cs := fun g hg => ownsRow_own h.row hg.symm
  have hK1 : KeptBut (fun g => some g = vr.ownBlock) Y W1 := by
    have h1 : KeptBut (fun g => some g = vr.ownBlock) Y (Y.alloc tmp) := (KeptBut.mono (S := fun _ => False) (KeptBut.of_below (below_alloc Y tmp) |>.mono fun _ _ h => h) fun _ _ h => h.elim)
    exact h1.trans (KeptBut.grown (S := fun g => some g = vr.ownBlock) hg fun g hg => hg) fun i _ hi => hi
  have hd1 : DSt w vl l D X0 ix W1 := h.d.put hK1 fun g hg => ⟨(hS g hg).1, fun e => by
    obtain ⟨-, cs, hB⟩ := hS g hg
    subst e
    exact Blk.ne hB h.d.dig (by decide) rfl⟩
  have hw1 : Blk W1 Wb 47 #[vr, .int .i64 off, .int .i64 bef, .int .i64 aft] := hK1.blk h.web fun e => by
    obtain ⟨-, cs, hB⟩ := hS Wb e
    exact Blk.ne hB h.web (by decide) rfl
  have hK2 : KeptBut (fun g => g = Wb) W1 (W1.setCell ⟨Wb, 0, none⟩ vr') := KeptBut.setCell (S := fun g => g = Wb) rfl vr'
  refine ⟨hd1.put hK2 fun g hg => ⟨by have := h.out; omega, fun e => by subst hg; subst e; exact Blk.ne hw1 hd1.dig (by decide) rfl⟩, hw1.put 0 vr', h.out, ?_⟩
  rw [List.length_append, List.flatMap_append]
  have ho' : W1.ownsRow X0.heap.size 58 4 vr' (acc.length + [x].length) (acc.flatMap ReelD.cells ++ [x].flatMap ReelD.cells) := by simpa using ho
  refine ownsRow_keptBut ho' hK2 fun g cs _ hB e => ?_
  subst e
  exact Blk.ne hB hw1 (by decide) rfl
end
theorem sliceReel : Try.prog.underlying 28 = some (.slice 58) := by kernel_rfl
theorem infoReel : (Try.prog.info? 58).map (fun i => (i.zero, i.size, i.bytes)) = some (some (.agg #[.int .i64 0, .int .i64 0, .int .i64 0, .int .i64 0]), 4, 32) := by kernel_rfl

/-- A reel lies there, whole. -/
def RCut (w : World) (vl : Value) (l : List Int) (D : Nat) (X0 : World) (Wb : Nat) (off bef aft : Int) (vr : Value) (acc : List ReelD) (ix R : Nat) (a b c d : Int) (X : World) : Prop := In2 w vl l D X0 Wb off bef aft vr acc ix X ∧ Blk X R 58 #[.int .i64 a, .int .i64 b, .int .i64 c, .int .i64 d]
set_option maxRecDepth 1000000 in
set_option maxHeartbeats 4000000 in
theorem made_reel (u0 u1 u2 u4 u7 u8 u9 u10 u11 u12 u13 u14 u15 u16 u17 u18 u19 u20 u21 u22 u23 u24 u25 u26 u27 u28 u29 u30 u31 u32 u33 u34 u37 u38 u39 u40 u41 u42 u43 u44 u45 u46 u47 u48 u49 u50 u51 u52 u53 u54 u55 u56 u57 u58 u59 u60 u61 u62 u63 u64 u65 u66 u67 u68 u69 u70 u71 u72 u73 u74 u75 : Value) {l : List Int} {vl : Value} {D Wb i j r : Nat} {id off bef aft : Int} {vr : Value} {w X0 Y : World} {Q : Exit → Act → World → Prop}
    (hi : i ≤ 1000) (hj : j < r) (hr : r ≤ 6) (hid : 0 ≤ id ∧ id ≤ 1000) (hst : Hid (In2 w vl l D X0 Wb off bef aft vr (reelsM l (i + 4) id j) (i + 4 + 5 * j) Y))
    (hQ : Hid (∀ (x7 x37 x38 x39 x40 x41 x42 x43 x44 x45 x46 x47 x48 x49 x50 x51 x52 x53 x54 x55 x56 x57 x58 x59 x60 x61 x62 x63 x64 x65 x66 x67 : Value) (vr' : Value) (Z : World), In2 w vl l D X0 Wb off bef aft vr' (reelsM l (i + 4) id (j + 1)) (i + 4 + 5 * (j + 1)) Z → Q .normal ⟨List.toArray (u0 :: u1 :: u2 :: (.pointer (some ⟨D, 0, none⟩)) :: u4 :: (.int .i64 (idM l (i + 4) id (j + 1))) :: (.pointer (some ⟨Wb, 0, none⟩)) :: x7 :: u8 :: u9 :: u10 :: u11 :: u12 :: u13 :: u14 :: u15 :: u16 :: u17 :: u18 :: u19 :: u20 :: u21 :: u22 :: u23 :: u24 :: u25 :: u26 :: u27 :: u28 :: u29 :: u30 :: u31 :: u32 :: u33 :: u34 :: (.int .i64 (r : Int)) :: (.int .i64 ((j + 1 : Nat) : Int)) :: x37 :: x38 :: x39 :: x40 :: x41 :: x42 :: x43 :: x44 :: x45 :: x46 :: x47 :: x48 :: x49 :: x50 :: x51 :: x52 :: x53 :: x54 :: x55 :: x56 :: x57 :: x58 :: x59 :: x60 :: x61 :: x62 :: x63 :: x64 :: x65 :: x66 :: x67 :: u68 :: u69 :: u70 :: u71 :: u72 :: u73 :: u74 :: u75 :: []), []⟩ Z)) :
    Code.wp Try.prog (mdLoop 8) Q ⟨List.toArray (u0 :: u1 :: u2 :: (.pointer (some ⟨D, 0, none⟩)) :: u4 :: (.int .i64 (idM l (i + 4) id j)) :: (.pointer (some ⟨Wb, 0, none⟩)) :: u7 :: u8 :: u9 :: u10 :: u11 :: u12 :: u13 :: u14 :: u15 :: u16 :: u17 :: u18 :: u19 :: u20 :: u21 :: u22 :: u23 :: u24 :: u25 :: u26 :: u27 :: u28 :: u29 :: u30 :: u31 :: u32 :: u33 :: u34 :: (.int .i64 (r : Int)) :: (.int .i64 (j : Int)) :: u37 :: u38 :: u39 :: u40 :: u41 :: u42 :: u43 :: u44 :: u45 :: u46 :: u47 :: u48 :: u49 :: u50 :: u51 :: u52 :: u53 :: u54 :: u55 :: u56 :: u57 :: u58 :: u59 :: u60 :: u61 :: u62 :: u63 :: u64 :: u65 :: u66 :: u67 :: u68 :: u69 :: u70 :: u71 :: u72 :: u73 :: u74 :: u75 :: []), []⟩ Y := by
  have hji : (j : Int) < (r : Int) := by omega
  obtain ⟨hid1, hid2⟩ := hid
  have hidb := idM_bound l (i + 4) id j
  have n5 := nxD_bound l (i + 4 + 5 * j) 5 (by omega)
  have n3 := nxD_bound l (i + 4 + 5 * j + 1) 3 (by omega)
  have n256 := nxD_bound l (i + 4 + 5 * j + 1 + 1) 256 (by omega)
  have m256 := nxD_bound l (i + 4 + 5 * j + 1 + 1 + 1) 256 (by omega)
  have n100 := nxD_bound l (i + 4 + 5 * j + 1 + 1 + 1 + 1) 100 (by omega)
  have HE : Hid (reelM l (i + 4 + 5 * j) (idM l (i + 4) id j) = ⟨idM l (i + 4) id j + (1 + nxD l (i + 4 + 5 * j) 5), 700 + nxD l (i + 4 + 5 * j + 1) 3, 800 * nxD l (i + 4 + 5 * j + 1 + 1) 256 + nxD l (i + 4 + 5 * j + 1 + 1 + 1) 256, min (800 * nxD l (i + 4 + 5 * j + 1 + 1) 256 + nxD l (i + 4 + 5 * j + 1 + 1 + 1) 256) (10 * nxD l (i + 4 + 5 * j + 1 + 1 + 1 + 1) 100)⟩) := by
    show _ = _
    unfold reelM
    rw [show idM l (i + 4) id j + 1 + nxD l (i + 4 + 5 * j) 5 = idM l (i + 4) id j + (1 + nxD l (i + 4 + 5 * j) 5) by omega]
  have HN : Hid (idM l (i + 4) id (j + 1) = idM l (i + 4) id j + (1 + nxD l (i + 4 + 5 * j) 5)) := by
    show _ = _
    conv => lhs; unfold idM
    omega
  have HA : Hid (reelsM l (i + 4) id (j + 1) = reelsM l (i + 4) id j ++ [reelM l (i + 4 + 5 * j) (idM l (i + 4) id j)]) := rfl
  have hlen := reelsM_len l (i + 4) id j
  obtain ⟨acc, hacc⟩ : ∃ a, reelsM l (i + 4) id j = a := ⟨_, rfl⟩
  obtain ⟨v0, hv0⟩ : ∃ a, idM l (i + 4) id j = a := ⟨_, rfl⟩
  obtain ⟨ix, hix⟩ : ∃ a, i + 4 + 5 * j = a := ⟨_, rfl⟩
  rw [hacc] at hst HA hlen
  rw [hv0] at hidb HE HN HA ⊢
  rw [hix] at n5 n3 n256 m256 n100 HE HN HA hst
  have hix9 : ix ≤ 2000 := by omega
  have HIX := Lib.hid hix
  have hl6 : acc.length ≤ 6 := by omega
  obtain ⟨d1, hd1⟩ : ∃ a, nxD l ix 5 = a := ⟨_, rfl⟩
  obtain ⟨d2, hd2⟩ : ∃ a, nxD l (ix + 1) 3 = a := ⟨_, rfl⟩
  obtain ⟨d3, hd3⟩ : ∃ a, nxD l (ix + 1 + 1) 256 = a := ⟨_, rfl⟩
  obtain ⟨d4, hd4⟩ : ∃ a, nxD l (ix + 1 + 1 + 1) 256 = a := ⟨_, rfl⟩
  obtain ⟨d5, hd5⟩ : ∃ a, nxD l (ix + 1 + 1 + 1 + 1) 100 = a := ⟨_, rfl⟩
  rw [hd1] at n5 HE HN
  rw [hd2] at n3 HE
  rw [hd3] at n256 HE
  rw [hd4] at m256 HE
  rw [hd5] at n100 HE
  have H1 := Lib.hid hd1
  have H2 := Lib.hid hd2
  have H3 := Lib.hid hd3
  have H4 := Lib.hid hd4
  have H5 := Lib.hid hd5
  clear hacc hv0 hix hd1 hd2 hd3 hd4 hd5 hlen
  conv => arg 2; whnf
  go_wp2_with fail
  refine (hst.out.call (by omega) 5 (by omega) (by omega)).mono ?_
  rintro _ Y1 ⟨rfl, h1⟩
  rw [H1.out]
  have S1 := Lib.hid (hst.out.next h1)
  clear h1
  go_wp2_with fail
  refine (S1.out.call (by omega) 3 (by omega) (by omega)).mono ?_
  rintro _ Y2 ⟨rfl, h2⟩
  rw [H2.out]
  have S2 := Lib.hid (S1.out.next h2)
  clear h2
  go_wp2_with fail
  refine (S2.out.call (by omega) 256 (by omega) (by omega)).mono ?_
  rintro _ Y3 ⟨rfl, h3⟩
  rw [H3.out]
  have S3 := Lib.hid (S2.out.next h3)
  clear h3
  go_wp2_with fail
  refine (S3.out.call (by omega) 256 (by omega) (by omega)).mono ?_
  rintro _ Y4 ⟨rfl, h4⟩
  rw [H4.out]
  have S4 := Lib.hid (S3.out.next h4)
  clear h4
  go_upto_region 11 with fail
  have hX4 : X0.heap.size ≤ Y4.heap.size := S4.out.d.kept.size
  have F5 : ∃ Y5, Y4.alloc (.cells #[.int .i64 (v0 + (1 + d1)), .int .i64 (700 + d2), .int .i64 (800 * d3 + d4), .int .i64 0] 58) = Y5 ∧ Below Y4.heap.size Y4 Y5 ∧ Blk Y5 Y4.heap.size 58 #[.int .i64 (v0 + (1 + d1)), .int .i64 (700 + d2), .int .i64 (800 * d3 + d4), .int .i64 0] := ⟨_, rfl, below_alloc _ _, Blk.new _ _ _⟩
  obtain ⟨Y5, e5, b5, k5⟩ := F5
  have E5 := Lib.hid e5
  have S5 := Lib.hid (S4.out.below b5)
  have hne : some Y4.heap.size ≠ vr.ownBlock := fun e => by
    obtain ⟨-, cs, hB⟩ := ownsRow_own S4.out.row e.symm
    have := hB.lt
    omega
  obtain ⟨R, hR⟩ : ∃ a, Y4.heap.size = a := ⟨_, rfl⟩
  rw [hR] at k5 hne hX4
  have HNE := Lib.hid hne
  have K5 := Lib.hid k5
  obtain ⟨L, hL⟩ : ∃ a, 800 * d3 + d4 = a := ⟨_, rfl⟩
  rw [hL] at HE k5 K5
  have hLb : 0 ≤ L ∧ L ≤ 1000000 := by omega
  have c2 := cellOf k5 2 (x := .int .i64 L) rfl
  have CN : Hid (∀ X, Below Y5.heap.size Y5 X → Calls Try.prog 29 #[.pointer (some ⟨D, 0, none⟩), .int .i64 100] X fun e w' => e = .returned (.int .i64 d5) ∧ Hid (In2 w vl l D X0 Wb off bef aft vr acc (ix + 1 + 1 + 1 + 1 + 1) w' ∧ Blk w' R 58 #[.int .i64 (v0 + (1 + d1)), .int .i64 (700 + d2), .int .i64 L, .int .i64 0]) ∧ (w'.cell? ⟨R, 2, none⟩ = some (.int .i64 L) ∧ w'.cell? ⟨R, 3, none⟩ = some (.int .i64 0) ∧ w'.frozen? ⟨R, 3, none⟩ = false)) := fun X hX => by
    have hI := S5.out.below hX
    have hK := K5.out.below hX K5.out.lt
    refine (hI.call (by omega) 100 (by omega) (by omega)).mono ?_
    rintro _ w' ⟨rfl, h⟩
    have hK' : Blk w' R 58 _ := h.2.blk hK fun e => by subst e; exact Blk.ne hK hI.d.dig (by decide) rfl
    exact ⟨by rw [H5.out], ⟨hI.next h, hK'⟩, cellOf hK' 2 rfl, cellOf hK' 3 rfl, hK'.frozen 3⟩
  rw [E5.out]
  rw [hL, hR]
  clear e5 b5 k5 hR hL hne
  go_cut [54] from 54 to 60 (fun _ wx => RCut w vl l D X0 Wb off bef aft vr acc (ix + 1 + 1 + 1 + 1 + 1) R (v0 + (1 + d1)) (700 + d2) L (min L (10 * d5)) wx)
  case first =>
    obtain ⟨d51, d52⟩ := n100
    have kw : IntKind.i64.wrap (10 * d5) = 10 * d5 := IntWalk.i64_in _ ⟨by omega, by omega⟩
    have HFin : Hid (∀ X m, m = min L (10 * d5) → Hid (In2 w vl l D X0 Wb off bef aft vr acc (ix + 1 + 1 + 1 + 1 + 1) X ∧ Blk X R 58 #[.int .i64 (v0 + (1 + d1)), .int .i64 (700 + d2), .int .i64 L, .int .i64 0]) → RCut w vl l D X0 Wb off bef aft vr acc (ix + 1 + 1 + 1 + 1 + 1) R (v0 + (1 + d1)) (700 + d2) L (min L (10 * d5)) (X.setCell ⟨R, 3, none⟩ (.int .i64 m)) ∧ RCut w vl l D X0 Wb off bef aft vr acc (ix + 1 + 1 + 1 + 1 + 1) R (v0 + (1 + d1)) (700 + d2) L (min L (10 * d5)) (X.setCell ⟨R, 3, none⟩ (.int .i64 m)).drew) := fun X m hm h => by
      subst hm
      have h1 : RCut w vl l D X0 Wb off bef aft vr acc (ix + 1 + 1 + 1 + 1 + 1) R (v0 + (1 + d1)) (700 + d2) L (min L (10 * d5)) (X.setCell ⟨R, 3, none⟩ (.int .i64 (min L (10 * d5)))) := ⟨h.out.1.reel h.out.2 hX4 HNE.out 3 _, h.out.2.put 3 _⟩
      exact ⟨h1, h1.1.below (Below.refl _ _).drew, h1.2.below (Below.refl _ _).drew h1.2.lt⟩
    have HL := Lib.hid hLb
    clear HE S5 S4 S3 S2 S1 E5 HA HN H1 H2 H3 H4 H5 hst hLb n5 n3 n256 m256 hidb
    by_cases hle : L ≤ 10 * d5
    all_goals
      go_region_held3 (fun X => X.cell? ⟨R, 2, none⟩ = some (.int .i64 L))
        (first | exact cellOf (hy1.out.2.put 3 _) 2 rfl | exact q2 | exact c2 | go_keep)
        (first | (go_at_call 29; refine (CN.out _ (by first | exact Below.refl _ _ | exact (Below.refl _ _).drew)).mono ?_; rintro _ y1 ⟨rfl, hy1, q2, q3, q4⟩))
      all_goals
        go_wp2_with fail
        go_meet
        first
          | exact (HFin.out _ _ (by first | omega | (split <;> omega)) hy1).1
          | exact (HFin.out _ _ (by first | omega | (split <;> omega)) hy1).2
  case rest =>
    obtain ⟨hI, hK⟩ := hcut
    obtain ⟨Av, cv, rfl⟩ := ownsRow_form hI.row
    obtain ⟨i0, hi0, hz0, hz1, hz2⟩ := info_parts infoReel
    obtain ⟨M, hM⟩ : ∃ a, min L (10 * d5) = a := ⟨_, rfl⟩
    rw [hM] at hK HE
    have g0 := cellOf hI.web 0 (x := .slice Av acc.length cv) rfl
    have r0 := cellOf hK 0 (x := .int .i64 (v0 + (1 + d1))) rfl
    have r1 := cellOf hK 1 (x := .int .i64 (700 + d2)) rfl
    have r2 := cellOf hK 2 (x := .int .i64 L) rfl
    have r3 := cellOf hK 3 (x := .int .i64 M) rfl
    have HI := Lib.hid hI
    have HO := Lib.hid hI.row
    have HZ : Hid (X0.heap.size ≤ wc.heap.size) := hI.d.kept.size
    have HAp : Hid (∀ v' W1 tmp, (wc.alloc tmp).grownBy W1 (Value.slice Av acc.length cv).ownBlock → W1.ownsRow X0.heap.size 58 4 v' (acc.length + 1) (acc.flatMap ReelD.cells ++ [.int .i64 (v0 + (1 + d1)), .int .i64 (700 + d2), .int .i64 L, .int .i64 M]) → Hid (In2 w vl l D X0 Wb off bef aft v' (reelsM l (i + 4) id (j + 1)) (i + 4 + 5 * (j + 1)) (W1.setCell ⟨Wb, 0, none⟩ v')) ∧ (W1.cell? ⟨Wb, 0, none⟩ = some (.slice Av acc.length cv) ∧ W1.frozen? ⟨Wb, 0, none⟩ = false)) := fun v' W1 tmp hg ho => by
      have hS : ∀ g, some g = (Value.slice Av acc.length cv).ownBlock → X0.heap.size ≤ g ∧ ∃ cs, Blk wc g 58 cs := fun g hg => ownsRow_own HO.out hg.symm
      have hK1 : KeptBut (fun g => some g = (Value.slice Av acc.length cv).ownBlock) wc W1 := by
        have h1 : KeptBut (fun g => some g = (Value.slice Av acc.length cv).ownBlock) wc (wc.alloc tmp) := (KeptBut.mono (S := fun _ => False) (KeptBut.of_below (below_alloc wc tmp) |>.mono fun _ _ h => h) fun _ _ h => h.elim)
        exact h1.trans (KeptBut.grown (S := fun g => some g = (Value.slice Av acc.length cv).ownBlock) hg fun g hg => hg) fun i _ hi => hi
      have hw1 : Blk W1 Wb 47 #[.slice Av acc.length cv, .int .i64 off, .int .i64 bef, .int .i64 aft] := hK1.blk HI.out.web fun e => by
        obtain ⟨-, cs, hB⟩ := hS Wb e
        exact Blk.ne hB HI.out.web (by decide) rfl
      refine ⟨?_, cellOf hw1 0 rfl, hw1.frozen 0⟩
      show In2 _ _ _ _ _ _ _ _ _ _ _ _ _
      rw [HA.out, HE.out, show i + 4 + 5 * (j + 1) = ix + 1 + 1 + 1 + 1 + 1 by have := HIX.out; omega]
      exact HI.out.app (x := ⟨v0 + (1 + d1), 700 + d2, L, M⟩) hg ho rfl
    clear hI hK hM CN S5 S4 S3 S2 S1 E5 K5 HA HE H1 H2 H3 H4 H5 hst c2
    go_wp2_with (at_builtin; refine wpList_append_own _ rfl _ _ 28 rfl X0.heap.size 58 i0 _ 4 32 sliceReel hi0 hz0 hz1 hz2 rfl (by decide) (.slice Av acc.length cv) acc.length (acc.flatMap ReelD.cells) rfl (HO.out.alloc _) ⟨wc.heap.size, 0, none⟩ 1 1 [.int .i64 (v0 + (1 + d1)), .int .i64 (700 + d2), .int .i64 L, .int .i64 M] rfl rfl (cells_new _ _ _) (by simp [Value.oneCell']) (by simp only [maxLen]; omega) (by omega) (by have := HZ.out; simp; omega) ?_; intro v2' w10 hown' hgro _; obtain ⟨Av2, cv2, rfl⟩ := ownsRow_form hown'; obtain ⟨hfin, q0, q1⟩ := HAp.out _ _ _ hgro hown'; clear hown' hgro)
    clear q0 q1 g0 r0 r1 r2 r3
    have hQ2 := hQ.out
    rw [HN.out] at hQ2
    exact hQ2 _ _ _ _ _ _ _ _ _ _ _ _ _ _ _ _ _ _ _ _ _ _ _ _ _ _ _ _ _ _ _ _ _ _ hfin.out
end Go.Proofs.Ytpkepacbondopaa
