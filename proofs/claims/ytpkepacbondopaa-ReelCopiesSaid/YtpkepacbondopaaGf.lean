/-
  Made: the press that numbers make.
-/
import Derived.Test.YtpkepacbondopaaGe
namespace Go.Proofs.Ytpkepacbondopaa
open Go.RowKit
attribute [local go_sem] Oper.semAt_some

/-- A press of one's own. -/
def OPress (base : Nat) (w : World) (u : Value) (p : PressD) : Prop := ∃ v, u = .agg #[.int .i64 p.cut, .int .i64 p.margin, v] ∧ OWebs base w v p.webs
theorem OPress.reads {base : Nat} {w : World} {u : Value} {p : PressD} (h : OPress base w u p) : RPress w.heap.size w u p := by
  obtain ⟨v, rfl, h⟩ := h
  exact ⟨v, rfl, h.reads⟩
/-- What Made returns. -/
def MadeRet (l : List Int) (w : World) (e : Ending) (w' : World) : Prop := ∃ u, e = .returned u ∧ OPress w.heap.size w' u (madeP l) ∧ Below w.heap.size w w'
set_option maxRecDepth 1000000 in
set_option maxHeartbeats 4000000 in
theorem Made_any (l : List Int) (hl : Bytes l) (vl : Value) (w : World) (h : RBytes w.heap.size w vl l) :
    Calls Try.prog 18 #[vl] w (MadeRet l w) := by
  obtain ⟨A, c, hA, -, -⟩ := h.open_
  have n1 := nxD_bound l 0 240 (by omega)
  have n2 := nxD_bound l 1 4 (by omega)
  obtain ⟨m1, m2, m3⟩ := nWebs_bound l
  have HN3 : Hid (nxD l 2 3 = (nWebs l : Int) - 1) := by show _ = _; omega
  clear m3
  obtain ⟨d1, hd1⟩ : ∃ a, nxD l 0 240 = a := ⟨_, rfl⟩
  obtain ⟨d2, hd2⟩ : ∃ a, nxD l 1 4 = a := ⟨_, rfl⟩
  rw [hd1] at n1
  rw [hd2] at n2
  have HC : Hid ((madeP l).cut = 300 + 5 * d1) := by show _ = _; rw [← hd1]; rfl
  have HG : Hid ((madeP l).margin = d2) := by show _ = _; rw [← hd2]; rfl
  have H1 := Lib.hid hd1
  have H2 := Lib.hid hd2
  have HL := Lib.hid hl
  have HR := Lib.hid h
  have F0 : ∃ W0, (w.alloc (.cells #[.int .i64 0, .int .i64 0, .slice none 0 0] 24)).alloc (.cells #[vl, .int .i64 0] 69) = W0 ∧ Below w.heap.size w W0 ∧ Blk W0 w.heap.size 24 #[.int .i64 0, .int .i64 0, .slice none 0 0] ∧ Blk W0 (w.heap.size + 1) 69 #[vl, .int .i64 ((0 : Nat) : Int)] :=
    ⟨_, rfl, ((Below.refl _ _).alloc (Nat.le_refl _) _).alloc (by simp) _, (Blk.new _ _ _).alloc _, blk_new (by simp) _ _⟩
  obtain ⟨W0, e0, b0, k0, g0⟩ := F0
  have E0 := Lib.hid e0
  have HK0 := Lib.hid k0
  obtain ⟨D, hD⟩ : ∃ a, w.heap.size + 1 = a := ⟨_, rfl⟩
  rw [hD] at g0
  have HB0 := Lib.hid b0
  have S0 : Hid (DSt w vl l D W0 0 W0) := ⟨hl, h.keep fun p hp => b0.cell hp, ⟨by omega, b0.size⟩, KeptBut.refl _ _, g0⟩
  have hwD : w.heap.size < D := by omega
  subst hA
  clear e0 b0 k0 g0 hd1 hd2 hl h
  go_enter Try.func18, Try.ntmps18
  go_upto_region 2 with fail
  rw [E0.out]
  first | rw [hD] | skip
  clear hD
  go_wp2_with fail
  refine (S0.out.call (by omega) 240 (by omega) (by omega)).mono ?_
  rintro _ Y1 ⟨rfl, h1⟩
  rw [H1.out]
  have S1 := Lib.hid (S0.out.next h1)
  clear h1
  go_wp2_with fail
  refine (S1.out.call (by omega) 4 (by omega) (by omega)).mono ?_
  rintro _ Y2 ⟨rfl, h2⟩
  rw [H2.out]
  have S2 := Lib.hid (S1.out.next h2)
  clear h2
  have F3 : ∃ Y3, Y2.alloc (.cells #[.int .i64 (300 + 5 * d1), .int .i64 d2, .slice none 0 0] 24) = Y3 ∧ DSt w (.slice A l.length c) l D W0 2 Y3 ∧ Blk Y3 Y2.heap.size 24 #[.int .i64 (300 + 5 * d1), .int .i64 d2, .slice none 0 0] := ⟨_, rfl, S2.out.below (below_alloc _ _), Blk.new _ _ _⟩
  obtain ⟨Y3, e3, h3, k3⟩ := F3
  have E3 := Lib.hid e3
  have S3 := Lib.hid h3
  have hP : w.heap.size < Y2.heap.size := Nat.lt_of_lt_of_le HK0.out.lt S2.out.kept.size
  obtain ⟨P, hPe⟩ : ∃ a, Y2.heap.size = a := ⟨_, rfl⟩
  rw [hPe] at k3 hP
  have CN : Hid (Calls Try.prog 29 #[.pointer (some ⟨D, 0, none⟩), .int .i64 3] Y3 fun e w' => e = .returned (.int .i64 ((nWebs l : Int) - 1)) ∧ Hid (MdSt w (.slice A l.length c) l D P 0 w')) := by
    refine (S3.out.call (by omega) 3 (by omega) (by omega)).mono ?_
    rintro _ w' ⟨rfl, h4⟩
    have h5 := S3.out.next h4
    refine ⟨by rw [HN3.out], ⟨HL.out, HR.out, HB0.out.trans (h5.kept.below (fun g hg => by omega) HB0.out.size), h5.kept.blk HK0.out (fun e => by omega), h5.dig, ⟨.slice none 0 0, ?_, ⟨[], World.ownsRow_nil _ _ _ _, rfl, fun i u x hu => by simp at hu⟩⟩, hP, hwD⟩⟩
    rw [HC.out, HG.out]
    exact h4.2.blk k3 fun e => by subst e; exact Blk.ne k3 h3.dig (by decide) rfl
  clear e3 h3 k3 S0 S1 S2
  go_upto_region 4 with fail
  rw [E3.out]
  first | rw [hPe] | skip
  clear hPe
  go_wp2_with fail
  refine CN.out.mono ?_
  rintro _ Y5 ⟨rfl, h5⟩
  have hsum : 1 + ((nWebs l : Int) - 1) = (nWebs l : Int) := by omega
  have HSum := Lib.hid hsum
  clear hsum CN S3 E3
  go_wp2_with fail
  rw [HSum.out]
  refine wp_loop_ghost (fun t b Y => ∃ (k : Nat) (y0 y1 y6 y7 y8 y9 y10 y11 y12 y13 y14 y15 y16 y17 y18 y19 y22 y23 y24 y25 y26 y27 y28 y29 y30 y31 y32 y33 y34 y35 y36 y37 y38 y39 y40 y41 y42 y43 y44 y45 y46 y47 y48 y49 y50 y51 y52 y53 y54 y55 y56 y57 y58 y59 y60 y61 y62 y63 y64 y65 y66 y67 y68 y69 y70 y71 y72 y73 y74 y75 : Value), t = nWebs l - k ∧ k ≤ nWebs l ∧ Hid (MdSt w (.slice A l.length c) l D P k Y) ∧ b = ⟨List.toArray (y0 :: y1 :: (.pointer (some ⟨w.heap.size, 0, none⟩)) :: (.pointer (some ⟨D, 0, none⟩)) :: (.pointer (some ⟨P, 0, none⟩)) :: (.int .i64 (beforeM l k)) :: y6 :: y7 :: y8 :: y9 :: y10 :: y11 :: y12 :: y13 :: y14 :: y15 :: y16 :: y17 :: y18 :: y19 :: (.int .i64 (nWebs l : Int)) :: (.int .i64 (k : Int)) :: y22 :: y23 :: y24 :: y25 :: y26 :: y27 :: y28 :: y29 :: y30 :: y31 :: y32 :: y33 :: y34 :: y35 :: y36 :: y37 :: y38 :: y39 :: y40 :: y41 :: y42 :: y43 :: y44 :: y45 :: y46 :: y47 :: y48 :: y49 :: y50 :: y51 :: y52 :: y53 :: y54 :: y55 :: y56 :: y57 :: y58 :: y59 :: y60 :: y61 :: y62 :: y63 :: y64 :: y65 :: y66 :: y67 :: y68 :: y69 :: y70 :: y71 :: y72 :: y73 :: y74 :: y75 :: []), []⟩) (nWebs l) ⟨0, _, _, _, _, _, _, _, _, _, _, _, _, _, _, _, _, _, _, _, _, _, _, _, _, _, _, _, _, _, _, _, _, _, _, _, _, _, _, _, _, _, _, _, _, _, _, _, _, _, _, _, _, _, _, _, _, _, _, _, _, _, _, _, _, _, _, _, _, _, _, rfl, Nat.zero_le _, h5, rfl⟩ ?_
  clear h5
  rintro t b Y ⟨k, y0, y1, y6, y7, y8, y9, y10, y11, y12, y13, y14, y15, y16, y17, y18, y19, y22, y23, y24, y25, y26, y27, y28, y29, y30, y31, y32, y33, y34, y35, y36, y37, y38, y39, y40, y41, y42, y43, y44, y45, y46, y47, y48, y49, y50, y51, y52, y53, y54, y55, y56, y57, y58, y59, y60, y61, y62, y63, y64, y65, y66, y67, y68, y69, y70, y71, y72, y73, y74, y75, rfl, hkm, hst, rfl⟩
  by_cases hk : k < nWebs l
  · refine wp_code (d := mdLoop 5) (by kernel_rfl) ?_
    refine made_web _ _ _ _ _ _ _ _ _ _ _ _ _ _ _ _ _ _ _ _ _ _ _ _ _ _ _ _ _ _ _ _ _ _ _ _ _ _ _ _ _ _ _ _ _ _ _ _ _ _ _ _ _ _ _ _ _ _ _ _ _ _ _ _ _ _ _ _ _ _ _ hk m2 hst ?_
    intro x6 x7 x22 x23 x24 x25 x26 x27 x28 x29 x30 x31 x32 x33 x34 x35 x36 x37 x38 x39 x40 x41 x42 x43 x44 x45 x46 x47 x48 x49 x50 x51 x52 x53 x54 x55 x56 x57 x58 x59 x60 x61 x62 x63 x64 x65 x66 x67 x68 x69 x70 x71 x72 x73 x74 Z hZ
    exact ⟨nWebs l - (k + 1), by omega, k + 1, _, _, _, _, _, _, _, _, _, _, _, _, _, _, _, _, _, _, _, _, _, _, _, _, _, _, _, _, _, _, _, _, _, _, _, _, _, _, _, _, _, _, _, _, _, _, _, _, _, _, _, _, _, _, _, _, _, _, _, _, _, _, _, _, _, _, _, _, _, _, rfl, by omega, hZ, rfl⟩
  obtain rfl : k = nWebs l := by omega
  obtain ⟨v, hv, hO⟩ := hst.out.press
  obtain ⟨Av, cv, hvf⟩ := ownsRow_form hO.choose_spec.1
  subst hvf
  have HO := Lib.hid hO
  have hB := Lib.hid hst.out.below_
  have hres := Lib.hid hst.out.res
  rw [HC.out, HG.out] at hv
  have p0 := cellOf hv 0 (x := .int .i64 (300 + 5 * d1)) rfl
  have p1 := cellOf hv 1 (x := .int .i64 d2) rfl
  have p2 := cellOf hv 2 (x := .slice Av (websM l (nWebs l)).length cv) rfl
  have q0 := cellOf hst.out.res 0 (x := .int .i64 0) rfl
  have q1 := cellOf hst.out.res 1 (x := .int .i64 0) rfl
  have q2 := cellOf hst.out.res 2 (x := .slice none 0 0) rfl
  have f0 := hst.out.res.frozen 0
  have f1 := hst.out.res.frozen 1
  have f2 := hst.out.res.frozen 2
  have hfin : Hid (MadeRet l w (.returned (.agg #[.int .i64 (300 + 5 * d1), .int .i64 d2, .slice Av (websM l (nWebs l)).length cv])) (((Y.setCell ⟨w.heap.size, 0, none⟩ (.int .i64 (300 + 5 * d1))).setCell ⟨w.heap.size, 1, none⟩ (.int .i64 d2)).setCell ⟨w.heap.size, 2, none⟩ (.slice Av (websM l (nWebs l)).length cv))) := by
    refine ⟨_, rfl, ⟨_, by rw [HC.out, HG.out], ?_⟩, below_set3 hB.out (Nat.le_refl _) _ _ _⟩
    have hk1 : ∀ (X : World) (j : Nat) (x : Value), KeptBut (fun g => g = w.heap.size) X (X.setCell ⟨w.heap.size, j, none⟩ x) := fun X j x => KeptBut.setCell (S := fun g => g = w.heap.size) rfl x
    refine HO.out.keep (((hk1 Y 0 _).trans (hk1 _ 1 _) fun _ _ h => h).trans (hk1 _ 2 _) fun _ _ h => h) fun g cs t hB' ht e => ?_
    subst e
    rcases ht with rfl | rfl <;> exact Blk.ne hB' hres.out (by decide) rfl
  have R := ((hres.out.put 0 (.int .i64 (300 + 5 * d1))).put 1 (.int .i64 d2)).put 2 (.slice Av (websM l (nWebs l)).length cv)
  have z0 := cellOf R 0 (x := .int .i64 (300 + 5 * d1)) rfl
  have z1 := cellOf R 1 (x := .int .i64 d2) rfl
  have z2 := cellOf R 2 (x := .slice Av (websM l (nWebs l)).length cv) rfl
  clear hv hO hst R HO hB hres
  go_wp2_with fail
  exact bodyPost_ret (v := .agg #[.int .i64 (300 + 5 * d1), .int .i64 d2, .slice Av (websM l (nWebs l)).length cv]) (by simp [results, Try.results18, go_sem, z0, z1, z2]) rfl hfin.out
end Go.Proofs.Ytpkepacbondopaa
