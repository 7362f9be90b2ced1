/-
  cheapest.
-/
import Derived.Deep.LoopGhost
import Derived.Test.YtpkepacbondopaaLw
import Derived.Test.YtpkepacbondopaaMj
namespace Go.Proofs.Ytpkepacbondopaa
open Go.RowKit Go.Shelf
attribute [local go_sem] Oper.semAt_some

/-- What cheapest answers. -/
def CheapRet (s : SupD) (w : World) (e : Ending) (w' : World) : Prop := ∃ u, e = .returned (.tuple #[u, .int .i64 (cheapOf s)]) ∧ OInts w.heap.size w' u (weeksOf s) ∧ Below w.heap.size w w'
set_option maxRecDepth 1000000 in
set_option maxHeartbeats 4000000 in
theorem cheapest_any (s : SupD) (hs : s.Ok) (v : Value) (w : World) (h : RSup w.heap.size w v s) :
    Calls Try.prog 84 #[v] w (CheapRet s w) := by
  have HSUP := h
  obtain ⟨vn, vo, rfl, hN, hO⟩ := h
  obtain ⟨An, cn, rfl, hnm, -⟩ := hN.open_
  obtain ⟨Ao, co, rfl, hom, -⟩ := hO.open_
  rw [hs.same] at hom HSUP ⊢
  have HSUP := Lib.hid HSUP
  obtain ⟨m, hm⟩ : ∃ m, s.need.length = m := ⟨_, rfl⟩
  have hm20 : 1 ≤ m ∧ m ≤ 20 := by have := hs.weeks; omega
  have HM := Lib.hid hm
  have HS := Lib.hid hs
  rw [hm] at hnm hom ⊢
  clear hN hO hm hs
  have F0 : ∃ W0, w.alloc (.cells #[.slice An m cn, .slice Ao m co, .int .i64 s.keep, .int .i64 s.room] 33) = W0 ∧ Below w.heap.size w W0 ∧ Blk W0 w.heap.size 33 #[.slice An m cn, .slice Ao m co, .int .i64 s.keep, .int .i64 s.room] := ⟨_, rfl, below_alloc _ _, Blk.new _ _ _⟩
  obtain ⟨W0, e0, hb0, B0⟩ := F0
  have E0 := Lib.hid e0
  have HB0 := Lib.hid hb0
  have HK0 := Lib.hid B0
  clear e0 hb0 B0
  refine (callsIn_wide (n := 10)).1 ?_
  refine callsIn_of_wp_marks Try.func84 rfl trivial ?_ rfl
  simp only [Try.ntmps84, List.size_toArray, List.length_cons, List.length_nil, Nat.reduceAdd, Nat.reduceSub, Array.replicate_succ, Array.replicate_zero, List.push_toArray, List.append_toArray, List.nil_append, List.cons_append]
  refine wpIn_wide.2 ?_
  go_upto_region 1 with fail
  rw [E0.out]
  go_upto_region 2 with fail
  have F1 : ∃ W1, (W0.alloc (.cells #[.int .i64 0, .int .i64 0, .int .i64 0, .int .i64 0, .int .i64 0, .int .i64 0, .int .i64 0, .int .i64 0, .int .i64 0, .int .i64 0, .int .i64 0, .int .i64 0, .int .i64 0, .int .i64 0, .int .i64 0, .int .i64 0, .int .i64 0, .int .i64 0, .int .i64 0, .int .i64 0, .int .i64 0] 221)).alloc (.cells #[.int .i64 0, .int .i64 0, .int .i64 0, .int .i64 0, .int .i64 0, .int .i64 0, .int .i64 0, .int .i64 0, .int .i64 0, .int .i64 0, .int .i64 0, .int .i64 0, .int .i64 0, .int .i64 0, .int .i64 0, .int .i64 0, .int .i64 0, .int .i64 0, .int .i64 0, .int .i64 0, .int .i64 0] 221) = W1 ∧ CheapSt w s An Ao cn co W0.heap.size (W0.heap.size + 1) [] (chTo s 0) W1 := by
    have b1 := below_alloc W0 (.cells #[.int .i64 0, .int .i64 0, .int .i64 0, .int .i64 0, .int .i64 0, .int .i64 0, .int .i64 0, .int .i64 0, .int .i64 0, .int .i64 0, .int .i64 0, .int .i64 0, .int .i64 0, .int .i64 0, .int .i64 0, .int .i64 0, .int .i64 0, .int .i64 0, .int .i64 0, .int .i64 0, .int .i64 0] 221)
    have k1 := Blk.new W0 221 #[.int .i64 0, .int .i64 0, .int .i64 0, .int .i64 0, .int .i64 0, .int .i64 0, .int .i64 0, .int .i64 0, .int .i64 0, .int .i64 0, .int .i64 0, .int .i64 0, .int .i64 0, .int .i64 0, .int .i64 0, .int .i64 0, .int .i64 0, .int .i64 0, .int .i64 0, .int .i64 0, .int .i64 0]
    obtain ⟨V1, e1⟩ : ∃ V1, W0.alloc (.cells #[.int .i64 0, .int .i64 0, .int .i64 0, .int .i64 0, .int .i64 0, .int .i64 0, .int .i64 0, .int .i64 0, .int .i64 0, .int .i64 0, .int .i64 0, .int .i64 0, .int .i64 0, .int .i64 0, .int .i64 0, .int .i64 0, .int .i64 0, .int .i64 0, .int .i64 0, .int .i64 0, .int .i64 0] 221) = V1 := ⟨_, rfl⟩
    have z1 : V1.heap.size = W0.heap.size + 1 := by rw [← e1]; simp
    rw [e1] at b1 k1 ⊢
    have b2 := below_alloc V1 (.cells #[.int .i64 0, .int .i64 0, .int .i64 0, .int .i64 0, .int .i64 0, .int .i64 0, .int .i64 0, .int .i64 0, .int .i64 0, .int .i64 0, .int .i64 0, .int .i64 0, .int .i64 0, .int .i64 0, .int .i64 0, .int .i64 0, .int .i64 0, .int .i64 0, .int .i64 0, .int .i64 0, .int .i64 0] 221)
    have k2 := Blk.new V1 221 #[.int .i64 0, .int .i64 0, .int .i64 0, .int .i64 0, .int .i64 0, .int .i64 0, .int .i64 0, .int .i64 0, .int .i64 0, .int .i64 0, .int .i64 0, .int .i64 0, .int .i64 0, .int .i64 0, .int .i64 0, .int .i64 0, .int .i64 0, .int .i64 0, .int .i64 0, .int .i64 0, .int .i64 0]
    rw [z1] at k2
    have hz := HK0.out.lt
    refine ⟨_, rfl, ⟨HB0.out.trans ((b1.mono HB0.out.size).trans (b2.mono (by omega))), ?_, k1.below b2 k1.lt, k2, ⟨by omega, by omega, by omega⟩, ⟨[], rfl, List.nodup_nil, fun _ h => (by cases h)⟩⟩⟩
    rw [HM.out]
    exact (HK0.out.below b1 HK0.out.lt).below b2 (HK0.out.below b1 HK0.out.lt).lt
  obtain ⟨W1, e1, hst1⟩ := F1
  have E1 := Lib.hid e1
  obtain ⟨N1, hN1⟩ : ∃ b, W0.heap.size = b := ⟨_, rfl⟩
  have HN1 := Lib.hid hN1
  rw [hN1] at hst1
  obtain ⟨N2, hN2⟩ : ∃ b, N1 + 1 = b := ⟨_, rfl⟩
  rw [hN2] at hst1
  have HN2 := Lib.hid hN2
  have F2 : ∃ W2, W1.alloc (.cells #[.int .i64 ((m : Int) - 1)] 3) = W2 ∧ CheapSt w s An Ao cn co N1 N2 [] (chTo s 0) W2 ∧ Blk W2 W1.heap.size 3 #[.int .i64 ((m : Int) - 1)] := ⟨_, rfl, hst1.below (below_alloc _ _), Blk.new _ _ _⟩
  obtain ⟨W2, e2, hst2, hw2⟩ := F2
  have E2 := Lib.hid e2
  obtain ⟨Bw, hBw⟩ : ∃ b, W1.heap.size = b := ⟨_, rfl⟩
  have HBw := Lib.hid hBw
  rw [hBw] at hw2
  have HS2 := Lib.hid hst2
  have HW2 : Hid (Blk W2 Bw 3 #[.int .i64 ((m : Int) - 1 - (0 : Nat))] ∧ w.heap.size < Bw) := ⟨by rw [show (m : Int) - 1 - (0 : Nat) = (m : Int) - 1 by omega]; exact hw2, by rw [← hBw]; exact hst1.sup.lt⟩
  have S1 := hst1.sup
  rw [HM.out] at S1
  have s0 := cellOf S1 0 (x := .slice An m cn) rfl
  rw [E1.out]
  clear e1 e2 hst1 hst2 hw2 S1
  rw [hN1, hN2]
  clear hN1 hN2
  go_upto_region 3 with fail
  first
    | (rw [E2.out])
    | (rw [hBw] at *; rw [E2.out])
  clear s0 hBw
  refine wp_loop_ghost (fun t b X => ∃ (k Bw : Nat) (x0 x2 x3 x7 x8 x9 x10 x11 x12 x13 x14 x15 x16 x17 x18 x19 x20 x21 x22 x23 x24 x25 x26 x27 x28 x29 x30 x31 x32 x33 x34 x35 x36 x37 x38 x39 x40 x41 x42 x43 x44 x45 x46 x47 x48 x49 x50 x51 x52 x53 x54 x55 x56 x57 x58 : Value) (ds : List Deferred), t = m - k ∧ k ≤ m ∧ Hid (CheapSt w s An Ao cn co N1 N2 ds (chTo s k) X) ∧ Hid (Blk X Bw 3 #[.int .i64 ((m : Int) - 1 - (k : Nat))] ∧ w.heap.size < Bw) ∧ b = ⟨List.toArray (x0 :: (.pointer (some ⟨w.heap.size, 0, none⟩)) :: x2 :: x3 :: (.pointer (some ⟨N1, 0, none⟩)) :: (.pointer (some ⟨N2, 0, none⟩)) :: (.pointer (some ⟨Bw, 0, none⟩)) :: x7 :: x8 :: x9 :: x10 :: x11 :: x12 :: x13 :: x14 :: x15 :: x16 :: x17 :: x18 :: x19 :: x20 :: x21 :: x22 :: x23 :: x24 :: x25 :: x26 :: x27 :: x28 :: x29 :: x30 :: x31 :: x32 :: x33 :: x34 :: x35 :: x36 :: x37 :: x38 :: x39 :: x40 :: x41 :: x42 :: x43 :: x44 :: x45 :: x46 :: x47 :: x48 :: x49 :: x50 :: x51 :: x52 :: x53 :: x54 :: x55 :: x56 :: x57 :: x58 :: []), ds⟩) m ⟨0, Bw, _, _, _, _, _, _, _, _, _, _, _, _, _, _, _, _, _, _, _, _, _, _, _, _, _, _, _, _, _, _, _, _, _, _, _, _, _, _, _, _, _, _, _, _, _, _, _, _, _, _, _, _, _, _, _, [], rfl, Nat.zero_le _, HS2, HW2, rfl⟩ ?_
  clear HS2 HW2
  rintro t b X ⟨k, Bv, x0, x2, x3, x7, x8, x9, x10, x11, x12, x13, x14, x15, x16, x17, x18, x19, x20, x21, x22, x23, x24, x25, x26, x27, x28, x29, x30, x31, x32, x33, x34, x35, x36, x37, x38, x39, x40, x41, x42, x43, x44, x45, x46, x47, x48, x49, x50, x51, x52, x53, x54, x55, x56, x57, x58, ds, rfl, hkm, hst, hwk, rfl⟩
  by_cases hk : k < m
  · refine wp_code (d := chLoop 3) (by kernel_rfl) ?_
    have hck : (m : Int) - 1 - (k : Nat) = ((m - (k + 1) : Nat) : Int) := by omega
    have hch := chTo_ok HS.out k (by rw [HM.out]; omega)
    rw [HM.out, show m - k = m - (k + 1) + 1 by omega] at hch
    have hwk' := hwk.out
    rw [hck] at hwk'
    refine cheap_round _ _ _ _ _ _ _ _ _ _ _ _ _ _ _ _ _ _ _ _ _ _ _ _ _ _ _ _ _ _ _ _ _ _ _ _ _ _ _ _ _ _ _ _ _ _ _ _ _ _ _ _ _ _ _ HS HM (k := m - (k + 1)) (by omega) hm20.2 HSUP hst (Lib.hid hch) (Lib.hid hwk') ?_
    intro x7 x8 x9 x16 x17 x18 x19 x20 x21 x22 x23 x24 x25 x26 x27 x28 x29 x30 x31 x32 x33 x34 x35 x36 x37 x38 x39 x40 x41 x42 x43 Bw' ds' Y hY hwY
    refine ⟨m - (k + 1), by omega, k + 1, Bw', _, _, _, _, _, _, _, _, _, _, _, _, _, _, _, _, _, _, _, _, _, _, _, _, _, _, _, _, _, _, _, _, _, _, _, _, _, _, _, _, _, _, _, _, _, _, _, _, _, _, _, _, _, _, _, ds', rfl, by omega, (?_ : Hid _), (?_ : Hid _), rfl⟩
    · show CheapSt _ _ _ _ _ _ _ _ _ (chTo s (k + 1)) _
      unfold chTo
      rw [HM.out]
      exact hY
    · show Blk _ _ _ _ ∧ _
      rw [show (m : Int) - 1 - ((k + 1 : Nat) : Int) = ((m - (k + 1) : Nat) : Int) - 1 by omega]
      exact hwY
  obtain rfl : k = m := by omega
  have hwk1 := hwk.out.1
  rw [show (k : Int) - 1 - (k : Nat) = -1 by omega] at hwk1
  have d0 := cellOf hwk1 0 (x := .int .i64 (-1)) rfl
  have HS0 := hst
  clear hwk1 hwk E0 E1 E2 HK0 HB0 HBw HN1 HN2 hst
  go_wp2_with fail
  clear d0
  have hO0 : Hid (OInts w.heap.size X (.slice none 0 0) []) := World.ownsRow_nil _ _ _ _
  refine wp_loop_ghost (fun t b Y => ∃ (a : Nat) (v : Value) (acc : List Int) (y0 y2 y3 y6 y7 y8 y9 y12 y13 y14 y15 y16 y17 y18 y19 y20 y21 y22 y23 y24 y25 y26 y27 y28 y29 y30 y31 y32 y33 y34 y35 y36 y37 y38 y39 y40 y41 y42 y43 y44 y45 y46 y47 y48 y49 y50 y51 y52 y53 y54 y55 y56 y57 y58 : Value), t = k - a ∧ a ≤ k ∧ Hid (CheapSt w s An Ao cn co N1 N2 ds (chTo s k) Y) ∧ Hid (OInts w.heap.size Y v acc) ∧ Hid (acc ++ pathF s (k - a) a = weeksOf s) ∧ acc.length ≤ a ∧ b = ⟨List.toArray (y0 :: (.pointer (some ⟨w.heap.size, 0, none⟩)) :: y2 :: y3 :: (.pointer (some ⟨N1, 0, none⟩)) :: (.pointer (some ⟨N2, 0, none⟩)) :: y6 :: y7 :: y8 :: y9 :: v :: (.int .i64 (a : Int)) :: y12 :: y13 :: y14 :: y15 :: y16 :: y17 :: y18 :: y19 :: y20 :: y21 :: y22 :: y23 :: y24 :: y25 :: y26 :: y27 :: y28 :: y29 :: y30 :: y31 :: y32 :: y33 :: y34 :: y35 :: y36 :: y37 :: y38 :: y39 :: y40 :: y41 :: y42 :: y43 :: y44 :: y45 :: y46 :: y47 :: y48 :: y49 :: y50 :: y51 :: y52 :: y53 :: y54 :: y55 :: y56 :: y57 :: y58 :: []), ds⟩) k ⟨0, .slice none 0 0, [], _, _, _, _, _, _, _, _, _, _, _, _, _, _, _, _, _, _, _, _, _, _, _, _, _, _, _, _, _, _, _, _, _, _, _, _, _, _, _, _, _, _, _, _, _, _, _, _, _, _, _, _, _, _, rfl, Nat.zero_le _, HS0, hO0, (by show _ = _; unfold weeksOf; rw [HM.out]; rfl), Nat.le_refl _, rfl⟩ ?_
  clear HS0 hO0
  rintro t b Y ⟨a, v, acc, y0, y2, y3, y6, y7, y8, y9, y12, y13, y14, y15, y16, y17, y18, y19, y20, y21, y22, y23, y24, y25, y26, y27, y28, y29, y30, y31, y32, y33, y34, y35, y36, y37, y38, y39, y40, y41, y42, y43, y44, y45, y46, y47, y48, y49, y50, y51, y52, y53, y54, y55, y56, y57, y58, rfl, hak, hst, hO, hp, hal, rfl⟩
  have S := hst.out.sup
  rw [HM.out] at S
  have s0 := cellOf S 0 (x := .slice An k cn) rfl
  clear S
  by_cases ha : a < k
  case neg =>
    obtain rfl : a = k := by omega
    have hch := chTo_ok HS.out a (by rw [HM.out]; exact Nat.le_refl _)
    have hr0 := arr_cell hst.out.rs (j := 0) (by rw [hch.l2]; omega)
    obtain ⟨z, hz⟩ : ∃ z, (chTo s a).2.getD 0 0 = z := ⟨_, rfl⟩
    rw [hz] at hr0
    have HZ : Hid (cheapOf s = z) := by show _ = _; unfold cheapOf; rw [HM.out]; exact hz
    have HW : Hid (acc = weeksOf s) := by
      have h1 := hp.out
      rw [Nat.sub_self] at h1
      unfold pathF at h1
      rwa [List.append_nil] at h1
    obtain ⟨Ds, rfl, hDs1, hDs2⟩ := hst.out.defs
    have HDs := Lib.hid hDs2
    have HB := Lib.hid hst.out.below_
    clear hz hch hp hst hDs2
    go_wp2_with fail
    clear s0
    go_quiet (fail)
    clear hr0
    go_wp2_with fail
    refine leaves_marks Ds (Y.drewN nq) hDs1 (fun D hD => (HDs.out D hD).2) fun Z hZ => ⟨_, results_tmp2 rfl _ _ _, v, ?_, ?_, ?_⟩
    · rw [HZ.out]; rfl
    · rw [← HW.out]
      refine ownsRow_keptBut (w := Y) hO.out ⟨hZ.os, hZ.tape, hZ.output, hZ.size, hZ.block⟩ fun g cs _ hB hg => ?_
      have := hB.symm.trans (HDs.out g hg).2
      simp at this
    · exact (below_drewN HB.out nq).trans (hZ.below (fun k hk => (HDs.out k hk).1) HB.out.size)
  obtain ⟨hn1, hn2, hn3, -, -⟩ := nextOf_ok HS.out (a := a) (by rw [HM.out]; exact ha)
  have hch := chTo_ok HS.out k (by rw [HM.out]; exact Nat.le_refl _)
  have hr1 := arr_cell hst.out.nx (j := a) (by rw [hch.l1]; omega)
  rw [HM.out] at hn1 hn3
  rw [← hn1] at hr1
  obtain ⟨nx, hnx⟩ : ∃ z, nextOf s a = z := ⟨_, rfl⟩
  rw [hnx] at hr1 hn2 hn3
  have HP : Hid ((acc ++ [(a : Int)]) ++ pathF s (k - nx) nx = weeksOf s) := by
    show _ = _
    rw [← hp.out, show k - a = (k - a - 1) + 1 by omega, List.append_assoc]
    congr 1
    conv => rhs; unfold pathF
    rw [if_pos (by rw [HM.out]; exact ha), hnx]
    show _ :: pathF _ _ _ = _ :: pathF _ _ _
    rw [pathF_more HS.out (k - nx) (k - a - 1) nx (by rw [HM.out]; omega) (by rw [HM.out]; omega)]
  obtain ⟨i0, hi0, hz0, hz1, hz2⟩ := info_parts infoInt0
  obtain ⟨Av, cv, rfl⟩ := ownsRow_form hO.out
  have HC : Hid (∀ Z tmp, (Y.alloc tmp).grownBy Z (Value.slice Av acc.length cv).ownBlock → CheapSt w s An Ao cn co N1 N2 ds (chTo s k) Z) := fun Z tmp hg => by
    have h1 : KeptBut (fun j => some j = (Value.slice Av acc.length cv).ownBlock) Y (Y.alloc tmp) := (KeptBut.mono (S := fun _ => False) (KeptBut.of_below (below_alloc Y tmp) |>.mono fun _ _ h => h) fun _ _ h => h.elim)
    refine hst.out.keep (h1.trans (KeptBut.grown (S := fun j => some j = (Value.slice Av acc.length cv).ownBlock) hg fun j hj => hj) fun i _ hi => hi) fun j hj => ?_
    obtain ⟨h2, cs, h3⟩ := ownsRow_own hO.out hj.symm
    have h4 := Blk.ne h3 hst.out.sup (by decide)
    refine ⟨by omega, Blk.ne h3 hst.out.nx (by decide), Blk.ne h3 hst.out.rs (by decide), fun h9 => ?_⟩
    have := h3.symm.trans h9
    simp at this
  have HOY := Lib.hid hO.out
  have HZY : Hid (w.heap.size ≤ Y.heap.size) := hst.out.below_.size
  have hN1 := Lib.hid hst.out
  have ha21 : (a : Int) < 21 := by omega
  have HR : Hid (∀ Z, CheapSt w s An Ao cn co N1 N2 ds (chTo s k) Z → Z.cell? ⟨N1, a, none⟩ = some (.int .i64 (nx : Int))) := fun Z hZ => by
    have h1 := arr_cell hZ.nx (j := a) (by rw [hch.l1]; omega)
    rwa [← hn1, hnx] at h1
  clear hn1 hch hnx hp hst
  go_wp2_with (at_builtin; refine wpList_append_own _ rfl _ _ 30 rfl w.heap.size 3 i0 _ 1 8 sliceInts hi0 hz0 hz1 hz2 rfl (by decide) (.slice Av acc.length cv) acc.length (acc.map (Value.int .i64)) rfl (HOY.out.alloc _) ⟨Y.heap.size, 0, none⟩ 1 1 [.int .i64 (a : Int)] rfl rfl (cells_new _ _ _) (by simp [Value.oneCell']) (by simp only [maxLen]; omega) (by omega) (by have := HZY.out; simp; omega) ?_; intro v2' w10 hown' hgro _; have hcs := Lib.hid (HC.out _ _ hgro); have hnc := HR.out _ hcs.out; have HOw := Lib.hid hown'; clear hown' hgro)
  have HO2 : Hid (OInts w.heap.size w10 v2' (acc ++ [(a : Int)])) := by
    show World.ownsRow _ _ _ _ _ _ _
    rw [List.length_append, List.map_append]
    exact HOw.out
  clear hnc
  exact ⟨k - nx, by omega, nx, v2', acc ++ [(a : Int)], _, _, _, _, _, _, _, _, _, _, _, _, _, _, _, _, _, _, _, _, _, _, _, _, _, _, _, _, _, _, _, _, _, _, _, _, _, _, _, _, _, _, _, _, _, _, _, _, _, _, _, _, _, _, rfl, hn3, hcs, HO2, HP, (by rw [List.length_append]; simp; omega), rfl⟩
end Go.Proofs.Ytpkepacbondopaa
