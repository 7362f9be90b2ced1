/-
  prices.
-/
import Derived.Deep.LoopGhost
import Derived.Test.YtpkepacbondopaaLw
import Derived.Test.YtpkepacbondopaaMg
namespace Go.Proofs.Ytpkepacbondopaa
open Go.RowKit Go.Shelf
attribute [local go_sem] Oper.semAt_some

set_option maxRecDepth 1000000 in
set_option maxHeartbeats 4000000 in
theorem prices_any (s : SupD) (hs : s.Ok) (v : Value) (w : World) (h : RSup w.heap.size w v s) :
    Calls Try.prog 85 #[v] w fun e w' => ∃ u, e = .returned u ∧ OInts w.heap.size w' u (pricesTo s s.need.length) ∧ Below w.heap.size w w' := by
  have HSUP := h
  obtain ⟨vn, vo, rfl, hN, hO⟩ := h
  obtain ⟨An, cn, rfl, hnm, -⟩ := hN.open_
  obtain ⟨Ao, co, rfl, hom, -⟩ := hO.open_
  rw [hs.same] at hom HSUP ⊢
  have HSUP := Lib.hid HSUP
  obtain ⟨m, hm⟩ : ∃ m, s.need.length = m := ⟨_, rfl⟩
  have hm20 : m ≤ 20 := by have := hs.weeks.2; omega
  have HM := Lib.hid hm
  have HS := Lib.hid hs
  rw [hm] at hnm hom ⊢
  clear hN hO hm hs
  have F0 : ∃ W0, w.alloc (.cells #[.slice An m cn, .slice Ao m co, .int .i64 s.keep, .int .i64 s.room] 33) = W0 ∧ Below w.heap.size w W0 ∧ Blk W0 w.heap.size 33 #[.slice An m cn, .slice Ao m co, .int .i64 s.keep, .int .i64 s.room] := ⟨_, rfl, below_alloc _ _, Blk.new _ _ _⟩
  obtain ⟨W0, e0, hb0, B0⟩ := F0
  have F1 : ∃ W1, W0.alloc (.cells #[.int .i64 9223372036854775807] 3) = W1 ∧ Below W0.heap.size W0 W1 ∧ Blk W1 W0.heap.size 3 #[.int .i64 big] := ⟨_, rfl, below_alloc _ _, Blk.new _ _ _⟩
  obtain ⟨W1, e1, hb1, B1⟩ := F1
  have hR1 : RInts W1.heap.size W1 (.slice (some ⟨W0.heap.size, 0, none⟩) 1 1) [big] := by
    have h9 : W1.ownsRow W0.heap.size 3 1 (.slice (some ⟨W0.heap.size, 0, none⟩) 1 1) 1 [.int .i64 big] := ⟨rfl, .inr ⟨W0.heap.size, 1, _, rfl, Nat.le_refl _, B1, Nat.le_refl _, by decide, by simp, rfl⟩⟩
    exact Rd.own h9 (own_le h9)
  have CR := Lib.hid (Repeat_any big (m + 1) (by omega) (by omega) _ W1 hR1)
  have E0 := Lib.hid e0
  have E1 := Lib.hid e1
  have HB1 : Hid (Below w.heap.size w W1) := hb0.trans (hb1.mono hb0.size)
  have HK1 := Lib.hid (B0.below hb1 B0.lt)
  have s0 := cellOf HK1.out 0 (x := .slice An m cn) rfl
  have kw : IntKind.i64.wrap ((m : Int) + 1) = ((m + 1 : Nat) : Int) := by rw [show ((m + 1 : Nat) : Int) = (m : Int) + 1 by omega]; exact IntWalk.i64_in _ ⟨by omega, by omega⟩
  clear e0 hb0 hb1 B0 B1 hR1
  refine (callsIn_wide (n := 10)).1 ?_
  refine callsIn_of_wp_marks Try.func85 rfl trivial ?_ rfl
  simp only [Try.ntmps85, List.size_toArray, List.length_cons, List.length_nil, Nat.reduceAdd, Nat.reduceSub, Array.replicate_succ, Array.replicate_zero, List.push_toArray, List.append_toArray, List.nil_append, List.cons_append]
  refine wpIn_wide.2 ?_
  go_upto_region 1 with fail
  rw [E0.out]
  clear E0
  go_wp2_with fail
  clear e1 s0 kw
  refine CR.out.mono ?_
  rintro _ W2 ⟨u, rfl, hO, hb2⟩
  have hO2 : W2.ownsRow W1.heap.size 3 1 u (m + 1) ((List.replicate (m + 1) big).map (Value.int .i64)) := by
    have h9 := hO
    unfold OInts at h9
    rwa [List.length_replicate] at h9
  obtain ⟨G, c, rfl, hG, hGl⟩ : ∃ G c, u = .slice (some ⟨G, 0, none⟩) (m + 1) c ∧ W1.heap.size ≤ G ∧ G < W2.heap.size := by
    obtain ⟨A9, c9, rfl⟩ := ownsRow_form hO2
    obtain ⟨G, rfl, h1, h2⟩ := ownsRow_block hO2 (by omega)
    exact ⟨G, c9, rfl, h1, h2⟩
  have HB2 : Hid (Below w.heap.size w W2) := HB1.out.trans (hb2.mono HB1.out.size)
  have F3 : ∃ W3, W2.alloc (.cells #[.slice (some ⟨G, 0, none⟩) (m + 1) c] 30) = W3 ∧ PrSt w s An Ao cn co W2.heap.size G c [] (List.replicate (m + 1) big) W3 := by
    have b3 := below_alloc W2 (.cells #[.slice (some ⟨G, 0, none⟩) (m + 1) c] 30)
    have k3 := Blk.new W2 30 #[.slice (some ⟨G, 0, none⟩) (m + 1) c]
    refine ⟨_, rfl, ?_⟩
    refine ⟨HB2.out.trans (b3.mono HB2.out.size), ?_, ?_, HB2.out.size, ?_, ⟨[], rfl, List.nodup_nil, fun _ h => (by cases h)⟩⟩
    · rw [HM.out]; exact (HK1.out.below hb2 HK1.out.lt).below b3 (HK1.out.below hb2 HK1.out.lt).lt
    · rw [HM.out]; exact k3
    · rw [HM.out]; exact ownsRow_base (ownsRow_below hO2 b3) HB1.out.size
  obtain ⟨W3, e3, hst3⟩ := F3
  obtain ⟨PB, hPB⟩ : ∃ b, W2.heap.size = b := ⟨_, rfl⟩
  rw [hPB] at hst3
  have hput := (hst3.put (j := 0) (by omega) 0).1
  have F4 : ∃ W4, W3.setCell ⟨G, 0, none⟩ (.int .i64 0) = W4 ∧ PrSt w s An Ao cn co PB G c [] (pricesTo s 0) W4 := ⟨_, rfl, by
    rw [show pricesTo s 0 = (List.replicate (m + 1) big).set 0 0 by unfold pricesTo; rw [HM.out]; rfl]
    exact hput⟩
  obtain ⟨W4, e4, hst4⟩ := F4
  have E3 := Lib.hid e3
  have E4 := Lib.hid e4
  have HS4 := Lib.hid hst4
  have hbx := cellOf hst3.box 0 (x := .slice (some ⟨G, 0, none⟩) (s.need.length + 1) c) rfl
  have hfz : W3.frozen? ⟨G, 0, none⟩ = false := ownsRow_frozen hst3.row 0
  have hgc := hst3.cell (j := 0) (by omega)
  have S3 := hst3.sup
  rw [HM.out] at hbx S3
  have hPBn := Lib.hid hPB
  clear e3 e4 hput hst3 hst4 hO hO2 hG hGl hb2 CR
  go_upto_region 2 with fail
  rw [E3.out]
  clear hPB
  go_upto_region 3 with fail
  rw [E4.out]
  clear hbx hfz hgc S3
  have S4 := HS4.out.sup
  rw [HM.out] at S4
  have s0 := cellOf S4 0 (x := .slice An m cn) rfl
  clear S4
  go_wp2_with fail
  clear s0
  refine wp_loop_ghost (fun t a X => ∃ (k : Nat) (x4 x5 x6 x7 x8 x9 x10 x11 x12 x13 x14 x15 x19 x20 x21 x22 x23 x24 x25 x26 x27 x28 x29 x30 x31 x32 x33 x34 x35 x36 x37 x38 x39 x40 x41 : Value) (ds : List Deferred), t = m - k ∧ k ≤ m ∧ Hid (PrSt w s An Ao cn co PB G c ds (pricesTo s k) X) ∧ a = ⟨List.toArray ((.agg #[.slice An m cn, .slice Ao m co, .int .i64 s.keep, .int .i64 s.room]) :: (.pointer (some ⟨w.heap.size, 0, none⟩)) :: (.slice none 0 0) :: (.pointer (some ⟨PB, 0, none⟩)) :: x4 :: x5 :: x6 :: x7 :: x8 :: x9 :: x10 :: x11 :: x12 :: x13 :: x14 :: x15 :: (.slice An m cn) :: (.int .i64 (m : Int)) :: (.int .i64 (k : Int)) :: x19 :: x20 :: x21 :: x22 :: x23 :: x24 :: x25 :: x26 :: x27 :: x28 :: x29 :: x30 :: x31 :: x32 :: x33 :: x34 :: x35 :: x36 :: x37 :: x38 :: x39 :: x40 :: x41 :: []), ds⟩) m ⟨0, _, _, _, _, _, _, _, _, _, _, _, _, _, _, _, _, _, _, _, _, _, _, _, _, _, _, _, _, _, _, _, _, _, _, _, [], rfl, Nat.zero_le _, HS4, rfl⟩ ?_
  rintro t a X ⟨k, x4, x5, x6, x7, x8, x9, x10, x11, x12, x13, x14, x15, x19, x20, x21, x22, x23, x24, x25, x26, x27, x28, x29, x30, x31, x32, x33, x34, x35, x36, x37, x38, x39, x40, x41, ds, rfl, hkm, hst, rfl⟩
  by_cases hk : k < m
  · refine wp_code (d := prLoop 4) (by kernel_rfl) ?_
    refine prices_round _ _ _ _ _ _ _ _ _ _ _ _ _ _ _ _ _ _ _ _ _ _ _ _ _ _ _ _ _ _ _ _ _ _ _ _ _ HS HM hk hm20 HSUP hst (Lib.hid (pricesTo_ok HS.out k (by rw [HM.out]; omega))) ?_
    intro x4 x5 x6 x19 x20 x21 x22 x23 x24 x25 x26 x27 x28 x29 x30 x31 x32 x33 x34 x35 x36 x37 x38 x39 x40 ds' Y hY
    exact ⟨m - (k + 1), by omega, k + 1, _, _, _, _, _, _, _, _, _, _, _, _, _, _, _, _, _, _, _, _, _, _, _, _, _, _, _, _, _, _, _, _, _, _, _, ds', rfl, by omega, (by rw [pricesTo_next]; exact hY), rfl⟩
  obtain rfl : k = m := by omega
  have hsb := cellOf hst.out.box 0 (x := .slice (some ⟨G, 0, none⟩) (s.need.length + 1) c) rfl
  have HD := Lib.hid hst.out.defs
  have HR := Lib.hid hst.out.row
  have HB := Lib.hid hst.out.below_
  obtain ⟨Ds, rfl, hDs1, hDs2⟩ := hst.out.defs
  have HDs := Lib.hid hDs2
  rw [HM.out] at hsb
  clear hDs2 hst HS4
  go_wp2_with fail
  refine leaves_marks Ds X hDs1 (fun D hD => (HDs.out D hD).2) fun Y hY => ⟨_, results_tmp rfl _ _ _, .slice (some ⟨G, 0, none⟩) (k + 1) c, rfl, ?_, ?_⟩
  · have hlen := (pricesTo_ok HS.out k (by rw [HM.out]; omega)).len
    rw [HM.out] at hlen
    unfold OInts
    rw [hlen]
    have hr := HR.out
    rw [HM.out] at hr
    refine ownsRow_keptBut hr hY fun g cs _ hB hg => ?_
    have := hB.symm.trans (HDs.out g hg).2
    simp at this
  · exact HB.out.trans (hY.below (fun k hk => (HDs.out k hk).1) HB.out.size)
end Go.Proofs.Ytpkepacbondopaa
