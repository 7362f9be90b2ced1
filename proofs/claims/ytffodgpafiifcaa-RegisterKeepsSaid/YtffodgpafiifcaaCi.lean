/-
  Beat.
-/
import Derived.Test.YtffodgpafiifcaaCh
namespace Go.Proofs.Ytffodgpafiifcaa
open Go.RowKit

set_option maxRecDepth 100000 in
set_option maxHeartbeats 4000000 in
theorem Beat_ok (l : LoopD) (h : LoopOk l) (d : Nat) (hd : l.dead = d) (e : Int) (he : e ≤ 1000000 ∧ -1000000 ≤ e) (moves : List Int) (hm : moves.length = d + 1) (hmv : ∀ x ∈ moves, x ≤ 1000000 ∧ -1000000 ≤ x) (v : Value) (w : World) (hv : RInts w.heap.size w v moves) :
    Calls Try.prog 25 #[l.val, .int .i64 e, v] w fun en w' => ∃ u, en = .returned (.tuple #[u, .int .i64 0]) ∧ OInts w.heap.size w' u (List.replicate (d + 1) (beatD l (e + moves.sum))) ∧ Below w.heap.size w w' := by
  obtain ⟨w1, e1, B1, V1⟩ : ∃ w1, w.alloc (.cells l.cells 26) = w1 ∧ Below w.heap.size w w1 ∧ Blk w1 w.heap.size 26 l.cells := ⟨_, rfl, below_alloc _ _, Blk.new _ _ _⟩
  unfold LoopD.cells at e1 V1
  have E1 := Lib.hid e1
  have v0 := cellOf V1 0 (x := .int .i64 l.dead) rfl
  have v1 := cellOf V1 1 (x := .int .i64 l.noise) rfl
  have v2 := cellOf V1 2 (x := .int .i64 l.blur) rfl
  have v3 := cellOf V1 3 (x := .int .i64 l.step) rfl
  have C1 := Lib.hid (Check_any l w1)
  rw [checkE_ok h] at C1
  have CDr := Lib.hid (drift_any l h)
  unfold LoopD.val at C1 CDr ⊢
  have H := Lib.hid h
  have HD := Lib.hid hd
  have HM := Lib.hid hm
  have HMV := Lib.hid hmv
  have HV := Lib.hid hv
  have HE := Lib.hid he
  obtain ⟨A, c, rfl, -, hA⟩ := hv.open_
  have HA := Lib.hid hA
  rw [hm]
  have hd20 : d ≤ 20 := by have := h.2.1; omega
  clear e1 hd h hm hmv hv hA he
  go_enter Try.func25, Try.ntmps25
  go_upto_region 1 with fail
  rw [E1.out]
  go_wp2_with fail
  refine C1.out.mono ?_
  rintro en w2 ⟨rfl, hb2⟩
  have V2 := V1.below hb2 V1.lt
  have B2 := B1.trans (hb2.mono B1.size)
  rw [HD.out] at V2
  clear C1 v0 v1 v2 v3 V1 B1 hb2
  obtain ⟨w3, e3, hb3, V3⟩ : ∃ w3, w2.alloc (.cells #[.int .i64 e] 3) = w3 ∧ Below w2.heap.size w2 w3 ∧ Blk w3 w2.heap.size 3 #[.int .i64 e] := ⟨_, rfl, below_alloc _ _, Blk.new _ _ _⟩
  have E3 := Lib.hid e3
  have B3 := B2.trans (hb3.mono B2.size)
  have W3 := V2.below hb3 V2.lt
  have CA := Lib.hid (areWithin_any 1000000 _ [e] w3 ⟨by omega, by omega⟩ (rints_one V3) (fun x hx => by rw [List.mem_singleton] at hx; rw [hx]; have := HE.out; omega))
  rw [decide_eq_true (by rw [farD_one]; have := HE.out; omega)] at CA
  have CN := Lib.hid (areWithin_any 1000000 _ moves w3 ⟨by omega, by omega⟩ ((HV.out.below B3).more B3.size) (inI_all ⟨by omega, by omega⟩ HMV.out))
  rw [decide_eq_true (within_all (by omega) HMV.out), HM.out] at CN
  have v0 := cellOf V2 0 (x := .int .i64 d) rfl
  have HB3 := Lib.hid B3
  have HW3 := Lib.hid W3
  clear e3 V2 V3 W3 B2 B3 hb3
  go_upto_region 6 with fail
  go_wp2_with fail
  rw [E3.out]
  refine CA.out.mono ?_
  rintro en w' ⟨rfl, rfl⟩
  go_wp2_with fail
  refine CN.out.mono ?_
  rintro en w' ⟨rfl, rfl⟩
  clear CA CN v0
  go_wp2
  go_loop [1, 10, 34] (fun x _ i => ∃ k : Nat, k ≤ d + 1 ∧ i = .int .i64 k ∧ x = .int .i64 (e + (moves.take k).sum)) (fun _ _ i => d + 1 - (intOf i).toNat)
  case atStart => exact ⟨0, Nat.zero_le _, rfl, by simp⟩
  case round =>
    obtain ⟨k, hk, rfl, rfl⟩ := hrel
    have hs : ∀ k, k ≤ d + 1 → (moves.take k).sum ≤ 1000000 * k ∧ -(1000000 * k) ≤ (moves.take k).sum := by
      intro k
      induction k with
      | zero => intro _; simp
      | succ k ih =>
        intro hk
        have h1 := ih (by omega)
        have h2 : k < moves.length := by rw [HM.out]; omega
        have h3 := HMV.out moves[k] (List.getElem_mem h2)
        rw [List.take_succ_eq_append_getElem h2, sum_snoc]
        omega
    have hb := hs k hk
    have he := HE.out
    by_cases hlt : k < d + 1
    · have h2 : k < moves.length := by rw [HM.out]; exact hlt
      obtain ⟨g, o, y, rfl, hg, cy, hy⟩ := HA.out k h2
      have hy2 : moves[k] = y := by have := hy.out; rwa [List.getD_eq_getElem?_getD, List.getElem?_eq_getElem h2] at this
      have cy3 := (HB3.out.cell (p := ⟨g, o + k, none⟩) hg).trans cy
      have hN : Hid ((moves.take (k + 1)).sum = (moves.take k).sum + y) := by show _ = _; rw [List.take_succ_eq_append_getElem h2, sum_snoc, hy2]
      have h3 := HMV.out moves[k] (List.getElem_mem h2)
      rw [hy2] at h3
      generalize (moves.take k).sum = z at *
      clear hs cy hy hy2 h2
      go_wp2
      refine ⟨⟨k + 1, by omega, by go_num, ?_⟩, by simp [intOf]; omega⟩
      rw [hN.out, Int.add_assoc]
    · have hk' : k = d + 1 := by omega
      subst hk'
      have hT : moves.take (d + 1) = moves := List.take_of_length_le (by rw [HM.out]; omega)
      rw [hT] at hb ⊢
      clear hT hs
      obtain ⟨x, hx⟩ : ∃ x, e + moves.sum = x := ⟨_, rfl⟩
      have Hx := Lib.hid hx
      have hxb : x ≤ 30000000 ∧ -30000000 ≤ x := by omega
      rw [hx]
      clear hx hb he hlt hk
      have n1 := H.out.2.2.1
      have n2 := H.out.2.2.2.1
      by_cases hx1 : x < 0
      · have y1 : 0 ≤ (l.dead + 1) * l.noise := Int.mul_nonneg (by have := H.out.1; omega) n1
        have y2 : (l.dead + 1) * l.noise ≤ 21 * 1000 := Int.mul_le_mul (by have := H.out.2.1; omega) n2 n1 (by omega)
        have v0 := cellOf HW3.out 0 (x := .int .i64 d) rfl
        have v1 := cellOf HW3.out 1 (x := .int .i64 l.noise) rfl
        have v2 := cellOf HW3.out 2 (x := .int .i64 l.blur) rfl
        have v3 := cellOf HW3.out 3 (x := .int .i64 l.step) rfl
        have CDr2 := Lib.hid (CDr.out w3)
        rw [HD.out] at CDr2
        go_wp2_with fail
        refine CDr2.out.mono ?_
        rintro en w4 ⟨rfl, hb4⟩
        have HB4 := Lib.hid (HB3.out.trans (hb4.mono HB3.out.size))
        have HW4 := Lib.hid (HW3.out.below hb4 HW3.out.lt)
        clear v0 v1 v2 v3 hb4
        obtain ⟨y, hy⟩ : ∃ y, (l.dead + 1) * l.noise = y := ⟨_, rfl⟩
        have Hy := Lib.hid hy
        rw [hy] at y1 y2
        rw [HD.out] at hy
        rw [hy]
        clear hy
        have v1 := cellOf HW4.out 1 (x := .int .i64 l.noise) rfl
        by_cases hx2 : -2 * y < x
        · have HBe : Hid (beatD l (e + moves.sum) = -l.noise) := by show beatD l (e + moves.sum) = _; rw [Hx.out]; unfold beatD; rw [if_pos ⟨hx1, by rw [Hy.out]; exact hx2⟩]
          obtain ⟨w5, e5, hb5, V5⟩ : ∃ w5, w4.alloc (.cells #[.int .i64 (-l.noise)] 3) = w5 ∧ Below w4.heap.size w4 w5 ∧ Blk w5 w4.heap.size 3 #[.int .i64 (-l.noise)] := ⟨_, rfl, below_alloc _ _, Blk.new _ _ _⟩
          have E5 := Lib.hid e5
          have HB5 := Lib.hid (HB4.out.trans (hb5.mono HB4.out.size))
          have hl4 := HW4.out.lt
          have v0' := cellOf HW4.out 0 (x := .int .i64 d) rfl
          have CR := Repeat_any (-l.noise) (d + 1) (by omega) (by omega) _ w5 (rints_one V5)
          rw [show ((d + 1 : Nat) : Int) = (d : Int) + 1 by omega] at CR
          have CR := Lib.hid CR
          clear e5 hb5 V5
          go_wp2_with fail
          rw [E5.out]
          refine CR.out.mono ?_
          rintro en w6 ⟨u, rfl, hu, hb6⟩
          have HR : Hid (OInts w.heap.size w6 u (List.replicate (d + 1) (beatD l (e + moves.sum))) ∧ Below w.heap.size w w6) := ⟨by rw [HBe.out]; exact ownsRow_base hu HB5.out.size, HB5.out.trans (hb6.mono HB5.out.size)⟩
          clear hu hb6 v0'
          go_wp2
          go_ret2
          exact ⟨_, rfl, HR.out⟩
        · have HBe : Hid (beatD l (e + moves.sum) = l.noise) := by show beatD l (e + moves.sum) = _; rw [Hx.out]; unfold beatD; rw [if_neg (fun hh => hx2 (by have := hh.2; rwa [Hy.out] at this))]
          obtain ⟨w5, e5, hb5, V5⟩ : ∃ w5, w4.alloc (.cells #[.int .i64 (l.noise)] 3) = w5 ∧ Below w4.heap.size w4 w5 ∧ Blk w5 w4.heap.size 3 #[.int .i64 (l.noise)] := ⟨_, rfl, below_alloc _ _, Blk.new _ _ _⟩
          have E5 := Lib.hid e5
          have HB5 := Lib.hid (HB4.out.trans (hb5.mono HB4.out.size))
          have hl4 := HW4.out.lt
          have v0' := cellOf HW4.out 0 (x := .int .i64 d) rfl
          have CR := Repeat_any (l.noise) (d + 1) (by omega) (by omega) _ w5 (rints_one V5)
          rw [show ((d + 1 : Nat) : Int) = (d : Int) + 1 by omega] at CR
          have CR := Lib.hid CR
          clear e5 hb5 V5
          go_wp2_with fail
          rw [E5.out]
          refine CR.out.mono ?_
          rintro en w6 ⟨u, rfl, hu, hb6⟩
          have HR : Hid (OInts w.heap.size w6 u (List.replicate (d + 1) (beatD l (e + moves.sum))) ∧ Below w.heap.size w w6) := ⟨by rw [HBe.out]; exact ownsRow_base hu HB5.out.size, HB5.out.trans (hb6.mono HB5.out.size)⟩
          clear hu hb6 v0'
          go_wp2
          go_ret2
          exact ⟨_, rfl, HR.out⟩
      · obtain ⟨w4, rfl⟩ : ∃ w4, w4 = w3 := ⟨_, rfl⟩
        have HB4 := HB3
        have HW4 := HW3
        have v1 := cellOf HW4.out 1 (x := .int .i64 l.noise) rfl
        have HBe : Hid (beatD l (e + moves.sum) = l.noise) := by show beatD l (e + moves.sum) = _; rw [Hx.out]; unfold beatD; rw [if_neg (fun hh => hx1 hh.1)]
        obtain ⟨w5, e5, hb5, V5⟩ : ∃ w5, w4.alloc (.cells #[.int .i64 (l.noise)] 3) = w5 ∧ Below w4.heap.size w4 w5 ∧ Blk w5 w4.heap.size 3 #[.int .i64 (l.noise)] := ⟨_, rfl, below_alloc _ _, Blk.new _ _ _⟩
        have E5 := Lib.hid e5
        have HB5 := Lib.hid (HB4.out.trans (hb5.mono HB4.out.size))
        have hl4 := HW4.out.lt
        have v0' := cellOf HW4.out 0 (x := .int .i64 d) rfl
        have CR := Repeat_any (l.noise) (d + 1) (by omega) (by omega) _ w5 (rints_one V5)
        rw [show ((d + 1 : Nat) : Int) = (d : Int) + 1 by omega] at CR
        have CR := Lib.hid CR
        clear e5 hb5 V5
        go_wp2_with fail
        rw [E5.out]
        refine CR.out.mono ?_
        rintro en w6 ⟨u, rfl, hu, hb6⟩
        have HR : Hid (OInts w.heap.size w6 u (List.replicate (d + 1) (beatD l (e + moves.sum))) ∧ Below w.heap.size w w6) := ⟨by rw [HBe.out]; exact ownsRow_base hu HB5.out.size, HB5.out.trans (hb6.mono HB5.out.size)⟩
        clear hu hb6 v0'
        go_wp2
        go_ret2
        exact ⟨_, rfl, HR.out⟩
end Go.Proofs.Ytffodgpafiifcaa
