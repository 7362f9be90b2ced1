/-
  count, out, slices.ContainsFunc of spans.
-/
import Derived.Test.YtpkepacbondopaaLl
import Derived.Test.YtpkepacbondopaaGd
import Derived.Test.YtpkepacbondopaaOc
namespace Go.Proofs.Ytpkepacbondopaa
open Go.RowKit
attribute [local go_sem] Oper.semAt_some

theorem cntL_next {l : List Sp} {k : Nat} {x : Sp} (h : l[k]? = some x) : cntL (l.take (k + 1)) = cntL (l.take k) + (x.hi - x.lo + 1) := by rw [take_snoc_get h, cntL_snoc]
set_option maxHeartbeats 1000000 in
theorem count_any (l : List Sp) (v : Value) (w : World) (h : RSpans w.heap.size w v l) (hl : l.length ≤ 1000) (hb : ∀ s ∈ l, 0 ≤ s.lo ∧ s.lo ≤ s.hi ∧ s.hi < 1000000) :
    Calls Try.prog 24 #[v] w fun e w' => e = .returned (.int .i64 (cntL l)) ∧ Below w.heap.size w w' := by
  obtain ⟨A, c, rfl, -, hr⟩ := h.open_
  obtain ⟨n, hn⟩ : ∃ n, l.length = n := ⟨_, rfl⟩
  rw [hn] at hl ⊢
  have Hn := Lib.hid hn
  have HR := Lib.hid hr
  have HB := Lib.hid hb
  clear hn hr h hb
  go_enter Try.func24, Try.ntmps24
  go_wp2_with fail
  go_loopw [3, 8] (fun s i wr => ∃ k : Nat, k ≤ n ∧ i = .int .i64 k ∧ ∃ g : Int, s = .int .i64 g ∧ Hid (g = cntL (l.take k)) ∧ 0 ≤ g ∧ g ≤ 1000000 * k ∧ Hid (Below w.heap.size w wr)) (fun _ i _ => n - (intOf i).toNat)
  case atStart => exact ⟨0, Nat.zero_le _, rfl, 0, rfl, rfl, by omega, by omega, Below.refl _ _⟩
  case round =>
    obtain ⟨k, hk, rfl, g, rfl, hg, hg1, hg2, hB⟩ := hrel
    by_cases hlt : k < n
    · obtain ⟨x, hx⟩ : ∃ x, l[k]? = some x := ⟨_, List.getElem?_eq_getElem (by rw [Hn.out]; exact hlt)⟩
      obtain ⟨b, o, rfl, hb, c0, c1⟩ := HR.out k x hx
      rw [← hB.out.cell (p := ⟨b, o + k * 2, none⟩) hb] at c0
      rw [← hB.out.cell (p := ⟨b, o + k * 2 + 1, none⟩) hb] at c1
      obtain ⟨h1, h2, h3⟩ := HB.out x (List.mem_of_getElem? hx)
      have HN := Lib.hid (cntL_next hx)
      obtain ⟨x0, x1⟩ := x
      simp only at c0 c1 h1 h2 h3
      clear hx
      go_wp2_with fail
      have HB1 : Hid (Below w.heap.size w (wr.alloc (.cells #[.int .i64 x0, .int .i64 x1] 45))) := hB.out.trans ((below_alloc _ _).mono hB.out.size)
      clear hB c0 c1
      go_roundw
      case rel => exact ⟨k + 1, by omega, by go_num, _, rfl, by show _ = _; rw [HN.out, hg.out], by omega, by omega, HB1⟩
      case measure => simp [intOf]; omega
    · go_wp2_with fail
      go_ret
      exact ⟨ri (by rw [hg.out, List.take_of_length_le (by rw [Hn.out]; omega)]), hB.out⟩

/-- A closure that asks one thing of a span and only makes memory. -/
def Asks (f : FuncId) (cap : Value) (P : Sp → Bool) (w : World) : Prop := ∀ (x : Sp) (X : World), Below w.heap.size w X → Calls Try.prog f #[.agg #[.int .i64 x.lo, .int .i64 x.hi], cap] X fun e w' => e = .returned (.bool (P x)) ∧ Below X.heap.size X w'
/-- An index, or a number below 0. -/
def IdxRet (P : Sp → Bool) (l : List Sp) (w : World) (e : Ending) (w' : World) : Prop := ∃ i : Int, e = .returned (.int .i64 i) ∧ decide (0 ≤ i) = l.any P ∧ Below w.heap.size w w'
set_option maxRecDepth 100000 in
set_option maxHeartbeats 1000000 in
theorem indexSpan_any (f : FuncId) (cap : Value) (P : Sp → Bool) (l : List Sp) (v : Value) (w : World) (h : RSpans w.heap.size w v l) (hl : l.length ≤ 1000) (hf : Asks f cap P w) (he : Enters Try.prog f) :
    Calls Try.prog 80 #[v, .func (.func f) #[] #[cap]] w (IdxRet P l w) := by
  obtain ⟨A, c, rfl, -, hr⟩ := h.open_
  obtain ⟨n, hn⟩ : ∃ n, l.length = n := ⟨_, rfl⟩
  rw [hn] at hl ⊢
  have Hn := Lib.hid hn
  have HR := Lib.hid hr
  have HF := Lib.hid hf
  have hent : ∀ args W, (callFunc f args).run Try.prog W = .ok (.enter f args) W := he
  clear hn hr h hf he
  go_enter Try.func80, Try.ntmps80
  go_wp2_with fail
  go_loopw [8] (fun i wr => ∃ k : Nat, k ≤ n ∧ i = .int .i64 k ∧ Hid ((l.take k).any P = false) ∧ Hid (Below w.heap.size w wr)) (fun i _ => n - (intOf i).toNat)
  case atStart => exact ⟨0, Nat.zero_le _, rfl, rfl, Below.refl _ _⟩
  case round =>
    obtain ⟨k, hk, rfl, ht, hB⟩ := hrel
    by_cases hlt : k < n
    · obtain ⟨x, hx⟩ : ∃ x, l[k]? = some x := ⟨_, List.getElem?_eq_getElem (by rw [Hn.out]; exact hlt)⟩
      obtain ⟨b, o, rfl, hb, c0, c1⟩ := HR.out k x hx
      rw [← hB.out.cell (p := ⟨b, o + k * 2, none⟩) hb] at c0
      rw [← hB.out.cell (p := ⟨b, o + k * 2 + 1, none⟩) hb] at c1
      have HX := Lib.hid hx
      have CF := Lib.hid (HF.out x wr hB.out)
      obtain ⟨pb, hpb⟩ : ∃ b, P x = b := ⟨_, rfl⟩
      rw [hpb] at CF
      have HP := Lib.hid hpb
      clear hx hpb
      go_wp2_with fail
      refine CF.out.mono ?_
      rintro _ w5 ⟨rfl, hb5⟩
      have HB5 : Hid (Below w.heap.size w w5) := hB.out.trans (hb5.mono hB.out.size)
      clear hb5 CF hB c0 c1
      cases pb
      · go_wp2_with fail
        go_roundw
        case rel => exact ⟨k + 1, by omega, by go_num, any_next ht HX.out HP.out, HB5⟩
        case measure => simp [intOf]; omega
      · have HT : Hid (IdxRet P l w (.returned (.int .i64 (k : Int))) w5) := ⟨k, rfl, by
          rw [decide_eq_true (by omega)]
          exact (List.any_eq_true.2 ⟨x, List.mem_of_getElem? HX.out, HP.out⟩).symm, HB5.out⟩
        go_wp2_with fail
        go_ret
        exact HT.out
    · have HT : Hid (IdxRet P l w (.returned (.int .i64 (-1))) wr) := ⟨-1, rfl, by rw [any_end ht (by rw [Hn.out]; omega)]; rfl, hB.out⟩
      go_wp2_with fail
      go_ret
      exact HT.out
set_option maxHeartbeats 1000000 in
theorem containsSpan_any (f : FuncId) (cap : Value) (P : Sp → Bool) (l : List Sp) (v : Value) (w : World) (h : RSpans w.heap.size w v l) (hl : l.length ≤ 1000) (hf : Asks f cap P w) (he : Enters Try.prog f) :
    Calls Try.prog 26 #[v, .func (.func f) #[] #[cap]] w fun e w' => e = .returned (.bool (l.any P)) ∧ Below w.heap.size w w' := by
  have CI := Lib.hid (indexSpan_any f cap P l v w h hl hf he)
  clear hf h
  go_enter Try.func26, Try.ntmps26
  go_wp2_with fail
  refine CI.out.mono ?_
  rintro _ w1 ⟨i, rfl, hi, hb⟩
  have HI := Lib.hid hi
  have HB := Lib.hid hb
  clear hi hb
  go_wp2_with fail
  go_ret
  exact ⟨by rw [← HI.out]; rfl, HB.out⟩
set_option maxHeartbeats 1000000 in
theorem out1_any (k : Int) (C : Nat) (x : Sp) (X : World) (hc : X.cell? ⟨C, 0, none⟩ = some (.int .i64 k)) (hC : C < X.heap.size) :
    Calls Try.prog 78 #[.agg #[.int .i64 x.lo, .int .i64 x.hi], .pointer (some ⟨C, 0, none⟩)] X fun e w' => e = .returned (.bool (decide (x.lo ≤ k) && decide (k ≤ x.hi))) ∧ Below X.heap.size X w' := by
  obtain ⟨a, b⟩ := x
  have F : ∃ W, X.alloc (.cells #[.int .i64 a, .int .i64 b] 45) = W ∧ Below X.heap.size X W ∧ Blk W X.heap.size 45 #[.int .i64 a, .int .i64 b] := ⟨_, rfl, below_alloc _ _, Blk.new _ _ _⟩
  obtain ⟨W, e, hb, hk⟩ := F
  have E := Lib.hid e
  have HB := Lib.hid hb
  have k0 := cellOf hk 0 (x := .int .i64 a) rfl
  have k1 := cellOf hk 1 (x := .int .i64 b) rfl
  rw [← hb.cell (p := ⟨C, 0, none⟩) hC] at hc
  clear e hb hk
  simp only
  by_cases h1 : a ≤ k
  · have g1 : decide (a ≤ k) = true := by simp [h1]
    by_cases h2 : k ≤ b
    · have g2 : decide (k ≤ b) = true := by simp [h2]
      rw [g1, g2]
      go_enter Try.func78, Try.ntmps78
      go_upto_region 1 with fail
      rw [E.out]
      go_wp2_with fail
      go_ret
      exact ⟨rfl, HB.out⟩
    · have g2 : decide (k ≤ b) = false := by simp; omega
      rw [g1, g2]
      go_enter Try.func78, Try.ntmps78
      go_upto_region 1 with fail
      rw [E.out]
      go_wp2_with fail
      go_ret
      exact ⟨rfl, HB.out⟩
  · have g1 : decide (a ≤ k) = false := by simp; omega
    rw [g1, Bool.false_and]
    go_enter Try.func78, Try.ntmps78
    go_upto_region 1 with fail
    rw [E.out]
    go_wp2_with fail
    go_ret
    exact ⟨rfl, HB.out⟩
set_option maxHeartbeats 1000000 in
theorem out_any (l : List Sp) (k : Int) (v : Value) (w : World) (h : RSpans w.heap.size w v l) (hl : l.length ≤ 1000) :
    Calls Try.prog 22 #[v, .int .i64 k] w fun e w' => e = .returned (.bool (covB l k)) ∧ Below w.heap.size w w' := by
  have hmf : ∀ (fn : Fn) (first cap : Array Value) (w : World), (Instr.makeFunc fn first cap).run Try.prog w = .ok (.func fn first cap) w := fun _ _ _ _ => rfl
  have F : ∃ W, w.alloc (.cells #[.int .i64 k] 3) = W ∧ Below w.heap.size w W ∧ Blk W w.heap.size 3 #[.int .i64 k] := ⟨_, rfl, below_alloc _ _, Blk.new _ _ _⟩
  obtain ⟨W, e, hb, hk⟩ := F
  have E := Lib.hid e
  have HB := Lib.hid hb
  have HK := Lib.hid hk
  have CC := Lib.hid (containsSpan_any 78 (.pointer (some ⟨w.heap.size, 0, none⟩)) (fun s => decide (s.lo ≤ k) && decide (k ≤ s.hi)) l v W ((Rd.below h hb).more hb.size) hl
    (fun x X hX => out1_any k w.heap.size x X (cellOf (HK.out.below hX HK.out.lt) 0 rfl) (HK.out.below hX HK.out.lt).lt)
    (enters_of Try.func78 (by kernel_rfl) rfl))
  clear e hb hk h
  go_enter Try.func22, Try.ntmps22
  go_upto_region 1 with fail
  rw [E.out]
  go_wp2_with fail
  refine CC.out.mono ?_
  rintro _ w1 ⟨rfl, hb1⟩
  have HB1 : Hid (Below w.heap.size w w1) := HB.out.trans (hb1.mono HB.out.size)
  clear hb1 CC
  go_wp2_with fail
  go_ret
  exact ⟨rfl, HB1.out⟩
end Go.Proofs.Ytpkepacbondopaa
