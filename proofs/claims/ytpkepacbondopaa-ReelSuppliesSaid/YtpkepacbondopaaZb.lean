/-
  arePrices, isSchedule.
-/
import Derived.Test.YtpkepacbondopaaVa
import Derived.Test.YtpkepacbondopaaLg
import Derived.Test.YtpkepacbondopaaMd
namespace Go.Proofs.Ytpkepacbondopaa
open Go.RowKit
attribute [local go_sem] Oper.semAt_some

def wideB (x : Int) : Bool := !withinB x (-1000000000000) 1000000000000
theorem price1_any (x : Int) (w : World) : Calls Try.prog 131 #[.int .i64 x] w fun e w' => e = .returned (.bool (wideB x)) ∧ w = w' := by
  obtain ⟨b, hb⟩ : ∃ b, withinB x (-1000000000000) 1000000000000 = b := ⟨_, rfl⟩
  have HW : Hid (wideB x = !b) := by show _ = _; unfold wideB; rw [hb]
  have C := Lib.hid (within_let hb)
  clear hb
  go_enter Try.func131, Try.ntmps131
  go_wp2_with fail
  refine (C.out _).mono ?_
  rintro _ _ ⟨rfl, rfl⟩
  go_wp2_with fail
  go_ret
  exact ⟨by rw [HW.out]; rfl, rfl⟩
/-- An index, or a number below 0. -/
def IdxInt (P : Int → Bool) (l : List Int) (w : World) (e : Ending) (w' : World) : Prop := ∃ i : Int, e = .returned (.int .i64 i) ∧ decide (0 ≤ i) = l.any P ∧ w = w'
set_option maxRecDepth 100000 in
set_option maxHeartbeats 1000000 in
theorem indexPrice_any (l : List Int) (v : Value) (w : World) (h : RInts w.heap.size w v l) (hl : l.length ≤ 1000) :
    Calls Try.prog 154 #[v, .func (.func 131) #[] #[]] w (IdxInt wideB l w) := by
  obtain ⟨A, c, rfl, -, hr⟩ := h.open_
  obtain ⟨n, hn⟩ : ∃ n, l.length = n := ⟨_, rfl⟩
  rw [hn] at hl hr ⊢
  have Hn := Lib.hid hn
  have HR := Lib.hid hr
  clear hn hr h
  go_enter Try.func154, Try.ntmps154
  go_wp2_with fail
  go_loopw [8] (fun i wr => ∃ k : Nat, k ≤ n ∧ i = .int .i64 k ∧ Hid ((l.take k).any wideB = false) ∧ Hid (w = wr)) (fun i _ => n - (intOf i).toNat)
  case atStart => exact ⟨0, Nat.zero_le _, rfl, rfl, rfl⟩
  case round =>
    obtain ⟨k, hk, rfl, ht, hB⟩ := hrel
    by_cases hlt : k < n
    · obtain ⟨b, o, x, rfl, hb, c0, hx⟩ := HR.out k hlt
      rw [hB.out] at c0
      have HX : Hid (l[k]? = some x) := by
        have h9 := hx.out
        rw [List.getD_eq_getElem?_getD, List.getElem?_eq_getElem (by rw [Hn.out]; exact hlt), Option.getD_some] at h9
        show l[k]? = some x
        rw [List.getElem?_eq_getElem (by rw [Hn.out]; exact hlt), h9]
      obtain ⟨pb, hpb⟩ : ∃ b, wideB x = b := ⟨_, rfl⟩
      have CF := Lib.hid (price1_any x wr)
      rw [hpb] at CF
      have HP := Lib.hid hpb
      clear hx hpb hb
      go_wp2_with fail
      refine CF.out.mono ?_
      rintro _ w5 ⟨rfl, hb5⟩
      have HB5 : Hid (w = w5) := hB.out.trans hb5
      clear hb5 CF hB c0
      cases pb
      · go_wp2_with fail
        go_roundw
        case rel => exact ⟨k + 1, by omega, by go_num, any_next ht HX.out HP.out, HB5⟩
        case measure => simp [intOf]; omega
      · have HT : Hid (IdxInt wideB l w (.returned (.int .i64 (k : Int))) w5) := ⟨k, rfl, by
          rw [decide_eq_true (by omega)]
          exact (List.any_eq_true.2 ⟨x, List.mem_of_getElem? HX.out, HP.out⟩).symm, HB5.out⟩
        go_wp2_with fail
        go_ret
        exact HT.out
    · have HT : Hid (IdxInt wideB l w (.returned (.int .i64 (-1))) wr) := ⟨-1, rfl, by rw [any_end ht (by rw [Hn.out]; omega)]; rfl, hB.out⟩
      go_wp2_with fail
      go_ret
      exact HT.out
theorem containsPrice_any (l : List Int) (v : Value) (w : World) (h : RInts w.heap.size w v l) (hl : l.length ≤ 1000) :
    Calls Try.prog 129 #[v, .func (.func 131) #[] #[]] w fun e w' => e = .returned (.bool (l.any wideB)) ∧ w = w' := by
  have CI := Lib.hid (indexPrice_any l v w h hl)
  clear h
  go_enter Try.func129, Try.ntmps129
  go_wp2_with fail
  refine CI.out.mono ?_
  rintro _ w1 ⟨i, rfl, hi, hb⟩
  have HI := Lib.hid hi
  have HB := Lib.hid hb
  clear hi hb
  go_wp2_with fail
  go_ret
  exact ⟨by rw [← HI.out]; rfl, HB.out⟩
/-- Numbers that are prices of so many weeks. -/
def pricesB (m : Nat) (p : List Int) : Bool := decide (p.length = m + 1) && decide (p.getD 0 0 = 0) && !p.any wideB
set_option maxHeartbeats 1000000 in
theorem arePrices_any (s : SupD) (p : List Int) (v u : Value) (w : World) (h : RSup w.heap.size w v s) (hm : s.need.length ≤ 20) (hu : RInts w.heap.size w u p) (hl : p.length ≤ 1000) :
    Calls Try.prog 86 #[v, u] w fun e w' => e = .returned (.bool (pricesB s.need.length p)) ∧ Below w.heap.size w w' := by
  obtain ⟨vn, vo, rfl, hN, hO⟩ := h
  obtain ⟨An, cn, rfl, hnm, -⟩ := hN.open_
  obtain ⟨m, hm9⟩ : ∃ m, s.need.length = m := ⟨_, rfl⟩
  rw [hm9] at hm ⊢
  have F0 : ∃ W0, w.alloc (.cells #[.slice An m cn, vo, .int .i64 s.keep, .int .i64 s.room] 33) = W0 ∧ Below w.heap.size w W0 ∧ Blk W0 w.heap.size 33 #[.slice An m cn, vo, .int .i64 s.keep, .int .i64 s.room] := ⟨_, rfl, below_alloc _ _, Blk.new _ _ _⟩
  obtain ⟨W0, e0, hb0, B0⟩ := F0
  have HU : Hid (RInts W0.heap.size W0 u p) := (hu.below hb0).more hb0.size
  obtain ⟨Au, cu, rfl, -, hr⟩ := HU.out.open_
  obtain ⟨n, hn⟩ : ∃ n, p.length = n := ⟨_, rfl⟩
  have CC := Lib.hid (containsPrice_any p _ W0 HU.out hl)
  rw [hn] at hr CC hl ⊢
  have HE : Hid (pricesB m p = (decide (n = m + 1) && decide (p.getD 0 0 = 0) && !p.any wideB)) := by show _ = _; unfold pricesB; rw [hn]
  have E0 := Lib.hid e0
  have HB0 := Lib.hid hb0
  have s0 := cellOf B0 0 (x := .slice An m cn) rfl
  have kw : IntKind.i64.wrap ((m : Int) + 1) = (m : Int) + 1 := IntWalk.i64_in _ ⟨by omega, by omega⟩
  clear hN hO hnm hm9 e0 hb0 B0 hu hn HU
  by_cases h1 : n = m + 1
  case neg =>
    have g1 : ((n : Int) != (m : Int) + 1) = true := by simp; omega
    have HF : Hid (pricesB m p = false) := by show _ = _; rw [HE.out]; simp [h1]
    clear h1 hr CC
    go_enter Try.func86, Try.ntmps86
    go_upto_region 1 with fail
    rw [E0.out]
    go_wp2_with fail
    go_ret
    exact ⟨by rw [HF.out]; rfl, HB0.out⟩
  have g1 : ((n : Int) != (m : Int) + 1) = false := by simp; omega
  obtain ⟨b, o, x, rfl, hb, c0, hx⟩ := hr 0 (by omega)
  rw [Nat.add_zero] at c0
  have gn : 0 < n := by omega
  by_cases h2 : x = 0
  case neg =>
    have g2 : (x != 0) = true := by simpa using h2
    have HF : Hid (pricesB m p = false) := by show _ = _; rw [HE.out, hx.out]; simp [h2]
    clear h1 hr CC h2 hx hb
    go_enter Try.func86, Try.ntmps86
    go_upto_region 1 with fail
    rw [E0.out]
    go_wp2_with fail
    go_ret
    exact ⟨by rw [HF.out]; rfl, HB0.out⟩
  subst h2
  obtain ⟨pb, hpb⟩ : ∃ q, p.any wideB = q := ⟨_, rfl⟩
  have HF : Hid (pricesB m p = !pb) := by show _ = _; rw [HE.out, hx.out, hpb]; simp [h1]
  rw [hpb] at CC
  clear h1 hr hx hb hpb
  go_enter Try.func86, Try.ntmps86
  go_upto_region 1 with fail
  rw [E0.out]
  go_wp2_with fail
  refine CC.out.mono ?_
  rintro _ W1 ⟨rfl, rfl⟩
  go_wp2_with fail
  go_ret
  exact ⟨by rw [HF.out]; rfl, HB0.out⟩
end Go.Proofs.Ytpkepacbondopaa
