/-
  The reference's Check, beyond, Bound, Worst; Worst of any loop.
-/
import Derived.Test.YtffodgpafiifcaaEc
import Derived.Test.YtffodgpafiifcaaIb
namespace Go.Proofs.Ytffodgpafiifcaa
open Go.RowKit

set_option maxRecDepth 100000 in
set_option maxHeartbeats 4000000 in
theorem refCheck_any (l : LoopD) (w : World) : Calls Try.prog 15 #[l.val] w fun e w' => e = .returned (.int .i64 (checkE l)) ∧ Below w.heap.size w w' := by
  by_cases hok : LoopOk l
  · rw [checkE_ok hok]
    obtain ⟨d, n, b, s⟩ := l
    obtain ⟨h1, h2, h3, h4, h5, h6, h7, h8, h9⟩ := hok
    dsimp only at h1 h2 h3 h4 h5 h6 h7 h8 h9
    unfold LoopD.val
    have kw1 : IntKind.i64.wrap (n + b) = n + b := IntWalk.i64_in _ ⟨by omega, by omega⟩
    have kw2 : IntKind.i64.wrap (n + b + b) = n + b + b := IntWalk.i64_in _ ⟨by omega, by omega⟩
    have i1 : ¬ d < 0 := by omega
    have i2 : ¬ 20 < d := by omega
    have i3 : ¬ n < 0 := by omega
    have i4 : ¬ 1000 < n := by omega
    have i5 : ¬ b < 0 := by omega
    have i6 : ¬ 1000 < b := by omega
    have i7 : ¬ s < 1 := by omega
    have i8 : ¬ 10000 < s := by omega
    have i9 : ¬ s < n + b + b := by omega
    clear h1 h2 h3 h4 h5 h6 h7 h8 h9
    go_enter Try.func15, Try.ntmps15
    go_wp2
    go_ret
    exact ⟨rfl, below_alloc _ _⟩
  · rw [checkE_no hok]
    have hcase : l.dead < 0 ∨ (¬ l.dead < 0 ∧ 20 < l.dead) ∨ (¬ l.dead < 0 ∧ ¬ 20 < l.dead ∧ l.noise < 0) ∨ (¬ l.dead < 0 ∧ ¬ 20 < l.dead ∧ ¬ l.noise < 0 ∧ 1000 < l.noise) ∨
        (¬ l.dead < 0 ∧ ¬ 20 < l.dead ∧ ¬ l.noise < 0 ∧ ¬ 1000 < l.noise ∧ l.blur < 0) ∨ (¬ l.dead < 0 ∧ ¬ 20 < l.dead ∧ ¬ l.noise < 0 ∧ ¬ 1000 < l.noise ∧ ¬ l.blur < 0 ∧ 1000 < l.blur) ∨
        (¬ l.dead < 0 ∧ ¬ 20 < l.dead ∧ ¬ l.noise < 0 ∧ ¬ 1000 < l.noise ∧ ¬ l.blur < 0 ∧ ¬ 1000 < l.blur ∧ l.step < 1) ∨ (¬ l.dead < 0 ∧ ¬ 20 < l.dead ∧ ¬ l.noise < 0 ∧ ¬ 1000 < l.noise ∧ ¬ l.blur < 0 ∧ ¬ 1000 < l.blur ∧ ¬ l.step < 1 ∧ 10000 < l.step) ∨
        (¬ l.dead < 0 ∧ ¬ 20 < l.dead ∧ ¬ l.noise < 0 ∧ ¬ 1000 < l.noise ∧ ¬ l.blur < 0 ∧ ¬ 1000 < l.blur ∧ ¬ l.step < 1 ∧ ¬ 10000 < l.step ∧ l.step < l.noise + l.blur + l.blur) := by
      unfold LoopOk at hok
      omega
    obtain ⟨d, n, b, s⟩ := l
    dsimp only at hcase
    unfold LoopD.val
    clear hok
    go_enter Try.func15, Try.ntmps15
    rcases hcase with h | ⟨h1, h⟩ | ⟨h1, h2, h⟩ | ⟨h1, h2, h3, h⟩ | ⟨h1, h2, h3, h4, h⟩ | ⟨h1, h2, h3, h4, h5, h⟩ | ⟨h1, h2, h3, h4, h5, h6, h⟩ | ⟨h1, h2, h3, h4, h5, h6, h7, h⟩ | ⟨h1, h2, h3, h4, h5, h6, h7, h8, h⟩
    case inr.inr.inr.inr.inr.inr.inr.inr =>
      have kw1 : IntKind.i64.wrap (n + b) = n + b := IntWalk.i64_in _ ⟨by omega, by omega⟩
      have kw2 : IntKind.i64.wrap (n + b + b) = n + b + b := IntWalk.i64_in _ ⟨by omega, by omega⟩
      go_wp2
      go_ret
      exact ⟨rfl, below_alloc _ _⟩
    all_goals
      go_wp2
      go_ret
      exact ⟨rfl, below_alloc _ _⟩

set_option maxHeartbeats 1000000 in
theorem beyond_in (x m : Int) (hm : 0 ≤ m ∧ m ≤ 1000000) (h : x ≤ m ∧ -m ≤ x) (w : World) : Calls Try.prog 44 #[.int .i64 x, .int .i64 m] w fun e w' => e = .returned (.bool false) ∧ w = w' := by
  obtain ⟨hm1, hm2⟩ := hm
  have kw : IntKind.i64.wrap (-m) = -m := IntWalk.i64_in _ ⟨by omega, by omega⟩
  have h1 : ¬ m < x := by omega
  have h2 : ¬ x < -m := by omega
  clear h
  go_enter Try.func44, Try.ntmps44
  go_wp2
  go_ret
  exact ⟨rfl, rfl⟩
set_option maxHeartbeats 1000000 in
theorem beyond_out (x m : Int) (hm : 0 ≤ m ∧ m ≤ 1000000) (h : ¬ (x ≤ m ∧ -m ≤ x)) (w : World) : Calls Try.prog 44 #[.int .i64 x, .int .i64 m] w fun e w' => e = .returned (.bool true) ∧ w = w' := by
  obtain ⟨hm1, hm2⟩ := hm
  have kw : IntKind.i64.wrap (-m) = -m := IntWalk.i64_in _ ⟨by omega, by omega⟩
  rcases (show m < x ∨ (¬ m < x ∧ x < -m) by omega) with h1 | ⟨h1, h2⟩
  all_goals
    clear h
    go_enter Try.func44, Try.ntmps44
    go_wp2
    go_ret
    exact ⟨rfl, rfl⟩

set_option maxRecDepth 100000 in
set_option maxHeartbeats 4000000 in
theorem refBound_any (l : LoopD) (w : World) : Calls Try.prog 13 #[l.val] w fun e w' => e = .returned (boundRet l) ∧ Below w.heap.size w w' := by
  obtain ⟨w1, e1, B1, V1⟩ : ∃ w1, w.alloc (.cells l.cells 23) = w1 ∧ Below w.heap.size w w1 ∧ Blk w1 w.heap.size 23 l.cells := ⟨_, rfl, below_alloc _ _, Blk.new _ _ _⟩
  unfold LoopD.cells at e1 V1
  have E1 := Lib.hid e1
  have HB1 := Lib.hid B1
  have HV1 := Lib.hid V1
  have C1 := refCheck_any l w1
  unfold LoopD.val at C1 ⊢
  have v0 := cellOf V1 0 (x := .int .i64 l.dead) rfl
  have v1 := cellOf V1 1 (x := .int .i64 l.noise) rfl
  have v2 := cellOf V1 2 (x := .int .i64 l.blur) rfl
  have v3 := cellOf V1 3 (x := .int .i64 l.step) rfl
  by_cases hok : LoopOk l
  · have HR : Hid (boundRet l = .tuple #[.int .i64 ((l.dead + 1) * l.noise + l.blur), .int .i64 0]) := by
      unfold boundRet; rw [if_pos ((loopB_iff l).2 hok), checkE_ok hok]; rfl
    rw [checkE_ok hok] at C1
    have C1 := Lib.hid C1
    have Hok := Lib.hid hok
    obtain ⟨d, hd⟩ : ∃ d : Nat, l.dead = d := ⟨l.dead.toNat, by have := hok.1; omega⟩
    have hd20 : d ≤ 20 := by have := hok.2.1; omega
    have hn1 := hok.2.2.1
    have hn2 := hok.2.2.2.1
    have hb1 := hok.2.2.2.2.1
    have hb2 := hok.2.2.2.2.2.1
    obtain ⟨dd, n, b, s⟩ := l
    dsimp only at hd hd20 hn1 hn2 hb1 hb2 HR v0 v1 v2 v3 C1 HV1 E1 ⊢
    subst hd
    clear hok e1 V1 B1
    go_enter Try.func13, Try.ntmps13
    go_upto_region 1 with fail
    rw [E1.out]
    go_wp2_with fail
    refine C1.out.mono ?_
    rintro e w2 ⟨rfl, hb2'⟩
    have HV2 := Lib.hid (HV1.out.below hb2' HV1.out.lt)
    have HB2 := Lib.hid (HB1.out.trans (hb2'.mono HB1.out.size))
    clear v0 v1 v2 v3 C1 hb2'
    have v0 := cellOf HV2.out 0 (x := .int .i64 d) rfl
    have v1 := cellOf HV2.out 1 (x := .int .i64 n) rfl
    have v2 := cellOf HV2.out 2 (x := .int .i64 b) rfl
    go_wp2
    go_loop [5, 6] (fun x i => ∃ k : Nat, k ≤ d + 1 ∧ i = .int .i64 k ∧ x = .int .i64 (b + k * n)) (fun _ i => d + 1 - (intOf i).toNat)
    case atStart => exact ⟨0, Nat.zero_le _, rfl, by simp⟩
    case round =>
      obtain ⟨k, hk, rfl, rfl⟩ := hrel
      have hk1 : 0 ≤ (k : Int) * n := Int.mul_nonneg (by omega) hn1
      have hk2 : (k : Int) * n ≤ 21000 := by
        have := Int.mul_le_mul (show (k : Int) ≤ 21 by omega) hn2 hn1 (by omega)
        omega
      by_cases hlt : k ≤ d
      · have HN : Hid (b + ((k + 1 : Nat) : Int) * n = b + k * n + n) := by
          show _ = _
          rw [Int.natCast_add, Int.add_mul]; omega
        obtain ⟨S, hS⟩ : ∃ S, b + (k : Int) * n = S := ⟨_, rfl⟩
        have hSb : S ≤ 100000 ∧ -100000 ≤ S := by omega
        have HSe := Lib.hid hS
        rw [hS]
        have kw : IntKind.i64.wrap (S + n) = S + n := IntWalk.i64_in _ ⟨by omega, by omega⟩
        have ik : (k : Int) ≤ (d : Int) := by omega
        clear hS hk1 hk2
        go_wp2
        exact ⟨⟨k + 1, by omega, by go_num, by rw [HN.out, HSe.out]⟩, by simp [intOf]; omega⟩
      · obtain rfl : k = d + 1 := by omega
        have HR2 : Hid (boundRet ⟨d, n, b, s⟩ = .tuple #[.int .i64 (b + ((d + 1 : Nat) : Int) * n), .int .i64 0]) := by
          show _ = _
          rw [HR.out, Int.natCast_add, Int.natCast_one]
          congr 4
          omega
        clear hk1 hk2
        go_wp2
        refine bodyPost_ret (v := .tuple #[.int .i64 (b + ((d + 1 : Nat) : Int) * n), .int .i64 0]) (by simp [results, Try.results13, go_sem]) rfl ⟨by rw [HR2.out], HB2.out⟩
  · have HR : Hid (boundRet l = .tuple #[.int .i64 0, .int .i64 60]) := by
      unfold boundRet; rw [if_neg (fun h => hok ((loopB_iff l).1 h)), checkE_no hok]; rfl
    rw [checkE_no hok] at C1
    have C1 := Lib.hid C1
    clear hok e1 V1 B1
    go_enter Try.func13, Try.ntmps13
    go_upto_region 1 with fail
    rw [E1.out]
    go_wp2_with fail
    refine C1.out.mono ?_
    rintro e w2 ⟨rfl, hb2'⟩
    have HB2 := Lib.hid (HB1.out.trans (hb2'.mono HB1.out.size))
    clear v0 v1 v2 v3 C1 hb2'
    go_wp2
    refine bodyPost_ret (v := .tuple #[.int .i64 0, .int .i64 60]) (by simp [results, Try.results13, go_sem]) rfl ⟨by rw [HR.out], HB2.out⟩
end Go.Proofs.Ytffodgpafiifcaa
