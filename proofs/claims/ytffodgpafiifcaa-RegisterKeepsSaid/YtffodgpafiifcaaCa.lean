/-
  Numbers within limits; Check; drift; Bound; Settle.
-/
import Derived.Test.YtffodgpafiifcaaGb
import Derived.Test.YtffodgpafiifcaaMa
namespace Go.Proofs.Ytffodgpafiifcaa
open Go.RowKit

def LoopD.val (l : LoopD) : Value := .agg #[.int .i64 l.dead, .int .i64 l.noise, .int .i64 l.blur, .int .i64 l.step]

set_option maxHeartbeats 400000 in
theorem within_yes (n lo hi : Int) (h : lo ≤ n ∧ n ≤ hi) (w : World) : Calls Try.prog 42 #[.int .i64 n, .int .i64 lo, .int .i64 hi] w fun e w' => e = .returned (.bool true) ∧ w = w' := by
  obtain ⟨h1, h2⟩ := h
  go_enter Try.func42, Try.ntmps42
  go_wp2
  go_ret
  exact ⟨rfl, rfl⟩
set_option maxHeartbeats 400000 in
theorem within_no (n lo hi : Int) (h : ¬ (lo ≤ n ∧ n ≤ hi)) (w : World) : Calls Try.prog 42 #[.int .i64 n, .int .i64 lo, .int .i64 hi] w fun e w' => e = .returned (.bool false) ∧ w = w' := by
  by_cases h1 : lo ≤ n
  · have h2 : ¬ n ≤ hi := fun h2 => h ⟨h1, h2⟩
    clear h
    go_enter Try.func42, Try.ntmps42
    go_wp2
    go_ret
    exact ⟨rfl, rfl⟩
  · clear h
    go_enter Try.func42, Try.ntmps42
    go_wp2
    go_ret
    exact ⟨rfl, rfl⟩

def checkE (l : LoopD) : Int := if loopB l then 0 else 60
theorem checkE_ok {l : LoopD} (h : LoopOk l) : checkE l = 0 := by unfold checkE; rw [if_pos ((loopB_iff l).2 h)]
theorem checkE_no {l : LoopD} (h : ¬ LoopOk l) : checkE l = 60 := by unfold checkE; rw [if_neg (fun k => h ((loopB_iff l).1 k))]

set_option maxHeartbeats 1000000 in
theorem check1 (d n b s : Int) (w : World) (h1 : ¬ (0 ≤ d ∧ d ≤ 20)) : Calls Try.prog 14 #[(⟨d, n, b, s⟩ : LoopD).val] w fun e w' => e = .returned (.int .i64 (checkE ⟨d, n, b, s⟩)) ∧ Below w.heap.size w w' := by
  unfold LoopD.val
  have HE : Hid (checkE ⟨d, n, b, s⟩ = 60) := checkE_no (by unfold LoopOk; simp only; omega)
  have C1 := Lib.hid (within_no _ _ _ h1)
  clear h1
  go_enter Try.func14, Try.ntmps14
  go_wp2_with fail
  refine (C1.out _).mono ?_; rintro e w' ⟨rfl, rfl⟩
  go_wp2
  go_ret
  exact ⟨ri HE.out, (Below.refl _ _).alloc (Nat.le_refl _) _⟩
set_option maxHeartbeats 1000000 in
theorem check2 (d n b s : Int) (w : World) (h1 : 0 ≤ d ∧ d ≤ 20) (h2 : ¬ (0 ≤ n ∧ n ≤ 1000)) : Calls Try.prog 14 #[(⟨d, n, b, s⟩ : LoopD).val] w fun e w' => e = .returned (.int .i64 (checkE ⟨d, n, b, s⟩)) ∧ Below w.heap.size w w' := by
  unfold LoopD.val
  have HE : Hid (checkE ⟨d, n, b, s⟩ = 60) := checkE_no (by unfold LoopOk; simp only; omega)
  have C1 := Lib.hid (within_yes _ _ _ h1)
  have C2 := Lib.hid (within_no _ _ _ h2)
  clear h1 h2
  go_enter Try.func14, Try.ntmps14
  go_wp2_with fail
  refine (C1.out _).mono ?_; rintro e w' ⟨rfl, rfl⟩
  go_wp2_with fail
  refine (C2.out _).mono ?_; rintro e w' ⟨rfl, rfl⟩
  go_wp2
  go_ret
  exact ⟨ri HE.out, (Below.refl _ _).alloc (Nat.le_refl _) _⟩
set_option maxHeartbeats 1000000 in
theorem check3 (d n b s : Int) (w : World) (h1 : 0 ≤ d ∧ d ≤ 20) (h2 : 0 ≤ n ∧ n ≤ 1000) (h3 : ¬ (0 ≤ b ∧ b ≤ 1000)) : Calls Try.prog 14 #[(⟨d, n, b, s⟩ : LoopD).val] w fun e w' => e = .returned (.int .i64 (checkE ⟨d, n, b, s⟩)) ∧ Below w.heap.size w w' := by
  unfold LoopD.val
  have HE : Hid (checkE ⟨d, n, b, s⟩ = 60) := checkE_no (by unfold LoopOk; simp only; omega)
  have C1 := Lib.hid (within_yes _ _ _ h1)
  have C2 := Lib.hid (within_yes _ _ _ h2)
  have C3 := Lib.hid (within_no _ _ _ h3)
  clear h1 h2 h3
  go_enter Try.func14, Try.ntmps14
  go_wp2_with fail
  refine (C1.out _).mono ?_; rintro e w' ⟨rfl, rfl⟩
  go_wp2_with fail
  refine (C2.out _).mono ?_; rintro e w' ⟨rfl, rfl⟩
  go_wp2_with fail
  refine (C3.out _).mono ?_; rintro e w' ⟨rfl, rfl⟩
  go_wp2
  go_ret
  exact ⟨ri HE.out, (Below.refl _ _).alloc (Nat.le_refl _) _⟩
set_option maxHeartbeats 1000000 in
theorem check4a (d n b s : Int) (w : World) (h1 : 0 ≤ d ∧ d ≤ 20) (h2 : 0 ≤ n ∧ n ≤ 1000) (h3 : 0 ≤ b ∧ b ≤ 1000) (hm : n + 2 * b ≤ 1) (h4 : 1 ≤ s ∧ s ≤ 10000) : Calls Try.prog 14 #[(⟨d, n, b, s⟩ : LoopD).val] w fun e w' => e = .returned (.int .i64 (checkE ⟨d, n, b, s⟩)) ∧ Below w.heap.size w w' := by
  unfold LoopD.val
  have HE : Hid (checkE ⟨d, n, b, s⟩ = 0) := checkE_ok (by unfold LoopOk; simp only; omega)
  have C1 := Lib.hid (within_yes _ _ _ h1)
  have C2 := Lib.hid (within_yes _ _ _ h2)
  have C3 := Lib.hid (within_yes _ _ _ h3)
  have C4 := Lib.hid (within_yes _ _ _ h4)
  obtain ⟨h2a, h2b⟩ := h2
  obtain ⟨h3a, h3b⟩ := h3
  clear h1 h4
  go_enter Try.func14, Try.ntmps14
  go_wp2_with fail
  refine (C1.out _).mono ?_; rintro e w' ⟨rfl, rfl⟩
  go_wp2_with fail
  refine (C2.out _).mono ?_; rintro e w' ⟨rfl, rfl⟩
  go_wp2_with fail
  refine (C3.out _).mono ?_; rintro e w' ⟨rfl, rfl⟩
  go_wp2_with fail
  refine (C4.out _).mono ?_; rintro e w' ⟨rfl, rfl⟩
  go_wp2
  go_ret
  exact ⟨ri HE.out, (Below.refl _ _).alloc (Nat.le_refl _) _⟩
set_option maxHeartbeats 1000000 in
theorem check5a (d n b s : Int) (w : World) (h1 : 0 ≤ d ∧ d ≤ 20) (h2 : 0 ≤ n ∧ n ≤ 1000) (h3 : 0 ≤ b ∧ b ≤ 1000) (hm : n + 2 * b ≤ 1) (h4 : ¬ (1 ≤ s ∧ s ≤ 10000)) : Calls Try.prog 14 #[(⟨d, n, b, s⟩ : LoopD).val] w fun e w' => e = .returned (.int .i64 (checkE ⟨d, n, b, s⟩)) ∧ Below w.heap.size w w' := by
  unfold LoopD.val
  have HE : Hid (checkE ⟨d, n, b, s⟩ = 60) := checkE_no (by unfold LoopOk; simp only; omega)
  have C1 := Lib.hid (within_yes _ _ _ h1)
  have C2 := Lib.hid (within_yes _ _ _ h2)
  have C3 := Lib.hid (within_yes _ _ _ h3)
  have C4 := Lib.hid (within_no _ _ _ h4)
  obtain ⟨h2a, h2b⟩ := h2
  obtain ⟨h3a, h3b⟩ := h3
  clear h1 h4
  go_enter Try.func14, Try.ntmps14
  go_wp2_with fail
  refine (C1.out _).mono ?_; rintro e w' ⟨rfl, rfl⟩
  go_wp2_with fail
  refine (C2.out _).mono ?_; rintro e w' ⟨rfl, rfl⟩
  go_wp2_with fail
  refine (C3.out _).mono ?_; rintro e w' ⟨rfl, rfl⟩
  go_wp2_with fail
  refine (C4.out _).mono ?_; rintro e w' ⟨rfl, rfl⟩
  go_wp2
  go_ret
  exact ⟨ri HE.out, (Below.refl _ _).alloc (Nat.le_refl _) _⟩
set_option maxHeartbeats 1000000 in
theorem check4b (d n b s : Int) (w : World) (h1 : 0 ≤ d ∧ d ≤ 20) (h2 : 0 ≤ n ∧ n ≤ 1000) (h3 : 0 ≤ b ∧ b ≤ 1000) (hm : ¬ n + 2 * b ≤ 1) (h4 : (n + 2 * b) ≤ s ∧ s ≤ 10000) : Calls Try.prog 14 #[(⟨d, n, b, s⟩ : LoopD).val] w fun e w' => e = .returned (.int .i64 (checkE ⟨d, n, b, s⟩)) ∧ Below w.heap.size w w' := by
  unfold LoopD.val
  have HE : Hid (checkE ⟨d, n, b, s⟩ = 0) := checkE_ok (by unfold LoopOk; simp only; omega)
  have C1 := Lib.hid (within_yes _ _ _ h1)
  have C2 := Lib.hid (within_yes _ _ _ h2)
  have C3 := Lib.hid (within_yes _ _ _ h3)
  have C4 := Lib.hid (within_yes _ _ _ h4)
  obtain ⟨h2a, h2b⟩ := h2
  obtain ⟨h3a, h3b⟩ := h3
  clear h1 h4
  go_enter Try.func14, Try.ntmps14
  go_wp2_with fail
  refine (C1.out _).mono ?_; rintro e w' ⟨rfl, rfl⟩
  go_wp2_with fail
  refine (C2.out _).mono ?_; rintro e w' ⟨rfl, rfl⟩
  go_wp2_with fail
  refine (C3.out _).mono ?_; rintro e w' ⟨rfl, rfl⟩
  go_wp2_with fail
  refine (C4.out _).mono ?_; rintro e w' ⟨rfl, rfl⟩
  go_wp2
  go_ret
  exact ⟨ri HE.out, (Below.refl _ _).alloc (Nat.le_refl _) _⟩
set_option maxHeartbeats 1000000 in
theorem check5b (d n b s : Int) (w : World) (h1 : 0 ≤ d ∧ d ≤ 20) (h2 : 0 ≤ n ∧ n ≤ 1000) (h3 : 0 ≤ b ∧ b ≤ 1000) (hm : ¬ n + 2 * b ≤ 1) (h4 : ¬ ((n + 2 * b) ≤ s ∧ s ≤ 10000)) : Calls Try.prog 14 #[(⟨d, n, b, s⟩ : LoopD).val] w fun e w' => e = .returned (.int .i64 (checkE ⟨d, n, b, s⟩)) ∧ Below w.heap.size w w' := by
  unfold LoopD.val
  have HE : Hid (checkE ⟨d, n, b, s⟩ = 60) := checkE_no (by unfold LoopOk; simp only; omega)
  have C1 := Lib.hid (within_yes _ _ _ h1)
  have C2 := Lib.hid (within_yes _ _ _ h2)
  have C3 := Lib.hid (within_yes _ _ _ h3)
  have C4 := Lib.hid (within_no _ _ _ h4)
  obtain ⟨h2a, h2b⟩ := h2
  obtain ⟨h3a, h3b⟩ := h3
  clear h1 h4
  go_enter Try.func14, Try.ntmps14
  go_wp2_with fail
  refine (C1.out _).mono ?_; rintro e w' ⟨rfl, rfl⟩
  go_wp2_with fail
  refine (C2.out _).mono ?_; rintro e w' ⟨rfl, rfl⟩
  go_wp2_with fail
  refine (C3.out _).mono ?_; rintro e w' ⟨rfl, rfl⟩
  go_wp2_with fail
  refine (C4.out _).mono ?_; rintro e w' ⟨rfl, rfl⟩
  go_wp2
  go_ret
  exact ⟨ri HE.out, (Below.refl _ _).alloc (Nat.le_refl _) _⟩
theorem Check_any (l : LoopD) (w : World) : Calls Try.prog 14 #[l.val] w fun e w' => e = .returned (.int .i64 (checkE l)) ∧ Below w.heap.size w w' := by
  obtain ⟨d, n, b, s⟩ := l
  by_cases h1 : 0 ≤ d ∧ d ≤ 20
  · by_cases h2 : 0 ≤ n ∧ n ≤ 1000
    · by_cases h3 : 0 ≤ b ∧ b ≤ 1000
      · by_cases hm : n + 2 * b ≤ 1
        · by_cases h4 : 1 ≤ s ∧ s ≤ 10000
          · exact check4a d n b s w h1 h2 h3 hm h4
          · exact check5a d n b s w h1 h2 h3 hm h4
        · by_cases h4 : n + 2 * b ≤ s ∧ s ≤ 10000
          · exact check4b d n b s w h1 h2 h3 hm h4
          · exact check5b d n b s w h1 h2 h3 hm h4
      · exact check3 d n b s w h1 h2 h3
    · exact check2 d n b s w h1 h2
  · exact check1 d n b s w h1
end Go.Proofs.Ytffodgpafiifcaa
