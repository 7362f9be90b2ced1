/-
  loop: a right loop of numbers.
-/
import Derived.Test.YtffodgpafiifcaaEc
namespace Go.Proofs.Ytffodgpafiifcaa
open Go.RowKit

def leastD (n b : Int) : Int := max (n + 2 * b) 1
def mkLoop (a b c d : Int) : LoopD := ⟨a % 21, b % 1001, c % 1001, leastD (b % 1001) (c % 1001) + d % (10001 - leastD (b % 1001) (c % 1001))⟩
theorem mkLoop_ok (a b c d : Int) : LoopOk (mkLoop a b c d) := by
  unfold mkLoop LoopOk leastD
  simp only
  have h1 := Int.emod_nonneg a (show (21 : Int) ≠ 0 by omega)
  have h2 := Int.emod_lt_of_pos a (show (0 : Int) < 21 by omega)
  have h3 := Int.emod_nonneg b (show (1001 : Int) ≠ 0 by omega)
  have h4 := Int.emod_lt_of_pos b (show (0 : Int) < 1001 by omega)
  have h5 := Int.emod_nonneg c (show (1001 : Int) ≠ 0 by omega)
  have h6 := Int.emod_lt_of_pos c (show (0 : Int) < 1001 by omega)
  generalize b % 1001 = n at *
  generalize c % 1001 = m at *
  have h7 := Int.emod_nonneg d (show (10001 - max (n + 2 * m) 1) ≠ 0 by omega)
  have h8 := Int.emod_lt_of_pos d (show 0 < (10001 - max (n + 2 * m) 1) by omega)
  generalize d % (10001 - max (n + 2 * m) 1) = q at *
  omega

set_option maxRecDepth 100000 in
set_option maxHeartbeats 2000000 in
theorem loop_any (a b c d : Int) (w : World) : Calls Try.prog 37 #[.int .i64 a, .int .i64 b, .int .i64 c, .int .i64 d] w fun e w' => e = .returned (mkLoop a b c d).val ∧ Below w.heap.size w w' := by
  have h1 := Int.emod_nonneg a (show (21 : Int) ≠ 0 by omega)
  have h2 := Int.emod_lt_of_pos a (show (0 : Int) < 21 by omega)
  have h3 := Int.emod_nonneg b (show (1001 : Int) ≠ 0 by omega)
  have h4 := Int.emod_lt_of_pos b (show (0 : Int) < 1001 by omega)
  have h5 := Int.emod_nonneg c (show (1001 : Int) ≠ 0 by omega)
  have h6 := Int.emod_lt_of_pos c (show (0 : Int) < 1001 by omega)
  have C1 := Lib.hid (pick_any a 21 (by omega) (by omega))
  have C2 := Lib.hid (pick_any b 1001 (by omega) (by omega))
  have C3 := Lib.hid (pick_any c 1001 (by omega) (by omega))
  have HV : Hid ((mkLoop a b c d).val = .agg #[.int .i64 (a % 21), .int .i64 (b % 1001), .int .i64 (c % 1001), .int .i64 (leastD (b % 1001) (c % 1001) + d % (10001 - leastD (b % 1001) (c % 1001)))]) := rfl
  obtain ⟨x, hx⟩ : ∃ x, a % 21 = x := ⟨_, rfl⟩
  obtain ⟨n, hn⟩ : ∃ n, b % 1001 = n := ⟨_, rfl⟩
  obtain ⟨m, hm⟩ : ∃ m, c % 1001 = m := ⟨_, rfl⟩
  rw [hx] at h1 h2 C1 HV
  rw [hn] at h3 h4 C2 HV
  rw [hm] at h5 h6 C3 HV
  obtain ⟨l, hl⟩ : ∃ l, leastD n m = l := ⟨_, rfl⟩
  have hl1 : 1 ≤ l ∧ l ≤ 3000 := by rw [← hl]; unfold leastD; omega
  rw [hl] at HV
  obtain ⟨hl1, hl2⟩ := hl1
  have C4 := Lib.hid (pick_any d (10001 - l) (by omega) (by omega))
  have q1 := Int.emod_nonneg d (show (10001 - l) ≠ 0 by omega)
  have q2 := Int.emod_lt_of_pos d (show 0 < (10001 - l) by omega)
  obtain ⟨q, hq⟩ : ∃ q, d % (10001 - l) = q := ⟨_, rfl⟩
  rw [hq] at q1 q2 C4 HV
  have HL := Lib.hid hl
  clear hx hn hm hl hq
  by_cases hc : 1 ≤ n + 2 * m
  · have hl' : l = n + 2 * m := by have := HL.out; unfold leastD at this; omega
    subst hl'
    clear HL
    go_enter Try.func37, Try.ntmps37
    go_wp2_with fail
    refine (C1.out _).mono ?_; rintro e w' ⟨rfl, rfl⟩
    go_wp2_with fail
    refine (C2.out _).mono ?_; rintro e w' ⟨rfl, rfl⟩
    go_wp2_with fail
    refine (C3.out _).mono ?_; rintro e w' ⟨rfl, rfl⟩
    go_wp2_with fail
    refine (C4.out _).mono ?_; rintro e w' ⟨rfl, rfl⟩
    go_wp2
    refine bodyPost_ret (v := .agg #[.int .i64 x, .int .i64 n, .int .i64 m, .int .i64 ((n + 2 * m) + q)]) (by simp [results, Try.results37, go_sem]) rfl ⟨by rw [HV.out], ?_⟩
    exact (below_alloc _ _).trans ((below_alloc _ _).mono (by simp))
  · have hl' : l = 1 := by have := HL.out; unfold leastD at this; omega
    subst hl'
    clear HL
    go_enter Try.func37, Try.ntmps37
    go_wp2_with fail
    refine (C1.out _).mono ?_; rintro e w' ⟨rfl, rfl⟩
    go_wp2_with fail
    refine (C2.out _).mono ?_; rintro e w' ⟨rfl, rfl⟩
    go_wp2_with fail
    refine (C3.out _).mono ?_; rintro e w' ⟨rfl, rfl⟩
    go_wp2_with fail
    refine (C4.out _).mono ?_; rintro e w' ⟨rfl, rfl⟩
    go_wp2
    refine bodyPost_ret (v := .agg #[.int .i64 x, .int .i64 n, .int .i64 m, .int .i64 (1 + q)]) (by simp [results, Try.results37, go_sem]) rfl ⟨by rw [HV.out], ?_⟩
    exact (below_alloc _ _).trans ((below_alloc _ _).mono (by simp))
end Go.Proofs.Ytffodgpafiifcaa
