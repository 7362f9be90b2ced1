/-
  What a mark finds: the closure of finder; count.
-/
import Derived.Test.YtffodgpafiifcaaDa
namespace Go.Proofs.Ytffodgpafiifcaa
open Go.RowKit

def lostD : Int := 1000000000
/-- The least position from lo to hi that was seen. -/
def findD (seen : List Int) (lo hi : Int) : Int := match seen.find? (fun s => decide (lo ≤ s)) with
  | some s => if s ≤ hi then s else lostD
  | none => lostD
theorem find_parts {l : List Int} {t : Int} {i : Nat} (h : Parts l t i) : l.find? (fun s => decide (t ≤ s)) = l[i]? := by
  induction l generalizing i with
  | nil => rfl
  | cons y l ih =>
    cases i with
    | zero =>
      have := h.2.2 0 y (Nat.le_refl _) rfl
      rw [List.find?_cons, decide_eq_true this]; rfl
    | succ i =>
      have h1 := h.2.1 0 y (by omega) rfl
      rw [List.find?_cons, decide_eq_false (by omega)]
      have := ih (i := i) ⟨by have := h.1; simp at this; omega, fun j x hj hx => h.2.1 (j + 1) x (by omega) (by simpa using hx), fun j x hj hx => h.2.2 (j + 1) x (by omega) (by simpa using hx)⟩
      simpa using this
theorem findD_some {l : List Int} {t hi s : Int} {i : Nat} (h : Parts l t i) (hs : l[i]? = some s) : findD l t hi = if s ≤ hi then s else lostD := by unfold findD; rw [find_parts h, hs]
theorem findD_none {l : List Int} {t hi : Int} {i : Nat} (h : Parts l t i) (hs : l[i]? = none) : findD l t hi = lostD := by unfold findD; rw [find_parts h, hs]

set_option maxRecDepth 100000 in
set_option maxHeartbeats 2000000 in
theorem finder1_any (place W : Int) (Bs Bp : Nat) (vs : Value) (seen : List Int) (w : World) (hS : w.cell? ⟨Bs, 0, none⟩ = some vs) (hR : RInts w.heap.size w vs seen) (ha : Ascends seen) (hl : seen.length ≤ 1000000)
    (hW : w.cell? ⟨Bp, 1, none⟩ = some (.int .i64 W)) (h1 : 0 ≤ W ∧ W ≤ 5000) (h2 : -1000000 ≤ place ∧ place ≤ 1000000) :
    Calls Try.prog 71 #[.int .i64 place, .pointer (some ⟨Bs, 0, none⟩), .pointer (some ⟨Bp, 0, none⟩)] w fun e w' => e = .returned (.int .i64 (findD seen (place - W) (place + W))) ∧ ∃ n, w' = w.drewN n := by
  have CS := Lib.hid (search_any vs seen (place - W) w hR ha hl)
  obtain ⟨A, c, rfl, -, hA⟩ := hR.open_
  have HA := Lib.hid hA
  obtain ⟨n, hn⟩ : ∃ n, seen.length = n := ⟨_, rfl⟩
  have Hn := Lib.hid hn
  rw [hn] at hS CS hl
  obtain ⟨h11, h12⟩ := h1
  obtain ⟨h21, h22⟩ := h2
  clear hR hA ha hn
  go_enter Try.func71, Try.ntmps71
  go_wp2_with fail
  refine CS.out.mono ?_
  rintro e w' ⟨i, b, rfl, hP, rfl⟩
  have HP := Lib.hid hP
  have hin : i ≤ n := by have := hP.1; rw [Hn.out] at this; exact this
  clear CS hP
  by_cases hlt : i < n
  · obtain ⟨g, o, x, rfl, hg, cx, hx⟩ := HA.out i (by rw [Hn.out]; omega)
    have hlx : seen[i]? = some x := by
      have h1 := hx.out
      have h2 : i < seen.length := by rw [Hn.out]; omega
      rw [List.getD_eq_getElem?_getD, List.getElem?_eq_getElem h2, Option.getD_some] at h1
      rw [List.getElem?_eq_getElem h2, h1]
    have hF := findD_some (hi := place + W) HP.out hlx
    have ii : (i : Int) < (n : Int) := by omega
    have i0 : (0 : Int) ≤ (i : Int) := by omega
    have kw : IntKind.i64.wrap (place + W) = place + W := IntWalk.i64_in _ ⟨by omega, by omega⟩
    by_cases hx2 : x ≤ place + W
    · rw [if_pos hx2] at hF
      have HF := Lib.hid hF
      clear hF hlx hx
      go_upto_region 2 with fail
      go_quiet (fail)
      clear kw
      go_wp2
      go_ret
      exact ⟨ri HF.out, _, rfl⟩
    · rw [if_neg hx2] at hF
      have HF := Lib.hid hF
      have hx3 : decide (x ≤ place + W) = false := by simpa using hx2
      clear hF hlx hx
      go_upto_region 2 with fail
      go_quiet (fail)
      clear kw
      go_wp2
      go_ret
      exact ⟨ri HF.out, _, rfl⟩
  · have hlx : seen[i]? = none := List.getElem?_eq_none (by rw [Hn.out]; omega)
    have HF := Lib.hid (findD_none (hi := place + W) HP.out hlx)
    have hd : decide ((i : Int) < (n : Int)) = false := by simp; omega
    clear hlx
    go_upto_region 2 with fail
    go_quiet (fail)
    go_wp2
    go_ret
    exact ⟨ri HF.out, _, rfl⟩
end Go.Proofs.Ytffodgpafiifcaa
