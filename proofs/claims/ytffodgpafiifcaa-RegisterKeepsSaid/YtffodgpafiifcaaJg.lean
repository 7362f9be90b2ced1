/-
  The reference's decided.
-/
import Derived.Test.YtffodgpafiifcaaJf
namespace Go.Proofs.Ytffodgpafiifcaa
open Go.RowKit

def lastSum (ms : List Int) (j : Nat) : Int := (ms.drop (ms.length - j)).sum
theorem lastSum_next {ms : List Int} {j : Nat} {y : Int} (hj : j < ms.length) (hy : ms[ms.length - 1 - j]? = some y) : lastSum ms (j + 1) = y + lastSum ms j := by
  unfold lastSum
  have h1 : ms.length - (j + 1) < ms.length := by omega
  rw [List.drop_eq_getElem_cons h1, show ms.length - (j + 1) + 1 = ms.length - j by omega]
  have h2 : ms[ms.length - (j + 1)] = y := by
    have h3 := List.getElem?_eq_getElem h1
    rw [show ms.length - 1 - j = ms.length - (j + 1) by omega] at hy
    rw [hy] at h3
    simpa using h3.symm
  rw [h2, List.sum_cons]
theorem lastSum_zero (ms : List Int) : lastSum ms 0 = 0 := by unfold lastSum; simp
theorem lastSum_all (ms : List Int) {j k : Nat} (h : ms.length ≤ j) (h' : ms.length ≤ k) : lastSum ms j = lastSum ms k := by unfold lastSum; rw [show ms.length - j = ms.length - k by omega]
theorem lastSum_le {ms : List Int} (h : ∀ x ∈ ms, x ≤ 10000 ∧ -10000 ≤ x) : ∀ j, lastSum ms j ≤ 10000 * j ∧ -(10000 * j) ≤ lastSum ms j := by
  intro j
  induction j with
  | zero => rw [lastSum_zero]; omega
  | succ j ih =>
    by_cases hj : j < ms.length
    · have h1 : ms.length - 1 - j < ms.length := by omega
      rw [lastSum_next hj (List.getElem?_eq_getElem h1)]
      have := h _ (List.getElem_mem h1)
      omega
    · rw [lastSum_all ms (show ms.length ≤ j + 1 by omega) (show ms.length ≤ j by omega)]
      omega
theorem clamp_same {s v : Int} (hs : 0 ≤ s) : max (-s) (min s (-v)) = clampD s v := by unfold clampD; omega
def clampQ (s x : Int) : Int := max (-s) (min s (-x))

set_option maxRecDepth 100000 in
set_option maxHeartbeats 4000000 in
theorem refDecided_any (l : LoopD) (hl : LoopOk l) (ms : List Int) (hms : ∀ x ∈ ms, x ≤ 10000 ∧ -10000 ≤ x) (hlen : ms.length ≤ 5000) (v : Value) (m : Int) (hm : m ≤ 200000000 ∧ -200000000 ≤ m) (w : World) (hv : RInts w.heap.size w v ms) (t : Nat) (ht : ms.length = t) :
    Calls Try.prog 48 #[l.val, v, .int .i64 t, .int .i64 m] w fun e w' => e = .returned (.int .i64 (clampD l.step (m + lastSum ms l.dead.toNat))) ∧ Below w.heap.size w w' := by
  obtain ⟨A, c, rfl, -, hA⟩ := hv.open_
  have HA := Lib.hid hA
  have HMs := Lib.hid hms
  have Ht := Lib.hid ht
  rw [ht] at hlen ⊢
  obtain ⟨d, hd⟩ : ∃ d : Nat, l.dead = d := ⟨l.dead.toNat, by have := hl.1; omega⟩
  have hd20 : d ≤ 20 := by have := hl.2.1; omega
  have hs1 := hl.2.2.2.2.2.2.1
  have hs3 := hl.2.2.2.2.2.2.2.2
  obtain ⟨w1, e1, B1⟩ : ∃ w1, w.alloc (.cells l.cells 23) = w1 ∧ Below w.heap.size w w1 := ⟨_, rfl, below_alloc _ _⟩
  have V1 : Blk w1 w.heap.size 23 l.cells := e1 ▸ Blk.new _ _ _
  unfold LoopD.cells at e1 V1
  unfold LoopD.val
  rw [hd] at e1 V1 ⊢
  rw [Int.toNat_natCast]
  have E1 := Lib.hid e1
  have HB1 := Lib.hid B1
  have v0 := cellOf V1 0 (x := .int .i64 d) rfl
  have v3 := cellOf V1 3 (x := .int .i64 l.step) rfl
  obtain ⟨hm1, hm2⟩ := hm
  obtain ⟨st, hst⟩ : ∃ st, l.step = st := ⟨_, rfl⟩
  rw [hst] at E1 v3 hs1 hs3 ⊢
  clear hv hA hms ht hl hd e1 V1 B1 hst
  go_enter Try.func48, Try.ntmps48
  go_upto_region 1 with fail
  rw [E1.out]
  have kwt : IntKind.i64.wrap ((t : Int) - 1) = (t : Int) - 1 := IntWalk.i64_in _ ⟨by omega, by omega⟩
  have kwd : IntKind.i64.wrap ((t : Int) - (d : Int)) = (t : Int) - (d : Int) := IntWalk.i64_in _ ⟨by omega, by omega⟩
  go_wp2
  go_loop [9, 10] (fun x i => ∃ j : Nat, j ≤ t ∧ j ≤ d ∧ i = .int .i64 ((t : Int) - 1 - j) ∧ x = .int .i64 (m + lastSum ms j)) (fun _ i => (intOf i + 1).toNat)
  case atStart => exact ⟨0, Nat.zero_le _, Nat.zero_le _, by simp, by rw [lastSum_zero, Int.add_zero]⟩
  case round =>
    obtain ⟨j, hjt, hjd, rfl, rfl⟩ := hrel
    have hls := lastSum_le HMs.out j
    obtain ⟨z, hz⟩ : ∃ z, lastSum ms j = z := ⟨_, rfl⟩
    have Hz := Lib.hid hz
    rw [hz] at hls ⊢
    clear hz
    by_cases hlt : j < t ∧ j < d
    · obtain ⟨hl1, hl2⟩ := hlt
      obtain ⟨q, hq⟩ : ∃ q : Nat, t - 1 - j = q := ⟨_, rfl⟩
      have hqi : (t : Int) - 1 - j = (q : Int) := by omega
      have hqt : (q : Int) < (t : Int) := by omega
      obtain ⟨g, o, y, rfl, hg, cy, hy⟩ := HA.out q (by rw [Ht.out]; omega)
      have hly := get_some (by rw [Ht.out]; omega) hy.out
      have hyb := HMs.out y (List.mem_of_getElem? hly)
      have HNx : Hid (m + lastSum ms (j + 1) = m + z + y) := by
        show _ = _
        rw [lastSum_next (y := y) (by rw [Ht.out]; exact hl1) (by rw [Ht.out, hq]; exact hly), Hz.out]
        omega
      have cy' := (HB1.out.cell (p := ⟨g, o + q, none⟩) hg).trans cy
      have c1 : (0 : Int) ≤ (q : Int) := by omega
      have c2 : (t : Int) - (d : Int) ≤ (q : Int) := by omega
      have kw1 : IntKind.i64.wrap (m + z + y) = m + z + y := IntWalk.i64_in _ ⟨by omega, by omega⟩
      have kw2 : IntKind.i64.wrap ((q : Int) - 1) = (q : Int) - 1 := IntWalk.i64_in _ ⟨by omega, by omega⟩
      rw [hqi]
      have HQ : Hid ((q : Int) - 1 = (t : Int) - 1 - ((j + 1 : Nat) : Int)) := by show _ = _; omega
      clear hq hy hly cy hls hqi
      go_wp2
      exact ⟨⟨j + 1, by omega, by omega, by rw [HQ.out], by rw [HNx.out]⟩, by (simp [intOf]) <;> omega⟩
    · have hsame : lastSum ms d = z := by
        rw [← Hz.out]
        by_cases h1 : j = d
        · rw [h1]
        · exact lastSum_all ms (by rw [Ht.out]; omega) (by rw [Ht.out]; omega)
      obtain ⟨X, hX⟩ : ∃ X, m + z = X := ⟨_, rfl⟩
      have hXb : X ≤ 300000000 ∧ -300000000 ≤ X := by omega
      rw [hX]
      have kw1 : IntKind.i64.wrap (-st) = -st := IntWalk.i64_in _ ⟨by omega, by omega⟩
      have kw2 : IntKind.i64.wrap (-X) = -X := IntWalk.i64_in _ ⟨by omega, by omega⟩
      have HC : Hid (clampD st (m + lastSum ms d) = max (-st) (min st (-X))) := by show _ = _; rw [hsame, hX]; exact (clamp_same (by omega)).symm
      obtain ⟨J, hJ⟩ : ∃ J : Int, (t : Int) - 1 - j = J := ⟨_, rfl⟩
      have hcond : J < 0 ∨ (0 ≤ J ∧ J < (t : Int) - (d : Int)) := by omega
      rw [hJ]
      clear hX hls hsame hJ hlt
      rcases hcond with c1 | ⟨c1, c2⟩
      all_goals
        rcases (show (st ≤ -X ∧ -st ≤ st ∧ ¬ st ≤ -st ∧ max (-st) (min st (-X)) = st) ∨ (¬ st ≤ -X ∧ -X ≤ st ∧ -X ≤ -st ∧ st ≤ X ∧ max (-st) (min st (-X)) = -st) ∨ (¬ st ≤ -X ∧ -X ≤ st ∧ ¬ -X ≤ -st ∧ ¬ st ≤ X ∧ -st ≤ -X ∧ max (-st) (min st (-X)) = -X) by omega) with ⟨m1, m2, m3, hmx⟩ | ⟨m1, m2, m3, m4, hmx⟩ | ⟨m1, m2, m3, m4, m5, hmx⟩
      all_goals
        have HMx : Hid (clampD st (m + lastSum ms d) = _) := HC.out.trans hmx
        clear hmx HC
        go_wp2
        go_ret
        exact ⟨by rw [HMx.out]; rfl, HB1.out⟩
end Go.Proofs.Ytffodgpafiifcaa
