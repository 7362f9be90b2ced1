/-
  The iterator of shifts: its contract.
-/
import Derived.RangeFuncBox
import Derived.RangeFuncNested
import Derived.RangeFuncLeaves
import Derived.RangeFuncBound
import Derived.RangeFuncCalls
import Derived.Shelf.Abstract
import Derived.OwnWalkIn
import Derived.TacticsInMore
import Derived.LoopNIn
import Derived.LoopIn
import Derived.Maps.AppendAt
import Derived.Test.YtffodgpafiifcaaDc
namespace Go.Proofs.Ytffodgpafiifcaa
open Go.RowKit Go.Shelf
attribute [local go_sem] Oper.semAt_some

/-- The shifts up to k, the better one first. -/
def shiftsTo (k : Nat) : List Int := 0 :: (List.range k).flatMap fun (i : Nat) => [(i : Int) + 1, -((i : Int) + 1)]
def shiftsL : List Int := shiftsTo 2000
theorem shiftsTo_next (k : Nat) : shiftsTo (k + 1) = shiftsTo k ++ [(k : Int) + 1] ++ [-((k : Int) + 1)] := by
  unfold shiftsTo
  rw [List.range_succ, List.flatMap_append]
  simp
theorem shiftsTo_len (k : Nat) : (shiftsTo k).length = 2 * k + 1 := by
  induction k with
  | zero => rfl
  | succ k ih => rw [shiftsTo_next, List.length_append, List.length_append, ih]; simp; omega
theorem shiftsTo_pre {k m : Nat} (h : k ≤ m) : shiftsTo k <+: shiftsTo m := by
  induction m with
  | zero => obtain rfl : k = 0 := by omega
            exact List.prefix_refl _
  | succ m ih =>
    by_cases hk : k = m + 1
    · subst hk; exact List.prefix_refl _
    · rw [shiftsTo_next, List.append_assoc]
      exact (ih (by omega)).trans (List.prefix_append _ _)

/-- A shift that is allowed. -/
abbrev Sh := { x : Int // -2000 ≤ x ∧ x ≤ 2000 }
def shS (x : Int) : Sh := if h : -2000 ≤ x ∧ x ≤ 2000 then ⟨x, h⟩ else ⟨0, by omega⟩
theorem shS_val {x : Int} (h : -2000 ≤ x ∧ x ≤ 2000) : (shS x).1 = x := by unfold shS; rw [dif_pos h]
def shiftsS (k : Nat) : List Sh := (shiftsTo k).map shS
theorem shiftsS_next (k : Nat) : shiftsS (k + 1) = shiftsS k ++ [shS ((k : Int) + 1)] ++ [shS (-((k : Int) + 1))] := by unfold shiftsS; rw [shiftsTo_next]; simp
theorem shiftsS_len (k : Nat) : (shiftsS k).length = 2 * k + 1 := by unfold shiftsS; rw [List.length_map, shiftsTo_len]
theorem shiftsS_pre {k m : Nat} (h : k ≤ m) : shiftsS k <+: shiftsS m := (shiftsTo_pre h).map shS
theorem shiftsS_val {k : Nat} (h : k ≤ 2000) : (shiftsS k).map (·.1) = shiftsTo k := by
  induction k with
  | zero => rfl
  | succ k ih =>
    rw [shiftsS_next, shiftsTo_next, List.map_append, List.map_append, ih (by omega)]
    simp only [List.map_cons, List.map_nil]
    rw [shS_val (by omega), shS_val (by omega)]

set_option maxRecDepth 100000 in
set_option maxHeartbeats 2000000 in
theorem shifts_in (n : Nat) (hn : 3 ≤ n) (l : Nat) (J Jx : List Sh → World → Prop)
    (hY : ∀ pre x W, J pre W → pre.length < 4001 → YieldAt Fence.wide (n - 1) Try.prog l #[.int .i64 x.1] W fun e W' =>
      (e = .returned (.bool true) ∧ J (pre ++ [x]) W' ∧ True) ∨ (e = .returned (.bool false) ∧ Jx (pre ++ [x]) W'))
    (W : World) (h0 : J [] W) :
    CallsIn Fence.wide n Try.prog 73 #[.func (.yield l) #[] #[]] W fun e W' => (∃ v, e = .returned v) ∧
      ((∃ ys, ys = shiftsS 2000 ∧ J ys W') ∨ (∃ pre, pre <+: shiftsS 2000 ∧ Jx pre W')) := by
  have HY := Lib.hid hY
  obtain ⟨fn, tmps, assign, body, hy, hR⟩ := hY [] (shS 0) W h0 (by simp)
  rw [shS_val (by omega)] at hy
  clear hY
  refine callsIn_of_wp Try.func73 rfl trivial ?_ rfl
  simp only [Try.ntmps73, List.size_toArray, List.length_cons, List.length_nil, Nat.reduceAdd, Nat.reduceSub, Array.replicate_succ, Array.replicate_zero, List.push_toArray, List.append_toArray, List.nil_append, List.cons_append]
  gi_wp2_with fail
  refine ⟨fun _ => by omega, hR.mono ?_⟩
  rintro e W3 (⟨rfl, hJ3, -⟩ | ⟨rfl, hJx3⟩)
  · have HJ : Hid (J (shiftsS 0) W3) := hJ3
    clear hJ3 hy hR h0
    gi_wp2
    gi_loopw [2] (fun i wr => ∃ k : Nat, k ≤ 2000 ∧ i = .int .i64 ((k : Int) + 1) ∧ Hid (J (shiftsS k) wr)) (fun i _ => 2001 - (intOf i).toNat)
    case atStart => exact ⟨0, Nat.zero_le _, rfl, HJ⟩
    case round =>
      obtain ⟨k, hk, rfl, hJ⟩ := hrel
      clear HJ
      by_cases hlt : k < 2000
      · have hln := shiftsS_len k
        obtain ⟨fn, tmps, assign, body, hy, hR⟩ := HY.out (shiftsS k) (shS ((k : Int) + 1)) wr hJ.out (by omega)
        rw [shS_val (by omega)] at hy
        have hk1 : (k : Int) + 1 ≤ 2000 := by omega
        have HL := Lib.hid hln
        clear hJ hln
        gi_wp2_with fail
        refine ⟨fun _ => by omega, hR.mono ?_⟩
        rintro e W4 (⟨rfl, hJ4, -⟩ | ⟨rfl, hJx4⟩)
        · obtain ⟨fn2, tmps2, assign2, body2, hy2, hR2⟩ := HY.out _ (shS (-((k : Int) + 1))) W4 hJ4 (by rw [List.length_append, HL.out]; simp; omega)
          rw [shS_val (by omega)] at hy2
          clear hJ4 hy hR
          gi_wp2_with fail
          refine ⟨fun _ => by omega, hR2.mono ?_⟩
          rintro e W5 (⟨rfl, hJ5, -⟩ | ⟨rfl, hJx5⟩)
          · have HJ5 : Hid (J (shiftsS (k + 1)) W5) := by show J _ W5; rw [shiftsS_next]; exact hJ5
            clear hJ5 hy2 hR2
            gi_wp2
            go_roundw
            case rel => exact ⟨k + 1, by omega, by go_num, HJ5⟩
            case measure => simp [intOf]; omega
          · have HX : Hid (∃ pre, pre <+: shiftsS 2000 ∧ Jx pre W5) := ⟨_, by rw [← shiftsS_next]; exact shiftsS_pre (by omega), hJx5⟩
            clear hJx5 hy2 hR2
            gi_wp2
            refine bodyPost_ret (results_none rfl _ _ _) rfl ?_
            exact ⟨⟨_, rfl⟩, .inr HX.out⟩
        · have HX : Hid (∃ pre, pre <+: shiftsS 2000 ∧ Jx pre W4) := ⟨_, by
            refine List.IsPrefix.trans ?_ (shiftsS_pre (k := k + 1) (by omega))
            rw [shiftsS_next]
            exact List.prefix_append _ _, hJx4⟩
          clear hJx4 hy hR
          gi_wp2
          all_goals
            refine ⟨fun _ h => (by cases h), ?_⟩
            gi_wp2
            refine bodyPost_ret (results_none rfl _ _ _) rfl ?_
            exact ⟨⟨_, rfl⟩, .inr HX.out⟩
      · have hk' : k = 2000 := by omega
        subst hk'
        gi_wp2
        go_end0
        exact ⟨⟨_, rfl⟩, .inl ⟨_, rfl, hJ.out⟩⟩
  · have HX : Hid (∃ pre, pre <+: shiftsS 2000 ∧ Jx pre W3) := ⟨_, shiftsS_pre (Nat.zero_le _), hJx3⟩
    clear hJx3 hy hR h0
    gi_wp2
    refine bodyPost_ret (results_none rfl _ _ _) rfl ?_
    exact ⟨⟨_, rfl⟩, .inr HX.out⟩
end Go.Proofs.Ytffodgpafiifcaa
