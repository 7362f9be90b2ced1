/-
  THE ITERATOR OF HALVES: its contract.
  spots: the spots of a stack in a row.
  Slices of slices of one's own; straightCopy, collectedCopy, layout.
-/
import Derived.RangeFuncBox
import Derived.RangeFuncNested
import Derived.RangeFuncLeaves
import Derived.RangeFuncBound
import Derived.RangeFuncCalls
import Derived.Shelf.Abstract
import Derived.OwnWalkIn
import Derived.TacticsInMore
import Derived.LoopNIn
import Derived.LoopIn
import Derived.Maps.AppendAt
import Derived.Test.YtdbfhdncjblleaaKb
namespace Go.Proofs.Ytdbfhdncjblleaa
open Go.RowKit Go.Shelf
attribute [local go_sem] Oper.semAt_some

set_option maxHeartbeats 400000 in
theorem halves_any (v1 v2 v3 : Value) (c : Bool) (A : Option Addr) (n m : Nat) (w : World) :
    Calls Try.prog 84 #[.agg #[v1, v2, v3, .bool c], .slice A n m] w fun e w' => e = .returned (.func (.func 85) #[] #[.pointer (some ⟨w.heap.size + 1, 0, none⟩), .pointer (some ⟨w.heap.size, 0, none⟩)]) ∧
      w' = (w.alloc (.cells #[v1, v2, v3, .bool c] 111)).alloc (.cells #[.slice A n m] 48) := by
  have hmf : ∀ (fn : Fn) (first cap : Array Value) (w : World), (Instr.makeFunc fn first cap).run Try.prog w = .ok (.func fn first cap) w := fun _ _ _ _ => rfl
  go_enter Try.func84, Try.ntmps84
  go_wp2
  go_ret
  exact ⟨rfl, rfl⟩

theorem rights_next {r : RunD} {l : List Int} {k : Nat} {i : Int} (hi : l[k]? = some i) : rightsD r (l.take (k + 1)) = rightsD r (l.take k) ++ (if (ribAt r i).left then [] else [rightHalfD (ribAt r i)]) := by
  obtain ⟨hk, rfl⟩ := List.getElem?_eq_some_iff.1 hi
  unfold rightsD
  rw [List.take_succ_eq_append_getElem hk, List.map_append, List.filter_append, List.map_append]
  congr 1
  cases h : (ribAt r l[k]).left <;> simp [h]
theorem lefts_next {r : RunD} {l : List Int} {k : Nat} {i : Int} (hi : l[k]? = some i) : leftsD r (l.take (k + 1)) = leftsD r (l.take k) ++ (if hasLeft (ribAt r i) then [leftHalfD (ribAt r i)] else []) := by
  obtain ⟨hk, rfl⟩ := List.getElem?_eq_some_iff.1 hi
  unfold leftsD
  rw [List.take_succ_eq_append_getElem hk, List.map_append, List.filter_append, List.map_append]
  congr 1
  cases h : hasLeft (ribAt r l[k]) <;> simp [h]
theorem rights_len (r : RunD) (l : List Int) : (rightsD r l).length ≤ l.length := by
  unfold rightsD
  rw [List.length_map]
  exact Nat.le_trans (List.length_filter_le _ _) (by simp)
theorem lefts_len (r : RunD) (l : List Int) : (leftsD r l).length ≤ l.length := by
  unfold leftsD
  rw [List.length_map]
  exact Nat.le_trans (List.length_filter_le _ _) (by simp)

/-- The blocks of S lie as they lay. -/
structure KeepS (S : Nat → Prop) (W W' : World) : Prop where
  size : W.heap.size ≤ W'.heap.size
  block : ∀ k, S k → W'.heap[k]? = W.heap[k]?
theorem KeepS.refl (S : Nat → Prop) (W : World) : KeepS S W W := ⟨Nat.le_refl _, fun _ _ => rfl⟩
theorem KeepS.trans {S : Nat → Prop} {A B C : World} (h : KeepS S A B) (k : KeepS S B C) : KeepS S A C := ⟨Nat.le_trans h.size k.size, fun i hi => (k.block i hi).trans (h.block i hi)⟩
theorem KeepS.cell {S : Nat → Prop} {A B : World} (h : KeepS S A B) {p : Addr} (hp : S p.block) : B.cell? p = A.cell? p := World.cell?_of_block (w := A) (h.block p.block hp)
theorem KeepS.below {S : Nat → Prop} {A B C : World} (h : KeepS S A B) (hS : ∀ k, S k → k < A.heap.size) {b : Nat} (hb : Below b B C) (hbB : B.heap.size ≤ b) : KeepS S A C :=
  ⟨Nat.le_trans h.size hb.size, fun i hi => (hb.block i (Nat.lt_of_lt_of_le (hS i hi) (Nat.le_trans h.size hbB))).trans (h.block i hi)⟩
theorem KeepS.alloc {S : Nat → Prop} {A B : World} (h : KeepS S A B) (hS : ∀ k, S k → k < A.heap.size) (o : Obj) : KeepS S A (B.alloc o) := h.below hS ((Below.refl _ B).alloc (Nat.le_refl _) o) (Nat.le_refl _)
theorem KeepS.drew {S : Nat → Prop} {A B : World} (h : KeepS S A B) : KeepS S A B.drew := ⟨h.size, h.block⟩

set_option maxRecDepth 100000 in
set_option maxHeartbeats 2000000 in
theorem iter_in (n : Nat) (hn : 3 ≤ n) (l B0 Bs Bw : Nat) (S : Nat → Prop) (v1 v2 v3 vs : Value) (r : RunD) (stack : List Int) (J Jx : List HalfD → World → Prop) (hJa : ∀ pre A B, J pre A → Below A.heap.size A B → J pre B)
    (hBs : S Bs) (hBw : S Bw) (hSB : ∀ k, k < B0 → S k) (hribs : ∀ i ∈ stack, 0 ≤ i ∧ i < r.ribs.length) (hrb : ∀ i ∈ stack, 0 ≤ (ribAt r i).col ∧ (ribAt r i).col ≤ 1000 ∧ 0 ≤ (ribAt r i).width ∧ (ribAt r i).width ≤ 1000)
    (hY : ∀ pre x W, J pre W → pre.length < 2 * stack.length → YieldAt Fence.wide (n - 1) Try.prog l #[HalfD.val x] W fun e W' =>
      (e = .returned (.bool true) ∧ J (pre ++ [x]) W' ∧ KeepS S W W') ∨ (e = .returned (.bool false) ∧ Jx (pre ++ [x]) W'))
    (W : World) (hBW : B0 ≤ W.heap.size) (hS : ∀ k, S k → k < W.heap.size) (cs : W.cell? ⟨Bs, 0, none⟩ = some vs) (c1 : W.cell? ⟨Bw, 1, none⟩ = some v2)
    (hs : RInts B0 W vs stack) (hr : RRibs B0 W v2 r.ribs) (h0 : J [] W) :
    CallsIn Fence.wide n Try.prog 85 #[.func (.yield l) #[] #[], .pointer (some ⟨Bs, 0, none⟩), .pointer (some ⟨Bw, 0, none⟩)] W fun e W' => (∃ v, e = .returned v) ∧
      ((∃ ys, ys = halvesD r stack ∧ J ys W') ∨ (∃ pre, True ∧ Jx pre W')) := by
  obtain ⟨A, ca, rfl, hA1, hA⟩ := hs.open_
  obtain ⟨A2, c2, rfl, hA2, hA3⟩ := hr.open_
  have HA := Lib.hid hA
  have HA3 := Lib.hid hA3
  have HR := Lib.hid hribs
  have HB := Lib.hid hrb
  have HY := Lib.hid hY
  have HJ := Lib.hid hJa
  clear hA hA3 hs hr hribs hrb hY hJa
  refine callsIn_of_wp Try.func85 rfl trivial ?_ rfl
  simp only [Try.ntmps85, List.size_toArray, List.length_cons, List.length_nil, Nat.reduceAdd, Nat.reduceSub, Array.replicate_succ, Array.replicate_zero, List.push_toArray, List.append_toArray, List.nil_append, List.cons_append]
  gi_wp2
  have Cs := Lib.hid cs
  have C1 := Lib.hid c1
  clear cs c1
  gi_loopw [11] (fun i wr => ∃ k : Nat, k ≤ stack.length ∧ i = .int .i64 k ∧ J (rightsD r (stack.take k)) wr ∧ KeepS S W wr) (fun i _ => stack.length - (intOf i).toNat)
  case atStart => exact ⟨0, Nat.zero_le _, rfl, h0, KeepS.refl _ _⟩
  case round =>
    obtain ⟨k, hk, rfl, hJ, hB⟩ := hrel
    by_cases hlt : k < stack.length
    · obtain ⟨g, o, i, rfl, hb, hc1, hi⟩ := HA.out k hlt
      have Hi : Hid (stack[k]? = some i) := by
        show stack[k]? = some i
        have := hi.out
        simpa [List.getD_eq_getElem?_getD, List.getElem?_eq_getElem hlt] using this
      have him : i ∈ stack := List.mem_of_getElem? Hi.out
      obtain ⟨hi0, hi1⟩ := HR.out i him
      obtain ⟨a, rfl⟩ := Int.eq_ofNat_of_zero_le hi0
      have hal : a < r.ribs.length := by omega
      obtain ⟨x, hx⟩ : ∃ x, r.ribs[a]? = some x := ⟨_, List.getElem?_eq_getElem hal⟩
      obtain ⟨g2, o2, rfl, hb2, hd1, hd2, hd3, hd4, hd5⟩ := HA3.out a x hx
      have Hx : Hid (ribAt r a = x) := by
        show r.ribs.getD ((a : Int)).toNat default = x
        rw [Int.toNat_natCast, getD_of hx]
      have hbd := HB.out a him
      rw [Hx.out] at hbd
      rw [← hB.cell (p := ⟨g, o + k, none⟩) (hSB _ hb)] at hc1
      rw [← hB.cell (p := ⟨g2, o2 + a * 5, none⟩) (hSB _ hb2)] at hd1
      rw [← hB.cell (p := ⟨g2, o2 + a * 5 + 1, none⟩) (hSB _ hb2)] at hd2
      rw [← hB.cell (p := ⟨g2, o2 + a * 5 + 2, none⟩) (hSB _ hb2)] at hd3
      rw [← hB.cell (p := ⟨g2, o2 + a * 5 + 3, none⟩) (hSB _ hb2)] at hd4
      rw [← hB.cell (p := ⟨g2, o2 + a * 5 + 4, none⟩) (hSB _ hb2)] at hd5
      have e1 := (hB.cell (p := ⟨Bw, 1, none⟩) hBw).trans C1.out
      have zr : B0 ≤ wr.heap.size := Nat.le_trans hBW hB.size
      have hx2 := Lib.hid hx
      clear hx hi
      obtain ⟨web, col, width, turned, left⟩ := x
      dsimp only at hd1 hd2 hd3 hd4 hd5 hbd
      have hJ2 : ∀ o wq, Below (wr.alloc o).heap.size (wr.alloc o) wq → J (rightsD r (stack.take k)) wq := fun o wq h => HJ.out _ _ _ hJ (((Below.refl _ wr).alloc (Nat.le_refl _) o).trans (h.mono (by simp)))
      have hB2 : ∀ o wq, Below (wr.alloc o).heap.size (wr.alloc o) wq → KeepS S W wq := fun o wq h => (hB.alloc hS o).below hS h (Nat.le_refl _)
      have HJ2 := Lib.hid hJ2
      have HB2 := Lib.hid hB2
      have Hbd := Lib.hid hbd
      clear hJ2 hB2 hbd
      cases left
      · gi_wp2_with fail
        refine ⟨trivial, fun _ => by omega, callsIn_wide.2 ((rightHalf_any ⟨web, col, width, turned, false⟩ _ Hbd.out).mono ?_)⟩
        rintro e w3 ⟨rfl, hb3⟩
        have hJ3 := HJ2.out _ _ hb3
        have hB3 := HB2.out _ _ hb3
        obtain ⟨fn, tmps, assign, body, hy, hR⟩ := HY.out _ (rightHalfD ⟨web, col, width, turned, false⟩) w3 hJ3 (by have := rights_len r (stack.take k); simp at this; omega)
        clear hb3
        unfold HalfD.val at hy ⊢
        gi_wp2_with fail
        refine ⟨fun _ => by omega, hR.mono ?_⟩
        rintro e w4 (⟨rfl, hJ4, hk4⟩ | ⟨rfl, hJx4⟩)
        · have hJ5 : J (rightsD r (stack.take (k + 1))) w4 := by
            rw [rights_next Hi.out, Hx.out]
            exact hJ4
          gi_wp2
          go_roundw
          case rel => exact ⟨k + 1, by omega, by go_num, hJ5, hB3.trans hk4⟩
          case measure => simp [intOf]; omega
        · gi_wp2
          refine bodyPost_ret (results_none rfl _ _ _) rfl ?_
          exact ⟨⟨_, rfl⟩, .inr ⟨_, trivial, hJx4⟩⟩
      · have hJ5 : J (rightsD r (stack.take (k + 1))) wr := by
          rw [rights_next Hi.out, Hx.out]
          simpa using hJ
        have HJ5 := Lib.hid hJ5
        clear hJ5
        have hJ6 : ∀ o, J (rightsD r (stack.take (k + 1))) (wr.alloc o) := fun o => HJ.out _ _ _ HJ5.out ((Below.refl _ wr).alloc (Nat.le_refl _) o)
        have hB6 : ∀ o, KeepS S W (wr.alloc o) := fun o => hB.alloc hS o
        have HJ6 := Lib.hid hJ6
        have HB6 := Lib.hid hB6
        clear hJ6 hB6
        gi_wp2
        refine ⟨trivial, ?_⟩
        gi_wp2
        refine ⟨fun _ h => (by cases h), ?_⟩
        gi_wp2
        go_roundw
        case rel => exact ⟨k + 1, by omega, by go_num, HJ6.out _, HB6.out _⟩
        case measure => simp [intOf]; omega
    · have d0 := (hB.cell (p := ⟨Bs, 0, none⟩) hBs).trans Cs.out
      have hJ2 : J (rightsD r stack ++ leftsD r (stack.reverse.take (((stack.length : Int) - 1 - ((stack.length : Int) - 1)).toNat))) wr := by
        have e : (((stack.length : Int) - 1 - ((stack.length : Int) - 1)).toNat) = 0 := by omega
        rw [e, List.take_zero]
        rw [show stack.take k = stack from List.take_of_length_le (by omega)] at hJ
        simpa [leftsD] using hJ
      clear hJ
      gi_wp2
      clear d0
      gi_loopw [7] (fun i wr => ∃ q : Int, -1 ≤ q ∧ q < stack.length ∧ i = .int .i64 q ∧ J (rightsD r stack ++ leftsD r (stack.reverse.take ((stack.length : Int) - 1 - q).toNat)) wr ∧ KeepS S W wr) (fun i _ => (intOf i + 1).toNat)
      case atStart => exact ⟨(stack.length : Int) - 1, by omega, by omega, by go_num, hJ2, hB⟩
      case round =>
        clear hB hJ2
        obtain ⟨q, hq1, hq2, rfl, hJ, hB⟩ := hrel
        by_cases hq0 : 0 ≤ q
        · obtain ⟨p, rfl⟩ := Int.eq_ofNat_of_zero_le hq0
          have hpl : p < stack.length := by omega
          obtain ⟨g, o, i, rfl, hb, hc1, hi⟩ := HA.out p hpl
          have Hi : Hid (stack[p]? = some i) := by
            show stack[p]? = some i
            have := hi.out
            simpa [List.getD_eq_getElem?_getD, List.getElem?_eq_getElem hpl] using this
          have him : i ∈ stack := List.mem_of_getElem? Hi.out
          obtain ⟨hi0, hi1⟩ := HR.out i him
          obtain ⟨a, rfl⟩ := Int.eq_ofNat_of_zero_le hi0
          have hal : a < r.ribs.length := by omega
          obtain ⟨x, hx⟩ : ∃ x, r.ribs[a]? = some x := ⟨_, List.getElem?_eq_getElem hal⟩
          obtain ⟨g2, o2, rfl, hb2, hd1, hd2, hd3, hd4, hd5⟩ := HA3.out a x hx
          have Hx : Hid (ribAt r a = x) := by
            show r.ribs.getD ((a : Int)).toNat default = x
            rw [Int.toNat_natCast, getD_of hx]
          have hbd := HB.out a him
          rw [Hx.out] at hbd
          rw [← hB.cell (p := ⟨g, o + p, none⟩) (hSB _ hb)] at hc1
          rw [← hB.cell (p := ⟨g2, o2 + a * 5, none⟩) (hSB _ hb2)] at hd1
          rw [← hB.cell (p := ⟨g2, o2 + a * 5 + 1, none⟩) (hSB _ hb2)] at hd2
          rw [← hB.cell (p := ⟨g2, o2 + a * 5 + 2, none⟩) (hSB _ hb2)] at hd3
          rw [← hB.cell (p := ⟨g2, o2 + a * 5 + 3, none⟩) (hSB _ hb2)] at hd4
          rw [← hB.cell (p := ⟨g2, o2 + a * 5 + 4, none⟩) (hSB _ hb2)] at hd5
          have e1 := (hB.cell (p := ⟨Bw, 1, none⟩) hBw).trans C1.out
          have e0 := (hB.cell (p := ⟨Bs, 0, none⟩) hBs).trans Cs.out
          have zr : B0 ≤ wr.heap.size := Nat.le_trans hBW hB.size
          clear hx hi
          obtain ⟨web, col, width, turned, left⟩ := x
          dsimp only at hd1 hd2 hd3 hd4 hd5 hbd
          have n1 : Bs < wr.heap.size := Nat.lt_of_lt_of_le (hS _ hBs) hB.size
          have n2 : Bw < wr.heap.size := Nat.lt_of_lt_of_le (hS _ hBw) hB.size
          have n3 : g < wr.heap.size := by omega
          have n4 : g2 < wr.heap.size := by omega
          have i1 : (p : Int) < (stack.length : Int) := by omega
          have i2 : (a : Int) < (r.ribs.length : Int) := by omega
          have hrev : stack.reverse[((stack.length : Int) - 1 - p).toNat]? = some (a : Int) := by
            rw [show ((stack.length : Int) - 1 - p).toNat = stack.length - 1 - p by omega, List.getElem?_reverse (by omega), show stack.length - 1 - (stack.length - 1 - p) = p by omega]
            exact Hi.out
          have hstep : ((stack.length : Int) - 1 - ((p : Int) - 1)).toNat = ((stack.length : Int) - 1 - p).toNat + 1 := by omega
          have hnext := lefts_next (r := r) hrev
          rw [Hx.out] at hnext
          have hyes : hasLeft ⟨web, col, width, turned, left⟩ = true → ∀ wq, J ((rightsD r stack ++ leftsD r (stack.reverse.take ((stack.length : Int) - 1 - p).toNat)) ++ [leftHalfD ⟨web, col, width, turned, left⟩]) wq →
              J (rightsD r stack ++ leftsD r (stack.reverse.take ((stack.length : Int) - 1 - ((p : Int) - 1)).toNat)) wq := fun h wq hj => by
            rw [hstep, hnext, if_pos h, ← List.append_assoc]; exact hj
          have hno : hasLeft ⟨web, col, width, turned, left⟩ = false → ∀ wq, J (rightsD r stack ++ leftsD r (stack.reverse.take ((stack.length : Int) - 1 - p).toNat)) wq →
              J (rightsD r stack ++ leftsD r (stack.reverse.take ((stack.length : Int) - 1 - ((p : Int) - 1)).toNat)) wq := fun h wq hj => by
            rw [hstep, hnext, h]; simpa using hj
          have hlen : (rightsD r stack ++ leftsD r (stack.reverse.take ((stack.length : Int) - 1 - p).toNat)).length < 2 * stack.length := by
            have h1 := rights_len r stack
            have h2 := lefts_len r (stack.reverse.take ((stack.length : Int) - 1 - p).toNat)
            rw [List.length_take] at h2
            rw [List.length_append]
            omega
          have hJ2 : ∀ o wq, Below (wr.alloc o).drew.heap.size (wr.alloc o).drew wq → J (rightsD r stack ++ leftsD r (stack.reverse.take ((stack.length : Int) - 1 - p).toNat)) wq ∧ KeepS S W wq := fun o wq h =>
            have hb : Below wr.heap.size wr (wr.alloc o).drew := ((Below.refl _ wr).alloc (Nat.le_refl _) o).drew
            ⟨HJ.out _ _ _ hJ (hb.trans (h.mono (by simp [World.drew]))), (hB.alloc hS o).drew.below hS h (Nat.le_refl _)⟩
          have hJ7 := fun o => hJ2 o _ (Below.refl _ _)
          have HJ7 := Lib.hid hJ7
          clear hJ7
          have Hyes := Lib.hid hyes
          have Hno := Lib.hid hno
          have Hlen := Lib.hid hlen
          have HJ2 := Lib.hid hJ2
          have Hbd := Lib.hid hbd
          clear hyes hno hlen hJ2 hbd hnext hstep hrev
          gi_wp2_with fail
          gi_region
          by_cases h2 : width = 2
          · have Hl : Hid (hasLeft ⟨web, col, width, turned, left⟩ = true) := by show hasLeft _ = true; simp [hasLeft, h2]
            have h2' : (width == 2) = true := by simpa using h2
            clear h2
            gi_wp2_with fail
            refine ⟨trivial, fun _ => by omega, callsIn_wide.2 ((leftHalf_any ⟨web, col, width, turned, left⟩ _ Hbd.out).mono ?_)⟩
            rintro e w3 ⟨rfl, hb3⟩
            obtain ⟨hJ3, hB3⟩ := HJ2.out _ _ hb3
            obtain ⟨fn, tmps, assign, body, hy, hR⟩ := HY.out _ (leftHalfD ⟨web, col, width, turned, left⟩) w3 hJ3 (Hlen.out)
            clear hb3
            unfold HalfD.val at hy ⊢
            gi_wp2_with fail
            refine ⟨fun _ => by omega, hR.mono ?_⟩
            rintro e w4 (⟨rfl, hJ4, hk4⟩ | ⟨rfl, hJx4⟩)
            · have hJ5 := Hyes.out (Hl.out) _ hJ4
              gi_wp2
              go_roundw
              case rel => exact ⟨(p : Int) - 1, by omega, by omega, by go_num, hJ5, hB3.trans hk4⟩
              case measure => simp [intOf]
            · gi_wp2
              refine bodyPost_ret (results_none rfl _ _ _) rfl ?_
              exact ⟨⟨_, rfl⟩, .inr ⟨_, trivial, hJx4⟩⟩
          · have h2' : (width == 2) = false := by simpa using h2
            cases hleft : left
            · have Hl : Hid (hasLeft ⟨web, col, width, turned, false⟩ = false) := by show hasLeft _ = false; simp [hasLeft, h2]
              subst hleft
              clear h2
              gi_wp2
              refine ⟨trivial, ?_⟩
              gi_wp2
              refine ⟨fun _ h => (by cases h), ?_⟩
              gi_wp2
              go_roundw
              case rel => exact ⟨(p : Int) - 1, by omega, by omega, by go_num, Hno.out Hl.out _ (HJ7.out _).1, (HJ7.out _).2⟩
              case measure => simp [intOf]
            · subst hleft
              have Hl : Hid (hasLeft ⟨web, col, width, turned, true⟩ = true) := by show hasLeft _ = true; simp [hasLeft]
              clear h2
              gi_wp2_with fail
              refine ⟨trivial, fun _ => by omega, callsIn_wide.2 ((leftHalf_any ⟨web, col, width, turned, true⟩ _ Hbd.out).mono ?_)⟩
              rintro e w3 ⟨rfl, hb3⟩
              obtain ⟨hJ3, hB3⟩ := HJ2.out _ _ hb3
              obtain ⟨fn, tmps, assign, body, hy, hR⟩ := HY.out _ (leftHalfD ⟨web, col, width, turned, true⟩) w3 hJ3 (Hlen.out)
              clear hb3
              unfold HalfD.val at hy ⊢
              gi_wp2_with fail
              refine ⟨fun _ => by omega, hR.mono ?_⟩
              rintro e w4 (⟨rfl, hJ4, hk4⟩ | ⟨rfl, hJx4⟩)
              · have hJ5 := Hyes.out (Hl.out) _ hJ4
                gi_wp2
                go_roundw
                case rel => exact ⟨(p : Int) - 1, by omega, by omega, by go_num, hJ5, hB3.trans hk4⟩
                case measure => simp [intOf]
              · gi_wp2
                refine bodyPost_ret (results_none rfl _ _ _) rfl ?_
                exact ⟨⟨_, rfl⟩, .inr ⟨_, trivial, hJx4⟩⟩
        · have hJ5 : J (halvesD r stack) wr := by
            have : stack.reverse.take ((stack.length : Int) - 1 - q).toNat = stack.reverse := List.take_of_length_le (by rw [List.length_reverse]; omega)
            rw [this] at hJ
            exact hJ
          have HJ5 := Lib.hid hJ5
          clear hJ5
          gi_wp2
          go_end0
          exact ⟨⟨_, rfl⟩, .inl HJ5.out⟩
end Go.Proofs.Ytdbfhdncjblleaa
namespace Go.Proofs.Ytdbfhdncjblleaa
open Go.RowKit Go.Shelf
attribute [local go_sem] Oper.semAt_some

theorem infoSpot : (Try.prog.info? 53).map (fun i => (i.zero, i.size, i.bytes)) = some (some (.agg #[.int .i64 0, .int .i64 0, .int .i64 0, .int .i64 0]), 4, 32) := by kernel_rfl

theorem idx2 (a b : Int) (w : World) : (Instr.index 159 (.agg #[.int .i64 a, .int .i64 b]) (.int .i64 0)).run Try.prog w = .ok (.int .i64 a) w := by kernel_rfl
theorem idx2' (a b : Int) (w : World) : (Instr.index 159 (.agg #[.int .i64 a, .int .i64 b]) (.int .i64 1)).run Try.prog w = .ok (.int .i64 b) w := by kernel_rfl

def outD (row : Int) (l : List HalfD) : List SpotD := l.flatMap (halfSpots row)
def cellsOf (l : List SpotD) : List Value := l.flatMap SpotD.cells
theorem outD_len (row : Int) (l : List HalfD) : (outD row l).length = 2 * l.length := by
  unfold outD
  induction l with
  | nil => rfl
  | cons x l ih => rw [List.flatMap_cons, List.length_append, ih]; simp [halfSpots]; omega

theorem outD_snoc (row : Int) (pre : List HalfD) (x : HalfD) : outD row (pre ++ [x]) = outD row pre ++ halfSpots row x := by simp [outD]
theorem cellsOf_len (l : List SpotD) : (cellsOf l).length = l.length * 4 := flat_get SpotD.cells 4 (fun _ => rfl) l
theorem ownsRow_base {w : World} {b b' : Nat} {e : TypeId} {k n : Nat} {v : Value} {xs : List Value} (h : w.ownsRow b e k v n xs) (hb : b' ≤ b) : w.ownsRow b' e k v n xs := by
  refine ⟨h.1, ?_⟩
  rcases h.2 with h2 | ⟨g, cap, cur, hv, hg, r⟩
  · exact .inl h2
  · exact .inr ⟨g, cap, cur, hv, by omega, r⟩
theorem grownBy_below {A B : World} (h : Below A.heap.size A B) (row : Option Nat) : A.grownBy B row := ⟨h.os, h.tape, h.output, h.size, fun i hi _ => h.block i hi⟩
/-- Behind an append to a row of our own, the value stored back into its box: all that lies elsewhere lies as it lay. -/
theorem appended2 {W w1 : World} {n₀ B : Nat} {t e : TypeId} {size : Nat} {v v' : Value} {k m : Nat} {xs ys : List Value} {tmp : Obj}
    (hv : Boxed W B t v) (hte : t ≠ e) (hrow : W.ownsRow n₀ e size v k xs)
    (hown' : w1.ownsRow n₀ e size v' m ys) (hgrow : (W.alloc tmp).grownBy w1 v.ownBlock) :
    Boxed w1 B t v ∧ Boxed (w1.setCell ⟨B, 0, none⟩ v') B t v' ∧ (w1.setCell ⟨B, 0, none⟩ v').ownsRow n₀ e size v' m ys ∧ KeepsOthers W (w1.setCell ⟨B, 0, none⟩ v') ∧
      (∀ i, i < W.heap.size → i ≠ B → some i ≠ v.ownBlock → (w1.setCell ⟨B, 0, none⟩ v').heap[i]? = W.heap[i]?) ∧ W.heap.size ≤ w1.heap.size ∧ (∀ n, n ≤ n₀ → n ≤ B → n ≤ W.heap.size → Below n W (w1.setCell ⟨B, 0, none⟩ v')) := by
  have hv1 : Boxed w1 B t v := (hv.alloc tmp).kept hgrow (hv.not_row hte hrow)
  have hsz : W.heap.size ≤ w1.heap.size := by have := hgrow.size; simp at this; omega
  have hnb : ∀ j, v.ownBlock = some j → n₀ ≤ j := fun j ej => by
    rcases hrow.2 with ⟨rfl, _⟩ | ⟨g, cap, cur, rfl, hb, _⟩
    · simp [Value.ownBlock] at ej
    · obtain rfl : g = j := by simpa [Value.ownBlock] using ej
      exact hb
  refine ⟨hv1, hv1.set v', hown'.kept (grownBy_setCell' w1 B v') (.inr (hv1.not_row hte hown').symm), ?_, fun i hi hB hne => ?_, hsz, fun n h1 h2 h3 => ?_⟩
  · refine ((KeepsOthers.alloc W tmp).trans (KeepsOthers.of_grownBy hgrow fun j o ej hj => ?_)).trans (KeepsOthers.setCell _ _ _)
    rcases (hrow.alloc tmp).2 with ⟨rfl, _⟩ | ⟨g, cap, cur, rfl, _, hgb, _⟩
    · simp [Value.ownBlock] at ej
    · obtain rfl : g = j := by simpa [Value.ownBlock] using ej
      rw [hgb] at hj; cases hj; rfl
  · rw [Below.heap_setCell _ _ _ i hB, hgrow.block i (by simp; omega) hne, Below.heap_alloc W tmp i hi]
  · exact ((((Below.refl n W).alloc h3 tmp).grown hgrow (by simp; omega) fun j ej => by have := hnb j ej; omega)).setCell (p := ⟨B, 0, none⟩) h2 v'

/-- The four cells of a half in its box. -/
def Box4 (W : World) (B : Nat) (t : TypeId) (a b c d : Value) : Prop := W.heap[B]? = some (.cells #[a, b, c, d] t (0, 0))
theorem Box4.cell {W : World} {B : Nat} {t : TypeId} {a b c d : Value} (h : Box4 W B t a b c d) (j : Nat) : W.cell? ⟨B, j, none⟩ = #[a, b, c, d][j]? := cell_of_row W B j _ t (0, 0) h

theorem not_row' {W : World} {B : Nat} {t e : TypeId} {cs : Array Value} {fr : Nat × Nat} (h : W.heap[B]? = some (.cells cs t fr)) (hte : t ≠ e) {base size k : Nat} {v : Value} {xs : List Value} (hr : W.ownsRow base e size v k xs) : some B ≠ v.ownBlock := by
  rcases hr.2 with ⟨rfl, _⟩ | ⟨g, cap, cur, rfl, _, hgb, _⟩
  · simp [Value.ownBlock]
  · intro e'
    obtain rfl : B = g := by simpa [Value.ownBlock] using e'
    have := h.symm.trans hgb
    simp at this
    exact hte this.2.1

/-- What one spot more does to all that the round keeps. -/
theorem step_in {W wr w1 w W0 : World} {b1 b2 b3 b4 Bx m : Nat} {row : Int} {x : HalfD} {u v' : Value} {tI tO tS tH : TypeId} {xs ys : List Value} {tmp : Obj}
    (l0 : w.heap.size < b1) (l1 : b1 < b2) (l2 : b2 < b3) (l3 : b3 < b4) (l4 : b4 < W0.heap.size) (hBx : W0.heap.size ≤ Bx) (hI : tI ≠ tS) (hO : tO ≠ tS) (hH : tH ≠ tS)
    (hu1 : Boxed wr b2 tO u) (hu2 : wr.ownsRow W0.heap.size tS 4 u m xs) (hu3 : Boxed wr b1 tI (.int .i64 row)) (bX : Box4 wr Bx tH (.int .i64 x.web) (.int .i64 x.col) (.int .i64 x.s0) (.int .i64 x.s1))
    (hkf : KeepsFrom W0.heap.size W wr) (hks : KeepS (fun k => k < w.heap.size ∨ k = b3 ∨ k = b4) W wr) (hu4 : Below w.heap.size w wr) (hu5 : W0.heap.size ≤ wr.heap.size)
    (hown' : w1.ownsRow W0.heap.size tS 4 v' (m + 1) ys) (hgrow : (wr.alloc tmp).grownBy w1 u.ownBlock) {zs : List Value} (hz : ys = zs) :
    (∃ u, Boxed (w1.setCell ⟨b2, 0, none⟩ v') b2 tO u ∧ (w1.setCell ⟨b2, 0, none⟩ v').ownsRow W0.heap.size tS 4 u (m + 1) zs) ∧ Boxed (w1.setCell ⟨b2, 0, none⟩ v') b1 tI (.int .i64 row) ∧
      Box4 (w1.setCell ⟨b2, 0, none⟩ v') Bx tH (.int .i64 x.web) (.int .i64 x.col) (.int .i64 x.s0) (.int .i64 x.s1) ∧ KeepsFrom W0.heap.size W (w1.setCell ⟨b2, 0, none⟩ v') ∧
      KeepS (fun k => k < w.heap.size ∨ k = b3 ∨ k = b4) W (w1.setCell ⟨b2, 0, none⟩ v') ∧ Below w.heap.size w (w1.setCell ⟨b2, 0, none⟩ v') ∧ W0.heap.size ≤ (w1.setCell ⟨b2, 0, none⟩ v').heap.size := by
  obtain ⟨-, hv2, hr2, hk2, hsame, hsz, hbel⟩ := appended2 hu1 hO hu2 hown' hgrow
  have hlt := hu2.lt
  subst hz
  refine ⟨⟨_, hv2, hr2⟩, (hsame b1 hu3.lt (by omega) (hu3.not_row hI hu2)).trans hu3, (hsame Bx (Array.getElem?_eq_some_iff.1 bX).1 (by omega) (not_row' bX hH hu2)).trans bX, hkf.trans (hk2.from _), ?_, hu4.trans (hbel _ (by omega) (by omega) (by omega)), by simp [World.setCell]; omega⟩
  refine hks.trans ⟨by simp [World.setCell]; omega, fun k hk => hsame k (by omega) (by omega) fun e => ?_⟩
  have := (hlt k e.symm).1
  omega

set_option maxRecDepth 100000 in
set_option maxHeartbeats 2000000 in
theorem spots_any (v vs : Value) (r : RunD) (stack : List Int) (row : Int) (w : World) (h : RRun w.heap.size w v r) (hs : RInts w.heap.size w vs stack) (hl32 : stack.length ≤ 1000000)
    (hribs : ∀ i ∈ stack, 0 ≤ i ∧ i < r.ribs.length) (hrb : ∀ i ∈ stack, 0 ≤ (ribAt r i).col ∧ (ribAt r i).col ≤ 1000 ∧ 0 ≤ (ribAt r i).width ∧ (ribAt r i).width ≤ 1000) :
    Calls Try.prog 80 #[v, vs, .int .i64 row] w fun e w' => ∃ u, e = .returned u ∧ w'.ownsRow w.heap.size 53 4 u (spotsD r stack row).length (cellsOf (spotsD r stack row)) ∧ Below w.heap.size w w' := by
  obtain ⟨i0, hi, hz0, hz1, hz2⟩ := info_parts infoSpot
  have hst := Lib.hid hs
  have HR := Lib.hid hribs
  have HB := Lib.hid hrb
  obtain ⟨v1, v2, v3, rfl, -, hrr, -⟩ := h
  have hrib := Lib.hid hrr
  obtain ⟨A, ca, rfl, -⟩ := slice_len hs
  clear hs hribs hrb hrr
  have k0 := idx2
  have k1 := idx2'
  refine (callsIn_wide (n := 10)).1 ?_
  refine callsIn_of_wp_marks Try.func80 rfl trivial ?_ rfl
  simp only [Try.ntmps80, List.size_toArray, List.length_cons, List.length_nil, Nat.reduceAdd, Nat.reduceSub, Array.replicate_succ, Array.replicate_zero, List.push_toArray, List.append_toArray, List.nil_append, List.cons_append]
  gi_wp2_with fail
  refine ⟨trivial, callsIn_wide.2 ((halves_any v1 v2 v3 r.coll A stack.length ca _).mono ?_)⟩
  rintro e w3 ⟨rfl, rfl⟩
  gi_wp2_with fail
  have F0 : ∃ W0, ((((w.alloc (.cells #[v1, v2, v3, .bool r.coll] 111)).alloc (.cells #[.int .i64 row] 3)).alloc (.cells #[.slice none 0 0] 127)).alloc (.cells #[v1, v2, v3, .bool r.coll] 111)).alloc (.cells #[.slice A stack.length ca] 48) = W0 ∧
      W0.heap.size = w.heap.size + 5 ∧ Boxed W0 (w.heap.size + 1) 3 (.int .i64 row) ∧ Boxed W0 (w.heap.size + 1 + 1) 127 (.slice none 0 0) ∧ W0.cell? ⟨w.heap.size + 1 + 1 + 1 + 1, 0, none⟩ = some (.slice A stack.length ca) ∧ W0.cell? ⟨w.heap.size + 1 + 1 + 1, 1, none⟩ = some v2 ∧ Below w.heap.size w W0 := by
    refine ⟨_, rfl, by simp, ?_, ?_, ?_, ?_, ?_⟩
    · have := Boxed.new (w.alloc (.cells #[v1, v2, v3, .bool r.coll] 111)) 3 (.int .i64 row)
      rw [World.size_alloc] at this
      exact ((this.alloc _).alloc _).alloc _
    · have := Boxed.new ((w.alloc (.cells #[v1, v2, v3, .bool r.coll] 111)).alloc (.cells #[.int .i64 row] 3)) 127 (.slice none 0 0)
      rw [World.size_alloc, World.size_alloc] at this
      exact (this.alloc _).alloc _
    · rw [World.cell?_alloc_at _ _ _ _ (by simp)]; rfl
    · rw [World.cell?_alloc_past _ _ _ (by simp), World.cell?_alloc_at _ _ _ _ (by simp)]; rfl
    · exact ((((((Below.refl _ w).alloc (Nat.le_refl _) _).alloc (by simp) _).alloc (by simp; omega) _).alloc (by simp; omega) _).alloc (by simp; omega) _)
  obtain ⟨W0, e0, hz, hbR, hbO, hcS, hcW, hB0⟩ := F0
  rw [e0]
  clear e0
  generalize e4 : w.heap.size + 1 + 1 + 1 + 1 = b4 at *
  generalize e3 : w.heap.size + 1 + 1 + 1 = b3 at *
  generalize e2 : w.heap.size + 1 + 1 = b2 at *
  generalize e1 : w.heap.size + 1 = b1 at *
  have l1 : b1 < b2 := by omega
  have l2 : b2 < b3 := by omega
  have l3 : b3 < b4 := by omega
  have l4 : b4 < W0.heap.size := by omega
  have l0 : w.heap.size < b1 := by omega
  clear e4 e3 e2 e1 hz
  refine wpIn_rangeFunc_ownH rfl (by omega) (gf := 85) (lb := #[.pointer (some ⟨b4, 0, none⟩), .pointer (some ⟨b3, 0, none⟩)]) rfl trivial (enters_of Try.func85 (by kernel_rfl) rfl)
    (encs := fun x : HalfD => #[x.val]) (Kp := KeepS (fun k => k < w.heap.size ∨ k = b3 ∨ k = b4)) (S := fun ys => ys = halvesD r stack) (Sp := fun _ => True) (N := 2 * stack.length) (w0 := W0)
    (fun l J Jx W hW hJ hJx hY h0 => iter_in 9 (by omega) l w.heap.size b4 b3 (fun k => k < w.heap.size ∨ k = b3 ∨ k = b4) v1 v2 v3 (.slice A stack.length ca) r stack J Jx (fun pre X Y hX hXY => hJ pre X Y none hX (grownBy_below hXY none) (fun r e => by cases e)) (.inr (.inr rfl)) (.inr (.inl rfl)) (fun k hk => .inl hk)
      HR.out HB.out hY W (by have := hW.size; omega) (fun k hk => by have := hW.size; omega) ((hW.cell (p := ⟨b4, 0, none⟩) l4).trans hcS) ((hW.cell (p := ⟨b3, 1, none⟩) (by show b3 < _; omega)).trans hcW)
      (hst.out.below (hB0.trans (hW.mono (by omega)))) (hrib.out.below (hB0.trans (hW.mono (by omega)))) h0)
    (fun h k => h.trans k) (fun W l o o' hl ho _ _ => ⟨by simp, fun k hk => World.putObj_heap_other (by omega)⟩) (Below.refl _ _) (fun _ => rfl)
    (fun pre W => ((∃ u, Boxed W b2 127 u ∧ W.ownsRow W0.heap.size 53 4 u (outD row pre).length (cellsOf (outD row pre)) ∧ True) ∧ Boxed W b1 3 (.int .i64 row)) ∧ (Below w.heap.size w W ∧ W0.heap.size ≤ W.heap.size))
    (fun _ _ _ => False)
    (OwnFrom.and (OwnFrom.and (Own.from (holdsRow_own W0.heap.size b2 _ _ 4 (fun pre => (outD row pre).length) (fun pre => cellsOf (outD row pre)) (fun _ _ => True)) _) (Own.from (boxed_own b1 _ (fun _ => .int .i64 row)) _))
      (OwnFrom.and (ownFrom_below (Nat.le_refl _) (by omega)) (fun _ _ _ _ hs hg _ => Nat.le_trans hs hg.size)))
    (fun _ _ _ _ _ hs _ _ => hs)
    ⟨⟨⟨_, hbO, World.ownsRow_nil _ _ _ _, trivial⟩, hbR⟩, hB0, Nat.le_refl _⟩
    (fun x a' W => ∃ Bx, W0.heap.size ≤ Bx ∧ Box4 W Bx 161 (.int .i64 x.web) (.int .i64 x.col) (.int .i64 x.s0) (.int .i64 x.s1) ∧ a' = { tmps := #[.agg #[v1, v2, v3, .bool r.coll], .slice A stack.length ca, .int .i64 row, .pointer (some ⟨w.heap.size, 0, none⟩), undef, .pointer (some ⟨b1, 0, none⟩), .slice none 0 0, .pointer (some ⟨b2, 0, none⟩), .pointer (some ⟨Bx, 0, none⟩), undef, undef,
      .agg #[v1, v2, v3, .bool r.coll], .slice A stack.length ca, .func (.func 85) #[] #[.pointer (some ⟨b4, 0, none⟩), .pointer (some ⟨b3, 0, none⟩)], x.val, undef, undef, undef, undef, undef, undef, undef, undef, undef, undef, undef, undef, undef, undef, undef, undef, undef], defers := [] })
    (fun x a' _ X Y row hs hg hr => by
      obtain ⟨Bx, h1, h2, h3⟩ := hs
      refine ⟨Bx, h1, (hg.block Bx (Array.getElem?_eq_some_iff.1 h2).1 (fun e => ?_)).trans h2, h3⟩
      obtain ⟨-, o, ho, hc⟩ := hr Bx e.symm
      rw [show X.heap[Bx]? = _ from h2] at ho; cases ho; cases hc)
    ?assign ?body ?done ?stop
  case assign =>
    rintro l pre x W K ⟨⟨⟨u, hu1, hu2, -⟩, hu3⟩, hu4, hu5⟩ hK
    unfold HalfD.val at hK ⊢
    gi_wp2
    exact hK _ _ ((KeepsOthers.alloc _ _).from _) ((KeepS.refl _ W).alloc (fun k hk => by omega) _) ⟨⟨⟨u, hu1.alloc _, hu2.alloc _, trivial⟩, hu3.alloc _⟩, hu4.alloc (by omega) _, by simp; omega⟩ ⟨W.heap.size, hu5, World.alloc_heap_new W _, rfl⟩
  case stop =>
    rintro D c pre W _ _ h _
    exact h.elim
  case done =>
    rintro D ys W hD rfl ⟨⟨⟨u, hu1, hu2, -⟩, hu3⟩, hu4, hu5⟩ hK
    have hc := hu1.cell
    gi_wp2
    refine ⟨by simp, .inl ⟨_, _, rfl, run_takeDeferred hK, ?_⟩⟩
    exact ⟨_, results_tmp rfl _ _ _, u, rfl, ownsRow_base (ownsRow_putObj hu2 _ hK rfl) (by omega), hu4.trans (belowK_b (w := w) (Nat.le_refl _) W D _ _ (by omega) hK rfl rfl)⟩
  case body =>
    rintro l pre x a' W hl ⟨rr, hr⟩ ⟨⟨⟨u, hu1, hu2, -⟩, hu3⟩, hu4, hu5⟩ ⟨Bx, hBx, bX, rfl⟩ hlen
    have hol := outD_len row pre
    have hcount : (outD row pre).length ≤ 4000000 := by omega
    have Hol := Lib.hid hol
    clear hol
    have x2 : W.cell? ⟨Bx, 2, none⟩ = some (.int .i64 x.s0) := bX.cell 2
    have x3 : W.cell? ⟨Bx, 3, none⟩ = some (.int .i64 x.s1) := bX.cell 3
    gi_wp2
    clear x2 x3
    gi_loopw [17] (fun i wr => ∃ k : Nat, k ≤ 2 ∧ i = .int .i64 k ∧ (∃ u, Boxed wr b2 127 u ∧ wr.ownsRow W0.heap.size 53 4 u ((outD row pre).length + k) (cellsOf (outD row pre ++ (halfSpots row x).take k))) ∧ Boxed wr b1 3 (.int .i64 row) ∧
      Box4 wr Bx 161 (.int .i64 x.web) (.int .i64 x.col) (.int .i64 x.s0) (.int .i64 x.s1) ∧ KeepsFrom W0.heap.size W wr ∧ KeepS (fun k => k < w.heap.size ∨ k = b3 ∨ k = b4) W wr ∧ Below w.heap.size w wr ∧ W0.heap.size ≤ wr.heap.size) (fun i _ => 2 - (intOf i).toNat)
    case atStart => exact ⟨0, by omega, rfl, ⟨u, hu1, by simpa using hu2⟩, hu3, bX, KeepsFrom.refl _ _, KeepS.refl _ _, hu4, hu5⟩
    case round =>
      clear hu1 hu2 hu3 hu4 hu5 bX
      obtain ⟨k, hk, rfl, ⟨u, hu1, hu2⟩, hu3, bX, hkf, hks, hu4, hu5⟩ := hrel
      have hc := hu1.cell
      have hr1 := hu3.cell
      have x0 : wr.cell? ⟨Bx, 0, none⟩ = some (.int .i64 x.web) := bX.cell 0
      have x1 : wr.cell? ⟨Bx, 1, none⟩ = some (.int .i64 x.col) := bX.cell 1
      obtain rfl | rfl | rfl : k = 0 ∨ k = 1 ∨ k = 2 := by omega
      · have HE : Hid (cellsOf (outD row pre ++ (halfSpots row x).take 0) ++ [.int .i64 x.web, .int .i64 x.s0, .int .i64 row, .int .i64 x.col] = cellsOf (outD row pre ++ (halfSpots row x).take 1)) := by
          show cellsOf (outD row pre ++ (halfSpots row x).take 0) ++ [.int .i64 x.web, .int .i64 x.s0, .int .i64 row, .int .i64 x.col] = cellsOf (outD row pre ++ (halfSpots row x).take 1)
          simp [cellsOf, halfSpots, SpotD.cells]
        gi_wp2_with (gi_at_builtin; refine wpListIn_append_own _ rfl _ _ 127 rfl W0.heap.size 53 i0 (.agg #[.int .i64 0, .int .i64 0, .int .i64 0, .int .i64 0]) 4 32 Try.underlying127 hi hz0 hz1 hz2 rfl (by decide) _ _ _ rfl (hu2.alloc _) ⟨wr.heap.size, 0, none⟩ 1 1 [.int .i64 x.web, .int .i64 x.s0, .int .i64 row, .int .i64 x.col] rfl rfl (cells_new _ _ _) (by simp [Value.oneCell']) (by simp only [maxLen]; omega) (by omega) (by simp; omega) ?_; intro v' w1 hown' hgrow _; obtain ⟨g', cap', rfl⟩ := ownsRow_succ hown'; have hv1 := (appended2 hu1 (by decide) hu2 hown' hgrow).1; have hc1 := hv1.cell; have hf1 := hv1.frozen; have HS := Lib.hid (step_in l0 l1 l2 l3 l4 hBx (by decide) (by decide) (by decide) hu1 hu2 hu3 bX hkf hks hu4 hu5 hown' hgrow HE.out))
        obtain ⟨hs1, hs2, hs3, hs4, hs5, hs6, hs7⟩ := HS.out
        go_roundw
        case rel => exact ⟨1, by omega, rfl, hs1, hs2, hs3, hs4, hs5, hs6, hs7⟩
        case measure => simp [intOf]
      · have HE : Hid (cellsOf (outD row pre ++ (halfSpots row x).take 1) ++ [.int .i64 x.web, .int .i64 x.s1, .int .i64 row, .int .i64 x.col] = cellsOf (outD row pre ++ (halfSpots row x).take 2)) := by
          show cellsOf (outD row pre ++ (halfSpots row x).take 1) ++ [.int .i64 x.web, .int .i64 x.s1, .int .i64 row, .int .i64 x.col] = cellsOf (outD row pre ++ (halfSpots row x).take 2)
          simp [cellsOf, halfSpots, SpotD.cells]
        gi_wp2_with (gi_at_builtin; refine wpListIn_append_own _ rfl _ _ 127 rfl W0.heap.size 53 i0 (.agg #[.int .i64 0, .int .i64 0, .int .i64 0, .int .i64 0]) 4 32 Try.underlying127 hi hz0 hz1 hz2 rfl (by decide) _ _ _ rfl (hu2.alloc _) ⟨wr.heap.size, 0, none⟩ 1 1 [.int .i64 x.web, .int .i64 x.s1, .int .i64 row, .int .i64 x.col] rfl rfl (cells_new _ _ _) (by simp [Value.oneCell']) (by simp only [maxLen]; omega) (by omega) (by simp; omega) ?_; intro v' w1 hown' hgrow _; obtain ⟨g', cap', rfl⟩ := ownsRow_succ hown'; have hv1 := (appended2 hu1 (by decide) hu2 hown' hgrow).1; have hc1 := hv1.cell; have hf1 := hv1.frozen; have HS := Lib.hid (step_in l0 l1 l2 l3 l4 hBx (by decide) (by decide) (by decide) hu1 hu2 hu3 bX hkf hks hu4 hu5 hown' hgrow HE.out))
        obtain ⟨hs1, hs2, hs3, hs4, hs5, hs6, hs7⟩ := HS.out
        go_roundw
        case rel => exact ⟨2, by omega, rfl, hs1, hs2, hs3, hs4, hs5, hs6, hs7⟩
        case measure => simp [intOf]
      · have HE : Hid (outD row pre ++ (halfSpots row x).take 2 = outD row (pre ++ [x])) := by
          show outD row pre ++ (halfSpots row x).take 2 = outD row (pre ++ [x])
          rw [outD_snoc]; rfl
        have HN : Hid ((outD row (pre ++ [x])).length = (outD row pre).length + 2) := by
          show (outD row (pre ++ [x])).length = (outD row pre).length + 2
          rw [outD_snoc, List.length_append]; rfl
        have HF : (∃ u, Boxed wr b2 127 u ∧ wr.ownsRow W0.heap.size 53 4 u (outD row (pre ++ [x])).length (cellsOf (outD row (pre ++ [x]))) ∧ True) := ⟨u, hu1, by rw [HN.out, ← HE.out]; exact hu2, trivial⟩
        have HF2 := Lib.hid HF
        clear HF
        gi_wp2
        exact ⟨hkf, hks, ⟨HF2.out, hu3⟩, hu4, hu5⟩
end Go.Proofs.Ytdbfhdncjblleaa
namespace Go.Proofs.Ytdbfhdncjblleaa
open Go.RowKit

/-- All blocks of cells whose elements are not of type e lie as they lay. -/
def Grew (e : TypeId) (w w1 : World) : Prop := ∀ (g : Nat) (cs : Array Value) (t : TypeId) (fr : Nat × Nat), w.heap[g]? = some (Obj.cells cs t fr) → t ≠ e → w1.heap[g]? = w.heap[g]?
theorem Grew.of_below {e : TypeId} {w w1 : World} (h : Below w.heap.size w w1) : Grew e w w1 := fun g _ _ _ hg _ => h.block g (Array.getElem?_eq_some_iff.1 hg).1
theorem Grew.of_append {e : TypeId} {w w1 : World} {base k n : Nat} {v : Value} {xs : List Value} {tmp : Obj} (hr : w.ownsRow base e k v n xs) (hg : (w.alloc tmp).grownBy w1 v.ownBlock) : Grew e w w1 := fun g cs t fr hc hne => by
  have hlt : g < w.heap.size := (Array.getElem?_eq_some_iff.1 hc).1
  rw [hg.block g (by simp; omega) (not_row' hc hne hr), Below.heap_alloc w tmp g hlt]
theorem Grew.trans {e : TypeId} {a b c : World} (h : Grew e a b) (k : Grew e b c) : Grew e a c := fun g cs t fr hc hne => by
  have h1 := h g cs t fr hc hne
  rw [k g cs t fr (h1.trans hc) hne, h1]
theorem ownsRow_grew {e e' : TypeId} {w w1 : World} {base k n : Nat} {v : Value} {xs : List Value} (h : w.ownsRow base e' k v n xs) (hg : Grew e w w1) (hne : e' ≠ e) : w1.ownsRow base e' k v n xs := by
  refine ⟨h.1, ?_⟩
  rcases h.2 with h2 | ⟨g, cap, cur, hv, hb, hh, r⟩
  · exact .inl h2
  · exact .inr ⟨g, cap, cur, hv, hb, (hg g _ _ _ hh hne).trans hh, r⟩
theorem ownsRow_below {e : TypeId} {w w1 : World} {base k n : Nat} {v : Value} {xs : List Value} (h : w.ownsRow base e k v n xs) (hb : Below w.heap.size w w1) : w1.ownsRow base e k v n xs := by
  refine ⟨h.1, ?_⟩
  rcases h.2 with h2 | ⟨g, cap, cur, hv, hb2, hh, r⟩
  · exact .inl h2
  · exact .inr ⟨g, cap, cur, hv, hb2, (hb.block g (Array.getElem?_eq_some_iff.1 hh).1).trans hh, r⟩
theorem ownsRow_form {e : TypeId} {w : World} {base k n : Nat} {v : Value} {xs : List Value} (h : w.ownsRow base e k v n xs) : ∃ A c, v = .slice A n c := by
  rcases h.2 with ⟨rfl, rfl⟩ | ⟨g, cap, cur, rfl, _⟩
  · exact ⟨_, _, rfl⟩
  · exact ⟨_, _, rfl⟩

/-- A slice of one's own, whose elements (one cell each) read by R. -/
def OAll {α : Type} (R : World → Value → α → Prop) (e : TypeId) (base : Nat) (w : World) (v : Value) (vs : List Value) (l : List α) : Prop :=
  w.ownsRow base e 1 v l.length vs ∧ ∀ (i : Nat) (u : Value) (x : α), vs[i]? = some u → l[i]? = some x → R w u x
theorem OAll.nil {α : Type} {R : World → Value → α → Prop} {e : TypeId} {base : Nat} {w : World} : OAll R e base w (.slice none 0 0) [] ([] : List α) := ⟨World.ownsRow_nil _ _ _ _, fun i u x h => by simp at h⟩
theorem OAll.len {α : Type} {R : World → Value → α → Prop} {e : TypeId} {base : Nat} {w : World} {v : Value} {vs : List Value} {l : List α} (h : OAll R e base w v vs l) : vs.length = l.length := by simpa using h.1.1
theorem OAll.append {α : Type} {R : World → Value → α → Prop} {e : TypeId} {base : Nat} {w w1 : World} {v v' u : Value} {vs : List Value} {l : List α} {x : α}
    (h : OAll R e base w v vs l) (hk : ∀ u x, R w u x → R w1 u x) (hR : R w u x) (hown : w1.ownsRow base e 1 v' (l.length + 1) (vs ++ [u])) : OAll R e base w1 v' (vs ++ [u]) (l ++ [x]) := by
  refine ⟨by simpa using hown, fun i u' x' hu hx => ?_⟩
  have hl := h.len
  rcases Nat.lt_or_ge i l.length with hi | hi
  · rw [List.getElem?_append_left (by omega)] at hu
    rw [List.getElem?_append_left hi] at hx
    exact hk _ _ (h.2 i u' x' hu hx)
  · rw [List.getElem?_append_right (by omega)] at hu
    rw [List.getElem?_append_right hi] at hx
    have hi0 : i - l.length = 0 := by
      rcases Nat.eq_zero_or_pos (i - l.length) with h0 | h0
      · exact h0
      · rw [List.getElem?_eq_none (by simp; omega)] at hx; cases hx
    rw [hl, hi0] at hu
    rw [hi0] at hx
    simp only [List.getElem?_cons_zero, Option.some.injEq] at hu hx
    subst hu hx
    exact hk _ _ hR
theorem OAll.keep {α : Type} {R : World → Value → α → Prop} {e e' : TypeId} {base : Nat} {w w1 : World} {v : Value} {vs : List Value} {l : List α} (h : OAll R e base w v vs l) (hg : Grew e' w w1) (hne : e ≠ e') (hk : ∀ u x, R w u x → R w1 u x) : OAll R e base w1 v vs l :=
  ⟨ownsRow_grew h.1 hg hne, fun i u x hu hx => hk _ _ (h.2 i u x hu hx)⟩
theorem OAll.below {α : Type} {R : World → Value → α → Prop} {e : TypeId} {base : Nat} {w w1 : World} {v : Value} {vs : List Value} {l : List α} (h : OAll R e base w v vs l) (hb : Below w.heap.size w w1) (hk : ∀ u x, R w u x → R w1 u x) : OAll R e base w1 v vs l :=
  ⟨ownsRow_below h.1 hb, fun i u x hu hx => hk _ _ (h.2 i u x hu hx)⟩
theorem OAll.base_ {α : Type} {R R' : World → Value → α → Prop} {e : TypeId} {b b' : Nat} {w : World} {v : Value} {vs : List Value} {l : List α} (h : OAll R e b w v vs l) (hb : b' ≤ b) (hR : ∀ u x, R w u x → R' w u x) : OAll R' e b' w v vs l :=
  ⟨ownsRow_base h.1 hb, fun i u x hu hx => hR _ _ (h.2 i u x hu hx)⟩

def OSpots (base : Nat) (w : World) (v : Value) (l : List SpotD) : Prop := w.ownsRow base 53 4 v l.length (cellsOf l)
def OSecs (base : Nat) (w : World) (v : Value) (l : List (List SpotD)) : Prop := ∃ vs, OAll (OSpots base) 127 base w v vs l
def OCopies (base : Nat) (w : World) (v : Value) (l : List (List (List SpotD))) : Prop := ∃ vs, OAll (OSecs base) 115 base w v vs l
section
variable {base b' : Nat} {w w1 : World} {v : Value} {e : TypeId}
theorem OSpots.grew {l : List SpotD} (h : OSpots base w v l) (hg : Grew e w w1) (hne : 53 ≠ e) : OSpots base w1 v l := ownsRow_grew h hg hne
theorem OSpots.base_ {l : List SpotD} (h : OSpots base w v l) (hb : b' ≤ base) : OSpots b' w v l := ownsRow_base h hb
theorem OSecs.grew {l : List (List SpotD)} (h : OSecs base w v l) (hg : Grew e w w1) (h1 : 127 ≠ e) (h2 : 53 ≠ e) : OSecs base w1 v l := by
  obtain ⟨vs, h⟩ := h
  exact ⟨vs, h.keep hg h1 fun _ _ hr => hr.grew hg h2⟩
theorem OSpots.below {l : List SpotD} (h : OSpots base w v l) (hb : Below w.heap.size w w1) : OSpots base w1 v l := ownsRow_below h hb
theorem OSecs.below {l : List (List SpotD)} (h : OSecs base w v l) (hb : Below w.heap.size w w1) : OSecs base w1 v l := by
  obtain ⟨vs, h⟩ := h
  exact ⟨vs, h.below hb fun _ _ hr => hr.below hb⟩
theorem OSecs.base_ {l : List (List SpotD)} (h : OSecs base w v l) (hb : b' ≤ base) : OSecs b' w v l := by
  obtain ⟨vs, h⟩ := h
  exact ⟨vs, h.base_ hb fun _ _ hr => hr.base_ hb⟩
theorem OCopies.base_ {l : List (List (List SpotD))} (h : OCopies base w v l) (hb : b' ≤ base) : OCopies b' w v l := by
  obtain ⟨vs, h⟩ := h
  exact ⟨vs, h.base_ hb fun _ _ hr => hr.base_ hb⟩
theorem OCopies.below {l : List (List (List SpotD))} (h : OCopies base w v l) (hb : Below w.heap.size w w1) : OCopies base w1 v l := by
  obtain ⟨vs, h⟩ := h
  exact ⟨vs, h.below hb fun _ _ hr => hr.below hb⟩
end

theorem infoSpots : (Try.prog.info? 127).map (fun i => (i.zero, i.size, i.bytes)) = some (some (.slice none 0 0), 1, 24) := by kernel_rfl
theorem infoSecs : (Try.prog.info? 115).map (fun i => (i.zero, i.size, i.bytes)) = some (some (.slice none 0 0), 1, 24) := by kernel_rfl

theorem take_map_next {α β : Type} (f : α → β) {l : List α} {k : Nat} {x : α} (h : l[k]? = some x) : (l.map f).take (k + 1) = (l.map f).take k ++ [f x] := by
  obtain ⟨hk, rfl⟩ := List.getElem?_eq_some_iff.1 h
  rw [List.take_succ_eq_append_getElem (by simpa using hk)]
  simp
theorem take_flat_next {α β : Type} (f : α → List β) {l : List α} {k : Nat} {x : α} (h : l[k]? = some x) : (l.take (k + 1)).flatMap f = (l.take k).flatMap f ++ f x := by
  obtain ⟨hk, rfl⟩ := List.getElem?_eq_some_iff.1 h
  rw [List.take_succ_eq_append_getElem hk, List.flatMap_append]
  simp

def straightD (r : RunD) (row : Int) : List (List SpotD) := r.stacks.map fun s => spotsD r s row

/-- The items of the stacks of a right run, and their ribbons. -/
theorem stack_good {r : RunD} (h : checkE r = 0) {k : Nat} {l : List Int} (hl : r.stacks[k]? = some l) :
    l.length ≤ 1000000 ∧ (∀ i ∈ l, 0 ≤ i ∧ i < r.ribs.length) ∧ (∀ i ∈ l, 0 ≤ (ribAt r i).col ∧ (ribAt r i).col ≤ 1000 ∧ 0 ≤ (ribAt r i).width ∧ (ribAt r i).width ≤ 1000) := by
  refine ⟨by have := stack_len h hl; omega, stack_items h hl, fun i hi => ?_⟩
  have hb := stack_items h hl i hi
  have := rib_ok h (k := i.toNat) (by omega)
  unfold ribAt
  have h1 := this.col0; have h2 := this.col2; have h3 := this.width0; have h4 := this.width1
  omega

set_option maxRecDepth 100000 in
set_option maxHeartbeats 1000000 in
theorem straight_any (v : Value) (r : RunD) (row : Int) (w : World) (h : RRun w.heap.size w v r) (hok : checkE r = 0) :
    Calls Try.prog 68 #[v, .int .i64 row] w fun e w' => ∃ u, e = .returned u ∧ OSecs w.heap.size w' u (straightD r row) ∧ Below w.heap.size w w' := by
  obtain ⟨i0, hi, hz0, hz1, hz2⟩ := info_parts infoSpots
  have hrun := Lib.hid h
  have Hok := Lib.hid hok
  have hn4 := (numbers_ok (parts_ok hok 0 (by omega))).2.2.2.2.2
  obtain ⟨v1, v2, v3, rfl, -, -, hs⟩ := h
  obtain ⟨A, ca, rfl, hA1, hA⟩ := hs.open_
  have HA := Lib.hid hA
  clear hs hA hok
  have b0 : Below w.heap.size w (w.alloc (.cells #[v1, v2, .slice A r.stacks.length ca, .bool r.coll] 111)) := (Below.refl _ _).alloc (Nat.le_refl _) _
  have c0 := fun j x => box4 (w := w) (a := v1) (b := v2) (c := .slice A r.stacks.length ca) (d := .bool r.coll) (t := 111) j x
  have z0 : (w.alloc (.cells #[v1, v2, .slice A r.stacks.length ca, .bool r.coll] 111)).heap.size = w.heap.size + 1 := by simp
  have C0 := Lib.hid c0
  have B0 := Lib.hid b0
  have Z0 := Lib.hid z0
  clear c0 b0 z0
  go_enter Try.func68, Try.ntmps68
  go_wp2
  generalize w.alloc (.cells #[v1, v2, .slice A r.stacks.length ca, .bool r.coll] 111) = w1 at *
  go_loopw [5, 12] (fun u i wr => ∃ k : Nat, k ≤ r.stacks.length ∧ i = .int .i64 k ∧ OSecs (w.heap.size + 1) wr u ((straightD r row).take k) ∧ Below (w.heap.size + 1) w1 wr ∧ w.heap.size + 1 ≤ wr.heap.size) (fun _ i _ => r.stacks.length - (intOf i).toNat)
  case atStart => exact ⟨0, Nat.zero_le _, rfl, ⟨_, OAll.nil⟩, Below.refl _ _, by rw [Z0.out]; exact Nat.le_refl _⟩
  case round =>
    obtain ⟨k, hk, rfl, ⟨vs, ho⟩, hB, zr⟩ := hrel
    have hBw : Below w.heap.size w wr := B0.out.trans (hB.mono (by omega))
    by_cases hlt : k < r.stacks.length
    · obtain ⟨x, hx⟩ : ∃ x, r.stacks[k]? = some x := ⟨_, List.getElem?_eq_getElem hlt⟩
      obtain ⟨g, o, u2, rfl, hb, hc1, hp⟩ := HA.out k x hx
      rw [← hBw.cell (p := ⟨g, o + k, none⟩) hb] at hc1
      obtain ⟨A5, c5, rfl, hA5⟩ := slice_len hp
      have d0 := (hB.cell (p := ⟨w.heap.size, 0, none⟩) (by simp)).trans (C0.out 0 _ rfl)
      have d1 := (hB.cell (p := ⟨w.heap.size, 1, none⟩) (by simp)).trans (C0.out 1 _ rfl)
      have d2 := (hB.cell (p := ⟨w.heap.size, 2, none⟩) (by simp)).trans (C0.out 2 _ rfl)
      have d3 := (hB.cell (p := ⟨w.heap.size, 3, none⟩) (by simp)).trans (C0.out 3 _ rfl)
      obtain ⟨s1, s2, s3⟩ := stack_good Hok.out hx
      have C := Lib.hid (spots_any _ _ r x row wr ((hrun.out.below hBw).more hBw.size) ((hp.below hBw).more hBw.size) s1 s2 s3)
      have HX : Hid ((straightD r row).take (k + 1) = (straightD r row).take k ++ [spotsD r x row]) := by
        show (straightD r row).take (k + 1) = (straightD r row).take k ++ [spotsD r x row]
        exact take_map_next (fun s => spotsD r s row) hx
      have HLen : Hid (((straightD r row).take k).length = k) := by
        show ((straightD r row).take k).length = k
        rw [List.length_take]; unfold straightD; rw [List.length_map]; omega
      clear s1 s2 s3 hx hp
      go_wp2_with fail
      refine C.out.mono ?_
      rintro e w3 ⟨u, rfl, hu, hb3⟩
      have ho3 := ho.below hb3 fun _ _ hr => hr.below hb3
      have hu3 : OSpots (w.heap.size + 1) w3 u (spotsD r x row) := ownsRow_base hu zr
      have hB3 := hB.trans (hb3.mono zr)
      have zr3 : w.heap.size + 1 ≤ w3.heap.size := Nat.le_trans zr hb3.size
      obtain ⟨A7, c7, rfl⟩ := ownsRow_form hu
      have hl3 := ho3.1
      rw [HLen.out] at hl3
      clear d0 d1 d2 d3 hc1 hb3 hB hu
      go_wp2_with (at_builtin; refine wpList_append_own _ rfl _ _ 115 rfl (w.heap.size + 1) 127 i0 (.slice none 0 0) 1 24 Try.underlying115 hi hz0 hz1 hz2 rfl (by decide) _ _ _ rfl (hl3.alloc _) ⟨w3.heap.size, 0, none⟩ 1 1 [.slice A7 (spotsD r x row).length c7] rfl rfl (cells_new _ _ _) (by simp [Value.oneCell']) (by simp only [maxLen]; omega) (by omega) (by simp; omega) ?_; intro v' w4 hown' hgrow _)
      have hgr : Grew 127 w3 w4 := Grew.of_append hl3 hgrow
      have hB4 : Below (w.heap.size + 1) w1 w4 := (hB3.alloc zr3 _).grown hgrow (by simp; omega) fun k hk => (hl3.lt k hk).1
      have ho4 : OSecs (w.heap.size + 1) w4 v' ((straightD r row).take (k + 1)) := ⟨vs ++ [.slice A7 (spotsD r x row).length c7], by
        rw [HX.out]
        exact ho3.append (fun _ _ hr => OSpots.grew hr hgr (by decide)) hu3 (by rw [HLen.out]; exact hown')⟩
      have zr4 : w.heap.size + 1 ≤ w4.heap.size := by have := hgrow.size; simp at this; omega
      clear hown' hgrow hl3 ho3 hgr
      go_wp2
      go_roundw
      case rel => exact ⟨k + 1, by omega, by go_num, ho4, hB4, zr4⟩
      case measure => simp [intOf]; omega
    · have hall : (straightD r row).take k = straightD r row := List.take_of_length_le (by unfold straightD; rw [List.length_map]; omega)
      rw [hall] at ho
      have ho2 : OSecs w.heap.size wr u5 (straightD r row) := OSecs.base_ ⟨_, ho⟩ (by omega)
      go_wp2
      go_ret
      exact ⟨_, rfl, ho2, hBw⟩

def rowsD (r : RunD) (s : List Int) : List (List SpotD) := (List.range (rows0 r).toNat).map fun (row : Nat) => spotsD r s row
def collectedD (r : RunD) : List (List SpotD) := r.stacks.flatMap (rowsD r)
theorem rows_two {r : RunD} (h : checkE r = 0) : 1 ≤ rows0 r ∧ rows0 r ≤ 2 := by
  have h1 := numbers_ok (parts_ok h 0 (by omega))
  have hm : 0 < r.webs.length := by omega
  have := webs_ok (parts_ok h 1 (by omega)) _ (List.getElem_mem hm)
  have e : rows0 r = r.webs[0].rows := by unfold rows0; rw [List.getD_eq_getElem?_getD, List.getElem?_eq_getElem hm]; rfl
  rw [e]; omega
theorem flat_len {r : RunD} (h : checkE r = 0) (k : Nat) : ((r.stacks.take k).flatMap (rowsD r)).length ≤ 2 * k := by
  have h2 := rows_two h
  have : ∀ l : List (List Int), (l.flatMap (rowsD r)).length ≤ 2 * l.length := by
    intro l
    induction l with
    | nil => simp
    | cons x l ih => rw [List.flatMap_cons, List.length_append, List.length_cons]; unfold rowsD at ih ⊢; rw [List.length_map, List.length_range]; omega
  have h3 := this (r.stacks.take k)
  rw [List.length_take] at h3
  omega

set_option maxRecDepth 100000 in
set_option maxHeartbeats 1000000 in
theorem collected_copy (v : Value) (r : RunD) (w : World) (h : RRun w.heap.size w v r) (hok : checkE r = 0) :
    Calls Try.prog 67 #[v] w fun e w' => ∃ u, e = .returned u ∧ OSecs w.heap.size w' u (collectedD r) ∧ Below w.heap.size w w' := by
  obtain ⟨i0, hi, hz0, hz1, hz2⟩ := info_parts infoSpots
  have hrun := Lib.hid h
  have Hok := Lib.hid hok
  have hn4 := (numbers_ok (parts_ok hok 0 (by omega))).2.2.2.2.2
  have hn1 := (numbers_ok (parts_ok hok 0 (by omega))).1
  have hr2 := rows_two hok
  obtain ⟨v1, v2, v3, rfl, hw, -, hs⟩ := h
  obtain ⟨A, ca, rfl, hA1, hA⟩ := hs.open_
  obtain ⟨A2, ca2, rfl, hA2, hW⟩ := hw.open_
  obtain ⟨y, hy⟩ : ∃ y, r.webs[0]? = some y := ⟨_, List.getElem?_eq_getElem hn1⟩
  obtain ⟨g0, o0, u0, rfl, hb0, -, hw2, -, -⟩ := hW 0 y hy
  simp only [Nat.zero_mul, Nat.add_zero] at hw2
  have hry : rows0 r = y.rows := by unfold rows0; rw [getD_of hy]
  obtain ⟨q, hq⟩ : ∃ q : Nat, rows0 r = q := ⟨(rows0 r).toNat, by omega⟩
  rw [← hry, hq] at hw2
  rw [hq] at hr2
  have Hq := Lib.hid hq
  have HA := Lib.hid hA
  have Hw2 := Lib.hid hw2
  have i0' : (0 : Int) < (r.webs.length : Int) := by omega
  clear hs hA hok hw hW hw2 hry hq hy
  have b0 : Below w.heap.size w (w.alloc (.cells #[.slice (some ⟨g0, o0, none⟩) r.webs.length ca2, v2, .slice A r.stacks.length ca, .bool r.coll] 111)) := (Below.refl _ _).alloc (Nat.le_refl _) _
  have c0 := fun j x => box4 (w := w) (a := .slice (some ⟨g0, o0, none⟩) r.webs.length ca2) (b := v2) (c := .slice A r.stacks.length ca) (d := .bool r.coll) (t := 111) j x
  have z0 : (w.alloc (.cells #[.slice (some ⟨g0, o0, none⟩) r.webs.length ca2, v2, .slice A r.stacks.length ca, .bool r.coll] 111)).heap.size = w.heap.size + 1 := by simp
  have C0 := Lib.hid c0
  have B0 := Lib.hid b0
  have Z0 := Lib.hid z0
  clear c0 b0 z0
  go_enter Try.func67, Try.ntmps67
  go_wp2
  generalize w.alloc (.cells #[.slice (some ⟨g0, o0, none⟩) r.webs.length ca2, v2, .slice A r.stacks.length ca, .bool r.coll] 111) = w1 at *
  go_loopw [3, 11] (fun u i wr => ∃ k : Nat, k ≤ r.stacks.length ∧ i = .int .i64 k ∧ OSecs (w.heap.size + 1) wr u ((r.stacks.take k).flatMap (rowsD r)) ∧ Below (w.heap.size + 1) w1 wr ∧ w.heap.size + 1 ≤ wr.heap.size) (fun _ i _ => r.stacks.length - (intOf i).toNat)
  case atStart => exact ⟨0, Nat.zero_le _, rfl, ⟨_, OAll.nil⟩, Below.refl _ _, by rw [Z0.out]; exact Nat.le_refl _⟩
  case round =>
    obtain ⟨k, hk, rfl, ho, hB, zr⟩ := hrel
    have hBw : Below w.heap.size w wr := B0.out.trans (hB.mono (by omega))
    by_cases hlt : k < r.stacks.length
    · obtain ⟨x, hx⟩ : ∃ x, r.stacks[k]? = some x := ⟨_, List.getElem?_eq_getElem hlt⟩
      obtain ⟨g, o, u2, rfl, hb, hc1, hp⟩ := HA.out k x hx
      rw [← hBw.cell (p := ⟨g, o + k, none⟩) hb] at hc1
      obtain ⟨A5, c5, rfl, hA5⟩ := slice_len hp
      have d0 := (hB.cell (p := ⟨w.heap.size, 0, none⟩) (by simp)).trans (C0.out 0 _ rfl)
      have hw3 := (hBw.cell (p := ⟨g0, o0 + 1, none⟩) hb0).trans Hw2.out
      have ho0 : OSecs (w.heap.size + 1) wr u3 ((r.stacks.take k).flatMap (rowsD r) ++ (rowsD r x).take 0) := by rw [List.take_zero, List.append_nil]; exact ho
      have Hx := Lib.hid hx
      have Hp := Lib.hid hp
      clear hx hp
      go_wp2
      clear d0 hw3 hc1 ho
      go_loopw [3, 21] (fun u i wr => ∃ m : Nat, m ≤ q ∧ i = .int .i64 m ∧ OSecs (w.heap.size + 1) wr u ((r.stacks.take k).flatMap (rowsD r) ++ (rowsD r x).take m) ∧ Below (w.heap.size + 1) w1 wr ∧ w.heap.size + 1 ≤ wr.heap.size) (fun _ i _ => q - (intOf i).toNat)
      case atStart => exact ⟨0, Nat.zero_le _, rfl, ho0, hB, zr⟩
      case round =>
        clear ho0 hB zr hBw
        obtain ⟨m, hm, rfl, ⟨vs, ho⟩, hB, zr⟩ := hrel
        have hBw : Below w.heap.size w wr := B0.out.trans (hB.mono (by omega))
        by_cases hmt : m < q
        · have d0 := (hB.cell (p := ⟨w.heap.size, 0, none⟩) (by simp)).trans (C0.out 0 _ rfl)
          have d1 := (hB.cell (p := ⟨w.heap.size, 1, none⟩) (by simp)).trans (C0.out 1 _ rfl)
          have d2 := (hB.cell (p := ⟨w.heap.size, 2, none⟩) (by simp)).trans (C0.out 2 _ rfl)
          have d3 := (hB.cell (p := ⟨w.heap.size, 3, none⟩) (by simp)).trans (C0.out 3 _ rfl)
          obtain ⟨s1, s2, s3⟩ := stack_good Hok.out Hx.out
          have C := Lib.hid (spots_any _ _ r x m wr ((hrun.out.below hBw).more hBw.size) ((Hp.out.below hBw).more hBw.size) s1 s2 s3)
          have HX : Hid ((r.stacks.take k).flatMap (rowsD r) ++ (rowsD r x).take (m + 1) = ((r.stacks.take k).flatMap (rowsD r) ++ (rowsD r x).take m) ++ [spotsD r x m]) := by
            show (r.stacks.take k).flatMap (rowsD r) ++ (rowsD r x).take (m + 1) = ((r.stacks.take k).flatMap (rowsD r) ++ (rowsD r x).take m) ++ [spotsD r x m]
            rw [List.append_assoc]
            congr 1
            exact take_map_next (fun (row : Nat) => spotsD r x row) (by rw [List.getElem?_range (by rw [Hq.out]; omega)])
          have hlen : ((r.stacks.take k).flatMap (rowsD r) ++ (rowsD r x).take m).length ≤ 100 := by
            have := flat_len Hok.out k
            rw [List.length_append, List.length_take]; omega
          clear s1 s2 s3
          go_wp2_with fail
          refine C.out.mono ?_
          rintro e w3 ⟨u, rfl, hu, hb3⟩
          have ho3 := ho.below hb3 fun _ _ hr => hr.below hb3
          have hu3 : OSpots (w.heap.size + 1) w3 u (spotsD r x m) := ownsRow_base hu zr
          have hB3 := hB.trans (hb3.mono zr)
          have zr3 : w.heap.size + 1 ≤ w3.heap.size := Nat.le_trans zr hb3.size
          obtain ⟨A7, c7, rfl⟩ := ownsRow_form hu
          have hl3 := ho3.1
          clear d0 d1 d2 d3 hb3 hB hu
          go_wp2_with (at_builtin; refine wpList_append_own _ rfl _ _ 115 rfl (w.heap.size + 1) 127 i0 (.slice none 0 0) 1 24 Try.underlying115 hi hz0 hz1 hz2 rfl (by decide) _ _ _ rfl (hl3.alloc _) ⟨w3.heap.size, 0, none⟩ 1 1 [.slice A7 (spotsD r x m).length c7] rfl rfl (cells_new _ _ _) (by simp [Value.oneCell']) (by simp only [maxLen]; omega) (by omega) (by simp; omega) ?_; intro v' w4 hown' hgrow _)
          have hgr : Grew 127 w3 w4 := Grew.of_append hl3 hgrow
          have hB4 : Below (w.heap.size + 1) w1 w4 := (hB3.alloc zr3 _).grown hgrow (by simp; omega) fun k hk => (hl3.lt k hk).1
          have ho4 : OSecs (w.heap.size + 1) w4 v' ((r.stacks.take k).flatMap (rowsD r) ++ (rowsD r x).take (m + 1)) := ⟨vs ++ [.slice A7 (spotsD r x m).length c7], by
            rw [HX.out]
            exact ho3.append (fun _ _ hr => OSpots.grew hr hgr (by decide)) hu3 hown'⟩
          have zr4 : w.heap.size + 1 ≤ w4.heap.size := by have := hgrow.size; simp at this; omega
          clear hown' hgrow hl3 ho3 hgr
          go_wp2
          go_roundw
          case rel => exact ⟨m + 1, by omega, by go_num, ho4, hB4, zr4⟩
          case measure => simp [intOf]; omega
        · have hall : (rowsD r x).take m = rowsD r x := List.take_of_length_le (by unfold rowsD; rw [List.length_map, List.length_range, Hq.out]; omega)
          rw [hall, ← take_flat_next (rowsD r) Hx.out] at ho
          have ho2 : OSecs (w.heap.size + 1) wr u3 ((r.stacks.take (k + 1)).flatMap (rowsD r)) := ⟨_, ho⟩
          go_wp2
          go_roundw
          case rel => exact ⟨k + 1, by omega, by go_num, ho2, hB, zr⟩
          case measure => simp [intOf]; omega
    · have hall : r.stacks.take k = r.stacks := List.take_of_length_le (by omega)
      rw [hall] at ho
      have ho2 : OSecs w.heap.size wr u3 (collectedD r) := OSecs.base_ ho (by omega)
      go_wp2
      go_ret
      exact ⟨_, rfl, ho2, hBw⟩
end Go.Proofs.Ytdbfhdncjblleaa
