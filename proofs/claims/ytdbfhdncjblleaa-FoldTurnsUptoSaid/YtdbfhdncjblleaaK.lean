/-
  THE ITERATOR OF HALVES: its contract.
-/
import Derived.Test.YtdbfhdncjblleaaJ
import Derived.RangeFuncBox
import Derived.RangeFuncNested
import Derived.RangeFuncLeaves
import Derived.RangeFuncBound
import Derived.RangeFuncCalls
import Derived.Shelf.Abstract
import Derived.OwnWalkIn
import Derived.TacticsInMore
import Derived.LoopNIn
import Derived.LoopIn
import Derived.Maps.AppendAt
namespace Go.Proofs.Ytdbfhdncjblleaa
open Go.RowKit Go.Shelf
attribute [local go_sem] Oper.semAt_some

set_option maxHeartbeats 400000 in
theorem halves_any (v1 v2 v3 : Value) (c : Bool) (A : Option Addr) (n m : Nat) (w : World) :
    Calls Try.prog 84 #[.agg #[v1, v2, v3, .bool c], .slice A n m] w fun e w' => e = .returned (.func (.func 85) #[] #[.pointer (some ⟨w.heap.size + 1, 0, none⟩), .pointer (some ⟨w.heap.size, 0, none⟩)]) ∧
      w' = (w.alloc (.cells #[v1, v2, v3, .bool c] 111)).alloc (.cells #[.slice A n m] 48) := by
  have hmf : ∀ (fn : Fn) (first cap : Array Value) (w : World), (Instr.makeFunc fn first cap).run Try.prog w = .ok (.func fn first cap) w := fun _ _ _ _ => rfl
  go_enter Try.func84, Try.ntmps84
  go_wp2
  go_ret
  exact ⟨rfl, rfl⟩

theorem rights_next {r : RunD} {l : List Int} {k : Nat} {i : Int} (hi : l[k]? = some i) : rightsD r (l.take (k + 1)) = rightsD r (l.take k) ++ (if (ribAt r i).left then [] else [rightHalfD (ribAt r i)]) := by
  obtain ⟨hk, rfl⟩ := List.getElem?_eq_some_iff.1 hi
  unfold rightsD
  rw [List.take_succ_eq_append_getElem hk, List.map_append, List.filter_append, List.map_append]
  congr 1
  cases h : (ribAt r l[k]).left <;> simp [h]
theorem lefts_next {r : RunD} {l : List Int} {k : Nat} {i : Int} (hi : l[k]? = some i) : leftsD r (l.take (k + 1)) = leftsD r (l.take k) ++ (if hasLeft (ribAt r i) then [leftHalfD (ribAt r i)] else []) := by
  obtain ⟨hk, rfl⟩ := List.getElem?_eq_some_iff.1 hi
  unfold leftsD
  rw [List.take_succ_eq_append_getElem hk, List.map_append, List.filter_append, List.map_append]
  congr 1
  cases h : hasLeft (ribAt r l[k]) <;> simp [h]
theorem rights_len (r : RunD) (l : List Int) : (rightsD r l).length ≤ l.length := by
  unfold rightsD
  rw [List.length_map]
  exact Nat.le_trans (List.length_filter_le _ _) (by simp)
theorem lefts_len (r : RunD) (l : List Int) : (leftsD r l).length ≤ l.length := by
  unfold leftsD
  rw [List.length_map]
  exact Nat.le_trans (List.length_filter_le _ _) (by simp)

/-- The blocks of S lie as they lay. -/
structure KeepS (S : Nat → Prop) (W W' : World) : Prop where
  size : W.heap.size ≤ W'.heap.size
  block : ∀ k, S k → W'.heap[k]? = W.heap[k]?
theorem KeepS.refl (S : Nat → Prop) (W : World) : KeepS S W W := ⟨Nat.le_refl _, fun _ _ => rfl⟩
theorem KeepS.trans {S : Nat → Prop} {A B C : World} (h : KeepS S A B) (k : KeepS S B C) : KeepS S A C := ⟨Nat.le_trans h.size k.size, fun i hi => (k.block i hi).trans (h.block i hi)⟩
theorem KeepS.cell {S : Nat → Prop} {A B : World} (h : KeepS S A B) {p : Addr} (hp : S p.block) : B.cell? p = A.cell? p := World.cell?_of_block (w := A) (h.block p.block hp)
theorem KeepS.below {S : Nat → Prop} {A B C : World} (h : KeepS S A B) (hS : ∀ k, S k → k < A.heap.size) {b : Nat} (hb : Below b B C) (hbB : B.heap.size ≤ b) : KeepS S A C :=
  ⟨Nat.le_trans h.size hb.size, fun i hi => (hb.block i (Nat.lt_of_lt_of_le (hS i hi) (Nat.le_trans h.size hbB))).trans (h.block i hi)⟩
theorem KeepS.alloc {S : Nat → Prop} {A B : World} (h : KeepS S A B) (hS : ∀ k, S k → k < A.heap.size) (o : Obj) : KeepS S A (B.alloc o) := h.below hS ((Below.refl _ B).alloc (Nat.le_refl _) o) (Nat.le_refl _)
theorem KeepS.drew {S : Nat → Prop} {A B : World} (h : KeepS S A B) : KeepS S A B.drew := ⟨h.size, h.block⟩

set_option maxRecDepth 100000 in
set_option maxHeartbeats 2000000 in
theorem iter_in (n : Nat) (hn : 3 ≤ n) (l B0 Bs Bw : Nat) (S : Nat → Prop) (v1 v2 v3 vs : Value) (r : RunD) (stack : List Int) (J Jx : List HalfD → World → Prop) (hJa : ∀ pre A B, J pre A → Below A.heap.size A B → J pre B)
    (hBs : S Bs) (hBw : S Bw) (hSB : ∀ k, k < B0 → S k) (hribs : ∀ i ∈ stack, 0 ≤ i ∧ i < r.ribs.length) (hrb : ∀ i ∈ stack, 0 ≤ (ribAt r i).col ∧ (ribAt r i).col ≤ 1000 ∧ 0 ≤ (ribAt r i).width ∧ (ribAt r i).width ≤ 1000)
    (hY : ∀ pre x W, J pre W → pre.length < 2 * stack.length → YieldAt Fence.wide (n - 1) Try.prog l #[HalfD.val x] W fun e W' =>
      (e = .returned (.bool true) ∧ J (pre ++ [x]) W' ∧ KeepS S W W') ∨ (e = .returned (.bool false) ∧ Jx (pre ++ [x]) W'))
    (W : World) (hBW : B0 ≤ W.heap.size) (hS : ∀ k, S k → k < W.heap.size) (cs : W.cell? ⟨Bs, 0, none⟩ = some vs) (c1 : W.cell? ⟨Bw, 1, none⟩ = some v2)
    (hs : RInts B0 W vs stack) (hr : RRibs B0 W v2 r.ribs) (h0 : J [] W) :
    CallsIn Fence.wide n Try.prog 85 #[.func (.yield l) #[] #[], .pointer (some ⟨Bs, 0, none⟩), .pointer (some ⟨Bw, 0, none⟩)] W fun e W' => (∃ v, e = .returned v) ∧
      ((∃ ys, ys = halvesD r stack ∧ J ys W') ∨ (∃ pre, True ∧ Jx pre W')) := by
  obtain ⟨A, ca, rfl, hA1, hA⟩ := hs.open_
  obtain ⟨A2, c2, rfl, hA2, hA3⟩ := hr.open_
  have HA := Lib.hid hA
  have HA3 := Lib.hid hA3
  have HR := Lib.hid hribs
  have HB := Lib.hid hrb
  have HY := Lib.hid hY
  have HJ := Lib.hid hJa
  clear hA hA3 hs hr hribs hrb hY hJa
  refine callsIn_of_wp Try.func85 rfl trivial ?_ rfl
  simp only [Try.ntmps85, List.size_toArray, List.length_cons, List.length_nil, Nat.reduceAdd, Nat.reduceSub, Array.replicate_succ, Array.replicate_zero, List.push_toArray, List.append_toArray, List.nil_append, List.cons_append]
  gi_wp2
  have Cs := Lib.hid cs
  have C1 := Lib.hid c1
  clear cs c1
  gi_loopw [11] (fun i wr => ∃ k : Nat, k ≤ stack.length ∧ i = .int .i64 k ∧ J (rightsD r (stack.take k)) wr ∧ KeepS S W wr) (fun i _ => stack.length - (intOf i).toNat)
  case atStart => exact ⟨0, Nat.zero_le _, rfl, h0, KeepS.refl _ _⟩
  case round =>
    obtain ⟨k, hk, rfl, hJ, hB⟩ := hrel
    by_cases hlt : k < stack.length
    · obtain ⟨g, o, i, rfl, hb, hc1, hi⟩ := HA.out k hlt
      have Hi : Hid (stack[k]? = some i) := by
        show stack[k]? = some i
        have := hi.out
        simpa [List.getD_eq_getElem?_getD, List.getElem?_eq_getElem hlt] using this
      have him : i ∈ stack := List.mem_of_getElem? Hi.out
      obtain ⟨hi0, hi1⟩ := HR.out i him
      obtain ⟨a, rfl⟩ := Int.eq_ofNat_of_zero_le hi0
      have hal : a < r.ribs.length := by omega
      obtain ⟨x, hx⟩ : ∃ x, r.ribs[a]? = some x := ⟨_, List.getElem?_eq_getElem hal⟩
      obtain ⟨g2, o2, rfl, hb2, hd1, hd2, hd3, hd4, hd5⟩ := HA3.out a x hx
      have Hx : Hid (ribAt r a = x) := by
        show r.ribs.getD ((a : Int)).toNat default = x
        rw [Int.toNat_natCast, getD_of hx]
      have hbd := HB.out a him
      rw [Hx.out] at hbd
      rw [← hB.cell (p := ⟨g, o + k, none⟩) (hSB _ hb)] at hc1
      rw [← hB.cell (p := ⟨g2, o2 + a * 5, none⟩) (hSB _ hb2)] at hd1
      rw [← hB.cell (p := ⟨g2, o2 + a * 5 + 1, none⟩) (hSB _ hb2)] at hd2
      rw [← hB.cell (p := ⟨g2, o2 + a * 5 + 2, none⟩) (hSB _ hb2)] at hd3
      rw [← hB.cell (p := ⟨g2, o2 + a * 5 + 3, none⟩) (hSB _ hb2)] at hd4
      rw [← hB.cell (p := ⟨g2, o2 + a * 5 + 4, none⟩) (hSB _ hb2)] at hd5
      have e1 := (hB.cell (p := ⟨Bw, 1, none⟩) hBw).trans C1.out
      have zr : B0 ≤ wr.heap.size := Nat.le_trans hBW hB.size
      have hx2 := Lib.hid hx
      clear hx hi
      obtain ⟨web, col, width, turned, left⟩ := x
      dsimp only at hd1 hd2 hd3 hd4 hd5 hbd
      have hJ2 : ∀ o wq, Below (wr.alloc o).heap.size (wr.alloc o) wq → J (rightsD r (stack.take k)) wq := fun o wq h => HJ.out _ _ _ hJ (((Below.refl _ wr).alloc (Nat.le_refl _) o).trans (h.mono (by simp)))
      have hB2 : ∀ o wq, Below (wr.alloc o).heap.size (wr.alloc o) wq → KeepS S W wq := fun o wq h => (hB.alloc hS o).below hS h (Nat.le_refl _)
      have HJ2 := Lib.hid hJ2
      have HB2 := Lib.hid hB2
      have Hbd := Lib.hid hbd
      clear hJ2 hB2 hbd
      cases left
      · gi_wp2_with fail
        refine ⟨trivial, fun _ => by omega, callsIn_wide.2 ((rightHalf_any ⟨web, col, width, turned, false⟩ _ Hbd.out).mono ?_)⟩
        rintro e w3 ⟨rfl, hb3⟩
        have hJ3 := HJ2.out _ _ hb3
        have hB3 := HB2.out _ _ hb3
        obtain ⟨fn, tmps, assign, body, hy, hR⟩ := HY.out _ (rightHalfD ⟨web, col, width, turned, false⟩) w3 hJ3 (by have := rights_len r (stack.take k); simp at this; omega)
        clear hb3
        unfold HalfD.val at hy ⊢
        gi_wp2_with fail
        refine ⟨fun _ => by omega, hR.mono ?_⟩
        rintro e w4 (⟨rfl, hJ4, hk4⟩ | ⟨rfl, hJx4⟩)
        · have hJ5 : J (rightsD r (stack.take (k + 1))) w4 := by
            rw [rights_next Hi.out, Hx.out]
            exact hJ4
          gi_wp2
          go_roundw
          case rel => exact ⟨k + 1, by omega, by go_num, hJ5, hB3.trans hk4⟩
          case measure => simp [intOf]; omega
        · gi_wp2
          refine bodyPost_ret (results_none rfl _ _ _) rfl ?_
          exact ⟨⟨_, rfl⟩, .inr ⟨_, trivial, hJx4⟩⟩
      · have hJ5 : J (rightsD r (stack.take (k + 1))) wr := by
          rw [rights_next Hi.out, Hx.out]
          simpa using hJ
        have HJ5 := Lib.hid hJ5
        clear hJ5
        have hJ6 : ∀ o, J (rightsD r (stack.take (k + 1))) (wr.alloc o) := fun o => HJ.out _ _ _ HJ5.out ((Below.refl _ wr).alloc (Nat.le_refl _) o)
        have hB6 : ∀ o, KeepS S W (wr.alloc o) := fun o => hB.alloc hS o
        have HJ6 := Lib.hid hJ6
        have HB6 := Lib.hid hB6
        clear hJ6 hB6
        gi_wp2
        refine ⟨trivial, ?_⟩
        gi_wp2
        refine ⟨fun _ h => (by cases h), ?_⟩
        gi_wp2
        go_roundw
        case rel => exact ⟨k + 1, by omega, by go_num, HJ6.out _, HB6.out _⟩
        case measure => simp [intOf]; omega
    · have d0 := (hB.cell (p := ⟨Bs, 0, none⟩) hBs).trans Cs.out
      have hJ2 : J (rightsD r stack ++ leftsD r (stack.reverse.take (((stack.length : Int) - 1 - ((stack.length : Int) - 1)).toNat))) wr := by
        have e : (((stack.length : Int) - 1 - ((stack.length : Int) - 1)).toNat) = 0 := by omega
        rw [e, List.take_zero]
        rw [show stack.take k = stack from List.take_of_length_le (by omega)] at hJ
        simpa [leftsD] using hJ
      clear hJ
      gi_wp2
      clear d0
      gi_loopw [7] (fun i wr => ∃ q : Int, -1 ≤ q ∧ q < stack.length ∧ i = .int .i64 q ∧ J (rightsD r stack ++ leftsD r (stack.reverse.take ((stack.length : Int) - 1 - q).toNat)) wr ∧ KeepS S W wr) (fun i _ => (intOf i + 1).toNat)
      case atStart => exact ⟨(stack.length : Int) - 1, by omega, by omega, by go_num, hJ2, hB⟩
      case round =>
        clear hB hJ2
        obtain ⟨q, hq1, hq2, rfl, hJ, hB⟩ := hrel
        by_cases hq0 : 0 ≤ q
        · obtain ⟨p, rfl⟩ := Int.eq_ofNat_of_zero_le hq0
          have hpl : p < stack.length := by omega
          obtain ⟨g, o, i, rfl, hb, hc1, hi⟩ := HA.out p hpl
          have Hi : Hid (stack[p]? = some i) := by
            show stack[p]? = some i
            have := hi.out
            simpa [List.getD_eq_getElem?_getD, List.getElem?_eq_getElem hpl] using this
          have him : i ∈ stack := List.mem_of_getElem? Hi.out
          obtain ⟨hi0, hi1⟩ := HR.out i him
          obtain ⟨a, rfl⟩ := Int.eq_ofNat_of_zero_le hi0
          have hal : a < r.ribs.length := by omega
          obtain ⟨x, hx⟩ : ∃ x, r.ribs[a]? = some x := ⟨_, List.getElem?_eq_getElem hal⟩
          obtain ⟨g2, o2, rfl, hb2, hd1, hd2, hd3, hd4, hd5⟩ := HA3.out a x hx
          have Hx : Hid (ribAt r a = x) := by
            show r.ribs.getD ((a : Int)).toNat default = x
            rw [Int.toNat_natCast, getD_of hx]
          have hbd := HB.out a him
          rw [Hx.out] at hbd
          rw [← hB.cell (p := ⟨g, o + p, none⟩) (hSB _ hb)] at hc1
          rw [← hB.cell (p := ⟨g2, o2 + a * 5, none⟩) (hSB _ hb2)] at hd1
          rw [← hB.cell (p := ⟨g2, o2 + a * 5 + 1, none⟩) (hSB _ hb2)] at hd2
          rw [← hB.cell (p := ⟨g2, o2 + a * 5 + 2, none⟩) (hSB _ hb2)] at hd3
          rw [← hB.cell (p := ⟨g2, o2 + a * 5 + 3, none⟩) (hSB _ hb2)] at hd4
          rw [← hB.cell (p := ⟨g2, o2 + a * 5 + 4, none⟩) (hSB _ hb2)] at hd5
          have e1 := (hB.cell (p := ⟨Bw, 1, none⟩) hBw).trans C1.out
          have e0 := (hB.cell (p := ⟨Bs, 0, none⟩) hBs).trans Cs.out
          have zr : B0 ≤ wr.heap.size := Nat.le_trans hBW hB.size
          clear hx hi
          obtain ⟨web, col, width, turned, left⟩ := x
          dsimp only at hd1 hd2 hd3 hd4 hd5 hbd
          have n1 : Bs < wr.heap.size := Nat.lt_of_lt_of_le (hS _ hBs) hB.size
          have n2 : Bw < wr.heap.size := Nat.lt_of_lt_of_le (hS _ hBw) hB.size
          have n3 : g < wr.heap.size := by omega
          have n4 : g2 < wr.heap.size := by omega
          have i1 : (p : Int) < (stack.length : Int) := by omega
          have i2 : (a : Int) < (r.ribs.length : Int) := by omega
          have hrev : stack.reverse[((stack.length : Int) - 1 - p).toNat]? = some (a : Int) := by
            rw [show ((stack.length : Int) - 1 - p).toNat = stack.length - 1 - p by omega, List.getElem?_reverse (by omega), show stack.length - 1 - (stack.length - 1 - p) = p by omega]
            exact Hi.out
          have hstep : ((stack.length : Int) - 1 - ((p : Int) - 1)).toNat = ((stack.length : Int) - 1 - p).toNat + 1 := by omega
          have hnext := lefts_next (r := r) hrev
          rw [Hx.out] at hnext
          have hyes : hasLeft ⟨web, col, width, turned, left⟩ = true → ∀ wq, J ((rightsD r stack ++ leftsD r (stack.reverse.take ((stack.length : Int) - 1 - p).toNat)) ++ [leftHalfD ⟨web, col, width, turned, left⟩]) wq →
              J (rightsD r stack ++ leftsD r (stack.reverse.take ((stack.length : Int) - 1 - ((p : Int) - 1)).toNat)) wq := fun h wq hj => by
            rw [hstep, hnext, if_pos h, ← List.append_assoc]; exact hj
          have hno : hasLeft ⟨web, col, width, turned, left⟩ = false → ∀ wq, J (rightsD r stack ++ leftsD r (stack.reverse.take ((stack.length : Int) - 1 - p).toNat)) wq →
              J (rightsD r stack ++ leftsD r (stack.reverse.take ((stack.length : Int) - 1 - ((p : Int) - 1)).toNat)) wq := fun h wq hj => by
            rw [hstep, hnext, h]; simpa using hj
          have hlen : (rightsD r stack ++ leftsD r (stack.reverse.take ((stack.length : Int) - 1 - p).toNat)).length < 2 * stack.length := by
            have h1 := rights_len r stack
            have h2 := lefts_len r (stack.reverse.take ((stack.length : Int) - 1 - p).toNat)
            rw [List.length_take] at h2
            rw [List.length_append]
            omega
          have hJ2 : ∀ o wq, Below (wr.alloc o).drew.heap.size (wr.alloc o).drew wq → J (rightsD r stack ++ leftsD r (stack.reverse.take ((stack.length : Int) - 1 - p).toNat)) wq ∧ KeepS S W wq := fun o wq h =>
            have hb : Below wr.heap.size wr (wr.alloc o).drew := ((Below.refl _ wr).alloc (Nat.le_refl _) o).drew
            ⟨HJ.out _ _ _ hJ (hb.trans (h.mono (by simp [World.drew]))), (hB.alloc hS o).drew.below hS h (Nat.le_refl _)⟩
          have hJ7 := fun o => hJ2 o _ (Below.refl _ _)
          have HJ7 := Lib.hid hJ7
          clear hJ7
          have Hyes := Lib.hid hyes
          have Hno := Lib.hid hno
          have Hlen := Lib.hid hlen
          have HJ2 := Lib.hid hJ2
          have Hbd := Lib.hid hbd
          clear hyes hno hlen hJ2 hbd hnext hstep hrev
          gi_wp2_with fail
          gi_region
          by_cases h2 : width = 2
          · have Hl : Hid (hasLeft ⟨web, col, width, turned, left⟩ = true) := by show hasLeft _ = true; simp [hasLeft, h2]
            have h2' : (width == 2) = true := by simpa using h2
            clear h2
            gi_wp2_with fail
            refine ⟨trivial, fun _ => by omega, callsIn_wide.2 ((leftHalf_any ⟨web, col, width, turned, left⟩ _ Hbd.out).mono ?_)⟩
            rintro e w3 ⟨rfl, hb3⟩
            obtain ⟨hJ3, hB3⟩ := HJ2.out _ _ hb3
            obtain ⟨fn, tmps, assign, body, hy, hR⟩ := HY.out _ (leftHalfD ⟨web, col, width, turned, left⟩) w3 hJ3 (Hlen.out)
            clear hb3
            unfold HalfD.val at hy ⊢
            gi_wp2_with fail
            refine ⟨fun _ => by omega, hR.mono ?_⟩
            rintro e w4 (⟨rfl, hJ4, hk4⟩ | ⟨rfl, hJx4⟩)
            · have hJ5 := Hyes.out (Hl.out) _ hJ4
              gi_wp2
              go_roundw
              case rel => exact ⟨(p : Int) - 1, by omega, by omega, by go_num, hJ5, hB3.trans hk4⟩
              case measure => simp [intOf]
            · gi_wp2
              refine bodyPost_ret (results_none rfl _ _ _) rfl ?_
              exact ⟨⟨_, rfl⟩, .inr ⟨_, trivial, hJx4⟩⟩
          · have h2' : (width == 2) = false := by simpa using h2
            cases hleft : left
            · have Hl : Hid (hasLeft ⟨web, col, width, turned, false⟩ = false) := by show hasLeft _ = false; simp [hasLeft, h2]
              subst hleft
              clear h2
              gi_wp2
              refine ⟨trivial, ?_⟩
              gi_wp2
              refine ⟨fun _ h => (by cases h), ?_⟩
              gi_wp2
              go_roundw
              case rel => exact ⟨(p : Int) - 1, by omega, by omega, by go_num, Hno.out Hl.out _ (HJ7.out _).1, (HJ7.out _).2⟩
              case measure => simp [intOf]
            · subst hleft
              have Hl : Hid (hasLeft ⟨web, col, width, turned, true⟩ = true) := by show hasLeft _ = true; simp [hasLeft]
              clear h2
              gi_wp2_with fail
              refine ⟨trivial, fun _ => by omega, callsIn_wide.2 ((leftHalf_any ⟨web, col, width, turned, true⟩ _ Hbd.out).mono ?_)⟩
              rintro e w3 ⟨rfl, hb3⟩
              obtain ⟨hJ3, hB3⟩ := HJ2.out _ _ hb3
              obtain ⟨fn, tmps, assign, body, hy, hR⟩ := HY.out _ (leftHalfD ⟨web, col, width, turned, true⟩) w3 hJ3 (Hlen.out)
              clear hb3
              unfold HalfD.val at hy ⊢
              gi_wp2_with fail
              refine ⟨fun _ => by omega, hR.mono ?_⟩
              rintro e w4 (⟨rfl, hJ4, hk4⟩ | ⟨rfl, hJx4⟩)
              · have hJ5 := Hyes.out (Hl.out) _ hJ4
                gi_wp2
                go_roundw
                case rel => exact ⟨(p : Int) - 1, by omega, by omega, by go_num, hJ5, hB3.trans hk4⟩
                case measure => simp [intOf]
              · gi_wp2
                refine bodyPost_ret (results_none rfl _ _ _) rfl ?_
                exact ⟨⟨_, rfl⟩, .inr ⟨_, trivial, hJx4⟩⟩
        · have hJ5 : J (halvesD r stack) wr := by
            have : stack.reverse.take ((stack.length : Int) - 1 - q).toNat = stack.reverse := List.take_of_length_le (by rw [List.length_reverse]; omega)
            rw [this] at hJ
            exact hJ
          have HJ5 := Lib.hid hJ5
          clear hJ5
          gi_wp2
          go_end0
          exact ⟨⟨_, rfl⟩, .inl HJ5.out⟩
end Go.Proofs.Ytdbfhdncjblleaa
