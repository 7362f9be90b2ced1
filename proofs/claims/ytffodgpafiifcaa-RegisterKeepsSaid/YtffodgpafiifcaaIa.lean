/-
  isAllowed, canBeSeen, hasMarks of any input.
-/
import Derived.Test.YtffodgpafiifcaaDg
namespace Go.Proofs.Ytffodgpafiifcaa
open Go.RowKit

/-- The answer to a question. -/
def BoolRet (P : Prop) (e : Ending) : Prop := ∃ b, e = .returned (.bool b) ∧ (b = true ↔ P)
theorem BoolRet.yes {P : Prop} (h : P) : BoolRet P (.returned (.bool true)) := ⟨true, rfl, fun _ => h, fun _ => rfl⟩
theorem BoolRet.no {P : Prop} (h : ¬ P) : BoolRet P (.returned (.bool false)) := ⟨false, rfl, fun h1 => (by cases h1), fun h1 => absurd h1 h⟩
/-- A window and places that are allowed. -/
structure AllowOk (marks : List Int) (W : Int) : Prop where
  wind : 0 ≤ W ∧ W ≤ 5000
  place : ∀ x ∈ marks, 0 ≤ x ∧ x ≤ 100000
  apart : ∀ (i : Nat) (x y : Int), marks[i]? = some x → marks[i + 1]? = some y → 4 * W < y - x
structure SeenAsc (seen : List Int) : Prop where
  place : ∀ x ∈ seen, -100000 ≤ x ∧ x ≤ 200000
  asc : ∀ (i : Nat) (x y : Int), seen[i]? = some x → seen[i + 1]? = some y → x < y
theorem AllowOk.pat {marks : List Int} {W : Int} (h : AllowOk marks W) (hl : 2 ≤ marks.length ∧ marks.length ≤ 12) : PatOk marks W := ⟨h.wind, hl, h.place, h.apart⟩
theorem SeenAsc.cam {seen : List Int} (h : SeenAsc seen) (hl : seen.length ≤ 40) : CamOk seen := ⟨hl, h.place, h.asc⟩
/-- The first k marks are allowed. -/
structure MarksTo (marks : List Int) (D : Int) (lo hi : Int) (k : Nat) : Prop where
  place : ∀ (i : Nat) (x : Int), i < k → marks[i]? = some x → lo ≤ x ∧ x ≤ hi
  apart : ∀ (i : Nat) (x y : Int), i + 1 < k → marks[i]? = some x → marks[i + 1]? = some y → D < y - x
theorem MarksTo.zero (marks : List Int) (D lo hi : Int) : MarksTo marks D lo hi 0 := ⟨fun _ _ h => absurd h (by omega), fun _ _ _ h => absurd h (by omega)⟩
theorem MarksTo.one {marks : List Int} {D lo hi x : Int} (h0 : marks[0]? = some x) (hx : lo ≤ x ∧ x ≤ hi) : MarksTo marks D lo hi 1 :=
  ⟨fun i y hi h => by obtain rfl : i = 0 := by omega
                      rw [h0] at h; cases h; exact hx, fun _ _ _ h => absurd h (by omega)⟩
theorem MarksTo.next {marks : List Int} {D lo hi x y : Int} {k : Nat} (h : MarksTo marks D lo hi (k + 1)) (hy0 : marks[k]? = some y) (hx0 : marks[k + 1]? = some x) (hx : lo ≤ x ∧ x ≤ hi) (hd : D < x - y) : MarksTo marks D lo hi (k + 2) :=
  ⟨fun i z hi hz => by
      by_cases hk : i = k + 1
      · subst hk; rw [hx0] at hz; cases hz; exact hx
      · exact h.place i z (by omega) hz,
   fun i z u hi hz hu => by
      by_cases hk : i = k
      · subst hk; rw [hy0] at hz; rw [hx0] at hu; cases hz; cases hu; exact hd
      · exact h.apart i z u (by omega) hz hu⟩
theorem MarksTo.allow {marks : List Int} {W : Int} (h : MarksTo marks (4 * W) 0 100000 marks.length) (hW : 0 ≤ W ∧ W ≤ 5000) : AllowOk marks W :=
  ⟨hW, fun x hx => by
      obtain ⟨i, hi, rfl⟩ := List.getElem_of_mem hx
      exact h.place i _ hi (List.getElem?_eq_getElem hi),
   fun i x y hx hy => h.apart i x y (List.getElem?_eq_some_iff.1 hy).1 hx hy⟩
theorem MarksTo.seen {marks : List Int} (h : MarksTo marks 0 (-100000) 200000 marks.length) : SeenAsc marks :=
  ⟨fun x hx => by
      obtain ⟨i, hi, rfl⟩ := List.getElem_of_mem hx
      exact h.place i _ hi (List.getElem?_eq_getElem hi),
   fun i x y hx hy => by have := h.apart i x y (List.getElem?_eq_some_iff.1 hy).1 hx hy; omega⟩

set_option maxHeartbeats 1000000 in
theorem hasMarks_no (A : Option Addr) (n c : Nat) (W : Int) (h : ¬ (2 ≤ n ∧ n ≤ 12)) (w : World) : Calls Try.prog 54 #[.agg #[.slice A n c, .int .i64 W]] w fun e w' => e = .returned (.bool false) ∧ Below w.heap.size w w' := by
  have C := Lib.hid (within_no n 2 12 (by omega))
  clear h
  go_enter Try.func54, Try.ntmps54
  go_wp2_with fail
  refine (C.out _).mono ?_; rintro e w' ⟨rfl, rfl⟩
  go_wp2
  go_ret
  exact ⟨rfl, below_alloc _ _⟩

set_option maxRecDepth 100000 in
set_option maxHeartbeats 2000000 in
theorem canBeSeen_any (v : Value) (seen : List Int) (w : World) (hv : RInts w.heap.size w v seen) (hl : seen.length ≤ 1000000) : Calls Try.prog 64 #[v] w fun e w' => BoolRet (SeenAsc seen) e ∧ w = w' := by
  obtain ⟨A, c, rfl, -, hA⟩ := hv.open_
  have HA := Lib.hid hA
  obtain ⟨n, hn⟩ : ∃ n, seen.length = n := ⟨_, rfl⟩
  have Hn := Lib.hid hn
  rw [hn] at hl ⊢
  clear hv hA hn
  go_enter Try.func64, Try.ntmps64
  go_wp2
  go_loop [3, 4, 7] (fun _ _ i => ∃ k : Nat, k ≤ n ∧ i = .int .i64 k ∧ MarksTo seen 0 (-100000) 200000 k) (fun _ _ i => n - (intOf i).toNat)
  case atStart => exact ⟨0, Nat.zero_le _, rfl, MarksTo.zero _ _ _ _⟩
  case round =>
    obtain ⟨k, hk, rfl, hto⟩ := hrel
    have HT := Lib.hid hto
    by_cases hlt : k < n
    · obtain ⟨g, o, x, rfl, hg, cx, hx⟩ := HA.out k (by rw [Hn.out]; exact hlt)
      have hlx := get_some (by rw [Hn.out]; exact hlt) hx.out
      have HLx := Lib.hid hlx
      clear hto hlx hx
      by_cases hin : -100000 ≤ x ∧ x ≤ 200000
      · have C := Lib.hid (within_yes x (-100000) 200000 hin)
        have Hin := Lib.hid hin
        clear hin
        rcases Nat.eq_zero_or_pos k with hk0 | hk0
        · subst hk0
          rw [Nat.add_zero] at cx
          go_wp2_with fail
          refine (C.out _).mono ?_; rintro e w' ⟨rfl, rfl⟩
          go_wp2
          refine ⟨⟨1, by omega, by go_num, MarksTo.one HLx.out Hin.out⟩, by simp [intOf]; omega⟩
        · obtain ⟨m, rfl⟩ : ∃ m, k = m + 1 := ⟨k - 1, by omega⟩
          obtain ⟨g', o', y, hgg, hg', cy, hy⟩ := HA.out m (by rw [Hn.out]; omega)
          cases hgg
          have HLy := Lib.hid (get_some (by rw [Hn.out]; omega) hy.out)
          have im1 : ((m + 1 : Nat) : Int) - 1 = (m : Int) := by omega
          have im2 : (m : Int) < (n : Int) := by omega
          have im3 : (0 : Int) < ((m + 1 : Nat) : Int) := by omega
          clear hy
          by_cases hyx : y < x
          · have hd : decide (x ≤ y) = false := by simpa using hyx
            go_wp2_with fail
            refine (C.out _).mono ?_; rintro e w' ⟨rfl, rfl⟩
            go_wp2
            refine ⟨⟨m + 2, by omega, by go_num, HT.out.next HLy.out HLx.out Hin.out (by omega)⟩, by simp [intOf]; omega⟩
          · have hd : decide (x ≤ y) = true := by simp; omega
            have HNo : Hid (¬ SeenAsc seen) := fun h => hyx (h.asc m y x HLy.out HLx.out)
            clear hyx
            go_wp2_with fail
            refine (C.out _).mono ?_; rintro e w' ⟨rfl, rfl⟩
            go_wp2
            go_ret
            exact ⟨BoolRet.no HNo.out, rfl⟩
      · have C := Lib.hid (within_no x (-100000) 200000 hin)
        have HNo : Hid (¬ SeenAsc seen) := fun h => hin (h.place x (List.mem_of_getElem? HLx.out))
        clear hin
        go_wp2_with fail
        refine (C.out _).mono ?_; rintro e w' ⟨rfl, rfl⟩
        go_wp2
        go_ret
        exact ⟨BoolRet.no HNo.out, rfl⟩
    · have hk' : k = n := by omega
      subst hk'
      have HY : Hid (SeenAsc seen) := MarksTo.seen (by rw [Hn.out]; exact hto)
      clear hto
      go_wp2
      go_ret
      exact ⟨BoolRet.yes HY.out, rfl⟩

set_option maxRecDepth 100000 in
set_option maxHeartbeats 4000000 in
theorem isAllowed_any (v : Value) (marks : List Int) (W : Int) (w : World) (hv : RInts w.heap.size w v marks) (hl : marks.length ≤ 1000000) : Calls Try.prog 55 #[.agg #[v, .int .i64 W]] w fun e w' => BoolRet (AllowOk marks W) e ∧ Below w.heap.size w w' := by
  obtain ⟨A, c, rfl, -, hA⟩ := hv.open_
  have HA := Lib.hid hA
  obtain ⟨n, hn⟩ : ∃ n, marks.length = n := ⟨_, rfl⟩
  have Hn := Lib.hid hn
  obtain ⟨w1, e1, B1, V1⟩ : ∃ w1, w.alloc (.cells #[.slice A n c, .int .i64 W] 87) = w1 ∧ Below w.heap.size w w1 ∧ Blk w1 w.heap.size 87 #[.slice A n c, .int .i64 W] := ⟨_, rfl, below_alloc _ _, Blk.new _ _ _⟩
  have E1 := Lib.hid e1
  have v0 := cellOf V1 0 (x := .slice A n c) rfl
  have v1 := cellOf V1 1 (x := .int .i64 W) rfl
  have HB := Lib.hid B1
  have HV := Lib.hid V1
  rw [hn] at hl ⊢
  clear hv hA hn e1 V1 B1
  by_cases hW : 0 ≤ W ∧ W ≤ 5000
  · have CW := Lib.hid (within_yes W 0 5000 hW)
    have HW := Lib.hid hW
    obtain ⟨hW1, hW2⟩ := hW
    go_enter Try.func55, Try.ntmps55
    go_upto_region 1 with fail
    rw [E1.out]
    go_wp2_with fail
    refine (CW.out _).mono ?_; rintro e w' ⟨rfl, rfl⟩
    go_wp2
    clear v0 v1 CW
    go_loopw [3, 4, 12] (fun _ _ i wr => ∃ k : Nat, k ≤ n ∧ i = .int .i64 k ∧ MarksTo marks (4 * W) 0 100000 k ∧ Below w1.heap.size w1 wr) (fun _ _ i _ => n - (intOf i).toNat)
    case atStart => exact ⟨0, Nat.zero_le _, rfl, MarksTo.zero _ _ _ _, Below.refl _ _⟩
    case round =>
      obtain ⟨k, hk, rfl, hto, hb⟩ := hrel
      have HT := Lib.hid hto
      have hbw := HB.out.trans (hb.mono HB.out.size)
      have Hbw := Lib.hid hbw
      have hVr := HV.out.below hb HV.out.lt
      have v0 := cellOf hVr 0 (x := .slice A n c) rfl
      have v1 := cellOf hVr 1 (x := .int .i64 W) rfl
      by_cases hlt : k < n
      · obtain ⟨g, o, x, rfl, hg, cx, hx⟩ := HA.out k (by rw [Hn.out]; exact hlt)
        have HLx := Lib.hid (get_some (by rw [Hn.out]; exact hlt) hx.out)
        have cx' := (hbw.cell (p := ⟨g, o + k, none⟩) hg).trans cx
        have Hb := Lib.hid hb
        clear hto hx cx
        by_cases hin : 0 ≤ x ∧ x ≤ 100000
        · have C : Hid (∀ X, Calls Try.prog 42 #[.int .i64 x, .int .i64 0, .int .i64 100000] X fun e w' => e = .returned (.bool true) ∧ w' = X) := fun X => (within_yes x 0 100000 hin X).mono fun e w' h => ⟨h.1, h.2.symm⟩
          have Hin := Lib.hid hin
          rcases Nat.eq_zero_or_pos k with hk0 | hk0
          · subst hk0
            rw [Nat.add_zero] at cx'
            clear hb hbw hVr hin
            go_upto_region 6 with fail
            go_quiet ((go_at_call 42; refine Calls.quiet_of_same (C.out _)))
            go_wp2
            go_roundw
            case rel => exact ⟨1, by omega, by go_num, MarksTo.one HLx.out Hin.out, below_drewN Hb.out _⟩
            case measure => simp [intOf]; omega
          · obtain ⟨m, rfl⟩ : ∃ m, k = m + 1 := ⟨k - 1, by omega⟩
            obtain ⟨g', o', y, hgg, hg', cy, hy⟩ := HA.out m (by rw [Hn.out]; omega)
            cases hgg
            have HLy := Lib.hid (get_some (by rw [Hn.out]; omega) hy.out)
            have hyp := HT.out.place m y (by omega) HLy.out
            have cy' := (hbw.cell (p := ⟨g, o + m, none⟩) hg).trans cy
            have im1 : ((m + 1 : Nat) : Int) - 1 = (m : Int) := by omega
            have im2 : (m : Int) < (n : Int) := by omega
            have im3 : (0 : Int) < ((m + 1 : Nat) : Int) := by omega
            have im0 : (0 : Int) ≤ (m : Int) := by omega
            have kw1 : IntKind.i64.wrap (m : Int) = (m : Int) := IntWalk.i64_in _ ⟨by omega, by omega⟩
            have kw2 : IntKind.i64.wrap (x - y) = x - y := IntWalk.i64_in _ ⟨by omega, by omega⟩
            have kw3 : IntKind.i64.wrap (4 * W) = 4 * W := IntWalk.i64_in _ ⟨by omega, by omega⟩
            clear hy cy hb hbw hVr
            by_cases hyx : 4 * W < x - y
            · have hd : decide (x - y ≤ 4 * W) = false := by simpa using hyx
              have hd2 : ¬ x - y ≤ 4 * W := by omega
              go_upto_region 6 with fail
              go_quiet ((go_at_call 42; refine Calls.quiet_of_same (C.out _)))
              clear kw1 kw2 kw3
              go_wp2
              go_roundw
              case rel => exact ⟨m + 2, by omega, by go_num, HT.out.next HLy.out HLx.out Hin.out hyx, below_drewN Hb.out _⟩
              case measure => simp [intOf]; omega
            · have hd : decide (x - y ≤ 4 * W) = true := by simp; omega
              have hd2 : x - y ≤ 4 * W := by omega
              have HNo : Hid (¬ AllowOk marks W) := fun h => hyx (h.apart m y x HLy.out HLx.out)
              clear hyx
              go_upto_region 6 with fail
              go_quiet ((go_at_call 42; refine Calls.quiet_of_same (C.out _)))
              clear kw1 kw2 kw3
              go_wp2
              go_ret
              exact ⟨BoolRet.no HNo.out, below_drewN Hbw.out _⟩
        · have C : Hid (∀ X, Calls Try.prog 42 #[.int .i64 x, .int .i64 0, .int .i64 100000] X fun e w' => e = .returned (.bool false) ∧ w' = X) := fun X => (within_no x 0 100000 hin X).mono fun e w' h => ⟨h.1, h.2.symm⟩
          have HNo : Hid (¬ AllowOk marks W) := fun h => hin (h.place x (List.mem_of_getElem? HLx.out))
          clear hin hb hbw hVr
          go_upto_region 6 with fail
          go_quiet ((go_at_call 42; refine Calls.quiet_of_same (C.out _)))
          go_wp2
          go_ret
          exact ⟨BoolRet.no HNo.out, below_drewN Hbw.out _⟩
      · have hk' : k = n := by omega
        subst hk'
        have HY : Hid (AllowOk marks W) := MarksTo.allow (by rw [Hn.out]; exact hto) HW.out
        clear hb hbw hVr hto
        go_wp2
        go_ret
        exact ⟨BoolRet.yes HY.out, Hbw.out⟩
  · have CW := Lib.hid (within_no W 0 5000 hW)
    have HNo : Hid (¬ AllowOk marks W) := fun h => hW h.wind
    clear hW
    go_enter Try.func55, Try.ntmps55
    go_upto_region 1 with fail
    rw [E1.out]
    go_wp2_with fail
    refine (CW.out _).mono ?_; rintro e w' ⟨rfl, rfl⟩
    go_wp2
    go_ret
    exact ⟨BoolRet.no HNo.out, HB.out⟩
end Go.Proofs.Ytffodgpafiifcaa
