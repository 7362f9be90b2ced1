/-
  Match of a pattern and what was seen, both allowed.
-/
import Derived.Test.YtffodgpafiifcaaDe
namespace Go.Proofs.Ytffodgpafiifcaa
open Go.RowKit

structure PatOk (marks : List Int) (W : Int) : Prop where
  wind : 0 ≤ W ∧ W ≤ 5000
  len : 2 ≤ marks.length ∧ marks.length ≤ 12
  place : ∀ x ∈ marks, 0 ≤ x ∧ x ≤ 100000
  apart : ∀ (i : Nat) (x y : Int), marks[i]? = some x → marks[i + 1]? = some y → 4 * W < y - x
structure CamOk (seen : List Int) : Prop where
  len : seen.length ≤ 40
  place : ∀ x ∈ seen, -100000 ≤ x ∧ x ≤ 200000
  asc : ∀ (i : Nat) (x y : Int), seen[i]? = some x → seen[i + 1]? = some y → x < y
theorem CamOk.ascends {seen : List Int} (h : CamOk seen) : Ascends seen := by
  have key : ∀ (d i : Nat) (x y : Int), seen[i]? = some x → seen[i + 1 + d]? = some y → x < y := by
    intro d
    induction d with
    | zero => intro i x y hx hy; exact h.asc i x y hx hy
    | succ d ih =>
      intro i x y hx hy
      have hlt := (List.getElem?_eq_some_iff.1 hy).1
      have hz : seen[i + 1 + d]? = some seen[i + 1 + d] := List.getElem?_eq_getElem (by omega)
      have h1 := ih i x _ hx hz
      have h2 := h.asc (i + 1 + d) _ y hz hy
      omega
  intro i j x y hij hx hy
  exact key (j - (i + 1)) i x y hx (by rw [show i + 1 + (j - (i + 1)) = j by omega]; exact hy)
theorem get_some {l : List Int} {k : Nat} {x : Int} (hk : k < l.length) (h : l.getD k 0 = x) : l[k]? = some x := by
  rw [List.getD_eq_getElem?_getD, List.getElem?_eq_getElem hk, Option.getD_some] at h
  rw [List.getElem?_eq_getElem hk, h]

set_option maxHeartbeats 1000000 in
theorem hasMarks_yes (A : Option Addr) (n c : Nat) (W : Int) (h : 2 ≤ n ∧ n ≤ 12) (w : World) : Calls Try.prog 54 #[.agg #[.slice A n c, .int .i64 W]] w fun e w' => e = .returned (.bool true) ∧ Below w.heap.size w w' := by
  have C := Lib.hid (within_yes n 2 12 (by omega))
  obtain ⟨h1, h2⟩ := h
  go_enter Try.func54, Try.ntmps54
  go_wp2_with fail
  refine (C.out _).mono ?_; rintro e w' ⟨rfl, rfl⟩
  go_wp2
  go_ret
  exact ⟨rfl, below_alloc _ _⟩

set_option maxRecDepth 100000 in
set_option maxHeartbeats 2000000 in
theorem canBeSeen_yes (v : Value) (seen : List Int) (w : World) (hv : RInts w.heap.size w v seen) (h : CamOk seen) : Calls Try.prog 64 #[v] w fun e w' => e = .returned (.bool true) ∧ w = w' := by
  obtain ⟨A, c, rfl, -, hA⟩ := hv.open_
  have HA := Lib.hid hA
  have H := Lib.hid h
  obtain ⟨n, hn⟩ : ∃ n, seen.length = n := ⟨_, rfl⟩
  have hl := h.len
  have Hn := Lib.hid hn
  rw [hn] at hl ⊢
  clear hv h hA hn
  go_enter Try.func64, Try.ntmps64
  go_wp2
  go_loop [3, 4, 7] (fun _ _ i => ∃ k : Nat, k ≤ n ∧ i = .int .i64 k) (fun _ _ i => n - (intOf i).toNat)
  case atStart => exact ⟨0, Nat.zero_le _, rfl⟩
  case round =>
    obtain ⟨k, hk, rfl⟩ := hrel
    by_cases hlt : k < n
    · obtain ⟨g, o, x, rfl, hg, cx, hx⟩ := HA.out k (by rw [Hn.out]; exact hlt)
      have hlx := get_some (by rw [Hn.out]; exact hlt) hx.out
      have C := Lib.hid (within_yes x (-100000) 200000 (H.out.place x (List.mem_of_getElem? hlx)))
      rcases Nat.eq_zero_or_pos k with hk0 | hk0
      · subst hk0
        rw [Nat.add_zero] at cx
        clear hlx hx
        go_wp2_with fail
        refine (C.out _).mono ?_; rintro e w' ⟨rfl, rfl⟩
        go_wp2
        refine ⟨⟨1, by omega, by go_num⟩, by simp [intOf]; omega⟩
      · obtain ⟨m, rfl⟩ : ∃ m, k = m + 1 := ⟨k - 1, by omega⟩
        obtain ⟨g', o', y, hgg, hg', cy, hy⟩ := HA.out m (by rw [Hn.out]; omega)
        cases hgg
        have hly := get_some (by rw [Hn.out]; omega) hy.out
        have hyx := H.out.asc m y x hly hlx
        have im1 : ((m + 1 : Nat) : Int) - 1 = (m : Int) := by omega
        have im2 : (m : Int) < (n : Int) := by omega
        have im3 : (0 : Int) < ((m + 1 : Nat) : Int) := by omega
        have hd : decide (x ≤ y) = false := by simpa using hyx
        clear hlx hly hx hy hyx
        go_wp2_with fail
        refine (C.out _).mono ?_; rintro e w' ⟨rfl, rfl⟩
        go_wp2
        refine ⟨⟨m + 2, by omega, by go_num⟩, by simp [intOf]; omega⟩
    · have hk' : k = n := by omega
      subst hk'
      go_wp2
      go_ret
      exact ⟨rfl, rfl⟩

set_option maxRecDepth 100000 in
set_option maxHeartbeats 2000000 in
theorem isAllowed_yes (v : Value) (marks : List Int) (W : Int) (w : World) (hv : RInts w.heap.size w v marks) (h : PatOk marks W) : Calls Try.prog 55 #[.agg #[v, .int .i64 W]] w fun e w' => e = .returned (.bool true) ∧ Below w.heap.size w w' := by
  obtain ⟨A, c, rfl, -, hA⟩ := hv.open_
  have HA := Lib.hid hA
  have H := Lib.hid h
  obtain ⟨n, hn⟩ : ∃ n, marks.length = n := ⟨_, rfl⟩
  have hl := h.len.2
  have hW := h.wind
  have Hn := Lib.hid hn
  have CW := Lib.hid (within_yes W 0 5000 h.wind)
  obtain ⟨w1, e1, B1, V1⟩ : ∃ w1, w.alloc (.cells #[.slice A n c, .int .i64 W] 87) = w1 ∧ Below w.heap.size w w1 ∧ Blk w1 w.heap.size 87 #[.slice A n c, .int .i64 W] := ⟨_, rfl, below_alloc _ _, Blk.new _ _ _⟩
  have E1 := Lib.hid e1
  have v0 := cellOf V1 0 (x := .slice A n c) rfl
  have v1 := cellOf V1 1 (x := .int .i64 W) rfl
  have HB := Lib.hid B1
  have HV := Lib.hid V1
  obtain ⟨hW1, hW2⟩ := hW
  rw [hn] at hl ⊢
  clear hv h hA hn e1 V1 B1
  go_enter Try.func55, Try.ntmps55
  go_upto_region 1 with fail
  rw [E1.out]
  go_wp2_with fail
  refine (CW.out _).mono ?_; rintro e w' ⟨rfl, rfl⟩
  go_wp2
  clear v0 v1 CW
  go_loopw [3, 4, 12] (fun _ _ i wr => ∃ k : Nat, k ≤ n ∧ i = .int .i64 k ∧ Below w1.heap.size w1 wr) (fun _ _ i _ => n - (intOf i).toNat)
  case atStart => exact ⟨0, Nat.zero_le _, rfl, Below.refl _ _⟩
  case round =>
    obtain ⟨k, hk, rfl, hb⟩ := hrel
    have hbw := HB.out.trans (hb.mono HB.out.size)
    have hVr := HV.out.below hb HV.out.lt
    have v0 := cellOf hVr 0 (x := .slice A n c) rfl
    have v1 := cellOf hVr 1 (x := .int .i64 W) rfl
    by_cases hlt : k < n
    · obtain ⟨g, o, x, rfl, hg, cx, hx⟩ := HA.out k (by rw [Hn.out]; exact hlt)
      have hlx := get_some (by rw [Hn.out]; exact hlt) hx.out
      have hxp := H.out.place x (List.mem_of_getElem? hlx)
      have C : Hid (∀ X, Calls Try.prog 42 #[.int .i64 x, .int .i64 0, .int .i64 100000] X fun e w' => e = .returned (.bool true) ∧ w' = X) := fun X => (within_yes x 0 100000 hxp X).mono fun e w' h => ⟨h.1, h.2.symm⟩
      have cx' := (hbw.cell (p := ⟨g, o + k, none⟩) hg).trans cx
      have Hb := Lib.hid hb
      rcases Nat.eq_zero_or_pos k with hk0 | hk0
      · subst hk0
        rw [Nat.add_zero] at cx'
        clear hlx hx cx hb hbw hVr
        go_upto_region 6 with fail
        go_quiet ((go_at_call 42; refine Calls.quiet_of_same (C.out _)))
        go_wp2
        go_roundw
        case rel => exact ⟨1, by omega, by go_num, below_drewN Hb.out _⟩
        case measure => simp [intOf]; omega
      · obtain ⟨m, rfl⟩ : ∃ m, k = m + 1 := ⟨k - 1, by omega⟩
        obtain ⟨g', o', y, hgg, hg', cy, hy⟩ := HA.out m (by rw [Hn.out]; omega)
        cases hgg
        have hly := get_some (by rw [Hn.out]; omega) hy.out
        have hyp := H.out.place y (List.mem_of_getElem? hly)
        have hyx := H.out.apart m y x hly hlx
        have cy' := (hbw.cell (p := ⟨g, o + m, none⟩) hg).trans cy
        have im1 : ((m + 1 : Nat) : Int) - 1 = (m : Int) := by omega
        have im2 : (m : Int) < (n : Int) := by omega
        have im3 : (0 : Int) < ((m + 1 : Nat) : Int) := by omega
        have im0 : (0 : Int) ≤ (m : Int) := by omega
        have kw1 : IntKind.i64.wrap (m : Int) = (m : Int) := IntWalk.i64_in _ ⟨by omega, by omega⟩
        have kw2 : IntKind.i64.wrap (x - y) = x - y := IntWalk.i64_in _ ⟨by omega, by omega⟩
        have kw3 : IntKind.i64.wrap (4 * W) = 4 * W := IntWalk.i64_in _ ⟨by omega, by omega⟩
        have hd : decide (x - y ≤ 4 * W) = false := by simpa using hyx
        have hd2 : ¬ x - y ≤ 4 * W := by omega
        clear hlx hly hx hy hyx cx cy hb hbw hVr
        go_upto_region 6 with fail
        go_quiet ((go_at_call 42; refine Calls.quiet_of_same (C.out _)))
        clear kw1 kw2 kw3
        go_wp2
        go_roundw
        case rel => exact ⟨m + 2, by omega, by go_num, below_drewN Hb.out _⟩
        case measure => simp [intOf]; omega
    · have hk' : k = n := by omega
      subst hk'
      have Hbw := Lib.hid hbw
      clear hb hbw hVr
      go_wp2
      go_ret
      exact ⟨rfl, Hbw.out⟩
end Go.Proofs.Ytffodgpafiifcaa
