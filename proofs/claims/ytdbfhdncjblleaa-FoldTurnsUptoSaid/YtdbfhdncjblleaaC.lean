/-
  THE CHECKS OF A RUN, first part: hasPages, checkNumbers, fits, checkWebs.
-/
import Derived.Test.YtdbfhdncjblleaaB
namespace Go.Proofs.Ytdbfhdncjblleaa
open Go.RowKit

theorem ri {a b : Int} (h : b = a) : Ending.returned (.int .i64 a) = Ending.returned (.int .i64 b) := by rw [h]

def hasPagesB (l : List (List Int)) : Bool := l.all fun x => x.all isPageB

theorem all_next {α : Type} {f : α → Bool} {l : List α} {k : Nat} {x : α} (h : Hid ((l.take k).all f = true)) (hx : l[k]? = some x) (hf : f x = true) : Hid ((l.take (k + 1)).all f = true) := by
  obtain ⟨hk, rfl⟩ := List.getElem?_eq_some_iff.1 hx
  show (l.take (k + 1)).all f = true
  rw [List.take_succ_eq_append_getElem hk, List.all_append, h.out]
  simp [hf]
theorem all_end {α : Type} {f : α → Bool} {l : List α} {k : Nat} (h : Hid ((l.take k).all f = true)) (hk : l.length ≤ k) : Hid (l.all f = true) := by
  show l.all f = true
  have := h.out
  rwa [List.take_of_length_le hk] at this
theorem all_not {α : Type} {f : α → Bool} {l : List α} {k : Nat} {x : α} (hx : l[k]? = some x) (hf : f x = false) : l.all f = false := by
  cases h : l.all f with
  | false => rfl
  | true =>
    have := List.all_eq_true.1 h x (List.mem_of_getElem? hx)
    rw [hf] at this
    cases this

set_option maxHeartbeats 400000 in
theorem hasPages_any (v : Value) (l : List (List Int)) (w : World) (h : RIntss w.heap.size w v l) :
    Calls Try.prog 54 #[v] w fun e w' => e = .returned (.bool (hasPagesB l)) ∧ w = w' := by
  obtain ⟨A, c, rfl, hA1, hA⟩ := h.open_
  go_enter Try.func54, Try.ntmps54
  go_wp2
  go_loop [9] (fun i => ∃ k : Nat, k ≤ l.length ∧ i = .int .i64 k ∧ Hid ((l.take k).all (fun x => x.all isPageB) = true)) (fun i => l.length - (intOf i).toNat)
  case atStart => exact ⟨0, Nat.zero_le _, rfl, rfl⟩
  case round =>
    obtain ⟨k, hk, rfl, ht⟩ := hrel
    by_cases hlt : k < l.length
    · obtain ⟨x, hx⟩ : ∃ x, l[k]? = some x := ⟨_, List.getElem?_eq_getElem hlt⟩
      obtain ⟨g, o, u, rfl, hb, hc1, hp⟩ := hA k x hx
      obtain ⟨A5, c5, rfl, hA5, hA6⟩ := RInts.open_ hp
      have Hx := Lib.hid hx
      clear hx
      go_wp2
      go_loop [15] (fun i => ∃ m : Nat, m ≤ x.length ∧ i = .int .i64 m ∧ Hid ((x.take m).all isPageB = true)) (fun i => x.length - (intOf i).toNat)
      case atStart => exact ⟨0, Nat.zero_le _, rfl, rfl⟩
      case round =>
        obtain ⟨m, hm, rfl, hs⟩ := hrel
        by_cases hmt : m < x.length
        · obtain ⟨g2, o2, y, rfl, hb2, hc2, hy⟩ := hA6 m hmt
          have Hy : Hid (x[m]? = some y) := by
            show x[m]? = some y
            have := hy.out
            simpa [List.getD_eq_getElem?_getD, List.getElem?_eq_getElem hmt] using this
          clear hA hA6
          cases hpg : isPageB y
          · go_wp2_with (go_at_call 72; refine (isPage_any _ _).mono ?_; rintro e w' ⟨rfl, rfl⟩)
            go_ret
            exact ⟨rb (all_not Hx.out (all_not Hy.out hpg)), rfl⟩
          · go_wp2_with (go_at_call 72; refine (isPage_any _ _).mono ?_; rintro e w' ⟨rfl, rfl⟩)
            go_round
            case rel => exact ⟨m + 1, by omega, by go_num, all_next hs Hy.out hpg⟩
            case measure => simp [intOf]; omega
        · have Hs := all_end hs (by omega)
          go_wp2
          go_round
          case rel => exact ⟨k + 1, by omega, by go_num, all_next ht Hx.out Hs.out⟩
          case measure => simp [intOf]; omega
    · have Ht := all_end ht (by omega)
      go_wp2
      go_ret
      exact ⟨rb (Ht.out), rfl⟩

set_option maxHeartbeats 400000 in
theorem allowed_any (n m : Int) (w : World) :
    Calls Try.prog 78 #[.int .i64 n, .int .i64 m] w fun e w' => e = .returned (.bool (decide (1 ≤ n ∧ n ≤ m))) ∧ w = w' := by
  by_cases h1 : 1 ≤ n
  · by_cases h2 : n ≤ m
    · go_enter Try.func78, Try.ntmps78
      go_wp2
      go_ret
      exact ⟨rb (by simp [h1, h2]), rfl⟩
    · go_enter Try.func78, Try.ntmps78
      go_wp2
      go_ret
      exact ⟨rb (by simp [h1, h2]), rfl⟩
  · go_enter Try.func78, Try.ntmps78
    go_wp2
    go_ret
    exact ⟨rb (by simp [show ¬ 1 ≤ n by omega]), rfl⟩

def numbersB (r : RunD) : Bool := decide (1 ≤ r.webs.length ∧ r.webs.length ≤ 8) && decide (1 ≤ r.ribs.length ∧ r.ribs.length ≤ 32) && decide (1 ≤ r.stacks.length ∧ r.stacks.length ≤ 4)

def numbersE (r : RunD) : Int := if numbersB r then 0 else 2

theorem allowed_yes (n m : Int) (h : 1 ≤ n ∧ n ≤ m) (w : World) :
    Calls Try.prog 78 #[.int .i64 n, .int .i64 m] w fun e w' => e = .returned (.bool true) ∧ w = w' :=
  (allowed_any n m w).mono fun e w' ⟨he, hw⟩ => ⟨he.trans (by simp [h.1, h.2]), hw⟩
theorem allowed_no (n m : Int) (h : ¬ (1 ≤ n ∧ n ≤ m)) (w : World) :
    Calls Try.prog 78 #[.int .i64 n, .int .i64 m] w fun e w' => e = .returned (.bool false) ∧ w = w' :=
  (allowed_any n m w).mono fun e w' ⟨he, hw⟩ => ⟨he.trans (by rw [decide_eq_false h]), hw⟩

set_option maxHeartbeats 400000 in
theorem checkNumbers_any (v : Value) (r : RunD) (w : World) (h : RRun w.heap.size w v r) :
    Calls Try.prog 63 #[v] w fun e w' => e = .returned (.int .i64 (numbersE r)) ∧ Below w.heap.size w w' := by
  obtain ⟨v1, v2, v3, rfl, hw, hr, hs⟩ := h
  obtain ⟨A, c, rfl, hA1, -⟩ := hw.open_
  obtain ⟨A2, c2, rfl, hA2⟩ := slice_len hr
  obtain ⟨A3, c3, rfl, hA3, -⟩ := hs.open_
  by_cases h1 : 1 ≤ (r.webs.length : Int) ∧ (r.webs.length : Int) ≤ 8
  · by_cases h2 : 1 ≤ (r.ribs.length : Int) ∧ (r.ribs.length : Int) ≤ 32
    · by_cases h3 : 1 ≤ (r.stacks.length : Int) ∧ (r.stacks.length : Int) ≤ 4
      · have hn : numbersE r = 0 := by
          rw [numbersE, if_pos]; simp only [numbersB, Bool.and_eq_true, decide_eq_true_eq]; omega
        have C1 := Lib.hid (allowed_yes _ _ h1); have C2 := Lib.hid (allowed_yes _ _ h2); have C3 := Lib.hid (allowed_yes _ _ h3)
        have Hn := Lib.hid hn
        clear h1 h2 h3 hn
        go_enter Try.func63, Try.ntmps63
        go_wp2_with fail
        refine (C1.out _).mono ?_; rintro e w' ⟨rfl, rfl⟩
        go_wp2_with fail
        refine (C2.out _).mono ?_; rintro e w' ⟨rfl, rfl⟩
        go_wp2_with fail
        refine (C3.out _).mono ?_; rintro e w' ⟨rfl, rfl⟩
        go_wp2
        go_ret
        exact ⟨ri Hn.out, (Below.refl _ _).alloc (Nat.le_refl _) _⟩
      · have hn : numbersE r = 2 := by
          rw [numbersE, if_neg]; simp only [numbersB, Bool.and_eq_true, decide_eq_true_eq]; omega
        have C1 := Lib.hid (allowed_yes _ _ h1); have C2 := Lib.hid (allowed_yes _ _ h2); have C3 := Lib.hid (allowed_no _ _ h3)
        have Hn := Lib.hid hn
        clear h1 h2 h3 hn
        go_enter Try.func63, Try.ntmps63
        go_wp2_with fail
        refine (C1.out _).mono ?_; rintro e w' ⟨rfl, rfl⟩
        go_wp2_with fail
        refine (C2.out _).mono ?_; rintro e w' ⟨rfl, rfl⟩
        go_wp2_with fail
        refine (C3.out _).mono ?_; rintro e w' ⟨rfl, rfl⟩
        go_wp2
        go_ret
        exact ⟨ri Hn.out, (Below.refl _ _).alloc (Nat.le_refl _) _⟩
    · have hn : numbersE r = 2 := by
        rw [numbersE, if_neg]; simp only [numbersB, Bool.and_eq_true, decide_eq_true_eq]; omega
      have C1 := Lib.hid (allowed_yes _ _ h1); have C2 := Lib.hid (allowed_no _ _ h2)
      have Hn := Lib.hid hn
      clear h1 h2 hn
      go_enter Try.func63, Try.ntmps63
      go_wp2_with fail
      refine (C1.out _).mono ?_; rintro e w' ⟨rfl, rfl⟩
      go_wp2_with fail
      refine (C2.out _).mono ?_; rintro e w' ⟨rfl, rfl⟩
      go_wp2
      go_ret
      exact ⟨ri Hn.out, (Below.refl _ _).alloc (Nat.le_refl _) _⟩
  · have hn : numbersE r = 2 := by
      rw [numbersE, if_neg]; simp only [numbersB, Bool.and_eq_true, decide_eq_true_eq]; omega
    have C1 := Lib.hid (allowed_no _ _ h1)
    have Hn := Lib.hid hn
    clear h1 hn
    go_enter Try.func63, Try.ntmps63
    go_wp2_with fail
    refine (C1.out _).mono ?_; rintro e w' ⟨rfl, rfl⟩
    go_wp2
    go_ret
    exact ⟨ri Hn.out, (Below.refl _ _).alloc (Nat.le_refl _) _⟩

end Go.Proofs.Ytdbfhdncjblleaa
