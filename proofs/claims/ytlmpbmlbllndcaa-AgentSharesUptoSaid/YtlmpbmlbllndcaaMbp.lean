/-
  Plain: the reference's choice among those who want more.
  The reference's in, right and Check.
-/
import Derived.Test.YtlmpbmlbllndcaaMbm
import Derived.Test.YtlmpbmlbllndcaaMai
namespace Go.Proofs.Ytlmpbmlbllndcaa
open Go.RowKit

/-- The one to get the next copy, of the first k. -/
def pickTo (l : List OrdD) (g : List Int) (k : Nat) : Option Nat := leastTo (lessP l g) none ((List.range k).filter fun i => decide (g.getD i 0 < copAt l i))
theorem pickTo_all (l : List OrdD) (g : List Int) : pickTo l g l.length = pickS l g := rfl
def bestI : Option Nat → Int
  | none => -1
  | some i => (i : Int)
theorem bestI_neg {o : Option Nat} (h : bestI o < 0) : o = none := by
  cases o with
  | none => rfl
  | some i => exact absurd h (by show ¬ (i : Int) < 0; omega)
theorem pickTo_mem {l : List OrdD} {g : List Int} {k i : Nat} (h : pickTo l g k = some i) : i < k ∧ g.getD i 0 < copAt l i := by
  have h1 := leastTo_mem h
  rw [List.mem_filter, List.mem_range, decide_eq_true_eq] at h1
  exact h1
theorem pickTo_skip {l : List OrdD} {g : List Int} {k : Nat} (h : ¬ g.getD k 0 < copAt l k) : pickTo l g (k + 1) = pickTo l g k := by
  unfold pickTo
  rw [List.range_succ, List.filter_append, List.filter_cons_of_neg (by simpa using h), List.filter_nil, List.append_nil]
theorem pickTo_take {l : List OrdD} {g : List Int} {k : Nat} (h : g.getD k 0 < copAt l k) : pickTo l g (k + 1) = match pickTo l g k with
    | none => some k
    | some y => some (if lessP l g k y then k else y) := by
  unfold pickTo
  rw [List.range_succ, List.filter_append, List.filter_cons_of_pos (by simpa using h), List.filter_nil, leastTo_snoc]
  cases leastTo (lessP l g) none ((List.range k).filter fun i => decide (g.getD i 0 < copAt l i)) <;> rfl
/-- Fair as the reference says it. -/
theorem allowB_ref {l : List OrdD} {g : List Int} {c : Int} (hg : g.length = l.length) (h : okTo l g l.length = true) : allowB l g c = !(!(sumI g == c) && !(sumI g == allC l) || decide (c < sumI g)) := by
  have h1 : sumI g ≤ allC l := sum_le l g hg fun i hi => (inB_iff.1 (List.all_eq_true.1 h i (List.mem_range.2 hi))).2
  unfold allowB
  rw [h, Bool.true_and]
  by_cases h2 : sumI g = c
  · have h3 : min c (allC l) = c := by omega
    rw [h3]
    simp [h2]
  · by_cases h4 : sumI g = allC l
    · by_cases h5 : c < sumI g
      · have h3 : min c (allC l) = c := by omega
        rw [h3]
        simp [h2, h5]
      · have h3 : min c (allC l) = allC l := by omega
        rw [h3]
        simp [h4]
        omega
    · have h3 : ¬ sumI g = min c (allC l) := by omega
      simp [h2, h3, h4]
end Go.Proofs.Ytlmpbmlbllndcaa

namespace Go.Proofs.Ytlmpbmlbllndcaa
open Go.RowKit
attribute [local go_sem] Oper.semAt_some

theorem refIn_any (n lo hi : Int) (w : World) : Calls Try.prog 98 #[.int .i64 n, .int .i64 lo, .int .i64 hi] w fun e w' => e = .returned (.bool (inB n lo hi)) ∧ w = w' := by
  by_cases h1 : lo ≤ n
  · by_cases h2 : n ≤ hi
    · go_enter Try.func98, Try.ntmps98
      go_wp2
      go_ret
      exact ⟨rb (inB_iff.2 ⟨h1, h2⟩), rfl⟩
    · go_enter Try.func98, Try.ntmps98
      go_wp2
      go_ret
      exact ⟨rb (by unfold inB; exact decide_eq_false (by omega)), rfl⟩
  · go_enter Try.func98, Try.ntmps98
    go_wp2
    go_ret
    exact ⟨rb (by unfold inB; exact decide_eq_false (by omega)), rfl⟩
set_option maxHeartbeats 2000000 in
theorem refRight_any (d : DayD) (w : World) : Calls Try.prog 97 #[.agg #[.int .i64 d.sup, .int .i64 d.ret]] w fun e w' => e = .returned (.bool (d.okB)) ∧ Below w.heap.size w w' := by
  obtain ⟨b1, hb1⟩ : ∃ b, inB d.sup 0 10000 = b := ⟨_, rfl⟩
  have C1 := Lib.hid (fun w => refIn_any d.sup 0 10000 w)
  rw [hb1] at C1
  have HE : Hid (d.okB = (b1 && inB d.ret 0 d.sup)) := by show _ = _; rw [← hb1]; rfl
  have F0 : ∃ W0, w.alloc (.cells #[.int .i64 d.sup, .int .i64 d.ret] 99) = W0 ∧ Hid (Below w.heap.size w W0) ∧ Hid (Blk W0 w.heap.size 99 #[.int .i64 d.sup, .int .i64 d.ret]) := ⟨_, rfl, below_alloc _ _, Blk.new _ _ _⟩
  obtain ⟨W0, e0, HB0, HK0⟩ := F0
  have E0 := Lib.hid e0
  have z0 := cellOf HK0.out 0 (x := .int .i64 d.sup) rfl
  have z1 := cellOf HK0.out 1 (x := .int .i64 d.ret) rfl
  obtain ⟨s, hs⟩ : ∃ s, d.sup = s := ⟨_, rfl⟩
  obtain ⟨r, hr⟩ : ∃ s, d.ret = s := ⟨_, rfl⟩
  rw [hs] at z0 C1 E0
  rw [hr] at z1 E0
  rw [hs, hr] at HE ⊢
  clear e0 hb1 hs hr
  cases b1 with
  | false =>
    have HX : Hid (d.okB = false) := by show _ = _; rw [HE.out]; rfl
    go_enter Try.func97, Try.ntmps97
    go_upto_region 1 with fail
    rw [E0.out]
    clear E0
    go_wp2_with fail
    refine (C1.out _).mono ?_
    rintro _ _ ⟨rfl, rfl⟩
    go_wp2_with fail
    go_ret
    exact ⟨rb HX.out, HB0.out⟩
  | true =>
    have HX : Hid (d.okB = inB r 0 s) := by show _ = _; rw [HE.out]; rfl
    by_cases h1 : 0 ≤ r
    · by_cases h2 : r ≤ s
      · have HY : Hid (d.okB = true) := by show _ = _; rw [HX.out]; exact inB_iff.2 ⟨h1, h2⟩
        go_enter Try.func97, Try.ntmps97
        go_upto_region 1 with fail
        rw [E0.out]
        clear E0
        go_wp2_with fail
        refine (C1.out _).mono ?_
        rintro _ _ ⟨rfl, rfl⟩
        go_wp2_with fail
        go_ret
        exact ⟨rb HY.out, HB0.out⟩
      · have HY : Hid (d.okB = false) := by show _ = _; rw [HX.out]; unfold inB; exact decide_eq_false fun h => h2 h.2
        go_enter Try.func97, Try.ntmps97
        go_upto_region 1 with fail
        rw [E0.out]
        clear E0
        go_wp2_with fail
        refine (C1.out _).mono ?_
        rintro _ _ ⟨rfl, rfl⟩
        go_wp2_with fail
        go_ret
        exact ⟨rb (by rw [HY.out]; exact (decide_eq_false (by omega)).symm), HB0.out⟩
    · have HY : Hid (d.okB = false) := by show _ = _; rw [HX.out]; unfold inB; exact decide_eq_false fun h => h1 h.1
      go_enter Try.func97, Try.ntmps97
      go_upto_region 1 with fail
      rw [E0.out]
      clear E0
      go_wp2_with fail
      refine (C1.out _).mono ?_
      rintro _ _ ⟨rfl, rfl⟩
      go_wp2_with fail
      go_ret
      exact ⟨rb HY.out, HB0.out⟩
set_option maxRecDepth 100000 in
set_option maxHeartbeats 4000000 in
theorem refCheck_any (l : List DayD) (v : Value) (w : World) (h : RDays w.heap.size w v l) : Calls Try.prog 40 #[v] w fun e w' => e = .returned (.int .i64 (checkH l)) ∧ Below w.heap.size w w' := by
  obtain ⟨A, c, rfl, hlm, HD⟩ := days_later h
  obtain ⟨n, hn⟩ : ∃ n, l.length = n := ⟨_, rfl⟩
  obtain ⟨ce, hce⟩ : ∃ e, checkH l = e := ⟨_, rfl⟩
  have HC : Hid (ce = if 400 < n then 2 else if l.all DayD.okB then 0 else 120) := by show _ = _; rw [← hce, ← hn]; rfl
  rw [hn] at hlm
  rw [hn, hce]
  have HN := Lib.hid hn
  clear h hn hce
  by_cases h4 : 400 < n
  · have HX : Hid ((2 : Int) = ce) := by show _ = _; rw [HC.out, if_pos h4]
    have h4' : (400 : Int) < (n : Int) := by omega
    clear h4
    go_enter Try.func40, Try.ntmps40
    go_wp2
    go_ret
    exact ⟨ri HX.out.symm, Below.refl _ _⟩
  have h4' : ¬ (400 : Int) < (n : Int) := by omega
  have HC2 : Hid (ce = if l.all DayD.okB then 0 else 120) := by show _ = _; rw [HC.out, if_neg h4]
  clear HC
  go_enter Try.func40, Try.ntmps40
  go_wp2_with fail
  go_loopw [3] (fun i wr => ∃ k : Nat, k ≤ n ∧ i = .int .i64 k ∧ Hid ((l.take k).all DayD.okB = true) ∧ Hid (Below w.heap.size w wr)) (fun i _ => n - (intOf i).toNat)
  case atStart => exact ⟨0, Nat.zero_le _, rfl, by show _ = _; simp, Below.refl _ _⟩
  case round =>
  obtain ⟨k, hk, rfl, hall, hB⟩ := hrel
  obtain ⟨X, rfl⟩ : ∃ X : World, X = wr := ⟨_, rfl⟩
  by_cases hlt : k < n
  · obtain ⟨x, hx⟩ : ∃ x, l[k]? = some x := ⟨_, List.getElem?_eq_getElem (by rw [HN.out]; exact hlt)⟩
    obtain ⟨g, o, rfl, HX⟩ := HD.out k x hx
    obtain ⟨c0, c1⟩ := HX.out X hB.out
    have CR := Lib.hid (refRight_any x X)
    obtain ⟨b, hb⟩ : ∃ b, x.okB = b := ⟨_, rfl⟩
    rw [hb] at CR
    have HXX := Lib.hid hx
    have HBB := Lib.hid hb
    have k0 : (0 : Int) ≤ (k : Int) := by omega
    have k1 : (k : Int) < (n : Int) := by omega
    clear hx hb HX
    go_wp2_with fail
    refine CR.out.mono ?_
    rintro _ Y ⟨rfl, hb2⟩
    have HBY : Hid (Below w.heap.size w Y) := hB.out.trans (hb2.mono hB.out.size)
    clear CR hb2 hB c0 c1
    cases b
    · have HXE : Hid ((120 : Int) = ce) := by show _ = _; rw [HC2.out, all_not HXX.out HBB.out]; rfl
      go_wp2_with fail
      go_ret
      exact ⟨ri HXE.out.symm, HBY.out⟩
    · have hall' := all_next hall HXX.out HBB.out
      go_wp2_with fail
      go_roundw
      case rel => exact ⟨k + 1, by omega, by go_num, hall', HBY⟩
      case measure => simp [intOf]; omega
  · have HXE : Hid ((0 : Int) = ce) := by show _ = _; rw [HC2.out, (all_end hall (by rw [HN.out]; omega)).out]; rfl
    go_wp2_with fail
    go_ret
    exact ⟨ri HXE.out.symm, hB.out⟩
end Go.Proofs.Ytlmpbmlbllndcaa
