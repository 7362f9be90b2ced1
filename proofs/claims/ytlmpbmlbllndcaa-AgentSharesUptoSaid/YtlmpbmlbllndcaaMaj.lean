/-
  cmp.Compare, cmp.Or, supply.compare, least of supplies.
-/
import Derived.WalkLawsBesides
import Derived.Test.YtlmpbmlbllndcaaMai
namespace Go.Proofs.Ytlmpbmlbllndcaa
open Go.RowKit
attribute [local go_sem] Oper.semAt_some

/-- How two numbers compare. -/
def cmpI (a b : Int) : Int := if a < b then -1 else if b < a then 1 else 0
theorem cmpI_bd (a b : Int) : -1 ≤ cmpI a b ∧ cmpI a b ≤ 1 := by unfold cmpI; split; omega; split <;> omega
theorem nan_any (a : Int) (w : World) : Calls Try.prog 149 #[.int .i64 a] w fun e w' => e = .returned (.bool false) ∧ w = w' := by
  go_enter Try.func149, Try.ntmps149
  go_wp2
  go_ret
  exact ⟨rfl, rfl⟩
set_option maxHeartbeats 1000000 in
theorem cmp_any (a b : Int) (w : World) : Calls Try.prog 142 #[.int .i64 a, .int .i64 b] w fun e w' => e = .returned (.int .i64 (cmpI a b)) ∧ w = w' := by
  obtain ⟨c, hc⟩ : ∃ c, cmpI a b = c := ⟨_, rfl⟩
  have HC : Hid (c = if a < b then -1 else if b < a then 1 else 0) := by show _ = _; rw [← hc]; rfl
  rw [hc]
  clear hc
  by_cases h1 : a < b
  · have HX : Hid ((-1 : Int) = c) := by show _ = _; rw [HC.out, if_pos h1]
    go_enter Try.func142, Try.ntmps142
    go_wp2_with (go_at_call 149; with_reducible refine (nan_any _ _).mono ?_; rintro e w' ⟨rfl, rfl⟩)
    go_ret
    exact ⟨ri HX.out.symm, rfl⟩
  · by_cases h2 : b < a
    · have HX : Hid ((1 : Int) = c) := by show _ = _; rw [HC.out, if_neg h1, if_pos h2]
      go_enter Try.func142, Try.ntmps142
      go_wp2_with (go_at_call 149; with_reducible refine (nan_any _ _).mono ?_; rintro e w' ⟨rfl, rfl⟩)
      go_ret
      exact ⟨ri HX.out.symm, rfl⟩
    · have HX : Hid ((0 : Int) = c) := by show _ = _; rw [HC.out, if_neg h1, if_neg h2]
      go_enter Try.func142, Try.ntmps142
      go_wp2_with (go_at_call 149; with_reducible refine (nan_any _ _).mono ?_; rintro e w' ⟨rfl, rfl⟩)
      go_ret
      exact ⟨ri HX.out.symm, rfl⟩
/-- The first of two numbers that is not 0. -/
def or2 (x y : Int) : Int := if x = 0 then y else x
set_option maxHeartbeats 1000000 in
theorem or_two (x y : Int) (b : Nat) (w : World) (h : Blk w b 3 #[.int .i64 x, .int .i64 y]) : Calls Try.prog 141 #[.slice (some ⟨b, 0, none⟩) 2 2] w fun e w' => e = .returned (.int .i64 (or2 x y)) ∧ w = w' := by
  obtain ⟨r, hr⟩ : ∃ r, or2 x y = r := ⟨_, rfl⟩
  have HR : Hid (r = if x = 0 then y else x) := by show _ = _; rw [← hr]; rfl
  have c0 := cellOf h 0 (x := .int .i64 x) rfl
  have c1 := cellOf h 1 (x := .int .i64 y) rfl
  rw [hr]
  clear hr h
  go_enter Try.func141, Try.ntmps141
  go_wp2_with fail
  go_loop [8] (fun i => ∃ k : Nat, k ≤ 2 ∧ i = .int .i64 k ∧ (0 < k → x = 0) ∧ (1 < k → y = 0)) (fun i => 2 - (intOf i).toNat)
  case atStart => exact ⟨0, by omega, rfl, by omega, by omega⟩
  case round =>
  obtain ⟨k, hk, rfl, h0, h1⟩ := hrel
  have HH0 := Lib.hid h0
  have HH1 := Lib.hid h1
  clear h0 h1
  rcases (show k = 0 ∨ k = 1 ∨ k = 2 by omega) with rfl | rfl | rfl
  · by_cases hx : x = 0
    · have HX := Lib.hid hx
      have hx' : (x != 0) = false := by simpa using hx
      clear hx
      go_wp2_with fail
      go_round
      case rel => exact ⟨1, by omega, rfl, fun _ => HX.out, by omega⟩
      case measure => simp [intOf]
    · have hx' : (x != 0) = true := by simpa using hx
      have HX : Hid (x = r) := by show _ = _; rw [HR.out, if_neg hx]
      clear hx
      go_wp2_with fail
      go_ret
      exact ⟨ri HX.out.symm, rfl⟩
  · have hx0 := HH0.out (by omega)
    by_cases hy : y = 0
    · have HX := Lib.hid hy
      have HX0 := Lib.hid hx0
      have hy' : (y != 0) = false := by simpa using hy
      clear hy hx0
      go_wp2_with fail
      go_round
      case rel => exact ⟨2, by omega, rfl, fun _ => HX0.out, fun _ => HX.out⟩
      case measure => simp [intOf]
    · have hy' : (y != 0) = true := by simpa using hy
      have HX : Hid (y = r) := by show _ = _; rw [HR.out, if_pos hx0]
      clear hy hx0
      go_wp2_with fail
      go_ret
      exact ⟨ri HX.out.symm, rfl⟩
  · have HX : Hid ((0 : Int) = r) := by show _ = _; rw [HR.out, if_pos (HH0.out (by omega)), HH1.out (by omega)]
    go_wp2_with fail
    go_ret
    exact ⟨ri HX.out.symm, rfl⟩
/-- How two supplies compare: by their totals, then by their copies. -/
def cmpS (x y : Int × Int) : Int := or2 (cmpI x.2 y.2) (cmpI x.1 y.1)
theorem cmpS_bd (x y : Int × Int) : -1 ≤ cmpS x y ∧ cmpS x y ≤ 1 := by
  have := cmpI_bd x.2 y.2
  have := cmpI_bd x.1 y.1
  unfold cmpS or2
  split <;> omega
theorem cmpS_lt (x y : Int × Int) : decide (cmpS x y < 0) = ltS x y := by
  unfold cmpS ltS or2 cmpI
  by_cases h1 : x.2 < y.2
  · simp [h1]
  · by_cases h2 : y.2 < x.2
    · have : ¬ x.2 = y.2 := by omega
      simp [h1, h2, this]
    · have h3 : x.2 = y.2 := by omega
      by_cases h4 : x.1 < y.1
      · simp [h3, h4]
      · by_cases h5 : y.1 < x.1 <;> simp [h3, h4, h5]
set_option maxRecDepth 100000 in
set_option maxHeartbeats 4000000 in
theorem compare_any (x y : Int × Int) (w : World) : Calls Try.prog 117 #[.agg #[.int .i64 x.1, .int .i64 x.2], .agg #[.int .i64 y.1, .int .i64 y.2]] w fun e w' => e = .returned (.int .i64 (cmpS x y)) ∧ Below w.heap.size w w' := by
  obtain ⟨x1, x2⟩ := x
  obtain ⟨y1, y2⟩ := y
  simp only
  have F0 : ∃ W0, (w.alloc (.cells #[.int .i64 x1, .int .i64 x2] 150)).alloc (.cells #[.int .i64 y1, .int .i64 y2] 150) = W0 ∧ Hid (Below w.heap.size w W0) ∧ Hid (Blk W0 w.heap.size 150 #[.int .i64 x1, .int .i64 x2] ∧ Blk W0 (w.heap.size + 1) 150 #[.int .i64 y1, .int .i64 y2]) :=
    ⟨_, rfl, sbelow_al (below_alloc _ _) _, (Blk.new _ _ _).alloc _, blk_new (by simp) _ _⟩
  obtain ⟨W0, e0, HB0, HK0⟩ := F0
  have E0 := Lib.hid e0
  obtain ⟨p, hp⟩ : ∃ p, w.heap.size = p := ⟨_, rfl⟩
  have HP := Lib.hid hp
  obtain ⟨c1, hc1⟩ : ∃ c, cmpI x2 y2 = c := ⟨_, rfl⟩
  obtain ⟨c2, hc2⟩ : ∃ c, cmpI x1 y1 = c := ⟨_, rfl⟩
  obtain ⟨r, hr⟩ : ∃ r, cmpS (x1, x2) (y1, y2) = r := ⟨_, rfl⟩
  have HR : Hid (or2 c1 c2 = r) := by show _ = _; rw [← hr, ← hc1, ← hc2]; rfl
  have C1 := Lib.hid (fun w => cmp_any x2 y2 w)
  have C2 := Lib.hid (fun w => cmp_any x1 y1 w)
  rw [hc1] at C1
  rw [hc2] at C2
  rw [hr]
  clear e0 hp hc1 hc2 hr
  have CO : Hid (∀ W : World, Calls Try.prog 141 #[.slice (some ⟨W.heap.size, 0, none⟩) 2 2] (W.alloc (.cells #[.int .i64 c1, .int .i64 c2] 3)).drew fun e w' => e = .returned (.int .i64 r) ∧ (W.alloc (.cells #[.int .i64 c1, .int .i64 c2] 3)).drew = w') := fun W => by
    have := or_two c1 c2 W.heap.size (W.alloc (.cells #[.int .i64 c1, .int .i64 c2] 3)).drew (Blk.new W _ _)
    rw [HR.out] at this
    exact this
  have HD : Hid (Below w.heap.size w (W0.alloc (.cells #[.int .i64 c1, .int .i64 c2] 3)).drew) := HB0.out.trans ((sbelow_al (Below.refl _ _) _).drew.mono HB0.out.size)
  go_enter Try.func117, Try.ntmps117
  go_upto_region 1 with fail
  rw [E0.out]
  clear E0
  rw [HP.out]
  have S1 : W0.cell? ⟨p, 0, none⟩ = some (.int .i64 x1) ∧ W0.cell? ⟨p, 1, none⟩ = some (.int .i64 x2) ∧ W0.cell? ⟨p + 1, 0, none⟩ = some (.int .i64 y1) ∧ W0.cell? ⟨p + 1, 1, none⟩ = some (.int .i64 y2) := by
    rw [← HP.out]
    exact ⟨cellOf HK0.out.1 0 rfl, cellOf HK0.out.1 1 rfl, cellOf HK0.out.2 0 rfl, cellOf HK0.out.2 1 rfl⟩
  have hp0 : p < W0.heap.size := by rw [← HP.out]; exact HK0.out.1.lt
  have hp1 : p + 1 < W0.heap.size := by rw [← HP.out]; exact HK0.out.2.lt
  go_region_held3 (fun X => X.cell? ⟨p, 0, none⟩ = some (.int .i64 x1) ∧ X.cell? ⟨p, 1, none⟩ = some (.int .i64 x2) ∧ X.cell? ⟨p + 1, 0, none⟩ = some (.int .i64 y1) ∧ X.cell? ⟨p + 1, 1, none⟩ = some (.int .i64 y2)) (first | with_reducible exact S1 | go_keep)
    (first | (go_at_call 142; with_reducible refine (C1.out _).mono ?_; rintro _ y1 ⟨rfl, rfl⟩)
           | (go_at_call 142; with_reducible refine (C2.out _).mono ?_; rintro _ y1 ⟨rfl, rfl⟩)
           | (go_at_call 141; with_reducible refine (CO.out _).mono ?_; rintro _ y1 ⟨rfl, rfl⟩))
  all_goals
    clear S1
    go_wp2_with fail
    go_ret
    exact ⟨rfl, HD.out⟩
end Go.Proofs.Ytlmpbmlbllndcaa
