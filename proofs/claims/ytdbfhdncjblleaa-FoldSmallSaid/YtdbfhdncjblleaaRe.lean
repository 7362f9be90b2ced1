/-
  The reference's Check: it returns what the program's does.
-/
import Derived.Test.YtdbfhdncjblleaaRd
namespace Go.Proofs.Ytdbfhdncjblleaa
open Go.RowKit

theorem check_many {r : RunD} (h : ¬ (1 ≤ r.webs.length ∧ r.webs.length ≤ 8 ∧ 1 ≤ r.ribs.length ∧ r.ribs.length ≤ 32 ∧ 1 ≤ r.stacks.length ∧ r.stacks.length ≤ 4)) : checkE r = 2 := by
  have e : partE r 0 = 2 := by
    show numbersE r = 2
    unfold numbersE
    rw [if_neg]
    intro hb
    simp only [numbersB, Bool.and_eq_true, decide_eq_true_eq] at hb
    exact h ⟨hb.1.1.1, hb.1.1.2, hb.1.2.1, hb.1.2.2, hb.2.1, hb.2.2⟩
  unfold checkE
  rw [e]; rfl
theorem nums_ok {r : RunD} (h : 1 ≤ r.webs.length ∧ r.webs.length ≤ 8 ∧ 1 ≤ r.ribs.length ∧ r.ribs.length ≤ 32 ∧ 1 ≤ r.stacks.length ∧ r.stacks.length ≤ 4) : partE r 0 = 0 := by
  show numbersE r = 0
  unfold numbersE
  rw [if_pos]
  simp only [numbersB, Bool.and_eq_true, decide_eq_true_eq]
  exact ⟨⟨⟨h.1, h.2.1⟩, h.2.2.1, h.2.2.2.1⟩, h.2.2.2.2.1, h.2.2.2.2.2⟩
theorem check_webs {r : RunD} (h0 : partE r 0 = 0) (h : websE r = 6) : checkE r = 6 := by
  have e : partE r 1 = 6 := h
  unfold checkE
  rw [if_neg (by rw [h0]; simp), e]; rfl
theorem web_no {r : RunD} (h0 : partE r 0 = 0) {k : Nat} {x : WebD} (hx : r.webs[k]? = some x) (h : ¬ (1 ≤ x.cols ∧ x.cols ≤ 4 ∧ 1 ≤ x.rows ∧ x.rows ≤ 2 ∧ x.rows = rows0 r ∧ (x.plates.length : Int) = 2 * x.rows * x.cols)) : checkE r = 6 := by
  refine check_webs h0 (websE_no hx ?_)
  cases hb : webB (rows0 r) x with
  | false => rfl
  | true =>
    exfalso
    unfold webB sizeB at hb
    simp only [Bool.and_eq_true, decide_eq_true_eq] at hb
    exact h ⟨hb.1.1.1, hb.1.1.2.1, hb.1.1.2.2.1, hb.1.1.2.2.2.1, hb.1.1.2.2.2.2, hb.1.2⟩
theorem plate_no {r : RunD} (h0 : partE r 0 = 0) {k m : Nat} {x : WebD} {p : PlateD} (hx : r.webs[k]? = some x) (hp : x.plates[m]? = some p) (h : ¬ (0 ≤ p.page ∧ p.page ≤ 128)) : checkE r = 6 := by
  refine check_webs h0 (websE_no hx ?_)
  cases hb : webB (rows0 r) x with
  | false => rfl
  | true =>
    exfalso
    unfold webB at hb
    simp only [Bool.and_eq_true] at hb
    have := List.all_eq_true.1 hb.2 p (List.mem_of_getElem? hp)
    unfold isPageB at this
    simp only [Bool.and_eq_true, decide_eq_true_eq] at this
    exact h this
def okR (r : RunD) (k : Nat) : Prop := ∀ (j : Nat) x, j < k → r.ribs[j]? = some x → fitsB r x = true ∧ stN r.stacks j = 1
theorem okR_next {r : RunD} {k : Nat} {x : RibD} (h : okR r k) (hx : r.ribs[k]? = some x) (h1 : fitsB r x = true) (h2 : stN r.stacks k = 1) : okR r (k + 1) := fun j y hj hy => by
  by_cases e : j = k
  · subst e
    rw [hx] at hy
    injection hy with hy
    subst hy
    exact ⟨h1, h2⟩
  · exact h j y (by omega) hy
def okC (r : RunD) (a : Nat) : Prop := ∀ (i c : Nat) (x : WebD), i < a → r.webs[i]? = some x → (c : Int) < x.cols → colN r.ribs i c = 1

theorem rib_no {r : RunD} (h0 : partE r 0 = 0) (h1 : partE r 1 = 0) {k : Nat} {x : RibD} (hx : r.ribs[k]? = some x) (h : ¬ ((0 ≤ x.web ∧ x.web < r.webs.length ∧ 1 ≤ x.width ∧ x.width ≤ 2) ∧ ¬ (x.width = 2 ∧ x.left = true) ∧ 0 ≤ x.col ∧ x.col ≤ (r.webs.getD x.web.toNat default).cols - x.width)) : checkE r = 20 :=
  check_20 h0 h1 fun e => h (by
    have hf := c_fits e hx
    simp only [fitsB, Bool.and_eq_true, decide_eq_true_eq, Bool.not_eq_true', Bool.and_eq_false_iff, decide_eq_false_iff_not] at hf
    obtain ⟨⟨h2, h3⟩, h4⟩ := hf
    refine ⟨h2, fun h5 => ?_, h4⟩
    rcases h3 with h3 | h3
    · exact h3 h5.1
    · rw [h5.2] at h3; cases h3)
theorem rib_yes {r : RunD} {x : RibD} (h : (0 ≤ x.web ∧ x.web < r.webs.length ∧ 1 ≤ x.width ∧ x.width ≤ 2) ∧ ¬ (x.width = 2 ∧ x.left = true) ∧ 0 ≤ x.col ∧ x.col ≤ (r.webs.getD x.web.toNat default).cols - x.width) : fitsB r x = true := by
  simp only [fitsB, Bool.and_eq_true, decide_eq_true_eq, Bool.not_eq_true', Bool.and_eq_false_iff, decide_eq_false_iff_not]
  refine ⟨⟨h.1, ?_⟩, h.2.2⟩
  by_cases e : x.width = 2
  · right
    cases hl : x.left with
    | false => rfl
    | true => exact absurd ⟨e, hl⟩ h.2.1
  · exact .inl e

set_option maxRecDepth 100000 in
set_option maxHeartbeats 4000000 in
theorem refCheck_any (v : Value) (r : RunD) (w : World) (h : RRun w.heap.size w v r) (hsm : SmallRun r) :
    Calls Try.prog 17 #[v] w fun e w' => e = .returned (.int .i64 (checkE r)) ∧ Below w.heap.size w w' := by
  have hrun := Lib.hid h
  have HSM := Lib.hid hsm
  obtain ⟨A1, c1, A2, c2, A3, c3, rfl⟩ := h.shape
  obtain ⟨Ax, cx, ex, hlw, hAw⟩ := (h.webs).open_
  cases ex
  obtain ⟨Ay, cy, ey, -, hAy⟩ := RAll.open_ (h.stacks)
  cases ey
  obtain ⟨Az, cz, ez, -, hAz⟩ := RRibs.open_ h.ribs
  cases ez
  have HAW := Lib.hid hAw
  have HAY := Lib.hid hAy
  have HAZ := Lib.hid hAz
  clear h hAw hAy hAz hsm
  have F0 : ∃ W0, w.alloc (.cells #[.slice A1 r.webs.length c1, .slice A2 r.ribs.length c2, .slice A3 r.stacks.length c3, .bool r.coll] 26) = W0 ∧ Below w.heap.size w W0 ∧ Blk W0 w.heap.size 26 #[.slice A1 r.webs.length c1, .slice A2 r.ribs.length c2, .slice A3 r.stacks.length c3, .bool r.coll] :=
    ⟨_, rfl, (Below.refl _ _).alloc (Nat.le_refl _) _, Blk.new _ _ _⟩
  obtain ⟨W0, e0, B0, V0⟩ := F0
  have E0 := Lib.hid e0
  have hbox : ∀ X, Below W0.heap.size W0 X → X.cell? ⟨w.heap.size, 0, none⟩ = some (.slice A1 r.webs.length c1) ∧ X.cell? ⟨w.heap.size, 1, none⟩ = some (.slice A2 r.ribs.length c2) ∧ X.cell? ⟨w.heap.size, 2, none⟩ = some (.slice A3 r.stacks.length c3) ∧ X.cell? ⟨w.heap.size, 3, none⟩ = some (.bool r.coll) := fun X hX => by
    have k2 := V0.below hX V0.lt
    exact ⟨cellOf k2 0 rfl, cellOf k2 1 rfl, cellOf k2 2 rfl, cellOf k2 3 rfl⟩
  have HBX := Lib.hid hbox
  have hweb : ∀ X, Below W0.heap.size W0 X → ∀ k x, r.webs[k]? = some x → ∃ g o A c, A1 = some ⟨g, o, none⟩ ∧ g < W0.heap.size ∧ X.cell? ⟨g, o + k * 3, none⟩ = some (.int .i64 x.cols) ∧ X.cell? ⟨g, o + k * 3 + 1, none⟩ = some (.int .i64 x.rows) ∧ X.cell? ⟨g, o + k * 3 + 2, none⟩ = some (.slice A x.plates.length c) ∧ ∀ m p, x.plates[m]? = some p → ∃ g2 o2, A = some ⟨g2, o2, none⟩ ∧ g2 < W0.heap.size ∧ ∀ Y, Below W0.heap.size W0 Y → Y.cell? ⟨g2, o2 + m * 2, none⟩ = some (.int .i64 p.page) := fun X hX k x hx => by
    obtain ⟨g, o, u, rfl, hb, m0, m1, m2, hp⟩ := HAW.out k x hx
    obtain ⟨A, c, rfl, -, hpl⟩ := hp.open_
    have hB := B0.trans (hX.mono B0.size)
    refine ⟨g, o, A, c, rfl, Nat.lt_of_lt_of_le hb B0.size, (hB.cell (p := ⟨g, o + k * 3, none⟩) hb).trans m0, (hB.cell (p := ⟨g, o + k * 3 + 1, none⟩) hb).trans m1, (hB.cell (p := ⟨g, o + k * 3 + 2, none⟩) hb).trans m2, fun m p hp => ?_⟩
    obtain ⟨g2, o2, rfl, hb2, n0, -⟩ := hpl m p hp
    exact ⟨g2, o2, rfl, Nat.lt_of_lt_of_le hb2 B0.size, fun Y hY => ((B0.trans (hY.mono B0.size)).cell (p := ⟨g2, o2 + m * 2, none⟩) hb2).trans n0⟩
  have HW := Lib.hid hweb
  have hrib : ∀ X, Below W0.heap.size W0 X → ∀ k x, r.ribs[k]? = some x → ∃ g o, A2 = some ⟨g, o, none⟩ ∧ g < W0.heap.size ∧ X.cell? ⟨g, o + k * 5, none⟩ = some (.int .i64 x.web) ∧ X.cell? ⟨g, o + k * 5 + 1, none⟩ = some (.int .i64 x.col) ∧ X.cell? ⟨g, o + k * 5 + 2, none⟩ = some (.int .i64 x.width) ∧ X.cell? ⟨g, o + k * 5 + 3, none⟩ = some (.bool x.turned) ∧ X.cell? ⟨g, o + k * 5 + 4, none⟩ = some (.bool x.left) := fun X hX k x hx => by
    obtain ⟨g, o, rfl, hb, m0, m1, m2, m3, m4⟩ := HAZ.out k x hx
    have hB := B0.trans (hX.mono B0.size)
    exact ⟨g, o, rfl, Nat.lt_of_lt_of_le hb B0.size, (hB.cell (p := ⟨g, o + k * 5, none⟩) hb).trans m0, (hB.cell (p := ⟨g, o + k * 5 + 1, none⟩) hb).trans m1, (hB.cell (p := ⟨g, o + k * 5 + 2, none⟩) hb).trans m2, (hB.cell (p := ⟨g, o + k * 5 + 3, none⟩) hb).trans m3, (hB.cell (p := ⟨g, o + k * 5 + 4, none⟩) hb).trans m4⟩
  have HR := Lib.hid hrib
  have hstk : ∀ X, Below W0.heap.size W0 X → ∀ k s, r.stacks[k]? = some s → ∃ g o A c, A3 = some ⟨g, o, none⟩ ∧ X.cell? ⟨g, o + k, none⟩ = some (.slice A s.length c) := fun X hX k s hs => by
    obtain ⟨g, o, u, rfl, hb, m0, hp⟩ := HAY.out k s hs
    obtain ⟨A, c, rfl, -⟩ := rd_slice hp
    exact ⟨g, o, A, c, rfl, ((B0.trans (hX.mono B0.size)).cell (p := ⟨g, o + k, none⟩) hb).trans m0⟩
  have HST := Lib.hid hstk
  have hcst : ∀ X (i : Int), Below W0.heap.size W0 X → Calls Try.prog 47 #[.agg #[.slice A1 r.webs.length c1, .slice A2 r.ribs.length c2, .slice A3 r.stacks.length c3, .bool r.coll], .int .i64 i] X fun e w' => e = .returned (.int .i64 ((stN r.stacks i : Nat) : Int)) ∧ Below X.heap.size X w' := fun X i hX => by
    have hB := B0.trans (hX.mono B0.size)
    exact stacks_any _ r i X ((hrun.out.below hB).more hB.size) HSM.out
  have HCS := Lib.hid hcst
  obtain ⟨o0, o1, o2, o3⟩ := hbox W0 (Below.refl _ _)
  have hw0 : w.heap.size < W0.heap.size := V0.lt
  clear e0 V0 hbox hweb hrib hstk hcst HAW HAY HAZ
  go_enter Try.func17, Try.ntmps17
  go_upto_region 1 with fail
  rw [E0.out]
  by_cases n1 : (r.webs.length : Int) < 1
  case pos =>
    have HE : Hid (checkE r = 2) := check_many (by omega)
    go_wp2
    go_ret
    exact ⟨by rw [HE.out]; rfl, B0⟩
  by_cases n2 : 8 < (r.webs.length : Int)
  case pos =>
    have HE : Hid (checkE r = 2) := check_many (by omega)
    go_wp2
    go_ret
    exact ⟨by rw [HE.out]; rfl, B0⟩
  by_cases n3 : (r.ribs.length : Int) < 1
  case pos =>
    have HE : Hid (checkE r = 2) := check_many (by omega)
    go_wp2
    go_ret
    exact ⟨by rw [HE.out]; rfl, B0⟩
  by_cases n4 : 32 < (r.ribs.length : Int)
  case pos =>
    have HE : Hid (checkE r = 2) := check_many (by omega)
    go_wp2
    go_ret
    exact ⟨by rw [HE.out]; rfl, B0⟩
  by_cases n5 : (r.stacks.length : Int) < 1
  case pos =>
    have HE : Hid (checkE r = 2) := check_many (by omega)
    go_wp2
    go_ret
    exact ⟨by rw [HE.out]; rfl, B0⟩
  by_cases n6 : 4 < (r.stacks.length : Int)
  case pos =>
    have HE : Hid (checkE r = 2) := check_many (by omega)
    go_wp2
    go_ret
    exact ⟨by rw [HE.out]; rfl, B0⟩
  have H0 : Hid (partE r 0 = 0) := nums_ok ⟨by omega, by omega, by omega, by omega, by omega, by omega⟩
  go_wp2
  clear o0 o1 o2 o3
  go_loopw [3] (fun i wr => ∃ k : Nat, k ≤ r.webs.length ∧ i = .int .i64 k ∧ Hid ((r.webs.take k).all (webB (rows0 r)) = true) ∧ Below W0.heap.size W0 wr) (fun i _ => r.webs.length - (intOf i).toNat)
  case atStart => exact ⟨0, Nat.zero_le _, rfl, rfl, Below.refl _ _⟩
  case round =>
    obtain ⟨k, hk, rfl, ht, hB⟩ := hrel
    obtain ⟨wo, rfl⟩ : ∃ wo, wo = wr := ⟨wr, rfl⟩
    obtain ⟨o0, o1, o2, o3⟩ := HBX.out wo hB
    have BW := B0.trans (hB.mono B0.size)
    by_cases hlt : k < r.webs.length
    case pos =>
      obtain ⟨x, hx⟩ : ∃ x, r.webs[k]? = some x := ⟨_, List.getElem?_eq_getElem hlt⟩
      obtain ⟨y, hy⟩ : ∃ y, r.webs[0]? = some y := ⟨_, List.getElem?_eq_getElem (by omega)⟩
      obtain ⟨g, o, A, c, rfl, hg, m0, m1, m2, hpl⟩ := HW.out wo hB k x hx
      have hno := web_no H0.out hx
      have HX := Lib.hid hx
      have HPL := Lib.hid hpl
      have hwall := fun h => all_next ht hx h
      have HWA := Lib.hid hwall
      have hr0 : rows0 r = y.rows := by unfold rows0; rw [getD_of hy]
      obtain ⟨cols, rows, plates⟩ := x
      dsimp only at m0 m1 m2 hno
      have F1 : ∃ w1, wo.alloc (.cells #[.int .i64 cols, .int .i64 rows, .slice A plates.length c] 97) = w1 ∧ Below wo.heap.size wo w1 ∧ Blk w1 wo.heap.size 97 #[.int .i64 cols, .int .i64 rows, .slice A plates.length c] := ⟨_, rfl, (Below.refl _ _).alloc (Nat.le_refl _) _, Blk.new _ _ _⟩
      obtain ⟨w1, e1, hb1, R1⟩ := F1
      have E1 := Lib.hid e1
      have B1 := hB.trans (hb1.mono hB.size)
      have BW1 := B0.trans (B1.mono B0.size)
      have hki : (k : Int) < (r.webs.length : Int) := by omega
      clear e1 hx hpl hwall
      go_upto_region 7 with fail
      rw [E1.out]
      clear m0 m1 m2 o0 o1 o2 o3
      obtain ⟨o0, o1, o2, o3⟩ := HBX.out w1 B1
      obtain ⟨g', o', -, -, eg, -, -, n1, -, -⟩ := HW.out w1 B1 0 y hy
      simp only [Option.some.injEq, Addr.mk.injEq, and_true] at eg
      obtain ⟨rfl, rfl⟩ := eg
      simp only [Nat.zero_mul, Nat.add_zero] at n1
      rw [← hr0] at n1
      have q0 := cellOf R1 0 (x := .int .i64 cols) rfl
      have q1 := cellOf R1 1 (x := .int .i64 rows) rfl
      have q2 := cellOf R1 2 (x := .slice A plates.length c) rfl
      have hz : (0 : Int) < (r.webs.length : Int) := by omega
      generalize hrr : rows0 r = rows00 at n1 hno
      have HRR := Lib.hid hrr
      have HBD : ∀ n, Below w.heap.size w (w1.drewN n) := fun n => below_drewN BW1 n
      clear hr0 hy hrr HW BW hb1
      by_cases g1 : cols < 1
      case pos =>
        have HE : Hid (checkE r = 6) := hno (fun h => by have := h.1; omega)
        have d1 : decide (cols < 1) = true := by simpa using g1
        clear hno
        go_quiet (fail)
        go_wp2
        go_ret
        exact ⟨by rw [HE.out]; rfl, HBD _⟩
      have d1 : decide (cols < 1) = false := by simpa using g1
      by_cases g2 : 4 < cols
      case pos =>
        have HE : Hid (checkE r = 6) := hno (fun h => by have := h.2.1; omega)
        have d2 : decide (4 < cols) = true := by simpa using g2
        clear hno
        go_quiet (fail)
        go_wp2
        go_ret
        exact ⟨by rw [HE.out]; rfl, HBD _⟩
      have d2 : decide (4 < cols) = false := by simpa using g2
      by_cases g3 : rows < 1
      case pos =>
        have HE : Hid (checkE r = 6) := hno (fun h => by have := h.2.2.1; omega)
        have d3 : decide (rows < 1) = true := by simpa using g3
        clear hno
        go_quiet (fail)
        go_wp2
        go_ret
        exact ⟨by rw [HE.out]; rfl, HBD _⟩
      have d3 : decide (rows < 1) = false := by simpa using g3
      by_cases g4 : 2 < rows
      case pos =>
        have HE : Hid (checkE r = 6) := hno (fun h => by have := h.2.2.2.1; omega)
        have d4 : decide (2 < rows) = true := by simpa using g4
        clear hno
        go_quiet (fail)
        go_wp2
        go_ret
        exact ⟨by rw [HE.out]; rfl, HBD _⟩
      have d4 : decide (2 < rows) = false := by simpa using g4
      by_cases g5 : rows = rows00
      case neg =>
        have HE : Hid (checkE r = 6) := hno (fun h => g5 h.2.2.2.2.1)
        have d5 : (rows != rows00) = true := by simpa using g5
        clear hno
        go_quiet (fail)
        go_wp2
        go_ret
        exact ⟨by rw [HE.out]; rfl, HBD _⟩
      subst g5
      have d5 : (rows != rows) = false := by simp
      have HNO := Lib.hid hno
      clear hno
      have hw16 : rows * cols ≤ 8 ∧ 1 ≤ rows * cols := by
        rcases (show rows = 1 ∨ rows = 2 by omega) with e | e <;> rw [e] <;> omega
      have kw1 : IntKind.i64.wrap (cols * rows) = rows * cols := by rw [Int.mul_comm]; exact IntWalk.i64_in _ ⟨by omega, by omega⟩
      have kw2 : IntKind.i64.wrap (rows * cols * 2) = 2 * rows * cols := by rw [IntWalk.i64_in _ ⟨by omega, by omega⟩, Int.mul_comm (rows * cols) 2, Int.mul_assoc]
      by_cases g6 : (plates.length : Int) = 2 * rows * cols
      case neg =>
        have HE : Hid (checkE r = 6) := HNO.out (fun h => g6 h.2.2.2.2.2)
        have d6 : ((plates.length : Int) != 2 * rows * cols) = true := by simpa using g6
        clear g6 hw16
        go_quiet (fail)
        go_wp2
        go_ret
        exact ⟨by rw [HE.out]; rfl, HBD _⟩
      have d6 : ((plates.length : Int) != 2 * rows * cols) = false := by simpa using g6
      have hsz : sizeB (rows0 r) ⟨cols, rows, plates⟩ = true := by
        unfold sizeB
        rw [HRR.out]
        simp only [decide_eq_true_eq]
        exact ⟨by omega, by omega, by omega, by omega, by first | rfl | trivial⟩
      have HSZ := Lib.hid hsz
      have H6 := Lib.hid g6
      have hp16 : (plates.length : Int) ≤ 16 := by rw [g6, Int.mul_assoc]; omega
      clear g6 hw16 hsz
      go_quiet (fail)
      go_wp2
      obtain ⟨w2, e2⟩ : ∃ w2, w1.drewN nq = w2 := ⟨_, rfl⟩
      have hb2 : Below w1.heap.size w1 w2 := by rw [← e2]; exact below_drewN (Below.refl _ _) _
      rw [e2]
      have R2 := R1.below hb2 R1.lt
      have B2 := B1.trans (hb2.mono B1.size)
      have HR2 := Lib.hid R2
      clear q0 q1 q2 n1 o0 o1 o2 o3 R1 R2 HBD e2 hb2 d1 d2 d3 d4 d5 d6 kw1 kw2
      go_loopw [5] (fun i wq => ∃ m : Nat, m ≤ plates.length ∧ i = .int .i64 m ∧ Hid ((plates.take m).all (fun p => isPageB p.page) = true) ∧ Below w2.heap.size w2 wq) (fun i _ => plates.length - (intOf i).toNat)
      case atStart => exact ⟨0, Nat.zero_le _, rfl, rfl, Below.refl _ _⟩
      case round =>
        obtain ⟨m, hm, rfl, hp, hB3⟩ := hrel
        have R3 := HR2.out.below hB3 HR2.out.lt
        have q2 := cellOf R3 2 (x := .slice A plates.length c) rfl
        have B3 := B2.trans (hB3.mono B2.size)
        have BW3 := B0.trans (B3.mono B0.size)
        clear R3
        by_cases hlm : m < plates.length
        case neg =>
          have hwb : webB (rows0 r) ⟨cols, rows, plates⟩ = true := by
            unfold webB
            rw [HSZ.out, Bool.true_and, Bool.and_eq_true]
            refine ⟨decide_eq_true H6.out, ?_⟩
            have := hp.out
            rwa [List.take_of_length_le (by omega)] at this
          have HN := HWA.out hwb
          clear hwb
          go_wp2
          go_roundw
          case rel => exact ⟨k + 1, by omega, by go_num, HN, B3⟩
          case measure => (simp [intOf]) <;> omega
        obtain ⟨p, hpp⟩ : ∃ p, plates[m]? = some p := ⟨_, List.getElem?_eq_getElem hlm⟩
        obtain ⟨g2, o2, rfl, -, hpc⟩ := HPL.out m p hpp
        have n0 := hpc wr B3
        have hmi : (m : Int) < (plates.length : Int) := by omega
        have hno := plate_no H0.out HX.out hpp
        have hnx := fun h => all_next hp hpp h
        have HNX := Lib.hid hnx
        obtain ⟨pg, pu⟩ := p
        dsimp only at n0 hno
        clear hpc hpp hnx hp
        by_cases p1 : pg < 0
        case pos =>
          have HE : Hid (checkE r = 6) := hno (fun h => by omega)
          clear hno
          go_wp2
          go_ret
          exact ⟨by rw [HE.out]; rfl, BW3⟩
        by_cases p2 : 128 < pg
        case pos =>
          have HE : Hid (checkE r = 6) := hno (fun h => by omega)
          clear hno
          go_wp2
          go_ret
          exact ⟨by rw [HE.out]; rfl, BW3⟩
        have HP2 := HNX.out (by unfold isPageB; simp only [Bool.and_eq_true, decide_eq_true_eq]; omega)
        clear hno
        go_wp2
        go_roundw
        case rel => exact ⟨m + 1, by omega, by go_num, HP2, hB3⟩
        case measure => (simp [intOf]) <;> omega
    have H1 : Hid (partE r 1 = 0) := websE_yes (all_end ht (by omega))
    clear ht
    go_wp2
    clear o0 o1 o2 o3 hlt
    go_loopw [6] (fun i wr => ∃ k : Nat, k ≤ r.ribs.length ∧ i = .int .i64 k ∧ Hid (okR r k) ∧ Below W0.heap.size W0 wr) (fun i _ => r.ribs.length - (intOf i).toNat)
    case atStart => exact ⟨0, Nat.zero_le _, rfl, fun j x hj => by omega, hB⟩
    case round =>
      clear hB BW hk
      obtain ⟨k, hk, rfl, ht, hB⟩ := hrel
      obtain ⟨wo2, rfl⟩ : ∃ wo, wo = wr := ⟨wr, rfl⟩
      obtain ⟨o0, o1, o2, o3⟩ := HBX.out wo2 hB
      have BW := B0.trans (hB.mono B0.size)
      by_cases hlt : k < r.ribs.length
      case pos =>
        obtain ⟨x, hx⟩ : ∃ x, r.ribs[k]? = some x := ⟨_, List.getElem?_eq_getElem hlt⟩
        obtain ⟨g, o, rfl, hg, m0, m1, m2, m3, m4⟩ := HR.out wo2 hB k x hx
        have hno := rib_no H0.out H1.out hx
        have hyes := rib_yes (r := r) (x := x)
        have HX := Lib.hid hx
        obtain ⟨xw, xc, xd, xt, xl⟩ := x
        dsimp only at m0 m1 m2 m3 m4 hno hyes
        have F1 : ∃ w1, wo2.alloc (.cells #[.int .i64 xw, .int .i64 xc, .int .i64 xd, .bool xt, .bool xl] 99) = w1 ∧ Below wo2.heap.size wo2 w1 ∧ Blk w1 wo2.heap.size 99 #[.int .i64 xw, .int .i64 xc, .int .i64 xd, .bool xt, .bool xl] := ⟨_, rfl, (Below.refl _ _).alloc (Nat.le_refl _) _, Blk.new _ _ _⟩
        obtain ⟨w1, e1, hb1, R1⟩ := F1
        have E1 := Lib.hid e1
        have B1 := hB.trans (hb1.mono hB.size)
        have BW1 := B0.trans (B1.mono B0.size)
        have hki : (k : Int) < (r.ribs.length : Int) := by omega
        clear e1 hx
        go_upto_region 18 with fail
        rw [E1.out]
        clear m0 m1 m2 m3 m4 o0 o1 o2 o3
        obtain ⟨o0, o1, o2, o3⟩ := HBX.out w1 B1
        have q0 := cellOf R1 0 (x := .int .i64 xw) rfl
        have q1 := cellOf R1 1 (x := .int .i64 xc) rfl
        have q2 := cellOf R1 2 (x := .int .i64 xd) rfl
        have q3 := cellOf R1 3 (x := .bool xt) rfl
        have q4 := cellOf R1 4 (x := .bool xl) rfl
        have HBD : ∀ n, Below w.heap.size w (w1.drewN n) := fun n => below_drewN BW1 n
        have HR1 := Lib.hid R1
        clear hb1 R1
        by_cases g1 : xw < 0
        case pos =>
          have HE : Hid (checkE r = 20) := hno (fun h => by have := h.1.1; omega)
          have d1 : decide (xw < 0) = true := by simpa using g1
          clear hno hyes
          go_quiet (fail)
          go_wp2
          go_ret
          exact ⟨by rw [HE.out]; rfl, HBD _⟩
        have d1 : decide (xw < 0) = false := by simpa using g1
        obtain ⟨a, rfl⟩ : ∃ a : Nat, xw = a := ⟨xw.toNat, by omega⟩
        clear g1
        by_cases g2 : (r.webs.length : Int) ≤ (a : Int)
        case pos =>
          have HE : Hid (checkE r = 20) := hno (fun h => by have := h.1.2.1; omega)
          have d2 : decide ((r.webs.length : Int) ≤ (a : Int)) = true := by simpa using g2
          clear hno hyes
          go_quiet (fail)
          go_wp2
          go_ret
          exact ⟨by rw [HE.out]; rfl, HBD _⟩
        have d2 : decide ((r.webs.length : Int) ≤ (a : Int)) = false := by simpa using g2
        by_cases g3 : xd < 1
        case pos =>
          have HE : Hid (checkE r = 20) := hno (fun h => by have := h.1.2.2.1; omega)
          have d3 : decide (xd < 1) = true := by simpa using g3
          clear hno hyes
          go_quiet (fail)
          go_wp2
          go_ret
          exact ⟨by rw [HE.out]; rfl, HBD _⟩
        have d3 : decide (xd < 1) = false := by simpa using g3
        by_cases g4 : 2 < xd
        case pos =>
          have HE : Hid (checkE r = 20) := hno (fun h => by have := h.1.2.2.2; omega)
          have d4 : decide (2 < xd) = true := by simpa using g4
          clear hno hyes
          go_quiet (fail)
          go_wp2
          go_ret
          exact ⟨by rw [HE.out]; rfl, HBD _⟩
        have d4 : decide (2 < xd) = false := by simpa using g4
        by_cases g5 : xc < 0
        case pos =>
          have HE : Hid (checkE r = 20) := hno (fun h => by have := h.2.2.1; omega)
          have d5 : decide (xc < 0) = true := by simpa using g5
          clear hno hyes
          go_quiet (fail)
          go_wp2
          go_ret
          exact ⟨by rw [HE.out]; rfl, HBD _⟩
        have d5 : decide (xc < 0) = false := by simpa using g5
        obtain ⟨y, hy⟩ : ∃ y, r.webs[a]? = some y := ⟨_, List.getElem?_eq_getElem (by omega)⟩
        obtain ⟨gw, ow, -, -, rfl, hgw0, n0, -, -, -⟩ := HW.out w1 B1 a y hy
        have hgw1 : gw < w1.heap.size := Nat.lt_of_lt_of_le hgw0 B1.size
        have hcy := webs_ok H1.out y (List.mem_of_getElem? hy)
        rw [Int.toNat_natCast, getD_of hy] at hno hyes
        have hai : (a : Int) < (r.webs.length : Int) := by omega
        have hc1 := hcy.1
        have hc2 := hcy.2.1
        generalize y.cols = yc at n0 hno hyes hc1 hc2
        have kw : IntKind.i64.wrap (yc - xd) = yc - xd := IntWalk.i64_in _ ⟨by omega, by omega⟩
        clear hy hcy
        by_cases g6 : yc - xd < xc
        case pos =>
          have HE : Hid (checkE r = 20) := hno (fun h => by have := h.2.2.2; omega)
          have d6 : decide (yc - xd < xc) = true := by simpa using g6
          clear hno hyes
          go_quiet (fail)
          go_wp2
          go_ret
          exact ⟨by rw [HE.out]; rfl, HBD _⟩
        have d6 : decide (yc - xd < xc) = false := by simpa using g6
        by_cases g7 : xd = 2
        case pos =>
          have k7 : (xd == 2) = true := by simpa using g7
          cases xl
          case true =>
            have HE : Hid (checkE r = 20) := hno (fun h => h.2.1 ⟨g7, rfl⟩)
            clear hno hyes g7
            go_quiet (fail)
            go_wp2
            go_ret
            exact ⟨by rw [HE.out]; rfl, HBD _⟩
          as_aux_lemma =>
            have hfit := hyes ⟨⟨by omega, by omega, by omega, by omega⟩, (fun h => by cases h.2), by omega, by omega⟩
            clear g7
            have HFIT := Lib.hid hfit
            obtain ⟨N, hN⟩ : ∃ N : Nat, stN r.stacks (k : Int) = N := ⟨_, rfl⟩
            have HNN := Lib.hid hN
            have hS : ∀ X, Below w1.heap.size w1 X → X.cell? ⟨w.heap.size, 0, none⟩ = some (.slice (some ⟨gw, ow, none⟩) r.webs.length c1) ∧ X.cell? ⟨w.heap.size, 1, none⟩ = some (.slice (some ⟨g, o, none⟩) r.ribs.length c2) ∧ X.cell? ⟨w.heap.size, 2, none⟩ = some (.slice A3 r.stacks.length c3) ∧ X.cell? ⟨w.heap.size, 3, none⟩ = some (.bool r.coll) ∧ X.cell? ⟨wo2.heap.size, 0, none⟩ = some (.int .i64 (a : Int)) ∧ X.cell? ⟨wo2.heap.size, 1, none⟩ = some (.int .i64 xc) ∧ X.cell? ⟨wo2.heap.size, 2, none⟩ = some (.int .i64 xd) ∧ X.cell? ⟨wo2.heap.size, 4, none⟩ = some (.bool false) ∧ X.cell? ⟨gw, ow + a * 3, none⟩ = some (.int .i64 yc) := fun X hX => by
              obtain ⟨a0, a1, a2, a3⟩ := HBX.out X (B1.trans (hX.mono B1.size))
              have R := HR1.out.below hX HR1.out.lt
              exact ⟨a0, a1, a2, a3, cellOf R 0 rfl, cellOf R 1 rfl, cellOf R 2 rfl, cellOf R 4 rfl, (hX.cell (p := ⟨gw, ow + a * 3, none⟩) hgw1).trans n0⟩
            have hC2 : ∀ X, Below w1.heap.size w1 X → Calls Try.prog 47 #[.agg #[.slice (some ⟨gw, ow, none⟩) r.webs.length c1, .slice (some ⟨g, o, none⟩) r.ribs.length c2, .slice A3 r.stacks.length c3, .bool r.coll], .int .i64 (k : Int)] X fun e w' => e = .returned (.int .i64 (N : Int)) ∧ Below w1.heap.size w1 w' := fun X hX => by
              have := HCS.out X (k : Int) (B1.trans (hX.mono B1.size))
              rw [hN] at this
              exact this.mono fun e w' he => ⟨he.1, hX.trans (he.2.mono hX.size)⟩
            have HS := Lib.hid hS
            have HC2 := Lib.hid hC2
            clear hno hyes hfit hN hc1 hc2 hS hC2 HBD
            go_region_held3 (fun X => X.cell? ⟨w.heap.size, 0, none⟩ = some (.slice (some ⟨gw, ow, none⟩) r.webs.length c1) ∧ X.cell? ⟨w.heap.size, 1, none⟩ = some (.slice (some ⟨g, o, none⟩) r.ribs.length c2) ∧ X.cell? ⟨w.heap.size, 2, none⟩ = some (.slice A3 r.stacks.length c3) ∧ X.cell? ⟨w.heap.size, 3, none⟩ = some (.bool r.coll) ∧ X.cell? ⟨wo2.heap.size, 0, none⟩ = some (.int .i64 (a : Int)) ∧ X.cell? ⟨wo2.heap.size, 1, none⟩ = some (.int .i64 xc) ∧ X.cell? ⟨wo2.heap.size, 2, none⟩ = some (.int .i64 xd) ∧ X.cell? ⟨wo2.heap.size, 4, none⟩ = some (.bool false) ∧ X.cell? ⟨gw, ow + a * 3, none⟩ = some (.int .i64 yc))
              (first | exact HS.out _ (by assumption) | exact HS.out _ (Below.refl _ _) | exact HS.out _ (Below.refl _ _).drew | go_keep)
              (first | (go_at_call 47; with_reducible refine (HC2.out _ ?_).mono ?_; (first | assumption | exact Below.refl _ _ | exact (Below.refl _ _).drew); rintro e w3 ⟨rfl, hb3⟩))
            have B3 := B1.trans (hb3.mono B1.size)
            have BW3 := B0.trans (B3.mono B0.size)
            clear o0 o1 o2 o3 q0 q1 q2 q3 q4 n0 hb3
            by_cases hs1 : N = 1
            case neg =>
              have HE : Hid (checkE r = 20) := check_20 H0.out H1.out (fun e => hs1 (by rw [← HNN.out]; exact c_stacks e hlt))
              have k8 : ((N : Int) != 1) = true := by simp; omega
              clear hs1
              go_wp2
              go_ret
              exact ⟨by rw [HE.out]; rfl, BW3⟩
            have k8 : ((N : Int) != 1) = false := by simp; omega
            have HN : Hid (okR r (k + 1)) := okR_next ht.out HX.out HFIT.out (by rw [HNN.out]; exact hs1)
            clear hs1
            go_wp2
            go_roundw
            case rel => exact ⟨k + 1, by omega, by go_num, HN, B3⟩
            case measure => (simp [intOf]) <;> omega
        case neg =>
          as_aux_lemma =>
            have k7 : (xd == 2) = false := by simpa using g7
            have hfit := hyes ⟨⟨by omega, by omega, by omega, by omega⟩, (fun h => g7 h.1), by omega, by omega⟩
            clear g7
            have HFIT := Lib.hid hfit
            obtain ⟨N, hN⟩ : ∃ N : Nat, stN r.stacks (k : Int) = N := ⟨_, rfl⟩
            have HNN := Lib.hid hN
            have hS : ∀ X, Below w1.heap.size w1 X → X.cell? ⟨w.heap.size, 0, none⟩ = some (.slice (some ⟨gw, ow, none⟩) r.webs.length c1) ∧ X.cell? ⟨w.heap.size, 1, none⟩ = some (.slice (some ⟨g, o, none⟩) r.ribs.length c2) ∧ X.cell? ⟨w.heap.size, 2, none⟩ = some (.slice A3 r.stacks.length c3) ∧ X.cell? ⟨w.heap.size, 3, none⟩ = some (.bool r.coll) ∧ X.cell? ⟨wo2.heap.size, 0, none⟩ = some (.int .i64 (a : Int)) ∧ X.cell? ⟨wo2.heap.size, 1, none⟩ = some (.int .i64 xc) ∧ X.cell? ⟨wo2.heap.size, 2, none⟩ = some (.int .i64 xd) ∧ X.cell? ⟨wo2.heap.size, 4, none⟩ = some (.bool xl) ∧ X.cell? ⟨gw, ow + a * 3, none⟩ = some (.int .i64 yc) := fun X hX => by
              obtain ⟨a0, a1, a2, a3⟩ := HBX.out X (B1.trans (hX.mono B1.size))
              have R := HR1.out.below hX HR1.out.lt
              exact ⟨a0, a1, a2, a3, cellOf R 0 rfl, cellOf R 1 rfl, cellOf R 2 rfl, cellOf R 4 rfl, (hX.cell (p := ⟨gw, ow + a * 3, none⟩) hgw1).trans n0⟩
            have hC2 : ∀ X, Below w1.heap.size w1 X → Calls Try.prog 47 #[.agg #[.slice (some ⟨gw, ow, none⟩) r.webs.length c1, .slice (some ⟨g, o, none⟩) r.ribs.length c2, .slice A3 r.stacks.length c3, .bool r.coll], .int .i64 (k : Int)] X fun e w' => e = .returned (.int .i64 (N : Int)) ∧ Below w1.heap.size w1 w' := fun X hX => by
              have := HCS.out X (k : Int) (B1.trans (hX.mono B1.size))
              rw [hN] at this
              exact this.mono fun e w' he => ⟨he.1, hX.trans (he.2.mono hX.size)⟩
            have HS := Lib.hid hS
            have HC2 := Lib.hid hC2
            clear hno hyes hfit hN hc1 hc2 hS hC2 HBD
            go_still_tail 53, (by kernel_rfl)
            change wpList _ _ _ _ _ w1.drew
            go_wp2_with fail
            refine (HC2.out _ (Below.refl _ _).drew).mono ?_
            rintro e w3 ⟨rfl, hb3⟩
            have B3 := B1.trans (hb3.mono B1.size)
            have BW3 := B0.trans (B3.mono B0.size)
            clear o0 o1 o2 o3 q0 q1 q2 q3 q4 n0 hb3
            by_cases hs1 : N = 1
            case neg =>
              have HE : Hid (checkE r = 20) := check_20 H0.out H1.out (fun e => hs1 (by rw [← HNN.out]; exact c_stacks e hlt))
              have k8 : ((N : Int) != 1) = true := by simp; omega
              clear hs1
              go_wp2
              go_ret
              exact ⟨by rw [HE.out]; rfl, BW3⟩
            have k8 : ((N : Int) != 1) = false := by simp; omega
            have HN : Hid (okR r (k + 1)) := okR_next ht.out HX.out HFIT.out (by rw [HNN.out]; exact hs1)
            clear hs1
            go_wp2
            go_roundw
            case rel => exact ⟨k + 1, by omega, by go_num, HN, B3⟩
            case measure => (simp [intOf]) <;> omega
      obtain rfl : k = r.ribs.length := by omega
      have hall : ∀ x ∈ r.ribs, fitsB r x = true := fun x hx => by
        obtain ⟨j, hj, rfl⟩ := List.getElem_of_mem hx
        exact (ht.out j _ hj (List.getElem?_eq_getElem hj)).1
      have hst1 : ∀ i : Nat, i < r.ribs.length → stN r.stacks i = 1 := fun i hi => (ht.out i _ hi (List.getElem?_eq_getElem hi)).2
      have hcols : ∀ y ∈ r.webs, 1 ≤ y.cols ∧ y.cols ≤ 4 := fun y hy => ⟨(webs_ok H1.out y hy).1, (webs_ok H1.out y hy).2.1⟩
      have hcc : ∀ X (a c : Int), Below W0.heap.size W0 X → Calls Try.prog 48 #[.agg #[.slice A1 r.webs.length c1, .slice A2 r.ribs.length c2, .slice A3 r.stacks.length c3, .bool r.coll], .int .i64 a, .int .i64 c] X fun e w' => e = .returned (.int .i64 ((colN r.ribs a c : Nat) : Int)) ∧ Below X.heap.size X w' := fun X a c hX => by
        have hB := B0.trans (hX.mono B0.size)
        refine columns_any _ r a c X ((hrun.out.below hB).more hB.size) (fun x hx => ?_) (by omega)
        obtain ⟨a', p, -, e2, -, w1, w2, w3⟩ := fits_elim (hall x hx) hcols
        omega
      have HCC := Lib.hid hcc
      have HALL := Lib.hid hall
      have HST1 := Lib.hid hst1
      have HCL := Lib.hid hcols
      clear hall hst1 hcc ht hcols
      go_wp2
      clear o0 o1 o2 o3 hlt
      go_loopw [8] (fun i wr => ∃ a : Nat, a ≤ r.webs.length ∧ i = .int .i64 a ∧ Hid (okC r a) ∧ Below W0.heap.size W0 wr) (fun i _ => r.webs.length - (intOf i).toNat)
      case atStart => exact ⟨0, Nat.zero_le _, rfl, fun i c x hi => by omega, hB⟩
      case round =>
        clear hB BW hk
        obtain ⟨a, ha, rfl, ht, hB⟩ := hrel
        obtain ⟨wo3, rfl⟩ : ∃ wo, wo = wr := ⟨wr, rfl⟩
        obtain ⟨o0, o1, o2, o3⟩ := HBX.out wo3 hB
        have BW := B0.trans (hB.mono B0.size)
        by_cases hlt : a < r.webs.length
        case pos =>
          obtain ⟨x, hx⟩ : ∃ x, r.webs[a]? = some x := ⟨_, List.getElem?_eq_getElem hlt⟩
          have HX := Lib.hid hx
          have hxc := HCL.out x (List.mem_of_getElem? hx)
          clear hx
          go_wp2
          clear o0 o1 o2 o3
          go_loopw [9] (fun i wr => ∃ c : Nat, (c : Int) ≤ x.cols ∧ i = .int .i64 c ∧ Hid (∀ c' : Nat, c' < c → colN r.ribs a c' = 1) ∧ Below W0.heap.size W0 wr) (fun i _ => x.cols.toNat - (intOf i).toNat)
          case atStart => exact ⟨0, by omega, rfl, fun c' h => by omega, hB⟩
          case round =>
            clear hB BW
            obtain ⟨c, hc, rfl, hq, hB⟩ := hrel
            obtain ⟨wo4, rfl⟩ : ∃ wo, wo = wr := ⟨wr, rfl⟩
            obtain ⟨o0, o1, o2, o3⟩ := HBX.out wo4 hB
            obtain ⟨g, o, -, -, rfl, -, m0, -, -, -⟩ := HW.out wo4 hB a x HX.out
            have hai : (a : Int) < (r.webs.length : Int) := by omega
            have BW := B0.trans (hB.mono B0.size)
            by_cases hlc : (c : Int) < x.cols
            case neg =>
              have HN : Hid (okC r (a + 1)) := fun i c' y hi hy hcy => by
                by_cases e : i = a
                · subst e
                  rw [HX.out] at hy
                  injection hy with hy
                  subst hy
                  exact hq.out c' (by omega)
                · exact ht.out i c' y (by omega) hy hcy
              go_wp2
              go_roundw
              case rel => exact ⟨a + 1, by omega, by go_num, HN, hB⟩
              case measure => (simp [intOf]) <;> omega
            obtain ⟨N, hN⟩ : ∃ N : Nat, colN r.ribs (a : Int) (c : Int) = N := ⟨_, rfl⟩
            have C := HCC.out _ (a : Int) (c : Int) hB
            rw [hN] at C
            have C := Lib.hid C
            have HNN := Lib.hid hN
            clear hN
            go_wp2_with fail
            refine C.out.mono ?_
            rintro e w3 ⟨rfl, hb3⟩
            have B3 := hB.trans (hb3.mono hB.size)
            have BW3 := B0.trans (B3.mono B0.size)
            clear C o0 o1 o2 o3 m0 hb3
            by_cases hs1 : N = 1
            case neg =>
              have HE : Hid (checkE r = 20) := check_20 H0.out H1.out (fun e => hs1 (by rw [← HNN.out]; exact c_cols e HX.out hlc))
              have k8 : ((N : Int) != 1) = true := by simp; omega
              clear hs1
              go_wp2
              go_ret
              exact ⟨by rw [HE.out]; rfl, BW3⟩
            have k8 : ((N : Int) != 1) = false := by simp; omega
            have HN : Hid (∀ c' : Nat, c' < c + 1 → colN r.ribs a c' = 1) := fun c' h => by
              by_cases e : c' = c
              · subst e; rw [HNN.out]; exact hs1
              · exact hq.out c' (by omega)
            clear hs1
            go_wp2
            go_roundw
            case rel => exact ⟨c + 1, by omega, by go_num, HN, B3⟩
            case measure => (simp [intOf]) <;> omega
        obtain rfl : a = r.webs.length := by omega
        have HC : Hid (okC r r.webs.length) := ht
        clear ht
        go_wp2
        clear o0 o1 o2 o3 hlt
        go_loopw [10, 11] (fun mv i wr => ∃ k N : Nat, k ≤ r.stacks.length ∧ i = .int .i64 k ∧ Hid (N = (r.stacks.take k).flatten.length) ∧ mv = .int .i64 (N : Int) ∧ Hid (∀ s ∈ r.stacks.take k, s.length ≠ 0) ∧ Below W0.heap.size W0 wr) (fun _ i _ => r.stacks.length - (intOf i).toNat)
        case atStart => exact ⟨0, 0, Nat.zero_le _, rfl, rfl, rfl, fun s hs => by simp at hs, hB⟩
        case round =>
          clear hB BW ha
          obtain ⟨k, N, hk, rfl, hN, rfl, ht, hB⟩ := hrel
          obtain ⟨o0, o1, o2, o3⟩ := HBX.out wr hB
          have BW := B0.trans (hB.mono B0.size)
          have hNb : N ≤ 1000000 := by
            have h1 := flat_le (l := r.stacks.take k) fun s hs => HSM.out.2.2.2.2 s (List.mem_of_mem_take hs)
            have h2 := hN.out
            rw [List.length_take] at h1
            omega
          by_cases hlt : k < r.stacks.length
          case pos =>
            obtain ⟨s, hs⟩ : ∃ s, r.stacks[k]? = some s := ⟨_, List.getElem?_eq_getElem hlt⟩
            obtain ⟨g, o, A, c, rfl, m0⟩ := HST.out wr hB k s hs
            have hsl := HSM.out.2.2.2.2 s (List.mem_of_getElem? hs)
            have hki : (k : Int) < (r.stacks.length : Int) := by omega
            have HX := Lib.hid hs
            have HNN : Hid (N + s.length = (r.stacks.take (k + 1)).flatten.length) := by
              show N + s.length = _
              rw [flat_sum _ _ hs, hN.out]
            clear hs
            by_cases hs0 : s.length = 0
            case pos =>
              have HE : Hid (checkE r = 20) := check_20 H0.out H1.out (fun e => c_full e (List.mem_of_getElem? HX.out) hs0)
              have k8 : ((s.length : Int) == 0) = true := by rw [beq_iff_eq]; omega
              clear hs0
              go_wp2
              go_ret
              exact ⟨by rw [HE.out]; rfl, BW⟩
            have k8 : ((s.length : Int) == 0) = false := by rw [beq_eq_false_iff_ne]; omega
            have HF : Hid (∀ t ∈ r.stacks.take (k + 1), t.length ≠ 0) := fun t h => by
              rw [List.take_add_one, HX.out] at h
              rcases List.mem_append.1 h with h | h
              · exact ht.out t h
              · simp at h; subst h; exact hs0
            clear hs0
            go_wp2
            go_roundw
            case rel => exact ⟨k + 1, N + s.length, by omega, by go_num, HNN, by go_num, HF, hB⟩
            case measure => (simp [intOf]) <;> omega
          obtain rfl : k = r.stacks.length := by omega
          have HNN : Hid (N = r.stacks.flatten.length) := by
            show N = r.stacks.flatten.length
            rw [hN.out, List.take_length]
          have HF : Hid (∀ s ∈ r.stacks, s.length ≠ 0) := fun s hs => ht.out s (by rw [List.take_length]; exact hs)
          clear hN ht
          by_cases hm : N = r.ribs.length
          case neg =>
            have HE : Hid (checkE r = 20) := check_20 H0.out H1.out (fun e => hm (HNN.out.trans (c_many e)))
            have k9 : ((N : Int) != (r.ribs.length : Int)) = true := by simp; omega
            clear hm
            go_wp2
            go_ret
            exact ⟨by rw [HE.out]; rfl, BW⟩
          have k9 : ((N : Int) != (r.ribs.length : Int)) = false := by simp; omega
          have HM := Lib.hid hm
          clear hm
          have hz : (0 : Int) < (r.webs.length : Int) := by omega
          cases hcoll : r.coll
          case false =>
            rw [hcoll] at o3
            have HE : Hid (checkE r = 0) := c_ok H0.out H1.out HALL.out HST1.out (fun a c x h1 h2 => HC.out a c x (List.getElem?_eq_some_iff.1 h1).1 h1 h2) HF.out (HNN.out.symm.trans HM.out) (fun h => by rw [hcoll] at h; cases h)
            clear hcoll
            go_wp2
            go_ret
            exact ⟨by rw [HE.out]; rfl, BW⟩
          rw [hcoll] at o3
          obtain ⟨y, hy⟩ : ∃ y, r.webs[0]? = some y := ⟨_, List.getElem?_eq_getElem (by omega)⟩
          obtain ⟨g, o, -, -, rfl, -, -, n1, -, -⟩ := HW.out wr hB 0 y hy
          have hr0 : rows0 r = y.rows := by unfold rows0; rw [getD_of hy]
          simp only [Nat.zero_mul, Nat.add_zero] at n1
          rw [← hr0] at n1
          have HCO := Lib.hid hcoll
          clear hy hr0 hcoll
          by_cases hr2 : rows0 r = 2
          case neg =>
            have HE : Hid (checkE r = 20) := check_20 H0.out H1.out (fun e => hr2 (rows_coll e HCO.out))
            have k10 : (rows0 r != 2) = true := by simpa using hr2
            clear hr2
            go_wp2
            go_ret
            exact ⟨by rw [HE.out]; rfl, BW⟩
          have k10 : (rows0 r != 2) = false := by simpa using hr2
          have HE : Hid (checkE r = 0) := c_ok H0.out H1.out HALL.out HST1.out (fun a c x h1 h2 => HC.out a c x (List.getElem?_eq_some_iff.1 h1).1 h1 h2) HF.out (HNN.out.symm.trans HM.out) (fun _ => hr2)
          clear hr2
          go_wp2
          go_ret
          exact ⟨by rw [HE.out]; rfl, BW⟩
end Go.Proofs.Ytdbfhdncjblleaa
