/-
  THE CHECKS OF A RUN: its webs.
-/
import Derived.Test.YtdbfhdncjblleaaC
namespace Go.Proofs.Ytdbfhdncjblleaa
open Go.RowKit

def sizeB (rows0 : Int) (x : WebD) : Bool := decide (1 ≤ x.cols ∧ x.cols ≤ 4 ∧ 1 ≤ x.rows ∧ x.rows ≤ 2 ∧ x.rows = rows0)
def webB (rows0 : Int) (x : WebD) : Bool := sizeB rows0 x && decide ((x.plates.length : Int) = 2 * x.rows * x.cols) && x.plates.all fun p => isPageB p.page
def rows0 (r : RunD) : Int := (r.webs.getD 0 default).rows
def websB (r : RunD) : Bool := r.webs.all (webB (rows0 r))
def websE (r : RunD) : Int := if websB r then 0 else 6
theorem websE_no {r : RunD} {k : Nat} {x : WebD} (hx : r.webs[k]? = some x) (h : webB (rows0 r) x = false) : websE r = 6 := by
  unfold websE websB
  rw [all_not hx h]; rfl
theorem websE_yes {r : RunD} (h : Hid (r.webs.all (webB (rows0 r)) = true)) : websE r = 0 := by
  unfold websE websB
  rw [h.out]; rfl

set_option maxHeartbeats 1000000 in
theorem checkWebs_any (v : Value) (r : RunD) (w : World) (h : RRun w.heap.size w v r) :
    Calls Try.prog 64 #[v] w fun e w' => e = .returned (.int .i64 (websE r)) ∧ Below w.heap.size w w' := by
  obtain ⟨v1, v2, v3, rfl, hw, hr, hs⟩ := h
  obtain ⟨A, c, rfl, hA1, hA⟩ := hw.open_
  clear hr hs
  have c0 := box4 (w := w) (a := .slice A r.webs.length c) (b := v2) (c := v3) (d := .bool r.coll) (t := 111) 0 _ rfl
  have b0 : Below w.heap.size w (w.alloc (.cells #[.slice A r.webs.length c, v2, v3, .bool r.coll] 111)) := (Below.refl _ _).alloc (Nat.le_refl _) _
  have z0 : (w.alloc (.cells #[.slice A r.webs.length c, v2, v3, .bool r.coll] 111)).heap.size = w.heap.size + 1 := by simp
  go_enter Try.func64, Try.ntmps64
  go_wp2
  generalize hw1 : w.alloc (.cells #[.slice A r.webs.length c, v2, v3, .bool r.coll] 111) = w1 at *
  clear hw1
  go_loopw [11] (fun i wr => ∃ k : Nat, k ≤ r.webs.length ∧ i = .int .i64 k ∧ Hid ((r.webs.take k).all (webB (rows0 r)) = true) ∧ Below (w.heap.size + 1) w1 wr) (fun i _ => r.webs.length - (intOf i).toNat)
  case atStart => exact ⟨0, Nat.zero_le _, rfl, rfl, Below.refl _ _⟩
  case round =>
    obtain ⟨k, hk, rfl, ht, hB⟩ := hrel
    have hBw : Below w.heap.size w wr := b0.trans (hB.mono (by omega))
    have c1 : wr.cell? ⟨w.heap.size, 0, none⟩ = some (.slice A r.webs.length c) := (hB.cell (p := ⟨w.heap.size, 0, none⟩) (by simp)).trans c0
    have zr : w.heap.size + 1 ≤ wr.heap.size := by have := hB.size; omega
    by_cases hlt : k < r.webs.length
    · obtain ⟨x, hx⟩ : ∃ x, r.webs[k]? = some x := ⟨_, List.getElem?_eq_getElem hlt⟩
      obtain ⟨y, hy⟩ : ∃ y, r.webs[0]? = some y := ⟨_, List.getElem?_eq_getElem (by omega)⟩
      obtain ⟨g, o, u, rfl, hb, hc1, hc2, hc3, hp⟩ := hA k x hx
      obtain ⟨g2, o2, u2, he2, hb2, hd1, hd2, hd3, -⟩ := hA 0 y hy
      obtain ⟨rfl, rfl⟩ : g2 = g ∧ o2 = o := by simp at he2; omega
      obtain ⟨A5, c5, rfl, hA5, hA6⟩ := hp.open_
      rw [← hBw.cell (p := ⟨g2, o2 + k * 3, none⟩) hb] at hc1
      rw [← hBw.cell (p := ⟨g2, o2 + k * 3 + 1, none⟩) hb] at hc2
      rw [← hBw.cell (p := ⟨g2, o2 + k * 3 + 2, none⟩) hb] at hc3
      rw [← hBw.cell (p := ⟨g2, o2 + 0 * 3 + 1, none⟩) hb] at hd2
      simp only [Nat.zero_mul, Nat.add_zero] at hd2
      have Hr : Hid (rows0 r = y.rows) := by
        show (r.webs.getD 0 default).rows = y.rows
        rw [List.getD_eq_getElem?_getD, hy]; rfl
      have Hx := Lib.hid hx
      clear hx hy he2 hA hd1 hd3 hp hw
      have hz : (0 : Int) < (r.webs.length : Int) := by omega
      have zr2 : w.heap.size < wr.heap.size := by omega
      have zr3 : g2 < wr.heap.size := by omega
      obtain ⟨cols, rows, plates⟩ := x
      obtain ⟨cols0, rows00, plates0⟩ := y
      dsimp only at hc1 hc2 hc3 hd2 Hr hA5 hA6
      have hno : sizeB rows00 ⟨cols, rows, plates⟩ = false → websE r = 6 := fun h => websE_no Hx.out (by rw [Hr.out, webB, h]; rfl)
      have hEnd : ∀ o n, Below w.heap.size w ((wr.alloc o).drewN n) := fun o n => below_drewN (hBw.alloc (by omega) _) _
      by_cases h1 : 1 ≤ cols
      case neg =>
        have Hn := Lib.hid (hno (by simp [sizeB]; omega))
        have d1 : decide (cols < 1) = true := by simp; omega
        clear hno
        go_wp2
        go_quiet (fail)
        go_wp2
        go_ret
        exact ⟨ri Hn.out, hEnd _ _⟩
      by_cases h2 : cols ≤ 4
      case neg =>
        have Hn := Lib.hid (hno (by simp [sizeB]; omega))
        have d1 : decide (cols < 1) = false := by simp; omega
        have d2 : decide (4 < cols) = true := by simp; omega
        clear hno
        go_wp2
        go_quiet (fail)
        go_wp2
        go_ret
        exact ⟨ri Hn.out, hEnd _ _⟩
      by_cases h3 : 1 ≤ rows
      case neg =>
        have Hn := Lib.hid (hno (by simp [sizeB]; omega))
        have d1 : decide (cols < 1) = false := by simp; omega
        have d2 : decide (4 < cols) = false := by simp; omega
        have d3 : decide (rows < 1) = true := by simp; omega
        clear hno
        go_wp2
        go_quiet (fail)
        go_wp2
        go_ret
        exact ⟨ri Hn.out, hEnd _ _⟩
      by_cases h4 : rows ≤ 2
      case neg =>
        have Hn := Lib.hid (hno (by simp [sizeB]; omega))
        have d1 : decide (cols < 1) = false := by simp; omega
        have d2 : decide (4 < cols) = false := by simp; omega
        have d3 : decide (rows < 1) = false := by simp; omega
        have d4 : decide (2 < rows) = true := by simp; omega
        clear hno
        go_wp2
        go_quiet (fail)
        go_wp2
        go_ret
        exact ⟨ri Hn.out, hEnd _ _⟩
      by_cases h5 : rows = rows00
      case neg =>
        have Hn := Lib.hid (hno (by simp [sizeB]; omega))
        have d1 : decide (cols < 1) = false := by simp; omega
        have d2 : decide (4 < cols) = false := by simp; omega
        have d3 : decide (rows < 1) = false := by simp; omega
        have d4 : decide (2 < rows) = false := by simp; omega
        have d5 : (rows != rows00) = true := by simp; omega
        clear hno h5
        go_wp2
        go_quiet (fail)
        go_wp2
        go_ret
        exact ⟨ri Hn.out, hEnd _ _⟩
      subst h5
      clear hno
      have d1 : decide (cols < 1) = false := by simp; omega
      have d2 : decide (4 < cols) = false := by simp; omega
      have d3 : decide (rows < 1) = false := by simp; omega
      have d4 : decide (2 < rows) = false := by simp; omega
      have d5 : (rows != rows) = false := by simp
      have hs : sizeB rows ⟨cols, rows, plates⟩ = true := by simp [sizeB]; omega
      have Hs2 := Lib.hid hs
      clear hs
      have Hp : 2 * rows * cols ≤ 16 ∧ 2 ≤ 2 * rows * cols := by
        obtain rfl | rfl : rows = 1 ∨ rows = 2 := by omega
        · omega
        · omega
      obtain ⟨Hp1, Hp2⟩ := Hp
      by_cases h6 : (plates.length : Int) = 2 * rows * cols
      case neg =>
        have Hn := Lib.hid (websE_no Hx.out (by rw [Hr.out, webB, decide_eq_false h6]; simp))
        have d6 : ((plates.length : Int) != 2 * rows * cols) = true := by simpa using h6
        clear h6
        go_wp2
        go_quiet (fail)
        go_wp2
        go_ret
        exact ⟨ri Hn.out, hEnd _ _⟩
      have H6 := Lib.hid h6
      have d6 : ((plates.length : Int) != 2 * rows * cols) = false := by simpa using h6
      clear h6
      go_wp2
      go_quiet (fail)
      go_wp2
      have hB2 : ∀ o n, Below (w.heap.size + 1) w1 ((wr.alloc o).drewN n) := fun o n => below_drewN (hB.alloc (by omega) _) _
      have hBp := hB2 (Obj.cells #[Value.int IntKind.i64 cols, Value.int IntKind.i64 rows, Value.slice A5 plates.length c5] 87) nq
      clear hB2 hEnd hc1 hc2 hc3 hd2 zr2 zr3 zr c1 hBw hB
      generalize (wr.alloc (Obj.cells #[Value.int IntKind.i64 cols, Value.int IntKind.i64 rows, Value.slice A5 plates.length c5] 87)).drewN nq = w2 at *
      go_loopw [57] (fun i wq => ∃ m : Nat, m ≤ plates.length ∧ i = .int .i64 m ∧ Hid ((plates.take m).all (fun p => isPageB p.page) = true) ∧ Below (w.heap.size + 1) w1 wq) (fun i _ => plates.length - (intOf i).toNat)
      case atStart => exact ⟨0, Nat.zero_le _, rfl, rfl, hBp⟩
      case round =>
        obtain ⟨m, hm, rfl, hq, hBq⟩ := hrel
        have hBw : Below w.heap.size w wr := b0.trans (hBq.mono (by omega))
        have zr : w.heap.size + 1 ≤ wr.heap.size := by have := hBq.size; omega
        by_cases hmt : m < plates.length
        · obtain ⟨x, hx⟩ : ∃ x, plates[m]? = some x := ⟨_, List.getElem?_eq_getElem hmt⟩
          obtain ⟨g, o, rfl, hb3, hc1, hc2⟩ := hA6 m x hx
          have Hx3 := Lib.hid hx
          clear hx hA6
          rw [← hBw.cell (p := ⟨g, o + m * 2, none⟩) hb3] at hc1
          rw [← hBw.cell (p := ⟨g, o + m * 2 + 1, none⟩) hb3] at hc2
          have hEnd : ∀ o, Below w.heap.size w (wr.alloc o) := fun o => hBw.alloc (by omega) _
          obtain ⟨page, up⟩ := x
          dsimp only at hc1 hc2
          cases hpg : isPageB page
          · have Hn := Lib.hid (websE_no Hx.out (by rw [webB, all_not Hx3.out hpg, Bool.and_false]))
            go_wp2_with (go_at_call 72; refine (isPage_any _ _).mono ?_; rintro e w' ⟨rfl, rfl⟩)
            go_ret
            exact ⟨ri Hn.out, hEnd _⟩
          · go_wp2_with (go_at_call 72; refine (isPage_any _ _).mono ?_; rintro e w' ⟨rfl, rfl⟩)
            go_roundw
            case rel => exact ⟨m + 1, by omega, by go_num, all_next hq Hx3.out hpg, hBq.alloc (by omega) _⟩
            case measure => simp [intOf]; omega
        · have Hs := all_end hq (by omega)
          have Hw : webB (rows0 r) ⟨cols, rows, plates⟩ = true := by
            rw [webB, Hr.out, Hs.out, Hs2.out, Bool.and_true, Bool.true_and]
            exact decide_eq_true H6.out
          have HW := Lib.hid Hw
          clear Hw
          go_wp2
          go_roundw
          case rel => exact ⟨k + 1, by omega, by go_num, all_next ht Hx.out HW.out, hBq⟩
          case measure => simp [intOf]; omega
    · have Ht := websE_yes (all_end ht (by omega))
      have HT := Lib.hid Ht
      clear Ht
      go_wp2
      go_ret
      exact ⟨ri HT.out, hBw⟩
end Go.Proofs.Ytdbfhdncjblleaa
