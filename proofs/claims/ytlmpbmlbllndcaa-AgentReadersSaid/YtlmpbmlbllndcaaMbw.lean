/-
  Arguments: subscribers (each with its spans), complaints.
  AgentReaders.
-/
import Derived.Test.YtlmpbmlbllndcaaMbv
import Derived.Test.YtlmpbmlbllndcaaMay
import Derived.Test.YtlmpbmlbllndcaaMbu
import Derived.Test.YtlmpbmlbllndcaaMbd
namespace Go.Proofs.Ytlmpbmlbllndcaa
open Go.RowKit Go.ChangeShapes Go.WideShapes Go.ChangeAt Go.Deep Go.Joins
section
variable {H : Type} {enc : TypeId × Value → H} {w : World} {base b0 : Nat} {rc : Reach} {spare : Nat → Bool} {held : Bool}
theorem spans_of {n : Nat} {v : Value} {y : DataW H × List MemPlace} (h : DataW.trod enc Try.prog w base spare held n 40 [v] = some y) : ∃ l : List SpanD, RSpans w.heap.size w v l := by
  rcases open_slice Try.underlying40 h with ⟨hv, rfl⟩ | ⟨a, len, cap, m, n', D, Pl, hv, hb, hl, hm, hmm, rfl, hx⟩
  · obtain rfl : v = .slice none 0 0 := by simpa using hv
    exact ⟨[], Rd.nil⟩
  · obtain rfl : v = .slice (some a) len cap := by simpa using hv
    have hle : len ≤ m := by rw [hmm]; split <;> omega
    have hC : Try.prog.cellsOf 87 = 2 := by kernel_rfl
    obtain ⟨l, hl2, hp⟩ := pick_list (P := fun i (z : SpanD) => ∀ r u, z.cells[r]? = some u → w.cell? (a.add (i * 2 + r)) = some u) len fun i hi => by
      obtain ⟨cs, h1, h2⟩ := hx i (by omega)
      obtain ⟨ys, n2, -, hf⟩ := elem_fields' Try.underlying87 (by kernel_rfl) hC h1 h2
      obtain ⟨v0, y0, c0, -, t0⟩ := hf 0 _ rfl
      obtain ⟨v1, y1, c1, -, t1⟩ := hf 1 _ rfl
      obtain ⟨z0, rfl, -⟩ := field_int t0
      obtain ⟨z1, rfl, -⟩ := field_int t1
      rw [hC, addAdd'] at c0 c1
      refine ⟨⟨z0, z1⟩, fun r u hu => ?_⟩
      match r, hu with
      | 0, hu => simp only [SpanD.cells, List.getElem?_cons_zero, Option.some.injEq] at hu; rw [← hu]; exact c0
      | 1, hu => simp only [SpanD.cells, List.getElem?_cons_succ, List.getElem?_cons_zero, Option.some.injEq] at hu; rw [← hu]; exact c1
      | r + 2, hu => simp [SpanD.cells] at hu
    exact ⟨l, rd_rows SpanD.cells 2 (fun _ => rfl) (by omega) hl2 (by omega) fun i x r u hx hu => hp i x hx r u hu⟩
theorem cmps_of {n : Nat} {v : Value} {y : DataW H × List MemPlace} (h : DataW.trod enc Try.prog w base spare held n 38 [v] = some y) : ∃ l : List CmpD, RCmps w.heap.size w v l := by
  rcases open_slice Try.underlying38 h with ⟨hv, rfl⟩ | ⟨a, len, cap, m, n', D, Pl, hv, hb, hl, hm, hmm, rfl, hx⟩
  · obtain rfl : v = .slice none 0 0 := by simpa using hv
    exact ⟨[], Rd.nil⟩
  · obtain rfl : v = .slice (some a) len cap := by simpa using hv
    have hle : len ≤ m := by rw [hmm]; split <;> omega
    have hC : Try.prog.cellsOf 91 = 2 := by kernel_rfl
    obtain ⟨l, hl2, hp⟩ := pick_list (P := fun i (z : CmpD) => ∀ r u, z.cells[r]? = some u → w.cell? (a.add (i * 2 + r)) = some u) len fun i hi => by
      obtain ⟨cs, h1, h2⟩ := hx i (by omega)
      obtain ⟨ys, n2, -, hf⟩ := elem_fields' Try.underlying91 (by kernel_rfl) hC h1 h2
      obtain ⟨v0, y0, c0, -, t0⟩ := hf 0 _ rfl
      obtain ⟨v1, y1, c1, -, t1⟩ := hf 1 _ rfl
      obtain ⟨z0, rfl, -⟩ := field_int t0
      obtain ⟨z1, rfl, -⟩ := field_int t1
      rw [hC, addAdd'] at c0 c1
      refine ⟨⟨z0, z1⟩, fun r u hu => ?_⟩
      match r, hu with
      | 0, hu => simp only [CmpD.cells, List.getElem?_cons_zero, Option.some.injEq] at hu; rw [← hu]; exact c0
      | 1, hu => simp only [CmpD.cells, List.getElem?_cons_succ, List.getElem?_cons_zero, Option.some.injEq] at hu; rw [← hu]; exact c1
      | r + 2, hu => simp [CmpD.cells] at hu
    exact ⟨l, rd_rows CmpD.cells 2 (fun _ => rfl) (by omega) hl2 (by omega) fun i x r u hx hu => hp i x hx r u hu⟩
set_option maxRecDepth 100000 in
theorem cmps_arg {v : Value} {d : DataW H} {p : List MemPlace} (hv : Value.okWide Try.prog w rc b0 38 v) (h : DataW.Trod enc Try.prog w base spare held 38 v d p) : ∃ l : List CmpD, RCmps w.heap.size w v l := by
  obtain ⟨a, len, cap, rfl⟩ := okWide_slice Try.underlying38 hv
  obtain ⟨fuel, hf⟩ := h
  exact cmps_of (y := (d, p)) hf
theorem subs_of {n : Nat} {v : Value} {y : DataW H × List MemPlace} (h : DataW.trod enc Try.prog w base spare held n 35 [v] = some y) : ∃ l : List SubD, RSubs w.heap.size w v l := by
  rcases open_slice Try.underlying35 h with ⟨hv, rfl⟩ | ⟨a, len, cap, m, n', D, Pl, hv, hb, hl, hm, hmm, rfl, hx⟩
  · obtain rfl : v = .slice none 0 0 := by simpa using hv
    exact ⟨[], [], rfl, Rd.nil, fun i u x h => by simp at h⟩
  · obtain rfl : v = .slice (some a) len cap := by simpa using hv
    have hle : len ≤ m := by rw [hmm]; split <;> omega
    have hC : Try.prog.cellsOf 42 = 5 := by kernel_rfl
    obtain ⟨l, hl2, hp⟩ := pick_list (P := fun i (z : SubD × Value) => (∀ r u, (subCells z)[r]? = some u → w.cell? (a.add (i * 5 + r)) = some u) ∧ RSpans w.heap.size w z.2 z.1.hol) len fun i hi => by
      obtain ⟨cs, h1, h2⟩ := hx i (by omega)
      obtain ⟨ys, n2, -, hf⟩ := elem_fields' Try.underlying42 (by kernel_rfl) hC h1 h2
      obtain ⟨v0, y0, c0, -, t0⟩ := hf 0 _ rfl
      obtain ⟨v1, y1, c1, -, t1⟩ := hf 1 _ rfl
      obtain ⟨v2, y2, c2, -, t2⟩ := hf 2 _ rfl
      obtain ⟨v3, y3, c3, -, t3⟩ := hf 3 _ rfl
      obtain ⟨v4, y4, c4, -, t4⟩ := hf 4 _ rfl
      obtain ⟨z0, rfl, -⟩ := field_int t0
      obtain ⟨z1, rfl, -⟩ := field_int t1
      obtain ⟨z2, rfl, -⟩ := field_int t2
      obtain ⟨z3, rfl, -⟩ := field_int t3
      obtain ⟨pl, hpl⟩ := spans_of t4
      rw [hC, addAdd'] at c0 c1 c2 c3 c4
      refine ⟨(⟨z0, z1, z2, z3, pl⟩, v4), fun r u hu => ?_, hpl⟩
      match r, hu with
      | 0, hu => simp only [subCells, List.getElem?_cons_zero, Option.some.injEq] at hu; rw [← hu]; exact c0
      | 1, hu => simp only [subCells, List.getElem?_cons_succ, List.getElem?_cons_zero, Option.some.injEq] at hu; rw [← hu]; exact c1
      | 2, hu => simp only [subCells, List.getElem?_cons_succ, List.getElem?_cons_zero, Option.some.injEq] at hu; rw [← hu]; exact c2
      | 3, hu => simp only [subCells, List.getElem?_cons_succ, List.getElem?_cons_zero, Option.some.injEq] at hu; rw [← hu]; exact c3
      | 4, hu => simp only [subCells, List.getElem?_cons_succ, List.getElem?_cons_zero, Option.some.injEq] at hu; rw [← hu]; exact c4
      | r + 5, hu => simp [subCells] at hu
    have hzip : (l.map (·.1)).zip (l.map (·.2)) = l := by
      rw [List.zip_map']
      simp
    refine ⟨l.map (·.1), l.map (·.2), by simp, ?_, fun i u x hu hx => ?_⟩
    · have := rd_rows subCells 5 (fun _ => rfl) (by omega) (c := cap) (a := a) hl2 (by omega) fun i x r u hx hu => (hp i x hx).1 r u hu
      rw [hzip, List.length_map]
      rw [hl2] at this ⊢
      exact this
    · rw [List.getElem?_map] at hu hx
      obtain ⟨z, hz, rfl⟩ := Option.map_eq_some_iff.1 hu
      rw [hz] at hx
      simp only [Option.map_some, Option.some.injEq] at hx
      subst hx
      exact (hp i z hz).2
set_option maxRecDepth 100000 in
theorem subs_arg {v : Value} {d : DataW H} {p : List MemPlace} (hv : Value.okWide Try.prog w rc b0 35 v) (h : DataW.Trod enc Try.prog w base spare held 35 v d p) : ∃ l : List SubD, RSubs w.heap.size w v l := by
  obtain ⟨a, len, cap, rfl⟩ := okWide_slice Try.underlying35 hv
  obtain ⟨fuel, hf⟩ := h
  exact subs_of (y := (d, p)) hf
end
end Go.Proofs.Ytlmpbmlbllndcaa

namespace Go.Proofs.Ytlmpbmlbllndcaa
open Go.RowKit
attribute [local go_sem] Oper.semAt_some

/-- A guard: if it is false, P holds. -/
def GBq (P : Prop) (q : Value) : Prop := ∃ z, q = .bool z ∧ (z = false → P)
set_option maxRecDepth 1000000 in
set_option maxHeartbeats 4000000 in
theorem agentReaders_any (t : TarD) (l : List SubD) (c : List CmpD) (d a b : Int) (v vc : Value) (w : World) (h : RSubs w.heap.size w v l) (hc : RCmps w.heap.size w vc c) :
    Calls Try.prog 6 #[v, .agg #[.int .i64 t.price, .int .i64 t.back, .int .i64 t.late, .int .i64 t.carry, .int .i64 t.credit], vc, .int .i64 d, .int .i64 a, .int .i64 b] w fun e w' => e = .returned (.bool true) ∧ Below w.heap.size w w' := by
  have HR := Lib.hid h
  have HRC := Lib.hid hc
  obtain ⟨A, cc, rfl, hlm, -⟩ := subs_later h
  obtain ⟨A2, c2, rfl, hcm, -⟩ := cmps_later hc
  obtain ⟨n, hn⟩ : ∃ n, l.length = n := ⟨_, rfl⟩
  obtain ⟨m, hm⟩ : ∃ n, c.length = n := ⟨_, rfl⟩
  have HN := Lib.hid hn
  have HM := Lib.hid hm
  rw [hn] at HR hlm ⊢
  rw [hm] at HRC hcm ⊢
  obtain ⟨mb, hmb⟩ : ∃ z, l.any manyH = z := ⟨_, rfl⟩
  have CM : Hid (∀ W, Below w.heap.size w W → Calls Try.prog 18 #[.slice A n cc, .func (.func 19) #[] #[]] W fun e w' => e = .returned (.bool mb) ∧ Below W.heap.size W w') := fun W hW => by
    have h1 := containsMany_any l (.slice A n cc) W ((HR.out.below hW).more hW.size)
    rw [hmb] at h1
    exact h1
  have CR : Hid (((n ≤ 600 ∧ m ≤ 600) ∧ mb = false) → ∀ W, Below w.heap.size w W → Calls Try.prog 20 #[.slice A n cc, .agg #[.int .i64 t.price, .int .i64 t.back, .int .i64 t.late, .int .i64 t.carry, .int .i64 t.credit], .slice A2 m c2, .int .i64 d, .int .i64 a, .int .i64 b] W fun e w' => e = .returned (.bool true) ∧ Below w.heap.size w w') := fun hq W hW => by
    have h1 := readers_any t l (by rw [HN.out]; exact hq.1.1) (fun s hs => by
      have h9 := hmb.trans hq.2
      rw [List.any_eq_false] at h9
      simpa using h9 s hs) c (by rw [HM.out]; exact hq.1.2) d a b _ _ W ((HR.out.below hW).more hW.size) ((Rd.below HRC.out hW).more hW.size)
    exact h1.mono fun e w' h2 => ⟨h2.1, hW.trans (h2.2.mono hW.size)⟩
  have AW : Hid (∀ Y, Below w.heap.size w Y → Calls Try.prog 15 #[] Y fun e w' => e = .returned (.bool true) ∧ Below w.heap.size w w') := fun Y hY => (awake_any Y).mono fun e w' h => ⟨h.1, hY.trans (h.2.mono hY.size)⟩
  have F0 : ∃ W0, w.alloc (.cells #[.int .i64 t.price, .int .i64 t.back, .int .i64 t.late, .int .i64 t.carry, .int .i64 t.credit] 37) = W0 ∧ Hid (Below w.heap.size w W0) ∧ Hid (Blk W0 w.heap.size 37 #[.int .i64 t.price, .int .i64 t.back, .int .i64 t.late, .int .i64 t.carry, .int .i64 t.credit]) := ⟨_, rfl, below_alloc _ _, Blk.new _ _ _⟩
  obtain ⟨W0, e0, HB0, HK0⟩ := F0
  have E0 := Lib.hid e0
  obtain ⟨P, hP⟩ : ∃ P : Prop, ((n ≤ 600 ∧ m ≤ 600) ∧ mb = false) = P := ⟨_, rfl⟩
  have HP := Lib.hid hP
  rw [hP] at CR
  clear h hc hn hm hmb hP e0
  go_enter Try.func6, Try.ntmps6
  go_upto_region 1 with fail
  rw [E0.out]
  clear E0
  obtain ⟨p, hp⟩ : ∃ p, w.heap.size = p := ⟨_, rfl⟩
  have HPP := Lib.hid hp
  rw [hp] at HK0
  try rw [hp]
  clear hp
  go_cut [44] from 13 to 44 (fun q wx => GBq P q ∧ Hid (Below w.heap.size w wx ∧ Blk wx p 37 #[.int .i64 t.price, .int .i64 t.back, .int .i64 t.late, .int .i64 t.carry, .int .i64 t.credit]))
  case first =>
    clear CR AW hlm hcm
    have hg : n ≤ 20 ∨ (20 < n ∧ n ≤ 500) ∨ (500 < n ∧ n ≤ 600) ∨ 600 < n := by omega
    have hm4 : m ≤ 40 ∨ (40 < m ∧ m ≤ 500) ∨ (500 < m ∧ m ≤ 600) ∨ 600 < m := by omega
    rcases hg with g | g | g | g
    · have e1 : decide ((20 : Int) < (n : Int)) = false := decide_eq_false (by omega)
      have e2 : decide ((n : Int) ≤ (500 : Int)) = true := decide_eq_true (by omega)
      have e3 : decide ((600 : Int) < (n : Int)) = false := decide_eq_false (by omega)
      have G := Lib.hid g
      clear g
      rcases hm4 with g' | g' | g' | g'
      · have f1 : decide ((40 : Int) < (m : Int)) = false := decide_eq_false (by omega)
        have f2 : decide ((m : Int) ≤ (500 : Int)) = true := decide_eq_true (by omega)
        have f3 : decide ((600 : Int) < (m : Int)) = false := decide_eq_false (by omega)
        have G' := Lib.hid g'
        clear g'
        go_wp2_with fail
        refine (CM.out W0 HB0.out).mono ?_
        rintro _ W1 ⟨rfl, b1⟩
        have HB1 := Lib.hid b1
        clear b1
        go_wp2_with fail
        go_meet
        exact ⟨⟨mb, rfl, fun h => by rw [← HP.out]; have h1 := G.out; have h2 := G'.out; exact ⟨⟨by omega, by omega⟩, h⟩⟩, HB0.out.trans (HB1.out.mono HB0.out.size), HK0.out.below HB1.out HK0.out.lt⟩
      · have f1 : decide ((40 : Int) < (m : Int)) = true := decide_eq_true (by omega)
        have f2 : decide ((m : Int) ≤ (500 : Int)) = true := decide_eq_true (by omega)
        have f3 : decide ((600 : Int) < (m : Int)) = false := decide_eq_false (by omega)
        have G' := Lib.hid g'
        clear g'
        go_wp2_with fail
        go_meet
        exact ⟨⟨true, rfl, fun h => by cases h⟩, HB0.out, HK0.out⟩
      · have f1 : decide ((40 : Int) < (m : Int)) = true := decide_eq_true (by omega)
        have f2 : decide ((m : Int) ≤ (500 : Int)) = false := decide_eq_false (by omega)
        have f3 : decide ((600 : Int) < (m : Int)) = false := decide_eq_false (by omega)
        have G' := Lib.hid g'
        clear g'
        go_wp2_with fail
        refine (CM.out W0 HB0.out).mono ?_
        rintro _ W1 ⟨rfl, b1⟩
        have HB1 := Lib.hid b1
        clear b1
        go_wp2_with fail
        go_meet
        exact ⟨⟨mb, rfl, fun h => by rw [← HP.out]; have h1 := G.out; have h2 := G'.out; exact ⟨⟨by omega, by omega⟩, h⟩⟩, HB0.out.trans (HB1.out.mono HB0.out.size), HK0.out.below HB1.out HK0.out.lt⟩
      · have f1 : decide ((40 : Int) < (m : Int)) = true := decide_eq_true (by omega)
        have f2 : decide ((m : Int) ≤ (500 : Int)) = false := decide_eq_false (by omega)
        have f3 : decide ((600 : Int) < (m : Int)) = true := decide_eq_true (by omega)
        have G' := Lib.hid g'
        clear g'
        go_wp2_with fail
        go_meet
        exact ⟨⟨true, rfl, fun h => by cases h⟩, HB0.out, HK0.out⟩
    · have e1 : decide ((20 : Int) < (n : Int)) = true := decide_eq_true (by omega)
      have e2 : decide ((n : Int) ≤ (500 : Int)) = true := decide_eq_true (by omega)
      have e3 : decide ((600 : Int) < (n : Int)) = false := decide_eq_false (by omega)
      have G := Lib.hid g
      clear g
      clear hm4
      go_wp2_with fail
      go_meet
      exact ⟨⟨true, rfl, fun h => by cases h⟩, HB0.out, HK0.out⟩
    · have e1 : decide ((20 : Int) < (n : Int)) = true := decide_eq_true (by omega)
      have e2 : decide ((n : Int) ≤ (500 : Int)) = false := decide_eq_false (by omega)
      have e3 : decide ((600 : Int) < (n : Int)) = false := decide_eq_false (by omega)
      have G := Lib.hid g
      clear g
      rcases hm4 with g' | g' | g' | g'
      · have f1 : decide ((40 : Int) < (m : Int)) = false := decide_eq_false (by omega)
        have f2 : decide ((m : Int) ≤ (500 : Int)) = true := decide_eq_true (by omega)
        have f3 : decide ((600 : Int) < (m : Int)) = false := decide_eq_false (by omega)
        have G' := Lib.hid g'
        clear g'
        go_wp2_with fail
        refine (CM.out W0 HB0.out).mono ?_
        rintro _ W1 ⟨rfl, b1⟩
        have HB1 := Lib.hid b1
        clear b1
        go_wp2_with fail
        go_meet
        exact ⟨⟨mb, rfl, fun h => by rw [← HP.out]; have h1 := G.out; have h2 := G'.out; exact ⟨⟨by omega, by omega⟩, h⟩⟩, HB0.out.trans (HB1.out.mono HB0.out.size), HK0.out.below HB1.out HK0.out.lt⟩
      · have f1 : decide ((40 : Int) < (m : Int)) = true := decide_eq_true (by omega)
        have f2 : decide ((m : Int) ≤ (500 : Int)) = true := decide_eq_true (by omega)
        have f3 : decide ((600 : Int) < (m : Int)) = false := decide_eq_false (by omega)
        have G' := Lib.hid g'
        clear g'
        go_wp2_with fail
        go_meet
        exact ⟨⟨true, rfl, fun h => by cases h⟩, HB0.out, HK0.out⟩
      · have f1 : decide ((40 : Int) < (m : Int)) = true := decide_eq_true (by omega)
        have f2 : decide ((m : Int) ≤ (500 : Int)) = false := decide_eq_false (by omega)
        have f3 : decide ((600 : Int) < (m : Int)) = false := decide_eq_false (by omega)
        have G' := Lib.hid g'
        clear g'
        go_wp2_with fail
        refine (CM.out W0 HB0.out).mono ?_
        rintro _ W1 ⟨rfl, b1⟩
        have HB1 := Lib.hid b1
        clear b1
        go_wp2_with fail
        go_meet
        exact ⟨⟨mb, rfl, fun h => by rw [← HP.out]; have h1 := G.out; have h2 := G'.out; exact ⟨⟨by omega, by omega⟩, h⟩⟩, HB0.out.trans (HB1.out.mono HB0.out.size), HK0.out.below HB1.out HK0.out.lt⟩
      · have f1 : decide ((40 : Int) < (m : Int)) = true := decide_eq_true (by omega)
        have f2 : decide ((m : Int) ≤ (500 : Int)) = false := decide_eq_false (by omega)
        have f3 : decide ((600 : Int) < (m : Int)) = true := decide_eq_true (by omega)
        have G' := Lib.hid g'
        clear g'
        go_wp2_with fail
        go_meet
        exact ⟨⟨true, rfl, fun h => by cases h⟩, HB0.out, HK0.out⟩
    · have e1 : decide ((20 : Int) < (n : Int)) = true := decide_eq_true (by omega)
      have e2 : decide ((n : Int) ≤ (500 : Int)) = false := decide_eq_false (by omega)
      have e3 : decide ((600 : Int) < (n : Int)) = true := decide_eq_true (by omega)
      have G := Lib.hid g
      clear g
      clear hm4
      go_wp2_with fail
      go_meet
      exact ⟨⟨true, rfl, fun h => by cases h⟩, HB0.out, HK0.out⟩
  case rest =>
  obtain ⟨⟨z, rfl, hz⟩, hbw⟩ := hcut
  have HBW := Lib.hid hbw.out.1
  have HZ := Lib.hid hz
  have y0 := cellOf hbw.out.2 0 (x := .int .i64 t.price) rfl
  have y1 := cellOf hbw.out.2 1 (x := .int .i64 t.back) rfl
  have y2 := cellOf hbw.out.2 2 (x := .int .i64 t.late) rfl
  have y3 := cellOf hbw.out.2 3 (x := .int .i64 t.carry) rfl
  have y4 := cellOf hbw.out.2 4 (x := .int .i64 t.credit) rfl
  clear hz hbw
  cases z
  case true =>
    go_wp2_with fail
    refine (AW.out wc HBW.out).mono ?_
    rintro _ w9 ⟨rfl, b9⟩
    have HB9 := Lib.hid b9
    clear b9
    go_wp2
    go_ret
    exact ⟨rfl, HB9.out⟩
  case false =>
    have CR2 := Lib.hid (CR.out (HZ.out rfl) wc HBW.out)
    clear CR CM HZ
    by_cases ga : 0 ≤ a
    · have k1 : decide (0 ≤ a) = true := decide_eq_true ga
      by_cases gb : b ≤ 20000
      · have k2 : decide (b ≤ 20000) = true := decide_eq_true gb
        clear ga gb
        go_wp2_with fail
        all_goals
          first
          | (refine (AW.out wc HBW.out).mono ?_
             rintro _ w9 ⟨rfl, b9⟩
             have HB9 := Lib.hid b9
             clear b9
             go_wp2
             go_ret
             exact ⟨rfl, HB9.out⟩)
          | (refine CR2.out.mono ?_
             rintro _ w8 ⟨rfl, b8⟩
             have HB8 := Lib.hid b8
             clear b8
             go_wp2_with fail
             refine (AW.out w8 HB8.out).mono ?_
             rintro _ w9 ⟨rfl, b9⟩
             have HB9 := Lib.hid b9
             clear b9
             go_wp2
             go_ret
             exact ⟨rfl, HB9.out⟩)
      · have k2 : decide (b ≤ 20000) = false := decide_eq_false gb
        go_wp2_with fail
        refine CR2.out.mono ?_
        rintro _ w8 ⟨rfl, b8⟩
        have HB8 := Lib.hid b8
        clear b8
        go_wp2_with fail
        refine (AW.out w8 HB8.out).mono ?_
        rintro _ w9 ⟨rfl, b9⟩
        have HB9 := Lib.hid b9
        clear b9
        go_wp2
        go_ret
        exact ⟨rfl, HB9.out⟩
    · have k1 : decide (0 ≤ a) = false := decide_eq_false ga
      go_wp2_with fail
      refine CR2.out.mono ?_
      rintro _ w8 ⟨rfl, b8⟩
      have HB8 := Lib.hid b8
      clear b8
      go_wp2_with fail
      refine (AW.out w8 HB8.out).mono ?_
      rintro _ w9 ⟨rfl, b9⟩
      have HB9 := Lib.hid b9
      clear b9
      go_wp2
      go_ret
      exact ⟨rfl, HB9.out⟩
theorem agentReaders_arg (t : TarD) (l : List SubD) (c : List CmpD) (d a b : Int) (v v1 vc : Value) (w : World) (h1 : v1 = .agg #[.int .i64 t.price, .int .i64 t.back, .int .i64 t.late, .int .i64 t.carry, .int .i64 t.credit]) (h : RSubs w.heap.size w v l) (hc : RCmps w.heap.size w vc c) :
    Calls Try.prog 6 #[v, v1, vc, .int .i64 d, .int .i64 a, .int .i64 b] w fun e w' => e = .returned (.bool true) ∧ Below w.heap.size w w' := by
  subst h1
  exact agentReaders_any t l c d a b v vc w h hc
end Go.Proofs.Ytlmpbmlbllndcaa
