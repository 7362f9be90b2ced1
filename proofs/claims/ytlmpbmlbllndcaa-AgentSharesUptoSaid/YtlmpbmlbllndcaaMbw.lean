/-
  Arguments: orders, with the bulk's bound.
  AgentShares.
-/
import Derived.Test.YtlmpbmlbllndcaaMbv
import Derived.Test.YtlmpbmlbllndcaaMbb
import Derived.Test.YtlmpbmlbllndcaaMbt
import Derived.Test.YtlmpbmlbllndcaaMbh
namespace Go.Proofs.Ytlmpbmlbllndcaa
open Go.RowKit Go.ChangeShapes Go.WideShapes Go.ChangeAt Go.Deep Go.Joins
section
variable {H : Type} {enc : TypeId × Value → H} {w : World} {base b0 : Nat} {rc : Reach} {spare : Nat → Bool} {held : Bool}
theorem ordsu_of {n : Nat} {v : Value} {y : DataW H × List MemPlace} (h : DataW.trod enc Try.prog w base spare held n 30 [v] = some y) : ∃ l : List OrdD, ROrds w.heap.size w v l ∧ l.length ≤ Rows.uptoBulk y.1 := by
  rcases open_slice Try.underlying30 h with ⟨hv, rfl⟩ | ⟨a, len, cap, m, n', D, Pl, hv, hb, hl, hm, hmm, rfl, hx⟩
  · obtain rfl : v = .slice none 0 0 := by simpa using hv
    exact ⟨[], Rd.nil, Nat.zero_le _⟩
  · obtain rfl : v = .slice (some a) len cap := by simpa using hv
    have hle : len ≤ m := by rw [hmm]; split <;> omega
    have hC : Try.prog.cellsOf 33 = 3 := by kernel_rfl
    obtain ⟨l, hl2, hp⟩ := pick_list (P := fun i (z : OrdD) => ∀ r u, z.cells[r]? = some u → w.cell? (a.add (i * 3 + r)) = some u) len fun i hi => by
      obtain ⟨cs, h1, h2⟩ := hx i (by omega)
      obtain ⟨ys, n2, -, hf⟩ := elem_fields' Try.underlying33 (by kernel_rfl) hC h1 h2
      obtain ⟨v0, y0, c0, -, t0⟩ := hf 0 _ rfl
      obtain ⟨v1, y1, c1, -, t1⟩ := hf 1 _ rfl
      obtain ⟨v2, y2, c2, -, t2⟩ := hf 2 _ rfl
      obtain ⟨z0, rfl, -⟩ := field_int t0
      obtain ⟨z1, rfl, -⟩ := field_int t1
      obtain ⟨z2, rfl, -⟩ := field_int t2
      rw [hC, addAdd'] at c0 c1 c2
      refine ⟨⟨z0, z1, z2⟩, fun r u hu => ?_⟩
      match r, hu with
      | 0, hu => simp only [OrdD.cells, List.getElem?_cons_zero, Option.some.injEq] at hu; rw [← hu]; exact c0
      | 1, hu => simp only [OrdD.cells, List.getElem?_cons_succ, List.getElem?_cons_zero, Option.some.injEq] at hu; rw [← hu]; exact c1
      | 2, hu => simp only [OrdD.cells, List.getElem?_cons_succ, List.getElem?_cons_zero, Option.some.injEq] at hu; rw [← hu]; exact c2
      | r + 3, hu => simp [OrdD.cells] at hu
    refine ⟨l, rd_rows OrdD.cells 3 (fun _ => rfl) (by omega) hl2 (by omega) fun i x r u hx hu => hp i x hx r u hu, ?_⟩
    have h9 := (bulk_slice ((List.range len).map D) ((List.range (m - len)).map fun j => D (len + j))).1
    rw [List.length_map, List.length_range] at h9
    rw [hl2]
    exact h9
set_option maxRecDepth 100000 in
theorem ords_argu {v : Value} {d : DataW H} {p : List MemPlace} (hv : Value.okWide Try.prog w rc b0 30 v) (h : DataW.Trod enc Try.prog w base spare held 30 v d p) (hk : Rows.uptoBulk d ≤ 1048576) : ∃ l : List OrdD, ROrds w.heap.size w v l ∧ l.length ≤ 2000000 := by
  obtain ⟨a, len, cap, rfl⟩ := okWide_slice Try.underlying30 hv
  obtain ⟨fuel, hf⟩ := h
  obtain ⟨l, hl, hb⟩ := ordsu_of (y := (d, p)) hf
  exact ⟨l, hl, by have : l.length ≤ Rows.uptoBulk d := hb; omega⟩
end
end Go.Proofs.Ytlmpbmlbllndcaa

namespace Go.Proofs.Ytlmpbmlbllndcaa
open Go.RowKit
attribute [local go_sem] Oper.semAt_some

set_option maxRecDepth 1000000 in
set_option maxHeartbeats 4000000 in
theorem agentShares_any (l : List OrdD) (hl : l.length ≤ 2000000) (s : List Int) (c0 : Int) (hc1 : c0 ≤ 9223372036854775807) (v vs : Value) (w : World) (hv : ROrds w.heap.size w v l) (hvs : RInts w.heap.size w vs s) :
    Calls Try.prog 5 #[v, .int .i64 c0, vs] w fun e w' => e = .returned (.bool true) ∧ Below w.heap.size w w' := by
  have HM := Lib.hid hv
  have HR := Lib.hid hvs
  obtain ⟨A, c, rfl, hlm, HD⟩ := ords_later hv
  obtain ⟨A2, c2, rfl, hsm, -⟩ := ints_later hvs
  obtain ⟨n, hn⟩ : ∃ n, l.length = n := ⟨_, rfl⟩
  obtain ⟨n2, hn2⟩ : ∃ n, s.length = n := ⟨_, rfl⟩
  have HN := Lib.hid hn
  have HN2 := Lib.hid hn2
  rw [hn] at HM hlm hl ⊢
  rw [hn2] at HR hsm ⊢
  have C2 : Hid (n2 ≤ 100 → ∀ Y, Below w.heap.size w Y → Calls Try.prog 17 #[.slice A n c, .int .i64 c0, .slice A2 n2 c2] Y fun e w' => e = .returned (.bool true) ∧ Below Y.heap.size Y w') := fun h5 Y hY =>
    shared_any l s c0 (by rw [HN.out]; exact hl) (by rw [HN2.out]; omega) hc1 _ _ Y ((Rd.below HM.out hY).more hY.size) ((Rd.below HR.out hY).more hY.size)
  clear hv hvs hn hn2 hc1
  go_enter Try.func5, Try.ntmps5
  go_wp2_with fail
  go_loopw [7, 12] (fun s i wr => ∃ (k : Nat) (y : Int), k ≤ n ∧ i = .int .i64 k ∧ s = .int .i64 y ∧ 0 ≤ y ∧ y ≤ 10000 * (k : Int) ∧ Hid (Below w.heap.size w wr)) (fun _ i _ => n - (intOf i).toNat)
  case atStart => exact ⟨0, 0, Nat.zero_le _, rfl, rfl, by omega, by omega, Below.refl _ _⟩
  case round =>
  obtain ⟨k, y, hk, rfl, rfl, y0, y1, hB⟩ := hrel
  obtain ⟨X, rfl⟩ : ∃ X : World, X = wr := ⟨_, rfl⟩
  by_cases hlt : k < n
  · obtain ⟨d, hd⟩ : ∃ x, l[k]? = some x := ⟨_, List.getElem?_eq_getElem (by rw [HN.out]; exact hlt)⟩
    obtain ⟨g, o, rfl, -, HX⟩ := HD.out k d hd
    obtain ⟨c0', c1, c2'⟩ := HX.out X hB.out
    obtain ⟨za, hza⟩ : ∃ s, d.ag = s := ⟨_, rfl⟩
    obtain ⟨zc, hzc⟩ : ∃ s, d.cop = s := ⟨_, rfl⟩
    obtain ⟨zl, hzl⟩ : ∃ s, d.least = s := ⟨_, rfl⟩
    rw [hza] at c0'
    rw [hzc] at c1
    rw [hzl] at c2'
    have F1 : ∃ X1, X.alloc (.cells #[.int .i64 za, .int .i64 zc, .int .i64 zl] 33) = X1 ∧ Hid (Below X.heap.size X X1) ∧ Hid (Blk X1 X.heap.size 33 #[.int .i64 za, .int .i64 zc, .int .i64 zl]) := ⟨_, rfl, below_alloc _ _, Blk.new _ _ _⟩
    obtain ⟨X1, e1, HX1, HK1⟩ := F1
    have E1 := Lib.hid e1
    have HB1 : Hid (Below w.heap.size w X1) := hB.out.trans (HX1.out.mono hB.out.size)
    have z1 := cellOf HK1.out 1 (x := .int .i64 zc) rfl
    have k0 : (0 : Int) ≤ (k : Int) := by omega
    have k1 : (k : Int) < (n : Int) := by omega
    obtain ⟨M, hM⟩ : ∃ z, min (max zc 0) 10000 = z := ⟨_, rfl⟩
    have hM0 : 0 ≤ M ∧ M ≤ 10000 := by omega
    obtain ⟨m0, m1⟩ := hM0
    have u1 : -100000000000 ≤ y + M := by omega
    have u2 : y + M ≤ 100000000000 := by omega
    clear e1 hd hza hzc hzl
    go_upto_region 5 with fail
    rw [E1.out]
    clear E1 c0' c1 c2'
    go_wp2_with fail
    go_roundw
    case rel => exact ⟨k + 1, y + M, by omega, by go_num, rfl, by omega, by push_cast; omega, HB1⟩
    case measure => simp [intOf]; omega
  obtain rfl : k = n := by omega
  have AW : Hid (∀ Y, Below w.heap.size w Y → Calls Try.prog 15 #[] Y fun e w' => e = .returned (.bool true) ∧ Below w.heap.size w w') := fun Y hY => (awake_any Y).mono fun e w' h => ⟨h.1, hY.trans (h.2.mono hY.size)⟩
  by_cases h6 : (60 : Int) < (k : Int)
  · have g6 : decide ((60 : Int) < (k : Int)) = true := by simpa using h6
    go_wp2_with fail
    refine (AW.out X hB.out).mono ?_
    rintro _ w9 ⟨rfl, b9⟩
    have HB9 := Lib.hid b9
    clear b9
    go_wp2
    go_ret
    exact ⟨rfl, HB9.out⟩
  have g6 : decide ((60 : Int) < (k : Int)) = false := by simpa using h6
  by_cases h3 : 30000 < y
  · have g3 : decide (30000 < y) = true := by simpa using h3
    go_wp2_with fail
    refine (AW.out X hB.out).mono ?_
    rintro _ w9 ⟨rfl, b9⟩
    have HB9 := Lib.hid b9
    clear b9
    go_wp2
    go_ret
    exact ⟨rfl, HB9.out⟩
  have g3 : decide (30000 < y) = false := by simpa using h3
  by_cases h1 : (100 : Int) < (n2 : Int)
  · have g1 : decide ((100 : Int) < (n2 : Int)) = true := by simpa using h1
    go_wp2_with fail
    refine (AW.out X hB.out).mono ?_
    rintro _ w9 ⟨rfl, b9⟩
    have HB9 := Lib.hid b9
    clear b9
    go_wp2
    go_ret
    exact ⟨rfl, HB9.out⟩
  have g1 : decide ((100 : Int) < (n2 : Int)) = false := by simpa using h1
  have C3 := Lib.hid (C2.out (by omega) X hB.out)
  go_wp2_with fail
  refine C3.out.mono ?_
  rintro _ w8 ⟨rfl, b8⟩
  have HB8 : Hid (Below w.heap.size w w8) := hB.out.trans (b8.mono hB.out.size)
  clear b8
  go_wp2_with fail
  refine (AW.out w8 HB8.out).mono ?_
  rintro _ w9 ⟨rfl, b9⟩
  have HB9 := Lib.hid b9
  clear b9
  go_wp2
  go_ret
  exact ⟨rfl, HB9.out⟩
end Go.Proofs.Ytlmpbmlbllndcaa
