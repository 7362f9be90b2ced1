/-
  RegisterKeeps: for all loops that are made of triples, every blur and all numbers the call returns true, and each argument reads as it did.
  No bound is asked of the arguments.
-/
import Derived.Test.YtffodgpafiifcaaTc
import Derived.Test.YtffodgpafiifcaaGn
namespace Go.Proofs.Ytffodgpafiifcaa
open Go.ChangeShapes Go.WideShapes Go.ChangeAt Go.RowKit Go.Joins Go.Deep

section
variable {H : Type} {enc : TypeId × Value → H} {w W' : World} {base b0 : Nat} {rc : Reach} {spare : Nat → Bool} {held : Bool} {v : Value} {d : DataW H} {p : List MemPlace}
theorem elem_three {n : Nat} {b : Addr} {cs : List Value} {x : DataW H × List MemPlace} (hC : Try.prog.cellsOf 3 = 1) (hC3 : Try.prog.cellsOf 101 = 3)
    (hc : w.cells? base b 3 = some cs) (ht : DataW.trod enc Try.prog w base spare held n 101 cs = some x) : ∀ j : Nat, j < 3 → ∃ z : Int, w.cell? (b.add j) = some (.int .i64 z) := by
  obtain ⟨xs, m, -, -, hl, hlen, hf⟩ := DataW.trod_array Try.underlying101 ht
  obtain ⟨-, hcl, hat⟩ := World.cells?_some hc
  intro j hj
  have h1 := hf j hj
  rw [hC, Nat.mul_one] at h1
  have hjc : j < cs.length := by omega
  rw [List.drop_eq_getElem_cons hjc, List.take_succ_cons, List.take_zero] at h1
  have hy : xs[j]? = some (xs[j]'(by omega)) := List.getElem?_eq_getElem (by omega)
  obtain ⟨z, hz, -⟩ := field_int (h1.trans hy)
  exact ⟨z, by rw [hat j (by omega), List.getElem?_eq_getElem hjc, hz]⟩
theorem trips_of {n : Nat} {v : Value} {y : DataW H × List MemPlace} (h : DataW.trod enc Try.prog w base spare held n 100 [v] = some y) : ∃ l : List (Int × Int × Int), RTrip w.heap.size w v l := by
  rcases open_slice Try.underlying100 h with ⟨hv, rfl⟩ | ⟨a, len, cap, m, n', D, Pl, hv, hb, hl, hm, hmm, rfl, hx⟩
  · obtain rfl : v = .slice none 0 0 := by simpa using hv
    exact ⟨[], Rd.nil⟩
  · obtain rfl : v = .slice (some a) len cap := by simpa using hv
    have hle : len ≤ m := by rw [hmm]; split <;> omega
    have hC : Try.prog.cellsOf 3 = 1 := by kernel_rfl
    have hC3 : Try.prog.cellsOf 101 = 3 := by kernel_rfl
    obtain ⟨l, hl2, hp⟩ := pick_list (P := fun i (z : Int × Int × Int) => w.cell? (a.add (i * 3)) = some (.int .i64 z.1) ∧ w.cell? (a.add (i * 3 + 1)) = some (.int .i64 z.2.1) ∧ w.cell? (a.add (i * 3 + 2)) = some (.int .i64 z.2.2)) len fun i hi => by
      obtain ⟨cs, h1, h2⟩ := hx i (by omega)
      rw [hC3] at h1
      have hf := elem_three hC hC3 h1 h2
      obtain ⟨z0, c0⟩ := hf 0 (by omega)
      obtain ⟨z1, c1⟩ := hf 1 (by omega)
      obtain ⟨z2, c2⟩ := hf 2 (by omega)
      rw [addAdd] at c0 c1 c2
      exact ⟨⟨z0, z1, z2⟩, c0, c1, c2⟩
    refine ⟨l, rd_rows tripC 3 (fun _ => rfl) (by omega) hl2 (by omega) fun i x r u hx hu => ?_⟩
    obtain ⟨p0, p1, p2⟩ := hp i x hx
    match r, hu with
    | 0, hu => simp only [tripC, List.getElem?_cons_zero, Option.some.injEq] at hu; rw [← hu]; exact p0
    | 1, hu => simp only [tripC, List.getElem?_cons_succ, List.getElem?_cons_zero, Option.some.injEq] at hu; rw [← hu]; exact p1
    | 2, hu => simp only [tripC, List.getElem?_cons_succ, List.getElem?_cons_zero, Option.some.injEq] at hu; rw [← hu]; exact p2
    | r + 3, hu => simp [tripC] at hu
set_option maxRecDepth 100000 in
theorem trips_arg (hv : Value.okWide Try.prog W' rc b0 100 v) (h : DataW.Trod enc Try.prog w base spare held 100 v d p) : ∃ l : List (Int × Int × Int), RTrip w.heap.size w v l := by
  obtain ⟨a, len, cap, rfl⟩ := okWide_slice Try.underlying100 hv
  obtain ⟨fuel, hf⟩ := h
  exact trips_of (y := (d, p)) hf
end

set_option maxRecDepth 100000 in
theorem keeps_contract (H : Type) (enc : TypeId × Value → H) (W : World) (base : Nat) (args : Array Value) (ds gs : List (DataW H)) (before : List MemPlace)
    (hval : ∀ (j : Nat) t v, Try.f10.params[j]? = some t → args[j]? = some v → Value.okWide Try.prog W .any base t v)
    (hW : DataW.Whole enc Try.prog Try.f10.params.toList Rows.registerKeepsSpec.vars false W args.toList ds gs before) :
    Calls Try.prog 10 args W fun e W' => ∃ v, e = .returned v ∧ Rows.registerKeepsSpec.post enc Try.prog Try.f10 false true false false W args v W' := by
  have hW' := hW
  obtain ⟨p, q, hA0, hV, rfl, hfz, hnd⟩ := hW
  have hA : DataW.TrodAll enc Try.prog W 0 (fun _ => true) true Try.f10.params.toList args.toList ds p := hA0
  rw [Try.params10] at hA hval
  obtain ⟨v0, vs0, d0, ds0, p0, q0, hargs0, rfl, rfl, h0, r0⟩ := trodAll_cons hA
  obtain ⟨v1, vs1, d1, ds1, p1, q1, hargs1, rfl, rfl, h1, r1⟩ := trodAll_cons r0
  obtain ⟨v2, vs2, d2, ds2, p2, q2, hargs2, rfl, rfl, h2, r2⟩ := trodAll_cons r1
  obtain ⟨rfl, rfl, rfl⟩ := trodAll_nil r2
  subst hargs2
  obtain rfl : args = #[v0, v1, v2] := by cases args; simp_all
  obtain ⟨rfl, rfl⟩ := trodVars_none hV
  obtain ⟨a1, rfl, rfl, rfl, w1⟩ := open_int Try.underlying3 (hval 1 3 v1 rfl rfl) h1
  clear hA0
  simp only [List.append_nil] at hW'
  obtain ⟨l0, hl0⟩ := trips_arg (hval 0 100 v0 rfl rfl) h0
  obtain ⟨l2, hl2, -⟩ := ints_arg (hval 2 24 v2 rfl rfl) h2
  have hlt0 : ∀ x ∈ p0, x.block < W.heap.size := fun x hx => by
    simpa using hW'.lt x (by simp [hx])
  have hargs0 : ∀ (W' : World), Below W.heap.size W W' → DataW.Trod enc Try.prog W' 0 (fun b => decide (b < W.heap.size)) true 100 v0 d0 p0 :=
    fun W' hn => Below.trod laidOutN (by kernel_rfl) (of_decide_eq_true (by kernel_rfl)) h0 hn fun x hx => hlt0 x hx
  have hlt2 : ∀ x ∈ p2, x.block < W.heap.size := fun x hx => by
    simpa using hW'.lt x (by simp [hx])
  have hargs2 : ∀ (W' : World), Below W.heap.size W W' → DataW.Trod enc Try.prog W' 0 (fun b => decide (b < W.heap.size)) true 24 v2 d2 p2 :=
    fun W' hn => Below.trod laidOutN (by kernel_rfl) (of_decide_eq_true (by kernel_rfl)) h2 hn fun x hx => hlt2 x hx
  refine (Keeps_any v0 v2 l0 l2 a1 W hl0 hl2).mono fun e W' ⟨he, hnx⟩ => ?_
  subst he
  exact ⟨_, rfl, _, _, _, [], p0 ++ ([] ++ (p2 ++ [])), [], hW', trodAll_cons_mk (shut_bool Try.underlying4 _) trodAll_mk0, trodAll_cons_mk (hargs0 _ hnx) (trodAll_cons_mk (shut_int Try.underlying3 w1) (trodAll_cons_mk (hargs2 _ hnx) trodAll_mk0)), rfl, hnx.frame _, fun h => by cases h⟩

set_option maxRecDepth 100000 in
theorem keeps_lifted (os : Os) (started : os.Started) (H : Type) (enc : TypeId × Value → H) :
    ReturnsInHanded {} Try.checked os 10 .any (Rows.registerKeepsSpec.pre6 enc Try.prog Try.f10 Rows.registerKeepsRow.domain false) (Rows.registerKeepsSpec.post enc Try.prog Try.f10 false true false false) := by
  refine returnsInHanded_of_change (C := Try.checked) ownN started (by kernel_rfl) Try.func10
    (ChangeSpec.witness6 (enc := enc) (C := Try.checked) false ⟨#[], #[.slice none 0 0, .int .i64 0, .slice none 0 0], []⟩ 8 (by kernel_rfl) (by kernel_rfl) (by kernel_rfl) (by kernel_rfl)) ?_
  intro W base args ds gs before hval hW _ _
  exact keeps_contract H enc W base args ds gs before hval hW

theorem keeps_proved : Rows.RegisterKeepsSaid :=
  OpenClaim.holds_of_wide 10 Try.f10 rfl rfl rfl rfl rfl rfl rfl ⟨rfl, rfl, rfl, rfl, rfl⟩ rfl rfl rfl rfl rfl (by kernel_rfl) Try.func10 (by kernel_rfl)
    (of_decide_eq_true (by kernel_rfl)) (by unfold Func.isWrapper; first | (rw [if_pos (by decide +kernel)]; kernel_rfl) | (rw [if_neg (by decide +kernel)]; exact ⟨rfl, rfl⟩))
    (fun os started H enc _ => keeps_lifted os started H enc)
#print axioms keeps_proved
end Go.Proofs.Ytffodgpafiifcaa
