/-
  RegisterDesks: for every pattern, all loops, every window, limit and all readings the call returns true, and each argument reads as it did.
  No bound is asked of the arguments.
-/
import Derived.Test.YtffodgpafiifcaaQf
import Derived.Test.YtffodgpafiifcaaGn
namespace Go.Proofs.Ytffodgpafiifcaa
open Go.ChangeShapes Go.WideShapes Go.ChangeAt Go.RowKit Go.Joins Go.Deep

section
variable {H : Type} {enc : TypeId × Value → H} {w W' : World} {base b0 : Nat} {rc : Reach} {spare : Nat → Bool} {held : Bool} {v : Value} {d : DataW H} {p : List MemPlace}
theorem elem_fields {e : TypeId} {fs : Array Field} {n : Nat} {b : Addr} {cs : List Value} {x : DataW H × List MemPlace} (hs : Try.prog.underlying e = some (.struct fs)) (hone : oneCellFields Try.prog fs = true) (hC : Try.prog.cellsOf e = fs.size)
    (hc : w.cells? base b (Try.prog.cellsOf e) = some cs) (ht : DataW.trod enc Try.prog w base spare held n e cs = some x) :
    ∃ (ys : List (DataW H × List MemPlace)) (n' : Nat), x.1 = .agg (ys.map (·.1)) ∧ ∀ (j : Nat) (f : Field), fs[j]? = some f → ∃ v y, w.cell? (b.add j) = some v ∧ ys[j]? = some y ∧ DataW.trod enc Try.prog w base spare held n' f.type [v] = some y := by
  obtain ⟨ys, n', -, rfl, hl, hlen, hf⟩ := DataW.trod_struct hs ht
  obtain ⟨-, hcl, hat⟩ := World.cells?_some hc
  refine ⟨ys, n', rfl, fun j f hj => ?_⟩
  have hjl : j < fs.size := (Array.getElem?_eq_some_iff.1 hj).1
  obtain ⟨ho, hk⟩ := hone_of hone j f hj
  have h1 := hf j f hj
  have hjc : j < cs.length := by omega
  rw [ho, hk, List.drop_eq_getElem_cons hjc, List.take_succ_cons, List.take_zero] at h1
  have hy : ys[j]? = some (ys[j]'(by omega)) := List.getElem?_eq_getElem (by omega)
  exact ⟨_, _, by rw [hat j (by omega)]; exact List.getElem?_eq_getElem hjc, hy, h1.trans hy⟩
theorem intss_of {n : Nat} {v : Value} {y : DataW H × List MemPlace} (h : DataW.trod enc Try.prog w base spare held n 60 [v] = some y) : ∃ l : List (List Int), RIntss w v l := by
  rcases open_slice1 Try.underlying60 (by kernel_rfl) h with ⟨hv, rfl⟩ | ⟨a, len, cap, m, n', V, D, Pl, hv, hb, hl, hm, hmm, rfl, hx⟩
  · obtain rfl : v = .slice none 0 0 := by simpa using hv
    exact ⟨[], [], Rd.nil, fun i u x h => by simp at h⟩
  · obtain rfl : v = .slice (some a) len cap := by simpa using hv
    have hle : len ≤ m := by rw [hmm]; split <;> omega
    obtain ⟨l, hl2, hp⟩ := pick_list (P := fun i (z : Value × List Int) => w.cell? (a.add i) = some z.1 ∧ RInts w.heap.size w z.1 z.2) len fun i hi => by
      obtain ⟨h1, h2⟩ := hx i (by omega)
      obtain ⟨s, hs, -⟩ := ints_of h2
      exact ⟨(V i, s), h1, hs⟩
    refine ⟨l.map (·.2), l.map (·.1), ?_, fun i u x hu hx => ?_⟩
    · rw [List.length_map, hl2]
      refine rd_of (by simp [hl2]) (by omega) (by omega) fun j u hu => ?_
      rw [List.getElem?_map] at hu
      obtain ⟨z, hz, rfl⟩ := Option.map_eq_some_iff.1 hu
      exact (hp j z hz).1
    · rw [List.getElem?_map] at hu hx
      obtain ⟨z, hz, rfl⟩ := Option.map_eq_some_iff.1 hu
      rw [hz] at hx
      simp only [Option.map_some, Option.some.injEq] at hx
      subst hx
      exact (hp i z hz).2
theorem loops_of {n : Nat} {v : Value} {y : DataW H × List MemPlace} (h : DataW.trod enc Try.prog w base spare held n 59 [v] = some y) : ∃ l : List LoopD, RLoops w.heap.size w v l := by
  rcases open_slice Try.underlying59 h with ⟨hv, rfl⟩ | ⟨a, len, cap, m, n', D, Pl, hv, hb, hl, hm, hmm, rfl, hx⟩
  · obtain rfl : v = .slice none 0 0 := by simpa using hv
    exact ⟨[], Rd.nil⟩
  · obtain rfl : v = .slice (some a) len cap := by simpa using hv
    have hle : len ≤ m := by rw [hmm]; split <;> omega
    have hC : Try.prog.cellsOf 23 = 4 := by kernel_rfl
    obtain ⟨l, hl2, hp⟩ := pick_list (P := fun i (z : LoopD) => w.cell? (a.add (i * 4)) = some (.int .i64 z.dead) ∧ w.cell? (a.add (i * 4 + 1)) = some (.int .i64 z.noise) ∧ w.cell? (a.add (i * 4 + 2)) = some (.int .i64 z.blur) ∧ w.cell? (a.add (i * 4 + 3)) = some (.int .i64 z.step)) len fun i hi => by
      obtain ⟨cs, h1, h2⟩ := hx i (by omega)
      obtain ⟨ys, n2, -, hf⟩ := elem_fields Try.underlying23 (by kernel_rfl) hC h1 h2
      obtain ⟨v0, y0, c0, -, t0⟩ := hf 0 _ rfl
      obtain ⟨v1, y1, c1, -, t1⟩ := hf 1 _ rfl
      obtain ⟨v2, y2, c2, -, t2⟩ := hf 2 _ rfl
      obtain ⟨v3, y3, c3, -, t3⟩ := hf 3 _ rfl
      obtain ⟨z0, rfl, -⟩ := field_int t0
      obtain ⟨z1, rfl, -⟩ := field_int t1
      obtain ⟨z2, rfl, -⟩ := field_int t2
      obtain ⟨z3, rfl, -⟩ := field_int t3
      rw [hC, addAdd] at c0 c1 c2 c3
      exact ⟨⟨z0, z1, z2, z3⟩, c0, c1, c2, c3⟩
    refine ⟨l, rd_rows (fun l : LoopD => [.int .i64 l.dead, .int .i64 l.noise, .int .i64 l.blur, .int .i64 l.step]) 4 (fun _ => rfl) (by omega) hl2 (by omega) fun i x r u hx hu => ?_⟩
    obtain ⟨p0, p1, p2, p3⟩ := hp i x hx
    match r, hu with
    | 0, hu => simp only [List.getElem?_cons_zero, Option.some.injEq] at hu; rw [← hu]; exact p0
    | 1, hu => simp only [List.getElem?_cons_succ, List.getElem?_cons_zero, Option.some.injEq] at hu; rw [← hu]; exact p1
    | 2, hu => simp only [List.getElem?_cons_succ, List.getElem?_cons_zero, Option.some.injEq] at hu; rw [← hu]; exact p2
    | 3, hu => simp only [List.getElem?_cons_succ, List.getElem?_cons_zero, Option.some.injEq] at hu; rw [← hu]; exact p3
    | r + 4, hu => simp at hu
set_option maxRecDepth 100000 in
theorem intss_arg (hv : Value.okWide Try.prog W' rc b0 60 v) (h : DataW.Trod enc Try.prog w base spare held 60 v d p) : ∃ l : List (List Int), RIntss w v l := by
  obtain ⟨a, len, cap, rfl⟩ := okWide_slice Try.underlying60 hv
  obtain ⟨fuel, hf⟩ := h
  exact intss_of (y := (d, p)) hf
set_option maxRecDepth 100000 in
theorem loops_arg (hv : Value.okWide Try.prog W' rc b0 59 v) (h : DataW.Trod enc Try.prog w base spare held 59 v d p) : ∃ l : List LoopD, RLoops w.heap.size w v l := by
  obtain ⟨a, len, cap, rfl⟩ := okWide_slice Try.underlying59 hv
  obtain ⟨fuel, hf⟩ := h
  exact loops_of (y := (d, p)) hf
end

set_option maxRecDepth 100000 in
theorem desks_contract (H : Type) (enc : TypeId × Value → H) (W : World) (base : Nat) (args : Array Value) (ds gs : List (DataW H)) (before : List MemPlace)
    (hval : ∀ (j : Nat) t v, Try.f5.params[j]? = some t → args[j]? = some v → Value.okWide Try.prog W .any base t v)
    (hW : DataW.Whole enc Try.prog Try.f5.params.toList Rows.registerDesksSpec.vars false W args.toList ds gs before) :
    Calls Try.prog 5 args W fun e W' => ∃ v, e = .returned v ∧ Rows.registerDesksSpec.post enc Try.prog Try.f5 false true false false W args v W' := by
  have hW' := hW
  obtain ⟨p, q, hA0, hV, rfl, hfz, hnd⟩ := hW
  have hA : DataW.TrodAll enc Try.prog W 0 (fun _ => true) true Try.f5.params.toList args.toList ds p := hA0
  rw [Try.params5] at hA hval
  obtain ⟨v0, vs0, d0, ds0, p0, q0, hargs0, rfl, rfl, h0, r0⟩ := trodAll_cons hA
  obtain ⟨v1, vs1, d1, ds1, p1, q1, hargs1, rfl, rfl, h1, r1⟩ := trodAll_cons r0
  obtain ⟨v2, vs2, d2, ds2, p2, q2, hargs2, rfl, rfl, h2, r2⟩ := trodAll_cons r1
  obtain ⟨v3, vs3, d3, ds3, p3, q3, hargs3, rfl, rfl, h3, r3⟩ := trodAll_cons r2
  obtain ⟨v4, vs4, d4, ds4, p4, q4, hargs4, rfl, rfl, h4, r4⟩ := trodAll_cons r3
  obtain ⟨rfl, rfl, rfl⟩ := trodAll_nil r4
  subst hargs4
  obtain rfl : args = #[v0, v1, v2, v3, v4] := by cases args; simp_all
  obtain ⟨rfl, rfl⟩ := trodVars_none hV
  obtain ⟨a2, rfl, rfl, rfl, w2⟩ := open_int Try.underlying3 (hval 2 3 v2 rfl rfl) h2
  obtain ⟨a3, rfl, rfl, rfl, w3⟩ := open_int Try.underlying3 (hval 3 3 v3 rfl rfl) h3
  clear hA0
  simp only [List.append_nil] at hW'
  obtain ⟨l0, hl0, -⟩ := ints_arg (hval 0 24 v0 rfl rfl) h0
  obtain ⟨l1, hl1⟩ := loops_arg (hval 1 59 v1 rfl rfl) h1
  obtain ⟨l4, hl4⟩ := intss_arg (hval 4 60 v4 rfl rfl) h4
  have hlt0 : ∀ x ∈ p0, x.block < W.heap.size := fun x hx => by
    simpa using hW'.lt x (by simp [hx])
  have hargs0 : ∀ (W' : World), Below W.heap.size W W' → DataW.Trod enc Try.prog W' 0 (fun b => decide (b < W.heap.size)) true 24 v0 d0 p0 :=
    fun W' hn => Below.trod laidOutN (by kernel_rfl) (of_decide_eq_true (by kernel_rfl)) h0 hn fun x hx => hlt0 x hx
  have hlt1 : ∀ x ∈ p1, x.block < W.heap.size := fun x hx => by
    simpa using hW'.lt x (by simp [hx])
  have hargs1 : ∀ (W' : World), Below W.heap.size W W' → DataW.Trod enc Try.prog W' 0 (fun b => decide (b < W.heap.size)) true 59 v1 d1 p1 :=
    fun W' hn => Below.trod laidOutN (by kernel_rfl) (of_decide_eq_true (by kernel_rfl)) h1 hn fun x hx => hlt1 x hx
  have hlt4 : ∀ x ∈ p4, x.block < W.heap.size := fun x hx => by
    simpa using hW'.lt x (by simp [hx])
  have hargs4 : ∀ (W' : World), Below W.heap.size W W' → DataW.Trod enc Try.prog W' 0 (fun b => decide (b < W.heap.size)) true 60 v4 d4 p4 :=
    fun W' hn => Below.trod laidOutN (by kernel_rfl) (of_decide_eq_true (by kernel_rfl)) h4 hn fun x hx => hlt4 x hx
  refine (Desks_any v0 v1 v4 l0 l1 a2 a3 l4 W hl0 hl1 hl4).mono fun e W' ⟨he, hnx⟩ => ?_
  subst he
  exact ⟨_, rfl, _, _, _, [], p0 ++ (p1 ++ ([] ++ ([] ++ (p4 ++ [])))), [], hW', trodAll_cons_mk (shut_bool Try.underlying4 _) trodAll_mk0, trodAll_cons_mk (hargs0 _ hnx) (trodAll_cons_mk (hargs1 _ hnx) (trodAll_cons_mk (shut_int Try.underlying3 w2) (trodAll_cons_mk (shut_int Try.underlying3 w3) (trodAll_cons_mk (hargs4 _ hnx) trodAll_mk0)))), rfl, hnx.frame _, fun h => by cases h⟩

set_option maxRecDepth 100000 in
theorem desks_lifted (os : Os) (started : os.Started) (H : Type) (enc : TypeId × Value → H) :
    ReturnsInHanded {} Try.checked os 5 .any (Rows.registerDesksSpec.pre6 enc Try.prog Try.f5 Rows.registerDesksRow.domain false) (Rows.registerDesksSpec.post enc Try.prog Try.f5 false true false false) := by
  refine returnsInHanded_of_change (C := Try.checked) ownN started (by kernel_rfl) Try.func5
    (ChangeSpec.witness6 (enc := enc) (C := Try.checked) false ⟨#[], #[.slice none 0 0, .slice none 0 0, .int .i64 0, .int .i64 0, .slice none 0 0], []⟩ 8 (by kernel_rfl) (by kernel_rfl) (by kernel_rfl) (by kernel_rfl)) ?_
  intro W base args ds gs before hval hW _ _
  exact desks_contract H enc W base args ds gs before hval hW

theorem desks_proved : Rows.RegisterDesksSaid :=
  OpenClaim.holds_of_wide 5 Try.f5 rfl rfl rfl rfl rfl rfl rfl ⟨rfl, rfl, rfl, rfl, rfl⟩ rfl rfl rfl rfl rfl (by kernel_rfl) Try.func5 (by kernel_rfl)
    (of_decide_eq_true (by kernel_rfl)) (by unfold Func.isWrapper; first | (rw [if_pos (by decide +kernel)]; kernel_rfl) | (rw [if_neg (by decide +kernel)]; exact ⟨rfl, rfl⟩))
    (fun os started H enc _ => desks_lifted os started H enc)
#print axioms desks_proved
end Go.Proofs.Ytffodgpafiifcaa
