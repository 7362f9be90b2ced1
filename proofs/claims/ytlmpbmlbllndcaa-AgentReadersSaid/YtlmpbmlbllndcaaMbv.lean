/-
  Arguments read as data: lists of numbers, of bytes.
  Arguments: days, a day, a tariff.
-/
import Derived.Deep.Slices
import Derived.Deep.Fields
import Derived.Lib.SmallJoins
import Derived.ProofKit
import Derived.OpenShut
import Derived.JoinedCond
import Derived.DataShut
import Derived.Test.YtlmpbmlbllndcaaMaf
import Derived.Test.YtlmpbmlbllndcaaRows
import Derived.Test.YtlmpbmlbllndcaaMbd
namespace Go.Proofs.Ytlmpbmlbllndcaa
open Go.RowKit Go.ChangeShapes Go.WideShapes Go.ChangeAt Go.Deep Go.Joins

/-- Numbers of an int. -/
def InI (l : List Int) : Prop := ∀ x ∈ l, -9223372036854775808 ≤ x ∧ x ≤ 9223372036854775807
section
variable {H : Type} {enc : TypeId × Value → H} {w W' : World} {base b0 : Nat} {rc : Reach} {spare : Nat → Bool} {held : Bool} {v : Value} {d : DataW H} {p : List MemPlace}
theorem pick_list {α : Type} {P : Nat → α → Prop} : ∀ (n : Nat), (∀ i, i < n → ∃ x, P i x) → ∃ l : List α, l.length = n ∧ ∀ i x, l[i]? = some x → P i x
  | 0, _ => ⟨[], rfl, fun i x h => by simp at h⟩
  | n + 1, h => by
    obtain ⟨l, hl, hp⟩ := pick_list n fun i hi => h i (by omega)
    obtain ⟨x, hx⟩ := h n (by omega)
    refine ⟨l ++ [x], by simp [hl], fun i y hy => ?_⟩
    rcases snoc_get hy with ⟨-, hy⟩ | ⟨hi, rfl⟩
    · exact hp i y hy
    · rw [hi, hl]; exact hx
theorem addr_lit {a : Addr} {v : Value} (h : w.cell? a = some v) : ∃ g o, a = ⟨g, o, none⟩ ∧ g < w.heap.size ∧ ∀ i, a.add i = ⟨g, o + i, none⟩ := by
  obtain ⟨g, o, s⟩ := a
  have hlt := World.block_lt_of_cell? w _ h
  cases s with
  | none => exact ⟨g, o, rfl, hlt, fun i => by unfold Addr.add; split <;> simp_all⟩
  | some s =>
    exfalso
    unfold World.cell? at h
    split at h <;> simp_all
theorem rd_of {k n c : Nat} {xs : List Value} {a : Addr} (hl : xs.length = n * k) (hk : 0 < k) (hm : n ≤ maxLen) (hc : ∀ j u, xs[j]? = some u → w.cell? (a.add j) = some u) : Rd w.heap.size w k (.slice (some a) n c) n xs := by
  refine ⟨some a, c, rfl, hl, hm, fun h0 => ?_⟩
  have hp : 0 < xs.length := by rw [hl]; exact Nat.mul_pos h0 hk
  obtain ⟨g, o, rfl, hg, hadd⟩ := addr_lit (a := a) (hc 0 _ (List.getElem?_eq_getElem hp))
  exact ⟨g, o, rfl, hg, fun j u hu => by rw [← hadd]; exact hc j u hu⟩
theorem flat_inv {α : Type} (f : α → List Value) (k : Nat) (hk : ∀ x, (f x).length = k) (hk0 : 0 < k) {l : List α} {j : Nat} {u : Value} (h : (l.flatMap f)[j]? = some u) : ∃ i r x, j = i * k + r ∧ r < k ∧ l[i]? = some x ∧ (f x)[r]? = some u := by
  have hj := (List.getElem?_eq_some_iff.1 h).1
  rw [flat_get f k hk] at hj
  have hi : j / k < l.length := Nat.div_lt_of_lt_mul (by rw [Nat.mul_comm]; exact hj)
  have hr : j % k < k := Nat.mod_lt _ hk0
  have he : j = j / k * k + j % k := by rw [Nat.mul_comm]; exact (Nat.div_add_mod j k).symm
  have hx : l[j / k]? = some l[j / k] := List.getElem?_eq_getElem hi
  refine ⟨j / k, j % k, _, he, hr, hx, ?_⟩
  rw [← flat_at f k hk l (j / k) (j % k) _ hx hr, ← he]
  exact h
/-- A slice of structs that were read one by one. -/
theorem rd_rows {α : Type} (f : α → List Value) (k : Nat) (hk : ∀ x, (f x).length = k) (hk0 : 0 < k) {l : List α} {n c : Nat} {a : Addr} (hl : l.length = n) (hm : n ≤ maxLen) (hc : ∀ i x r u, l[i]? = some x → (f x)[r]? = some u → w.cell? (a.add (i * k + r)) = some u) :
    Rd w.heap.size w k (.slice (some a) n c) l.length (l.flatMap f) := by
  rw [hl]
  refine rd_of (by rw [flat_get f k hk, hl]) hk0 hm fun j u hu => ?_
  obtain ⟨i, r, x, rfl, hr, hx, hf⟩ := flat_inv f k hk hk0 hu
  exact hc i x r u hx hf
theorem wf_i64 {z : Int} (h : (Lit.int .i64 z).wf = true) : -9223372036854775808 ≤ z ∧ z ≤ 9223372036854775807 := (Lit.wf_int_iff _ _).1 h
theorem field_int {n : Nat} {v : Value} {y : DataW H × List MemPlace} (h : DataW.trod enc Try.prog w base spare held n 3 [v] = some y) : ∃ z, v = .int .i64 z ∧ -9223372036854775808 ≤ z ∧ z ≤ 9223372036854775807 := by
  obtain ⟨z, hz, -, hw⟩ := DataW.trod_int Try.underlying3 h
  exact ⟨z, by simpa using hz, wf_i64 hw⟩
theorem ints_of {n : Nat} {v : Value} {y : DataW H × List MemPlace} (h : DataW.trod enc Try.prog w base spare held n 31 [v] = some y) : ∃ l : List Int, RInts w.heap.size w v l ∧ InI l := by
  rcases open_slice1 Try.underlying31 (by kernel_rfl) h with ⟨hv, rfl⟩ | ⟨a, len, cap, m, n', V, D, Pl, hv, hb, hl, hm, hmm, rfl, hx⟩
  · obtain rfl : v = .slice none 0 0 := by simpa using hv
    exact ⟨[], Rd.nil, fun x hx => absurd hx (by simp)⟩
  · obtain rfl : v = .slice (some a) len cap := by simpa using hv
    have hle : len ≤ m := by rw [hmm]; split <;> omega
    obtain ⟨l, hl2, hp⟩ := pick_list (P := fun i (z : Int) => w.cell? (a.add i) = some (.int .i64 z) ∧ -9223372036854775808 ≤ z ∧ z ≤ 9223372036854775807) len fun i hi => by
      obtain ⟨h1, h2⟩ := hx i (by omega)
      obtain ⟨z, hz, hw⟩ := field_int h2
      exact ⟨z, by rw [h1, hz], hw⟩
    refine ⟨l, ?_, fun x hx => ?_⟩
    · unfold RInts
      rw [hl2]
      refine rd_of (by simp [hl2]) (by omega) (by omega) fun j u hu => ?_
      rw [List.getElem?_map] at hu
      obtain ⟨z, hz, rfl⟩ := Option.map_eq_some_iff.1 hu
      exact (hp j z hz).1
    · obtain ⟨i, hi⟩ := List.getElem?_of_mem hx
      exact (hp i x hi).2
theorem field_u8 {n : Nat} {v : Value} {y : DataW H × List MemPlace} (h : DataW.trod enc Try.prog w base spare held n 5 [v] = some y) : ∃ z, v = .int .u8 z ∧ 0 ≤ z ∧ z ≤ 255 := by
  obtain ⟨z, hz, -, hw⟩ := DataW.trod_int Try.underlying5 h
  exact ⟨z, by simpa using hz, (Lit.wf_int_iff _ _).1 hw⟩
theorem bytes_of {n : Nat} {v : Value} {y : DataW H × List MemPlace} (h : DataW.trod enc Try.prog w base spare held n 46 [v] = some y) : ∃ l : List Int, RBytes w.heap.size w v l ∧ Bytes l := by
  rcases open_slice1 Try.underlying46 (by kernel_rfl) h with ⟨hv, rfl⟩ | ⟨a, len, cap, m, n', V, D, Pl, hv, hb, hl, hm, hmm, rfl, hx⟩
  · obtain rfl : v = .slice none 0 0 := by simpa using hv
    exact ⟨[], Rd.nil, fun x hx => absurd hx (by simp)⟩
  · obtain rfl : v = .slice (some a) len cap := by simpa using hv
    have hle : len ≤ m := by rw [hmm]; split <;> omega
    obtain ⟨l, hl2, hp⟩ := pick_list (P := fun i (z : Int) => w.cell? (a.add i) = some (.int .u8 z) ∧ 0 ≤ z ∧ z ≤ 255) len fun i hi => by
      obtain ⟨h1, h2⟩ := hx i (by omega)
      obtain ⟨z, hz, hw⟩ := field_u8 h2
      exact ⟨z, by rw [h1, hz], hw⟩
    refine ⟨l, ?_, fun x hx => ?_⟩
    · unfold RBytes
      rw [hl2]
      refine rd_of (by simp [hl2]) (by omega) (by omega) fun j u hu => ?_
      rw [List.getElem?_map] at hu
      obtain ⟨z, hz, rfl⟩ := Option.map_eq_some_iff.1 hu
      exact (hp j z hz).1
    · obtain ⟨i, hi⟩ := List.getElem?_of_mem hx
      exact (hp i x hi).2
set_option maxRecDepth 100000 in
theorem bytes_arg (hv : Value.okWide Try.prog W' rc b0 46 v) (h : DataW.Trod enc Try.prog w base spare held 46 v d p) : ∃ l : List Int, RBytes w.heap.size w v l ∧ Bytes l := by
  obtain ⟨a, len, cap, rfl⟩ := okWide_slice Try.underlying46 hv
  obtain ⟨fuel, hf⟩ := h
  exact bytes_of (y := (d, p)) hf
set_option maxRecDepth 100000 in
theorem ints_arg (hv : Value.okWide Try.prog W' rc b0 31 v) (h : DataW.Trod enc Try.prog w base spare held 31 v d p) : ∃ l : List Int, RInts w.heap.size w v l ∧ InI l := by
  obtain ⟨a, len, cap, rfl⟩ := okWide_slice Try.underlying31 hv
  obtain ⟨fuel, hf⟩ := h
  exact ints_of (y := (d, p)) hf
end
theorem ownN : ownKnob Try.prog.godebug = none := by kernel_rfl
theorem laidOutN : laidOutB Try.prog = true := by kernel_rfl
end Go.Proofs.Ytlmpbmlbllndcaa

namespace Go.Proofs.Ytlmpbmlbllndcaa
open Go.RowKit Go.ChangeShapes Go.WideShapes Go.ChangeAt Go.Deep Go.Joins
theorem array5 {α : Type} {cs : Array α} (h : cs.size = 5) : ∃ c0 c1 c2 c3 c4, cs = #[c0, c1, c2, c3, c4] := by
  obtain ⟨l⟩ := cs
  match l, h with
  | [c0, c1, c2, c3, c4], _ => exact ⟨c0, c1, c2, c3, c4, rfl⟩
theorem addAdd' (a : Addr) (i j : Nat) : (a.add i).add j = a.add (i + j) := by
  unfold Addr.add
  split <;> split <;> simp_all <;> omega
section
variable {H : Type}
theorem bulk_pos (d : DataW H) : 1 ≤ Rows.uptoBulk d := by
  cases d
  case lit l => cases l <;> simp [Rows.uptoBulk]
  all_goals simp [Rows.uptoBulk]
theorem bulk_mem {d : DataW H} : ∀ {l : List (DataW H)}, d ∈ l → Rows.uptoBulk d ≤ Rows.uptoBulkAll l
  | [], h => by cases h
  | x :: l, h => by
    unfold Rows.uptoBulkAll
    rcases List.mem_cons.1 h with rfl | h
    · omega
    · have := bulk_mem h; omega
theorem bulk_count : ∀ (l : List (DataW H)), l.length ≤ Rows.uptoBulkAll l
  | [] => by simp
  | x :: l => by
    unfold Rows.uptoBulkAll
    have h1 := bulk_pos x
    have h2 := bulk_count l
    simp only [List.length_cons]
    omega
theorem bulk_slice (l m : List (DataW H)) : l.length ≤ Rows.uptoBulk (.slice l m) ∧ ∀ d ∈ l, Rows.uptoBulk d ≤ Rows.uptoBulk (.slice l m) := by
  have h : Rows.uptoBulk (.slice l m) = Rows.uptoBulkAll l + Rows.uptoBulkAll m + 1 := by simp [Rows.uptoBulk]
  rw [h]
  have := bulk_count l
  exact ⟨by omega, fun d hd => by have := bulk_mem hd; omega⟩
theorem bulk_agg (l : List (DataW H)) : ∀ d ∈ l, Rows.uptoBulk d ≤ Rows.uptoBulk (.agg l) := fun d hd => by
  have h : Rows.uptoBulk (.agg l) = Rows.uptoBulkAll l + 1 := by simp [Rows.uptoBulk]
  rw [h]
  have := bulk_mem hd
  omega

end
section
variable {H : Type} {enc : TypeId × Value → H} {w : World} {base b0 : Nat} {rc : Reach} {spare : Nat → Bool} {held : Bool}
theorem elem_fields' {e : TypeId} {fs : Array Field} {n : Nat} {b : Addr} {cs : List Value} {x : DataW H × List MemPlace} (hs : Try.prog.underlying e = some (.struct fs)) (hone : oneCellFields Try.prog fs = true) (hC : Try.prog.cellsOf e = fs.size)
    (hc : w.cells? base b (Try.prog.cellsOf e) = some cs) (ht : DataW.trod enc Try.prog w base spare held n e cs = some x) :
    ∃ (ys : List (DataW H × List MemPlace)) (n' : Nat), x.1 = .agg (ys.map (·.1)) ∧ ∀ (j : Nat) (f : Field), fs[j]? = some f → ∃ v y, w.cell? (b.add j) = some v ∧ ys[j]? = some y ∧ DataW.trod enc Try.prog w base spare held n' f.type [v] = some y := by
  obtain ⟨ys, n', -, rfl, hl, hlen, hf⟩ := DataW.trod_struct hs ht
  obtain ⟨-, hcl, hat⟩ := World.cells?_some hc
  refine ⟨ys, n', rfl, fun j f hj => ?_⟩
  have hjl : j < fs.size := (Array.getElem?_eq_some_iff.1 hj).1
  obtain ⟨ho, hk⟩ := hone_of hone j f hj
  have h1 := hf j f hj
  have hjc : j < cs.length := by omega
  rw [ho, hk, List.drop_eq_getElem_cons hjc, List.take_succ_cons, List.take_zero] at h1
  have hy : ys[j]? = some (ys[j]'(by omega)) := List.getElem?_eq_getElem (by omega)
  exact ⟨_, _, by rw [hat j (by omega)]; exact List.getElem?_eq_getElem hjc, hy, h1.trans hy⟩
set_option maxRecDepth 100000 in
/-- A struct whose fields are one cell each, by value. -/
theorem agg_fields {t : TypeId} {fs : Array Field} {v : Value} {d : DataW H} {p : List MemPlace} (hs : Try.prog.underlying t = some (.struct fs)) (hone : oneCellFields Try.prog fs = true) (hC : Try.prog.cellsOf t = fs.size)
    (hv : Value.okWide Try.prog w rc b0 t v) (h : DataW.Trod enc Try.prog w base spare held t v d p) :
    ∃ (cs : Array Value) (n' : Nat), v = .agg cs ∧ cs.size = fs.size ∧ ∀ (j : Nat) (f : Field), fs[j]? = some f → ∃ c y, cs[j]? = some c ∧ DataW.trod enc Try.prog w base spare held n' f.type [c] = some y := by
  obtain ⟨cs, rfl, hsz⟩ := okWide_struct hs hv
  obtain ⟨fuel, hf0⟩ := h
  obtain ⟨ys, n', -, -, hl, hlen, hf⟩ := DataW.trod_struct hs hf0
  refine ⟨cs, n', rfl, by omega, fun j f hj => ?_⟩
  have hjl : j < fs.size := (Array.getElem?_eq_some_iff.1 hj).1
  obtain ⟨ho, hk⟩ := hone_of hone j f hj
  have h1 := hf j f hj
  have hjc : j < cs.toList.length := by simp only [Array.length_toList]; omega
  have hcl : (Value.cells (.agg cs)).toList = cs.toList := rfl
  rw [ho, hk, hcl, List.drop_eq_getElem_cons hjc, List.take_succ_cons, List.take_zero] at h1
  have hy : ys[j]? = some (ys[j]'(by omega)) := List.getElem?_eq_getElem (by omega)
  exact ⟨cs[j]'(by simpa using hjc), _, Array.getElem?_eq_getElem _, by simpa using h1.trans hy⟩
theorem days_of {n : Nat} {v : Value} {y : DataW H × List MemPlace} (h : DataW.trod enc Try.prog w base spare held n 22 [v] = some y) : ∃ l : List DayD, RDays w.heap.size w v l ∧ l.length ≤ Rows.uptoBulk y.1 := by
  rcases open_slice Try.underlying22 h with ⟨hv, rfl⟩ | ⟨a, len, cap, m, n', D, Pl, hv, hb, hl, hm, hmm, rfl, hx⟩
  · obtain rfl : v = .slice none 0 0 := by simpa using hv
    exact ⟨[], Rd.nil, Nat.zero_le _⟩
  · obtain rfl : v = .slice (some a) len cap := by simpa using hv
    have hle : len ≤ m := by rw [hmm]; split <;> omega
    have hC : Try.prog.cellsOf 24 = 2 := by kernel_rfl
    obtain ⟨l, hl2, hp⟩ := pick_list (P := fun i (z : DayD) => ∀ r u, z.cells[r]? = some u → w.cell? (a.add (i * 2 + r)) = some u) len fun i hi => by
      obtain ⟨cs, h1, h2⟩ := hx i (by omega)
      obtain ⟨ys, n2, -, hf⟩ := elem_fields' Try.underlying24 (by kernel_rfl) hC h1 h2
      obtain ⟨v0, y0, c0, -, t0⟩ := hf 0 _ rfl
      obtain ⟨v1, y1, c1, -, t1⟩ := hf 1 _ rfl
      obtain ⟨z0, rfl, -⟩ := field_int t0
      obtain ⟨z1, rfl, -⟩ := field_int t1
      rw [hC, addAdd'] at c0 c1
      refine ⟨⟨z0, z1⟩, fun r u hu => ?_⟩
      match r, hu with
      | 0, hu => simp only [DayD.cells, List.getElem?_cons_zero, Option.some.injEq] at hu; rw [← hu]; exact c0
      | 1, hu => simp only [DayD.cells, List.getElem?_cons_succ, List.getElem?_cons_zero, Option.some.injEq] at hu; rw [← hu]; exact c1
      | r + 2, hu => simp [DayD.cells] at hu
    refine ⟨l, rd_rows DayD.cells 2 (fun _ => rfl) (by omega) hl2 (by omega) fun i x r u hx hu => hp i x hx r u hu, ?_⟩
    have h9 := (bulk_slice ((List.range len).map D) ((List.range (m - len)).map fun j => D (len + j))).1
    rw [List.length_map, List.length_range] at h9
    rw [hl2]
    exact h9
set_option maxRecDepth 100000 in
theorem days_arg {v : Value} {d : DataW H} {p : List MemPlace} (hv : Value.okWide Try.prog w rc b0 22 v) (h : DataW.Trod enc Try.prog w base spare held 22 v d p) : ∃ l : List DayD, RDays w.heap.size w v l := by
  obtain ⟨a, len, cap, rfl⟩ := okWide_slice Try.underlying22 hv
  obtain ⟨fuel, hf⟩ := h
  obtain ⟨l, hl, -⟩ := days_of (y := (d, p)) hf
  exact ⟨l, hl⟩
set_option maxRecDepth 100000 in
theorem days_argu {v : Value} {d : DataW H} {p : List MemPlace} (hv : Value.okWide Try.prog w rc b0 22 v) (h : DataW.Trod enc Try.prog w base spare held 22 v d p) (hk : Rows.uptoBulk d ≤ 1048576) : ∃ l : List DayD, RDays w.heap.size w v l ∧ l.length ≤ 2000000 := by
  obtain ⟨a, len, cap, rfl⟩ := okWide_slice Try.underlying22 hv
  obtain ⟨fuel, hf⟩ := h
  obtain ⟨l, hl, hb⟩ := days_of (y := (d, p)) hf
  exact ⟨l, hl, by have : l.length ≤ Rows.uptoBulk d := hb; omega⟩
set_option maxRecDepth 100000 in
theorem tar_arg {v : Value} {d : DataW H} {p : List MemPlace} (hv : Value.okWide Try.prog w rc b0 37 v) (h : DataW.Trod enc Try.prog w base spare held 37 v d p) : ∃ t : TarD, v = .agg #[.int .i64 t.price, .int .i64 t.back, .int .i64 t.late, .int .i64 t.carry, .int .i64 t.credit] := by
  obtain ⟨cs, n, rfl, hsz, hf⟩ := agg_fields Try.underlying37 (by kernel_rfl) (by kernel_rfl) hv h
  obtain ⟨c0, c1, c2, c3, c4, rfl⟩ := array5 (hsz.trans rfl)
  obtain ⟨v0, y0, e0, t0⟩ := hf 0 _ rfl
  obtain ⟨v1, y1, e1, t1⟩ := hf 1 _ rfl
  obtain ⟨v2, y2, e2, t2⟩ := hf 2 _ rfl
  obtain ⟨v3, y3, e3, t3⟩ := hf 3 _ rfl
  obtain ⟨v4, y4, e4, t4⟩ := hf 4 _ rfl
  obtain ⟨z0, rfl, -⟩ := field_int t0
  obtain ⟨z1, rfl, -⟩ := field_int t1
  obtain ⟨z2, rfl, -⟩ := field_int t2
  obtain ⟨z3, rfl, -⟩ := field_int t3
  obtain ⟨z4, rfl, -⟩ := field_int t4
  simp at e0 e1 e2 e3 e4
  subst e0 e1 e2 e3 e4
  exact ⟨⟨z0, z1, z2, z3, z4⟩, rfl⟩
set_option maxRecDepth 100000 in
theorem day_arg {v : Value} {d : DataW H} {p : List MemPlace} (hv : Value.okWide Try.prog w rc b0 24 v) (h : DataW.Trod enc Try.prog w base spare held 24 v d p) : ∃ t : DayD, v = .agg #[.int .i64 t.sup, .int .i64 t.ret] := by
  obtain ⟨cs, n, rfl, hsz, hf⟩ := agg_fields Try.underlying24 (by kernel_rfl) (by kernel_rfl) hv h
  obtain ⟨c0, c1, rfl⟩ := array2 (hsz.trans rfl)
  obtain ⟨v0, y0, e0, t0⟩ := hf 0 _ rfl
  obtain ⟨v1, y1, e1, t1⟩ := hf 1 _ rfl
  obtain ⟨z0, rfl, -⟩ := field_int t0
  obtain ⟨z1, rfl, -⟩ := field_int t1
  simp at e0 e1
  subst e0 e1
  exact ⟨⟨z0, z1⟩, rfl⟩
end
end Go.Proofs.Ytlmpbmlbllndcaa
