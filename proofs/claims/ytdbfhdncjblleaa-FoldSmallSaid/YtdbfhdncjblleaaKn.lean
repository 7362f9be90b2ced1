/-
  An argument that is a run: what it reads as.
-/
import Derived.Deep.Slices
import Derived.Deep.Fields
import Derived.Lib.SmallJoins
import Derived.ProofKit
import Derived.OpenShut
import Derived.JoinedCond
import Derived.Test.YtdbfhdncjblleaaKh
import Derived.Test.YtdbfhdncjblleaaRows
namespace Go.Proofs.Ytdbfhdncjblleaa
open Go.RowKit Go.ChangeShapes Go.WideShapes Go.ChangeAt Go.Deep Go.Joins

section
variable {H : Type} {enc : TypeId × Value → H} {w : World} {base : Nat} {spare : Nat → Bool} {held : Bool}

theorem bulk_pos (d : DataW H) : 1 ≤ Rows.uptoBulk d := by
  cases d
  case lit l => cases l <;> simp [Rows.uptoBulk]
  all_goals simp [Rows.uptoBulk]
theorem bulk_mem {d : DataW H} : ∀ {l : List (DataW H)}, d ∈ l → Rows.uptoBulk d ≤ Rows.uptoBulkAll l
  | [], h => by cases h
  | x :: l, h => by
    unfold Rows.uptoBulkAll
    rcases List.mem_cons.1 h with rfl | h
    · omega
    · have := bulk_mem h; omega
theorem bulk_count : ∀ (l : List (DataW H)), l.length ≤ Rows.uptoBulkAll l
  | [] => by simp
  | x :: l => by
    unfold Rows.uptoBulkAll
    have h1 := bulk_pos x
    have h2 := bulk_count l
    simp only [List.length_cons]
    omega
theorem bulk_slice (l m : List (DataW H)) : l.length ≤ Rows.uptoBulk (.slice l m) ∧ ∀ d ∈ l, Rows.uptoBulk d ≤ Rows.uptoBulk (.slice l m) := by
  have h : Rows.uptoBulk (.slice l m) = Rows.uptoBulkAll l + Rows.uptoBulkAll m + 1 := by simp [Rows.uptoBulk]
  rw [h]
  have := bulk_count l
  exact ⟨by omega, fun d hd => by have := bulk_mem hd; omega⟩
theorem bulk_agg (l : List (DataW H)) : ∀ d ∈ l, Rows.uptoBulk d ≤ Rows.uptoBulk (.agg l) := fun d hd => by
  have h : Rows.uptoBulk (.agg l) = Rows.uptoBulkAll l + 1 := by simp [Rows.uptoBulk]
  rw [h]
  have := bulk_mem hd
  omega

theorem pick_list {α : Type} {P : Nat → α → Prop} : ∀ (n : Nat), (∀ i, i < n → ∃ x, P i x) → ∃ l : List α, l.length = n ∧ ∀ i x, l[i]? = some x → P i x
  | 0, _ => ⟨[], rfl, fun i x h => by simp at h⟩
  | n + 1, h => by
    obtain ⟨l, hl, hp⟩ := pick_list n fun i hi => h i (by omega)
    obtain ⟨x, hx⟩ := h n (by omega)
    refine ⟨l ++ [x], by simp [hl], fun i y hy => ?_⟩
    rcases snoc_get hy with ⟨-, hy⟩ | ⟨hi, rfl⟩
    · exact hp i y hy
    · rw [hi, hl]; exact hx
theorem addr_lit {a : Addr} {v : Value} (h : w.cell? a = some v) : ∃ g o, a = ⟨g, o, none⟩ ∧ g < w.heap.size ∧ ∀ i, a.add i = ⟨g, o + i, none⟩ := by
  obtain ⟨g, o, s⟩ := a
  have hlt := World.block_lt_of_cell? w _ h
  cases s with
  | none => exact ⟨g, o, rfl, hlt, fun i => by unfold Addr.add; split <;> simp_all⟩
  | some s =>
    exfalso
    unfold World.cell? at h
    split at h <;> simp_all
theorem rd_of {k n c : Nat} {xs : List Value} {a : Addr} (hl : xs.length = n * k) (hk : 0 < k) (hm : n ≤ maxLen) (hc : ∀ j u, xs[j]? = some u → w.cell? (a.add j) = some u) : Rd w.heap.size w k (.slice (some a) n c) n xs := by
  refine ⟨some a, c, rfl, hl, hm, fun h0 => ?_⟩
  have hp : 0 < xs.length := by rw [hl]; exact Nat.mul_pos h0 hk
  obtain ⟨g, o, rfl, hg, hadd⟩ := addr_lit (a := a) (hc 0 _ (List.getElem?_eq_getElem hp))
  exact ⟨g, o, rfl, hg, fun j u hu => by rw [← hadd]; exact hc j u hu⟩
theorem flat_inv {α : Type} (f : α → List Value) (k : Nat) (hk : ∀ x, (f x).length = k) (hk0 : 0 < k) {l : List α} {j : Nat} {u : Value} (h : (l.flatMap f)[j]? = some u) : ∃ i r x, j = i * k + r ∧ r < k ∧ l[i]? = some x ∧ (f x)[r]? = some u := by
  have hj := (List.getElem?_eq_some_iff.1 h).1
  rw [flat_get f k hk] at hj
  have hi : j / k < l.length := Nat.div_lt_of_lt_mul (by rw [Nat.mul_comm]; exact hj)
  have hr : j % k < k := Nat.mod_lt _ hk0
  have he : j = j / k * k + j % k := by rw [Nat.mul_comm]; exact (Nat.div_add_mod j k).symm
  have hx : l[j / k]? = some l[j / k] := List.getElem?_eq_getElem hi
  refine ⟨j / k, j % k, _, he, hr, hx, ?_⟩
  rw [← flat_at f k hk l (j / k) (j % k) _ hx hr, ← he]
  exact h
/-- A slice of structs that were read one by one. -/
theorem rd_rows {α : Type} (f : α → List Value) (k : Nat) (hk : ∀ x, (f x).length = k) (hk0 : 0 < k) {l : List α} {n c : Nat} {a : Addr} (hl : l.length = n) (hm : n ≤ maxLen) (hc : ∀ i x r u, l[i]? = some x → (f x)[r]? = some u → w.cell? (a.add (i * k + r)) = some u) :
    Rd w.heap.size w k (.slice (some a) n c) l.length (l.flatMap f) := by
  rw [hl]
  refine rd_of (by rw [flat_get f k hk, hl]) hk0 hm fun j u hu => ?_
  obtain ⟨i, r, x, rfl, hr, hx, hf⟩ := flat_inv f k hk hk0 hu
  exact hc i x r u hx hf
theorem elem_fields {e : TypeId} {fs : Array Field} {n : Nat} {b : Addr} {cs : List Value} {x : DataW H × List MemPlace} (hs : Try.prog.underlying e = some (.struct fs)) (hone : oneCellFields Try.prog fs = true) (hC : Try.prog.cellsOf e = fs.size)
    (hc : w.cells? base b (Try.prog.cellsOf e) = some cs) (ht : DataW.trod enc Try.prog w base spare held n e cs = some x) :
    ∃ (ys : List (DataW H × List MemPlace)) (n' : Nat), x.1 = .agg (ys.map (·.1)) ∧ ∀ (j : Nat) (f : Field), fs[j]? = some f → ∃ v y, w.cell? (b.add j) = some v ∧ ys[j]? = some y ∧ DataW.trod enc Try.prog w base spare held n' f.type [v] = some y := by
  obtain ⟨ys, n', -, rfl, hl, hlen, hf⟩ := DataW.trod_struct hs ht
  obtain ⟨-, hcl, hat⟩ := World.cells?_some hc
  refine ⟨ys, n', rfl, fun j f hj => ?_⟩
  have hjl : j < fs.size := (Array.getElem?_eq_some_iff.1 hj).1
  obtain ⟨ho, hk⟩ := hone_of hone j f hj
  have h1 := hf j f hj
  have hjc : j < cs.length := by omega
  rw [ho, hk, List.drop_eq_getElem_cons hjc, List.take_succ_cons, List.take_zero] at h1
  have hy : ys[j]? = some (ys[j]'(by omega)) := List.getElem?_eq_getElem (by omega)
  exact ⟨_, _, by rw [hat j (by omega)]; exact List.getElem?_eq_getElem hjc, hy, h1.trans hy⟩

theorem field_int {n : Nat} {v : Value} {y : DataW H × List MemPlace} (h : DataW.trod enc Try.prog w base spare held n 3 [v] = some y) : ∃ z, v = .int .i64 z := by
  obtain ⟨z, hz, -⟩ := DataW.trod_int Try.underlying3 h
  exact ⟨z, by simpa using hz⟩
theorem field_bool {n : Nat} {v : Value} {y : DataW H × List MemPlace} (h : DataW.trod enc Try.prog w base spare held n 4 [v] = some y) : ∃ z, v = .bool z := by
  obtain ⟨z, hz, -⟩ := DataW.trod_bool Try.underlying4 h
  exact ⟨z, by simpa using hz⟩

theorem ints_of {n : Nat} {v : Value} {y : DataW H × List MemPlace} (h : DataW.trod enc Try.prog w base spare held n 48 [v] = some y) : ∃ l : List Int, RInts w.heap.size w v l ∧ l.length ≤ Rows.uptoBulk y.1 := by
  rcases open_slice1 Try.underlying48 (by kernel_rfl) h with ⟨hv, rfl⟩ | ⟨a, len, cap, m, n', V, D, Pl, hv, hb, hl, hm, hmm, rfl, hx⟩
  · obtain rfl : v = .slice none 0 0 := by simpa using hv
    exact ⟨[], Rd.nil, by simp⟩
  · obtain rfl : v = .slice (some a) len cap := by simpa using hv
    have hle : len ≤ m := by rw [hmm]; split <;> omega
    obtain ⟨l, hl2, hp⟩ := pick_list (P := fun i (z : Int) => w.cell? (a.add i) = some (.int .i64 z)) len fun i hi => by
      obtain ⟨h1, h2⟩ := hx i (by omega)
      obtain ⟨z, hz⟩ := field_int h2
      exact ⟨z, by rw [h1, hz]⟩
    refine ⟨l, ?_, ?_⟩
    · unfold RInts
      rw [hl2]
      refine rd_of (by simp [hl2]) (by omega) (by omega) fun j u hu => ?_
      rw [List.getElem?_map] at hu
      obtain ⟨z, hz, rfl⟩ := Option.map_eq_some_iff.1 hu
      exact hp j z hz
    · rw [hl2]
      have := (bulk_slice ((List.range len).map D) ((List.range (m - len)).map fun j => D (len + j))).1
      simpa using this
theorem intss_of {n : Nat} {v : Value} {y : DataW H × List MemPlace} (h : DataW.trod enc Try.prog w base spare held n 24 [v] = some y) : ∃ l : List (List Int), RIntss w.heap.size w v l ∧ l.length ≤ Rows.uptoBulk y.1 ∧ ∀ s ∈ l, s.length ≤ Rows.uptoBulk y.1 := by
  rcases open_slice1 Try.underlying24 (by kernel_rfl) h with ⟨hv, rfl⟩ | ⟨a, len, cap, m, n', V, D, Pl, hv, hb, hl, hm, hmm, rfl, hx⟩
  · obtain rfl : v = .slice none 0 0 := by simpa using hv
    exact ⟨[], ⟨[], Rd.nil, rfl, fun i u x h => by simp at h⟩, by simp, by simp⟩
  · obtain rfl : v = .slice (some a) len cap := by simpa using hv
    have hle : len ≤ m := by rw [hmm]; split <;> omega
    obtain ⟨l, hl2, hp⟩ := pick_list (P := fun i (z : Value × List Int) => w.cell? (a.add i) = some z.1 ∧ RInts w.heap.size w z.1 z.2 ∧ z.2.length ≤ Rows.uptoBulk (D i) ∧ i < len) len fun i hi => by
      obtain ⟨h1, h2⟩ := hx i (by omega)
      obtain ⟨s, hs, hsb⟩ := ints_of h2
      exact ⟨(V i, s), h1, hs, hsb, hi⟩
    have hbs := bulk_slice ((List.range len).map D) ((List.range (m - len)).map fun j => D (len + j))
    refine ⟨l.map (·.2), ⟨l.map (·.1), ?_, by simp, fun i u x hu hx => ?_⟩, ?_, fun s hs => ?_⟩
    · rw [List.length_map, hl2]
      refine rd_of (by simp [hl2]) (by omega) (by omega) fun j u hu => ?_
      rw [List.getElem?_map] at hu
      obtain ⟨z, hz, rfl⟩ := Option.map_eq_some_iff.1 hu
      exact (hp j z hz).1
    · rw [List.getElem?_map] at hu hx
      obtain ⟨z, hz, rfl⟩ := Option.map_eq_some_iff.1 hu
      rw [hz] at hx
      simp only [Option.map_some, Option.some.injEq] at hx
      subst hx
      exact (hp i z hz).2.1
    · rw [List.length_map, hl2]
      simpa using hbs.1
    · obtain ⟨z, hz, rfl⟩ := List.mem_map.1 hs
      obtain ⟨i, hi, rfl⟩ := List.getElem_of_mem hz
      obtain ⟨-, -, h3, h4⟩ := hp i _ (List.getElem?_eq_getElem hi)
      exact Nat.le_trans h3 (hbs.2 _ (List.mem_map.2 ⟨i, List.mem_range.2 h4, rfl⟩))
theorem plates_of {n : Nat} {v : Value} {y : DataW H × List MemPlace} (h : DataW.trod enc Try.prog w base spare held n 95 [v] = some y) : ∃ l : List PlateD, RPlates w.heap.size w v l ∧ l.length ≤ Rows.uptoBulk y.1 := by
  rcases open_slice Try.underlying95 h with ⟨hv, rfl⟩ | ⟨a, len, cap, m, n', D, Pl, hv, hb, hl, hm, hmm, rfl, hx⟩
  · obtain rfl : v = .slice none 0 0 := by simpa using hv
    exact ⟨[], Rd.nil, by simp⟩
  · obtain rfl : v = .slice (some a) len cap := by simpa using hv
    have hle : len ≤ m := by rw [hmm]; split <;> omega
    have hC : Try.prog.cellsOf 98 = 2 := by kernel_rfl
    obtain ⟨l, hl2, hp⟩ := pick_list (P := fun i (z : PlateD) => w.cell? (a.add (i * 2)) = some (.int .i64 z.page) ∧ w.cell? (a.add (i * 2 + 1)) = some (.bool z.up)) len fun i hi => by
      obtain ⟨cs, h1, h2⟩ := hx i (by omega)
      obtain ⟨ys, n2, -, hf⟩ := elem_fields Try.underlying98 (by kernel_rfl) hC h1 h2
      obtain ⟨v0, y0, c0, -, t0⟩ := hf 0 _ rfl
      obtain ⟨v1, y1, c1, -, t1⟩ := hf 1 _ rfl
      obtain ⟨z0, rfl⟩ := field_int t0
      obtain ⟨z1, rfl⟩ := field_bool t1
      rw [hC, addAdd] at c0 c1
      exact ⟨⟨z0, z1⟩, c0, c1⟩
    refine ⟨l, rd_rows PlateD.cells 2 (fun _ => rfl) (by omega) hl2 (by omega) fun i x r u hx hu => ?_, ?_⟩
    · obtain ⟨p0, p1⟩ := hp i x hx
      match r, hu with
      | 0, hu => simp only [PlateD.cells, List.getElem?_cons_zero, Option.some.injEq] at hu; rw [← hu]; exact p0
      | 1, hu => simp only [PlateD.cells, List.getElem?_cons_succ, List.getElem?_cons_zero, Option.some.injEq] at hu; rw [← hu]; exact p1
      | r + 2, hu => simp [PlateD.cells] at hu
    · rw [hl2]
      have := (bulk_slice ((List.range len).map D) ((List.range (m - len)).map fun j => D (len + j))).1
      simpa using this
theorem ribs_of {n : Nat} {v : Value} {y : DataW H × List MemPlace} (h : DataW.trod enc Try.prog w base spare held n 23 [v] = some y) : ∃ l : List RibD, RRibs w.heap.size w v l ∧ l.length ≤ Rows.uptoBulk y.1 := by
  rcases open_slice Try.underlying23 h with ⟨hv, rfl⟩ | ⟨a, len, cap, m, n', D, Pl, hv, hb, hl, hm, hmm, rfl, hx⟩
  · obtain rfl : v = .slice none 0 0 := by simpa using hv
    exact ⟨[], Rd.nil, by simp⟩
  · obtain rfl : v = .slice (some a) len cap := by simpa using hv
    have hle : len ≤ m := by rw [hmm]; split <;> omega
    have hC : Try.prog.cellsOf 99 = 5 := by kernel_rfl
    obtain ⟨l, hl2, hp⟩ := pick_list (P := fun i (z : RibD) => ∀ r u, z.cells[r]? = some u → w.cell? (a.add (i * 5 + r)) = some u) len fun i hi => by
      obtain ⟨cs, h1, h2⟩ := hx i (by omega)
      obtain ⟨ys, n2, -, hf⟩ := elem_fields Try.underlying99 (by kernel_rfl) hC h1 h2
      obtain ⟨v0, y0, c0, -, t0⟩ := hf 0 _ rfl
      obtain ⟨v1, y1, c1, -, t1⟩ := hf 1 _ rfl
      obtain ⟨v2, y2, c2, -, t2⟩ := hf 2 _ rfl
      obtain ⟨v3, y3, c3, -, t3⟩ := hf 3 _ rfl
      obtain ⟨v4, y4, c4, -, t4⟩ := hf 4 _ rfl
      obtain ⟨z0, rfl⟩ := field_int t0
      obtain ⟨z1, rfl⟩ := field_int t1
      obtain ⟨z2, rfl⟩ := field_int t2
      obtain ⟨z3, rfl⟩ := field_bool t3
      obtain ⟨z4, rfl⟩ := field_bool t4
      rw [hC, addAdd] at c0 c1 c2 c3 c4
      refine ⟨⟨z0, z1, z2, z3, z4⟩, fun r u hu => ?_⟩
      match r, hu with
      | 0, hu => simp only [RibD.cells, List.getElem?_cons_zero, Option.some.injEq] at hu; rw [← hu]; exact c0
      | 1, hu => simp only [RibD.cells, List.getElem?_cons_succ, List.getElem?_cons_zero, Option.some.injEq] at hu; rw [← hu]; exact c1
      | 2, hu => simp only [RibD.cells, List.getElem?_cons_succ, List.getElem?_cons_zero, Option.some.injEq] at hu; rw [← hu]; exact c2
      | 3, hu => simp only [RibD.cells, List.getElem?_cons_succ, List.getElem?_cons_zero, Option.some.injEq] at hu; rw [← hu]; exact c3
      | 4, hu => simp only [RibD.cells, List.getElem?_cons_succ, List.getElem?_cons_zero, Option.some.injEq] at hu; rw [← hu]; exact c4
      | r + 5, hu => simp [RibD.cells] at hu
    refine ⟨l, rd_rows RibD.cells 5 (fun _ => rfl) (by omega) hl2 (by omega) fun i x r u hx hu => hp i x hx r u hu, ?_⟩
    rw [hl2]
    have := (bulk_slice ((List.range len).map D) ((List.range (m - len)).map fun j => D (len + j))).1
    simpa using this
theorem webs_of {n : Nat} {v : Value} {y : DataW H × List MemPlace} (h : DataW.trod enc Try.prog w base spare held n 22 [v] = some y) : ∃ l : List WebD, RWebs w.heap.size w v l ∧ l.length ≤ Rows.uptoBulk y.1 ∧ ∀ x ∈ l, x.plates.length ≤ Rows.uptoBulk y.1 := by
  rcases open_slice Try.underlying22 h with ⟨hv, rfl⟩ | ⟨a, len, cap, m, n', D, Pl, hv, hb, hl, hm, hmm, rfl, hx⟩
  · obtain rfl : v = .slice none 0 0 := by simpa using hv
    exact ⟨[], ⟨[], Rd.nil, rfl, fun i u x h => by simp at h⟩, by simp, by simp⟩
  · obtain rfl : v = .slice (some a) len cap := by simpa using hv
    have hle : len ≤ m := by rw [hmm]; split <;> omega
    have hC : Try.prog.cellsOf 97 = 3 := by kernel_rfl
    have hbs := bulk_slice ((List.range len).map D) ((List.range (m - len)).map fun j => D (len + j))
    obtain ⟨l, hl2, hp⟩ := pick_list (P := fun i (z : WebD × Value) => (∀ r u, (webCells z.1 z.2)[r]? = some u → w.cell? (a.add (i * 3 + r)) = some u) ∧ RPlates w.heap.size w z.2 z.1.plates ∧ z.1.plates.length ≤ Rows.uptoBulk (D i) ∧ i < len) len fun i hi => by
      obtain ⟨cs, h1, h2⟩ := hx i (by omega)
      obtain ⟨ys, n2, hd, hf⟩ := elem_fields Try.underlying97 (by kernel_rfl) hC h1 h2
      obtain ⟨v0, y0, c0, -, t0⟩ := hf 0 _ rfl
      obtain ⟨v1, y1, c1, -, t1⟩ := hf 1 _ rfl
      obtain ⟨v2, y2, c2, hy2, t2⟩ := hf 2 _ rfl
      obtain ⟨z0, rfl⟩ := field_int t0
      obtain ⟨z1, rfl⟩ := field_int t1
      obtain ⟨pl, hpl, hplb⟩ := plates_of t2
      rw [hC, addAdd] at c0 c1 c2
      have hdi : D i = .agg (ys.map (·.1)) := hd
      have hb2 := bulk_agg (ys.map (·.1)) y2.1 (List.mem_map.2 ⟨y2, List.mem_of_getElem? hy2, rfl⟩)
      refine ⟨(⟨z0, z1, pl⟩, v2), fun r u hu => ?_, hpl, by rw [hdi]; exact Nat.le_trans hplb hb2, hi⟩
      match r, hu with
      | 0, hu => simp only [webCells, List.getElem?_cons_zero, Option.some.injEq] at hu; rw [← hu]; exact c0
      | 1, hu => simp only [webCells, List.getElem?_cons_succ, List.getElem?_cons_zero, Option.some.injEq] at hu; rw [← hu]; exact c1
      | 2, hu => simp only [webCells, List.getElem?_cons_succ, List.getElem?_cons_zero, Option.some.injEq] at hu; rw [← hu]; exact c2
      | r + 3, hu => simp [webCells] at hu
    have hzip : (l.map (·.1)).zip (l.map (·.2)) = l := by
      rw [List.zip_map']
      simp
    refine ⟨l.map (·.1), ⟨l.map (·.2), ?_, by simp, fun i u x hu hx => ?_⟩, ?_, fun x hx => ?_⟩
    · have := rd_rows (fun z : WebD × Value => webCells z.1 z.2) 3 (fun _ => rfl) (by omega) (c := cap) (a := a) hl2 (by omega) fun i x r u hx hu => (hp i x hx).1 r u hu
      rw [hzip, List.length_map]
      rw [hl2] at this ⊢
      exact this
    · rw [List.getElem?_map] at hu hx
      obtain ⟨z, hz, rfl⟩ := Option.map_eq_some_iff.1 hu
      rw [hz] at hx
      simp only [Option.map_some, Option.some.injEq] at hx
      subst hx
      exact (hp i z hz).2.1
    · rw [List.length_map, hl2]
      simpa using hbs.1
    · obtain ⟨z, hz, rfl⟩ := List.mem_map.1 hx
      obtain ⟨i, hi, rfl⟩ := List.getElem_of_mem hz
      obtain ⟨-, -, h3, h4⟩ := hp i _ (List.getElem?_eq_getElem hi)
      exact Nat.le_trans h3 (hbs.2 _ (List.mem_map.2 ⟨i, List.mem_range.2 h4, rfl⟩))

set_option maxRecDepth 100000 in
theorem run_of {rc : Reach} {b0 : Nat} {v : Value} {d : DataW H} {p : List MemPlace} (hv : Value.okWide Try.prog w rc b0 26 v) (h : DataW.Trod enc Try.prog w base spare held 26 v d p) (hk : Rows.uptoBulk d ≤ 1048576) :
    ∃ r : RunD, RRun w.heap.size w v r ∧ Bounded r := by
  obtain ⟨v0, v1, v2, v3, y0, y1, y2, y3, n, rfl, rfl, -, t0, t1, t2, t3⟩ := open_agg4 Try.underlying26 (by kernel_rfl) (by kernel_rfl) hv h
  obtain ⟨ws, hw, hwl, hwp⟩ := webs_of t0
  obtain ⟨rs, hr, hrl⟩ := ribs_of t1
  obtain ⟨ss, hs, hsl, hsp⟩ := intss_of t2
  obtain ⟨c, rfl⟩ := field_bool t3
  have hb := bulk_agg [y0.1, y1.1, y2.1, y3.1]
  have b0 := hb y0.1 (by simp)
  have b1 := hb y1.1 (by simp)
  have b2 := hb y2.1 (by simp)
  exact ⟨⟨ws, rs, ss, c⟩, ⟨v0, v1, v2, rfl, hw, hr, hs⟩, by show ws.length ≤ _; omega, by show rs.length ≤ _; omega, by show ss.length ≤ _; omega, fun x hx => by have := hwp x hx; omega, fun s hs' => by have := hsp s hs'; omega⟩
end
end Go.Proofs.Ytdbfhdncjblleaa
