/-
  HALVES OF RIBBONS: what they are; rightHalf, leftHalf; what a right run gives.
-/
import Derived.Test.YtdbfhdncjblleaaI
namespace Go.Proofs.Ytdbfhdncjblleaa
open Go.RowKit

structure HalfD where
  web : Int
  col : Int
  s0 : Int
  s1 : Int
  deriving DecidableEq, Inhabited
structure SpotD where
  web : Int
  side : Int
  row : Int
  col : Int
  deriving DecidableEq, Inhabited
def rightHalfD (b : RibD) : HalfD := if b.turned then ⟨b.web, b.col, 0, 1⟩ else ⟨b.web, b.col + b.width - 1, 1, 0⟩
def leftHalfD (b : RibD) : HalfD := if b.turned then ⟨b.web, b.col + b.width - 1, 1, 0⟩ else ⟨b.web, b.col, 0, 1⟩
def HalfD.val (h : HalfD) : Value := .agg #[.int .i64 h.web, .int .i64 h.col, .int .i64 h.s0, .int .i64 h.s1]
def RibD.val (x : RibD) : Value := .agg #[.int .i64 x.web, .int .i64 x.col, .int .i64 x.width, .bool x.turned, .bool x.left]
def ribAt (r : RunD) (i : Int) : RibD := r.ribs.getD i.toNat default
def rightsD (r : RunD) (l : List Int) : List HalfD := ((l.map (ribAt r)).filter fun b => !b.left).map rightHalfD
def hasLeft (b : RibD) : Bool := decide (b.width = 2) || b.left
def leftsD (r : RunD) (l : List Int) : List HalfD := ((l.map (ribAt r)).filter hasLeft).map leftHalfD
def halvesD (r : RunD) (l : List Int) : List HalfD := rightsD r l ++ leftsD r l.reverse
def SpotD.cells (s : SpotD) : List Value := [.int .i64 s.web, .int .i64 s.side, .int .i64 s.row, .int .i64 s.col]
def halfSpots (row : Int) (h : HalfD) : List SpotD := [⟨h.web, h.s0, row, h.col⟩, ⟨h.web, h.s1, row, h.col⟩]
def spotsD (r : RunD) (l : List Int) (row : Int) : List SpotD := (halvesD r l).flatMap (halfSpots row)

set_option maxHeartbeats 400000 in
theorem rightHalf_any (b : RibD) (w : World) (h : 0 ≤ b.col ∧ b.col ≤ 1000 ∧ 0 ≤ b.width ∧ b.width ≤ 1000) :
    Calls Try.prog 86 #[b.val] w fun e w' => e = .returned (rightHalfD b).val ∧ Below w.heap.size w w' := by
  obtain ⟨web, col, width, turned, left⟩ := b
  obtain ⟨h1, h2, h3, h4⟩ := h
  dsimp only at h1 h2 h3 h4
  cases turned
  · unfold RibD.val
    go_enter Try.func86, Try.ntmps86
    go_wp2
    exact bodyPost_ret (v := .agg #[.int .i64 web, .int .i64 (col + width - 1), .int .i64 1, .int .i64 0]) (by simp [results, Try.results86, go_sem]) rfl ⟨rfl, ((Below.refl _ _).alloc (Nat.le_refl _) _).alloc (by simp) _⟩
  · unfold RibD.val
    go_enter Try.func86, Try.ntmps86
    go_wp2
    exact bodyPost_ret (v := .agg #[.int .i64 web, .int .i64 col, .int .i64 0, .int .i64 1]) (by simp [results, Try.results86, go_sem]) rfl ⟨rfl, ((Below.refl _ _).alloc (Nat.le_refl _) _).alloc (by simp) _⟩
set_option maxHeartbeats 400000 in
theorem leftHalf_any (b : RibD) (w : World) (h : 0 ≤ b.col ∧ b.col ≤ 1000 ∧ 0 ≤ b.width ∧ b.width ≤ 1000) :
    Calls Try.prog 87 #[b.val] w fun e w' => e = .returned (leftHalfD b).val ∧ Below w.heap.size w w' := by
  obtain ⟨web, col, width, turned, left⟩ := b
  obtain ⟨h1, h2, h3, h4⟩ := h
  dsimp only at h1 h2 h3 h4
  cases turned
  · unfold RibD.val
    go_enter Try.func87, Try.ntmps87
    go_wp2
    exact bodyPost_ret (v := .agg #[.int .i64 web, .int .i64 col, .int .i64 0, .int .i64 1]) (by simp [results, Try.results87, go_sem]) rfl ⟨rfl, ((Below.refl _ _).alloc (Nat.le_refl _) _).alloc (by simp) _⟩
  · unfold RibD.val
    go_enter Try.func87, Try.ntmps87
    go_wp2
    exact bodyPost_ret (v := .agg #[.int .i64 web, .int .i64 (col + width - 1), .int .i64 1, .int .i64 0]) (by simp [results, Try.results87, go_sem]) rfl ⟨rfl, ((Below.refl _ _).alloc (Nat.le_refl _) _).alloc (by simp) _⟩

/-- What a right run gives of its ribbons and its stacks. -/
theorem parts_ok {r : RunD} (h : checkE r = 0) : ∀ j, j < 5 → partE r j = 0 := by
  unfold checkE at h
  have a0 : partE r 0 = 0 := by
    by_cases e : partE r 0 = 0
    · exact e
    · rw [if_pos e] at h; exact h
  rw [if_neg (by rw [a0]; simp)] at h
  have a1 : partE r 1 = 0 := by
    by_cases e : partE r 1 = 0
    · exact e
    · rw [if_pos e] at h; exact h
  rw [if_neg (by rw [a1]; simp)] at h
  have a2 : partE r 2 = 0 := by
    by_cases e : partE r 2 = 0
    · exact e
    · rw [if_pos e] at h; exact h
  rw [if_neg (by rw [a2]; simp)] at h
  have a3 : partE r 3 = 0 := by
    by_cases e : partE r 3 = 0
    · exact e
    · rw [if_pos e] at h; exact h
  rw [if_neg (by rw [a3]; simp)] at h
  intro j hj
  match j, hj with
  | 0, _ => exact a0
  | 1, _ => exact a1
  | 2, _ => exact a2
  | 3, _ => exact a3
  | 4, _ => exact h

theorem ribs_ok2 {r : RunD} (h : partE r 2 = 0) : disjB r = true ∧ coverB r = true := by
  unfold partE ribsE at h
  cases h1 : disjB r with
  | false => rw [h1] at h; cases h
  | true =>
    cases h2 : coverB r with
    | false => rw [h1, h2] at h; cases h
    | true => exact ⟨rfl, rfl⟩
/-- A ribbon of a right run. -/
structure RibOk (r : RunD) (b : RibD) : Prop where
  web0 : 0 ≤ b.web
  web1 : b.web < r.webs.length
  width0 : 1 ≤ b.width
  width1 : b.width ≤ 2
  left : b.width = 2 → b.left = false
  col0 : 0 ≤ b.col
  col1 : b.col + b.width ≤ (r.webs.getD b.web.toNat default).cols
  col2 : b.col + b.width ≤ 4
theorem rib_ok {r : RunD} (h : checkE r = 0) {k : Nat} (hk : k < r.ribs.length) : RibOk r (r.ribs.getD k default) := by
  have hp := parts_ok h
  have hd := (ribs_ok2 (hp 2 (by omega))).1
  have := List.all_eq_true.1 hd k (List.mem_range.2 hk)
  simp only [Bool.and_eq_true] at this
  have hf := this.1
  generalize r.ribs.getD k default = b at hf ⊢
  have hf' := hf
  simp only [fitsB, Bool.and_eq_true, decide_eq_true_eq] at hf
  obtain ⟨⟨⟨h1, h2, h3, h4⟩, h7⟩, h5, h6⟩ := hf
  have hm : b.web.toNat < r.webs.length := by omega
  have hc := webs_ok (hp 1 (by omega)) _ (List.getElem_mem hm)
  have e : r.webs.getD b.web.toNat default = r.webs[b.web.toNat] := by rw [List.getD_eq_getElem?_getD, List.getElem?_eq_getElem hm]; rfl
  rw [e] at h6
  refine ⟨h1, h2, h3, h4, fun hw => ?_, h5, by rw [e]; omega, by omega⟩
  cases hl : b.left with
  | false => rfl
  | true => rw [hl, decide_eq_true hw] at h7; cases h7

theorem stacks_ok2 {r : RunD} (h : partE r 3 = 0) : (List.range r.stacks.length).all (stackB r) = true ∧ (List.range r.ribs.length).all (fun i => r.stacks.flatten.contains (i : Int)) = true := by
  unfold partE stacksE at h
  cases h1 : (List.range r.stacks.length).all (stackB r) with
  | false => rw [h1] at h; cases h
  | true =>
    cases h2 : (List.range r.ribs.length).all (fun i => r.stacks.flatten.contains (i : Int)) with
    | false => rw [h1, h2] at h; cases h
    | true => exact ⟨rfl, rfl⟩
theorem item_ok {r : RunD} (h : checkE r = 0) {k m : Nat} (hk : k < r.stacks.length) (hm : m < (r.stacks.getD k []).length) : itemB r k m = true := by
  have h1 := List.all_eq_true.1 (stacks_ok2 (parts_ok h 3 (by omega))).1 k (List.mem_range.2 hk)
  simp only [stackB, Bool.and_eq_true] at h1
  exact List.all_eq_true.1 h1.2 m (List.mem_range.2 hm)
theorem nodup_bound {l : List Int} {n : Nat} (hd : l.Nodup) (hb : ∀ x ∈ l, 0 ≤ x ∧ x < n) : l.length ≤ n := by
  have h1 : (l.map Int.toNat).Nodup := by
    rw [List.nodup_iff_pairwise_ne, List.pairwise_map]
    refine (List.nodup_iff_pairwise_ne.1 hd).imp_of_mem fun ha hb' hne e => hne ?_
    have := hb _ ha; have := hb _ hb'; omega
  have h2 : ∀ x ∈ l.map Int.toNat, x ∈ List.range n := fun x hx => by
    obtain ⟨y, hy, rfl⟩ := List.mem_map.1 hx
    have := hb y hy
    exact List.mem_range.2 (by omega)
  have := h1.length_le_of_subset h2
  simpa using this
/-- All that the stacks hold, one behind the other, is without repetition. -/
theorem flat_nodup {r : RunD} (h : checkE r = 0) : ∀ k, k ≤ r.stacks.length → (r.stacks.take k).flatten.Nodup
  | 0, _ => by simp
  | k + 1, hk => by
    have hlt : k < r.stacks.length := by omega
    have ih := flat_nodup h k (by omega)
    have hx : r.stacks[k]? = some r.stacks[k] := List.getElem?_eq_getElem hlt
    have hg : r.stacks.getD k [] = r.stacks[k] := getD_of hx
    have hm : ∀ m, m ≤ (r.stacks[k]).length → ((r.stacks.take k).flatten ++ (r.stacks[k]).take m).Nodup := by
      intro m
      induction m with
      | zero => intro _; simpa using ih
      | succ m ihm =>
        intro hm
        have hm' : m < (r.stacks[k]).length := by omega
        have hi := item_ok h hlt (by rw [hg]; exact hm')
        simp only [itemB, doneL, Bool.and_eq_true, Bool.not_eq_true'] at hi
        have hi2 := hi.2
        rw [hg, List.getD_eq_getElem?_getD, List.getElem?_eq_getElem hm', Option.getD_some] at hi2
        have hn : (r.stacks[k])[m] ∉ (r.stacks.take k).flatten ++ (r.stacks[k]).take m := fun hmem => by
          rw [List.contains_iff_mem.2 hmem] at hi2; cases hi2
        rw [List.take_succ_eq_append_getElem hm', ← List.append_assoc]
        refine List.nodup_append.2 ⟨ihm (by omega), by simp, fun a ha b hb => ?_⟩
        rw [List.mem_singleton] at hb
        subst hb
        rintro rfl
        exact hn ha
    have := hm _ (Nat.le_refl _)
    rw [List.take_length] at this
    rw [List.take_succ_eq_append_getElem hlt, List.flatten_append]
    simpa using this
theorem stack_items {r : RunD} (h : checkE r = 0) {k : Nat} {l : List Int} (hl : r.stacks[k]? = some l) : ∀ i ∈ l, 0 ≤ i ∧ i < r.ribs.length := by
  intro i hi
  obtain ⟨hk, rfl⟩ := List.getElem?_eq_some_iff.1 hl
  have hg : r.stacks.getD k [] = r.stacks[k] := getD_of hl
  obtain ⟨m, hm, rfl⟩ := List.getElem_of_mem hi
  have := item_ok h hk (m := m) (by rw [hg]; exact hm)
  simp only [itemB, Bool.and_eq_true, decide_eq_true_eq] at this
  have h1 := this.1
  rw [hg, List.getD_eq_getElem?_getD, List.getElem?_eq_getElem hm, Option.getD_some] at h1
  exact h1
theorem stack_len {r : RunD} (h : checkE r = 0) {k : Nat} {l : List Int} (hl : r.stacks[k]? = some l) : l.length ≤ 32 := by
  obtain ⟨hk, rfl⟩ := List.getElem?_eq_some_iff.1 hl
  have hn : (r.stacks[k]).Nodup := by
    have := flat_nodup h (k + 1) (by omega)
    rw [List.take_succ_eq_append_getElem hk, List.flatten_append] at this
    simpa using (List.nodup_append.1 this).2.1
  have h1 := nodup_bound hn (stack_items h hl)
  have h2 := (numbers_ok (parts_ok h 0 (by omega))).2.2.2.1
  omega
end Go.Proofs.Ytdbfhdncjblleaa
