/-
  The reference's Check, plain: what it asks of a run is what the program asks.
-/
import Derived.Test.YtdbfhdncjblleaaRc
namespace Go.Proofs.Ytdbfhdncjblleaa
open Go.RowKit

theorem check_20 {r : RunD} (h0 : partE r 0 = 0) (h1 : partE r 1 = 0) (hn : checkE r ≠ 0) : checkE r = 20 := by
  unfold checkE at hn ⊢
  rw [if_neg (by rw [h0]; simp), if_neg (by rw [h1]; simp)] at hn ⊢
  have e2 : partE r 2 = 0 ∨ partE r 2 = 20 := by
    show ribsE r = 0 ∨ ribsE r = 20
    unfold ribsE; split <;> simp
  have e3 : partE r 3 = 0 ∨ partE r 3 = 20 := by
    show stacksE r = 0 ∨ stacksE r = 20
    unfold stacksE; split <;> simp
  have e4 : partE r 4 = 0 ∨ partE r 4 = 20 := by
    show collE r = 0 ∨ collE r = 20
    unfold collE; split <;> simp
  rcases e2 with e2 | e2 <;> rcases e3 with e3 | e3 <;> rcases e4 with e4 | e4 <;> simp [e2, e3, e4] at hn ⊢
theorem c_fits {r : RunD} (h : checkE r = 0) {k : Nat} {x : RibD} (hx : r.ribs[k]? = some x) : fitsB r x = true := by
  have hd := (ribs_ok2 (parts_ok h 2 (by omega))).1
  have := List.all_eq_true.1 hd k (List.mem_range.2 (List.getElem?_eq_some_iff.1 hx).1)
  simp only [Bool.and_eq_true] at this
  rw [getD_of hx] at this
  exact this.1
theorem count_one {l : List Int} (hn : l.Nodup) {i : Int} (hi : i ∈ l) : l.count i = 1 := by
  induction l with
  | nil => cases hi
  | cons x l ih =>
    rw [List.nodup_cons] at hn
    rcases List.mem_cons.1 hi with rfl | h
    · rw [List.count_cons_self, List.count_eq_zero_of_not_mem hn.1]
    · have hne : x ≠ i := fun e => hn.1 (by rw [e]; exact h)
      rw [List.count_cons_of_ne hne]
      exact ih hn.2 h
theorem c_has {r : RunD} (h : checkE r = 0) {i : Nat} (hi : i < r.ribs.length) : (i : Int) ∈ r.stacks.flatten := by
  have h2 := List.all_eq_true.1 (stacks_ok2 (parts_ok h 3 (by omega))).2 i (List.mem_range.2 hi)
  exact List.contains_iff_mem.1 h2
theorem c_stacks {r : RunD} (h : checkE r = 0) {i : Nat} (hi : i < r.ribs.length) : stN r.stacks i = 1 := count_one (stacks_flat h) (c_has h hi)
theorem countP_le_one {α : Type} {p : α → Bool} : ∀ {l : List α}, (∀ (i j : Nat) (x y : α), i < j → l[i]? = some x → l[j]? = some y → p x = true → p y = true → False) → l.countP p ≤ 1
  | [], _ => by simp
  | x :: l, h => by
    rw [List.countP_cons]
    have ih := countP_le_one (l := l) fun i j a b hij ha hb pa pb => h (i + 1) (j + 1) a b (by omega) ha hb pa pb
    by_cases hp : p x = true
    · rw [if_pos hp]
      have : l.countP p = 0 := by
        rw [List.countP_eq_zero]
        intro y hy hpy
        obtain ⟨j, hj, rfl⟩ := List.getElem_of_mem hy
        exact h 0 (j + 1) x _ (by omega) rfl (by rw [List.getElem?_cons_succ]; exact List.getElem?_eq_getElem hj) hp hpy
      omega
    · rw [if_neg hp]; omega
theorem c_cols {r : RunD} (h : checkE r = 0) {a c : Nat} {x : WebD} (hx : r.webs[a]? = some x) (hc : (c : Int) < x.cols) : colN r.ribs a c = 1 := by
  have h1 : colN r.ribs a c ≤ 1 := by
    refine countP_le_one fun i j y z hij hy hz py pz => ?_
    have hj := (List.getElem?_eq_some_iff.1 hz).1
    unfold colP at py pz
    simp only [decide_eq_true_eq] at py pz
    refine rib_apart h hij hj (c : Int) ?_
    rw [getD_of hy, getD_of hz]
    omega
  have h2 : cov r.ribs a c = true := by
    have := List.all_eq_true.1 (ribs_ok2 (parts_ok h 2 (by omega))).2 a (List.mem_range.2 (List.getElem?_eq_some_iff.1 hx).1)
    have := List.all_eq_true.1 this c (List.mem_range.2 (by rw [getD_of hx]; omega))
    exact this
  unfold cov at h2
  obtain ⟨y, hy, hp⟩ := List.any_eq_true.1 h2
  have : 0 < colN r.ribs a c := List.countP_pos_iff.2 ⟨y, hy, hp⟩
  omega
theorem c_full {r : RunD} (h : checkE r = 0) {s : List Int} (hs : s ∈ r.stacks) : s.length ≠ 0 := by
  obtain ⟨k, hk, rfl⟩ := List.getElem_of_mem hs
  have h1 := List.all_eq_true.1 (stacks_ok2 (parts_ok h 3 (by omega))).1 k (List.mem_range.2 hk)
  simp only [stackB, Bool.and_eq_true, decide_eq_true_eq] at h1
  rw [getD_of (List.getElem?_eq_getElem hk)] at h1
  exact h1.1
def idL (n : Nat) : List Int := (List.range n).map fun (i : Nat) => (i : Int)
theorem idL_nodup (n : Nat) : (idL n).Nodup := by
  unfold idL
  rw [List.nodup_iff_pairwise_ne, List.pairwise_map]
  exact (List.nodup_iff_pairwise_ne.1 List.nodup_range).imp fun h e => h (by omega)
theorem c_many {r : RunD} (h : checkE r = 0) : r.stacks.flatten.length = r.ribs.length := by
  have h1 := nodup_bound (stacks_flat h) (n := r.ribs.length) fun x hx => by
    obtain ⟨s, hs, hxs⟩ := List.mem_flatten.1 hx
    exact stacks_range h s hs x hxs
  have h2 := (idL_nodup r.ribs.length).length_le_of_subset (l₂ := r.stacks.flatten) fun x hx => by
    obtain ⟨i, hi, rfl⟩ := List.mem_map.1 hx
    exact c_has h (List.mem_range.1 hi)
  unfold idL at h2
  simp at h2
  simp at h1 h2 ⊢
  omega
/-- What the reference has asked when it has found nothing wrong. -/
theorem c_ok {r : RunD} (h0 : partE r 0 = 0) (h1 : partE r 1 = 0) (hf : ∀ x ∈ r.ribs, fitsB r x = true) (hs : ∀ i : Nat, i < r.ribs.length → stN r.stacks i = 1)
    (hc : ∀ (a c : Nat) (x : WebD), r.webs[a]? = some x → (c : Int) < x.cols → colN r.ribs a c = 1) (hfull : ∀ s ∈ r.stacks, s.length ≠ 0) (hm : r.stacks.flatten.length = r.ribs.length) (hcoll : r.coll = true → rows0 r = 2) : checkE r = 0 := by
  have hw := webs_ok h1
  -- the ribbons
  have hdis : disjB r = true := by
    refine List.all_eq_true.2 fun k hk => ?_
    have hk := List.mem_range.1 hk
    have hx : r.ribs[k]? = some r.ribs[k] := List.getElem?_eq_getElem hk
    rw [getD_of hx]
    have hfx := hf _ (List.getElem_mem hk)
    rw [hfx, Bool.true_and]
    obtain ⟨a, p, e1, e2, ha, w1, w2, -⟩ := fits_elim hfx fun y hy => ⟨(hw y hy).1, (hw y hy).2.1⟩
    have hxa : r.webs[a]? = some r.webs[a] := List.getElem?_eq_getElem ha
    have hfit := hfx
    simp only [fitsB, Bool.and_eq_true, decide_eq_true_eq] at hfit
    have h6 := hfit.2.2
    rw [e1, Int.toNat_natCast, getD_of hxa] at h6
    refine List.all_eq_true.2 fun j hj => ?_
    have hj := List.mem_range.1 hj
    cases hcv : cov (r.ribs.take k) (r.ribs[k]).web.toNat ((r.ribs[k]).col.toNat + j) with
    | false => rfl
    | true =>
      exfalso
      rw [e1, e2, Int.toNat_natCast, Int.toNat_natCast] at hcv
      have h1' := hc a (p + j) _ hxa (by omega)
      have hcnt : colN r.ribs a ((p + j : Nat) : Int) = colN (r.ribs.take k) a ((p + j : Nat) : Int) + (r.ribs.drop k).countP (colP a ((p + j : Nat) : Int)) := by
        unfold colN
        rw [← List.countP_append, List.take_append_drop]
      have ha1 : 0 < colN (r.ribs.take k) a ((p + j : Nat) : Int) := by
        obtain ⟨y, hy, hp⟩ := List.any_eq_true.1 hcv
        exact List.countP_pos_iff.2 ⟨y, hy, hp⟩
      have ha2 : 0 < (r.ribs.drop k).countP (colP a ((p + j : Nat) : Int)) := by
        refine List.countP_pos_iff.2 ⟨r.ribs[k], ?_, ?_⟩
        · rw [List.drop_eq_getElem_cons hk]; exact List.mem_cons_self
        · unfold colP
          simp only [decide_eq_true_eq]
          omega
      omega
  have hcov : coverB r = true := by
    refine List.all_eq_true.2 fun a ha => List.all_eq_true.2 fun c hcc => ?_
    have ha := List.mem_range.1 ha
    have hxa : r.webs[a]? = some r.webs[a] := List.getElem?_eq_getElem ha
    rw [getD_of hxa] at hcc
    have hcc := List.mem_range.1 hcc
    have h1' := hc a c _ hxa (by omega)
    obtain ⟨y, hy, hp⟩ := List.countP_pos_iff.1 (show 0 < r.ribs.countP (colP a c) by unfold colN at h1'; omega)
    exact List.any_eq_true.2 ⟨y, hy, hp⟩
  -- the stacks
  have hin : ∀ x ∈ r.stacks.flatten, 0 ≤ x ∧ x < r.ribs.length := by
    intro x hx
    have hd : Decidable (0 ≤ x ∧ x < (r.ribs.length : Int)) := inferInstance
    by_cases hb : 0 ≤ x ∧ x < (r.ribs.length : Int)
    · exact hb
    · exfalso
      have h2 := (idL_nodup r.ribs.length).length_le_of_subset (l₂ := r.stacks.flatten.erase x) fun y hy => by
        obtain ⟨i, hi, rfl⟩ := List.mem_map.1 hy
        have hi := List.mem_range.1 hi
        have h3 := hs i hi
        refine (List.mem_erase_of_ne (fun e => hb (by omega))).2 ?_
        exact List.count_pos_iff.1 (by unfold stN at h3; omega)
      have h3 := List.length_erase_of_mem hx
      have h4 := List.length_pos_of_mem hx
      unfold idL at h2
      rw [List.length_map, List.length_range] at h2
      omega
  have hone : ∀ x ∈ r.stacks.flatten, r.stacks.flatten.count x = 1 := by
    intro x hx
    obtain ⟨h2, h3⟩ := hin x hx
    have := hs x.toNat (by omega)
    unfold stN at this
    rwa [Int.toNat_of_nonneg h2] at this
  have hst : (List.range r.stacks.length).all (stackB r) = true := by
    refine List.all_eq_true.2 fun k hk => ?_
    have hk := List.mem_range.1 hk
    have hx : r.stacks[k]? = some r.stacks[k] := List.getElem?_eq_getElem hk
    unfold stackB
    rw [Bool.and_eq_true, decide_eq_true_eq, getD_of hx]
    refine ⟨hfull _ (List.getElem_mem hk), List.all_eq_true.2 fun m hm' => ?_⟩
    have hm' := List.mem_range.1 hm'
    have hi : (r.stacks[k])[m]? = some (r.stacks[k])[m] := List.getElem?_eq_getElem hm'
    unfold itemB doneL
    rw [Bool.and_eq_true, decide_eq_true_eq, getD_of hx, getD_of hi]
    have hmem : (r.stacks[k])[m] ∈ r.stacks.flatten := List.mem_flatten.2 ⟨_, List.getElem_mem hk, List.getElem_mem hm'⟩
    refine ⟨hin _ hmem, ?_⟩
    cases hct : ((r.stacks.take k).flatten ++ (r.stacks[k]).take m).contains (r.stacks[k])[m] with
    | false => rfl
    | true =>
      exfalso
      have hc1 := List.contains_iff_mem.1 hct
      have hc2 := hone _ hmem
      have hsplit : r.stacks.flatten = ((r.stacks.take k).flatten ++ (r.stacks[k]).take m) ++ ((r.stacks[k])[m] :: ((r.stacks[k]).drop (m + 1) ++ (r.stacks.drop (k + 1)).flatten)) := by
        have e1 : r.stacks = r.stacks.take k ++ (r.stacks[k] :: r.stacks.drop (k + 1)) := by rw [← List.drop_eq_getElem_cons hk, List.take_append_drop]
        have e2 : r.stacks[k] = (r.stacks[k]).take m ++ ((r.stacks[k])[m] :: (r.stacks[k]).drop (m + 1)) := by rw [← List.drop_eq_getElem_cons hm', List.take_append_drop]
        have e3 : r.stacks.flatten = (r.stacks.take k).flatten ++ (r.stacks[k] ++ (r.stacks.drop (k + 1)).flatten) := by
          conv => lhs; rw [e1]
          rw [List.flatten_append, List.flatten_cons]
        rw [e3]
        conv => lhs; rw [e2]
        simp only [List.append_assoc, List.cons_append]
      rw [hsplit, List.count_append, List.count_cons_self] at hc2
      have := List.count_pos_iff.2 hc1
      omega
  have hall : (List.range r.ribs.length).all (fun i => r.stacks.flatten.contains (i : Int)) = true := by
    refine List.all_eq_true.2 fun i hi => ?_
    have h3 := hs i (List.mem_range.1 hi)
    exact List.contains_iff_mem.2 (List.count_pos_iff.1 (by unfold stN at h3; omega))
  refine check_ok fun j hj => ?_
  match j, hj with
  | 0, _ => exact h0
  | 1, _ => exact h1
  | 2, _ =>
    show ribsE r = 0
    unfold ribsE
    rw [hdis, hcov]; rfl
  | 3, _ =>
    show stacksE r = 0
    unfold stacksE
    rw [hst, hall]; rfl
  | 4, _ =>
    show collE r = 0
    unfold collE
    cases hcc : r.coll with
    | false => rfl
    | true => rw [hcoll hcc]; rfl
theorem flat_sum (l : List (List Int)) (k : Nat) {s : List Int} (h : l[k]? = some s) : (l.take (k + 1)).flatten.length = (l.take k).flatten.length + s.length := by
  rw [List.take_add_one, h, List.flatten_append, List.length_append]
  simp
end Go.Proofs.Ytdbfhdncjblleaa
