/-
  Plain for AgentFair: the generator's orders are right; what is shared is fair.
-/
import Derived.Test.YtlmpbmlbllndcaaHf
namespace Go.Proofs.Ytlmpbmlbllndcaa

theorem ordOf_ok (k : Nat) (hk : k < 1000) (x y : Int) : (ordOf k x y).ok := by
  have h0 : 0 ≤ x % 60 := Int.emod_nonneg _ (by omega)
  have h1 : 0 ≤ y % (x % 60 + 1) := Int.emod_nonneg _ (by omega)
  have h2 : y % (x % 60 + 1) < x % 60 + 1 := Int.emod_lt_of_pos _ (by omega)
  unfold OrdD.ok ordOf
  simp only
  omega
theorem ords_ok (data : List Int) : ∀ o ∈ ordsOf data, o.ok ∧ o.cop ≤ 59 := fun o ho => by
  obtain ⟨i, hi, rfl⟩ := List.mem_map.1 ho
  have hi := List.mem_range.1 hi
  refine ⟨ordOf_ok i (by unfold nOrds at hi; omega) _ _, ?_⟩
  unfold ordOf
  simp only
  omega
theorem ords_len (data : List Int) : (ordsOf data).length = nOrds data := ordTo_len _ _
theorem foE_of : ∀ (l : List OrdD) (met : List Int), (∀ o ∈ l, o.ok) → (l.map OrdD.ag).Nodup → (∀ o ∈ l, o.ag ∉ met) → foE met l = 0
  | [], _, _, _, _ => rfl
  | o :: l, met, h1, h2, h3 => by
    unfold foE
    rw [List.map_cons, List.nodup_cons] at h2
    rw [if_pos (OrdD.okB_iff.2 (h1 o List.mem_cons_self)), if_neg (h3 o List.mem_cons_self)]
    refine foE_of l _ (fun x hx => h1 x (List.mem_cons_of_mem _ hx)) h2.2 fun x hx hm => ?_
    rcases addS_mem.1 hm with e | e
    · exact h2.1 (List.mem_map.2 ⟨x, hx, e⟩)
    · exact h3 x (List.mem_cons_of_mem _ hx) e
theorem ords_fo (data : List Int) : foE [] (ordsOf data) = 0 := by
  refine foE_of _ _ (fun o ho => (ords_ok data o ho).1) ?_ fun o _ hm => by cases hm
  unfold ordsOf ordTo
  rw [List.map_map]
  refine List.pairwise_map.2 (List.nodup_range.imp fun {a b} hne e => hne ?_)
  simp only [Function.comp, ordOf] at e
  omega
theorem ords_ordE (data : List Int) (c : Int) (hc : 0 ≤ c) : ordE (ordsOf data) c = if c - lstK (ordsOf data) (ordsOf data).length < 0 then 4 else 0 := by
  unfold ordE
  rw [if_neg (by rw [ords_len]; unfold nOrds; omega), if_pos (ords_fo data), if_neg (by omega)]
theorem least0_eq (l : List OrdD) : least0 l = leastL l := rfl
theorem lstK_all (l : List OrdD) : lstK l l.length = sumI (least0 l) := by
  unfold lstK least0
  rw [List.take_length]
section
variable {l : List OrdD} {c : Int}
theorem shares_given (hd : ∀ o ∈ l, o.ok) : Given l (sharesD l c) := (given0 hd).steps _
theorem shares_even (hd : ∀ o ∈ l, o.ok) : Even l (sharesD l c) := Even.steps hd (given0 hd) (even_start l) _
theorem shares_sum (hd : ∀ o ∈ l, o.ok) (hc : lstK l l.length ≤ c) : sumI (sharesD l c) = min c (allC l) := by
  unfold sharesD leftC
  rw [sum_steps (given0 hd), ← lstK_all]
  rw [show lstK l l.length + ((c - lstK l l.length).toNat : Int) = c by omega]
theorem shares_more (hc : lstK l l.length ≤ c) : sharesD l (c + 1) = stepS l (sharesD l c) := by
  unfold sharesD leftC
  rw [show (c + 1 - lstK l l.length).toNat = (c - lstK l l.length).toNat + 1 by omega]
  rfl
theorem okTo_yes {g : List Int} (h : Given l g) : okTo l g l.length = true := List.all_eq_true.2 fun i hi => inB_iff.2 (h.at_ i (List.mem_range.1 hi))
theorem even_evB {g : List Int} (h : Even l g) : evenB l g = true := evenB_yes fun i j hi hj => by
  unfold evB
  by_cases h1 : leastAt l i < g.getD i 0
  · by_cases h2 : g.getD j 0 < copAt l j
    · have := h i j hi hj h1 h2
      rw [decide_eq_false (show ¬ g.getD j 0 * copAt l i < (g.getD i 0 - 1) * copAt l j by omega), Bool.and_false]
    · rw [decide_eq_false h2, Bool.and_false, Bool.false_and]
  · rw [decide_eq_false h1, Bool.false_and, Bool.false_and]
theorem shares_fair (hd : ∀ o ∈ l, o.ok) (h : ordE l c = 0) (hc : lstK l l.length ≤ c) : fairE l c (sharesD l c) = 0 ∧ fairB l c (sharesD l c) = true := by
  have h1 : fairE l c (sharesD l c) = 0 := by unfold fairE; rw [if_pos h, if_pos (shares_len hd)]
  refine ⟨h1, ?_⟩
  unfold fairB
  rw [decide_eq_true h1, even_evB (shares_even hd)]
  unfold allowB
  rw [okTo_yes (shares_given hd), decide_eq_true (shares_sum hd hc)]
  rfl
end
end Go.Proofs.Ytlmpbmlbllndcaa
