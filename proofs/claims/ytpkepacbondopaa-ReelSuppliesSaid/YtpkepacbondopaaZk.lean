/-
  ReelMills: what follows when one price is changed; lists of increasing weeks.
-/
import Derived.Test.YtpkepacbondopaaZf
import Derived.Test.YtpkepacbondopaaZj
namespace Go.Proofs.Ytpkepacbondopaa
open Go.RowKit Go.Shelf

/-- The prices with the k-th one changed. -/
def chP (s : SupD) (k : Nat) (b : Int) : List Int := (priceL s).set k ((priceL s).getD k 0 + b)
theorem chP_get {s : SupD} (hs : s.Ok) {k : Nat} (hk : k ≤ s.need.length) (b : Int) (j : Nat) : (chP s k b).getD j 0 = if k = j then (priceL s).getD k 0 + b else (priceL s).getD j 0 := by
  have hlen := priceL_len hs
  unfold chP
  rw [getD_set]
  by_cases h : k = j
  · rw [if_pos ⟨h, by omega⟩, if_pos h]
  · rw [if_neg (fun h' => h h'.1), if_neg h]
theorem chP_more {s : SupD} (hs : s.Ok) {k : Nat} (h1 : 1 ≤ k) (hk : k ≤ s.need.length) {b : Int} (hb : 0 < b) : ¬ Fea s (chP s k b) := by
  intro h
  obtain ⟨a, ha, he, h3⟩ := priceL_tight hs h1 hk
  have h4 := h a ha k he
  have h5 := batchN_mem ha he
  rw [chP_get hs hk, chP_get hs hk, if_pos rfl, if_neg (by omega)] at h4
  omega
theorem chP_last {s : SupD} (hs : s.Ok) {b : Int} (hb : b ≤ 0) : Fea s (chP s s.need.length b) := by
  intro a ha e he
  have h4 := priceL_fea hs a ha e he
  have h5 := batchN_mem ha he
  rw [chP_get hs (Nat.le_refl _), chP_get hs (Nat.le_refl _), if_neg (show ¬ s.need.length = a by omega)]
  split
  · rename_i h
    subst h
    omega
  · exact h4
theorem chP_cheap {s : SupD} (hs : s.Ok) {k : Nat} (h1 : 1 ≤ k) (hk : k ≤ s.need.length) {b : Int} (h : Fea s (chP s k b)) : (chP s k b).getD s.need.length 0 ≤ cheapOf s := by
  refine fea_cheap hs h ?_
  rw [chP_get hs hk, if_neg (by omega), priceL_zero hs]
theorem chP_prices {s : SupD} (hs : s.Ok) {k : Nat} (h1 : 1 ≤ k) (hk : k ≤ s.need.length) {b : Int} (hb : -40000 ≤ b ∧ b ≤ 40000) : pricesB s.need.length (chP s k b) = true := by
  have hw := hs.weeks
  have hlen : (chP s k b).length = s.need.length + 1 := by unfold chP; rw [List.length_set]; exact priceL_len hs
  have hlow := fun e he => price_low hs (B := 1000000) (fun k hk => (hs.order k hk).2) e he
  unfold pricesB
  rw [Bool.and_eq_true, Bool.and_eq_true, decide_eq_true_eq, decide_eq_true_eq, Bool.not_eq_true']
  refine ⟨⟨hlen, ?_⟩, List.any_eq_false.2 fun x hx => ?_⟩
  · rw [chP_get hs hk, if_neg (by omega), priceL_zero hs]
  · obtain ⟨j, hj, rfl⟩ := List.mem_iff_getElem.1 hx
    have h2 : (chP s k b)[j] = (chP s k b).getD j 0 := by rw [List.getD_eq_getElem?_getD, List.getElem?_eq_getElem hj, Option.getD_some]
    have h3 := hlow j (by omega)
    have h4 := hlow k hk
    unfold wideB
    rw [h2, chP_get hs hk, within_t]
    · decide
    · split <;> omega
    · split <;> omega
theorem priceL_prices {s : SupD} (hs : s.Ok) : pricesB s.need.length (priceL s) = true := by
  have hw := hs.weeks
  have h := chP_prices hs (k := 1) (Nat.le_refl _) hw.1 (b := 0) (by omega)
  have e : chP s 1 0 = priceL s := by
    have hlen := priceL_len hs
    unfold chP
    rw [Int.add_zero, List.getD_eq_getElem?_getD, List.getElem?_eq_getElem (by omega), Option.getD_some, List.set_getElem_self]
  rwa [e] at h
/-- A list of weeks that increases from 0 on is a schedule. -/
theorem sched_incr {m : Nat} : ∀ {l : List Nat} {a : Nat}, Incr m a l → (∀ i, i < l.length → stepB m (((a :: l : List Nat)).map fun n : Nat => (n : Int)) i = true) ∧ ∀ x ∈ (((a :: l : List Nat)).map fun n : Nat => (n : Int)), 0 ≤ x ∧ x < m
  | [], a, h => by
    have h' : a < m := h
    refine ⟨fun i hi => (by cases hi), fun x hx => ?_⟩
    simp only [List.map_cons, List.map_nil, List.mem_singleton] at hx
    omega
  | b :: l, a, h => by
    obtain ⟨h1, h2⟩ := sched_incr (m := m) h.2
    have hb := Incr.lt h.2
    have ha := h.1
    refine ⟨fun i hi => ?_, fun x hx => ?_⟩
    · cases i with
      | zero =>
        unfold stepB
        refine within_t ?_ ?_
        · show (a : Int) + 1 ≤ (b : Int)
          omega
        · show (b : Int) ≤ (m : Int) - 1
          omega
      | succ i => exact h1 i (by simp at hi; omega)
    · rw [List.map_cons] at hx
      rcases List.mem_cons.1 hx with rfl | hx
      · omega
      · exact h2 x hx
theorem sched_ok {m : Nat} {l : List Nat} (h : Incr m 0 l) : schedB m (((0 :: l : List Nat)).map fun n : Nat => (n : Int)) = true := by
  obtain ⟨h1, -⟩ := sched_incr h
  unfold schedB
  rw [Bool.and_eq_true, Bool.and_eq_true, decide_eq_true_eq, decide_eq_true_eq]
  refine ⟨⟨by simp, rfl⟩, List.all_eq_true.2 fun i hi => h1 i ?_⟩
  have := List.mem_range.1 hi
  simpa using this
theorem incr_snoc {m b : Nat} (hb : b < m) : ∀ {l : List Nat} {a : Nat}, Incr m a l → (∀ x ∈ a :: l, x < b) → Incr m a (l ++ [b])
  | [], a, _, hx => ⟨hx a (List.mem_singleton.2 rfl), hb⟩
  | c :: l, a, h, hx => ⟨h.1, incr_snoc hb h.2 fun x hx' => hx x (List.mem_cons_of_mem _ hx')⟩
end Go.Proofs.Ytpkepacbondopaa
