/-
  Prices and cheapest, plain: the prices are potentials, each of them tight; what they prove is what the cheapest schedule costs; no prices prove more, no schedule costs less.
-/
import Derived.Test.YtpkepacbondopaaMi
namespace Go.Proofs.Ytpkepacbondopaa
open Go.RowKit Go.Shelf

theorem foldl_or {s : SupD} {k : Nat} : ∀ (l : List Nat) {L : List Int}, (∀ e ∈ l, k < e ∧ e < L.length) →
    (∀ j, j ≤ k → (l.foldl (stepE s k) L).getD j 0 = L.getD j 0) ∧ ∀ j, (l.foldl (stepE s k) L).getD j 0 = L.getD j 0 ∨ (j ∈ l ∧ (l.foldl (stepE s k) L).getD j 0 = L.getD k 0 + costE s k j)
  | [], L, _ => ⟨fun _ _ => rfl, fun _ => .inl rfl⟩
  | e :: l, L, hl => by
    obtain ⟨h1, h2⟩ := hl e (List.mem_cons_self ..)
    have hE : ∀ j, (stepE s k L e).getD j 0 = if e = j then min (L.getD e 0) (L.getD k 0 + costE s k e) else L.getD j 0 := fun j => by
      unfold stepE
      rw [getD_set]
      by_cases hj : e = j
      · rw [if_pos ⟨hj, h2⟩, if_pos hj]
      · rw [if_neg (fun h => hj h.1), if_neg hj]
    have hlen : (stepE s k L e).length = L.length := by unfold stepE; rw [List.length_set]
    obtain ⟨h3, h4⟩ := foldl_or (s := s) (k := k) l (L := stepE s k L e) (fun x hx => by rw [hlen]; exact hl x (List.mem_cons_of_mem _ hx))
    have hk : (stepE s k L e).getD k 0 = L.getD k 0 := by rw [hE, if_neg (by omega)]
    refine ⟨fun j hj => ?_, fun j => ?_⟩
    · show (l.foldl (stepE s k) (stepE s k L e)).getD j 0 = _
      rw [h3 j hj, hE, if_neg (by omega)]
    · show (l.foldl (stepE s k) (stepE s k L e)).getD j 0 = _ ∨ _ ∧ (l.foldl (stepE s k) (stepE s k L e)).getD j 0 = _
      rcases h4 j with h | ⟨h, h5⟩
      · rw [h, hE]
        by_cases hj : e = j
        · subst hj
          rw [if_pos rfl]
          by_cases hm : L.getD e 0 ≤ L.getD k 0 + costE s k e
          · left; omega
          · right; exact ⟨List.mem_cons_self .., by omega⟩
        · rw [if_neg hj]; exact .inl rfl
      · right
        exact ⟨List.mem_cons_of_mem _ h, by rw [h5, hk]⟩
/-- The prices when the weeks below the k-th are done. -/
structure PrT (s : SupD) (k : Nat) (L : List Int) : Prop where
  bnd : PrB s k L
  zero : L.getD 0 0 = 0
  fea : ∀ a, a < k → ∀ e ∈ batchN s a, L.getD e 0 ≤ L.getD a 0 + costE s a e
  tig : ∀ e, 1 ≤ e → e ≤ s.need.length → L.getD e 0 = big ∨ ∃ a, a < k ∧ e ∈ batchN s a ∧ L.getD e 0 = L.getD a 0 + costE s a e
theorem PrT.next {s : SupD} (hs : s.Ok) {k : Nat} (hk : k < s.need.length) {L : List Int} (h : PrT s k L) : PrT s (k + 1) (weekP s k L) := by
  obtain ⟨h1, h2, h3, h4⟩ := foldl_step hs (batchN s k) (fun e he => batchN_mem hk he) h.bnd
  obtain ⟨h5, h6⟩ := foldl_or (s := s) (k := k) (batchN s k) (L := L) (fun e he => by have := batchN_mem hk he; have := h.bnd.len; omega)
  refine ⟨h.bnd.next hs hk, ?_, fun a ha e he => ?_, fun e he1 he2 => ?_⟩
  · unfold weekP
    rw [h5 0 (Nat.zero_le _)]
    exact h.zero
  · unfold weekP
    rcases Nat.lt_or_ge a k with hlt | hge
    · rw [h5 a (by omega)]
      exact Int.le_trans (h3 e) (h.fea a hlt e he)
    · obtain rfl : a = k := by omega
      rw [h2]
      exact h4 e he
  · unfold weekP
    rcases h6 e with h7 | ⟨h7, h8⟩
    · rw [h7]
      rcases h.tig e he1 he2 with h9 | ⟨a, ha, hb, hc⟩
      · exact .inl h9
      · exact .inr ⟨a, by omega, hb, by rw [h5 a (by omega)]; exact hc⟩
    · exact .inr ⟨k, by omega, h7, by rw [h8, h2]⟩
theorem PrT.start (s : SupD) : PrT s 0 (0 :: List.replicate s.need.length big) := by
  refine ⟨PrB.start s, rfl, fun a ha => by omega, fun e h1 h2 => .inl ?_⟩
  obtain ⟨j, rfl⟩ : ∃ j, e = j + 1 := ⟨e - 1, by omega⟩
  rw [List.getD_cons_succ, List.getD_eq_getElem?_getD, List.getElem?_replicate, if_pos (by omega)]
  rfl
theorem pricesTo_tight {s : SupD} (hs : s.Ok) : ∀ k, k ≤ s.need.length → PrT s k (pricesTo s k)
  | 0, _ => PrT.start s
  | k + 1, hk => by
    rw [pricesTo_next]
    exact (pricesTo_tight hs k (by omega)).next hs (by omega)
/-- What Prices returns. -/
def priceL (s : SupD) : List Int := pricesTo s s.need.length
theorem priceL_len {s : SupD} (hs : s.Ok) : (priceL s).length = s.need.length + 1 := (pricesTo_ok hs _ (Nat.le_refl _)).len
theorem priceL_zero {s : SupD} (hs : s.Ok) : (priceL s).getD 0 0 = 0 := (pricesTo_tight hs _ (Nat.le_refl _)).zero
/-- The lists that prove something: each batch costs at least what the price rises by. -/
def Fea (s : SupD) (p : List Int) : Prop := ∀ a, a < s.need.length → ∀ e ∈ batchN s a, p.getD e 0 ≤ p.getD a 0 + costE s a e
theorem priceL_fea {s : SupD} (hs : s.Ok) : Fea s (priceL s) := (pricesTo_tight hs _ (Nat.le_refl _)).fea
theorem priceL_tight {s : SupD} (hs : s.Ok) {e : Nat} (h1 : 1 ≤ e) (h2 : e ≤ s.need.length) : ∃ a, a < s.need.length ∧ e ∈ batchN s a ∧ (priceL s).getD e 0 = (priceL s).getD a 0 + costE s a e := by
  have h := pricesTo_tight hs _ (Nat.le_refl _)
  refine (h.tig e h1 h2).resolve_left fun h9 => ?_
  have h3 := h.bnd.low e h2
  have h4 := hs.weeks
  rw [h9] at h3
  unfold big at h3
  omega
/-- What the weeks from a week on cost at least. -/
def restOf (s : SupD) (a : Nat) : Int := (chTo s s.need.length).2.getD a 0
theorem restOf_all {s : SupD} (hs : s.Ok) : ChB s 0 (chTo s s.need.length) := by
  have := chTo_ok hs _ (Nat.le_refl _)
  rwa [Nat.sub_self] at this
/-- No prices prove more than the least cost, from any week on. -/
theorem fea_le {s : SupD} (hs : s.Ok) {p : List Int} (hp : Fea s p) : ∀ d a, a + d = s.need.length → p.getD s.need.length 0 - p.getD a 0 ≤ restOf s a := by
  have hc := restOf_all hs
  intro d
  induction d using Nat.strongRecOn with
  | _ d ih =>
    intro a ha
    rcases Nat.eq_zero_or_pos d with h0 | h0
    · obtain rfl : a = s.need.length := by omega
      have := hc.fin
      unfold restOf
      omega
    · obtain ⟨e, -, h2, h3⟩ := hc.ans a (Nat.zero_le _) (by omega)
      have h4 := batchN_mem (by omega) h2
      have h5 := ih (s.need.length - e) (by omega) e (by omega)
      have h6 := hp a (by omega) e h2
      unfold restOf at *
      omega
theorem fea_cheap {s : SupD} (hs : s.Ok) {p : List Int} (hp : Fea s p) (h0 : p.getD 0 0 = 0) : p.getD s.need.length 0 ≤ cheapOf s := by
  have := fea_le hs hp s.need.length 0 (by omega)
  unfold restOf at this
  unfold cheapOf
  omega
theorem price_ge {s : SupD} (hs : s.Ok) : ∀ e, e ≤ s.need.length → cheapOf s - restOf s e ≤ (priceL s).getD e 0 := by
  have hc := restOf_all hs
  intro e
  induction e using Nat.strongRecOn with
  | _ e ih =>
    intro he
    rcases Nat.eq_zero_or_pos e with h0 | h0
    · subst h0
      rw [priceL_zero hs]
      unfold cheapOf restOf
      omega
    · obtain ⟨a, h1, h2, h3⟩ := priceL_tight hs (e := e) h0 he
      have h4 := batchN_mem h1 h2
      have h5 := ih a h4.1 (by omega)
      have h6 := hc.min_ a (Nat.zero_le _) h1 e h2
      unfold restOf at *
      omega
/-- What the prices prove is what the cheapest schedule costs. -/
theorem price_cheap {s : SupD} (hs : s.Ok) : (priceL s).getD s.need.length 0 = cheapOf s := by
  have h1 := fea_cheap hs (priceL_fea hs) (priceL_zero hs)
  have h2 := price_ge hs s.need.length (Nat.le_refl _)
  have h3 := (restOf_all hs).fin
  unfold restOf at h2
  omega
theorem mem_batchN {s : SupD} {a e : Nat} (ha : a < s.need.length) : e ∈ batchN s a ↔ (a < e ∧ e ≤ s.need.length) ∧ okE s a e = true := by
  constructor
  · intro h
    refine ⟨batchN_mem ha h, ?_⟩
    unfold batchN at h
    rcases List.mem_append.1 h with h | h
    · split at h
      · rename_i hok; rw [List.mem_singleton.1 h]; exact hok
      · cases h
    · obtain ⟨j, hj, rfl⟩ := List.mem_map.1 h
      exact (List.mem_filter.1 hj).2
  · rintro ⟨⟨h1, h2⟩, h3⟩
    unfold batchN
    by_cases h : e = s.need.length
    · subst h
      refine List.mem_append_left _ ?_
      rw [if_pos h3]
      exact List.mem_singleton.2 rfl
    · refine List.mem_append_right _ (List.mem_map.2 ⟨e - a - 1, List.mem_filter.2 ⟨List.mem_range.2 (by omega), ?_⟩, by omega⟩)
      rw [show a + 1 + (e - a - 1) = e by omega]
      exact h3
/-- What the orders of a schedule cost, of which the first one is for week a: none, if there is no room. -/
def costFrom (s : SupD) : Nat → List Nat → Option Int
  | a, [] => if okE s a s.need.length then some (costE s a s.need.length) else none
  | a, b :: l => match costFrom s b l with
    | none => none
    | some c => if okE s a b then some (c + costE s a b) else none
/-- Weeks that increase, from one that is above a. -/
def Incr (m : Nat) : Nat → List Nat → Prop
  | a, [] => a < m
  | a, b :: l => a < b ∧ Incr m b l
theorem Incr.lt {m : Nat} : ∀ {a : Nat} {l : List Nat}, Incr m a l → a < m
  | _, [], h => h
  | _, _ :: _, h => Nat.lt_trans h.1 (Incr.lt h.2)
/-- No right schedule costs less than the cheapest. -/
theorem cost_ge {s : SupD} (hs : s.Ok) : ∀ {l : List Nat} {a : Nat} {c : Int}, Incr s.need.length a l → costFrom s a l = some c → restOf s a ≤ c
  | [], a, c, hi, h => by
    unfold costFrom at h
    split at h
    · rename_i hok
      injection h with h
      have h1 := (restOf_all hs).min_ a (Nat.zero_le _) hi _ ((mem_batchN hi).2 ⟨⟨hi, Nat.le_refl _⟩, hok⟩)
      have h2 := (restOf_all hs).fin
      unfold restOf
      omega
    · cases h
  | b :: l, a, c, hi, h => by
    unfold costFrom at h
    split at h
    · cases h
    · rename_i c' h'
      split at h
      · rename_i hok
        injection h with h
        have h1 := cost_ge hs hi.2 h'
        have hb := Incr.lt hi.2
        have ha : a < s.need.length := Nat.lt_trans hi.1 hb
        have h2 := (restOf_all hs).min_ a (Nat.zero_le _) ha b ((mem_batchN ha).2 ⟨⟨hi.1, Nat.le_of_lt hb⟩, hok⟩)
        unfold restOf at *
        omega
      · cases h
/-- The weeks of the cheapest schedule behind a week. -/
def pathN (s : SupD) : Nat → Nat → List Nat
  | 0, _ => []
  | f + 1, a => if nextOf s a < s.need.length then nextOf s a :: pathN s f (nextOf s a) else []
theorem pathN_incr {s : SupD} (hs : s.Ok) : ∀ (f a : Nat), a < s.need.length → Incr s.need.length a (pathN s f a)
  | 0, a, ha => ha
  | f + 1, a, ha => by
    unfold pathN
    split
    · rename_i h
      exact ⟨(nextOf_ok hs ha).2.1, pathN_incr hs f _ h⟩
    · exact ha
theorem pathN_cost {s : SupD} (hs : s.Ok) : ∀ (f a : Nat), a < s.need.length → s.need.length - a ≤ f → costFrom s a (pathN s f a) = some (restOf s a)
  | 0, a, ha, hf => by omega
  | f + 1, a, ha, hf => by
    obtain ⟨-, h1, h2, h3, h4⟩ := nextOf_ok hs ha
    have hok := ((mem_batchN ha).1 h3).2
    unfold pathN
    split
    · rename_i h
      unfold costFrom
      rw [pathN_cost hs f _ h (by omega)]
      simp only [hok, if_true]
      congr 1
      unfold restOf
      omega
    · rename_i h
      have he : nextOf s a = s.need.length := by omega
      unfold costFrom
      rw [he] at hok h4
      rw [if_pos hok]
      congr 1
      have h5 := (restOf_all hs).fin
      unfold restOf
      omega
theorem pathF_N {s : SupD} (hs : s.Ok) : ∀ (f a : Nat), a < s.need.length → pathF s (f + 1) a = (a : Int) :: (pathN s f a).map fun n : Nat => (n : Int)
  | 0, a, ha => by unfold pathF pathN; rw [if_pos ha]; rfl
  | f + 1, a, ha => by
    unfold pathF pathN
    rw [if_pos ha]
    split
    · rename_i h
      rw [pathF_N hs f _ h]
      rfl
    · rename_i h
      unfold pathF
      rw [if_neg h]
      rfl
/-- The cheapest schedule as a list of weeks, and what it costs. -/
theorem weeks_path {s : SupD} (hs : s.Ok) : ∃ l, weeksOf s = 0 :: l.map (fun n : Nat => (n : Int)) ∧ Incr s.need.length 0 l ∧ costFrom s 0 l = some (cheapOf s) := by
  have hw := hs.weeks
  have h0 : 0 < s.need.length := by omega
  refine ⟨pathN s s.need.length 0, ?_, pathN_incr hs _ _ h0, pathN_cost hs _ _ h0 (by omega)⟩
  unfold weeksOf
  rw [pathF_more hs s.need.length (s.need.length + 1) 0 (by omega) (by omega)]
  exact pathF_N hs _ _ h0
theorem price_low {s : SupD} (hs : s.Ok) {B : Int} (hB : ∀ k, k < s.need.length → s.order.getD k 0 ≤ B) : ∀ e, e ≤ s.need.length → 0 ≤ (priceL s).getD e 0 ∧ (priceL s).getD e 0 ≤ B * e
  | 0, _ => by rw [priceL_zero hs]; omega
  | e + 1, he => by
    have h1 := price_low hs hB e (by omega)
    have h2 := priceL_fea hs e (by omega) (e + 1) (batchN_next hs (by omega))
    have h3 : costE s e (e + 1) = s.order.getD e 0 := by
      unfold costE
      rw [show e + 1 - e - 1 = 0 by omega]
      rfl
    have h4 := hB e (by omega)
    refine ⟨((pricesTo_ok hs _ (Nat.le_refl _)).all _).1, ?_⟩
    have h5 : B * ((e + 1 : Nat) : Int) = B * e + B := by rw [Int.natCast_add, Int.mul_add]; omega
    omega
end Go.Proofs.Ytpkepacbondopaa
