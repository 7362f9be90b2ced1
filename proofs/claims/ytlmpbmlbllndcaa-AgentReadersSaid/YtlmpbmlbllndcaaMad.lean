/-
  Plain: fair shares.
-/
import Derived.Test.YtlmpbmlbllndcaaMac
namespace Go.Proofs.Ytlmpbmlbllndcaa

structure OrdD where
  ag : Int
  cop : Int
  least : Int
deriving DecidableEq
def OrdD.ok (o : OrdD) : Prop := (0 ≤ o.ag ∧ o.ag ≤ 1000000) ∧ (0 ≤ o.cop ∧ o.cop ≤ 10000) ∧ (0 ≤ o.least ∧ o.least ≤ o.cop)
instance (o : OrdD) : Decidable o.ok := by unfold OrdD.ok; infer_instance
def copAt (l : List OrdD) (i : Nat) : Int := ((l[i]?).map OrdD.cop).getD 0
def leastAt (l : List OrdD) (i : Nat) : Int := ((l[i]?).map OrdD.least).getD 0
/-- The first of the least of a list. -/
def leastTo {α : Type} (lt : α → α → Bool) : Option α → List α → Option α
  | b, [] => b
  | none, x :: l => leastTo lt (some x) l
  | some b, x :: l => leastTo lt (some (if lt x b then x else b)) l
theorem leastTo_some {α : Type} {lt : α → α → Bool} : ∀ (l : List α) (b : α), ∃ y, leastTo lt (some b) l = some y ∧ (y = b ∨ y ∈ l)
  | [], b => ⟨b, rfl, Or.inl rfl⟩
  | x :: l, b => by
    obtain ⟨y, h1, h2⟩ := leastTo_some (lt := lt) l (if lt x b then x else b)
    refine ⟨y, h1, ?_⟩
    rcases h2 with h2 | h2
    · by_cases hx : lt x b = true
      · rw [if_pos hx] at h2; exact Or.inr (h2 ▸ List.mem_cons_self)
      · rw [if_neg hx] at h2; exact Or.inl h2
    · exact Or.inr (List.mem_cons_of_mem _ h2)
theorem leastTo_none {α : Type} {lt : α → α → Bool} {l : List α} (h : leastTo lt none l = none) : l = [] := by
  cases l with
  | nil => rfl
  | cons x l =>
    obtain ⟨y, h1, -⟩ := leastTo_some (lt := lt) l x
    have h2 : leastTo lt (some x) l = none := h
    rw [h1] at h2
    cases h2
theorem leastTo_mem {α : Type} {lt : α → α → Bool} {l : List α} {y : α} (h : leastTo lt none l = some y) : y ∈ l := by
  cases l with
  | nil => cases h
  | cons x l =>
    obtain ⟨z, h1, h2⟩ := leastTo_some (lt := lt) l x
    have h3 : leastTo lt (some x) l = some y := h
    rw [h1] at h3
    injection h3 with h3
    subst h3
    rcases h2 with h2 | h2
    · exact h2 ▸ List.mem_cons_self
    · exact List.mem_cons_of_mem _ h2
/-- Of what leastTo returns no element of the list is less, if less is a strict order whose negation is transitive. -/
theorem leastTo_least {α : Type} {lt : α → α → Bool} {p : α → Prop} (htr : ∀ a b c, p a → p b → p c → lt a b = false → lt b c = false → lt a c = false) (hir : ∀ a, lt a a = false) (has : ∀ a b, lt a b = true → lt b a = false) :
    ∀ (l : List α) (b y : α), p b → (∀ x ∈ l, p x) → leastTo lt (some b) l = some y → lt b y = false ∧ ∀ x ∈ l, lt x y = false
  | [], b, y, _, _, h => by
    injection h with h
    subst h
    exact ⟨hir _, fun x hx => by cases hx⟩
  | x :: l, b, y, hb, hl, h => by
    have hx := hl x List.mem_cons_self
    have hl' : ∀ z ∈ l, p z := fun z hz => hl z (List.mem_cons_of_mem _ hz)
    by_cases hlt : lt x b = true
    · have h' : leastTo lt (some x) l = some y := by
        have : leastTo lt (some b) (x :: l) = leastTo lt (some (if lt x b then x else b)) l := rfl
        rw [this, if_pos hlt] at h
        exact h
      obtain ⟨h1, h2⟩ := leastTo_least htr hir has l x y hx hl' h'
      have hy : p y := by
        obtain ⟨z, e1, e2⟩ := leastTo_some (lt := lt) l x
        rw [e1] at h'
        injection h' with h'
        subst h'
        rcases e2 with rfl | e2
        · exact hx
        · exact hl' _ e2
      refine ⟨htr b x y hb hx hy (has _ _ hlt) h1, fun z hz => ?_⟩
      rcases List.mem_cons.1 hz with rfl | hz
      · exact h1
      · exact h2 z hz
    · have h' : leastTo lt (some b) l = some y := by
        have : leastTo lt (some b) (x :: l) = leastTo lt (some (if lt x b then x else b)) l := rfl
        rw [this, if_neg hlt] at h
        exact h
      obtain ⟨h1, h2⟩ := leastTo_least htr hir has l b y hb hl' h'
      have hy : p y := by
        obtain ⟨z, e1, e2⟩ := leastTo_some (lt := lt) l b
        rw [e1] at h'
        injection h' with h'
        subst h'
        rcases e2 with rfl | e2
        · exact hb
        · exact hl' _ e2
      refine ⟨h1, fun z hz => ?_⟩
      rcases List.mem_cons.1 hz with rfl | hz
      · exact htr z b y hx hb hy (by simpa using hlt) h1
      · exact h2 z hz
theorem leastTo_all {α : Type} {lt : α → α → Bool} {p : α → Prop} (htr : ∀ a b c, p a → p b → p c → lt a b = false → lt b c = false → lt a c = false) (hir : ∀ a, lt a a = false) (has : ∀ a b, lt a b = true → lt b a = false) {l : List α} {y : α} (hl : ∀ x ∈ l, p x) (h : leastTo lt none l = some y) : ∀ x ∈ l, lt x y = false := by
  cases l with
  | nil => intro x hx; cases hx
  | cons b l =>
    obtain ⟨h1, h2⟩ := leastTo_least htr hir has l b y (hl b List.mem_cons_self) (fun x hx => hl x (List.mem_cons_of_mem _ hx)) h
    intro x hx
    rcases List.mem_cons.1 hx with rfl | hx
    · exact h1
    · exact h2 x hx
/-- Whether agent i has a lesser part of its order than agent j. -/
def lessP (l : List OrdD) (g : List Int) (i j : Nat) : Bool := decide (g.getD i 0 * copAt l j < g.getD j 0 * copAt l i)
/-- Those that have not all, in order. -/
def wantL (l : List OrdD) (g : List Int) : List Nat := (List.range l.length).filter fun i => decide (g.getD i 0 < copAt l i)
def pickS (l : List OrdD) (g : List Int) : Option Nat := leastTo (lessP l g) none (wantL l g)
def stepS (l : List OrdD) (g : List Int) : List Int := match pickS l g with
  | none => g
  | some i => g.set i (g.getD i 0 + 1)
def stepsS (l : List OrdD) : Nat → List Int → List Int
  | 0, g => g
  | n + 1, g => stepS l (stepsS l n g)
theorem stepsS_stop {l : List OrdD} {g : List Int} (h : pickS l g = none) : ∀ n, stepsS l n g = g
  | 0 => rfl
  | n + 1 => by
    show stepS l (stepsS l n g) = g
    rw [stepsS_stop h n]
    unfold stepS
    rw [h]
theorem stepsS_one (l : List OrdD) : ∀ (n : Nat) (g : List Int), stepsS l (n + 1) g = stepsS l n (stepS l g)
  | 0, _ => rfl
  | n + 1, g => by
    show stepS l (stepsS l (n + 1) g) = stepS l (stepsS l n (stepS l g))
    rw [stepsS_one l n g]
/-- What is given of right orders: from the least to what was ordered. -/
structure Given (l : List OrdD) (g : List Int) : Prop where
  len : g.length = l.length
  at_ : ∀ i, i < l.length → leastAt l i ≤ g.getD i 0 ∧ g.getD i 0 ≤ copAt l i
theorem want_mem {l : List OrdD} {g : List Int} {i : Nat} : i ∈ wantL l g ↔ i < l.length ∧ g.getD i 0 < copAt l i := by
  unfold wantL
  rw [List.mem_filter, List.mem_range, decide_eq_true_eq]
theorem getD_set {g : List Int} {i j : Nat} {x : Int} (hi : i < g.length) : (g.set i x).getD j 0 = if j = i then x else g.getD j 0 := by
  rw [List.getD_eq_getElem?_getD, List.getD_eq_getElem?_getD, List.getElem?_set]
  by_cases h : i = j
  · subst h
    rw [if_pos rfl, if_pos hi, if_pos rfl]
    rfl
  · rw [if_neg h, if_neg (fun e => h e.symm)]
theorem Given.step {l : List OrdD} {g : List Int} (h : Given l g) : Given l (stepS l g) := by
  unfold stepS
  cases hp : pickS l g with
  | none => exact h
  | some i =>
    obtain ⟨h1, h2⟩ := want_mem.1 (leastTo_mem hp)
    refine ⟨by rw [List.length_set]; exact h.len, fun j hj => ?_⟩
    have h3 := h.at_ j hj
    have h4 := h.at_ i h1
    rw [getD_set (by rw [h.len]; exact h1)]
    by_cases hji : j = i
    · subst hji
      rw [if_pos rfl]
      omega
    · rw [if_neg hji]
      exact h3
theorem Given.steps {l : List OrdD} {g : List Int} (h : Given l g) : ∀ n, Given l (stepsS l n g)
  | 0 => h
  | n + 1 => (Given.steps h n).step
def sumI (g : List Int) : Int := g.foldr (· + ·) 0
theorem sumI_cons (x : Int) (g : List Int) : sumI (x :: g) = x + sumI g := rfl
theorem sumI_set : ∀ (g : List Int) (i : Nat) (x : Int), i < g.length → sumI (g.set i x) = sumI g - g.getD i 0 + x
  | [], i, x, h => by cases h
  | y :: g, 0, x, _ => by simp [sumI_cons]; omega
  | y :: g, i + 1, x, h => by
    have := sumI_set g i x (by simpa using h)
    simp only [List.set_cons_succ, sumI_cons, List.getD_cons_succ, this]
    omega
theorem sum_step {l : List OrdD} {g : List Int} (h : Given l g) : sumI (stepS l g) = sumI g + (if pickS l g = none then 0 else 1) := by
  unfold stepS
  cases hp : pickS l g with
  | none => simp
  | some i =>
    obtain ⟨h1, h2⟩ := want_mem.1 (leastTo_mem hp)
    simp only
    rw [sumI_set _ _ _ (by rw [h.len]; exact h1), if_neg (by simp)]
    omega
/-- All that was ordered. -/
def allC (l : List OrdD) : Int := sumI (l.map OrdD.cop)
theorem sum_le : ∀ (l : List OrdD) (g : List Int), g.length = l.length → (∀ i, i < l.length → g.getD i 0 ≤ copAt l i) → sumI g ≤ allC l
  | [], [], _, _ => Int.le_refl _
  | o :: l, x :: g, hl, h => by
    have h0 : x ≤ o.cop := by simpa [copAt] using h 0 (by simp)
    have ih := sum_le l g (by simpa using hl) fun i hi => by simpa [copAt] using h (i + 1) (by simpa using hi)
    simp only [allC, List.map_cons, sumI_cons] at ih ⊢
    omega
theorem sum_eq : ∀ (l : List OrdD) (g : List Int), g.length = l.length → (∀ i, i < l.length → g.getD i 0 = copAt l i) → sumI g = allC l
  | [], [], _, _ => rfl
  | o :: l, x :: g, hl, h => by
    have h0 : x = o.cop := by simpa [copAt] using h 0 (by simp)
    have ih := sum_eq l g (by simpa using hl) fun i hi => by simpa [copAt] using h (i + 1) (by simpa using hi)
    simp only [allC, List.map_cons, sumI_cons] at ih ⊢
    omega
theorem sum_lt : ∀ (l : List OrdD) (g : List Int) (i : Nat), g.length = l.length → (∀ i, i < l.length → g.getD i 0 ≤ copAt l i) → i < l.length → g.getD i 0 < copAt l i → sumI g < allC l
  | [], [], _, _, _, hi, _ => by cases hi
  | o :: l, x :: g, 0, hl, h, _, h0 => by
    have h0 : x < o.cop := by simpa [copAt] using h0
    have ih := sum_le l g (by simpa using hl) fun i hi => by simpa [copAt] using h (i + 1) (by simpa using hi)
    simp only [allC, List.map_cons, sumI_cons] at ih ⊢
    omega
  | o :: l, x :: g, i + 1, hl, h, hi, h1 => by
    have h0 : x ≤ o.cop := by simpa [copAt] using h 0 (by simp)
    have ih := sum_lt l g i (by simpa using hl) (fun i hi => by simpa [copAt] using h (i + 1) (by simpa using hi)) (by simpa using hi) (by simpa [copAt] using h1)
    simp only [allC, List.map_cons, sumI_cons] at ih ⊢
    omega
theorem pick_none {l : List OrdD} {g : List Int} (h : Given l g) : pickS l g = none ↔ sumI g = allC l := by
  constructor
  · intro hp
    have h0 := leastTo_none hp
    refine sum_eq l g h.len fun i hi => ?_
    have h1 := (h.at_ i hi).2
    have h2 : ¬ g.getD i 0 < copAt l i := fun hlt => by
      have h3 := want_mem.2 ⟨hi, hlt⟩
      rw [h0] at h3
      cases h3
    omega
  · intro hs
    cases hp : pickS l g with
    | none => rfl
    | some i =>
      obtain ⟨h1, h2⟩ := want_mem.1 (leastTo_mem hp)
      have := sum_lt l g i h.len (fun j hj => (h.at_ j hj).2) h1 h2
      omega
theorem sum_steps {l : List OrdD} {g : List Int} (h : Given l g) : ∀ n : Nat, sumI (stepsS l n g) = min (sumI g + n) (allC l)
  | 0 => by
    have := sum_le l g h.len fun i hi => (h.at_ i hi).2
    show sumI g = _
    omega
  | n + 1 => by
    have ih := sum_steps h n
    have hG := h.steps n
    have hs := sum_step hG
    have hp := pick_none hG
    show sumI (stepS l (stepsS l n g)) = _
    rw [hs]
    by_cases hn : pickS l (stepsS l n g) = none
    · have := hp.1 hn
      rw [if_pos hn]
      omega
    · have h1 : sumI (stepsS l n g) ≠ allC l := fun e => hn (hp.2 e)
      rw [if_neg hn]
      omega
/-- No copy could go from one agent to another one that has a lesser part. -/
def Even (l : List OrdD) (g : List Int) : Prop := ∀ i j, i < l.length → j < l.length → leastAt l i < g.getD i 0 → g.getD j 0 < copAt l j → (g.getD i 0 - 1) * copAt l j ≤ g.getD j 0 * copAt l i
theorem cop_nonneg {l : List OrdD} (hl : ∀ o ∈ l, o.ok) (i : Nat) : 0 ≤ copAt l i := by
  unfold copAt
  cases h : l[i]? with
  | none => simp
  | some o =>
    have := hl o (List.mem_of_getElem? h)
    simp only [Option.map_some, Option.getD_some]
    exact this.2.1.1
theorem least_nonneg {l : List OrdD} (hl : ∀ o ∈ l, o.ok) (i : Nat) : 0 ≤ leastAt l i := by
  unfold leastAt
  cases h : l[i]? with
  | none => simp
  | some o =>
    have := hl o (List.mem_of_getElem? h)
    simp only [Option.map_some, Option.getD_some]
    exact this.2.2.1
theorem pick_least {l : List OrdD} {g : List Int} (hl : ∀ o ∈ l, o.ok) (h : Given l g) {i : Nat} (hp : pickS l g = some i) {j : Nat} (hj : j < l.length) (hw : g.getD j 0 < copAt l j) : g.getD i 0 * copAt l j ≤ g.getD j 0 * copAt l i := by
  have hpos : ∀ x ∈ wantL l g, 0 < copAt l x ∧ 0 ≤ g.getD x 0 := fun x hx => by
    obtain ⟨h1, h2⟩ := want_mem.1 hx
    have := (h.at_ x h1).1
    have := least_nonneg hl x
    omega
  have h1 := leastTo_all (lt := lessP l g) (p := fun x => 0 < copAt l x ∧ 0 ≤ g.getD x 0) (fun a b c ha hb hc hab hbc => by
    unfold lessP at *
    simp only [decide_eq_false_iff_not, Int.not_lt] at *
    have e1 : (g.getD c 0 * copAt l a) * copAt l b ≤ (g.getD a 0 * copAt l c) * copAt l b := by
      calc (g.getD c 0 * copAt l a) * copAt l b = (g.getD c 0 * copAt l b) * copAt l a := by rw [Int.mul_assoc, Int.mul_comm (copAt l a), ← Int.mul_assoc]
        _ ≤ (g.getD b 0 * copAt l c) * copAt l a := Int.mul_le_mul_of_nonneg_right hbc (by omega)
        _ = (g.getD b 0 * copAt l a) * copAt l c := by rw [Int.mul_assoc, Int.mul_comm (copAt l c), ← Int.mul_assoc]
        _ ≤ (g.getD a 0 * copAt l b) * copAt l c := Int.mul_le_mul_of_nonneg_right hab (by omega)
        _ = (g.getD a 0 * copAt l c) * copAt l b := by rw [Int.mul_assoc, Int.mul_comm (copAt l b), ← Int.mul_assoc]
    exact Int.le_of_mul_le_mul_right e1 hb.1) (fun a => by unfold lessP; simp) (fun a b hab => by
    unfold lessP at *
    simp only [decide_eq_true_eq, decide_eq_false_iff_not, Int.not_lt] at *
    omega) hpos hp j (want_mem.2 ⟨hj, hw⟩)
  unfold lessP at h1
  simpa using h1
theorem Even.step {l : List OrdD} {g : List Int} (hl : ∀ o ∈ l, o.ok) (h : Given l g) (he : Even l g) : Even l (stepS l g) := by
  unfold stepS
  cases hp : pickS l g with
  | none => exact he
  | some k =>
    obtain ⟨h1, h2⟩ := want_mem.1 (leastTo_mem hp)
    have hk : k < g.length := by rw [h.len]; exact h1
    intro i j hi hj hgi hgj
    rw [getD_set hk] at hgi hgj ⊢
    rw [getD_set hk]
    have ci := cop_nonneg hl i
    have cj := cop_nonneg hl j
    have ck := cop_nonneg hl k
    by_cases hik : i = k
    · subst hik
      rw [if_pos rfl] at hgi ⊢
      by_cases hjk : j = i
      · subst hjk
        rw [if_pos rfl]
        exact Int.mul_le_mul_of_nonneg_right (by omega) ci
      · rw [if_neg hjk] at hgj ⊢
        have := pick_least hl h hp hj hgj
        rw [show g.getD i 0 + 1 - 1 = g.getD i 0 by omega]
        exact this
    · rw [if_neg hik] at hgi ⊢
      by_cases hjk : j = k
      · subst hjk
        rw [if_pos rfl] at hgj ⊢
        have h3 := he i j hi hj hgi h2
        have h4 : (g.getD j 0) * copAt l i ≤ (g.getD j 0 + 1) * copAt l i := Int.mul_le_mul_of_nonneg_right (by omega) ci
        omega
      · rw [if_neg hjk] at hgj ⊢
        exact he i j hi hj hgi hgj
theorem Even.steps {l : List OrdD} {g : List Int} (hl : ∀ o ∈ l, o.ok) (h : Given l g) (he : Even l g) : ∀ n, Even l (stepsS l n g)
  | 0 => he
  | n + 1 => (Even.steps hl h he n).step hl (h.steps n)
/-- What each agent gets first. -/
def leastL (l : List OrdD) : List Int := l.map OrdD.least
theorem least_get (l : List OrdD) (i : Nat) : (leastL l).getD i 0 = leastAt l i := by
  unfold leastL leastAt
  rw [List.getD_eq_getElem?_getD, List.getElem?_map]
theorem given_start {l : List OrdD} (hl : ∀ o ∈ l, o.ok) : Given l (leastL l) := by
  refine ⟨by simp [leastL], fun i hi => ?_⟩
  rw [least_get]
  refine ⟨Int.le_refl _, ?_⟩
  unfold leastAt copAt
  rw [List.getElem?_eq_getElem hi]
  exact (hl _ (List.getElem_mem hi)).2.2.2
theorem even_start (l : List OrdD) : Even l (leastL l) := fun i j _ _ h _ => by
  rw [least_get] at h
  omega
/-- How n copies are shared. -/
def shareD (l : List OrdD) (n : Int) : List Int := stepsS l (n - sumI (leastL l)).toNat (leastL l)
theorem step_near {l : List OrdD} {g : List Int} (h : Given l g) (i : Nat) : g.getD i 0 ≤ (stepS l g).getD i 0 ∧ (stepS l g).getD i 0 ≤ g.getD i 0 + 1 := by
  unfold stepS
  cases hp : pickS l g with
  | none => simp only; omega
  | some k =>
    obtain ⟨h1, h2⟩ := want_mem.1 (leastTo_mem hp)
    simp only
    rw [getD_set (by rw [h.len]; exact h1)]
    split
    · rename_i e; subst e; omega
    · omega
theorem share_more {l : List OrdD} {n : Int} (hn : sumI (leastL l) ≤ n) : shareD l (n + 1) = stepS l (shareD l n) := by
  unfold shareD
  rw [show (n + 1 - sumI (leastL l)).toNat = (n - sumI (leastL l)).toNat + 1 by omega]
  rfl
end Go.Proofs.Ytlmpbmlbllndcaa
