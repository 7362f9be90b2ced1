/-
  Plain: days, losses, the least supply with the least total.
-/
import Derived.Test.YtlmpbmlbllndcaaChecked
namespace Go.Proofs.Ytlmpbmlbllndcaa

structure DayD where
  sup : Int
  ret : Int
deriving DecidableEq
def DayD.sold (d : DayD) : Int := d.sup - d.ret
def DayD.ok (d : DayD) : Prop := 0 ≤ d.sup ∧ d.sup ≤ 10000 ∧ 0 ≤ d.ret ∧ d.ret ≤ d.sup
instance (d : DayD) : Decidable d.ok := by unfold DayD.ok; infer_instance
/-- The loss of a supply on a day. -/
def lossD (a b : Int) (d : DayD) (q : Int) : Int := if q - d.sold < 0 then b * (d.sold - q) else if 0 < d.ret then a * (q - d.sold) else 0
/-- The losses on all days. -/
def totD (a b : Int) : List DayD → Int → Int
  | [], _ => 0
  | d :: l, q => lossD a b d q + totD a b l q
theorem totD_app (a b : Int) (l m : List DayD) (q : Int) : totD a b (l ++ m) q = totD a b l q + totD a b m q := by
  induction l with
  | nil => simp [totD]
  | cons d l ih => simp [totD, ih]; omega
theorem loss_bd {a b : Int} {d : DayD} {q : Int} (ha : 0 ≤ a) (ha' : a ≤ 1000) (hb : 0 ≤ b) (hb' : b ≤ 1000) (hd : d.ok) (hq : 0 ≤ q) (hq' : q ≤ 10000) : 0 ≤ lossD a b d q ∧ lossD a b d q ≤ 10000000 := by
  obtain ⟨h1, h2, h3, h4⟩ := hd
  unfold lossD DayD.sold
  split
  · have h5 : 0 ≤ d.sup - d.ret - q := by omega
    have h6 : d.sup - d.ret - q ≤ 10000 := by omega
    exact ⟨Int.mul_nonneg hb h5, Int.le_trans (Int.mul_le_mul hb' h6 h5 (by omega)) (by omega)⟩
  · split
    · have h5 : 0 ≤ q - (d.sup - d.ret) := by omega
      have h6 : q - (d.sup - d.ret) ≤ 10000 := by omega
      exact ⟨Int.mul_nonneg ha h5, Int.le_trans (Int.mul_le_mul ha' h6 h5 (by omega)) (by omega)⟩
    · omega
theorem tot_bd {a b : Int} {l : List DayD} {q : Int} (ha : 0 ≤ a) (ha' : a ≤ 1000) (hb : 0 ≤ b) (hb' : b ≤ 1000) (hl : ∀ d ∈ l, d.ok) (hq : 0 ≤ q) (hq' : q ≤ 10000) : 0 ≤ totD a b l q ∧ totD a b l q ≤ 10000000 * l.length := by
  induction l with
  | nil => simp [totD]
  | cons d l ih =>
    obtain ⟨h1, h2⟩ := ih (fun x hx => hl x (List.mem_cons_of_mem _ hx))
    obtain ⟨h3, h4⟩ := loss_bd ha ha' hb hb' (hl d List.mem_cons_self) hq hq'
    simp only [totD, List.length_cons]
    constructor
    · omega
    · push_cast
      omega
/-- What one copy more costs on a day, from a supply q on. -/
def stepD (a b : Int) (d : DayD) (q : Int) : Int := if q < d.sold then -b else if 0 < d.ret then a else 0
def stepsD (a b : Int) : List DayD → Int → Int
  | [], _ => 0
  | d :: l, q => stepD a b d q + stepsD a b l q
theorem loss_step (a b : Int) (d : DayD) (q : Int) : lossD a b d (q + 1) = lossD a b d q + stepD a b d q := by
  unfold lossD stepD
  by_cases h1 : q < d.sold
  · rw [if_pos h1, if_pos (show q - d.sold < 0 by omega)]
    by_cases h2 : q + 1 - d.sold < 0
    · rw [if_pos h2, show d.sold - q = (d.sold - (q + 1)) + 1 by omega, Int.mul_add]
      omega
    · rw [if_neg h2, show d.sold - q = 1 by omega, show q + 1 - d.sold = 0 by omega]
      simp
      omega
  · rw [if_neg h1, if_neg (show ¬ q - d.sold < 0 by omega), if_neg (show ¬ q + 1 - d.sold < 0 by omega)]
    split
    · rw [show q + 1 - d.sold = (q - d.sold) + 1 by omega, Int.mul_add]
      omega
    · omega
theorem tot_step (a b : Int) (l : List DayD) (q : Int) : totD a b l (q + 1) = totD a b l q + stepsD a b l q := by
  induction l with
  | nil => simp [totD, stepsD]
  | cons d l ih => simp only [totD, stepsD, ih, loss_step]; omega
theorem steps_same {a b : Int} {l : List DayD} {q : Int} (h : ∀ d ∈ l, d.sold ≠ q + 1) : stepsD a b l q = stepsD a b l (q + 1) := by
  induction l with
  | nil => rfl
  | cons d l ih =>
    simp only [stepsD]
    rw [ih fun x hx => h x (List.mem_cons_of_mem _ hx)]
    have h1 := h d List.mem_cons_self
    unfold stepD
    by_cases h2 : q < d.sold
    · rw [if_pos h2, if_pos (show q + 1 < d.sold by omega)]
    · rw [if_neg h2, if_neg (show ¬ q + 1 < d.sold by omega)]
theorem steps_end {a b : Int} {l : List DayD} {q : Int} (ha : 0 ≤ a) (h : ∀ d ∈ l, d.sold ≤ q) : 0 ≤ stepsD a b l q := by
  induction l with
  | nil => exact Int.le_refl _
  | cons d l ih =>
    have h1 := ih fun x hx => h x (List.mem_cons_of_mem _ hx)
    have h2 := h d List.mem_cons_self
    simp only [stepsD]
    unfold stepD
    rw [if_neg (by omega)]
    split <;> omega
/-- A supply that Best looks at: nothing, or what was sold on some day. -/
def Cand (l : List DayD) (q : Int) : Prop := q = 0 ∨ ∃ d ∈ l, d.sold = q
theorem cand_low {a b : Int} {l : List DayD} : ∀ (k : Nat), (k = 0 ∨ 0 ≤ stepsD a b l ((k : Int) - 1)) → ∃ c, Cand l c ∧ c ≤ (k : Int) ∧ totD a b l c ≤ totD a b l k
  | 0, _ => ⟨0, Or.inl rfl, Int.le_refl _, Int.le_refl _⟩
  | k + 1, h => by
    by_cases hc : Cand l ((k + 1 : Nat) : Int)
    · exact ⟨_, hc, Int.le_refl _, Int.le_refl _⟩
    · have h0 : 0 ≤ stepsD a b l (k : Int) := by
        rcases h with h | h
        · omega
        · rw [show (((k + 1 : Nat) : Int) - 1) = (k : Int) by omega] at h
          exact h
      have ht := tot_step a b l (k : Int)
      have hrec : k = 0 ∨ Cand l (k : Int) ∨ 0 ≤ stepsD a b l ((k : Int) - 1) := by
        rcases Nat.eq_zero_or_pos k with h | h
        · exact Or.inl h
        · by_cases hk : Cand l (k : Int)
          · exact Or.inr (Or.inl hk)
          · refine Or.inr (Or.inr ?_)
            rw [steps_same (q := (k : Int) - 1) fun d hd he => hk (Or.inr ⟨d, hd, by omega⟩), show (k : Int) - 1 + 1 = k by omega]
            exact h0
      have hk1 : ((k + 1 : Nat) : Int) = (k : Int) + 1 := by omega
      rw [hk1, ht]
      rcases hrec with h | h | h
      · obtain ⟨c, h1, h2, h3⟩ := cand_low (a := a) (b := b) (l := l) k (Or.inl h)
        exact ⟨c, h1, by omega, by omega⟩
      · exact ⟨k, h, by omega, by omega⟩
      · obtain ⟨c, h1, h2, h3⟩ := cand_low (a := a) (b := b) (l := l) k (Or.inr h)
        exact ⟨c, h1, by omega, by omega⟩
theorem cand_high {a b : Int} {l : List DayD} (ha : 0 ≤ a) (M : Int) (hM : ∀ d ∈ l, d.sold ≤ M) : ∀ (n : Nat) (q : Int), M - q ≤ n → stepsD a b l q < 0 → ∃ c, Cand l c ∧ q < c ∧ totD a b l c < totD a b l q
  | 0, q, hn, h => by
    have := steps_end (a := a) (b := b) (l := l) (q := q) ha fun d hd => by have := hM d hd; omega
    omega
  | n + 1, q, hn, h => by
    have ht := tot_step a b l q
    by_cases hc : Cand l (q + 1)
    · exact ⟨q + 1, hc, by omega, by omega⟩
    · rw [steps_same (q := q) fun d hd he => hc (Or.inr ⟨d, hd, he⟩)] at h
      rw [← steps_same (q := q) fun d hd he => hc (Or.inr ⟨d, hd, he⟩)] at h
      have h' : stepsD a b l (q + 1) < 0 := by
        rw [← steps_same (q := q) fun d hd he => hc (Or.inr ⟨d, hd, he⟩)]
        exact h
      obtain ⟨c, h1, h2, h3⟩ := cand_high ha M hM n (q + 1) (by omega) h'
      exact ⟨c, h1, by omega, by omega⟩
/-- The least supply with the least total, of those that Best looks at. -/
structure IsBest (a b : Int) (l : List DayD) (q n : Int) : Prop where
  cand : Cand l q
  tot : n = totD a b l q
  least : ∀ c, Cand l c → n < totD a b l c ∨ n = totD a b l c ∧ q ≤ c
theorem IsBest.one {a b : Int} {l : List DayD} {q n q' n' : Int} (h : IsBest a b l q n) (h' : IsBest a b l q' n') : q = q' ∧ n = n' := by
  have h1 := h.least _ h'.cand
  have h2 := h'.least _ h.cand
  rw [← h'.tot] at h1
  rw [← h.tot] at h2
  omega
theorem IsBest.all {a b : Int} {l : List DayD} {q n : Int} (h : IsBest a b l q n) (ha : 0 ≤ a) (k : Nat) : n < totD a b l k ∨ n = totD a b l k ∧ q ≤ k := by
  have hcase : (k = 0 ∨ 0 ≤ stepsD a b l ((k : Int) - 1)) ∨ stepsD a b l ((k : Int) - 1) < 0 := by omega
  rcases hcase with hc | hc
  · obtain ⟨c, h1, h2, h3⟩ := cand_low k hc
    have := h.least c h1
    omega
  · by_cases hk : Cand l (k : Int)
    · exact h.least _ hk
    · have hs : stepsD a b l (k : Int) < 0 := by
        have h1 := steps_same (a := a) (b := b) (l := l) (q := (k : Int) - 1) fun d hd he => hk (Or.inr ⟨d, hd, by omega⟩)
        rw [show (k : Int) - 1 + 1 = k by omega] at h1
        omega
      obtain ⟨M, hM⟩ : ∃ M : Int, ∀ d ∈ l, d.sold ≤ M := by
        clear h hc hk hs
        induction l with
        | nil => exact ⟨0, by simp⟩
        | cons d l ih =>
          obtain ⟨M, hM⟩ := ih
          refine ⟨max M d.sold, fun x hx => ?_⟩
          rcases List.mem_cons.1 hx with rfl | hx
          · omega
          · have := hM x hx; omega
      obtain ⟨c, h1, h2, h3⟩ := cand_high ha M hM (M - k).toNat (k : Int) (by omega) hs
      have := h.least c h1
      omega
theorem cand_nonneg {l : List DayD} {q : Int} (hl : ∀ d ∈ l, d.ok) (h : Cand l q) : 0 ≤ q ∧ q ≤ 10000 := by
  rcases h with rfl | ⟨d, hd, rfl⟩
  · omega
  · obtain ⟨h1, h2, h3, h4⟩ := hl d hd
    unfold DayD.sold
    omega
theorem IsBest.more {a b : Int} {l : List DayD} {q n : Int} (h : IsBest a b l q n) (ha : 0 ≤ a) (hl : ∀ d ∈ l, d.ok) : 0 ≤ stepsD a b l q := by
  have h0 := cand_nonneg hl h.cand
  have h1 := h.all ha (q.toNat + 1)
  rw [show ((q.toNat + 1 : Nat) : Int) = q + 1 by omega, tot_step, ← h.tot] at h1
  omega
theorem IsBest.less {a b : Int} {l : List DayD} {q n : Int} (h : IsBest a b l q n) (ha : 0 ≤ a) (hl : ∀ d ∈ l, d.ok) (hq : q ≠ 0) : stepsD a b l (q - 1) < 0 := by
  have h0 := cand_nonneg hl h.cand
  have h1 := h.all ha (q.toNat - 1)
  have h2 := tot_step a b l (q - 1)
  rw [show ((q.toNat - 1 : Nat) : Int) = q - 1 by omega] at h1
  rw [show q - 1 + 1 = q by omega, ← h.tot] at h2
  omega
end Go.Proofs.Ytlmpbmlbllndcaa
