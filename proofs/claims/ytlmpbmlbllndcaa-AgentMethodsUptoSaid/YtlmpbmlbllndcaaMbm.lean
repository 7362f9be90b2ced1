/-
  Plain: what the reference's Choose knows; Rate and the reference's Rate answer the same.
-/
import Derived.Test.YtlmpbmlbllndcaaMbg
import Derived.Test.YtlmpbmlbllndcaaMbl
namespace Go.Proofs.Ytlmpbmlbllndcaa
open Go.RowKit
attribute [local go_sem] Oper.semAt_some

/-- The first of the best of some rated methods. -/
def bestR (L : List RatD) : RatD := lstR L L.length
theorem bestR_snoc (L : List RatD) (x : RatD) : bestR (L ++ [x]) = if L.length = 0 then x else if ltR x (bestR L) then x else bestR L := by
  unfold bestR
  rw [List.length_append, List.length_singleton]
  by_cases h : L.length = 0
  · rw [if_pos h]
    have h0 : L = [] := List.length_eq_zero_iff.1 h
    subst h0
    exact lstR_first rfl
  · rw [if_neg h, lstR_next (x := x) (by simp) (by omega)]
    have h2 : lstR (L ++ [x]) L.length = lstR L L.length := by
      unfold lstR
      rw [List.take_append_of_le_length (Nat.le_refl _)]
    rw [h2]
theorem bestR_mem {L : List RatD} (h : 0 < L.length) : bestR L ∈ L := by
  unfold bestR lstR
  rw [List.take_length]
  cases e : leastTo ltR none L with
  | none =>
    have := leastTo_none e
    rw [this] at h
    simp at h
  | some y => exact leastTo_mem e
theorem ltR_iff (x y : RatD) : ltR x y = decide (x.n * y.d < y.n * x.d) := by
  unfold ltR cmpI
  by_cases h : x.n * y.d < y.n * x.d
  · rw [if_pos h, decide_eq_true h]
    rfl
  · rw [if_neg h, decide_eq_false h]
    split <;> rfl
/-- What the reference's Choose knows of some rated methods. -/
def rcAt (L : List RatD) : Int := if L.length = 0 then -1 else (bestR L).m
def rcBest (L : List RatD) : ScoreD := if L.length = 0 then ⟨0, 0, 0⟩ else ⟨(bestR L).days, (bestR L).n, (bestR L).d⟩
theorem rc_first {L : List RatD} (x : RatD) (h : L.length = 0) : rcAt (L ++ [x]) = x.m ∧ rcBest (L ++ [x]) = ⟨x.days, x.n, x.d⟩ := by
  have h1 : ¬ (L ++ [x]).length = 0 := by simp
  unfold rcAt rcBest
  rw [if_neg h1, if_neg h1, bestR_snoc, if_pos h]
  exact ⟨rfl, rfl⟩
theorem rc_less {L : List RatD} (x : RatD) (h : ¬ L.length = 0) (hl : x.n * (rcBest L).d < (rcBest L).n * x.d) : rcAt (L ++ [x]) = x.m ∧ rcBest (L ++ [x]) = ⟨x.days, x.n, x.d⟩ := by
  have h1 : ¬ (L ++ [x]).length = 0 := by simp
  unfold rcBest at hl
  rw [if_neg h] at hl
  unfold rcAt rcBest
  rw [if_neg h1, if_neg h1, bestR_snoc, if_neg h, ltR_iff, decide_eq_true hl]
  exact ⟨rfl, rfl⟩
theorem rc_more {L : List RatD} (x : RatD) (h : ¬ L.length = 0) (hl : ¬ x.n * (rcBest L).d < (rcBest L).n * x.d) : rcAt (L ++ [x]) = rcAt L ∧ rcBest (L ++ [x]) = rcBest L := by
  have h1 : ¬ (L ++ [x]).length = 0 := by simp
  have hl' := hl
  unfold rcBest at hl'
  rw [if_neg h] at hl'
  unfold rcAt rcBest
  rw [if_neg h1, if_neg h1, if_neg h, if_neg h, bestR_snoc, if_neg h, ltR_iff, decide_eq_false hl']
  exact ⟨rfl, rfl⟩
theorem ratTo_m (ms : List MethD) (h : List DayD) (a b : Int) : ∀ k, ∀ x ∈ ratTo ms h a b k, 0 ≤ x.m
  | 0, x, hx => by cases hx
  | k + 1, x, hx => by
    unfold ratTo at hx
    rcases List.mem_append.1 hx with hx | hx
    · exact ratTo_m ms h a b k x hx
    · unfold ratOf at hx
      split at hx
      · split at hx
        · rw [List.mem_singleton] at hx
          subst hx
          show (0 : Int) ≤ (k : Int)
          omega
        · cases hx
      · cases hx
theorem rcAt_sign {L : List RatD} (hm : ∀ x ∈ L, 0 ≤ x.m) : (L.length = 0 → rcAt L = -1) ∧ (¬ L.length = 0 → 0 ≤ rcAt L) := by
  unfold rcAt
  refine ⟨fun h => if_pos h, fun h => ?_⟩
  rw [if_neg h]
  exact hm _ (bestR_mem (by omega))
theorem rcBest_ok {L : List RatD} (hm : ∀ x ∈ L, x.ok) (h : ¬ L.length = 0) : (0 ≤ (rcBest L).n ∧ (rcBest L).n ≤ 4000000000) ∧ (1 ≤ (rcBest L).d ∧ (rcBest L).d ≤ 400) := by
  unfold rcBest
  rw [if_neg h]
  exact hm _ (bestR_mem (by omega))
/-- What Choose answers, by what the reference knows. -/
theorem ch_rc {l : List MethD} {h : List DayD} {a b : Int} (hc : choChk l h a b = 0) : ((ratTo l h a b l.length).length = 0 → chE l h a b = 4 ∧ chR l h a b = zeroR) ∧ (¬ (ratTo l h a b l.length).length = 0 → chE l h a b = 0 ∧ (chR l h a b).m = rcAt (ratTo l h a b l.length) ∧ (chR l h a b).days = (rcBest (ratTo l h a b l.length)).days ∧ (chR l h a b).n = (rcBest (ratTo l h a b l.length)).n ∧ (chR l h a b).d = (rcBest (ratTo l h a b l.length)).d) := by
  unfold chE chR
  rw [if_pos hc, if_pos hc]
  unfold choE choR
  refine ⟨fun h0 => ?_, fun h0 => ?_⟩
  · rw [if_neg (by omega), if_neg (by omega)]
    exact ⟨rfl, rfl⟩
  · rw [if_pos (by omega), if_pos (by omega)]
    unfold rcAt rcBest
    rw [if_neg h0, if_neg h0]
    exact ⟨rfl, rfl, rfl, rfl, rfl⟩
/-- Rate, and the reference's. -/
theorem rate_same (m : MethD) (h : List DayD) (a b : Int) : chE [m] h a b = rateE m h a b ∧ (chR [m] h a b).days = (rateS m h a b).days ∧ (chR [m] h a b).n = (rateS m h a b).n ∧ (chR [m] h a b).d = (rateS m h a b).d := by
  have h1 : choChk [m] h a b = if checkH h = 0 then (if m.okB && costB a b then 0 else 1) else checkH h := by
    unfold choChk
    simp
  have h2 : ratTo [m] h a b ([m] : List MethD).length = if m.scored h then [⟨0, (m.score h a b).days, (m.score h a b).n, (m.score h a b).d⟩] else [] := rfl
  by_cases hc : choChk [m] h a b = 0
  · have hE : rateE m h a b = if scDays m h.length = 0 then 4 else 0 := by
      obtain ⟨g1, -, g3, g4⟩ := choChk_ok hc
      unfold rateE
      rw [if_pos g1, g3 m (by simp), g4]
      rfl
    by_cases hs : scDays m h.length = 0
    · have h3 : m.scored h = false := by simp [MethD.scored, hs]
      rw [h3] at h2
      have hz : (ratTo [m] h a b ([m] : List MethD).length).length = 0 := by rw [h2]; rfl
      obtain ⟨e1, e2⟩ := (ch_rc hc).1 hz
      rw [if_pos hs] at hE
      have e3 : rateS m h a b = ⟨0, 0, 0⟩ := by unfold rateS; rw [hE]; rfl
      rw [e1, e2, hE, e3]
      exact ⟨rfl, rfl, rfl, rfl⟩
    · have h3 : m.scored h = true := by simp [MethD.scored, hs]
      rw [h3] at h2
      have hz : ¬ (ratTo [m] h a b ([m] : List MethD).length).length = 0 := by rw [h2]; simp
      obtain ⟨e1, -, e2, e3, e4⟩ := (ch_rc hc).2 hz
      rw [if_neg hs] at hE
      have e5 : rateS m h a b = m.score h a b := by unfold rateS; rw [hE]; rfl
      rw [e1, e2, e3, e4, hE, e5, h2]
      exact ⟨rfl, rfl, rfl, rfl⟩
  · have e1 : chE [m] h a b = choChk [m] h a b := if_neg hc
    have e2 : chR [m] h a b = zeroR := if_neg hc
    have e3 : rateE m h a b = choChk [m] h a b := by
      rw [h1]
      rw [h1] at hc
      unfold rateE
      by_cases g1 : checkH h = 0
      · rw [if_pos g1] at hc
        rw [if_pos g1, if_pos g1]
        cases g2 : m.okB && costB a b with
        | true => rw [g2] at hc; exact absurd rfl hc
        | false => rfl
      · rw [if_neg g1, if_neg g1]
    have e4 : rateS m h a b = ⟨0, 0, 0⟩ := by unfold rateS; rw [e3, if_neg hc]
    rw [e1, e2, e3, e4]
    exact ⟨rfl, rfl, rfl, rfl⟩
end Go.Proofs.Ytlmpbmlbllndcaa
