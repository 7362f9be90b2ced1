/-
  Plain for AgentScores.
-/
import Derived.Test.YtlmpbmlbllndcaaKf
namespace Go.Proofs.Ytlmpbmlbllndcaa

/-- A method made of two numbers. -/
def methOf (x y : Int) : MethD := ⟨1 + x % 4, if x % 4 = 0 then 1 else 1 + y % 8⟩
def methAt (l : List Int) (i : Nat) : MethD := methOf (l.getD (2 * i) 0) (l.getD (2 * i + 1) 0)
def methTo (l : List Int) (k : Nat) : List MethD := (List.range k).map (methAt l)
def nMeths (l : List Int) : Nat := min 10 (l.length / 2)
def methsOf (l : List Int) : List MethD := methTo l (nMeths l)
theorem methTo_len (l : List Int) (k : Nat) : (methTo l k).length = k := by simp [methTo]
theorem methTo_next (l : List Int) (k : Nat) : methTo l (k + 1) = methTo l k ++ [methAt l k] := by
  unfold methTo
  rw [List.range_succ, List.map_append]
  rfl
theorem methOf_ok (x y : Int) : (methOf x y).okB = true := by
  unfold methOf MethD.okB
  simp only
  by_cases h : x % 4 = 0
  · rw [if_pos (by omega), if_pos h]; rfl
  · rw [if_neg (by omega), if_neg h, decide_eq_true (show 1 ≤ 1 + x % 4 ∧ 1 + x % 4 ≤ 4 by omega), decide_eq_true (show 1 ≤ 1 + y % 8 ∧ 1 + y % 8 ≤ 60 by omega)]
    rfl
theorem meths_ok (l : List Int) : ∀ m ∈ methsOf l, m.okB = true := fun m hm => by
  obtain ⟨i, -, rfl⟩ := List.mem_map.1 hm
  exact methOf_ok _ _
section
variable {ms : List MethD} {h : List DayD} {a b : Int}
theorem ratOf_cases (k : Nat) : ratOf ms h a b k = [] ∨ ∃ x, ratOf ms h a b k = [x] ∧ x.m = (k : Int) := by
  unfold ratOf
  split
  · split
    · exact .inr ⟨_, rfl, rfl⟩
    · exact .inl rfl
  · exact .inl rfl
theorem ratTo_nil : ∀ {k : Nat}, ratTo ms h a b k = [] → ∀ j, j < k → ratOf ms h a b j = []
  | 0, _, j, hj => by omega
  | k + 1, hk, j, hj => by
    unfold ratTo at hk
    obtain ⟨h1, h2⟩ := List.append_eq_nil_iff.1 hk
    by_cases e : j = k
    · rw [e]; exact h2
    · exact ratTo_nil h1 j (by omega)
theorem lstR_all (l : List RatD) : lstR l l.length = (leastTo ltR none l).getD zeroR := by unfold lstR; rw [List.take_length]
theorem cmpI_lt (x y : Int) : decide (cmpI x y < 0) = decide (x < y) := by
  unfold cmpI
  by_cases h1 : x < y
  · rw [if_pos h1, decide_eq_true h1]; rfl
  · rw [if_neg h1, decide_eq_false h1]
    split <;> rfl
theorem ratTo_least (hok : ∀ k, ∀ x ∈ ratTo ms h a b k, x.ok) : ∀ k, ratTo ms h a b k ≠ [] → ∃ R, leastTo ltR none (ratTo ms h a b k) = some R ∧ (∃ i, i < k ∧ R.m = (i : Int) ∧ ratOf ms h a b i = [R]) ∧
    ∀ j, j < k → ∀ x, ratOf ms h a b j = [x] → R.n * x.d ≤ x.n * R.d ∧ ((j : Int) < R.m → R.n * x.d < x.n * R.d)
  | 0, hne => absurd rfl hne
  | k + 1, hne => by
    have hx1 : ∀ j x, ratOf ms h a b j = [x] → x.ok := fun j x e => hok (j + 1) x (by unfold ratTo; rw [e]; simp)
    rcases ratOf_cases (ms := ms) (h := h) (a := a) (b := b) k with e | ⟨x, e, hxm⟩
    · have e2 : ratTo ms h a b (k + 1) = ratTo ms h a b k := by unfold ratTo; rw [e, List.append_nil]; cases k <;> rfl
      rw [e2] at hne ⊢
      obtain ⟨R, h1, ⟨i, hi, h2, h3⟩, h4⟩ := ratTo_least hok k hne
      refine ⟨R, h1, ⟨i, by omega, h2, h3⟩, fun j hj y hy => ?_⟩
      by_cases ej : j = k
      · rw [ej, e] at hy; cases hy
      · exact h4 j (by omega) y hy
    · have hL : ratTo ms h a b (k + 1) = ratTo ms h a b k ++ [x] := by rw [← e]; rfl
      rw [hL]
      by_cases hn : ratTo ms h a b k = []
      · rw [hn]
        refine ⟨x, rfl, ⟨k, by omega, hxm, e⟩, fun j hj y hy => ?_⟩
        by_cases ej : j = k
        · rw [ej, e] at hy
          obtain rfl : x = y := by simpa using hy
          exact ⟨Int.le_refl _, fun hlt => by omega⟩
        · rw [ratTo_nil hn j (by omega)] at hy; cases hy
      · obtain ⟨R, h1, ⟨i, hi, h2, h3⟩, h4⟩ := ratTo_least hok k hn
        have hxo := hx1 k x e
        have hRo := hx1 i R h3
        rw [leastTo_snoc, h1]
        by_cases hlt : ltR x R = true
        · have hlt' : x.n * R.d < R.n * x.d := by
            unfold ltR at hlt
            rw [cmpI_lt] at hlt
            exact of_decide_eq_true hlt
          refine ⟨x, by simp only; rw [if_pos hlt], ⟨k, by omega, hxm, e⟩, fun j hj y hy => ?_⟩
          by_cases ej : j = k
          · rw [ej, e] at hy
            obtain rfl : x = y := by simpa using hy
            exact ⟨Int.le_refl _, fun hlt => by omega⟩
          · have hyo := hx1 j y hy
            have h5 := (h4 j (by omega) y hy).1
            have h6 : x.n * y.d < y.n * x.d := frac_lt (a := y.n) (b := y.d) (c := R.n) (d := R.d) (e := x.n) (f := x.d) (by have := hyo.2.1; omega) (by have := hRo.2.1; omega) (by have := hxo.2.1; omega) h5 hlt'
            exact ⟨Int.le_of_lt h6, fun _ => h6⟩
        · have hge : R.n * x.d ≤ x.n * R.d := by
            unfold ltR at hlt
            rw [cmpI_lt] at hlt
            have := of_decide_eq_false (by simpa using hlt : decide (x.n * R.d < R.n * x.d) = false)
            omega
          refine ⟨R, by simp only; rw [if_neg hlt], ⟨i, by omega, h2, h3⟩, fun j hj y hy => ?_⟩
          by_cases ej : j = k
          · rw [ej, e] at hy
            obtain rfl : x = y := by simpa using hy
            exact ⟨hge, fun hlt => by omega⟩
          · exact h4 j (by omega) y hy
theorem rate_yes {m : MethD} (hs : ¬ scDays m h.length = 0) : choE [m] h a b = 0 ∧ (choR [m] h a b).days = scDays m h.length ∧ (choR [m] h a b).n = lowN (scLoss m h a b h.length) (scDays m h.length) ∧ (choR [m] h a b).d = lowD (scLoss m h a b h.length) (scDays m h.length) := by
  have h1 : m.scored h = true := by simpa [MethD.scored] using hs
  have h2 : ratTo [m] h a b [m].length = [⟨0, (m.score h a b).days, (m.score h a b).n, (m.score h a b).d⟩] := by
    show [] ++ ratOf [m] h a b 0 = _
    unfold ratOf
    simp [h1]
  unfold choE choR
  rw [h2]
  simp only [List.length_cons, List.length_nil, Nat.zero_add, Nat.zero_lt_one, if_true]
  unfold MethD.score
  rw [if_neg hs]
  exact ⟨by first | trivial | rfl, rfl, rfl, rfl⟩
theorem rate_no {m : MethD} (hs : scDays m h.length = 0) : choE [m] h a b = 4 := by
  have h1 : m.scored h = false := by simpa [MethD.scored] using hs
  have h2 : ratTo [m] h a b [m].length = [] := by
    show [] ++ ratOf [m] h a b 0 = _
    unfold ratOf
    simp [h1]
  unfold choE
  rw [h2]
  rfl
theorem choose_facts (hok : ∀ k, ∀ x ∈ ratTo ms h a b k, x.ok) {i : Nat} {m : MethD} (hi : ms[i]? = some m) (hs : ¬ scDays m h.length = 0) (hl : 0 ≤ scLoss m h a b h.length) :
    choE ms h a b = 0 ∧ (choR ms h a b).n * scDays m h.length ≤ scLoss m h a b h.length * (choR ms h a b).d ∧ ((i : Int) < (choR ms h a b).m → (choR ms h a b).n * scDays m h.length < scLoss m h a b h.length * (choR ms h a b).d) ∧
    ((i : Int) = (choR ms h a b).m → (choR ms h a b).days = scDays m h.length ∧ (choR ms h a b).n = lowN (scLoss m h a b h.length) (scDays m h.length) ∧ (choR ms h a b).d = lowD (scLoss m h a b h.length) (scDays m h.length)) ∧ (choR ms h a b).ok := by
  have hil : i < ms.length := (List.getElem?_eq_some_iff.1 hi).1
  have h1 : m.scored h = true := by simpa [MethD.scored] using hs
  have hx : ratOf ms h a b i = [⟨(i : Int), (m.score h a b).days, (m.score h a b).n, (m.score h a b).d⟩] := by
    unfold ratOf
    rw [hi]
    simp [h1]
  have hne : ratTo ms h a b ms.length ≠ [] := fun e => by
    rw [ratTo_nil e i hil] at hx
    cases hx
  obtain ⟨R, hR, ⟨j, hj, hRm, hRo⟩, hall⟩ := ratTo_least hok ms.length hne
  have hlen : 0 < (ratTo ms h a b ms.length).length := List.length_pos_iff.2 hne
  have hcR : choR ms h a b = R := by
    unfold choR
    rw [if_pos hlen, lstR_all, hR]
    rfl
  have hdays := scDays_bd m h.length
  obtain ⟨g, hg, e1, e2⟩ := low_times hl (show 0 < scDays m h.length by omega)
  obtain ⟨h5, h6⟩ := hall i hil _ hx
  have hsc : m.score h a b = ⟨scDays m h.length, lowN (scLoss m h a b h.length) (scDays m h.length), lowD (scLoss m h a b h.length) (scDays m h.length)⟩ := by unfold MethD.score; rw [if_neg hs]
  rw [hsc] at h5 h6 hx
  simp only at h5 h6 hx
  rw [hcR]
  generalize hN : lowN (scLoss m h a b h.length) (scDays m h.length) = N at *
  generalize hD : lowD (scLoss m h a b h.length) (scDays m h.length) = D at *
  generalize scLoss m h a b h.length = ls at *
  generalize scDays m h.length = dy at *
  have e3 : R.n * dy = (R.n * D) * g := by rw [e2, Int.mul_assoc]
  have e4 : ls * R.d = (N * R.d) * g := by rw [e1, Int.mul_right_comm]
  refine ⟨by unfold choE; rw [if_pos hlen], ?_, fun hlt => ?_, fun heq => ?_, hok (j + 1) R (by unfold ratTo; rw [hRo]; simp)⟩
  · rw [e3, e4]
    exact Int.mul_le_mul_of_nonneg_right h5 (by omega)
  · rw [e3, e4]
    exact Int.mul_lt_mul_of_pos_right (h6 hlt) hg
  · have : i = j := by omega
    subst this
    rw [hx] at hRo
    simp only [List.cons.injEq, and_true] at hRo
    rw [← hRo]
    exact ⟨rfl, rfl, rfl⟩
theorem ratTo_pos {i : Nat} {m : MethD} {k : Nat} (hi : ms[i]? = some m) (hik : i < k) (hs : ¬ scDays m h.length = 0) : 0 < (ratTo ms h a b k).length := by
  refine List.length_pos_iff.2 fun e => ?_
  have h1 : m.scored h = true := by simpa [MethD.scored] using hs
  have hx := ratTo_nil e i hik
  unfold ratOf at hx
  rw [hi] at hx
  simp [h1] at hx
end
end Go.Proofs.Ytlmpbmlbllndcaa
