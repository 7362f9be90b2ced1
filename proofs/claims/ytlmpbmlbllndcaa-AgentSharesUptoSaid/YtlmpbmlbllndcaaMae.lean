/-
  Plain: what Best looks at, and the first of the least.
-/
import Derived.Test.YtlmpbmlbllndcaaMad
namespace Go.Proofs.Ytlmpbmlbllndcaa

/-- What Best looks at: a supply and its total. -/
def candL (a b : Int) (l m : List DayD) : List (Int × Int) := (0, totD a b l 0) :: m.map fun d => (d.sold, totD a b l d.sold)
def ltS (x y : Int × Int) : Bool := decide (x.2 < y.2 ∨ x.2 = y.2 ∧ x.1 < y.1)
def bestD (a b : Int) (l : List DayD) : Int × Int := (leastTo ltS none (candL a b l l)).getD (0, 0)
theorem best_is (a b : Int) (l : List DayD) : IsBest a b l (bestD a b l).1 (bestD a b l).2 := by
  unfold bestD
  cases h : leastTo ltS none (candL a b l l) with
  | none => exact absurd (leastTo_none h) (by simp [candL])
  | some y =>
    have hm := leastTo_mem h
    have ha := leastTo_all (lt := ltS) (p := fun _ => True) (fun a b c _ _ _ h1 h2 => by
      unfold ltS at *
      simp only [decide_eq_false_iff_not] at *
      omega) (fun a => by unfold ltS; simp) (fun a b h1 => by
      unfold ltS at *
      simp only [decide_eq_true_eq, decide_eq_false_iff_not] at *
      omega) (fun _ _ => trivial) h
    simp only [Option.getD_some]
    have hc : ∀ x ∈ candL a b l l, Cand l x.1 ∧ x.2 = totD a b l x.1 := fun x hx => by
      unfold candL at hx
      rcases List.mem_cons.1 hx with rfl | hx
      · exact ⟨Or.inl rfl, rfl⟩
      · obtain ⟨d, hd, rfl⟩ := List.mem_map.1 hx
        exact ⟨Or.inr ⟨d, hd, rfl⟩, rfl⟩
    refine ⟨(hc y hm).1, (hc y hm).2, fun c h1 => ?_⟩
    have h2 : (c, totD a b l c) ∈ candL a b l l := by
      unfold candL
      rcases h1 with rfl | ⟨d, hd, rfl⟩
      · exact List.mem_cons_self
      · exact List.mem_cons_of_mem _ (List.mem_map.2 ⟨d, hd, rfl⟩)
    have h3 := ha _ h2
    unfold ltS at h3
    simp only [decide_eq_false_iff_not] at h3
    omega
end Go.Proofs.Ytlmpbmlbllndcaa
