/-
  Plain: the best shift is the best of all; what the reference looks for is the same.
-/
import Derived.Test.YtffodgpafiifcaaIc
import Derived.Test.YtffodgpafiifcaaIb
namespace Go.Proofs.Ytffodgpafiifcaa
open Go.RowKit

def absI (x : Int) : Int := max x (-x)
def Before (y x : Int) : Prop := absI y < absI x ∨ (absI y = absI x ∧ x ≤ y)
section
variable (marks : List Int) (W : Int) (seen : List Int)
/-- The shift S is as good as s. -/
def Ge (S s : Int) : Prop := countD marks W seen s < countD marks W seen S ∨ (countD marks W seen s = countD marks W seen S ∧ Before S s)
end
section
variable {marks : List Int} {W : Int} {seen : List Int}
theorem Before.rfl_ (x : Int) : Before x x := Or.inr ⟨rfl, Int.le_refl _⟩
theorem Before.anti {x y : Int} (h : Before x y) (h' : Before y x) : x = y := by unfold Before at h h'; omega
theorem Before.trans {x y z : Int} (h : Before x y) (h' : Before y z) : Before x z := by unfold Before at *; omega
theorem Ge.rfl_ (x : Int) : Ge marks W seen x x := Or.inr ⟨rfl, Before.rfl_ x⟩
theorem Ge.anti {x y : Int} (h : Ge marks W seen x y) (h' : Ge marks W seen y x) : x = y := by
  rcases h with h | ⟨h, hb⟩
  · rcases h' with h' | ⟨h', -⟩ <;> omega
  · rcases h' with h' | ⟨-, hb'⟩
    · omega
    · exact hb.anti hb'
theorem Ge.trans {x y z : Int} (h : Ge marks W seen x y) (h' : Ge marks W seen y z) : Ge marks W seen x z := by
  rcases h with h | ⟨h, hb⟩
  · rcases h' with h' | ⟨h', -⟩
    · exact Or.inl (by omega)
    · exact Or.inl (by omega)
  · rcases h' with h' | ⟨h', hb'⟩
    · exact Or.inl (by omega)
    · exact Or.inr ⟨by omega, hb.trans hb'⟩

theorem findD_mem {lo hi : Int} (h : findD seen lo hi ≠ lostD) : findD seen lo hi ∈ seen ∧ lo ≤ findD seen lo hi ∧ findD seen lo hi ≤ hi := by
  unfold findD at h ⊢
  cases hf : seen.find? (fun s => decide (lo ≤ s)) with
  | none => rw [hf] at h; exact absurd rfl h
  | some s =>
    rw [hf] at h
    have h1 := List.find?_some hf
    have h2 := List.mem_of_find?_eq_some hf
    by_cases h3 : s ≤ hi
    · show (if s ≤ hi then s else lostD) ∈ seen ∧ lo ≤ (if s ≤ hi then s else lostD) ∧ (if s ≤ hi then s else lostD) ≤ hi
      rw [if_pos h3]
      exact ⟨h2, by simpa using h1, h3⟩
    · refine absurd ?_ h
      show (if s ≤ hi then s else lostD) = lostD
      rw [if_neg h3]
theorem pig : ∀ (fs seen : List Int), fs.Pairwise (· < ·) → (∀ x ∈ fs, x ∈ seen) → fs.length ≤ seen.length := by
  intro fs
  induction fs with
  | nil => intro seen _ _; simp
  | cons x fs ih =>
    intro seen hp hm
    have hx := hm x (by simp)
    have h1 := ih (seen.erase x) (List.pairwise_cons.1 hp).2 fun y hy => by
      have h2 := (List.pairwise_cons.1 hp).1 y hy
      exact (List.mem_erase_of_ne (by omega)).2 (hm y (by simp [hy]))
    rw [List.length_erase_of_mem hx] at h1
    have h3 := List.length_pos_of_mem hx
    simp only [List.length_cons]
    omega
theorem apart_all (hA : AllowOk marks W) : marks.Pairwise (fun x y => 4 * W < y - x) := by
  have key : ∀ (d i : Nat) (x y : Int), marks[i]? = some x → marks[i + 1 + d]? = some y → 4 * W < y - x := by
    intro d
    induction d with
    | zero => intro i x y hx hy; exact hA.apart i x y hx hy
    | succ d ih =>
      intro i x y hx hy
      have hlt := (List.getElem?_eq_some_iff.1 hy).1
      have hz : marks[i + 1 + d]? = some marks[i + 1 + d] := List.getElem?_eq_getElem (by omega)
      have h1 := ih i x _ hx hz
      have h2 := hA.apart (i + 1 + d) _ y hz hy
      have := hA.wind
      omega
  rw [List.pairwise_iff_getElem]
  intro i j hi hj hij
  refine key (j - (i + 1)) i _ _ (List.getElem?_eq_getElem hi) ?_
  rw [show i + 1 + (j - (i + 1)) = j by omega]
  exact List.getElem?_eq_getElem hj
theorem countD_seen (hA : AllowOk marks W) (s : Int) : countD marks W seen s ≤ seen.length := by
  have h1 := (apart_all hA).filter (foundB seen W s)
  have h2 : (marks.filter (foundB seen W s)).Pairwise (fun x y => findD seen (x + s - W) (x + s + W) < findD seen (y + s - W) (y + s + W)) :=
    h1.imp_of_mem fun {a b} ha hb hab => by
      have ha2 := (List.mem_filter.1 ha).2
      have hb2 := (List.mem_filter.1 hb).2
      unfold foundB at ha2 hb2
      have h3 := findD_mem (by simpa using ha2)
      have h4 := findD_mem (by simpa using hb2)
      have := hA.wind
      omega
  have h3 := pig ((marks.filter (foundB seen W s)).map fun m => findD seen (m + s - W) (m + s + W)) seen (List.pairwise_map.2 h2) fun x hx => by
    obtain ⟨m, hm, rfl⟩ := List.mem_map.1 hx
    have h4 := (List.mem_filter.1 hm).2
    unfold foundB at h4
    exact (findD_mem (by simpa using h4)).1
  rwa [List.length_map] at h3

/-- The best of a list of shifts. -/
def BestOf (marks : List Int) (W : Int) (seen : List Int) (l : List Int) (st : Int × Int) : Prop := st.1 ∈ l ∧ st.2 = countD marks W seen st.1 ∧ ∀ s ∈ l, Ge marks W seen st.1 s
theorem BestOf.step {l : List Int} {st : Int × Int} (h : BestOf marks W seen l st) {x most : Int} (hx : ∀ y ∈ l, Before y x) (hm : (countD marks W seen x : Int) ≤ most) : BestOf marks W seen (l ++ [x]) (stepD marks W seen most st x) := by
  obtain ⟨h1, h2, h3⟩ := h
  have stay : countD marks W seen x ≤ countD marks W seen st.1 → BestOf marks W seen (l ++ [x]) st := fun hle => by
    refine ⟨by simp [h1], h2, fun s hs => ?_⟩
    rcases List.mem_append.1 hs with hs | hs
    · exact h3 s hs
    · rw [List.mem_singleton] at hs
      subst hs
      rcases Nat.lt_or_ge (countD marks W seen s) (countD marks W seen st.1) with h | h
      · exact Or.inl h
      · exact Or.inr ⟨by omega, hx _ h1⟩
  unfold stepD
  by_cases ha : st.2 = most
  · rw [if_pos ha]
    exact stay (by omega)
  · rw [if_neg ha]
    by_cases hb : st.2 < countD marks W seen x
    · rw [if_pos hb]
      refine ⟨by simp, rfl, fun s hs => ?_⟩
      rcases List.mem_append.1 hs with hs | hs
      · have := h3 s hs
        refine Or.inl ?_
        show countD marks W seen s < countD marks W seen x
        rcases this with h | ⟨h, -⟩ <;> omega
      · rw [List.mem_singleton] at hs
        subst hs
        exact Ge.rfl_ _
    · rw [if_neg hb]
      exact stay (by omega)
theorem shiftsTo_abs (k : Nat) : ∀ y ∈ shiftsTo k, absI y ≤ k := by
  induction k with
  | zero => intro y hy; unfold shiftsTo at hy; simp at hy; subst hy; unfold absI; omega
  | succ k ih =>
    intro y hy
    rw [shiftsTo_next] at hy
    simp only [List.mem_append, List.mem_singleton] at hy
    rcases hy with (hy | rfl) | rfl
    · have := ih y hy; omega
    · unfold absI; omega
    · unfold absI; omega
theorem shiftsTo_mem (k : Nat) (s : Int) (h : absI s ≤ k) : s ∈ shiftsTo k := by
  induction k with
  | zero => have : s = 0 := by unfold absI at h; omega
            subst this; unfold shiftsTo; simp
  | succ k ih =>
    rw [shiftsTo_next]
    simp only [List.mem_append, List.mem_singleton]
    by_cases h1 : absI s ≤ k
    · exact Or.inl (Or.inl (ih h1))
    · unfold absI at h h1
      by_cases h2 : 0 ≤ s
      · exact Or.inl (Or.inr (by omega))
      · exact Or.inr (by omega)
theorem bestTo_best (hA : AllowOk marks W) (k : Nat) : BestOf marks W seen (shiftsTo k) (bestTo marks W seen (shiftsTo k)) := by
  have hm : ∀ x, (countD marks W seen x : Int) ≤ min (marks.length : Int) (seen.length : Int) := fun x => by
    have h1 := countD_le marks W seen x
    have h2 := countD_seen (seen := seen) hA x
    omega
  induction k with
  | zero =>
    have h0 : shiftsTo 0 = [0] := rfl
    rw [h0]
    show BestOf marks W seen [0] (stepD marks W seen (min marks.length seen.length) (0, 0) 0)
    have h1 := hm 0
    unfold stepD
    by_cases ha : (0 : Int) = min (marks.length : Int) seen.length
    · rw [if_pos ha]
      exact ⟨by simp, by show (0 : Int) = (countD marks W seen 0 : Int); omega, fun s hs => by rw [List.mem_singleton] at hs; subst hs; exact Ge.rfl_ _⟩
    · rw [if_neg ha]
      by_cases hb : (0 : Int) < countD marks W seen 0
      · rw [if_pos hb]
        exact ⟨by simp, rfl, fun s hs => by rw [List.mem_singleton] at hs; subst hs; exact Ge.rfl_ _⟩
      · rw [if_neg hb]
        exact ⟨by simp, by show (0 : Int) = (countD marks W seen 0 : Int); omega, fun s hs => by rw [List.mem_singleton] at hs; subst hs; exact Ge.rfl_ _⟩
  | succ k ih =>
    rw [shiftsTo_next, bestTo_snoc, bestTo_snoc]
    have h1 := ih.step (x := (k : Int) + 1) (fun y hy => Or.inl (by have := shiftsTo_abs k y hy; show absI y < max _ _; omega)) (hm _)
    refine h1.step (fun y hy => ?_) (hm _)
    rcases List.mem_append.1 hy with hy | hy
    · exact Or.inl (by have := shiftsTo_abs k y hy; show absI y < max _ _; omega)
    · rw [List.mem_singleton] at hy
      subst hy
      exact Or.inr ⟨by unfold absI; omega, by omega⟩
/-- The best of the shifts that the reference has tried. -/
def RefBest (marks : List Int) (W : Int) (seen : List Int) (x : Int) (S C : Int) : Prop :=
  (x = -2000 ∧ S = 0 ∧ C = -1) ∨ (-2000 ≤ S ∧ S < x ∧ C = countD marks W seen S ∧ ∀ s, -2000 ≤ s → s < x → Ge marks W seen S s)
theorem RefBest.start : RefBest marks W seen (-2000) 0 (-1) := Or.inl ⟨rfl, rfl, rfl⟩
/-- Is the shift x better? -/
def Better (marks : List Int) (W : Int) (seen : List Int) (x S C : Int) : Prop := C < countD marks W seen x ∨ ((countD marks W seen x : Int) = C ∧ (absI x < absI S ∨ (absI x = absI S ∧ S < x)))
theorem RefBest.yes {x S C : Int} (h : RefBest marks W seen x S C) (hx : -2000 ≤ x) (hb : Better marks W seen x S C) : RefBest marks W seen (x + 1) x (countD marks W seen x) := by
  refine Or.inr ⟨hx, by omega, rfl, fun s h1 h2 => ?_⟩
  by_cases he : s = x
  · subst he; exact Ge.rfl_ _
  · rcases h with ⟨rfl, -, -⟩ | ⟨h3, h4, rfl, h5⟩
    · omega
    · have hxS : Ge marks W seen x S := by
        rcases hb with hb | ⟨hb, hb2⟩
        · exact Or.inl (by omega)
        · exact Or.inr ⟨by omega, by unfold Before; omega⟩
      exact hxS.trans (h5 s h1 (by omega))
theorem RefBest.no {x S C : Int} (h : RefBest marks W seen x S C) (hb : ¬ Better marks W seen x S C) : RefBest marks W seen (x + 1) S C := by
  rcases h with ⟨rfl, rfl, rfl⟩ | ⟨h3, h4, rfl, h5⟩
  · exact absurd (Or.inl (by omega)) hb
  · refine Or.inr ⟨h3, by omega, rfl, fun s h1 h2 => ?_⟩
    by_cases he : s = x
    · subst he
      unfold Better at hb
      rcases Nat.lt_trichotomy (countD marks W seen s) (countD marks W seen S) with h | h | h
      · exact Or.inl h
      · refine Or.inr ⟨h, ?_⟩
        unfold Before
        have : ¬ (absI s < absI S ∨ (absI s = absI S ∧ S < s)) := fun h6 => hb (Or.inr ⟨by omega, h6⟩)
        omega
      · exact absurd (Or.inl (by omega)) hb
    · exact h5 s h1 (by omega)
theorem RefBest.end_ (hA : AllowOk marks W) {S C : Int} (h : RefBest marks W seen 2001 S C) : S = (bestD marks W seen).1 ∧ C = (bestD marks W seen).2 := by
  have hB : BestOf marks W seen (shiftsTo 2000) (bestD marks W seen) := bestTo_best hA 2000
  obtain ⟨h1, h2, h3⟩ := hB
  generalize bestD marks W seen = bd at *
  rcases h with ⟨h4, -, -⟩ | ⟨h4, h5, h6, h7⟩
  · omega
  · have h8 := shiftsTo_abs 2000 _ h1
    have h9 := shiftsTo_mem 2000 S (by unfold absI; omega)
    have he : S = bd.1 := (h7 bd.1 (by unfold absI at h8; omega) (by unfold absI at h8; omega)).anti (h3 S h9)
    exact ⟨he, by rw [h6, h2, he]⟩
end
end Go.Proofs.Ytffodgpafiifcaa
