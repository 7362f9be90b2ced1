/-
  Plain, for RegisterFinds: marks that are hit by what was seen; a list in order with one more.
-/
import Derived.Test.YtffodgpafiifcaaKb
import Derived.Test.YtffodgpafiifcaaNa
namespace Go.Proofs.Ytffodgpafiifcaa
open Go.RowKit

def hitB (l : List Int) (S W m : Int) : Bool := l.any fun x => decide (m + S - W ≤ x) && decide (x ≤ m + S + W)
theorem hitB_iff {l : List Int} {S W m : Int} : hitB l S W m = true ↔ ∃ x ∈ l, m + S - W ≤ x ∧ x ≤ m + S + W := by
  unfold hitB
  rw [List.any_eq_true]
  constructor
  · rintro ⟨x, hx, h⟩
    exact ⟨x, hx, by simpa using h⟩
  · rintro ⟨x, hx, h⟩
    exact ⟨x, hx, by simpa using h⟩
theorem hitB_more {l l' : List Int} (h : ∀ x ∈ l, x ∈ l') {S W m : Int} (hh : hitB l S W m = true) : hitB l' S W m = true := by
  obtain ⟨x, hx, h1⟩ := hitB_iff.1 hh
  exact hitB_iff.2 ⟨x, h x hx, h1⟩
def hits (marks l : List Int) (S W : Int) : Nat := (marks.filter (hitB l S W)).length
theorem hits_more {l l' : List Int} (h : ∀ x ∈ l, x ∈ l') (S W : Int) : ∀ marks : List Int, hits marks l S W ≤ hits marks l' S W
  | [] => by simp [hits]
  | m :: marks => by
    have ih := hits_more h S W marks
    unfold hits at ih ⊢
    rw [List.filter_cons, List.filter_cons]
    by_cases h1 : hitB l S W m = true
    · rw [if_pos h1, if_pos (hitB_more h h1)]
      simp only [List.length_cons]; omega
    · rw [if_neg h1]
      split
      · simp only [List.length_cons]; omega
      · exact ih
theorem hits_snoc (marks l : List Int) (S W m : Int) : hits (marks ++ [m]) l S W = hits marks l S W + if hitB l S W m then 1 else 0 := by
  unfold hits
  rw [List.filter_append, List.length_append]
  cases h : hitB l S W m <;> simp [List.filter_cons, h]
theorem hitB_found {lst : List Int} {W S : Int} (ha : Ascends lst) (hb : ∀ x ∈ lst, x ≤ 200000) (m : Int) : hitB lst S W m = foundB lst W S m := by
  rw [Bool.eq_iff_iff, hitB_iff, foundB_iff ha hb]
theorem hits_count {marks lst : List Int} {W S : Int} (ha : Ascends lst) (hb : ∀ x ∈ lst, x ≤ 200000) : hits marks lst S W = countD marks W lst S := by
  have e : hitB lst S W = foundB lst W S := by
    funext m
    rw [Bool.eq_iff_iff, hitB_iff, foundB_iff ha hb]
  unfold hits countD
  rw [e]

theorem hits_le (marks l : List Int) (S W : Int) : hits marks l S W ≤ marks.length := List.length_filter_le _ _
/-- What the law has seen after some marks: the set, how many marks are truly seen. -/
structure SeenTo (marks : List Int) (S W : Int) (k : Nat) (l : List Int) (t : Nat) : Prop where
  nodup : l.Nodup
  len : l.length ≤ k
  place : ∀ x ∈ l, -3000 ≤ x ∧ x ≤ 100000
  truly : t ≤ hits (marks.take k) l S W
theorem SeenTo.start (marks : List Int) (S W : Int) : SeenTo marks S W 0 [] 0 := ⟨List.nodup_nil, by simp, by simp, by simp⟩
theorem SeenTo.gone {marks : List Int} {S W : Int} {k t : Nat} {l : List Int} {m : Int} (h : SeenTo marks S W k l t) (hm : marks[k]? = some m) : SeenTo marks S W (k + 1) l t := by
  refine ⟨h.nodup, by have := h.len; omega, h.place, ?_⟩
  rw [take_snoc_get hm, hits_snoc]
  have := h.truly
  omega
theorem SeenTo.hit {marks : List Int} {S W : Int} {k t : Nat} {l : List Int} {m x : Int} (h : SeenTo marks S W k l t) (hm : marks[k]? = some m) (hx : m + S - W ≤ x ∧ x ≤ m + S + W) (hp : -3000 ≤ x ∧ x ≤ 100000) : SeenTo marks S W (k + 1) (addS l x) (t + 1) := by
  refine ⟨addS_nodup h.nodup, by have := h.len; have := addS_len l x; omega, fun y hy => ?_, ?_⟩
  · rcases addS_mem.1 hy with rfl | hy
    · exact hp
    · exact h.place y hy
  · rw [take_snoc_get hm, hits_snoc, if_pos (hitB_iff.2 ⟨x, addS_mem.2 (.inl rfl), hx⟩)]
    have h1 := hits_more (l := l) (l' := addS l x) (fun y hy => addS_mem.2 (.inr hy)) S W (marks.take k)
    have := h.truly
    omega
/-- What was seen beside. -/
structure BesideTo (marks : List Int) (S W : Int) (k : Nat) (l : List Int) (t : Nat) : Prop where
  nodup : l.Nodup
  len : l.length ≤ 12 + k
  place : ∀ x ∈ l, -3000 ≤ x ∧ x ≤ 100000
  truly : t ≤ hits marks l S W
theorem SeenTo.beside {marks : List Int} {S W : Int} {t : Nat} {l : List Int} (h : SeenTo marks S W marks.length l t) (hm : marks.length ≤ 12) : BesideTo marks S W 0 l t :=
  ⟨h.nodup, by have := h.len; omega, h.place, by have := h.truly; rwa [List.take_of_length_le (Nat.le_refl _)] at this⟩
theorem BesideTo.more {marks : List Int} {S W : Int} {k t : Nat} {l : List Int} {x : Int} (h : BesideTo marks S W k l t) (hp : -3000 ≤ x ∧ x ≤ 100000) : BesideTo marks S W (k + 1) (addS l x) t := by
  refine ⟨addS_nodup h.nodup, by have := h.len; have := addS_len l x; omega, fun y hy => ?_, ?_⟩
  · rcases addS_mem.1 hy with rfl | hy
    · exact hp
    · exact h.place y hy
  · have h1 := hits_more (l := l) (l' := addS l x) (fun y hy => addS_mem.2 (.inr hy)) S W marks
    have := h.truly
    omega

/-- A list in order that has what an iterator has handed out. -/
structure SortTo (l : List Int) (got : Array Nat) (lst : List Int) : Prop where
  asc : lst.Pairwise (· < ·)
  mem : ∀ x, x ∈ lst ↔ ∃ i, got.contains i = true ∧ l[i]? = some x
theorem SortTo.start (l : List Int) : SortTo l #[] [] := ⟨List.Pairwise.nil, fun x => ⟨fun h => (by cases h), fun ⟨i, hi, _⟩ => (by simp at hi)⟩⟩
theorem mem_split {lst : List Int} {j : Nat} {x y : Int} : y ∈ lst.take j ++ [x] ++ lst.drop j ↔ y = x ∨ y ∈ lst := by
  have h := List.take_append_drop j lst
  constructor
  · intro hy
    rcases List.mem_append.1 hy with hy | hy
    · rcases List.mem_append.1 hy with hy | hy
      · exact .inr (List.mem_of_mem_take hy)
      · exact .inl (by simpa using hy)
    · exact .inr (List.mem_of_mem_drop hy)
  · rintro (rfl | hy)
    · simp
    · rw [← h] at hy
      rcases List.mem_append.1 hy with hy | hy
      · simp [hy]
      · simp [hy]
theorem nodup_idx {l : List Int} (hn : l.Nodup) {i i' : Nat} {x : Int} (h : l[i]? = some x) (h' : l[i']? = some x) : i = i' := by
  obtain ⟨l1, e1⟩ := List.getElem?_eq_some_iff.1 h
  obtain ⟨l2, e2⟩ := List.getElem?_eq_some_iff.1 h'
  have hp := List.pairwise_iff_getElem.1 hn
  rcases Nat.lt_trichotomy i i' with h3 | h3 | h3
  · exact absurd (e1.trans e2.symm) (hp i i' l1 l2 h3)
  · exact h3
  · exact absurd (e2.trans e1.symm) (hp i' i l2 l1 h3)
theorem SortTo.next {l lst : List Int} {got : Array Nat} {i j : Nat} {x : Int} (h : SortTo l got lst) (hn : l.Nodup) (hi : l[i]? = some x) (hg : got.contains i = false)
    (hlo : ∀ y ∈ lst.take j, y ≤ x) (hhi : ∀ y ∈ lst.drop j, x < y) : SortTo l (got.push i) (lst.take j ++ [x] ++ lst.drop j) := by
  have hx : x ∉ lst := fun hx => by
    obtain ⟨i', h1, h2⟩ := (h.mem x).1 hx
    have h3 : i = i' := nodup_idx hn hi h2
    subst h3
    rw [hg] at h1; cases h1
  have hasc := h.asc
  rw [← List.take_append_drop j lst, List.pairwise_append] at hasc
  obtain ⟨a1, a2, a3⟩ := hasc
  refine ⟨?_, fun y => ?_⟩
  · rw [List.pairwise_append]
    refine ⟨?_, a2, ?_⟩
    · rw [List.pairwise_append]
      refine ⟨a1, List.pairwise_singleton _ _, fun a ha b hb => ?_⟩
      rw [List.mem_singleton] at hb
      subst hb
      have h1 := hlo a ha
      have h2 : a ≠ b := fun e => hx (e ▸ List.mem_of_mem_take ha)
      omega
    · intro a ha b hb
      rcases List.mem_append.1 ha with ha | ha
      · exact a3 a ha b hb
      · rw [List.mem_singleton] at ha
        subst ha
        exact hhi b hb
  · rw [mem_split]
    constructor
    · rintro (rfl | hy)
      · exact ⟨i, by rw [contains_push]; simp, hi⟩
      · obtain ⟨i', h1, h2⟩ := (h.mem y).1 hy
        exact ⟨i', by rw [contains_push, h1]; rfl, h2⟩
    · rintro ⟨i', h1, h2⟩
      rw [contains_push, Bool.or_eq_true] at h1
      rcases h1 with h1 | h1
      · exact .inr ((h.mem y).2 ⟨i', h1, h2⟩)
      · rw [beq_iff_eq] at h1
        subst h1
        rw [hi] at h2
        cases h2
        exact .inl rfl
theorem nodup_len {l m : List Int} (hl : l.Nodup) (h : ∀ x ∈ l, x ∈ m) : l.length ≤ m.length := by
  induction l generalizing m with
  | nil => simp
  | cons x l ih =>
    have hx : x ∈ m := h x (by simp)
    obtain ⟨a, b, rfl⟩ := List.append_of_mem hx
    rw [List.nodup_cons] at hl
    have h1 := ih hl.2 (m := a ++ b) (fun y hy => by
      have h2 := h y (by simp [hy])
      rcases List.mem_append.1 h2 with h2 | h2
      · exact List.mem_append_left _ h2
      · rcases List.mem_cons.1 h2 with rfl | h2
        · exact absurd hy hl.1
        · exact List.mem_append_right _ h2)
    simp only [List.length_append, List.length_cons] at h1 ⊢
    omega
theorem SortTo.len {l lst : List Int} {got : Array Nat} (h : SortTo l got lst) : lst.length ≤ l.length :=
  nodup_len (h.asc.imp (fun hab => by omega)) fun x hx => by
    obtain ⟨i, -, h2⟩ := (h.mem x).1 hx
    exact List.mem_of_getElem? h2
theorem SortTo.all {l lst : List Int} {got : Array Nat} (h : SortTo l got lst) (hg : ∀ i, i < l.length → got.contains i = true) (x : Int) : x ∈ lst ↔ x ∈ l := by
  rw [h.mem]
  constructor
  · rintro ⟨i, -, h2⟩
    exact List.mem_of_getElem? h2
  · intro hx
    obtain ⟨i, hi, rfl⟩ := List.getElem_of_mem hx
    exact ⟨i, hg i hi, List.getElem?_eq_getElem hi⟩
/-- What the camera has seen in the end. -/
theorem BesideTo.cam {marks l lst : List Int} {S W : Int} {k t : Nat} {got : Array Nat} (h : BesideTo marks S W k l t) (hk : k ≤ 10) (hs : SortTo l got lst) (hg : ∀ i, i < l.length → got.contains i = true) : CamOk lst := by
  refine ⟨by have := hs.len; have := h.len; omega, fun x hx => ?_, fun i x y hx hy => ?_⟩
  · have := h.place x ((hs.all hg x).1 hx)
    omega
  · obtain ⟨l1, e1⟩ := List.getElem?_eq_some_iff.1 hx
    obtain ⟨l2, e2⟩ := List.getElem?_eq_some_iff.1 hy
    have := List.pairwise_iff_getElem.1 hs.asc i (i + 1) l1 l2 (by omega)
    omega
theorem BesideTo.count {marks l lst : List Int} {S W : Int} {k t : Nat} {got : Array Nat} (h : BesideTo marks S W k l t) (hk : k ≤ 10) (hs : SortTo l got lst) (hg : ∀ i, i < l.length → got.contains i = true)
    (hA : AllowOk marks W) (hS : -2000 ≤ S ∧ S ≤ 2000) : (t : Int) ≤ (bestD marks W lst).2 := by
  have hC := h.cam hk hs hg
  have h1 := hits_more (l := l) (l' := lst) (fun x hx => (hs.all hg x).2 hx) S W marks
  rw [hits_count hC.ascends (fun x hx => (hC.place x hx).2)] at h1
  have h2 := best_count (seen := lst) hA hS
  have := h.truly
  omega
theorem fitD_len (marks : List Int) (W : Int) (seen : List Int) : (fitD marks W seen).length = marks.length := fitTo_len _ _ _ _
theorem any_take_next {f : Int → Bool} {l : List Int} {k : Nat} {x : Int} (hx : l[k]? = some x) : (l.take (k + 1)).any f = ((l.take k).any f || f x) := by
  rw [take_snoc_get hx, List.any_append]
  simp
theorem SeenTo.le {marks : List Int} {S W : Int} {k t : Nat} {l : List Int} (h : SeenTo marks S W k l t) : t ≤ k := by
  have h1 := h.truly
  have h2 := hits_le (marks.take k) l S W
  rw [List.length_take] at h2
  omega
theorem pat_place {W : Int} (hW : 0 ≤ W ∧ W ≤ 500) {gaps : List Int} {n : Nat} (hn : n ≤ 11) : ∀ x ∈ patTo W gaps n, 0 ≤ x ∧ x ≤ 66000 := fun x hx => by
  obtain ⟨i, hi, rfl⟩ := List.mem_map.1 hx
  have h1 := gap_sum_le hW gaps i
  have h2 := List.mem_range.1 hi
  omega
end Go.Proofs.Ytffodgpafiifcaa
