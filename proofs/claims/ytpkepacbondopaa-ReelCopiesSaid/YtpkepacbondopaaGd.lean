/-
  Plain: how many copies spans have; how far a press must run; more is thrown out.
-/
import Derived.Test.YtpkepacbondopaaLy
namespace Go.Proofs.Ytpkepacbondopaa

def covB (l : List Sp) (k : Int) : Bool := l.any fun s => decide (s.lo ≤ k) && decide (k ≤ s.hi)
theorem covB_iff {l : List Sp} {k : Int} : covB l k = true ↔ Cov l k := by
  unfold covB Cov
  rw [List.any_eq_true]
  simp only [Bool.and_eq_true, decide_eq_true_eq]
def cntL (l : List Sp) : Int := (l.map fun s => s.hi - s.lo + 1).sum
theorem cntL_cons (s : Sp) (l : List Sp) : cntL (s :: l) = (s.hi - s.lo + 1) + cntL l := by unfold cntL; simp
theorem cntL_snoc (l : List Sp) (s : Sp) : cntL (l ++ [s]) = cntL l + (s.hi - s.lo + 1) := by unfold cntL; simp
/-- How many of the first n copies are in spans. -/
def cntTo (l : List Sp) (n : Nat) : Nat := (List.range n).countP fun k : Nat => covB l (k : Int)
theorem cntTo_next (l : List Sp) (n : Nat) : cntTo l (n + 1) = cntTo l n + if covB l (n : Int) then 1 else 0 := by
  unfold cntTo
  rw [List.range_succ, List.countP_append]
  simp [List.countP_cons]
theorem cntTo_nil (n : Nat) : cntTo [] n = 0 := by
  unfold cntTo
  exact List.countP_eq_zero.2 fun k _ => by simp [covB]
theorem cntTo_le {l m : List Sp} (h : ∀ k, Cov l k → Cov m k) : ∀ n, cntTo l n ≤ cntTo m n
  | 0 => Nat.le_refl _
  | n + 1 => by
    have ih := cntTo_le h n
    rw [cntTo_next, cntTo_next]
    by_cases h1 : covB l (n : Int) = true
    · rw [if_pos h1, if_pos (covB_iff.2 (h _ (covB_iff.1 h1)))]; omega
    · rw [if_neg h1]; omega
theorem cntTo_congr {l m : List Sp} {n : Nat} (h : ∀ k : Nat, k < n → (Cov l k ↔ Cov m k)) : cntTo l n = cntTo m n := by
  unfold cntTo
  refine List.countP_congr fun k hk => ?_
  rw [covB_iff, covB_iff]
  exact h k (List.mem_range.1 hk)
theorem cntTo_mono {l : List Sp} {m n : Nat} (h : m ≤ n) : cntTo l n ≤ cntTo l m + (n - m) := by
  induction n with
  | zero => obtain rfl : m = 0 := by omega
            omega
  | succ n ih =>
    by_cases h1 : m = n + 1
    · subst h1; omega
    · have := ih (by omega)
      rw [cntTo_next]
      split <;> omega
/-- One interval. -/
theorem cntTo_one (s : Sp) (h0 : 0 ≤ s.lo) (h1 : s.lo ≤ s.hi) : ∀ n : Nat, (cntTo [s] n : Int) = if (n : Int) ≤ s.lo then 0 else if (n : Int) ≤ s.hi + 1 then (n : Int) - s.lo else s.hi - s.lo + 1
  | 0 => by rw [if_pos (by omega)]; rfl
  | n + 1 => by
    have ih := cntTo_one s h0 h1 n
    rw [cntTo_next]
    have hc : covB [s] (n : Int) = true ↔ s.lo ≤ (n : Int) ∧ (n : Int) ≤ s.hi := by rw [covB_iff, cov_one]
    by_cases h2 : (n : Int) < s.lo
    · rw [if_neg (fun h => by have := hc.1 h; omega)]
      rw [if_pos (by omega)] at ih
      rw [if_pos (by omega)]
      omega
    · by_cases h3 : (n : Int) ≤ s.hi
      · rw [if_pos (hc.2 ⟨by omega, h3⟩)]
        rw [if_neg (by omega : ¬ ((n + 1 : Nat) : Int) ≤ s.lo), if_pos (by omega : ((n + 1 : Nat) : Int) ≤ s.hi + 1)]
        by_cases h4 : (n : Int) ≤ s.lo
        · rw [if_pos h4] at ih; omega
        · rw [if_neg h4, if_pos (by omega)] at ih; omega
      · rw [if_neg (fun h => h3 (hc.1 h).2)]
        rw [if_neg (by omega : ¬ ((n + 1 : Nat) : Int) ≤ s.lo)]
        by_cases h4 : (n : Int) ≤ s.lo
        · omega
        · rw [if_neg h4] at ih
          by_cases h5 : (n : Int) ≤ s.hi + 1
          · rw [if_pos h5] at ih
            by_cases h6 : ((n + 1 : Nat) : Int) ≤ s.hi + 1
            · omega
            · rw [if_neg h6]; omega
          · rw [if_neg h5] at ih
            rw [if_neg (by omega)]
            omega
theorem cntTo_cons {s : Sp} {l : List Sp} (h : ∀ k, Cov l k → ¬ (s.lo ≤ k ∧ k ≤ s.hi)) : ∀ n, cntTo (s :: l) n = cntTo [s] n + cntTo l n
  | 0 => rfl
  | n + 1 => by
    have ih := cntTo_cons h n
    rw [cntTo_next, cntTo_next, cntTo_next]
    have e : covB (s :: l) (n : Int) = (covB [s] n || covB l n) := by unfold covB; simp
    rw [e]
    by_cases h1 : covB l (n : Int) = true
    · have h2 : covB [s] (n : Int) = false := by
        cases h3 : covB [s] (n : Int)
        · rfl
        · exact absurd (cov_one.1 (covB_iff.1 h3)) (h _ (covB_iff.1 h1))
      rw [h1, h2]
      simp
      omega
    · simp only [Bool.not_eq_true] at h1
      rw [h1, Bool.or_false]
      simp
      omega
/-- Spans within the first n copies have as many copies as they cover. -/
theorem cntL_is : ∀ {l : List Sp} {n : Nat}, Norm l → (∀ s ∈ l, 0 ≤ s.lo ∧ s.hi < n) → cntL l = cntTo l n
  | [], n, _, _ => by rw [cntTo_nil]; rfl
  | s :: l, n, hN, hb => by
    have h1 := hb s (List.mem_cons_self ..)
    have h2 := hN.head
    rw [cntL_cons, cntTo_cons (fun k ⟨t, ht, h3, _⟩ h4 => by have := hN.apart ht; omega), cntL_is hN.tail fun t ht => hb t (List.mem_cons_of_mem _ ht)]
    have h3 := cntTo_one s h1.1 h2 n
    rw [if_neg (by omega)] at h3
    by_cases h4 : (n : Int) ≤ s.hi + 1
    · rw [if_pos h4] at h3; omega
    · rw [if_neg h4] at h3; omega
theorem cntL_nonneg {l : List Sp} (h : Norm l) : 0 ≤ cntL l := by
  induction l with
  | nil => simp [cntL]
  | cons s l ih =>
    rw [cntL_cons]
    have := ih h.tail
    have := h.head
    omega
theorem ThrownIs.within {p : PressD} {n : Int} {l : List Sp} (h : p.ThrownIs n l) : ∀ s ∈ l, 0 ≤ s.lo ∧ s.lo ≤ s.hi ∧ s.hi < n := fun s hs => by
  have h1 := h.1.1 s hs
  have h2 := (h.2 s.lo).1 ⟨s, hs, Int.le_refl _, h1⟩
  have h3 := (h.2 s.hi).1 ⟨s, hs, h1, Int.le_refl _⟩
  omega
theorem ThrownIs.cov_less {p : PressD} {n m : Int} {l l' : List Sp} (h : p.ThrownIs n l) (h' : p.ThrownIs m l') (hm : m ≤ n) (k : Int) : Cov l' k ↔ Cov l k ∧ k < m := by
  rw [h.2, h'.2]
  constructor
  · rintro ⟨⟨h1, h2⟩, h3⟩; exact ⟨⟨⟨h1, by omega⟩, h3⟩, h2⟩
  · rintro ⟨⟨⟨h1, -⟩, h3⟩, h2⟩; exact ⟨⟨h1, h2⟩, h3⟩
/-- What of runL's way lies behind: it is a prefix, and all the others begin later. -/
theorem runL_split : ∀ (l : List Sp) (g : Int), Norm l → ∃ a b, l = a ++ b ∧ runL g l = g + cntL a ∧ (∀ s ∈ a, s.hi + 1 < runL g l) ∧ ∀ s ∈ b, runL g l ≤ s.lo
  | [], g, _ => ⟨[], [], rfl, by unfold runL cntL; simp, fun s h => (by cases h), fun s h => (by cases h)⟩
  | s :: l, g, hN => by
    have hs := hN.head
    by_cases h : g ≤ s.lo
    · refine ⟨[], s :: l, rfl, ?_, fun s h => (by cases h), fun t ht => ?_⟩
      · unfold runL; rw [if_pos h]; simp [cntL]
      · unfold runL; rw [if_pos h]
        rcases List.mem_cons.1 ht with rfl | ht
        · exact h
        · have := hN.apart ht; omega
    · obtain ⟨a, b, h1, h2, h3, h4⟩ := runL_split l (g + (s.hi - s.lo + 1)) hN.tail
      have e : runL g (s :: l) = runL (g + (s.hi - s.lo + 1)) l := by conv => lhs; unfold runL
                                                                      rw [if_neg h]
      have hNa : Norm a := by rw [h1] at hN; exact (norm_append.1 hN.tail).1
      have := cntL_nonneg hNa
      refine ⟨s :: a, b, by rw [h1]; rfl, by rw [e, h2, cntL_cons]; omega, fun t ht => ?_, fun t ht => by rw [e]; exact h4 t ht⟩
      rw [e]
      rcases List.mem_cons.1 ht with rfl | ht
      · rw [h2]; omega
      · exact h3 t ht
theorem runL_le (l : List Sp) (g : Int) (hN : Norm l) : runL g l ≤ g + cntL l ∧ g ≤ runL g l := by
  obtain ⟨a, b, rfl, h2, -⟩ := runL_split l g hN
  obtain ⟨ha, hb, -⟩ := norm_append.1 hN
  have h3 := cntL_nonneg hb
  have h4 := cntL_nonneg ha
  have : cntL (a ++ b) = cntL a + cntL b := by unfold cntL; simp
  omega
/-- As many good copies as were wanted, and not before. -/
theorem runL_good {l : List Sp} {g : Int} {n : Nat} (hN : Norm l) (hl : ∀ s ∈ l, 0 ≤ s.lo) (hn : runL g l = n) : (n : Int) - cntTo l n = g ∧ (0 < n → covB l ((n : Int) - 1) = false) ∧ ∀ m : Nat, m < n → (m : Int) - cntTo l m < g := by
  obtain ⟨a, b, rfl, h2, h3, h4⟩ := runL_split l g hN
  obtain ⟨ha, -, -⟩ := norm_append.1 hN
  rw [hn] at h2 h3 h4
  have e : cntTo (a ++ b) n = cntTo a n := cntTo_congr fun k hk => by
    rw [cov_append]
    refine ⟨fun h => h.elim id fun ⟨s, hs, h5, _⟩ => ?_, .inl⟩
    have := h4 s hs
    omega
  have h5 := cntL_is (n := n) ha fun s hs => ⟨hl s (List.mem_append_left _ hs), by have := h3 s hs; omega⟩
  have h6 : 0 < n → covB (a ++ b) ((n : Int) - 1) = false := fun _ => by
    cases h : covB (a ++ b) ((n : Int) - 1)
    · rfl
    · obtain ⟨s, hs, h7, h8⟩ := covB_iff.1 h
      rcases List.mem_append.1 hs with hs | hs
      · have := h3 s hs; omega
      · have := h4 s hs; omega
  refine ⟨by omega, h6, fun m hm => ?_⟩
  obtain ⟨n', rfl⟩ : ∃ n', n = n' + 1 := ⟨n - 1, by omega⟩
  have h7 := h6 (by omega)
  rw [show ((n' + 1 : Nat) : Int) - 1 = (n' : Int) by omega] at h7
  have h8 := cntTo_next (a ++ b) n'
  rw [if_neg (by rw [h7]; decide)] at h8
  have h9 := cntTo_mono (l := a ++ b) (m := m) (n := n') (by omega)
  omega
/-- What is thrown out of fewer copies has as many as it covers of all. -/
theorem ThrownIs.cnt {p : PressD} {n m : Nat} {l l' : List Sp} (h : p.ThrownIs n l) (h' : p.ThrownIs m l') (hm : m ≤ n) : cntL l' = cntTo l m := by
  rw [cntL_is (n := m) h'.1 fun s hs => by have := ThrownIs.within h' s hs; omega]
  congr 1
  exact cntTo_congr fun k hk => by
    rw [ThrownIs.cov_less h h' (by omega) k]
    exact ⟨fun h => h.1, fun h => ⟨h, by omega⟩⟩
/-- With more thrown out the press must not run less. -/
theorem runL_mono {l m : List Sp} {g : Int} (hl : Norm l) (hm : Norm m) (hl0 : ∀ s ∈ l, 0 ≤ s.lo) (hm0 : ∀ s ∈ m, 0 ≤ s.lo) (hg : 0 ≤ g) (h : ∀ k, Cov l k → Cov m k) : runL g l ≤ runL g m := by
  obtain ⟨a, ha⟩ : ∃ n : Nat, runL g l = n := ⟨(runL g l).toNat, by have := (runL_le l g hl).2; omega⟩
  obtain ⟨b, hb⟩ : ∃ n : Nat, runL g m = n := ⟨(runL g m).toNat, by have := (runL_le m g hm).2; omega⟩
  rw [ha, hb]
  obtain ⟨-, -, h1⟩ := runL_good hl hl0 ha
  obtain ⟨h2, -, -⟩ := runL_good hm hm0 hb
  have h3 := cntTo_le h b
  rcases Nat.lt_or_ge b a with h4 | h4
  · have := h1 b h4
    omega
  · omega
/-- A span all of whose copies are in others is within one of them. -/
theorem norm_in {m : List Sp} (hm : Norm m) {lo hi : Int} (h1 : lo ≤ hi) (h : ∀ k, lo ≤ k → k ≤ hi → Cov m k) : ∃ x ∈ m, x.lo ≤ lo ∧ hi ≤ x.hi := by
  obtain ⟨x, hx, h2, h3⟩ := h lo (Int.le_refl _) h1
  refine ⟨x, hx, h2, ?_⟩
  rcases Int.lt_or_le x.hi hi with h4 | h4
  · obtain ⟨y, hy, h5, h6⟩ := h (x.hi + 1) (by omega) (by omega)
    exfalso
    obtain ⟨i, hi', rfl⟩ := List.getElem_of_mem hx
    obtain ⟨j, hj, rfl⟩ := List.getElem_of_mem hy
    have hp := List.pairwise_iff_getElem.1 hm.2
    rcases Nat.lt_trichotomy i j with hij | hij | hij
    · have := hp i j hi' hj hij; omega
    · subst hij; omega
    · have := hp j i hj hi' hij
      omega
  · exact h4
end Go.Proofs.Ytpkepacbondopaa
