/-
  Plain for AgentRounds: the generator's subscribers; the copies of rounds.
-/
import Derived.Test.YtlmpbmlbllndcaaIe
namespace Go.Proofs.Ytlmpbmlbllndcaa

/-- A subscriber made of four numbers. -/
def holOf (c d : Int) : List SpanD := if 60 < d then [⟨d % 50, d % 50 + c % 9⟩] else []
def subOf (k : Nat) (a b c d : Int) : SubD := ⟨4 * (k : Int), a % 40, a % 40 + b % 60, 1 + c % 127, holOf c d⟩
def subAt (l : List Int) (i : Nat) : SubD := subOf i (l.getD (4 * i) 0) (l.getD (4 * i + 1) 0) (l.getD (4 * i + 2) 0) (l.getD (4 * i + 3) 0)
def subTo (l : List Int) (k : Nat) : List SubD := (List.range k).map (subAt l)
def nSubs (l : List Int) : Nat := min 10 (l.length / 4)
def subsOf (l : List Int) : List SubD := subTo l (nSubs l)
theorem subTo_len (l : List Int) (k : Nat) : (subTo l k).length = k := by simp [subTo]
theorem subTo_next (l : List Int) (k : Nat) : subTo l (k + 1) = subTo l k ++ [subAt l k] := by
  unfold subTo
  rw [List.range_succ, List.map_append]
  rfl
theorem subOf_ok (k : Nat) (hk : k < 1000) (a b c d : Int) : (subOf k a b c d).Ok ∧ (subOf k a b c d).hol.length ≤ 1 := by
  unfold subOf holOf
  by_cases h : 60 < d
  · rw [if_pos h]
    refine ⟨⟨?_, ?_, ?_, by simp, ?_⟩, by simp⟩
    all_goals simp only [HolOk, and_true]
    all_goals omega
  · rw [if_neg h]
    refine ⟨⟨?_, ?_, ?_, by simp, trivial⟩, by simp⟩
    all_goals simp only
    all_goals omega
theorem subs_ok (data : List Int) : ∀ s ∈ subsOf data, s.Ok ∧ s.hol.length ≤ 1 := fun s hs => by
  obtain ⟨i, hi, rfl⟩ := List.mem_map.1 hs
  have hi := List.mem_range.1 hi
  exact subOf_ok i (by unfold nSubs at hi; omega) _ _ _ _
theorem subs_len (data : List Int) : (subsOf data).length = nSubs data := subTo_len _ _
theorem fsE_of : ∀ (l : List SubD) (met : List Int), (∀ o ∈ l, o.Ok) → (l.map SubD.id).Nodup → (∀ o ∈ l, o.id ∉ met) → fsE met l = 0
  | [], _, _, _, _ => rfl
  | o :: l, met, h1, h2, h3 => by
    unfold fsE
    rw [List.map_cons, List.nodup_cons] at h2
    rw [if_pos (subB_of (h1 o List.mem_cons_self)), if_neg (h3 o List.mem_cons_self)]
    refine fsE_of l _ (fun x hx => h1 x (List.mem_cons_of_mem _ hx)) h2.2 fun x hx hm => ?_
    rcases addS_mem.1 hm with e | e
    · exact h2.1 (List.mem_map.2 ⟨x, hx, e⟩)
    · exact h3 x (List.mem_cons_of_mem _ hx) e
theorem subs_ids (data : List Int) : ((subsOf data).map SubD.id).Nodup := by
  unfold subsOf subTo
  rw [List.map_map]
  refine List.pairwise_map.2 (List.nodup_range.imp fun {a b} hne e => hne ?_)
  simp only [Function.comp, subAt, subOf] at e
  omega
theorem subs_subsE (data : List Int) : subsE (subsOf data) = 0 := by
  unfold subsE
  rw [if_neg (by rw [subs_len]; unfold nSubs; omega)]
  exact fsE_of _ _ (fun o ho => (subs_ok data o ho).1) (subs_ids data) fun o _ hm => by cases hm
theorem cnt_one (P : Int → Bool) (d : Int) : cnt P d d = if P d then 1 else 0 := by
  unfold cnt
  rw [show (d + 1 - d).toNat = 0 + 1 by omega]
  simp [cntN]
theorem getB_gets {s : SubD} (hs : s.Ok) {d : Int} (hd : 0 ≤ d) : s.getB d = s.gets d := by
  unfold SubD.getB
  rw [copies_cnt hs hd, cnt_one]
  cases s.gets d <;> rfl
theorem copies_getB {s : SubD} (hs : s.Ok) {a b : Int} (ha : 0 ≤ a) : s.copies a b = cnt s.getB a b := by
  rw [copies_cnt hs ha]
  exact cnt_congr fun d h1 _ => (getB_gets hs (by omega)).symm
theorem copies_nonneg {s : SubD} (hs : s.Ok) {a b : Int} (ha : 0 ≤ a) : 0 ≤ s.copies a b ∧ s.copies a b ≤ (b + 1 - a).toNat := by
  rw [copies_cnt hs ha]
  exact cntN_nonneg _ _ _
theorem sumI_snoc2 : ∀ (l : List Int) (x : Int), sumI (l ++ [x]) = sumI l + x
  | [], x => by simp [sumI]
  | y :: l, x => by
    have h := sumI_snoc2 l x
    show y + sumI (l ++ [x]) = y + sumI l + x
    omega
/-- How many copies the first k subscribers get. -/
def copK (l : List SubD) (a b : Int) (k : Nat) : Int := sumI ((l.take k).map fun s => s.copies a b)
theorem copK_next {l : List SubD} {a b : Int} {k : Nat} {x : SubD} (h : l[k]? = some x) : copK l a b (k + 1) = copK l a b k + x.copies a b := by
  unfold copK
  rw [List.take_add_one, h, Option.toList_some, List.map_append]
  exact sumI_snoc2 _ _
/-- How many copies n rounds have. -/
def rdSum (l : List SubD) (a : Int) : Nat → Int
  | 0 => 0
  | n + 1 => rdSum l a n + ((rdK l (a + n) l.length).length : Int)
theorem rdK_all (l : List SubD) (d : Int) : rdK l d l.length = (l.filter fun s => s.getB d).map SubD.id := by
  unfold rdK
  rw [List.take_length]
theorem rd_count (l : List SubD) (a : Int) : ∀ n : Nat, rdSum l a n = sumI (l.map fun s => cntN s.getB a n)
  | 0 => by
    unfold rdSum
    induction l with
    | nil => rfl
    | cons x l ih => rw [List.map_cons, sumI_cons, ← ih]; rfl
  | n + 1 => by
    show rdSum l a n + _ = _
    rw [rd_count l a n, rdK_all, List.length_map]
    induction l with
    | nil => rfl
    | cons x l ih =>
      rw [List.map_cons, List.map_cons, sumI_cons, sumI_cons, ← ih]
      show cntN x.getB a n + _ + _ = (cntN x.getB a n + if x.getB (a + n) then 1 else 0) + _
      by_cases h : x.getB (a + n) = true
      · rw [List.filter_cons_of_pos (by simpa using h), List.length_cons, if_pos h]
        push_cast
        omega
      · rw [List.filter_cons_of_neg (by simpa using h), if_neg h]
        omega
theorem rounds_copies {l : List SubD} (hl : ∀ s ∈ l, s.Ok) {a b : Int} (ha : 0 ≤ a) : rdSum l a (b + 1 - a).toNat = copK l a b l.length := by
  rw [rd_count]
  unfold copK
  rw [List.take_length]
  congr 1
  exact List.map_congr_left fun s hs => (copies_getB (hl s hs) ha).symm
theorem rdSum_bd (l : List SubD) (a : Int) : ∀ n : Nat, 0 ≤ rdSum l a n ∧ rdSum l a n ≤ n * l.length
  | 0 => ⟨Int.le_refl _, by simp [rdSum]⟩
  | n + 1 => by
    have h1 := rdSum_bd l a n
    have h2 := rdK_len l (a + n) l.length
    show 0 ≤ rdSum l a n + _ ∧ rdSum l a n + _ ≤ _
    rw [show ((n + 1 : Nat) : Int) * (l.length : Int) = (n : Int) * l.length + l.length by rw [Int.natCast_add, Int.add_mul]; simp]
    omega
/-- The holidays with one more. -/
def awayH (h : List SpanD) (lo hi : Int) : List SpanD :=
  match h[0]? with
  | none => [⟨lo, hi⟩]
  | some x => if hi + 1 < x.lo then [⟨lo, hi⟩, x] else if x.hi + 1 < lo then [x, ⟨lo, hi⟩] else [⟨min lo x.lo, max hi x.hi⟩]
def SubD.away (s : SubD) (lo hi : Int) : SubD := { s with hol := awayH s.hol lo hi }
theorem away_ok {s : SubD} (hs : s.Ok) (h1 : s.hol.length ≤ 1) {lo hi : Int} (h0 : 0 ≤ lo) (h2 : lo ≤ hi) (h3 : hi ≤ 20000) : (s.away lo hi).Ok := by
  refine ⟨hs.id, hs.from_, hs.days, ?_⟩
  have hh := hs.hol.2
  show (awayH s.hol lo hi).length ≤ 20 ∧ HolOk 0 (awayH s.hol lo hi)
  generalize s.hol = l at h1 hh
  match l, h1 with
  | [], _ => exact ⟨by simp [awayH], by simp only [awayH, List.getElem?_nil, HolOk, and_true]; omega⟩
  | [x], _ =>
    obtain ⟨e1, e2, e3, -⟩ := hh
    unfold awayH
    simp only [List.getElem?_cons_zero]
    split
    · exact ⟨by simp, by simp only [HolOk, and_true]; omega⟩
    · split
      · exact ⟨by simp, by simp only [HolOk, and_true]; omega⟩
      · exact ⟨by simp, by simp only [HolOk, and_true]; omega⟩
theorem away_in (l : List SpanD) (h1 : l.length ≤ 1) (lo hi d : Int) (hl : ∀ x ∈ l, x.lo ≤ x.hi) : inHol (awayH l lo hi) d = (inHol l d || (decide (lo ≤ d) && decide (d ≤ hi))) := by
  match l, h1 with
  | [], _ => simp [awayH, inHol]
  | [x], _ =>
    have hx := hl x List.mem_cons_self
    unfold awayH
    simp only [List.getElem?_cons_zero]
    split
    · simp [inHol, Bool.or_comm]
    · split
      · simp [inHol]
      · simp only [inHol, List.any_cons, List.any_nil, Bool.or_false]
        rw [Bool.eq_iff_iff]
        simp only [Bool.and_eq_true, Bool.or_eq_true, decide_eq_true_eq]
        omega
theorem away_gets {s : SubD} (hs : s.Ok) (h1 : s.hol.length ≤ 1) {lo hi : Int} (h2 : lo ≤ hi) (d : Int) : (s.away lo hi).gets d = (s.gets d && !(decide (lo ≤ d) && decide (d ≤ hi))) := by
  have hl : ∀ x ∈ s.hol, x.lo ≤ x.hi := by
    have hh := hs.hol.2
    generalize s.hol = l at h1 hh
    match l, h1 with
    | [], _ => exact fun x hx => by cases hx
    | [x], _ =>
      intro y hy
      rw [List.mem_singleton] at hy
      subst hy
      exact hh.2.1
  show ((wkB s.days d && (decide (s.from_ ≤ d) && decide (d ≤ s.to_))) && !inHol (awayH s.hol lo hi) d) = (((wkB s.days d && (decide (s.from_ ≤ d) && decide (d ≤ s.to_))) && !inHol s.hol d) && !(decide (lo ≤ d) && decide (d ≤ hi)))
  rw [away_in s.hol h1 lo hi d hl, Bool.not_or]
  simp only [Bool.and_assoc]
theorem away_copies {s : SubD} (hs : s.Ok) (h1 : s.hol.length ≤ 1) {lo hi a b : Int} (h0 : 0 ≤ lo) (h2 : lo ≤ hi) (h3 : hi ≤ 20000) (ha : 0 ≤ a) :
    (s.away lo hi).copies a b = s.copies a b - cnt (fun d => s.getB d && (decide (a ≤ d) && decide (d ≤ b))) lo hi := by
  rw [copies_cnt (away_ok hs h1 h0 h2 h3) ha, copies_cnt hs ha, cnt_congr fun d _ _ => away_gets hs h1 h2 d, cnt_minus]
  congr 1
  rw [cnt_clip, cnt_clip, Int.max_comm a lo, Int.min_comm b hi]
  exact cnt_congr fun d h4 _ => (getB_gets hs (by omega)).symm
/-- How many days of a holiday are lost. -/
def lostN (s : SubD) (a b lo : Int) (n : Nat) : Int := cntN (fun d => s.getB d && (decide (a ≤ d) && decide (d ≤ b))) lo n
end Go.Proofs.Ytlmpbmlbllndcaa
