/-
  Plain: what Best looks at, and the first of the least.
  Plain: the days of subscribers.
-/
import Derived.Test.YtlmpbmlbllndcaaMad
namespace Go.Proofs.Ytlmpbmlbllndcaa

/-- What Best looks at: a supply and its total. -/
def candL (a b : Int) (l m : List DayD) : List (Int × Int) := (0, totD a b l 0) :: m.map fun d => (d.sold, totD a b l d.sold)
def ltS (x y : Int × Int) : Bool := decide (x.2 < y.2 ∨ x.2 = y.2 ∧ x.1 < y.1)
def bestD (a b : Int) (l : List DayD) : Int × Int := (leastTo ltS none (candL a b l l)).getD (0, 0)
theorem best_is (a b : Int) (l : List DayD) : IsBest a b l (bestD a b l).1 (bestD a b l).2 := by
  unfold bestD
  cases h : leastTo ltS none (candL a b l l) with
  | none => exact absurd (leastTo_none h) (by simp [candL])
  | some y =>
    have hm := leastTo_mem h
    have ha := leastTo_all (lt := ltS) (p := fun _ => True) (fun a b c _ _ _ h1 h2 => by
      unfold ltS at *
      simp only [decide_eq_false_iff_not] at *
      omega) (fun a => by unfold ltS; simp) (fun a b h1 => by
      unfold ltS at *
      simp only [decide_eq_true_eq, decide_eq_false_iff_not] at *
      omega) (fun _ _ => trivial) h
    simp only [Option.getD_some]
    have hc : ∀ x ∈ candL a b l l, Cand l x.1 ∧ x.2 = totD a b l x.1 := fun x hx => by
      unfold candL at hx
      rcases List.mem_cons.1 hx with rfl | hx
      · exact ⟨Or.inl rfl, rfl⟩
      · obtain ⟨d, hd, rfl⟩ := List.mem_map.1 hx
        exact ⟨Or.inr ⟨d, hd, rfl⟩, rfl⟩
    refine ⟨(hc y hm).1, (hc y hm).2, fun c h1 => ?_⟩
    have h2 : (c, totD a b l c) ∈ candL a b l l := by
      unfold candL
      rcases h1 with rfl | ⟨d, hd, rfl⟩
      · exact List.mem_cons_self
      · exact List.mem_cons_of_mem _ (List.mem_map.2 ⟨d, hd, rfl⟩)
    have h3 := ha _ h2
    unfold ltS at h3
    simp only [decide_eq_false_iff_not] at h3
    omega
end Go.Proofs.Ytlmpbmlbllndcaa

namespace Go.Proofs.Ytlmpbmlbllndcaa

structure SpanD where
  lo : Int
  hi : Int
deriving DecidableEq
structure SubD where
  id : Int
  from_ : Int
  to_ : Int
  days : Int
  hol : List SpanD
/-- How many bits a number below 128 has. -/
def popc (x : Nat) : Nat := x % 2 + x / 2 % 2 + x / 4 % 2 + x / 8 % 2 + x / 16 % 2 + x / 32 % 2 + x / 64 % 2
def bitN (x r : Nat) : Nat := x / 2 ^ r % 2
/-- How many of the days before a day have a weekday of a set. -/
def befN (x d : Nat) : Nat := d / 7 * popc x + popc (x % 2 ^ (d % 7))
theorem popc_step : ∀ x < 128, ∀ r < 6, popc (x % 2 ^ (r + 1)) = popc (x % 2 ^ r) + bitN x r := by decide +kernel
theorem popc_last : ∀ x < 128, popc x = popc (x % 2 ^ 6) + bitN x 6 := by decide +kernel
theorem popc_zero (x : Nat) : popc (x % 2 ^ 0) = 0 := by rw [show x % 2 ^ 0 = 0 by omega]; rfl
theorem bef_step {x : Nat} (hx : x < 128) (d : Nat) : befN x (d + 1) = befN x d + bitN x (d % 7) := by
  unfold befN
  by_cases h : d % 7 = 6
  · rw [h, show (d + 1) % 7 = 0 by omega, show (d + 1) / 7 = d / 7 + 1 by omega, popc_zero, Nat.add_mul, Nat.one_mul]
    have := popc_last x hx
    omega
  · rw [show (d + 1) % 7 = d % 7 + 1 by omega, show (d + 1) / 7 = d / 7 by omega, popc_step x hx (d % 7) (by omega)]
    omega
/-- Whether a day has a weekday of a set. -/
def wkB (x d : Int) : Bool := bitN x.toNat (d.toNat % 7) == 1
/-- How many of n days from a on are so. -/
def cntN (P : Int → Bool) (a : Int) : Nat → Int
  | 0 => 0
  | n + 1 => cntN P a n + if P (a + n) then 1 else 0
/-- How many days from a to b are so. -/
def cnt (P : Int → Bool) (a b : Int) : Int := cntN P a (b + 1 - a).toNat
theorem cntN_nonneg (P : Int → Bool) (a : Int) : ∀ n, 0 ≤ cntN P a n ∧ cntN P a n ≤ n
  | 0 => ⟨Int.le_refl _, Int.le_refl _⟩
  | n + 1 => by
    have := cntN_nonneg P a n
    simp only [cntN]
    split <;> omega
theorem cntN_congr {P R : Int → Bool} {a : Int} : ∀ (n : Nat), (∀ i : Nat, i < n → P (a + i) = R (a + i)) → cntN P a n = cntN R a n
  | 0, _ => rfl
  | n + 1, h => by
    simp only [cntN]
    rw [cntN_congr n fun i hi => h i (by omega), h n (by omega)]
theorem cntN_add (P : Int → Bool) (a : Int) (m : Nat) : ∀ n, cntN P a (m + n) = cntN P a m + cntN P (a + m) n
  | 0 => by simp [cntN]
  | n + 1 => by
    rw [← Nat.add_assoc]
    simp only [cntN]
    rw [cntN_add P a m n, show a + ((m + n : Nat) : Int) = a + (m : Int) + (n : Int) by push_cast; omega]
    omega
theorem cntN_none {P : Int → Bool} {a : Int} : ∀ (n : Nat), (∀ i : Nat, i < n → P (a + i) = false) → cntN P a n = 0
  | 0, _ => rfl
  | n + 1, h => by
    simp only [cntN]
    rw [cntN_none n fun i hi => h i (by omega), h n (by omega)]
    simp
theorem cnt_congr {P R : Int → Bool} {a b : Int} (h : ∀ d, a ≤ d → d ≤ b → P d = R d) : cnt P a b = cnt R a b := cntN_congr _ fun i hi => h _ (by omega) (by omega)
theorem cnt_none {P : Int → Bool} {a b : Int} (h : ∀ d, a ≤ d → d ≤ b → P d = false) : cnt P a b = 0 := cntN_none _ fun i hi => h _ (by omega) (by omega)
theorem cnt_split (P : Int → Bool) {a b c : Int} (h1 : a ≤ c) (h2 : c ≤ b + 1) : cnt P a b = cnt P a (c - 1) + cnt P c b := by
  unfold cnt
  rw [show (b + 1 - a).toNat = (c - 1 + 1 - a).toNat + (b + 1 - c).toNat by omega, cntN_add, show a + ((c - 1 + 1 - a).toNat : Int) = c by omega]
/-- Days that must also lie between two others. -/
theorem cnt_clip (P : Int → Bool) (a b lo hi : Int) : cnt (fun d => P d && (decide (lo ≤ d) && decide (d ≤ hi))) a b = cnt P (max a lo) (min b hi) := by
  by_cases h : max a lo ≤ min b hi + 1
  · have h1 : a ≤ max a lo := by omega
    rw [cnt_split _ h1 (show max a lo ≤ b + 1 by omega), cnt_none (a := a) (b := max a lo - 1), Int.zero_add]
    · rw [cnt_split _ h (show min b hi + 1 ≤ b + 1 by omega), cnt_none (a := min b hi + 1) (b := b), Int.add_zero, show min b hi + 1 - 1 = min b hi by omega]
      · refine cnt_congr fun d h1 h2 => ?_
        rw [decide_eq_true (show lo ≤ d by omega), decide_eq_true (show d ≤ hi by omega)]
        simp
      · intro d h1 h2
        rw [decide_eq_false (show ¬ d ≤ hi by omega)]
        simp
    · intro d h1 h2
      rw [decide_eq_false (show ¬ lo ≤ d by omega)]
      simp
  · have h2 : cnt P (max a lo) (min b hi) = 0 := cnt_none fun d h1 h2 => by omega
    rw [h2]
    refine cnt_none fun d h1 h2 => ?_
    have : ¬ (lo ≤ d ∧ d ≤ hi) := by omega
    rw [← Bool.decide_and, decide_eq_false this]
    simp
theorem cnt_minus (P R : Int → Bool) (a b : Int) : cnt (fun d => P d && !R d) a b = cnt P a b - cnt (fun d => P d && R d) a b := by
  unfold cnt
  generalize (b + 1 - a).toNat = n
  induction n with
  | zero => rfl
  | succ n ih =>
    simp only [cntN, ih]
    by_cases hp : P (a + n) = true <;> by_cases hr : R (a + n) = true <;> simp [hp, hr] <;> omega
/-- How many of the days from a day to another one have a weekday of a set: as the program reckons it. -/
def wkF (x a b : Int) : Int := if b < a then 0 else (befN x.toNat (b + 1).toNat : Int) - befN x.toNat a.toNat
theorem bef_cnt {x : Int} (hx : 0 ≤ x) (hx' : x < 128) {a : Int} (ha : 0 ≤ a) : ∀ n : Nat, (befN x.toNat (a.toNat + n) : Int) = befN x.toNat a.toNat + cntN (wkB x) a n
  | 0 => by simp [cntN]
  | n + 1 => by
    have h1 := bef_step (x := x.toNat) (by omega) (a.toNat + n)
    have h2 := bef_cnt hx hx' ha n
    have h3 : bitN x.toNat ((a.toNat + n) % 7) = 0 ∨ bitN x.toNat ((a.toNat + n) % 7) = 1 := by unfold bitN; omega
    have h4 : wkB x (a + n) = (bitN x.toNat ((a.toNat + n) % 7) == 1) := by
      unfold wkB
      rw [show (a + (n : Int)).toNat = a.toNat + n by omega]
    rw [← Nat.add_assoc, h1]
    simp only [cntN]
    rw [h4]
    rcases h3 with h3 | h3 <;> rw [h3] <;> simp <;> omega
theorem wkF_cnt {x a b : Int} (hx : 0 ≤ x) (hx' : x < 128) (ha : 0 ≤ a) : wkF x a b = cnt (wkB x) a b := by
  unfold wkF
  by_cases h : b < a
  · rw [if_pos h, cnt_none fun d h1 h2 => by omega]
  · rw [if_neg h]
    have h1 := bef_cnt hx hx' ha (b + 1 - a).toNat
    rw [show a.toNat + (b + 1 - a).toNat = (b + 1).toNat by omega] at h1
    unfold cnt
    omega
/-- Right holidays: none before first, none overlaps or adjoins the next one. -/
def HolOk : Int → List SpanD → Prop
  | _, [] => True
  | first, h :: l => first ≤ h.lo ∧ h.lo ≤ h.hi ∧ h.hi ≤ 20000 ∧ HolOk (h.hi + 2) l
def inHol (l : List SpanD) (d : Int) : Bool := l.any fun h => decide (h.lo ≤ d) && decide (d ≤ h.hi)
theorem HolOk.later : ∀ {l : List SpanD} {first : Int}, HolOk first l → ∀ h ∈ l, first ≤ h.lo
  | [], _, _, h, hh => by cases hh
  | x :: l, first, hl, h, hh => by
    obtain ⟨h1, h2, h3, h4⟩ := hl
    rcases List.mem_cons.1 hh with rfl | hh
    · exact h1
    · have := HolOk.later h4 h hh
      omega
theorem HolOk.apart : ∀ {l : List SpanD} {first : Int}, HolOk first l → ∀ (i j : Nat) (x y : SpanD), i < j → l[i]? = some x → l[j]? = some y → x.hi < y.lo
  | [], _, _, i, j, x, y, _, hx, _ => by simp at hx
  | z :: l, first, hl, 0, j + 1, x, y, _, hx, hy => by
    obtain ⟨h1, h2, h3, h4⟩ := hl
    have : z = x := by simpa using hx
    subst this
    have := h4.later y (List.mem_of_getElem? (by simpa using hy))
    omega
  | z :: l, first, hl, i + 1, j + 1, x, y, hij, hx, hy => HolOk.apart hl.2.2.2 i j x y (by omega) (by simpa using hx) (by simpa using hy)
  | z :: l, first, hl, 0, 0, x, y, hij, _, _ => by omega
  | z :: l, first, hl, i + 1, 0, x, y, hij, _, _ => by omega
structure SubD.Ok (s : SubD) : Prop where
  id : 0 ≤ s.id ∧ s.id ≤ 1000000
  from_ : 0 ≤ s.from_ ∧ s.from_ ≤ s.to_ ∧ s.to_ ≤ 20000
  days : 1 ≤ s.days ∧ s.days ≤ 127
  hol : s.hol.length ≤ 20 ∧ HolOk 0 s.hol
/-- Whether a subscriber gets a copy on a day. -/
def SubD.gets (s : SubD) (d : Int) : Bool := (wkB s.days d && (decide (s.from_ ≤ d) && decide (d ≤ s.to_))) && !inHol s.hol d
/-- How many copies a subscriber gets, as the program reckons it: the first k holidays are taken away. -/
def copF (s : SubD) (a b : Int) : Nat → Int
  | 0 => wkF s.days (max a s.from_) (min b s.to_)
  | k + 1 => copF s a b k - wkF s.days (max (max a s.from_) ((s.hol[k]?).map SpanD.lo |>.getD 0)) (min (min b s.to_) ((s.hol[k]?).map SpanD.hi |>.getD 0))
theorem copF_cnt {s : SubD} (hs : s.Ok) {a b : Int} (ha : 0 ≤ a) : ∀ k, k ≤ s.hol.length → copF s a b k = cnt (fun d => (wkB s.days d && (decide (s.from_ ≤ d) && decide (d ≤ s.to_))) && !inHol (s.hol.take k) d) a b
  | 0, _ => by
    have h0 := hs.from_
    have h1 := hs.days
    show wkF _ _ _ = _
    rw [wkF_cnt (by omega) (by omega) (by omega), ← cnt_clip]
    refine cnt_congr fun d _ _ => ?_
    simp [inHol]
  | k + 1, hk => by
    have h0 := hs.from_
    have h1 := hs.days
    obtain ⟨h, hh⟩ : ∃ h, s.hol[k]? = some h := ⟨_, List.getElem?_eq_getElem (by omega)⟩
    have hT : s.hol.take (k + 1) = s.hol.take k ++ [h] := by rw [List.take_add_one, hh]; rfl
    have hlo : 0 ≤ h.lo := hs.hol.2.later h (List.mem_of_getElem? hh)
    show copF s a b k - wkF _ _ _ = _
    rw [copF_cnt hs ha k (by omega), hh]
    simp only [Option.map_some, Option.getD_some]
    rw [wkF_cnt (by omega) (by omega) (by omega)]
    have e0 : cnt (wkB s.days) (max (max a s.from_) h.lo) (min (min b s.to_) h.hi) = cnt (fun d => (wkB s.days d && (decide (s.from_ ≤ d) && decide (d ≤ s.to_))) && (decide (h.lo ≤ d) && decide (d ≤ h.hi))) a b := by
      rw [← cnt_clip, ← cnt_clip]
      refine cnt_congr fun d _ _ => ?_
      rw [Bool.and_right_comm]
    rw [e0]
    have e1 : cnt (fun d => (wkB s.days d && (decide (s.from_ ≤ d) && decide (d ≤ s.to_))) && (decide (h.lo ≤ d) && decide (d ≤ h.hi))) a b = cnt (fun d => ((wkB s.days d && (decide (s.from_ ≤ d) && decide (d ≤ s.to_))) && !inHol (s.hol.take k) d) && (decide (h.lo ≤ d) && decide (d ≤ h.hi))) a b := by
      refine cnt_congr fun d _ _ => ?_
      by_cases hd : (decide (h.lo ≤ d) && decide (d ≤ h.hi)) = true
      · have hn : inHol (s.hol.take k) d = false := by
          unfold inHol
          rw [List.any_eq_false]
          intro x hx
          obtain ⟨i, hi⟩ := List.mem_iff_getElem?.1 hx
          rw [List.getElem?_take] at hi
          split at hi
          · rename_i hik
            have := hs.hol.2.apart i k x h hik hi hh
            simp only [Bool.and_eq_true, decide_eq_true_eq] at hd ⊢
            omega
          · cases hi
        rw [hd, hn]
        simp
      · rw [Bool.not_eq_true] at hd
        rw [hd]
        simp
    rw [e1, ← cnt_minus]
    refine cnt_congr fun d _ _ => ?_
    rw [hT]
    unfold inHol
    rw [List.any_append]
    simp only [List.any_cons, List.any_nil, Bool.or_false, Bool.not_or, Bool.and_assoc]
/-- How many copies a subscriber gets from a day to another one. -/
def SubD.copies (s : SubD) (a b : Int) : Int := copF s a b s.hol.length
theorem copies_cnt {s : SubD} (hs : s.Ok) {a b : Int} (ha : 0 ≤ a) : s.copies a b = cnt s.gets a b := by
  unfold SubD.copies
  rw [copF_cnt hs ha _ (Nat.le_refl _), List.take_length]
  rfl
end Go.Proofs.Ytlmpbmlbllndcaa
