/-
  Plain words on spans, splices and copies: no function of the program.
-/
import Derived.Lib.Hide
namespace Go.Proofs.Ytpkepacbondopaa

structure Sp where
  lo : Int
  hi : Int
  deriving DecidableEq, Inhabited
/-- Spans in order that neither overlap nor adjoin. -/
def Norm (l : List Sp) : Prop := (∀ s ∈ l, s.lo ≤ s.hi) ∧ l.Pairwise fun a b => a.hi + 1 < b.lo
def Cov (l : List Sp) (k : Int) : Prop := ∃ s ∈ l, s.lo ≤ k ∧ k ≤ s.hi
theorem Norm.nil : Norm [] := ⟨fun _ h => absurd h List.not_mem_nil, List.Pairwise.nil⟩
theorem Norm.tail {s : Sp} {l : List Sp} (h : Norm (s :: l)) : Norm l := ⟨fun t ht => h.1 t (List.mem_cons_of_mem _ ht), (List.pairwise_cons.1 h.2).2⟩
theorem Norm.head {s : Sp} {l : List Sp} (h : Norm (s :: l)) : s.lo ≤ s.hi := h.1 s (List.mem_cons_self ..)
theorem Norm.apart {s t : Sp} {l : List Sp} (h : Norm (s :: l)) (ht : t ∈ l) : s.hi + 1 < t.lo := (List.pairwise_cons.1 h.2).1 t ht
theorem cov_cons {s : Sp} {l : List Sp} {k : Int} : Cov (s :: l) k ↔ (s.lo ≤ k ∧ k ≤ s.hi) ∨ Cov l k := by
  unfold Cov
  simp
theorem Norm.first {s : Sp} {l : List Sp} {k : Int} (h : Norm (s :: l)) (hk : Cov (s :: l) k) : s.lo ≤ k := by
  rcases cov_cons.1 hk with h1 | ⟨t, ht, h1, -⟩
  · exact h1.1
  · have := h.apart ht
    have := h.head
    omega
theorem norm_unique : ∀ (l m : List Sp), Norm l → Norm m → (∀ k, Cov l k ↔ Cov m k) → l = m
  | [], [], _, _, _ => rfl
  | [], t :: m, _, hm, h => by
    obtain ⟨s, hs, -⟩ := (h t.lo).2 ⟨t, List.mem_cons_self .., Int.le_refl _, hm.head⟩
    cases hs
  | s :: l, [], hl, _, h => by
    obtain ⟨t, ht, -⟩ := (h s.lo).1 ⟨s, List.mem_cons_self .., Int.le_refl _, hl.head⟩
    cases ht
  | s :: l, t :: m, hl, hm, h => by
    have h1 : t.lo ≤ s.lo := hm.first ((h s.lo).1 ⟨s, List.mem_cons_self .., Int.le_refl _, hl.head⟩)
    have h2 : s.lo ≤ t.lo := hl.first ((h t.lo).2 ⟨t, List.mem_cons_self .., Int.le_refl _, hm.head⟩)
    have hsh := hl.head
    have hth := hm.head
    have h3 : ¬ s.hi < t.hi := fun hlt => by
      rcases cov_cons.1 ((h (s.hi + 1)).2 ⟨t, List.mem_cons_self .., by omega, by omega⟩) with h4 | ⟨u, hu, h4, -⟩
      · omega
      · have := hl.apart hu
        omega
    have h4 : ¬ t.hi < s.hi := fun hlt => by
      rcases cov_cons.1 ((h (t.hi + 1)).1 ⟨s, List.mem_cons_self .., by omega, by omega⟩) with h4 | ⟨u, hu, h4, -⟩
      · omega
      · have := hm.apart hu
        omega
    have e : s = t := by
      obtain ⟨a, b⟩ := s
      obtain ⟨c, d⟩ := t
      simp only [Sp.mk.injEq]
      simp only at h1 h2 h3 h4
      omega
    subst e
    have ht : l = m := norm_unique l m hl.tail hm.tail fun k => ⟨fun hk => by
        rcases cov_cons.1 ((h k).1 (cov_cons.2 (.inr hk))) with h5 | h5
        · obtain ⟨u, hu, h6, -⟩ := hk
          have := hl.apart hu
          omega
        · exact h5, fun hk => by
        rcases cov_cons.1 ((h k).2 (cov_cons.2 (.inr hk))) with h5 | h5
        · obtain ⟨u, hu, h6, -⟩ := hk
          have := hm.apart hu
          omega
        · exact h5⟩
    rw [ht]

/-- One span more is joined to those before it. -/
def joinStep (out : List Sp) (x : Sp) : List Sp :=
  match out.getLast? with
  | some t => if x.lo ≤ t.hi + 1 then out.dropLast ++ [⟨t.lo, max t.hi x.hi⟩] else out ++ [x]
  | none => [x]
def joinL (l : List Sp) : List Sp := l.foldl joinStep []
theorem joinL_snoc (l : List Sp) (x : Sp) : joinL (l ++ [x]) = joinStep (joinL l) x := by unfold joinL; rw [List.foldl_append]; rfl
theorem cov_append {l m : List Sp} {k : Int} : Cov (l ++ m) k ↔ Cov l k ∨ Cov m k := by
  unfold Cov
  constructor
  · rintro ⟨s, hs, h⟩
    rcases List.mem_append.1 hs with h1 | h1
    · exact .inl ⟨s, h1, h⟩
    · exact .inr ⟨s, h1, h⟩
  · rintro (⟨s, hs, h⟩ | ⟨s, hs, h⟩)
    · exact ⟨s, List.mem_append.2 (.inl hs), h⟩
    · exact ⟨s, List.mem_append.2 (.inr hs), h⟩
theorem cov_one {s : Sp} {k : Int} : Cov [s] k ↔ s.lo ≤ k ∧ k ≤ s.hi := by unfold Cov; simp
theorem norm_append {l m : List Sp} : Norm (l ++ m) ↔ Norm l ∧ Norm m ∧ ∀ a ∈ l, ∀ b ∈ m, a.hi + 1 < b.lo := by
  unfold Norm
  rw [List.pairwise_append]
  constructor
  · rintro ⟨h1, h2, h3, h4⟩
    exact ⟨⟨fun s hs => h1 s (List.mem_append.2 (.inl hs)), h2⟩, ⟨fun s hs => h1 s (List.mem_append.2 (.inr hs)), h3⟩, h4⟩
  · rintro ⟨⟨h1, h2⟩, ⟨h3, h4⟩, h5⟩
    exact ⟨fun s hs => by
      rcases List.mem_append.1 hs with h | h
      · exact h1 s h
      · exact h3 s h, h2, h4, h5⟩
/-- Spans in the order of their first copies are joined to spans that neither overlap nor adjoin, of the same copies. -/
theorem join_ok {l : List Sp} (h1 : ∀ s ∈ l, s.lo ≤ s.hi) (h2 : l.Pairwise fun a b => a.lo ≤ b.lo) : Norm (joinL l) ∧ (∀ k, Cov (joinL l) k ↔ Cov l k) ∧ (∀ b, (∀ s ∈ l, s.lo ≤ b) → ∀ s ∈ joinL l, s.lo ≤ b) := by
  have key : ∀ (n : Nat) (l : List Sp), l.length = n → (∀ s ∈ l, s.lo ≤ s.hi) → (l.Pairwise fun a b => a.lo ≤ b.lo) → Norm (joinL l) ∧ (∀ k, Cov (joinL l) k ↔ Cov l k) ∧ (∀ b, (∀ s ∈ l, s.lo ≤ b) → ∀ s ∈ joinL l, s.lo ≤ b) := by
    intro n
    induction n with
    | zero =>
      intro l hl _ _
      obtain rfl := List.eq_nil_of_length_eq_zero hl
      exact ⟨Norm.nil, fun k => Iff.rfl, fun b _ s hs => by cases hs⟩
    | succ n ih =>
      intro l hl h1 h2
      have hne : l ≠ [] := by rintro rfl; cases hl
      obtain ⟨m, x, rfl⟩ : ∃ m x, l = m ++ [x] := ⟨l.dropLast, l.getLast hne, (List.dropLast_concat_getLast hne).symm⟩
      rw [List.length_append, List.length_singleton] at hl
      rw [List.pairwise_append] at h2
      obtain ⟨i1, i2, i3⟩ := ih m (by omega) (fun s hs => h1 s (List.mem_append.2 (.inl hs))) h2.1
      have hx : x.lo ≤ x.hi := h1 x (List.mem_append.2 (.inr (List.mem_singleton.2 rfl)))
      have hmx : ∀ s ∈ joinL m, s.lo ≤ x.lo := i3 x.lo fun s hs => h2.2.2 s hs x (List.mem_singleton.2 rfl)
      rw [joinL_snoc]
      unfold joinStep
      cases hg : (joinL m).getLast? with
      | none =>
        have e : joinL m = [] := List.getLast?_eq_none_iff.1 hg
        have hc : ∀ k, ¬ Cov m k := fun k hk => by
          obtain ⟨s, hs, -⟩ := (i2 k).2 hk
          rw [e] at hs
          cases hs
        refine ⟨⟨fun s hs => by rw [List.mem_singleton.1 hs]; exact hx, List.pairwise_singleton _ _⟩, fun k => ?_, fun b hb s hs => by rw [List.mem_singleton.1 hs]; exact hb x (List.mem_append.2 (.inr (List.mem_singleton.2 rfl)))⟩
        rw [cov_append]
        exact ⟨.inr, fun h => h.resolve_left (hc k)⟩
      | some t =>
        have e : joinL m = (joinL m).dropLast ++ [t] := by
          have hne2 : joinL m ≠ [] := by intro e0; rw [e0] at hg; cases hg
          rw [List.getLast?_eq_some_getLast hne2, Option.some.injEq] at hg
          rw [← hg]
          exact (List.dropLast_concat_getLast hne2).symm
        obtain ⟨d, hd⟩ : ∃ d, (joinL m).dropLast = d := ⟨_, rfl⟩
        rw [hd] at e
        rw [e] at i1 i2 i3 hmx
        have htx : t.lo ≤ x.lo := hmx t (List.mem_append.2 (.inr (List.mem_singleton.2 rfl)))
        obtain ⟨n1, n2, n3⟩ := norm_append.1 i1
        have htt : t.lo ≤ t.hi := n2.1 t (List.mem_singleton.2 rfl)
        simp only [hd]
        by_cases hj : x.lo ≤ t.hi + 1
        · rw [if_pos hj]
          refine ⟨norm_append.2 ⟨n1, ⟨fun s hs => by rw [List.mem_singleton.1 hs]; simp only; omega, List.pairwise_singleton _ _⟩, fun a ha b hb => by rw [List.mem_singleton.1 hb]; exact n3 a ha t (List.mem_singleton.2 rfl)⟩, fun k => ?_, fun b hb s hs => ?_⟩
          · have := i2 k
            rw [cov_append, cov_one] at this
            rw [cov_append, cov_one, cov_append, cov_one, ← this]
            simp only
            constructor
            · rintro (h | h)
              · exact .inl (.inl h)
              · by_cases hk : k ≤ t.hi
                · exact .inl (.inr ⟨h.1, hk⟩)
                · exact .inr ⟨by omega, by omega⟩
            · rintro ((h | h) | h)
              · exact .inl h
              · exact .inr ⟨h.1, by omega⟩
              · exact .inr ⟨by omega, by omega⟩
          · rcases List.mem_append.1 hs with h | h
            · exact i3 b (fun s hs => hb s (List.mem_append.2 (.inl hs))) s (List.mem_append.2 (.inl h))
            · rw [List.mem_singleton.1 h]
              exact i3 b (fun s hs => hb s (List.mem_append.2 (.inl hs))) t (List.mem_append.2 (.inr (List.mem_singleton.2 rfl)))
        · rw [if_neg hj, e]
          refine ⟨norm_append.2 ⟨i1, ⟨fun s hs => by rw [List.mem_singleton.1 hs]; exact hx, List.pairwise_singleton _ _⟩, fun a ha b hb => ?_⟩, fun k => ?_, fun b hb s hs => ?_⟩
          · rw [List.mem_singleton.1 hb]
            rcases List.mem_append.1 ha with h | h
            · have := n3 a h t (List.mem_singleton.2 rfl)
              omega
            · rw [List.mem_singleton.1 h]
              omega
          · rw [cov_append, i2 k, cov_append]
          · rcases List.mem_append.1 hs with h | h
            · exact i3 b (fun s hs => hb s (List.mem_append.2 (.inl hs))) s h
            · rw [List.mem_singleton.1 h]
              exact hb x (List.mem_append.2 (.inr (List.mem_singleton.2 rfl)))
  exact key l.length l rfl h1 h2

structure ReelD where
  id : Int
  width : Int
  length : Int
  core : Int
  deriving DecidableEq, Inhabited
structure WebD where
  reels : List ReelD
  off : Int
  before : Int
  after : Int
  deriving DecidableEq, Inhabited
structure PressD where
  cut : Int
  margin : Int
  webs : List WebD
  deriving DecidableEq, Inhabited
def ReelD.gives (r : ReelD) : Int := r.length - r.core
def givesL (l : List ReelD) : Int := (l.map ReelD.gives).sum
theorem givesL_snoc (l : List ReelD) (r : ReelD) : givesL (l ++ [r]) = givesL l + r.gives := by unfold givesL; simp
def ReelD.ok (r : ReelD) : Prop := (0 ≤ r.id ∧ r.id ≤ 1000000) ∧ (1 ≤ r.width ∧ r.width ≤ 3000) ∧ (0 ≤ r.length ∧ r.length ≤ 20000000) ∧ (0 ≤ r.core ∧ r.core ≤ r.length)
instance (r : ReelD) : Decidable r.ok := by unfold ReelD.ok; infer_instance
def WebD.ok (x : WebD) : Prop := (0 ≤ x.off ∧ x.off ≤ 200000) ∧ (0 ≤ x.before ∧ x.before ≤ 5000) ∧ (0 ≤ x.after ∧ x.after ≤ 5000)
instance (x : WebD) : Decidable x.ok := by unfold WebD.ok; infer_instance
def idsL (l : List ReelD) : List Int := l.map ReelD.id
/-- The error of the first reel that is not allowed, after some Ids. -/
def reelsE (met : List Int) : List ReelD → Int
  | [] => 0
  | r :: l => if ¬ r.ok then 70 else if r.id ∈ met then 10 else reelsE (met ++ [r.id]) l
def websE (met : List Int) : List WebD → Int
  | [] => 0
  | x :: l => if ¬ x.ok then 6 else if reelsE met x.reels ≠ 0 then reelsE met x.reels else websE (met ++ idsL x.reels) l
def PressD.many (p : PressD) : Prop := ¬ (1 ≤ p.webs.length ∧ p.webs.length ≤ 6) ∨ ∃ x ∈ p.webs, 20 < x.reels.length
def checkE (p : PressD) : Int :=
  if 1 ≤ p.webs.length ∧ p.webs.length ≤ 6 ∧ p.webs.all (fun x => decide (x.reels.length ≤ 20)) then
    if (300 ≤ p.cut ∧ p.cut ≤ 1500) ∧ (0 ≤ p.margin ∧ p.margin ≤ 20) then websE [] p.webs else 6
  else 2
/-- A press that Check accepts. -/
structure PressD.Ok (p : PressD) : Prop where
  webs : 1 ≤ p.webs.length ∧ p.webs.length ≤ 6
  reels : ∀ x ∈ p.webs, x.reels.length ≤ 20
  cut : 300 ≤ p.cut ∧ p.cut ≤ 1500
  margin : 0 ≤ p.margin ∧ p.margin ≤ 20
  web : ∀ x ∈ p.webs, x.ok
  reel : ∀ x ∈ p.webs, ∀ r ∈ x.reels, r.ok
theorem reelsE_ok : ∀ {met : List Int} {l : List ReelD}, reelsE met l = 0 → ∀ r ∈ l, r.ok
  | _, [], _, r, hr => by cases hr
  | met, x :: l, h, r, hr => by
    unfold reelsE at h
    split at h
    · cases h
    split at h
    · cases h
    rcases List.mem_cons.1 hr with rfl | hr
    · rename_i h1 _
      exact Decidable.not_not.1 h1
    · exact reelsE_ok h r hr
theorem websE_ok : ∀ {met : List Int} {l : List WebD}, websE met l = 0 → ∀ x ∈ l, x.ok ∧ ∀ r ∈ x.reels, r.ok
  | _, [], _, x, hx => by cases hx
  | met, y :: l, h, x, hx => by
    unfold websE at h
    split at h
    · cases h
    split at h
    · rename_i h1
      exact absurd h h1
    rename_i h1 h2
    rcases List.mem_cons.1 hx with rfl | hx
    · exact ⟨Decidable.not_not.1 h1, reelsE_ok (Decidable.not_not.1 h2)⟩
    · exact websE_ok h x hx
theorem checkE_ok {p : PressD} (h : checkE p = 0) : p.Ok := by
  unfold checkE at h
  split at h
  · rename_i h1
    split at h
    · rename_i h2
      exact ⟨⟨h1.1, h1.2.1⟩, fun x hx => by simpa using List.all_eq_true.1 h1.2.2 x hx, h2.1, h2.2, fun x hx => (websE_ok h x hx).1, fun x hx => (websE_ok h x hx).2⟩
    · cases h
  · cases h

def reach1 (cut : Int) (x : WebD) : Int := max 0 (givesL x.reels - x.off) / cut
def reachL (cut : Int) (l : List WebD) : Int := l.foldl (fun m x => min m (reach1 cut x)) 1000000
def PressD.reach (p : PressD) : Int := reachL p.cut p.webs
theorem reachL_snoc (cut : Int) (l : List WebD) (x : WebD) : reachL cut (l ++ [x]) = min (reachL cut l) (reach1 cut x) := by unfold reachL; rw [List.foldl_append]; rfl

/-- The places of the first splices of a web, when k reels have been seen. -/
def placesTo (l : List ReelD) (k : Nat) : List Int := (List.range (k - 1)).map fun i => givesL (l.take (i + 1))
def WebD.places (x : WebD) : List Int := placesTo x.reels x.reels.length
theorem placesTo_next (l : List ReelD) {k : Nat} (h : 0 < k) : placesTo l (k + 1) = placesTo l k ++ [givesL (l.take k)] := by
  unfold placesTo
  rw [show k + 1 - 1 = (k - 1) + 1 by omega, List.range_succ, List.map_append, List.map_singleton, show k - 1 + 1 = k by omega]
theorem placesTo_len (l : List ReelD) (k : Nat) : (placesTo l k).length = k - 1 := by unfold placesTo; simp
theorem placesTo_pre (l : List ReelD) {k m : Nat} (h : k ≤ m) : placesTo l k <+: placesTo l m := by
  induction m with
  | zero => obtain rfl : k = 0 := by omega
            exact List.prefix_refl _
  | succ m ih =>
    by_cases hk : k = m + 1
    · subst hk; exact List.prefix_refl _
    · rcases Nat.eq_zero_or_pos m with h0 | h0
      · subst h0
        obtain rfl : k = 0 := by omega
        exact List.prefix_refl _
      · rw [placesTo_next l h0]
        exact (ih (by omega)).trans (List.prefix_append _ _)
theorem mem_places {x : WebD} {a : Int} : a ∈ x.places ↔ ∃ i, i + 1 < x.reels.length ∧ a = givesL (x.reels.take (i + 1)) := by
  unfold WebD.places placesTo
  rw [List.mem_map]
  constructor
  · rintro ⟨i, hi, rfl⟩
    rw [List.mem_range] at hi
    exact ⟨i, by omega, rfl⟩
  · rintro ⟨i, hi, rfl⟩
    exact ⟨i, List.mem_range.2 (by omega), rfl⟩
def PressD.span (p : PressD) (x : WebD) (place : Int) : Sp := ⟨(place - x.before - x.off) / p.cut - p.margin, (place + x.after - 1 - x.off) / p.cut + p.margin⟩
/-- A copy is thrown out (also one that is not printed). -/
def PressD.Out (p : PressD) (k : Int) : Prop := ∃ x ∈ p.webs, x.before + x.after ≠ 0 ∧ ∃ at_ ∈ x.places, (p.span x at_).lo ≤ k ∧ k ≤ (p.span x at_).hi
/-- What Thrown must answer. -/
def PressD.ThrownIs (p : PressD) (n : Int) (l : List Sp) : Prop := Norm l ∧ ∀ k, Cov l k ↔ (0 ≤ k ∧ k < n) ∧ p.Out k
theorem PressD.ThrownIs.one {p : PressD} {n : Int} {l m : List Sp} (h : p.ThrownIs n l) (h' : p.ThrownIs n m) : l = m := norm_unique l m h.1 h'.1 fun k => (h.2 k).trans (h'.2 k).symm
end Go.Proofs.Ytpkepacbondopaa
