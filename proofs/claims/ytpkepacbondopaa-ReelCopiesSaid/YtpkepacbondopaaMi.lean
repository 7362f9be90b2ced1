/-
  cheapest: its plain words and its state.
-/
import Derived.Test.YtpkepacbondopaaMf
namespace Go.Proofs.Ytpkepacbondopaa
open Go.RowKit Go.Shelf

/-- The two arrays of cheapest: the next order of each week, and what the weeks from it on cost. -/
abbrev ChT := List Int × List Int
def chE (s : SupD) (a : Nat) (T : ChT) (e : Nat) : ChT := if costE s a e + T.2.getD e 0 < T.2.getD a 0 then (T.1.set a (e : Int), T.2.set a (costE s a e + T.2.getD e 0)) else T
def chW (s : SupD) (T : ChT) (a : Nat) : ChT := (batchN s a).foldl (chE s a) (T.1, T.2.set a big)
/-- The last k weeks are done. -/
def chTo (s : SupD) : Nat → ChT
  | 0 => (List.replicate 21 0, List.replicate 21 0)
  | k + 1 => chW s (chTo s k) (s.need.length - (k + 1))
structure ChB (s : SupD) (a : Nat) (T : ChT) : Prop where
  l1 : T.1.length = 21
  l2 : T.2.length = 21
  n1 : ∀ j, 0 ≤ T.1.getD j 0 ∧ T.1.getD j 0 ≤ 20
  all : ∀ j, 0 ≤ T.2.getD j 0 ∧ T.2.getD j 0 ≤ big
  low : ∀ j, a ≤ j → j ≤ s.need.length → T.2.getD j 0 ≤ 500000000 * ((s.need.length : Int) - j)
  fin : T.2.getD s.need.length 0 = 0
  ans : ∀ j, a ≤ j → j < s.need.length → ∃ e : Nat, T.1.getD j 0 = e ∧ e ∈ batchN s j ∧ T.2.getD j 0 = costE s j e + T.2.getD e 0
  min_ : ∀ j, a ≤ j → j < s.need.length → ∀ e ∈ batchN s j, T.2.getD j 0 ≤ costE s j e + T.2.getD e 0
/-- Within a week. -/
structure ChM (s : SupD) (a : Nat) (done : List Nat) (T : ChT) : Prop where
  rest : ChB s (a + 1) T
  le : ∀ e ∈ done, T.2.getD a 0 ≤ costE s a e + T.2.getD e 0
  is : T.2.getD a 0 = big ∨ ∃ e : Nat, T.1.getD a 0 = e ∧ e ∈ batchN s a ∧ T.2.getD a 0 = costE s a e + T.2.getD e 0
theorem ChB.set {s : SupD} {a : Nat} {T : ChT} (h : ChB s (a + 1) T) (ha : a < s.need.length) {x y : Int} (hx : 0 ≤ x ∧ x ≤ 20) (hy : 0 ≤ y ∧ y ≤ big) : ChB s (a + 1) (T.1.set a x, T.2.set a y) := by
  have g1 : ∀ j, a < j → (T.1.set a x).getD j 0 = T.1.getD j 0 := fun j hj => by rw [getD_set, if_neg (by omega)]
  have g2 : ∀ j, a < j → (T.2.set a y).getD j 0 = T.2.getD j 0 := fun j hj => by rw [getD_set, if_neg (by omega)]
  refine ⟨by simp [h.l1], by simp [h.l2], fun j => ?_, fun j => ?_, fun j h1 h2 => ?_, ?_, fun j h1 h2 => ?_, fun j h1 h2 e he => ?_⟩
  · show 0 ≤ (T.1.set a x).getD j 0 ∧ _
    rw [getD_set]; split
    · exact hx
    · exact h.n1 j
  · show 0 ≤ (T.2.set a y).getD j 0 ∧ (T.2.set a y).getD j 0 ≤ big
    rw [getD_set]; split
    · exact hy
    · exact h.all j
  · show (T.2.set a y).getD j 0 ≤ _
    rw [g2 j (by omega)]; exact h.low j h1 h2
  · show (T.2.set a y).getD _ 0 = 0
    rw [g2 _ ha]; exact h.fin
  · obtain ⟨e, h3, h4, h5⟩ := h.ans j h1 h2
    have := batchN_mem h2 h4
    refine ⟨e, ?_, h4, ?_⟩
    · show (T.1.set a x).getD j 0 = e
      rw [g1 j (by omega)]; exact h3
    · show (T.2.set a y).getD j 0 = _ + (T.2.set a y).getD e 0
      rw [g2 j (by omega), g2 e (by omega)]; exact h5
  · have := batchN_mem h2 he
    show (T.2.set a y).getD j 0 ≤ _ + (T.2.set a y).getD e 0
    rw [g2 j (by omega), g2 e (by omega)]; exact h.min_ j h1 h2 e he
theorem ChB.sum {s : SupD} (hs : s.Ok) {a : Nat} {T : ChT} (h : ChB s (a + 1) T) {e : Nat} (h1 : a < e) (h2 : e ≤ s.need.length) : 0 ≤ costE s a e + T.2.getD e 0 ∧ costE s a e + T.2.getD e 0 ≤ 500000000 * ((s.need.length : Int) - a) := by
  have h3 := hs.costE_bound h1 h2
  have h4 := h.low e (by omega) h2
  have h5 := h.all e
  omega
theorem ChM.start {s : SupD} {a : Nat} {T : ChT} (h : ChB s (a + 1) T) (ha : a < s.need.length) (hs : s.Ok) : ChM s a [] (T.1, T.2.set a big) := by
  have hw := hs.weeks
  have h1 := h.set ha (x := T.1.getD a 0) (y := big) (h.n1 a) (by decide)
  have e : T.1.set a (T.1.getD a 0) = T.1 := by
    have hl : a < T.1.length := by have := h.l1; omega
    rw [List.getD_eq_getElem?_getD, List.getElem?_eq_getElem hl, Option.getD_some, List.set_getElem_self]
  rw [e] at h1
  refine ⟨h1, fun e he => (by cases he), .inl ?_⟩
  show (T.2.set a big).getD a 0 = big
  rw [getD_set, if_pos ⟨rfl, by have := h.l2; omega⟩]
theorem ChM.step {s : SupD} (hs : s.Ok) {a : Nat} (ha : a < s.need.length) {done : List Nat} {T : ChT} (h : ChM s a done T) {e : Nat} (he : e ∈ batchN s a) : ChM s a (done ++ [e]) (chE s a T e) := by
  obtain ⟨h1, h2⟩ := batchN_mem ha he
  have hw := hs.weeks
  have hsum := h.rest.sum hs h1 h2
  have hl := h.rest.l2
  have hl1 := h.rest.l1
  unfold chE
  split
  · rename_i hlt
    have g2 : ∀ j, a < j → (T.2.set a (costE s a e + T.2.getD e 0)).getD j 0 = T.2.getD j 0 := fun j hj => by rw [getD_set, if_neg (by omega)]
    have ga : (T.2.set a (costE s a e + T.2.getD e 0)).getD a 0 = costE s a e + T.2.getD e 0 := by rw [getD_set, if_pos ⟨rfl, by omega⟩]
    have hall := h.rest.all a
    refine ⟨h.rest.set ha ⟨by omega, by omega⟩ ⟨hsum.1, by omega⟩, fun x hx => ?_, .inr ⟨e, ?_, he, ?_⟩⟩
    · show (T.2.set a _).getD a 0 ≤ costE s a x + (T.2.set a _).getD x 0
      rcases List.mem_append.1 hx with hx | hx
      · have h3 := h.le x hx
        rw [ga]
        by_cases hxa : a < x
        · rw [g2 x hxa]; omega
        · by_cases hxa' : x = a
          · subst hxa'; rw [ga]; omega
          · rw [getD_set, if_neg (by omega)]; omega
      · rw [List.mem_singleton.1 hx, ga, g2 e h1]; exact Int.le_refl _
    · show (T.1.set a (e : Int)).getD a 0 = e
      rw [getD_set, if_pos ⟨rfl, by omega⟩]
    · show (T.2.set a _).getD a 0 = _ + (T.2.set a _).getD e 0
      rw [ga, g2 e h1]
  · rename_i hlt
    refine ⟨h.rest, fun x hx => ?_, h.is⟩
    rcases List.mem_append.1 hx with hx | hx
    · exact h.le x hx
    · rw [List.mem_singleton.1 hx]; omega
theorem ChM.steps {s : SupD} (hs : s.Ok) {a : Nat} (ha : a < s.need.length) : ∀ (l done : List Nat) {T : ChT}, (∀ e ∈ l, e ∈ batchN s a) → ChM s a done T → ChM s a (done ++ l) (l.foldl (chE s a) T)
  | [], done, T, _, h => by rw [List.append_nil]; exact h
  | e :: l, done, T, hl, h => by
    have := ChM.steps hs ha l (done ++ [e]) (fun x hx => hl x (List.mem_cons_of_mem _ hx)) (h.step hs ha (hl e (List.mem_cons_self ..)))
    rwa [List.append_assoc] at this
theorem costE_nonneg0 {s : SupD} : True := trivial
theorem ChM.fin {s : SupD} (hs : s.Ok) {a : Nat} (ha : a < s.need.length) {T : ChT} (h : ChM s a (batchN s a) T) : ChB s a T := by
  have h1 := h.le (a + 1) (batchN_next hs ha)
  have h2 := h.rest.sum hs (e := a + 1) (by omega) (by omega)
  have hw := hs.weeks
  have hsm : T.2.getD a 0 ≤ 500000000 * ((s.need.length : Int) - a) := by omega
  refine ⟨h.rest.l1, h.rest.l2, h.rest.n1, h.rest.all, fun j hj1 hj2 => ?_, h.rest.fin, fun j hj1 hj2 => ?_, fun j hj1 hj2 e he => ?_⟩
  · rcases Nat.lt_or_ge a j with hj | hj
    · exact h.rest.low j (by omega) hj2
    · obtain rfl : j = a := by omega
      exact hsm
  · rcases Nat.lt_or_ge a j with hj | hj
    · exact h.rest.ans j (by omega) hj2
    · obtain rfl : j = a := by omega
      refine h.is.resolve_left fun h9 => ?_
      rw [h9] at hsm
      unfold big at hsm
      omega
  · rcases Nat.lt_or_ge a j with hj | hj
    · exact h.rest.min_ j (by omega) hj2 e he
    · obtain rfl : j = a := by omega
      exact h.le e he
theorem ChB.start {s : SupD} (hs : s.Ok) : ChB s s.need.length (chTo s 0) := by
  have hE : ∀ j, (List.replicate 21 (0 : Int)).getD j 0 = 0 := fun j => by
    rw [List.getD_eq_getElem?_getD, List.getElem?_replicate]
    split <;> rfl
  unfold chTo
  refine ⟨by simp, by simp, fun j => ?_, fun j => ?_, fun j h1 h2 => ?_, hE _, fun j h1 h2 => by omega, fun j h1 h2 => by omega⟩
  · show 0 ≤ (List.replicate 21 (0 : Int)).getD j 0 ∧ _
    rw [hE]; decide
  · show 0 ≤ (List.replicate 21 (0 : Int)).getD j 0 ∧ (List.replicate 21 (0 : Int)).getD j 0 ≤ big
    rw [hE]; decide
  · show (List.replicate 21 (0 : Int)).getD j 0 ≤ _
    rw [hE]; omega
theorem chTo_ok {s : SupD} (hs : s.Ok) : ∀ k, k ≤ s.need.length → ChB s (s.need.length - k) (chTo s k)
  | 0, _ => ChB.start hs
  | k + 1, hk => by
    have ih := chTo_ok hs k (by omega)
    have ha : s.need.length - (k + 1) < s.need.length := by omega
    rw [show s.need.length - k = s.need.length - (k + 1) + 1 by omega] at ih
    have := ChM.steps hs ha (batchN s _) [] (fun _ h => h) (ChM.start ih ha hs)
    rw [List.nil_append] at this
    exact this.fin hs ha
def nextOf (s : SupD) (a : Nat) : Nat := ((chTo s s.need.length).1.getD a 0).toNat
/-- The weeks of the cheapest schedule from a week on. -/
def pathF (s : SupD) : Nat → Nat → List Int
  | 0, _ => []
  | f + 1, a => if a < s.need.length then (a : Int) :: pathF s f (nextOf s a) else []
def weeksOf (s : SupD) : List Int := pathF s s.need.length 0
def cheapOf (s : SupD) : Int := (chTo s s.need.length).2.getD 0 0
theorem nextOf_ok {s : SupD} (hs : s.Ok) {a : Nat} (ha : a < s.need.length) : ((nextOf s a : Nat) : Int) = (chTo s s.need.length).1.getD a 0 ∧ a < nextOf s a ∧ nextOf s a ≤ s.need.length ∧ nextOf s a ∈ batchN s a ∧ (chTo s s.need.length).2.getD a 0 = costE s a (nextOf s a) + (chTo s s.need.length).2.getD (nextOf s a) 0 := by
  obtain ⟨e, h1, h2, h3⟩ := (chTo_ok hs _ (Nat.le_refl _)).ans a (by omega) ha
  have h4 : nextOf s a = e := by unfold nextOf; rw [h1]; rfl
  have h5 := batchN_mem ha h2
  rw [h4]
  exact ⟨h1.symm, h5.1, h5.2, h2, h3⟩
theorem pathF_more {s : SupD} (hs : s.Ok) : ∀ (f g a : Nat), s.need.length - a ≤ f → s.need.length - a ≤ g → pathF s f a = pathF s g a
  | 0, 0, _, _, _ => rfl
  | 0, g + 1, a, h1, _ => by unfold pathF; rw [if_neg (by omega)]
  | f + 1, 0, a, _, h2 => by unfold pathF; rw [if_neg (by omega)]
  | f + 1, g + 1, a, h1, h2 => by
    unfold pathF
    split
    · rename_i ha
      obtain ⟨-, h3, h4, -⟩ := nextOf_ok hs ha
      rw [pathF_more hs f g (nextOf s a) (by omega) (by omega)]
    · rfl
theorem pathF_len {s : SupD} : ∀ (f a : Nat), (pathF s f a).length ≤ f
  | 0, _ => Nat.le_refl _
  | f + 1, a => by
    unfold pathF
    split
    · have := pathF_len (s := s) f (nextOf s a)
      simp; omega
    · simp

/-- What lies there between two weeks of cheapest. -/
structure CheapSt (w : World) (s : SupD) (An Ao : Option Addr) (cn co N1 N2 : Nat) (ds : List Deferred) (T : ChT) (X : World) : Prop where
  below_ : Below w.heap.size w X
  sup : Blk X w.heap.size 33 #[.slice An s.need.length cn, .slice Ao s.need.length co, .int .i64 s.keep, .int .i64 s.room]
  nx : Blk X N1 221 (T.1.map (Value.int .i64)).toArray
  rs : Blk X N2 221 (T.2.map (Value.int .i64)).toArray
  base : w.heap.size < N1 ∧ w.heap.size < N2 ∧ N1 ≠ N2
  defs : DsOk w.heap.size ds X
section
variable {w : World} {s : SupD} {An Ao : Option Addr} {cn co N1 N2 : Nat} {ds : List Deferred} {T : ChT} {X Y : World}
theorem CheapSt.keep (h : CheapSt w s An Ao cn co N1 N2 ds T X) {S : Nat → Prop} (hk : KeptBut S X Y) (hS : ∀ k, S k → w.heap.size < k ∧ k ≠ N1 ∧ k ≠ N2 ∧ X.heap[k]? ≠ some (.deferred (some []))) : CheapSt w s An Ao cn co N1 N2 ds T Y := by
  obtain ⟨h1, h2, h3, h4, h5, h6⟩ := h
  refine ⟨h1.trans (hk.below (fun k hk => Nat.le_of_lt (hS k hk).1) h1.size), hk.blk h2 (fun e => ?_), hk.blk h3 (fun e => (hS _ e).2.1 rfl), hk.blk h4 (fun e => (hS _ e).2.2.1 rfl), h5, h6.keep fun D _ hD => hk.block D (Array.getElem?_eq_some_iff.1 hD).1 fun e => (hS _ e).2.2.2 hD⟩
  have := (hS _ e).1
  omega
theorem CheapSt.below (h : CheapSt w s An Ao cn co N1 N2 ds T X) (hb : Below X.heap.size X Y) : CheapSt w s An Ao cn co N1 N2 ds T Y := h.keep (KeptBut.of_below (S := fun _ => False) hb) fun _ h => h.elim
theorem CheapSt.grow {row : Option Nat} {B : Nat} (h : CheapSt w s An Ao cn co N1 N2 ds T X) (hg : X.grownBy Y row) (hr : ∀ r, row = some r → B ≤ r ∧ ∃ o : Obj, X.heap[r]? = some o ∧ o.isCells = false) (hB : w.heap.size ≤ B)
    (hlt : ∀ D, ({ target := .collected D, args := #[] } : Deferred) ∈ ds → D < B) : CheapSt w s An Ao cn co N1 N2 ds T Y := by
  obtain ⟨h1, h2, h3, h4, h5, Ds, h6, h6n, h6a⟩ := h
  refine ⟨h1.grown hg h1.size (fun j hj => by have := (hr j hj).1; omega), blk_grown h2 hg hr, blk_grown h3 hg hr, blk_grown h4 hg hr, h5, Ds, h6, h6n, fun D hD => ⟨(h6a D hD).1, ?_⟩⟩
  have hD' : D < B := hlt D (by rw [h6]; exact List.mem_map.2 ⟨D, hD, rfl⟩)
  refine (hg.block D (Array.getElem?_eq_some_iff.1 (h6a D hD).2).1 fun e => ?_).trans (h6a D hD).2
  have := (hr D e.symm).1
  omega
theorem CheapSt.lt (h : CheapSt w s An Ao cn co N1 N2 ds T X) : ∀ D, ({ target := .collected D, args := #[] } : Deferred) ∈ ds → D < X.heap.size := by
  intro D hD
  obtain ⟨Ds, h4, -, h4a⟩ := h.defs
  rw [h4] at hD
  obtain ⟨D', hD', e⟩ := List.mem_map.1 hD
  cases e
  exact (Array.getElem?_eq_some_iff.1 (h4a D hD').2).1
theorem CheapSt.range {D : Nat} (h : CheapSt w s An Ao cn co N1 N2 ds T X) (hlt : ∀ D', ({ target := .collected D', args := #[] } : Deferred) ∈ ds → D' < D) (hw : w.heap.size ≤ D) (hK : X.heap[D]? = some (.deferred (some []))) : CheapSt w s An Ao cn co N1 N2 ({ target := .collected D, args := #[] } :: ds) T X := by
  obtain ⟨h1, h2, h3, h4, h5, Ds, h6, h6n, h6a⟩ := h
  refine ⟨h1, h2, h3, h4, h5, D :: Ds, by rw [h6]; rfl, List.nodup_cons.2 ⟨fun hD => ?_, h6n⟩, fun D' hD => ?_⟩
  · have := hlt D (by rw [h6]; exact List.mem_map.2 ⟨D, hD, rfl⟩)
    omega
  · rcases List.mem_cons.1 hD with rfl | hD
    · exact ⟨hw, hK⟩
    · exact h6a D' hD
theorem arr_cell {b : Nat} {t : TypeId} {L : List Int} (h : Blk X b t (L.map (Value.int .i64)).toArray) {j : Nat} (hj : j < L.length) : X.cell? ⟨b, j, none⟩ = some (.int .i64 (L.getD j 0)) := by
  rw [h.cell, List.getElem?_toArray, List.getElem?_map, List.getElem?_eq_getElem hj, List.getD_eq_getElem?_getD, List.getElem?_eq_getElem hj]
  rfl
theorem arr_put {b : Nat} {t : TypeId} {L : List Int} (h : Blk X b t (L.map (Value.int .i64)).toArray) (j : Nat) (x : Int) : Blk (X.setCell ⟨b, j, none⟩ (.int .i64 x)) b t ((L.set j x).map (Value.int .i64)).toArray := by
  have := h.put j (.int .i64 x)
  rwa [List.setIfInBounds_toArray, ← List.map_set] at this
theorem CheapSt.put1 (h : CheapSt w s An Ao cn co N1 N2 ds T X) (j : Nat) (x : Int) : CheapSt w s An Ao cn co N1 N2 ds (T.1.set j x, T.2) (X.setCell ⟨N1, j, none⟩ (.int .i64 x)) := by
  have hN := h.nx
  have hb := h.base
  have hK : KeptBut (fun k => k = N1) X (X.setCell ⟨N1, j, none⟩ (.int .i64 x)) := KeptBut.setCell (S := fun k => k = N1) rfl _
  exact ⟨h.below_.trans (hK.below (fun k hk => by omega) h.below_.size), hK.blk h.sup (fun e => by omega), arr_put h.nx j x, hK.blk h.rs (fun e => hb.2.2 e.symm), hb, h.defs.keep fun D _ hD => hK.block D (Array.getElem?_eq_some_iff.1 hD).1 fun e => by subst e; have := hN.symm.trans hD; simp at this⟩
theorem CheapSt.put2 (h : CheapSt w s An Ao cn co N1 N2 ds T X) (j : Nat) (x : Int) : CheapSt w s An Ao cn co N1 N2 ds (T.1, T.2.set j x) (X.setCell ⟨N2, j, none⟩ (.int .i64 x)) := by
  have hN := h.rs
  have hb := h.base
  have hK : KeptBut (fun k => k = N2) X (X.setCell ⟨N2, j, none⟩ (.int .i64 x)) := KeptBut.setCell (S := fun k => k = N2) rfl _
  exact ⟨h.below_.trans (hK.below (fun k hk => by omega) h.below_.size), hK.blk h.sup (fun e => by omega), hK.blk h.nx (fun e => hb.2.2 e), arr_put h.rs j x, hb, h.defs.keep fun D _ hD => hK.block D (Array.getElem?_eq_some_iff.1 hD).1 fun e => by subst e; have := hN.symm.trans hD; simp at this⟩
end
end Go.Proofs.Ytpkepacbondopaa
