/-
  Cost: its plain words and its state.
-/
import Derived.Test.YtpkepacbondopaaZh
import Derived.Test.YtpkepacbondopaaZa
namespace Go.Proofs.Ytpkepacbondopaa
open Go.RowKit Go.Shelf
attribute [local go_sem] Oper.semAt_some

/-- What Cost knows when it has come from the end to the head of a list: whether there was room, the sum, the last week that it saw. -/
def cF (s : SupD) (m : Nat) : List Int → Bool × Int × Nat
  | [] => (true, 0, m)
  | x :: t => ((cF s m t).1 && okE s x.toNat (cF s m t).2.2, (cF s m t).2.1 + costE s x.toNat (cF s m t).2.2, x.toNat)
theorem cF_bound {s : SupD} (hs : s.Ok) : ∀ {l : List Int}, (∀ x ∈ l, 0 ≤ x ∧ x < s.need.length) → (0 ≤ (cF s s.need.length l).2.1 ∧ (cF s s.need.length l).2.1 ≤ 450000000 * (l.length : Int)) ∧ (cF s s.need.length l).2.2 ≤ s.need.length
  | [], _ => by unfold cF; simp
  | x :: t, h => by
    obtain ⟨⟨h1, h2⟩, h3⟩ := cF_bound hs (l := t) fun y hy => h y (List.mem_cons_of_mem _ hy)
    have h4 := h x (List.mem_cons_self ..)
    have h5 := hs.costE_all (a := x.toNat) (by omega) h3
    unfold cF
    simp only [List.length_cons]
    refine ⟨⟨by omega, ?_⟩, by omega⟩
    rw [Int.natCast_add, Int.mul_add]
    omega
theorem cF_suffix {s : SupD} {m : Nat} {t : List Int} (h : (cF s m t).1 = false) : ∀ l : List Int, (cF s m (l ++ t)).1 = false
  | [] => h
  | x :: l => by
    show ((cF s m (l ++ t)).1 && _) = false
    rw [cF_suffix h l]
    rfl
theorem cF_cost {s : SupD} : ∀ (l : List Nat) (a : Nat), (cF s s.need.length (((a :: l : List Nat)).map fun n : Nat => (n : Int))).2.2 = a ∧
    (costFrom s a l = if (cF s s.need.length (((a :: l : List Nat)).map fun n : Nat => (n : Int))).1 then some (cF s s.need.length (((a :: l : List Nat)).map fun n : Nat => (n : Int))).2.1 else none)
  | [], a => by
    refine ⟨by simp [cF], ?_⟩
    unfold costFrom
    simp [cF]
  | b :: l, a => by
    obtain ⟨h1, h2⟩ := cF_cost (s := s) l b
    refine ⟨by simp [cF], ?_⟩
    unfold costFrom
    rw [h2]
    obtain ⟨⟨f, c, e⟩, hr⟩ : ∃ r, cF s s.need.length (((b :: l : List Nat)).map fun n : Nat => (n : Int)) = r := ⟨_, rfl⟩
    rw [hr] at h1 ⊢
    simp only at h1
    subst h1
    have h3 : cF s s.need.length (((a :: e :: l : List Nat)).map fun n : Nat => (n : Int)) = (f && okE s a e, c + costE s a e, a) := by
      show ((cF s s.need.length (((e :: l : List Nat)).map fun n : Nat => (n : Int))).1 && _, _, _) = _
      rw [hr]
      simp
    rw [h3]
    cases f <;> simp
/-- The weeks that were seen, in the order of the list. -/
def vals (l : List Int) (pre : List (Ix l)) : List Int := (pre.map fun j => l.getD j.1 0).reverse
theorem vals_snoc {l : List Int} {pre : List (Ix l)} {x : Ix l} : vals l (pre ++ [x]) = l.getD x.1 0 :: vals l pre := by
  unfold vals
  rw [List.map_append, List.reverse_append]
  rfl
theorem vals_len {l : List Int} {pre : List (Ix l)} : (vals l pre).length = pre.length := by unfold vals; simp
theorem vals_all {l : List Int} : vals l (backTo l l.length) = l := by
  unfold vals backTo
  split
  · rename_i h
    refine List.ext_getElem? fun i => ?_
    rw [List.map_map]
    rcases Nat.lt_or_ge i l.length with hi | hi
    · rw [List.getElem?_reverse (by simpa using hi)]
      simp only [List.length_map, List.length_range]
      rw [List.getElem?_map, List.getElem?_range (by omega), List.getElem?_eq_getElem hi]
      simp only [Option.map_some, Function.comp_apply, Option.some.injEq]
      rw [List.getD_eq_getElem?_getD, List.getElem?_eq_getElem (by omega), Option.getD_some]
      congr 1
      omega
    · rw [List.getElem?_eq_none (by simpa using hi), List.getElem?_eq_none hi]
  · rename_i h
    have : l = [] := List.eq_nil_of_length_eq_zero (by omega)
    subst this
    rfl
theorem vals_pre {l : List Int} {pre : List (Ix l)} (h : pre <+: backTo l l.length) : ∃ t, l = t ++ vals l pre := by
  obtain ⟨t, ht⟩ := h
  have h1 : vals l (pre ++ t) = l := by rw [ht]; exact vals_all
  have h2 : vals l (pre ++ t) = vals l t ++ vals l pre := by unfold vals; rw [List.map_append, List.reverse_append]
  exact ⟨vals l t, h1.symm.trans h2⟩
/-- What lies there while Cost walks back. -/
structure CoSt (w : World) (s : SupD) (An Ao : Option Addr) (cn co B7 B8 : Nat) (x e sm : Int) (en : Nat) (X : World) : Prop where
  below_ : Below w.heap.size w X
  sup : Blk X w.heap.size 33 #[.slice An s.need.length cn, .slice Ao s.need.length co, .int .i64 s.keep, .int .i64 s.room]
  r4 : Blk X (w.heap.size + 1) 3 #[.int .i64 x]
  r5 : Blk X (w.heap.size + 1 + 1) 38 #[.int .i64 e]
  b7 : Blk X B7 3 #[.int .i64 sm]
  b8 : Blk X B8 3 #[.int .i64 (en : Int)]
  ne : w.heap.size + 1 + 1 < B7 ∧ w.heap.size + 1 + 1 < B8 ∧ B7 ≠ B8
section
variable {w : World} {s : SupD} {An Ao : Option Addr} {cn co B7 B8 : Nat} {x e sm : Int} {en : Nat} {X Y : World}
theorem CoSt.below (h : CoSt w s An Ao cn co B7 B8 x e sm en X) (hb : Below X.heap.size X Y) : CoSt w s An Ao cn co B7 B8 x e sm en Y := by
  obtain ⟨h1, h2, h3, h4, h5, h6, h7⟩ := h
  exact ⟨h1.trans (hb.mono h1.size), h2.below hb h2.lt, h3.below hb h3.lt, h4.below hb h4.lt, h5.below hb h5.lt, h6.below hb h6.lt, h7⟩
theorem CoSt.grow {row : Option Nat} {B : Nat} (h : CoSt w s An Ao cn co B7 B8 x e sm en X) (hg : X.grownBy Y row) (hr : ∀ r, row = some r → B ≤ r ∧ ∃ o : Obj, X.heap[r]? = some o ∧ o.isCells = false) (hB : w.heap.size ≤ B) : CoSt w s An Ao cn co B7 B8 x e sm en Y := by
  obtain ⟨h1, h2, h3, h4, h5, h6, h7⟩ := h
  exact ⟨h1.grown hg h1.size (fun j hj => by have := (hr j hj).1; omega), blk_grown h2 hg hr, blk_grown h3 hg hr, blk_grown h4 hg hr, blk_grown h5 hg hr, blk_grown h6 hg hr, h7⟩
theorem CoSt.keep {S : Nat → Prop} (h : CoSt w s An Ao cn co B7 B8 x e sm en X) (hK : KeptBut S X Y) (hS : ∀ k, S k → w.heap.size + 1 + 1 < k ∧ k ≠ B7 ∧ k ≠ B8) : CoSt w s An Ao cn co B7 B8 x e sm en Y := by
  obtain ⟨h1, h2, h3, h4, h5, h6, h7⟩ := h
  exact ⟨h1.trans (hK.below (fun k hk => by have := hS k hk; omega) h1.size), hK.blk h2 (fun hk => by have := hS _ hk; omega), hK.blk h3 (fun hk => by have := hS _ hk; omega), hK.blk h4 (fun hk => by have := hS _ hk; omega), hK.blk h5 (fun hk => (hS _ hk).2.1 rfl), hK.blk h6 (fun hk => (hS _ hk).2.2 rfl), h7⟩
theorem CoSt.put78 (h : CoSt w s An Ao cn co B7 B8 x e sm en X) (a : Int) (b : Nat) : CoSt w s An Ao cn co B7 B8 x e a b ((X.setCell ⟨B7, 0, none⟩ (.int .i64 a)).setCell ⟨B8, 0, none⟩ (.int .i64 (b : Int))) := by
  obtain ⟨h1, h2, h3, h4, h5, h6, h7⟩ := h
  have hK : KeptBut (fun k => k = B7 ∨ k = B8) X ((X.setCell ⟨B7, 0, none⟩ (.int .i64 a)).setCell ⟨B8, 0, none⟩ (.int .i64 (b : Int))) := (KeptBut.setCell (S := fun k => k = B7 ∨ k = B8) (.inl rfl) _).trans (KeptBut.setCell (S := fun k => k = B7 ∨ k = B8) (.inr rfl) _) fun _ _ h => h
  refine ⟨h1.trans (hK.below (fun k hk => by omega) h1.size), hK.blk h2 (by omega), hK.blk h3 (by omega), hK.blk h4 (by omega), ?_, ?_, h7⟩
  · exact (Below.heap_setCell _ ⟨B8, 0, none⟩ _ B7 h7.2.2).trans (h5.put 0 (.int .i64 a))
  · exact Blk.put ((Below.heap_setCell X ⟨B7, 0, none⟩ _ B8 (fun e => h7.2.2 e.symm)).trans h6) 0 (.int .i64 (b : Int))
theorem CoSt.put45 (h : CoSt w s An Ao cn co B7 B8 x e sm en X) (a b : Int) : CoSt w s An Ao cn co B7 B8 a b sm en ((X.setCell ⟨w.heap.size + 1, 0, none⟩ (.int .i64 a)).setCell ⟨w.heap.size + 1 + 1, 0, none⟩ (.int .i64 b)) := by
  obtain ⟨h1, h2, h3, h4, h5, h6, h7⟩ := h
  have hK : KeptBut (fun k => k = w.heap.size + 1 ∨ k = w.heap.size + 1 + 1) X ((X.setCell ⟨w.heap.size + 1, 0, none⟩ (.int .i64 a)).setCell ⟨w.heap.size + 1 + 1, 0, none⟩ (.int .i64 b)) := (KeptBut.setCell (S := fun k => k = w.heap.size + 1 ∨ k = w.heap.size + 1 + 1) (.inl rfl) _).trans (KeptBut.setCell (S := fun k => k = w.heap.size + 1 ∨ k = w.heap.size + 1 + 1) (.inr rfl) _) fun _ _ h => h
  refine ⟨h1.trans (hK.below (fun k hk => by omega) h1.size), hK.blk h2 (by omega), ?_, ?_, hK.blk h5 (by omega), hK.blk h6 (by omega), h7⟩
  · exact (Below.heap_setCell _ ⟨w.heap.size + 1 + 1, 0, none⟩ _ (w.heap.size + 1) (by show w.heap.size + 1 ≠ w.heap.size + 1 + 1; omega)).trans (h3.put 0 (.int .i64 a))
  · exact Blk.put ((Below.heap_setCell X ⟨w.heap.size + 1, 0, none⟩ _ (w.heap.size + 1 + 1) (by show w.heap.size + 1 + 1 ≠ w.heap.size + 1; omega)).trans h4) 0 (.int .i64 b)
end
end Go.Proofs.Ytpkepacbondopaa
