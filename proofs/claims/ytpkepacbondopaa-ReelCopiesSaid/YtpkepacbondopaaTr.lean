/-
  A region that draws its order: a slot is read first, quiet operations follow, and a tail of writes waits for all of them.
-/
import Derived.StillTail
import Derived.StillTactics
import Derived.BigQuiet
namespace Go.Proofs.Ytpkepacbondopaa
open Go

section
variable {P : Program} {ops : Array Oper} {Q : Exit → Act → World → Prop}
/-- What is quiet in one world keeps still there. -/
theorem still_of_quiet {w1 : World} {R : Act → Prop} : ∀ (l : List Oper) (a : Act), wpQuiet P ops (fun X => X = w1) R l a → wpStill P ops w1 R l a
  | [], _, h => h
  | o :: l, a, h => by
    unfold wpQuiet at h
    unfold wpStill
    split
    · rename_i hw
      rw [if_pos hw] at h
      obtain ⟨v, h1, h2⟩ := h
      have h3 := h1 w1 rfl
      unfold Oper.quietAt at h3
      unfold Oper.still
      generalize (execOp a.eval o).run P w1 = r at *
      cases r with
      | ok n w' =>
        cases n <;> simp only [Oper.quietUpon] at h3
        case value u => exact ⟨h3.1, by rw [h3.2]; exact still_of_quiet l _ h2⟩
        case skip => exact ⟨h3.1, by rw [← h3.2]; exact still_of_quiet l _ h2⟩
        case enter f args => exact ⟨h3.1, v, h3.2, still_of_quiet l _ h2⟩
      | halt x w' => simp only [Oper.quietUpon] at h3
    · rename_i hw
      rw [if_neg hw] at h
      exact still_of_quiet l _ h

/-- An operation, what it waits for left aside. -/
def Oper.upto (o : Oper) (l : Array Edge) : Oper := { o with after := l }
/-- Operation number 1 waits for number 0 too. -/
def edged (ops : Array Oper) : Array Oper := ops.modify 1 fun o => Oper.upto o (o.after.push { on := 0, ground := .data })
theorem edged_get (j : Nat) : (edged ops)[j]? = if 1 = j then (ops[j]?).map (fun o => Oper.upto o (o.after.push { on := 0, ground := .data })) else ops[j]? := by
  unfold edged
  rw [Array.getElem?_modify]
theorem edged_size : (edged ops).size = ops.size := by unfold edged; exact Array.size_modify
theorem edged_yielded : yielded (edged ops) = yielded ops := by
  funext t j
  unfold yielded
  have h : ((edged ops)[j]?).bind (·.dst) = (ops[j]?).bind (·.dst) := by
    rw [edged_get]
    split
    · cases ops[j]? <;> rfl
    · rfl
  rw [h]
theorem edged_ready {listed : Array Bool} (h0 : listed.getD 0 false = true) : Region.ready .any (edged ops) listed = Region.ready .any ops listed := by
  unfold Region.ready
  rw [edged_size]
  refine List.filter_congr fun i _ => ?_
  rw [edged_get]
  split
  · cases ops[i]? with
    | none => rfl
    | some o =>
      simp only [Option.map_some, Option.getD_some]
      congr 1
      show (o.after.push _).all _ = _
      simp only [Array.all_push, h0, Bool.or_true, Bool.and_true]
  · rfl
theorem edged_wp {o : Oper} {l : Array Edge} {a : Act} {w : World} {K : Act → World → Prop} : (Oper.upto o l).wp P a w K Q = o.wp P a w K Q := by
  cases o
  rfl
theorem edged_still {o : Oper} {l : Array Edge} {a : Act} {w : World} {K : Act → Prop} : (Oper.upto o l).still P a w K = o.still P a w K := by
  cases o
  rfl
theorem edged_asks {o : Oper} {l : Array Edge} {a : Act} {w : World} : (Oper.upto o l).asks P a w = o.asks P a w := by
  cases o
  rfl
theorem edged_op {i : Nat} {K : Act → World → Prop} {a : Act} {w : World} (h : wpOp P (edged ops) Q i K a w) : wpOp P ops Q i K a w := by
  unfold wpOp at h ⊢
  rw [edged_yielded] at h
  cases ho : ops[i]? with
  | none =>
    have h1 : (edged ops)[i]? = none := by rw [edged_get, ho]; split <;> rfl
    rw [h1] at h
    exact h
  | some o =>
    by_cases hi : 1 = i
    · have h1 : (edged ops)[i]? = some (Oper.upto o (o.after.push { on := 0, ground := .data })) := by rw [edged_get, if_pos hi, ho]; rfl
      rw [h1] at h
      have h2 : if Region.wanted o (yielded ops a.tmps) = true then (Oper.upto o (o.after.push { on := 0, ground := .data })).wp P a w K Q ∨ ((Oper.upto o (o.after.push { on := 0, ground := .data })).asks P a w ∧ LetsOut Q) else K (a.put o.dst undef) w := h
      rw [edged_wp, edged_asks] at h2
      exact h2
    · have h1 : (edged ops)[i]? = some o := by rw [edged_get, if_neg hi, ho]
      rw [h1] at h
      exact h
theorem edged_any : ∀ (f : Nat) (listed : Array Bool) (a : Act) (w : World), listed.getD 0 false = true → wpAny P .any (edged ops) Q f listed a w → wpAny P .any ops Q f listed a w
  | 0, listed, a, w, h0, h => ⟨by rw [← edged_ready h0]; exact h.1, h.2⟩
  | f + 1, listed, a, w, h0, h => by
    refine ⟨fun hr => h.1 (by rw [edged_ready h0]; exact hr), fun i hi => ?_⟩
    rw [← edged_ready h0] at hi
    exact wpOp_mono (fun a' w' h' => edged_any f _ a' w' (getD_set_true h0) h') (edged_op (h.2 i hi))
theorem edged_list : ∀ (l : List Oper) (a : Act) (w : World), wpList P ops Q l a w → wpList P (edged ops) Q l a w
  | [], _, _, h => h
  | o :: l, a, w, h => by
    unfold wpList at *
    rw [edged_yielded]
    split
    · rename_i hw
      rw [if_pos hw] at h
      exact h.imp (Oper.wp_mono (fun a' w' h' => edged_list l a' w' h')) id
    · rename_i hw
      rw [if_neg hw] at h
      exact edged_list l _ _ h
theorem edged_stills {w : World} {R R' : Act → Prop} (hR : ∀ a, R a → R' a) : ∀ (l : List Oper) (a : Act), wpStill P ops w R l a → wpStill P (edged ops) w R' l a
  | [], _, h => hR _ h
  | o :: l, a, h => by
    unfold wpStill at *
    rw [edged_yielded]
    split
    · rename_i hw
      rw [if_pos hw] at h
      exact Oper.still_mono (fun a' h' => edged_stills hR l a' h') h
    · rename_i hw
      rw [if_neg hw] at h
      exact edged_stills hR l _ h

/-- The slot first, then n operations, then the tail. -/
def moveTailB (ops : Array Oper) (n : Nat) : Bool :=
  Region.noSelect ops && Region.free .any ops (Array.replicate ops.size false) 0 && (Region.ready .any ops (Array.replicate ops.size false)).contains 0 && Region.noSelect (edged ops) && decide (n + 2 < ops.size) &&
    Region.sinkB .any (edged ops) (n + 2) && Region.chainB .any (edged ops) (n + 2) && Region.lexHead .any (edged ops) (ops.size - (n + 2)) (n + 1) 1 ((Array.replicate ops.size false).setIfInBounds 0 true)
theorem wp_region_move_tail {id : Nat} {a : Act} {w : World} {o0 o1 : Oper} {l : List Oper} (n : Nat) (x : Operand) (hm : P.follows .mixedOrders = true) (hQ : ∀ c (a : Act) v w, Q (.panic c) (a.put o0.dst v) w → Q (.panic c) a w)
    (hx : o0.op = .move x) (hg : o0.guard = none) (hB : moveTailB (o0 :: o1 :: l).toArray n = true)
    (h : wpStill P (o0 :: o1 :: l).toArray { w with drawn := w.drawn + 1 } (fun a' => wpList P (o0 :: o1 :: l).toArray Q (l.drop n) a' { w with drawn := w.drawn + 1 }) (o1 :: l.take n) (a.put o0.dst (a.eval x))) :
    (Code.region id (o0 :: o1 :: l).toArray true).wp P Q a w := by
  simp only [moveTailB, Bool.and_eq_true, decide_eq_true_eq] at hB
  obtain ⟨⟨⟨⟨⟨⟨⟨h1, h2⟩, h3⟩, h4⟩, h5⟩, h6⟩, h7⟩, h8⟩ := hB
  have hsz : (o0 :: o1 :: l).toArray.size = l.length + 1 + 1 := by simp
  have hn : n < l.length := by rw [hsz] at h5; omega
  refine wp_region_any hm ?_
  rw [hsz] at h2 h3 h5 h8 ⊢
  refine wpAny_take (i := 0) (oi := o0) (v := a.eval x) rfl h1 h2 h3 (fun c a w => hQ c a _ w) (Or.inl ⟨by simp [Region.wanted, hg], fun w => BigFrame.run_move x hx w⟩) ?_
  refine edged_any _ _ _ _ (by simp) ?_
  have htl : (l.take n).length = n := by simp; omega
  have hdl : (l.drop n).length = l.length + 1 + 1 - (n + 2) := by simp
  have hget : ∀ j, j ≠ 1 → (edged (o0 :: o1 :: l).toArray)[j]? = (o0 :: o1 :: l)[j]? := fun j hj => by
    rw [edged_get, if_neg (Ne.symm hj)]
    simp
  have hget1 : (edged (o0 :: o1 :: l).toArray)[1]? = some (Oper.upto o1 (o1.after.push { on := 0, ground := .data })) := by
    rw [edged_get, if_pos rfl]
    rfl
  have inv0 : HeadInv .any (edged (o0 :: o1 :: l).toArray) (n + 2) ((Array.replicate (l.length + 1 + 1) false).setIfInBounds 0 true) := by
    refine ⟨by rw [edged_size, hsz]; simp, fun j oj hj hl e he hb => ?_, fun t ht ht2 => ?_⟩
    · have hj0 : j = 0 := by
        rcases Nat.eq_zero_or_pos j with h9 | h9
        · exact h9
        · rw [getD_set_ne false (by omega), getD_replicate_false] at hl
          cases hl
      subst hj0
      rw [hget 0 (by omega)] at hj
      cases hj
      have hr : (0 : Nat) ∈ Region.ready .any (o0 :: o1 :: l).toArray (Array.replicate (l.length + 1 + 1) false) := by simpa using h3
      obtain ⟨-, o, ho, hall⟩ := mem_ready.1 hr
      cases ho
      have := hall e he hb
      rw [getD_replicate_false] at this
      cases this
    · rw [getD_set_ne true (by omega)]
      exact getD_in (by rw [edged_size, hsz] at ht2; simpa using ht2) (getD_replicate_false _ _)
  have hst : wpStill P (edged (o0 :: o1 :: l).toArray) { w with drawn := w.drawn + 1 } (fun a' => wpList P (edged (o0 :: o1 :: l).toArray) Q (l.drop n) a' { w with drawn := w.drawn + 1 }) (Oper.upto o1 (o1.after.push { on := 0, ground := .data }) :: l.take n) (a.put o0.dst (a.eval x)) := by
    have h9 := edged_stills (R' := fun a' => wpList P (edged (o0 :: o1 :: l).toArray) Q (l.drop n) a' { w with drawn := w.drawn + 1 }) (fun a' h' => edged_list _ _ _ h') _ _ h
    unfold wpStill at h9 ⊢
    rw [edged_still]
    exact h9
  have H := wpAnyL_lex (md := .any) (ops := edged (o0 :: o1 :: l).toArray) (n := n + 2) (g := l.length + 1 + 1 - (n + 2)) h4 h6 h7 (by rw [edged_size, hsz]; omega) (Oper.upto o1 (o1.after.push { on := 0, ground := .data }) :: l.take n) 1 _ _ (fun j hj => by
    simp only [List.length_cons, htl] at hj
    cases j with
    | zero => rw [hget1]; rfl
    | succ j =>
      rw [hget (1 + (j + 1)) (by omega), show 1 + (j + 1) = j + 1 + 1 by omega]
      simp only [List.getElem?_cons_succ]
      rw [List.getElem?_take_of_lt (by omega)]) (by simp only [List.length_cons, htl]; omega) inv0 (by simp only [List.length_cons, htl]; exact h8) hst
  have := wpAny_of_head (Q' := Q) (g := l.length + 1 + 1 - (n + 2)) (fun listed a' hL => by
    have := wpAny_of_seq (md := .any) (Q' := Q) (l.drop n) (n + 2) listed a' { w with drawn := w.drawn + 1 } (fun j => by
      rw [hget (n + 2 + j) (by omega), show n + 2 + j = (n + j) + 1 + 1 by omega]
      simp only [List.getElem?_cons_succ, List.getElem?_drop]) (by rw [hdl]; exact hL.1) hL.2
    rwa [hdl] at this) _ _ _ H
  simp only [List.length_cons, htl] at this
  rw [show n + 1 + (l.length + 1 + 1 - (n + 2)) = l.length + 1 by omega] at this
  exact this
theorem wp_move_tail {id : Nat} {a : Act} {w : World} {o0 o1 : Oper} {l : List Oper} (n : Nat) (x : Operand) (hm : P.follows .mixedOrders = true) (hQ : ∀ c (a : Act) v w, Q (.panic c) (a.put o0.dst v) w → Q (.panic c) a w)
    (hx : o0.op = .move x) (hg : o0.guard = none) (hB : moveTailB (o0 :: o1 :: l).toArray n = true)
    (h : wpQuiet P (o0 :: o1 :: l).toArray (fun X => X = w.drew) (fun a' => wpList P (o0 :: o1 :: l).toArray Q (l.drop n) a' w.drew) (o1 :: l.take n) (a.put o0.dst (a.eval x))) :
    (Code.region id (o0 :: o1 :: l).toArray true).wp P Q a w := wp_region_move_tail n x hm hQ hx hg hB (still_of_quiet _ _ h)
theorem wp_tail {id : Nat} {a : Act} {w : World} {l : List Oper} (n : Nat) (hm : P.follows .mixedOrders = true) (hB : Region.lexTailB .any l.toArray n = true)
    (h : wpQuiet P l.toArray (fun X => X = w.drew) (fun a' => wpList P l.toArray Q (l.drop n) a' w.drew) (l.take n) a) :
    (Code.region id l.toArray true).wp P Q a w := wp_region_still_tail n hm hB (still_of_quiet _ _ h)
end
end Go.Proofs.Ytpkepacbondopaa
