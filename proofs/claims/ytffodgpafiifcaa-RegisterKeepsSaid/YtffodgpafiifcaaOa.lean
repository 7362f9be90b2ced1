/-
  Plain, for desks: copies, desks, queues out of histories; controls side by side in memory.
-/
import Derived.Test.YtffodgpafiifcaaJg
import Derived.Test.YtffodgpafiifcaaCe
import Derived.Test.YtffodgpafiifcaaIc
import Derived.Test.YtffodgpafiifcaaNc
namespace Go.Proofs.Ytffodgpafiifcaa
open Go.RowKit

structure CopyD where
  good : Bool
  shift : Int
  errors : List Int
  moves : List Int
structure DeskD where
  marks : List Int
  W : Int
  loops : List LoopD
  limit : Int
  copies : List CopyD
/-- The corrections of one colour so far. -/
def histD (cs : List CopyD) (i : Nat) : List Int := cs.map fun c => c.moves.getD i 0
/-- The corrections that have not acted yet. -/
def queueD (d : Nat) (ms : List Int) : List Int := (List.replicate d 0 ++ ms).drop ms.length
theorem queueD_len (d : Nat) (ms : List Int) : (queueD d ms).length = d := by simp [queueD]
theorem queueD_nil (d : Nat) : queueD d [] = List.replicate d 0 := by simp [queueD]
theorem queueD_next (d : Nat) (ms : List Int) (m : Int) : ∃ x, queueD d ms ++ [m] = x :: queueD d (ms ++ [m]) := by
  have h : queueD d ms ++ [m] = (List.replicate d 0 ++ (ms ++ [m])).drop ms.length := by
    have h1 : (List.drop ms.length ((List.replicate d 0 ++ ms) ++ [m])) = List.drop ms.length (List.replicate d 0 ++ ms) ++ [m] := List.drop_append_of_le_length (by simp)
    rw [List.append_assoc] at h1
    exact h1.symm
  have hlt : ms.length < (List.replicate d (0 : Int) ++ (ms ++ [m])).length := by simp; omega
  refine ⟨(List.replicate d (0 : Int) ++ (ms ++ [m]))[ms.length], ?_⟩
  rw [h, List.drop_eq_getElem_cons hlt]
  have e : queueD d (ms ++ [m]) = (List.replicate d (0 : Int) ++ (ms ++ [m])).drop (ms.length + 1) := by unfold queueD; rw [List.length_append]; rfl
  rw [e]
theorem sum_app (a b : List Int) : (a ++ b).sum = a.sum + b.sum := by
  induction a with
  | nil => simp
  | cons x a ih => simp only [List.cons_append, List.sum_cons, ih]; omega
theorem sum_rep (n : Nat) : (List.replicate n (0 : Int)).sum = 0 := by
  induction n with
  | zero => rfl
  | succ n ih => rw [List.replicate_succ, List.sum_cons, ih]; rfl
theorem queueD_sum (d : Nat) (ms : List Int) : (queueD d ms).sum = lastSum ms d := by
  unfold queueD lastSum
  rw [List.drop_append, List.drop_replicate, List.length_replicate, sum_app, sum_rep]
  simp
theorem queueD_mem {d : Nat} {ms : List Int} {B : Int} (hB : 0 ≤ B) (h : ∀ y ∈ ms, y ≤ B ∧ -B ≤ y) : ∀ y ∈ queueD d ms, y ≤ B ∧ -B ≤ y := fun y hy => by
  have h1 := List.mem_of_mem_drop hy
  rcases List.mem_append.1 h1 with h1 | h1
  · have := List.eq_of_mem_replicate h1
    omega
  · exact h y h1

/-- The controls of a desk: each in its block, no two of them share a block. -/
structure CtlsAt (base : Nat) (w : World) (loops : List LoopD) (Q : Nat → List Int) (Cs : List Nat) (vs : List Value) : Prop where
  lenC : Cs.length = loops.length
  lenV : vs.length = loops.length
  ctl : ∀ (i : Nat) (l : LoopD) (C : Nat) (v : Value), loops[i]? = some l → Cs[i]? = some C → vs[i]? = some v → Ctl base w C l v (Q i)
  apC : ∀ (i j C : Nat), Cs[i]? = some C → Cs[j]? = some C → i = j
  apV : ∀ (i j : Nat) (v v' : Value) (k : Nat), vs[i]? = some v → vs[j]? = some v' → v.ownBlock = some k → v'.ownBlock = some k → i = j
/-- The blocks that controls write. -/
def CtlF (Cs : List Nat) (vs : List Value) (k : Nat) : Prop := k ∈ Cs ∨ ∃ v ∈ vs, v.ownBlock = some k

section
variable {base : Nat} {w w' : World} {loops : List LoopD} {Q Q' : Nat → List Int} {Cs : List Nat} {vs : List Value} {S : Nat → Prop}
theorem CtlsAt.at (h : CtlsAt base w loops Q Cs vs) {i : Nat} {l : LoopD} (hl : loops[i]? = some l) : ∃ C v, Cs[i]? = some C ∧ vs[i]? = some v ∧ Ctl base w C l v (Q i) := by
  have hi := (List.getElem?_eq_some_iff.1 hl).1
  have l1 : i < Cs.length := by rw [h.lenC]; exact hi
  have l2 : i < vs.length := by rw [h.lenV]; exact hi
  have h1 : Cs[i]? = some Cs[i] := List.getElem?_eq_getElem l1
  have h2 : vs[i]? = some vs[i] := List.getElem?_eq_getElem l2
  exact ⟨_, _, h1, h2, h.ctl i l _ _ hl h1 h2⟩
theorem CtlsAt.same (h : CtlsAt base w loops Q Cs vs) (hq : ∀ i, i < loops.length → Q i = Q' i) : CtlsAt base w loops Q' Cs vs :=
  ⟨h.lenC, h.lenV, fun i l C v hl hC hv => by rw [← hq i (List.getElem?_eq_some_iff.1 hl).1]; exact h.ctl i l C v hl hC hv, h.apC, h.apV⟩
theorem Ctl.keptBut {C : Nat} {l : LoopD} {v : Value} {q : List Int} (h : Ctl base w C l v q) (hk : KeptBut S w w') (h1 : ¬ S C) (h2 : ∀ k, v.ownBlock = some k → ¬ S k) : Ctl base w' C l v q :=
  ⟨h.1, hk.blk h.2.1 h1, h.2.2.keep fun g cs hg hB => hk.blk hB (h2 g hg)⟩
theorem CtlsAt.keep (h : CtlsAt base w loops Q Cs vs) (hk : KeptBut S w w') (hS : ∀ k, CtlF Cs vs k → ¬ S k) : CtlsAt base w' loops Q Cs vs :=
  ⟨h.lenC, h.lenV, fun i l C v hl hC hv => (h.ctl i l C v hl hC hv).keptBut hk (hS C (.inl (List.mem_of_getElem? hC))) fun k hk => hS k (.inr ⟨v, List.mem_of_getElem? hv, hk⟩), h.apC, h.apV⟩
theorem CtlsAt.lt (h : CtlsAt base w loops Q Cs vs) {k : Nat} (hk : CtlF Cs vs k) : base ≤ k ∧ k < w.heap.size := by
  rcases hk with hk | ⟨v, hv, hk⟩
  · obtain ⟨i, hi, rfl⟩ := List.getElem_of_mem hk
    have hi' : i < loops.length := by rw [← h.lenC]; exact hi
    obtain ⟨C, v, hC, hv, hc⟩ := h.at (List.getElem?_eq_getElem hi')
    rw [List.getElem?_eq_getElem hi] at hC
    cases hC
    exact ⟨hc.1, hc.2.1.lt⟩
  · obtain ⟨i, hi, rfl⟩ := List.getElem_of_mem hv
    have hi' : i < loops.length := by rw [← h.lenV]; exact hi
    obtain ⟨C, v, hC, hv, hc⟩ := h.at (List.getElem?_eq_getElem hi')
    rw [List.getElem?_eq_getElem hi] at hv
    cases hv
    obtain ⟨h1, h2, -⟩ := hc.2.2.block k hk
    exact ⟨h1, h2⟩
theorem get_set {α : Type} {l : List α} {i j : Nat} {x y : α} (h : (l.set i x)[j]? = some y) : (j = i ∧ y = x) ∨ (j ≠ i ∧ l[j]? = some y) := by
  rw [List.getElem?_set] at h
  by_cases e : i = j
  · rw [if_pos e] at h
    split at h
    · exact .inl ⟨e.symm, by cases h; rfl⟩
    · cases h
  · rw [if_neg e] at h
    exact .inr ⟨fun e' => e e'.symm, h⟩
/-- One control has been at work. -/
theorem CtlsAt.step (h : CtlsAt base w loops Q Cs vs) {i C : Nat} {l : LoopD} {v v' : Value} {q' : List Int} (hl : loops[i]? = some l) (hC : Cs[i]? = some C) (hv : vs[i]? = some v)
    (hk : CtlKept C v v' w w') (hc : Ctl base w' C l v' q') : CtlsAt base w' loops (fun j => if j = i then q' else Q j) Cs (vs.set i v') := by
  have h0 := h.ctl i l C v hl hC hv
  have hown : ∀ (j k : Nat) (u : Value), vs[j]? = some u → u.ownBlock = some k → k < w.heap.size := fun j k u hu hk => (h.lt (.inr ⟨u, List.mem_of_getElem? hu, hk⟩)).2
  refine ⟨h.lenC, by rw [List.length_set]; exact h.lenV, fun j lj Cj vj hlj hCj hvj => ?_, h.apC, fun a b u u' k ha hb hu hu' => ?_⟩
  · rcases get_set hvj with ⟨rfl, rfl⟩ | ⟨hne, hvj'⟩
    · rw [hl] at hlj
      rw [hC] at hCj
      cases hlj
      cases hCj
      rw [if_pos rfl]
      exact hc
    · rw [if_neg hne]
      have hj := h.ctl j lj Cj vj hlj hCj hvj'
      refine hj.keptBut hk.1 (fun hs => ?_) fun k hkk hs => ?_
      · rcases hs with rfl | hs
        · exact hne (h.apC j i _ hCj hC)
        · obtain ⟨-, -, cs, hB⟩ := h0.2.2.block Cj hs.symm
          exact Blk.ne hB hj.2.1 (by decide) rfl
      · obtain ⟨-, -, cs, hB⟩ := hj.2.2.block k hkk
        rcases hs with rfl | hs
        · exact Blk.ne hB h0.2.1 (by decide) rfl
        · exact hne (h.apV j i vj v k hvj' hv hkk hs.symm)
  · have key : ∀ (b k : Nat) (u' : Value), b ≠ i → vs[b]? = some u' → v'.ownBlock = some k → u'.ownBlock = some k → False := fun b k u' hne hb hu hu' => by
      rcases hk.2 with h2 | ⟨m, h2, h3⟩
      · rw [h2] at hu
        exact hne (h.apV b i u' v k hb hv hu' hu)
      · rw [h2] at hu
        cases hu
        have := hown b k u' hb hu'
        omega
    rcases get_set ha with ⟨rfl, rfl⟩ | ⟨hna, ha'⟩ <;> rcases get_set hb with ⟨rfl, rfl⟩ | ⟨hnb, hb'⟩
    · rfl
    · exact (key b k u' hnb hb' hu hu').elim
    · exact (key a k u hna ha' hu' hu).elim
    · exact h.apV a b u u' k ha' hb' hu hu'
theorem ctlF_set {Cs : List Nat} {vs : List Value} {i C k : Nat} {v v' : Value} (hC : Cs[i]? = some C) (hv : vs[i]? = some v) (hk : CtlKept C v v' w w') (h : CtlF Cs (vs.set i v') k) : CtlF Cs vs k ∨ w.heap.size ≤ k := by
  rcases h with h | ⟨u, hu, hk2⟩
  · exact .inl (.inl h)
  · obtain ⟨j, hj, rfl⟩ := List.getElem_of_mem hu
    rcases get_set (List.getElem?_eq_getElem hj) with ⟨-, e⟩ | ⟨-, e⟩
    · rw [e] at hk2
      rcases hk.2 with h2 | ⟨m, h2, h3⟩
      · exact .inl (.inr ⟨v, List.mem_of_getElem? hv, by rw [← h2]; exact hk2⟩)
      · rw [h2] at hk2
        cases hk2
        exact .inr h3
    · exact .inl (.inr ⟨_, List.mem_of_getElem? e, hk2⟩)
theorem ctlKept_F {Cs : List Nat} {vs : List Value} {i C : Nat} {v v' : Value} (hC : Cs[i]? = some C) (hv : vs[i]? = some v) (hk : CtlKept C v v' w w') : KeptBut (CtlF Cs vs) w w' :=
  hk.1.mono fun k _ hs => by
    rcases hs with rfl | hs
    · exact .inl (List.mem_of_getElem? hC)
    · exact .inr ⟨v, List.mem_of_getElem? hv, hs.symm⟩
end
end Go.Proofs.Ytffodgpafiifcaa
