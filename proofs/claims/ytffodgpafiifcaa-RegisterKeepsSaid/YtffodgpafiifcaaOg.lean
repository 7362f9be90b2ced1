/-
  A desk after a reading: what the steps of Read leave, put together.
-/
import Derived.Test.YtffodgpafiifcaaOe
namespace Go.Proofs.Ytffodgpafiifcaa
open Go.RowKit

/-- Where Read stands when the errors are known. -/
def ReadCut (d : DeskD) (l : List Int) (s ct : Int) (w3 : World) (b8 : Nat) (s7 : Value) (X : World) : Prop :=
  ∃ (g : Bool) (sh code : Int) (errs : List Int) (ve : Value), s7 = .int .i64 code ∧
    ((BadFit d l ct ∧ g = false ∧ sh = 0 ∧ errs = List.replicate d.loops.length lostD ∧ code = 4) ∨ (¬ BadFit d l ct ∧ g = decide (farD errs ≤ d.limit) ∧ sh = s ∧ errs = errsD d.marks l d.loops.length ∧ code = 0)) ∧
    errs.length = d.loops.length ∧ (∀ x ∈ errs, x ≤ 1000000000000 ∧ -1000000000000 ≤ x) ∧ Blk X b8 72 #[.bool g, .int .i64 sh, ve, .slice none 0 0] ∧ OInts w3.heap.size X ve errs ∧ Below w3.heap.size w3 X
section
variable {base D : Nat} {W X Z : World} {d : DeskD} {mv cv pv : Value} {Cs : List Nat} {vs vs' : List Value} {es : List (Value × Value)}
theorem desk_read (h : DeskAt base W D d mv cv pv Cs vs es) {g : Bool} {sh : Int} {errs : List Int} {ve um : Value} {gp cap n : Nat} {cs : Array Value}
    (hn : d.copies.length = n)
    (hk : KeptBut (fun k => CtlF Cs vs k ∨ W.heap.size ≤ k) W X) (hct : CtlsAt base X d.loops (Qd (d.add (readWith d g sh errs))) Cs vs')
    (hfoot : ∀ j, CtlF Cs vs' j → CtlF Cs vs j ∨ W.heap.size ≤ j) (hve : OInts W.heap.size X ve errs) (hum : OInts W.heap.size X um (movesD d.loops (Qd d) errs))
    (hap : ∀ k, (ve.ownBlock = some k ∨ um.ownBlock = some k) → ¬ CtlF Cs vs' k)
    (hrow : Z.ownsRow base 72 4 (.slice (some ⟨gp, 0, none⟩) (n + 1) cap) (n + 1) (rowsC d.copies es ++ [.bool g, .int .i64 sh, ve, um]))
    (hgrow : (X.alloc (.cells cs 72)).grownBy Z pv.ownBlock) (hat : pv.ownBlock = some gp ∨ gp = X.heap.size + 1) :
    DeskAt base (Z.setCell ⟨D, 5, none⟩ (.slice (some ⟨gp, 0, none⟩) (n + 1) cap)) D (d.add (readWith d g sh errs)) mv cv (.slice (some ⟨gp, 0, none⟩) (n + 1) cap) Cs vs' (es ++ [(ve, um)]) ∧
    KeptBut (fun k => Foot D mv cv pv Cs vs es k ∨ W.heap.size ≤ k) W (Z.setCell ⟨D, 5, none⟩ (.slice (some ⟨gp, 0, none⟩) (n + 1) cap)) ∧
    (∀ k, Foot D mv cv (.slice (some ⟨gp, 0, none⟩) (n + 1) cap) Cs vs' (es ++ [(ve, um)]) k → Foot D mv cv pv Cs vs es k ∨ W.heap.size ≤ k) ∧
    OInts W.heap.size (Z.setCell ⟨D, 5, none⟩ (.slice (some ⟨gp, 0, none⟩) (n + 1) cap)) ve errs ∧ OInts W.heap.size (Z.setCell ⟨D, 5, none⟩ (.slice (some ⟨gp, 0, none⟩) (n + 1) cap)) um (movesD d.loops (Qd d) errs) := by
  have hDl := h.desk.lt
  -- what X keeps of W
  have hX : ∀ {b k m : Nat} {e : TypeId} {v : Value} {xs : List Value}, W.ownsRow b e k v m xs → (∀ j, v.ownBlock = some j → ¬ CtlF Cs vs j) → X.ownsRow b e k v m xs := fun hr hv =>
    ownsRow_keep hr hk fun j hj hs => by
      rcases hs with hs | hs
      · exact hv j hj hs
      · have := (hr.lt j hj).2
        omega
  have hDF : ¬ CtlF Cs vs D := h.ctls.notF h.desk (by decide) (by decide)
  have hdX : Blk X D 90 (deskCells D d mv cv pv) := hk.blk h.desk fun hs => by
    rcases hs with hs | hs
    · exact hDF hs
    · omega
  have hcvF : ∀ j, cv.ownBlock = some j → ¬ CtlF Cs vs j := fun j hj => by
    rcases h.ptrs.2 with ⟨rfl, -⟩ | ⟨g', c', cur, rfl, -, hB, -⟩
    · cases hj
    · obtain rfl : g' = j := by injection hj
      exact h.ctls.notF (t := 108) (cs := cur) hB (by decide) (by decide)
  have hpvF : ∀ j, pv.ownBlock = some j → ¬ CtlF Cs vs j := fun j hj => by
    rcases h.rows.2 with ⟨rfl, -⟩ | ⟨g', c', cur, rfl, -, hB, -⟩
    · cases hj
    · obtain rfl : g' = j := by injection hj
      exact h.ctls.notF (t := 72) (cs := cur) hB (by decide) (by decide)
  have hmX := hX h.marks fun j hj => h.apart j (.inl hj)
  have hpX := hX h.ptrs hcvF
  have hrX := hX h.rows hpvF
  have heX : ∀ (i : Nat) (c : CopyD) (e : Value × Value), d.copies[i]? = some c → es[i]? = some e → OInts base X e.1 c.errors ∧ OInts base X e.2 c.moves := fun i c e hc he =>
    ⟨hX (h.each i c e hc he).1 fun j hj => h.apart j (.inr ⟨e, List.mem_of_getElem? he, .inl hj⟩), hX (h.each i c e hc he).2 fun j hj => h.apart j (.inr ⟨e, List.mem_of_getElem? he, .inr hj⟩)⟩
  -- the append and the store: blocks of other types stand
  have hgr : Grew 72 X Z := (Grew.of_below (below_alloc X _)).trans fun b cs' t fr hc hne => by
    refine hgrow.block b (Array.getElem?_eq_some_iff.1 hc).1 fun he => ?_
    rcases hrX.2 with ⟨rfl, -⟩ | ⟨g', c', cur, rfl, -, hB, -⟩
    · cases he
    · obtain rfl : b = g' := by injection he
      have h9 := (Below.heap_alloc X (.cells cs 72) b (Array.getElem?_eq_some_iff.1 hB).1).trans hB
      rw [h9] at hc
      injection hc with hc
      injection hc with hc1 hc2
      exact hne hc2.symm
  have hdZ : Blk Z D 90 (deskCells D d mv cv pv) := hdX.grew hgr (by decide)
  have hgs : ∀ u, Grew 90 Z (Z.setCell ⟨D, 5, none⟩ u) := fun u => Grew.set hdZ 5 u
  have hI : ∀ {b : Nat} {v : Value} {xs : List Int} (u : Value), OInts b X v xs → OInts b (Z.setCell ⟨D, 5, none⟩ u) v xs := fun u hr => ownsRow_grew (ownsRow_grew hr hgr (by decide)) (hgs u) (by decide)
  have hsz : W.heap.size ≤ X.heap.size := hk.size
  have hpv' : ∀ k, (Value.slice (some ⟨gp, 0, none⟩) (n + 1) cap).ownBlock = some k → pv.ownBlock = some k ∨ W.heap.size ≤ k := fun k hk' => by
    obtain rfl : gp = k := by injection hk'
    rcases hat with hat | hat
    · exact .inl hat
    · exact .inr (by omega)
  have hKZ : KeptBut (fun k => pv.ownBlock = some k) X Z := (KeptBut.of_below (below_alloc X _)).trans (KeptBut.grown (S := fun k => pv.ownBlock = some k) hgrow fun k hk => hk.symm) fun i _ hi => hi
  refine ⟨⟨h.low, ?_, hI _ hmX, ?_, ?_, ?_, ?_, fun i c e hc he => ?_, fun k hk' hf => ?_⟩, ?_, fun k hk' => ?_, hI _ hve, hI _ hum⟩
  · have := hdZ.put 5 (.slice (some ⟨gp, 0, none⟩) (n + 1) cap)
    exact this
  · exact ownsRow_grew (ownsRow_grew hpX hgr (by decide)) (hgs _) (by decide)
  · refine (hct.keep hKZ fun k hk' he => ?_).keep (S := fun k => k = D) (KeptBut.setCell (S := fun k => k = D) (p := ⟨D, 5, none⟩) rfl _) fun k hk' he => ?_
    · rcases hrX.2 with ⟨rfl, -⟩ | ⟨g', c', cur, rfl, -, hB, -⟩
      · cases he
      · obtain rfl : g' = k := by injection he
        exact hct.notF (t := 72) (cs := cur) hB (by decide) (by decide) hk'
    · subst he
      exact hct.notF hdX (by decide) (by decide) hk'
  · have h9 : (Z.setCell ⟨D, 5, none⟩ (.slice (some ⟨gp, 0, none⟩) (n + 1) cap)).ownsRow base 72 4 (.slice (some ⟨gp, 0, none⟩) (n + 1) cap) (n + 1) (rowsC d.copies es ++ [.bool g, .int .i64 sh, ve, um]) := ownsRow_grew hrow (hgs _) (by decide)
    have h8 : (d.add (readWith d g sh errs)).copies.length = n + 1 := by
      unfold DeskD.add
      rw [List.length_append, hn]
      rfl
    rw [h8]
    have h7 : rowsC (d.add (readWith d g sh errs)).copies (es ++ [(ve, um)]) = rowsC d.copies es ++ [.bool g, .int .i64 sh, ve, um] := rowsC_snoc h.len (readWith d g sh errs) (ve, um)
    rw [h7]
    exact h9
  · unfold DeskD.add
    rw [List.length_append, List.length_append, h.len]
    rfl
  · rcases snoc_get (show (d.copies ++ [readWith d g sh errs])[i]? = some c from hc) with ⟨hi, hc'⟩ | ⟨hi, rfl⟩
    · have he' : es[i]? = some e := by rwa [List.getElem?_append_left (by rw [h.len]; exact hi)] at he
      obtain ⟨a1, a2⟩ := heX i c e hc' he'
      exact ⟨hI _ a1, hI _ a2⟩
    · have he' : e = (ve, um) := by
        rw [hi, ← h.len, List.getElem?_concat_length] at he
        cases he
        rfl
      subst he'
      have hz : base ≤ W.heap.size := by have := h.low; omega
      exact ⟨hI _ (ownsRow_base hve hz), hI _ (ownsRow_base hum hz)⟩
  · rcases hk' with hk' | ⟨e, he, hk'⟩
    · rcases hfoot k hf with h9 | h9
      · exact h.apart k (.inl hk') h9
      · have := (h.marks.lt k hk').2
        omega
    · rcases List.mem_append.1 he with he | he
      · rcases hfoot k hf with h9 | h9
        · exact h.apart k (.inr ⟨e, he, hk'⟩) h9
        · obtain ⟨c, -, a1, a2⟩ := h.each_at he
          rcases hk' with hk' | hk'
          · have := (a1.lt k hk').2
            omega
          · have := (a2.lt k hk').2
            omega
      · rw [List.mem_singleton] at he
        subst he
        exact hap k hk' hf
  · have k1 : KeptBut (fun k => Foot D mv cv pv Cs vs es k ∨ W.heap.size ≤ k) W X := hk.mono fun i hi hs => by
      rcases hs with hs | hs
      · exact .inl (.inr (.inr (.inr (.inr hs))))
      · exact .inr hs
    have k2 := k1.trans hKZ fun i hi hs => .inl (.inr (.inr (.inl hs)))
    exact k2.trans (KeptBut.setCell (S := fun k => k = D) (p := ⟨D, 5, none⟩) rfl _) fun i hi hs => .inl (.inl hs)
  · rcases hk' with hk' | hk' | hk' | (hk' | ⟨e, he, hk'⟩) | hk'
    · exact .inl (.inl hk')
    · exact .inl (.inr (.inl hk'))
    · rcases hpv' k hk' with h9 | h9
      · exact .inl (.inr (.inr (.inl h9)))
      · exact .inr h9
    · exact .inl (.inr (.inr (.inr (.inl (.inl hk')))))
    · rcases List.mem_append.1 he with he | he
      · exact .inl (.inr (.inr (.inr (.inl (.inr ⟨e, he, hk'⟩)))))
      · rw [List.mem_singleton] at he
        subst he
        rcases hk' with hk' | hk'
        · exact .inr (hve.lt k hk').1
        · exact .inr (hum.lt k hk').1
    · rcases hfoot k hk' with h9 | h9
      · exact .inl (.inr (.inr (.inr (.inr h9))))
      · exact .inr h9
end
end Go.Proofs.Ytffodgpafiifcaa
