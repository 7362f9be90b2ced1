/-
  Bytes that read as a list; regions and loops of a function's text.
-/
import Derived.Test.YtlmpbmlbllndcaaLk
namespace Go.Proofs.Ytlmpbmlbllndcaa
open Go.RowKit

def Bytes (l : List Int) : Prop := ∀ x ∈ l, 0 ≤ x ∧ x ≤ 255
def RBytes (B : Nat) (w : World) (v : Value) (l : List Int) : Prop := Rd B w 1 v l.length (l.map (Value.int .u8))
theorem RBytes.keep {B : Nat} {w w' : World} {v : Value} {l : List Int} (h : RBytes B w v l) (hk : ∀ p : Addr, p.block < B → w'.cell? p = w.cell? p) : RBytes B w' v l := Rd.keep h hk
theorem RBytes.open_ {B : Nat} {w : World} {v : Value} {l : List Int} (h : RBytes B w v l) : ∃ A c, v = .slice A l.length c ∧ l.length ≤ 9223372036854775807 ∧
    ∀ k, k < l.length → ∃ g o, A = some ⟨g, o, none⟩ ∧ g < B ∧ w.cell? ⟨g, o + k, none⟩ = some (.int .u8 (l.getD k 0)) := by
  obtain ⟨A, c, rfl, -, hlm, hr⟩ := h
  refine ⟨A, c, rfl, by simpa [maxLen] using hlm, fun k hk => ?_⟩
  obtain ⟨g, o, hA, hb, hc⟩ := hr (by omega)
  refine ⟨g, o, hA, hb, hc k _ ?_⟩
  rw [List.getElem?_map, List.getElem?_eq_getElem hk, List.getD_eq_getElem?_getD, List.getElem?_eq_getElem hk]
  rfl
def firstRegion : Code → Option Nat
  | .region i _ _ => some i
  | .seq a _ => firstRegion a
  | .cond _ a _ => firstRegion a
  | .loop c => firstRegion c
  | .block _ c => firstRegion c
  | .scope c => firstRegion c
  | _ => none
def loopAt (n : Nat) : Code → Option Code
  | .seq a b => match loopAt n a with
    | some c => some c
    | none => loopAt n b
  | .cond _ a b => match loopAt n a with
    | some c => some c
    | none => loopAt n b
  | .loop c => if firstRegion c = some n then some c else loopAt n c
  | .block _ c => loopAt n c
  | .scope c => loopAt n c
  | _ => none
def regionAt (n : Nat) : Code → Option Code
  | .region i ops d => if i = n then some (.region i ops d) else none
  | .seq a b => match regionAt n a with
    | some c => some c
    | none => regionAt n b
  | .cond _ a b => match regionAt n a with
    | some c => some c
    | none => regionAt n b
  | .loop c => regionAt n c
  | .block _ c => regionAt n c
  | .scope c => regionAt n c
  | .rangeFunc _ _ a c => match regionAt n a with
    | some c => some c
    | none => regionAt n c
  | _ => none
theorem sbelow_al {A W : World} (h : Below A.heap.size A W) (o : Obj) : Below A.heap.size A (W.alloc o) := h.alloc h.size o
theorem ownsRow_own {w : World} {base k n g : Nat} {e : TypeId} {v : Value} {xs : List Value} (h : w.ownsRow base e k v n xs) (hg : v.ownBlock = some g) : base ≤ g ∧ ∃ cs, Blk w g e cs := by
  rcases h.2 with h2 | ⟨g', cap, cur, rfl, hb, hg', -⟩
  · rw [h2.1] at hg; cases hg
  · cases hg
    exact ⟨hb, _, hg'⟩
end Go.Proofs.Ytlmpbmlbllndcaa
