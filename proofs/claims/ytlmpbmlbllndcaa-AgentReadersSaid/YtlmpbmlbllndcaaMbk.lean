/-
  subscriber: a copy, and the reference's.
-/
import Derived.Test.YtlmpbmlbllndcaaMbg
import Derived.Test.YtlmpbmlbllndcaaMbj
namespace Go.Proofs.Ytlmpbmlbllndcaa
open Go.RowKit
attribute [local go_sem] Oper.semAt_some

def set5 (X : World) (p : Nat) (x0 x1 x2 x3 x4 : Value) : World := ((((X.setCell ⟨p, 0, none⟩ x0).setCell ⟨p, 1, none⟩ x1).setCell ⟨p, 2, none⟩ x2).setCell ⟨p, 3, none⟩ x3).setCell ⟨p, 4, none⟩ x4
theorem set5_kept (X : World) (p : Nat) (x0 x1 x2 x3 x4 : Value) : KeptBut (fun g => g = p) X (set5 X p x0 x1 x2 x3 x4) :=
  ((((KeptBut.setCell (S := fun g => g = p) rfl _).trans (KeptBut.setCell (S := fun g => g = p) rfl _) fun _ _ h => h).trans (KeptBut.setCell (S := fun g => g = p) rfl _) fun _ _ h => h).trans (KeptBut.setCell (S := fun g => g = p) rfl _) fun _ _ h => h).trans (KeptBut.setCell (S := fun g => g = p) rfl _) fun _ _ h => h
theorem set5_blk {X : World} {p : Nat} {t : TypeId} {z0 z1 z2 z3 z4 : Value} (h : Blk X p t #[z0, z1, z2, z3, z4]) (x0 x1 x2 x3 x4 : Value) : Blk (set5 X p x0 x1 x2 x3 x4) p t #[x0, x1, x2, x3, x4] := ((((h.put 0 x0).put 1 x1).put 2 x2).put 3 x3).put 4 x4
/-- What lies there while a subscriber is copied: the argument, the copy, the results. -/
structure SuSt (w : World) (p : Nat) (i f t d h u r0 r1 r2 r3 r4 : Value) (X : World) : Prop where
  low : Below w.heap.size w X
  src : Blk X p 42 #[i, f, t, d, h]
  cpy : Blk X (p + 3) 42 #[i, f, t, d, u]
  own : Blk X (p + 1) 42 #[r0, r1, r2, r3, r4]
  ref : Blk X (p + 1 + 1) 126 #[.int .i64 0, .int .i64 0, .int .i64 0, .int .i64 0, .slice none 0 0]
theorem SuSt.below {w X Y : World} {p : Nat} {i f t d h u r0 r1 r2 r3 r4 : Value} (s : SuSt w p i f t d h u r0 r1 r2 r3 r4 X) (hb : Below X.heap.size X Y) : SuSt w p i f t d h u r0 r1 r2 r3 r4 Y :=
  ⟨s.low.trans (hb.mono s.low.size), s.src.below hb s.src.lt, s.cpy.below hb s.cpy.lt, s.own.below hb s.own.lt, s.ref.below hb s.ref.lt⟩
theorem SuSt.put {w X : World} {p : Nat} {i f t d h u r0 r1 r2 r3 r4 : Value} (hp : w.heap.size = p) (s : SuSt w p i f t d h u r0 r1 r2 r3 r4 X) : SuSt w p i f t d h u i f t d u (set5 X (p + 1) i f t d u) :=
  ⟨s.low.trans ((set5_kept X (p + 1) i f t d u).below (fun g hg => by rw [hg, hp]; omega) s.low.size), (set5_kept X (p + 1) i f t d u).blk s.src (by omega), (set5_kept X (p + 1) i f t d u).blk s.cpy (by omega), set5_blk s.own i f t d u, (set5_kept X (p + 1) i f t d u).blk s.ref (by omega)⟩
/-- What the walk reads of it. -/
def SuC (p : Nat) (i f t d h u r0 r1 r2 r3 r4 : Value) (X : World) : Prop :=
  (X.cell? ⟨p, 0, none⟩ = some i ∧ X.cell? ⟨p, 1, none⟩ = some f ∧ X.cell? ⟨p, 2, none⟩ = some t ∧ X.cell? ⟨p, 3, none⟩ = some d ∧ X.cell? ⟨p, 4, none⟩ = some h) ∧
  (X.cell? ⟨p + 3, 0, none⟩ = some i ∧ X.cell? ⟨p + 3, 1, none⟩ = some f ∧ X.cell? ⟨p + 3, 2, none⟩ = some t ∧ X.cell? ⟨p + 3, 3, none⟩ = some d ∧ X.cell? ⟨p + 3, 4, none⟩ = some u) ∧
  (X.cell? ⟨p + 1, 0, none⟩ = some r0 ∧ X.cell? ⟨p + 1, 1, none⟩ = some r1 ∧ X.cell? ⟨p + 1, 2, none⟩ = some r2 ∧ X.cell? ⟨p + 1, 3, none⟩ = some r3 ∧ X.cell? ⟨p + 1, 4, none⟩ = some r4) ∧
  (X.cell? ⟨p + 1 + 1, 0, none⟩ = some (.int .i64 0) ∧ X.cell? ⟨p + 1 + 1, 1, none⟩ = some (.int .i64 0) ∧ X.cell? ⟨p + 1 + 1, 2, none⟩ = some (.int .i64 0) ∧ X.cell? ⟨p + 1 + 1, 3, none⟩ = some (.int .i64 0) ∧ X.cell? ⟨p + 1 + 1, 4, none⟩ = some (.slice none 0 0)) ∧
  (X.frozen? ⟨p + 1, 0, none⟩ = false ∧ X.frozen? ⟨p + 1, 1, none⟩ = false ∧ X.frozen? ⟨p + 1, 2, none⟩ = false ∧ X.frozen? ⟨p + 1, 3, none⟩ = false ∧ X.frozen? ⟨p + 1, 4, none⟩ = false) ∧
  (X.frozen? ⟨p + 1 + 1, 0, none⟩ = false ∧ X.frozen? ⟨p + 1 + 1, 1, none⟩ = false ∧ X.frozen? ⟨p + 1 + 1, 2, none⟩ = false ∧ X.frozen? ⟨p + 1 + 1, 3, none⟩ = false ∧ X.frozen? ⟨p + 1 + 1, 4, none⟩ = false)
theorem SuSt.c {w X : World} {p : Nat} {i f t d h u r0 r1 r2 r3 r4 : Value} (s : SuSt w p i f t d h u r0 r1 r2 r3 r4 X) : SuC p i f t d h u r0 r1 r2 r3 r4 X :=
  ⟨⟨cellOf s.src 0 rfl, cellOf s.src 1 rfl, cellOf s.src 2 rfl, cellOf s.src 3 rfl, cellOf s.src 4 rfl⟩, ⟨cellOf s.cpy 0 rfl, cellOf s.cpy 1 rfl, cellOf s.cpy 2 rfl, cellOf s.cpy 3 rfl, cellOf s.cpy 4 rfl⟩,
   ⟨cellOf s.own 0 rfl, cellOf s.own 1 rfl, cellOf s.own 2 rfl, cellOf s.own 3 rfl, cellOf s.own 4 rfl⟩, ⟨cellOf s.ref 0 rfl, cellOf s.ref 1 rfl, cellOf s.ref 2 rfl, cellOf s.ref 3 rfl, cellOf s.ref 4 rfl⟩,
   ⟨s.own.frozen 0, s.own.frozen 1, s.own.frozen 2, s.own.frozen 3, s.own.frozen 4⟩, ⟨s.ref.frozen 0, s.ref.frozen 1, s.ref.frozen 2, s.ref.frozen 3, s.ref.frozen 4⟩⟩
def OSp (b : Nat) (X : World) (v : Value) (l : List SpanD) : Prop := X.ownsRow b 87 2 v l.length (l.flatMap SpanD.cells)
theorem OSp.kept {b : Nat} {X Y : World} {v : Value} {l : List SpanD} {S : Nat → Prop} (h : OSp b X v l) (hk : KeptBut S X Y) (hS : ∀ g, S g → g < b) : OSp b Y v l :=
  ownsRow_keptBut h hk fun j cs hv _ e => by
    have h1 := (ownsRow_own h hv).1
    have h2 := hS j e
    omega
theorem OSp.below {b : Nat} {X Y : World} {v : Value} {l : List SpanD} (h : OSp b X v l) (hb : Below X.heap.size X Y) : OSp b Y v l := ownsRow_below h hb
theorem OSp.base {b b' : Nat} {X : World} {v : Value} {l : List SpanD} (h : OSp b' X v l) (hb : b ≤ b') : OSp b X v l := ownsRow_base h hb
theorem OSp.reads {b : Nat} {X : World} {v : Value} {l : List SpanD} (h : OSp b X v l) : RSpans X.heap.size X v l := Rd.own h (own_le h)
theorem SuSt.drew {w X : World} {p : Nat} {i f t d h u r0 r1 r2 r3 r4 : Value} (s : SuSt w p i f t d h u r0 r1 r2 r3 r4 X) : SuSt w p i f t d h u r0 r1 r2 r3 r4 X.drew := s.below (Below.refl _ _).drew
theorem SuSt.loads {w X : World} {p : Nat} {i f t d h u r0 r1 r2 r3 r4 : Value} (s : SuSt w p i f t d h u r0 r1 r2 r3 r4 X) : (X.cell? ⟨p, 0, none⟩ = some i ∧ X.cell? ⟨p, 1, none⟩ = some f ∧ X.cell? ⟨p, 2, none⟩ = some t ∧ X.cell? ⟨p, 3, none⟩ = some d ∧ X.cell? ⟨p, 4, none⟩ = some h) ∧ (X.cell? ⟨p + 3, 0, none⟩ = some i ∧ X.cell? ⟨p + 3, 1, none⟩ = some f ∧ X.cell? ⟨p + 3, 2, none⟩ = some t ∧ X.cell? ⟨p + 3, 3, none⟩ = some d ∧ X.cell? ⟨p + 3, 4, none⟩ = some u) := ⟨s.c.1, s.c.2.1⟩
theorem su_after {w y : World} {p : Nat} {i f t d h u r0 r1 r2 r3 r4 : Value} (hp : w.heap.size = p) (s : SuSt w p i f t d h u r0 r1 r2 r3 r4 y) (u2 : Value) :
    ((y.cell? ⟨p + 1, 0, none⟩ = some r0 ∧ y.cell? ⟨p + 1, 1, none⟩ = some r1 ∧ y.cell? ⟨p + 1, 2, none⟩ = some r2 ∧ y.cell? ⟨p + 1, 3, none⟩ = some r3 ∧ y.cell? ⟨p + 1, 4, none⟩ = some r4) ∧ (y.frozen? ⟨p + 1, 0, none⟩ = false ∧ y.frozen? ⟨p + 1, 1, none⟩ = false ∧ y.frozen? ⟨p + 1, 2, none⟩ = false ∧ y.frozen? ⟨p + 1, 3, none⟩ = false ∧ y.frozen? ⟨p + 1, 4, none⟩ = false)) ∧ ((y.cell? ⟨p + 1 + 1, 0, none⟩ = some (.int .i64 0) ∧ y.cell? ⟨p + 1 + 1, 1, none⟩ = some (.int .i64 0) ∧ y.cell? ⟨p + 1 + 1, 2, none⟩ = some (.int .i64 0) ∧ y.cell? ⟨p + 1 + 1, 3, none⟩ = some (.int .i64 0) ∧ y.cell? ⟨p + 1 + 1, 4, none⟩ = some (.slice none 0 0)) ∧ (y.frozen? ⟨p + 1 + 1, 0, none⟩ = false ∧ y.frozen? ⟨p + 1 + 1, 1, none⟩ = false ∧ y.frozen? ⟨p + 1 + 1, 2, none⟩ = false ∧ y.frozen? ⟨p + 1 + 1, 3, none⟩ = false ∧ y.frozen? ⟨p + 1 + 1, 4, none⟩ = false)) ∧
    (((((((y.setCell ⟨p + 1, 0, none⟩ i).setCell ⟨p + 1, 1, none⟩ f).setCell ⟨p + 1, 2, none⟩ t).setCell ⟨p + 1, 3, none⟩ d).setCell ⟨p + 1, 4, none⟩ u).cell? ⟨p + 1 + 1, 0, none⟩ = some (.int .i64 0) ∧ (((((y.setCell ⟨p + 1, 0, none⟩ i).setCell ⟨p + 1, 1, none⟩ f).setCell ⟨p + 1, 2, none⟩ t).setCell ⟨p + 1, 3, none⟩ d).setCell ⟨p + 1, 4, none⟩ u).cell? ⟨p + 1 + 1, 1, none⟩ = some (.int .i64 0) ∧ (((((y.setCell ⟨p + 1, 0, none⟩ i).setCell ⟨p + 1, 1, none⟩ f).setCell ⟨p + 1, 2, none⟩ t).setCell ⟨p + 1, 3, none⟩ d).setCell ⟨p + 1, 4, none⟩ u).cell? ⟨p + 1 + 1, 2, none⟩ = some (.int .i64 0) ∧ (((((y.setCell ⟨p + 1, 0, none⟩ i).setCell ⟨p + 1, 1, none⟩ f).setCell ⟨p + 1, 2, none⟩ t).setCell ⟨p + 1, 3, none⟩ d).setCell ⟨p + 1, 4, none⟩ u).cell? ⟨p + 1 + 1, 3, none⟩ = some (.int .i64 0) ∧ (((((y.setCell ⟨p + 1, 0, none⟩ i).setCell ⟨p + 1, 1, none⟩ f).setCell ⟨p + 1, 2, none⟩ t).setCell ⟨p + 1, 3, none⟩ d).setCell ⟨p + 1, 4, none⟩ u).cell? ⟨p + 1 + 1, 4, none⟩ = some (.slice none 0 0)) ∧ ((((((y.setCell ⟨p + 1, 0, none⟩ i).setCell ⟨p + 1, 1, none⟩ f).setCell ⟨p + 1, 2, none⟩ t).setCell ⟨p + 1, 3, none⟩ d).setCell ⟨p + 1, 4, none⟩ u).frozen? ⟨p + 1 + 1, 0, none⟩ = false ∧ (((((y.setCell ⟨p + 1, 0, none⟩ i).setCell ⟨p + 1, 1, none⟩ f).setCell ⟨p + 1, 2, none⟩ t).setCell ⟨p + 1, 3, none⟩ d).setCell ⟨p + 1, 4, none⟩ u).frozen? ⟨p + 1 + 1, 1, none⟩ = false ∧ (((((y.setCell ⟨p + 1, 0, none⟩ i).setCell ⟨p + 1, 1, none⟩ f).setCell ⟨p + 1, 2, none⟩ t).setCell ⟨p + 1, 3, none⟩ d).setCell ⟨p + 1, 4, none⟩ u).frozen? ⟨p + 1 + 1, 2, none⟩ = false ∧ (((((y.setCell ⟨p + 1, 0, none⟩ i).setCell ⟨p + 1, 1, none⟩ f).setCell ⟨p + 1, 2, none⟩ t).setCell ⟨p + 1, 3, none⟩ d).setCell ⟨p + 1, 4, none⟩ u).frozen? ⟨p + 1 + 1, 3, none⟩ = false ∧ (((((y.setCell ⟨p + 1, 0, none⟩ i).setCell ⟨p + 1, 1, none⟩ f).setCell ⟨p + 1, 2, none⟩ t).setCell ⟨p + 1, 3, none⟩ d).setCell ⟨p + 1, 4, none⟩ u).frozen? ⟨p + 1 + 1, 4, none⟩ = false)) ∧ (((((((y.setCell ⟨p + 1 + 1, 0, none⟩ i).setCell ⟨p + 1 + 1, 1, none⟩ f).setCell ⟨p + 1 + 1, 2, none⟩ t).setCell ⟨p + 1 + 1, 3, none⟩ d).setCell ⟨p + 1 + 1, 4, none⟩ u2).cell? ⟨p + 1, 0, none⟩ = some r0 ∧ (((((y.setCell ⟨p + 1 + 1, 0, none⟩ i).setCell ⟨p + 1 + 1, 1, none⟩ f).setCell ⟨p + 1 + 1, 2, none⟩ t).setCell ⟨p + 1 + 1, 3, none⟩ d).setCell ⟨p + 1 + 1, 4, none⟩ u2).cell? ⟨p + 1, 1, none⟩ = some r1 ∧ (((((y.setCell ⟨p + 1 + 1, 0, none⟩ i).setCell ⟨p + 1 + 1, 1, none⟩ f).setCell ⟨p + 1 + 1, 2, none⟩ t).setCell ⟨p + 1 + 1, 3, none⟩ d).setCell ⟨p + 1 + 1, 4, none⟩ u2).cell? ⟨p + 1, 2, none⟩ = some r2 ∧ (((((y.setCell ⟨p + 1 + 1, 0, none⟩ i).setCell ⟨p + 1 + 1, 1, none⟩ f).setCell ⟨p + 1 + 1, 2, none⟩ t).setCell ⟨p + 1 + 1, 3, none⟩ d).setCell ⟨p + 1 + 1, 4, none⟩ u2).cell? ⟨p + 1, 3, none⟩ = some r3 ∧ (((((y.setCell ⟨p + 1 + 1, 0, none⟩ i).setCell ⟨p + 1 + 1, 1, none⟩ f).setCell ⟨p + 1 + 1, 2, none⟩ t).setCell ⟨p + 1 + 1, 3, none⟩ d).setCell ⟨p + 1 + 1, 4, none⟩ u2).cell? ⟨p + 1, 4, none⟩ = some r4) ∧ ((((((y.setCell ⟨p + 1 + 1, 0, none⟩ i).setCell ⟨p + 1 + 1, 1, none⟩ f).setCell ⟨p + 1 + 1, 2, none⟩ t).setCell ⟨p + 1 + 1, 3, none⟩ d).setCell ⟨p + 1 + 1, 4, none⟩ u2).frozen? ⟨p + 1, 0, none⟩ = false ∧ (((((y.setCell ⟨p + 1 + 1, 0, none⟩ i).setCell ⟨p + 1 + 1, 1, none⟩ f).setCell ⟨p + 1 + 1, 2, none⟩ t).setCell ⟨p + 1 + 1, 3, none⟩ d).setCell ⟨p + 1 + 1, 4, none⟩ u2).frozen? ⟨p + 1, 1, none⟩ = false ∧ (((((y.setCell ⟨p + 1 + 1, 0, none⟩ i).setCell ⟨p + 1 + 1, 1, none⟩ f).setCell ⟨p + 1 + 1, 2, none⟩ t).setCell ⟨p + 1 + 1, 3, none⟩ d).setCell ⟨p + 1 + 1, 4, none⟩ u2).frozen? ⟨p + 1, 2, none⟩ = false ∧ (((((y.setCell ⟨p + 1 + 1, 0, none⟩ i).setCell ⟨p + 1 + 1, 1, none⟩ f).setCell ⟨p + 1 + 1, 2, none⟩ t).setCell ⟨p + 1 + 1, 3, none⟩ d).setCell ⟨p + 1 + 1, 4, none⟩ u2).frozen? ⟨p + 1, 3, none⟩ = false ∧ (((((y.setCell ⟨p + 1 + 1, 0, none⟩ i).setCell ⟨p + 1 + 1, 1, none⟩ f).setCell ⟨p + 1 + 1, 2, none⟩ t).setCell ⟨p + 1 + 1, 3, none⟩ d).setCell ⟨p + 1 + 1, 4, none⟩ u2).frozen? ⟨p + 1, 4, none⟩ = false)) := by
  have h1 := s.c
  have h2 := (s.put hp).c
  have h3 : Blk (set5 y (p + 1 + 1) i f t d u2) (p + 1) 42 #[r0, r1, r2, r3, r4] := (set5_kept y (p + 1 + 1) i f t d u2).blk s.own (by omega)
  exact ⟨⟨h1.2.2.1, h1.2.2.2.2.1⟩, ⟨h1.2.2.2.1, h1.2.2.2.2.2⟩, ⟨h2.2.2.2.1, h2.2.2.2.2.2⟩, ⟨cellOf h3 0 rfl, cellOf h3 1 rfl, cellOf h3 2 rfl, cellOf h3 3 rfl, cellOf h3 4 rfl⟩, h3.frozen 0, h3.frozen 1, h3.frozen 2, h3.frozen 3, h3.frozen 4⟩
theorem su_fin {w y W' : World} {p : Nat} {v1 v2 : Value} {l : List SpanD} (hp : w.heap.size = p) (low : Below w.heap.size w y) (h1 : OSp (p + 4) y v1 l) (h2 : OSp (p + 4) y v2 l) (hk : KeptBut (fun g => g = p + 1 ∨ g = p + 1 + 1) y W') : Hid (OSp (p + 4) W' v1 l ∧ OSp (p + 4) W' v2 l) ∧ Hid (Below w.heap.size w W') :=
  ⟨⟨h1.kept hk (fun g hg => by omega), h2.kept hk (fun g hg => by omega)⟩, low.trans (hk.below (fun g hg => by omega) low.size)⟩
theorem set5_kept' (X : World) (p q : Nat) (x0 x1 x2 x3 x4 : Value) (h : q = p + 1 ∨ q = p + 1 + 1) : KeptBut (fun g => g = p + 1 ∨ g = p + 1 + 1) X (set5 X q x0 x1 x2 x3 x4) :=
  ((((KeptBut.setCell (S := fun g => g = p + 1 ∨ g = p + 1 + 1) h _).trans (KeptBut.setCell (S := fun g => g = p + 1 ∨ g = p + 1 + 1) h _) fun _ _ h => h).trans (KeptBut.setCell (S := fun g => g = p + 1 ∨ g = p + 1 + 1) h _) fun _ _ h => h).trans (KeptBut.setCell (S := fun g => g = p + 1 ∨ g = p + 1 + 1) h _) fun _ _ h => h).trans (KeptBut.setCell (S := fun g => g = p + 1 ∨ g = p + 1 + 1) h _) fun _ _ h => h
/-- The argument and the copy, as the walk reads them. -/
def SuL (p : Nat) (i f t d h u : Value) (X : World) : Prop := (X.cell? ⟨p, 0, none⟩ = some i ∧ X.cell? ⟨p, 1, none⟩ = some f ∧ X.cell? ⟨p, 2, none⟩ = some t ∧ X.cell? ⟨p, 3, none⟩ = some d ∧ X.cell? ⟨p, 4, none⟩ = some h) ∧ (X.cell? ⟨p + 3, 0, none⟩ = some i ∧ X.cell? ⟨p + 3, 1, none⟩ = some f ∧ X.cell? ⟨p + 3, 2, none⟩ = some t ∧ X.cell? ⟨p + 3, 3, none⟩ = some d ∧ X.cell? ⟨p + 3, 4, none⟩ = some u)
theorem su_loads {X : World} {p : Nat} {i f t d h u : Value} (h1 : Blk X p 42 #[i, f, t, d, h]) (h2 : Blk X (p + 3) 42 #[i, f, t, d, u]) : SuL p i f t d h u X :=
  ⟨⟨cellOf h1 0 rfl, cellOf h1 1 rfl, cellOf h1 2 rfl, cellOf h1 3 rfl, cellOf h1 4 rfl⟩, ⟨cellOf h2 0 rfl, cellOf h2 1 rfl, cellOf h2 2 rfl, cellOf h2 3 rfl, cellOf h2 4 rfl⟩⟩
theorem su_keep {w y : World} {p : Nat} {i f t d h u r0 r1 r2 r3 r4 : Value} (s : SuSt w p i f t d h u r0 r1 r2 r3 r4 y) (u2 : Value) :
    SuL p i f t d h u (set5 (set5 y (p + 1) i f t d u) (p + 1 + 1) i f t d u2) ∧ SuL p i f t d h u (set5 (set5 y (p + 1 + 1) i f t d u2) (p + 1) i f t d u) ∧
    SuL p i f t d h u (set5 y (p + 1 + 1) i f t d u2) ∧ SuL p i f t d h u (set5 y (p + 1) i f t d u) := by
  have ka := set5_kept y (p + 1) i f t d u
  have kb := set5_kept y (p + 1 + 1) i f t d u2
  have kab := set5_kept (set5 y (p + 1) i f t d u) (p + 1 + 1) i f t d u2
  have kba := set5_kept (set5 y (p + 1 + 1) i f t d u2) (p + 1) i f t d u
  exact ⟨su_loads (kab.blk (ka.blk s.src (by omega)) (by omega)) (kab.blk (ka.blk s.cpy (by omega)) (by omega)), su_loads (kba.blk (kb.blk s.src (by omega)) (by omega)) (kba.blk (kb.blk s.cpy (by omega)) (by omega)),
    su_loads (kb.blk s.src (by omega)) (kb.blk s.cpy (by omega)), su_loads (ka.blk s.src (by omega)) (ka.blk s.cpy (by omega))⟩
/-- What the walk's end holds, in each of the three orders of the stores. -/
theorem su_end {w y : World} {p : Nat} {i f t d h u r0 r1 r2 r3 r4 : Value} (s : SuSt w p i f t d h u r0 r1 r2 r3 r4 y) (u2 : Value) :
    Hid (Blk (set5 (set5 y (p + 1) i f t d u) (p + 1 + 1) i f t d u2) (p + 1) 42 #[i, f, t, d, u] ∧ Blk (set5 (set5 y (p + 1) i f t d u) (p + 1 + 1) i f t d u2) (p + 1 + 1) 126 #[i, f, t, d, u2]) ∧
    Hid (Blk (set5 (set5 y (p + 1 + 1) i f t d u2) (p + 1) i f t d u) (p + 1) 42 #[i, f, t, d, u] ∧ Blk (set5 (set5 y (p + 1 + 1) i f t d u2) (p + 1) i f t d u) (p + 1 + 1) 126 #[i, f, t, d, u2]) := by
  have ka := set5_kept y (p + 1) i f t d u
  have kb := set5_kept y (p + 1 + 1) i f t d u2
  have kab := set5_kept (set5 y (p + 1) i f t d u) (p + 1 + 1) i f t d u2
  have kba := set5_kept (set5 y (p + 1 + 1) i f t d u2) (p + 1) i f t d u
  exact ⟨⟨kab.blk (set5_blk s.own i f t d u) (by omega), set5_blk (ka.blk s.ref (by omega)) i f t d u2⟩, ⟨set5_blk (kb.blk s.own (by omega)) i f t d u, kba.blk (set5_blk s.ref i f t d u2) (by omega)⟩⟩
theorem su_done {w y : World} {p : Nat} {i f t d h u r0 r1 r2 r3 r4 : Value} {l : List SpanD} (hp : w.heap.size = p) (s : SuSt w p i f t d h u r0 r1 r2 r3 r4 y) {u2 : Value} (h1 : OSp (p + 4) y u l) (h2 : OSp (p + 4) y u2 l) :
    (Hid (OSp (p + 4) (set5 (set5 y (p + 1) i f t d u) (p + 1 + 1) i f t d u2) u l ∧ OSp (p + 4) (set5 (set5 y (p + 1) i f t d u) (p + 1 + 1) i f t d u2) u2 l) ∧ Hid (Below w.heap.size w (set5 (set5 y (p + 1) i f t d u) (p + 1 + 1) i f t d u2)) ∧ Hid (Blk (set5 (set5 y (p + 1) i f t d u) (p + 1 + 1) i f t d u2) (p + 1) 42 #[i, f, t, d, u] ∧ Blk (set5 (set5 y (p + 1) i f t d u) (p + 1 + 1) i f t d u2) (p + 1 + 1) 126 #[i, f, t, d, u2])) ∧
    (Hid (OSp (p + 4) (set5 (set5 y (p + 1 + 1) i f t d u2) (p + 1) i f t d u) u l ∧ OSp (p + 4) (set5 (set5 y (p + 1 + 1) i f t d u2) (p + 1) i f t d u) u2 l) ∧ Hid (Below w.heap.size w (set5 (set5 y (p + 1 + 1) i f t d u2) (p + 1) i f t d u)) ∧ Hid (Blk (set5 (set5 y (p + 1 + 1) i f t d u2) (p + 1) i f t d u) (p + 1) 42 #[i, f, t, d, u] ∧ Blk (set5 (set5 y (p + 1 + 1) i f t d u2) (p + 1) i f t d u) (p + 1 + 1) 126 #[i, f, t, d, u2])) := by
  have ka := (set5_kept' y p (p + 1) i f t d u (.inl rfl)).trans (set5_kept' _ p (p + 1 + 1) i f t d u2 (.inr rfl)) fun _ _ h => h
  have kb := (set5_kept' y p (p + 1 + 1) i f t d u2 (.inr rfl)).trans (set5_kept' _ p (p + 1) i f t d u (.inl rfl)) fun _ _ h => h
  have e := su_end s u2
  exact ⟨⟨(su_fin hp s.low h1 h2 ka).1, (su_fin hp s.low h1 h2 ka).2, e.1⟩, ⟨(su_fin hp s.low h1 h2 kb).1, (su_fin hp s.low h1 h2 kb).2, e.2⟩⟩
theorem su_done' {w y : World} {p : Nat} {i f t d h u : Value} {l : List SpanD} (hp : w.heap.size = p) (s : SuSt w p i f t d h u i f t d u y) {u2 : Value} (h1 : OSp (p + 4) y u l) (h2 : OSp (p + 4) y u2 l) :
    Hid (OSp (p + 4) (set5 y (p + 1 + 1) i f t d u2) u l ∧ OSp (p + 4) (set5 y (p + 1 + 1) i f t d u2) u2 l) ∧ Hid (Below w.heap.size w (set5 y (p + 1 + 1) i f t d u2)) ∧ Hid (Blk (set5 y (p + 1 + 1) i f t d u2) (p + 1) 42 #[i, f, t, d, u] ∧ Blk (set5 y (p + 1 + 1) i f t d u2) (p + 1 + 1) 126 #[i, f, t, d, u2]) := by
  have kb := set5_kept y (p + 1 + 1) i f t d u2
  have k := set5_kept' y p (p + 1 + 1) i f t d u2 (.inr rfl)
  exact ⟨(su_fin hp s.low h1 h2 k).1, (su_fin hp s.low h1 h2 k).2, kb.blk s.own (by omega), set5_blk s.ref i f t d u2⟩
/-- What subscriber returns: two, each with a row of its own. -/
def SuRet (s : SubD) (w : World) (e : Ending) (w' : World) : Prop := ∃ (A1 A2 : Option Addr) (c1 c2 : Nat), e = .returned (.tuple #[.agg #[.int .i64 s.id, .int .i64 s.from_, .int .i64 s.to_, .int .i64 s.days, .slice A1 s.hol.length c1], .agg #[.int .i64 s.id, .int .i64 s.from_, .int .i64 s.to_, .int .i64 s.days, .slice A2 s.hol.length c2]]) ∧ OSp w.heap.size w' (.slice A1 s.hol.length c1) s.hol ∧ OSp w.heap.size w' (.slice A2 s.hol.length c2) s.hol ∧ Below w.heap.size w w'
set_option maxRecDepth 1000000 in
set_option maxHeartbeats 4000000 in
theorem subscriber_any (s : SubD) (hs : s.hol.length ≤ 1000) (v : Value) (w : World) (h : RSub w.heap.size w v s) :
    Calls Try.prog 60 #[v] w (SuRet s w) := by
  obtain ⟨uu, rfl, hsp⟩ := h
  have HSP := Lib.hid hsp
  obtain ⟨A, c, rfl, -, -⟩ := spans_later hsp
  obtain ⟨n, hn⟩ : ∃ n, s.hol.length = n := ⟨_, rfl⟩
  have HN := Lib.hid hn
  obtain ⟨i, hi⟩ : ∃ x, s.id = x := ⟨_, rfl⟩
  obtain ⟨f, hf⟩ : ∃ x, s.from_ = x := ⟨_, rfl⟩
  obtain ⟨t, ht⟩ : ∃ x, s.to_ = x := ⟨_, rfl⟩
  obtain ⟨d, hd⟩ : ∃ x, s.days = x := ⟨_, rfl⟩
  have CC : Hid (∀ Z, Below w.heap.size w Z → Calls Try.prog 106 #[.slice A n c] Z fun e w' => ∃ A' c', e = .returned (.slice A' n c') ∧ Hid (OSp Z.heap.size w' (.slice A' n c') s.hol) ∧ Hid (Below Z.heap.size Z w')) := fun Z hZ => by
    have h1 := cloneSpn_any s.hol (by omega) _ Z ((Rd.below hsp hZ).more hZ.size)
    rw [hn] at h1
    refine h1.mono ?_
    rintro _ w' ⟨u, rfl, hO, hb⟩
    obtain ⟨A', c', rfl⟩ := ownsRow_form hO
    refine ⟨A', c', rfl, ?_, hb⟩
    show World.ownsRow _ _ _ _ _ _ _
    rw [hn]
    exact hO
  have HRET : Hid (∀ (A1 A2 : Option Addr) (c1 c2 : Nat) (W : World), OSp w.heap.size W (.slice A1 n c1) s.hol → OSp w.heap.size W (.slice A2 n c2) s.hol → Below w.heap.size w W → SuRet s w (.returned (.tuple #[.agg #[.int .i64 i, .int .i64 f, .int .i64 t, .int .i64 d, .slice A1 n c1], .agg #[.int .i64 i, .int .i64 f, .int .i64 t, .int .i64 d, .slice A2 n c2]])) W) := fun A1 A2 c1 c2 W h1 h2 h3 => by
    rw [← hi, ← hf, ← ht, ← hd, ← hn] at *
    exact ⟨A1, A2, c1, c2, rfl, h1, h2, h3⟩
  obtain ⟨SR, hSR⟩ : ∃ z, SuRet s w = z := ⟨_, rfl⟩
  rw [hSR] at HRET ⊢
  rw [hi, hf, ht, hd, hn]
  have F0 : ∃ W0, ((w.alloc (.cells #[.int .i64 i, .int .i64 f, .int .i64 t, .int .i64 d, .slice A n c] 42)).alloc (.cells #[.int .i64 0, .int .i64 0, .int .i64 0, .int .i64 0, .slice none 0 0] 42)).alloc (.cells #[.int .i64 0, .int .i64 0, .int .i64 0, .int .i64 0, .slice none 0 0] 126) = W0 ∧ Hid (Below w.heap.size w W0) ∧ Hid (W0.heap.size = w.heap.size + 3) ∧ Hid (Blk W0 w.heap.size 42 #[.int .i64 i, .int .i64 f, .int .i64 t, .int .i64 d, .slice A n c] ∧ Blk W0 (w.heap.size + 1) 42 #[.int .i64 0, .int .i64 0, .int .i64 0, .int .i64 0, .slice none 0 0] ∧ Blk W0 (w.heap.size + 2) 126 #[.int .i64 0, .int .i64 0, .int .i64 0, .int .i64 0, .slice none 0 0]) :=
    ⟨_, rfl, sbelow_al (sbelow_al (below_alloc _ _) _) _, by show _ = _; simp, ((Blk.new _ _ _).alloc _).alloc _, (blk_new (by simp) _ _).alloc _, blk_new (by simp) _ _⟩
  obtain ⟨W0, e0, HB0, HZ0, HK0⟩ := F0
  have E0 := Lib.hid e0
  obtain ⟨p, hp⟩ : ∃ p, w.heap.size = p := ⟨_, rfl⟩
  have HP := Lib.hid hp
  rw [hp] at HK0 HZ0
  have z0 := cellOf HK0.out.1 0 (x := .int .i64 i) rfl
  have z1 := cellOf HK0.out.1 1 (x := .int .i64 f) rfl
  have z2 := cellOf HK0.out.1 2 (x := .int .i64 t) rfl
  have z3 := cellOf HK0.out.1 3 (x := .int .i64 d) rfl
  have z4 := cellOf HK0.out.1 4 (x := .slice A n c) rfl
  have F1 : ∃ W1, W0.alloc (.cells #[.int .i64 i, .int .i64 f, .int .i64 t, .int .i64 d, .slice A n c] 42) = W1 ∧ Hid (SuSt w p (.int .i64 i) (.int .i64 f) (.int .i64 t) (.int .i64 d) (.slice A n c) (.slice A n c) (.int .i64 0) (.int .i64 0) (.int .i64 0) (.int .i64 0) (.slice none 0 0) W1) ∧ Hid (W1.heap.size = p + 4) := by
    refine ⟨_, rfl, ⟨sbelow_al HB0.out _, HK0.out.1.alloc _, ?_, HK0.out.2.1.alloc _, HK0.out.2.2.alloc _⟩, by show _ = _; simp [HZ0.out]⟩
    rw [← HZ0.out]
    exact Blk.new _ _ _
  obtain ⟨W1, e1, HS1, HZ1⟩ := F1
  have E1 := Lib.hid e1
  clear hsp hn hi hf ht hd hSR e0 hp e1 hs HSP
  go_enter Try.func60, Try.ntmps60
  go_upto_region 1 with fail
  rw [E0.out, HP.out]
  clear E0
  go_upto_region 2 with fail
  rw [E1.out, HZ0.out]
  clear E1 z0 z1 z2 z3 z4 HK0
  obtain ⟨⟨y0, y1, y2, y3, y4⟩, -⟩ := HS1.out.c
  have C1 := Lib.hid (CC.out W1 HS1.out.low)
  go_wp2_with fail
  refine C1.out.mono ?_
  rintro _ X1 ⟨A1, c1, rfl, HR1, hb1⟩
  have HS2 := Lib.hid (HS1.out.below hb1.out)
  have k4 := cellOf HS2.out.cpy 4 (x := .slice A n c) rfl
  have f4 := HS2.out.cpy.frozen 4
  have HW1 : Hid (W1.heap.size = p + 4) := HZ1
  have HO2 : Hid (OSp (p + 4) X1 (.slice A1 n c1) s.hol) := by rw [← HW1.out]; exact HR1
  have F3 : ∃ X2, X1.setCell ⟨p + 3, 4, none⟩ (.slice A1 n c1) = X2 ∧ Hid (SuSt w p (.int .i64 i) (.int .i64 f) (.int .i64 t) (.int .i64 d) (.slice A n c) (.slice A1 n c1) (.int .i64 0) (.int .i64 0) (.int .i64 0) (.int .i64 0) (.slice none 0 0) X2) ∧ Hid (OSp (p + 4) X2 (.slice A1 n c1) s.hol) ∧ Hid (p + 4 ≤ X2.heap.size) := by
    have hk : KeptBut (fun g => g = p + 3) X1 (X1.setCell ⟨p + 3, 4, none⟩ (.slice A1 n c1)) := KeptBut.setCell (S := fun g => g = p + 3) rfl _
    refine ⟨_, rfl, ⟨HS2.out.low.trans (hk.below (fun g hg => by rw [hg, HP.out]; omega) HS2.out.low.size), hk.blk HS2.out.src (by omega), HS2.out.cpy.put 4 (.slice A1 n c1), hk.blk HS2.out.own (by omega), hk.blk HS2.out.ref (by omega)⟩, HO2.out.kept hk (fun g hg => by omega), ?_⟩
    have h1 := hb1.out.size
    rw [HW1.out] at h1
    exact Nat.le_trans h1 hk.size
  obtain ⟨X2, e3, HS3, HO3, HX2⟩ := F3
  have E3 := Lib.hid e3
  clear C1 hb1 e3 HS2 HO2 HR1 HS1 y0 y1 y2 y3 y4 HW1 HZ1
  go_upto_region 3 with fail
  rw [E3.out]
  clear E3 k4 f4
  go_cut [21] from 10 to 22 (fun s21 wx => ∃ (A2 : Option Addr) (c2 : Nat), s21 = .slice A2 n c2 ∧ Hid (OSp (p + 4) wx (.slice A1 n c1) s.hol ∧ OSp (p + 4) wx (.slice A2 n c2) s.hol) ∧ Hid (Below w.heap.size w wx) ∧ Hid (Blk wx (p + 1) 42 #[.int .i64 i, .int .i64 f, .int .i64 t, .int .i64 d, .slice A1 n c1] ∧ Blk wx (p + 1 + 1) 126 #[.int .i64 i, .int .i64 f, .int .i64 t, .int .i64 d, .slice A2 n c2]))
  case first =>
    have A0 := HS3.out.c
    have A1' := HS3.out.drew.c
    have B1 : SuC p (.int .i64 i) (.int .i64 f) (.int .i64 t) (.int .i64 d) (.slice A n c) (.slice A1 n c1) (.int .i64 i) (.int .i64 f) (.int .i64 t) (.int .i64 d) (.slice A1 n c1) (set5 X2 (p + 1) (.int .i64 i) (.int .i64 f) (.int .i64 t) (.int .i64 d) (.slice A1 n c1)).drew := (HS3.out.put HP.out).drew.c
    have HLA := Lib.hid HS3.out.drew.low
    have HLB := Lib.hid (HS3.out.put HP.out).drew.low
    obtain ⟨⟨a0, a1, a2, a3, a4⟩, ⟨b0, b1, b2, b3, b4⟩, ⟨o0, o1, o2, o3, o4⟩, -, ⟨fo0, fo1, fo2, fo3, fo4⟩, -⟩ := A0
    obtain ⟨⟨a0', a1', a2', a3', a4'⟩, ⟨b0', b1', b2', b3', b4'⟩, ⟨o0', o1', o2', o3', o4'⟩, -, ⟨fo0', fo1', fo2', fo3', fo4'⟩, -⟩ := A1'
    have HX2A : Hid (p + 4 ≤ X2.drew.heap.size) := Nat.le_trans HX2.out (Below.refl 0 X2).drew.size
    have HX2B : Hid (p + 4 ≤ (set5 X2 (p + 1) (.int .i64 i) (.int .i64 f) (.int .i64 t) (.int .i64 d) (.slice A1 n c1)).drew.heap.size) := Nat.le_trans HX2.out (Nat.le_trans (set5_kept X2 (p + 1) (.int .i64 i) (.int .i64 f) (.int .i64 t) (.int .i64 d) (.slice A1 n c1)).size (Below.refl 0 _).drew.size)
    have HO3B : Hid (OSp (p + 4) (set5 X2 (p + 1) (.int .i64 i) (.int .i64 f) (.int .i64 t) (.int .i64 d) (.slice A1 n c1)).drew (.slice A1 n c1) s.hol) := (HO3.out.kept (set5_kept X2 (p + 1) (.int .i64 i) (.int .i64 f) (.int .i64 t) (.int .i64 d) (.slice A1 n c1)) (fun g hg => by omega)).below (Below.refl _ _).drew
    have HSA := Lib.hid HS3.out.drew
    have HSB := Lib.hid (HS3.out.put HP.out).drew
    have HO3A : Hid (OSp (p + 4) X2.drew (.slice A1 n c1) s.hol) := HO3.out.below (Below.refl _ _).drew
    unfold set5 at HX2B HO3B HSB HLB
    have B1' := HSB.out.c
    obtain ⟨⟨d0, d1, d2, d3, d4⟩, -, -, ⟨n0, n1, n2, n3, n4⟩, -, ⟨fn0, fn1, fn2, fn3, fn4⟩⟩ := B1'
    clear HRET HB0 B1
    have SLA := HSA.out.loads
    have SLB := HSB.out.loads
    have HS0 : Hid ((fun X => (X.cell? ⟨p, 0, none⟩ = some (.int .i64 i) ∧ X.cell? ⟨p, 1, none⟩ = some (.int .i64 f) ∧ X.cell? ⟨p, 2, none⟩ = some (.int .i64 t) ∧ X.cell? ⟨p, 3, none⟩ = some (.int .i64 d) ∧ X.cell? ⟨p, 4, none⟩ = some (.slice A n c)) ∧ (X.cell? ⟨p + 3, 0, none⟩ = some (.int .i64 i) ∧ X.cell? ⟨p + 3, 1, none⟩ = some (.int .i64 f) ∧ X.cell? ⟨p + 3, 2, none⟩ = some (.int .i64 t) ∧ X.cell? ⟨p + 3, 3, none⟩ = some (.int .i64 d) ∧ X.cell? ⟨p + 3, 4, none⟩ = some (.slice A1 n c1))) X2) := ⟨HS3.out.c.1, HS3.out.c.2.1⟩
    go_region_held3 (fun X => (X.cell? ⟨p, 0, none⟩ = some (.int .i64 i) ∧ X.cell? ⟨p, 1, none⟩ = some (.int .i64 f) ∧ X.cell? ⟨p, 2, none⟩ = some (.int .i64 t) ∧ X.cell? ⟨p, 3, none⟩ = some (.int .i64 d) ∧ X.cell? ⟨p, 4, none⟩ = some (.slice A n c)) ∧ (X.cell? ⟨p + 3, 0, none⟩ = some (.int .i64 i) ∧ X.cell? ⟨p + 3, 1, none⟩ = some (.int .i64 f) ∧ X.cell? ⟨p + 3, 2, none⟩ = some (.int .i64 t) ∧ X.cell? ⟨p + 3, 3, none⟩ = some (.int .i64 d) ∧ X.cell? ⟨p + 3, 4, none⟩ = some (.slice A1 n c1)))
      (first | with_reducible exact TT | with_reducible exact TQ1 | with_reducible exact TQ2 | with_reducible exact TQ3 | with_reducible exact TQ4 | with_reducible exact SLA | with_reducible exact SLB | with_reducible exact HS0.out | go_keep)
      (first | (go_at_call 106; with_reducible refine (CC.out _ HLA.out).mono ?_; rintro _ y ⟨A2, c2, rfl, HO, hb⟩; have SA := Lib.hid (HSA.out.below hb.out); have TT := SA.out.loads; obtain ⟨TQ1, TQ2, TQ3, TQ4⟩ := su_keep SA.out (.slice A2 n c2); unfold SuL set5 at TQ1 TQ2 TQ3 TQ4; have HOA := Lib.hid (HO3A.out.below hb.out); have HOB := Lib.hid (OSp.base HO.out HX2A.out); obtain ⟨⟨⟨k0, k1, k2, k3, k4⟩, ⟨fk0, fk1, fk2, fk3, fk4⟩⟩, ⟨⟨q0, q1, q2, q3, q4⟩, ⟨fq0, fq1, fq2, fq3, fq4⟩⟩, ⟨⟨m0, m1, m2, m3, m4⟩, ⟨fm0, fm1, fm2, fm3, fm4⟩⟩, ⟨⟨r0, r1, r2, r3, r4⟩, ⟨fr0, fr1, fr2, fr3, fr4⟩⟩⟩ := su_after HP.out SA.out (.slice A2 n c2))
             | (go_at_call 106; with_reducible refine (CC.out _ HLB.out).mono ?_; rintro _ y ⟨A2, c2, rfl, HO, hb⟩; have SA := Lib.hid (HSB.out.below hb.out); have TT := SA.out.loads; obtain ⟨TQ1, TQ2, TQ3, TQ4⟩ := su_keep SA.out (.slice A2 n c2); unfold SuL set5 at TQ1 TQ2 TQ3 TQ4; have HOA := Lib.hid (HO3B.out.below hb.out); have HOB := Lib.hid (OSp.base HO.out HX2B.out); obtain ⟨⟨⟨k0, k1, k2, k3, k4⟩, ⟨fk0, fk1, fk2, fk3, fk4⟩⟩, ⟨⟨q0, q1, q2, q3, q4⟩, ⟨fq0, fq1, fq2, fq3, fq4⟩⟩, ⟨⟨m0, m1, m2, m3, m4⟩, ⟨fm0, fm1, fm2, fm3, fm4⟩⟩, ⟨⟨r0, r1, r2, r3, r4⟩, ⟨fr0, fr1, fr2, fr3, fr4⟩⟩⟩ := su_after HP.out SA.out (.slice A2 n c2)))
    all_goals
      go_wp2_with fail
      go_meet
      first
      | exact ⟨A2, c2, rfl, (su_done HP.out SA.out HOA.out HOB.out).1⟩
      | exact ⟨A2, c2, rfl, (su_done HP.out SA.out HOA.out HOB.out).2⟩
      | exact ⟨A2, c2, rfl, su_done' HP.out SA.out HOA.out HOB.out⟩
  case rest =>
  obtain ⟨A2, c2, rfl, ho, hbw, hbk⟩ := hcut
  have e0 := cellOf hbk.out.1 0 (x := .int .i64 i) rfl
  have e1 := cellOf hbk.out.1 1 (x := .int .i64 f) rfl
  have e2 := cellOf hbk.out.1 2 (x := .int .i64 t) rfl
  have e3 := cellOf hbk.out.1 3 (x := .int .i64 d) rfl
  have e4 := cellOf hbk.out.1 4 (x := .slice A1 n c1) rfl
  have g0 := cellOf hbk.out.2 0 (x := .int .i64 i) rfl
  have g1 := cellOf hbk.out.2 1 (x := .int .i64 f) rfl
  have g2 := cellOf hbk.out.2 2 (x := .int .i64 t) rfl
  have g3 := cellOf hbk.out.2 3 (x := .int .i64 d) rfl
  have g4 := cellOf hbk.out.2 4 (x := .slice A2 n c2) rfl
  have HF := Lib.hid (HRET.out A1 A2 c1 c2 wc (ho.out.1.base (by rw [HP.out]; omega)) (ho.out.2.base (by rw [HP.out]; omega)) hbw.out)
  go_wp2_with fail
  exact bodyPost_ret (v := .tuple #[.agg #[.int .i64 i, .int .i64 f, .int .i64 t, .int .i64 d, .slice A1 n c1], .agg #[.int .i64 i, .int .i64 f, .int .i64 t, .int .i64 d, .slice A2 n c2]]) (by simp [results, Try.results60, go_sem, e0, e1, e2, e3, e4, g0, g1, g2, g3, g4]) rfl HF.out
end Go.Proofs.Ytlmpbmlbllndcaa
