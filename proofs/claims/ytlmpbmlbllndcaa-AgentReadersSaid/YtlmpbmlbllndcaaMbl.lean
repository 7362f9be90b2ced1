/-
  Two rows of subscribers that grow side by side.
-/
import Derived.Test.YtlmpbmlbllndcaaMbk
namespace Go.Proofs.Ytlmpbmlbllndcaa
open Go.RowKit
/-- Two rows of one's own (the program's subscribers and the reference's), two blocks (the copies at hand), spans of one's own. -/
structure GSt (w : World) (p0 p1 p2 : Nat) (c0 c1 c2 : Array Value) (vo vr : Value) (n1 n2 : Nat) (xs1 xs2 : List Value) (ps : List (Value × List SpanD)) (Y : World) : Prop where
  low : Below w.heap.size w Y
  b0 : Blk Y p0 37 c0
  b1 : Blk Y p1 42 c1
  b2 : Blk Y p2 126 c2
  ap1 : ∀ g, vo.ownBlock = some g → g ≠ p1
  ap2 : ∀ g, vr.ownBlock = some g → g ≠ p2
  own1 : Y.ownsRow w.heap.size 42 5 vo n1 xs1
  own2 : Y.ownsRow w.heap.size 126 5 vr n2 xs2
  sp : ∀ q ∈ ps, OSp w.heap.size Y q.1 q.2
section
variable {w Y Z : World} {p0 p1 p2 : Nat} {c0 c1 c2 : Array Value} {vo vr : Value} {n1 n2 : Nat} {xs1 xs2 : List Value} {ps : List (Value × List SpanD)}
theorem GSt.below (h : GSt w p0 p1 p2 c0 c1 c2 vo vr n1 n2 xs1 xs2 ps Y) (hb : Below Y.heap.size Y Z) : GSt w p0 p1 p2 c0 c1 c2 vo vr n1 n2 xs1 xs2 ps Z :=
  ⟨h.low.trans (hb.mono h.low.size), h.b0.below hb h.b0.lt, h.b1.below hb h.b1.lt, h.b2.below hb h.b2.lt, h.ap1, h.ap2, ownsRow_below h.own1 hb, ownsRow_below h.own2 hb, fun q hq => (h.sp q hq).below hb⟩
theorem GSt.all (h : GSt w p0 p1 p2 c0 c1 c2 vo vr n1 n2 xs1 xs2 ps Y) : Hid (∀ Z, Below Y.heap.size Y Z → GSt w p0 p1 p2 c0 c1 c2 vo vr n1 n2 xs1 xs2 ps Z) := fun _ hZ => h.below hZ
theorem GSt.app1 {g c : Nat} {ys : List Value} (h : GSt w p0 p1 p2 c0 c1 c2 vo vr n1 n2 xs1 xs2 ps Y) (ho : Z.ownsRow w.heap.size 42 5 (.slice (some ⟨g, 0, none⟩) (n1 + 1) c) (n1 + 1) (xs1 ++ ys)) (hg : Y.grownBy Z vo.ownBlock) (hat : vo.ownBlock = some g ∨ g = Y.heap.size) :
    GSt w p0 p1 p2 c0 c1 c2 (.slice (some ⟨g, 0, none⟩) (n1 + 1) c) vr (n1 + 1) n2 (xs1 ++ ys) xs2 ps Z := by
  have hK : KeptBut (fun j => some j = vo.ownBlock) Y Z := KeptBut.grown (S := fun j => some j = vo.ownBlock) hg fun _ hj => hj
  refine ⟨h.low.grown hg h.low.size fun j hj => (h.own1.lt j hj).1, hK.blk h.b0 (fun e => ?_), hK.blk h.b1 fun e => h.ap1 _ e.symm rfl, hK.blk h.b2 fun e => ?_, fun q hq => ?_, h.ap2, ho, ownsRow_keptBut h.own2 hK fun g' cs hg' hB hs => ?_, fun q hq => ownsRow_keptBut (h.sp q hq) hK fun g' cs hg' hB hs => ?_⟩
  · obtain ⟨-, cs', hB'⟩ := ownsRow_own h.own1 e.symm
    exact Blk.ne hB' h.b0 (by decide) rfl
  · obtain ⟨-, cs', hB'⟩ := ownsRow_own h.own1 e.symm
    exact Blk.ne hB' h.b2 (by decide) rfl
  · have hq' : g = q := by simpa [Value.ownBlock] using hq
    subst hq'
    rcases hat with hat | hat
    · exact h.ap1 g hat
    · have := h.b1.lt
      omega
  · obtain ⟨-, cs', hB'⟩ := ownsRow_own h.own1 hs.symm
    exact Blk.ne hB' hB (by decide) rfl
  · obtain ⟨-, cs', hB'⟩ := ownsRow_own h.own1 hs.symm
    exact Blk.ne hB' hB (by decide) rfl
theorem GSt.app2 {g c : Nat} {ys : List Value} (h : GSt w p0 p1 p2 c0 c1 c2 vo vr n1 n2 xs1 xs2 ps Y) (ho : Z.ownsRow w.heap.size 126 5 (.slice (some ⟨g, 0, none⟩) (n2 + 1) c) (n2 + 1) (xs2 ++ ys)) (hg : Y.grownBy Z vr.ownBlock) (hat : vr.ownBlock = some g ∨ g = Y.heap.size) :
    GSt w p0 p1 p2 c0 c1 c2 vo (.slice (some ⟨g, 0, none⟩) (n2 + 1) c) n1 (n2 + 1) xs1 (xs2 ++ ys) ps Z := by
  have hK : KeptBut (fun j => some j = vr.ownBlock) Y Z := KeptBut.grown (S := fun j => some j = vr.ownBlock) hg fun _ hj => hj
  refine ⟨h.low.grown hg h.low.size fun j hj => (h.own2.lt j hj).1, hK.blk h.b0 (fun e => ?_), hK.blk h.b1 fun e => ?_, hK.blk h.b2 fun e => h.ap2 _ e.symm rfl, h.ap1, fun q hq => ?_, ownsRow_keptBut h.own1 hK fun g' cs hg' hB hs => ?_, ho, fun q hq => ownsRow_keptBut (h.sp q hq) hK fun g' cs hg' hB hs => ?_⟩
  · obtain ⟨-, cs', hB'⟩ := ownsRow_own h.own2 e.symm
    exact Blk.ne hB' h.b0 (by decide) rfl
  · obtain ⟨-, cs', hB'⟩ := ownsRow_own h.own2 e.symm
    exact Blk.ne hB' h.b1 (by decide) rfl
  · have hq' : g = q := by simpa [Value.ownBlock] using hq
    subst hq'
    rcases hat with hat | hat
    · exact h.ap2 g hat
    · have := h.b2.lt
      omega
  · obtain ⟨-, cs', hB'⟩ := ownsRow_own h.own2 hs.symm
    exact Blk.ne hB' hB (by decide) rfl
  · obtain ⟨-, cs', hB'⟩ := ownsRow_own h.own2 hs.symm
    exact Blk.ne hB' hB (by decide) rfl
theorem GSt.tmp {W W9 : World} (h : GSt w p0 p1 p2 c0 c1 c2 vo vr n1 n2 xs1 xs2 ps Y) (hg : W.grownBy W9 vo.ownBlock) : Hid (∀ (q : Nat) (cs : Array Value) (t : TypeId), Blk W q t cs → Y.heap.size ≤ q → Blk W9 q t cs) := fun q cs t hb hq =>
  (hg.block q hb.lt fun e => by have := (h.own1.lt q e.symm).2; omega).trans hb
end
/-- The rows behind k rounds: the subscribers of both sides, each with spans of its own. -/
structure RowsSt (w : World) (l : List SubD) (k p0 : Nat) (c0 : Array Value) (vo vr : Value) (us ur : List Value) (Y : World) : Prop where
  low : Below w.heap.size w Y
  b0 : Blk Y p0 37 c0
  own1 : Y.ownsRow w.heap.size 42 5 vo k (((l.take k).zip us).flatMap subCells)
  own2 : Y.ownsRow w.heap.size 126 5 vr k (((l.take k).zip ur).flatMap subCells)
  lu : us.length = k
  lr : ur.length = k
  sp1 : ∀ (i : Nat) (u : Value) (s : SubD), us[i]? = some u → l[i]? = some s → OSp w.heap.size Y u s.hol
  sp2 : ∀ (i : Nat) (u : Value) (s : SubD), ur[i]? = some u → l[i]? = some s → OSp w.heap.size Y u s.hol
def pairsG (l : List SubD) (us : List Value) : List (Value × List SpanD) := (us.zip l).map fun q => (q.1, q.2.hol)
theorem pairsG_mem {l : List SubD} {us : List Value} {i : Nat} {u : Value} {s : SubD} (hu : us[i]? = some u) (hs : l[i]? = some s) : (u, s.hol) ∈ pairsG l us :=
  List.mem_map.2 ⟨(u, s), List.mem_of_getElem? (List.getElem?_zip_eq_some.2 ⟨hu, hs⟩), rfl⟩
theorem pairsG_of {l : List SubD} {us : List Value} {q : Value × List SpanD} (h : q ∈ pairsG l us) : ∃ (i : Nat) (u : Value) (s : SubD), us[i]? = some u ∧ l[i]? = some s ∧ q = (u, s.hol) := by
  obtain ⟨z, hz, rfl⟩ := List.mem_map.1 h
  obtain ⟨i, hi⟩ := List.mem_iff_getElem?.1 hz
  obtain ⟨h1, h2⟩ := List.getElem?_zip_eq_some.1 hi
  exact ⟨i, z.1, z.2, h1, h2, rfl⟩
section
variable {w X Y : World} {l : List SubD} {k p0 p1 p2 : Nat} {c0 c1 c2 : Array Value} {vo vr u1 u2 : Value} {us ur : List Value} {s : SubD}
theorem RowsSt.below (h : RowsSt w l k p0 c0 vo vr us ur X) (hb : Below X.heap.size X Y) : RowsSt w l k p0 c0 vo vr us ur Y :=
  ⟨h.low.trans (hb.mono h.low.size), h.b0.below hb h.b0.lt, ownsRow_below h.own1 hb, ownsRow_below h.own2 hb, h.lu, h.lr, fun i u s hu hs => (h.sp1 i u s hu hs).below hb, fun i u s hu hs => (h.sp2 i u s hu hs).below hb⟩
theorem RowsSt.keep {S : Nat → Prop} (h : RowsSt w l k p0 c0 vo vr us ur X) (hK : KeptBut S X Y) (hS : ∀ g, S g → w.heap.size ≤ g ∧ ∃ cs, Blk X g 134 cs) : RowsSt w l k p0 c0 vo vr us ur Y := by
  refine ⟨h.low.trans (hK.below (fun g hg => (hS g hg).1) h.low.size), hK.blk h.b0 fun e => ?_, ownsRow_keptBut h.own1 hK fun g cs hg hB hs => ?_, ownsRow_keptBut h.own2 hK fun g cs hg hB hs => ?_, h.lu, h.lr, fun i u s hu hs => ownsRow_keptBut (h.sp1 i u s hu hs) hK fun g cs hg hB hs => ?_, fun i u s hu hs => ownsRow_keptBut (h.sp2 i u s hu hs) hK fun g cs hg hB hs => ?_⟩
  · obtain ⟨-, cs', hB'⟩ := hS _ e
    exact Blk.ne hB' h.b0 (by decide) rfl
  all_goals
    obtain ⟨-, cs', hB'⟩ := hS _ hs
    exact Blk.ne hB' hB (by decide) rfl
theorem RowsSt.start (h : RowsSt w l k p0 c0 vo vr us ur X) (hb : Below X.heap.size X Y) (h1 : Blk Y p1 42 c1) (h2 : Blk Y p2 126 c2) (hp1 : X.heap.size ≤ p1) (hp2 : X.heap.size ≤ p2) (o1 : OSp w.heap.size Y u1 s.hol) (o2 : OSp w.heap.size Y u2 s.hol) :
    GSt w p0 p1 p2 c0 c1 c2 vo vr k k (((l.take k).zip us).flatMap subCells) (((l.take k).zip ur).flatMap subCells) ((u1, s.hol) :: (u2, s.hol) :: (pairsG l us ++ pairsG l ur)) Y := by
  have h' := h.below hb
  refine ⟨h'.low, h'.b0, h1, h2, fun g hg => ?_, fun g hg => ?_, h'.own1, h'.own2, fun q hq => ?_⟩
  · have := (h.own1.lt g hg).2
    omega
  · have := (h.own2.lt g hg).2
    omega
  · rcases List.mem_cons.1 hq with rfl | hq
    · exact o1
    rcases List.mem_cons.1 hq with rfl | hq
    · exact o2
    rcases List.mem_append.1 hq with hq | hq
    · obtain ⟨i, u, s', hu, hs, rfl⟩ := pairsG_of hq
      exact h'.sp1 i u s' hu hs
    · obtain ⟨i, u, s', hu, hs, rfl⟩ := pairsG_of hq
      exact h'.sp2 i u s' hu hs
theorem zip_next {us : List Value} (hs : l[k]? = some s) (hu : us.length = k) (u : Value) : ((l.take (k + 1)).zip (us ++ [u])).flatMap subCells = ((l.take k).zip us).flatMap subCells ++ subCells (s, u) := by
  have hk : k < l.length := (List.getElem?_eq_some_iff.1 hs).1
  rw [List.take_add_one, hs, Option.toList_some, List.zip_append (by rw [List.length_take, hu]; omega)]
  simp
theorem GSt.done (h : GSt w p0 p1 p2 c0 c1 c2 vo vr (k + 1) (k + 1) (((l.take k).zip us).flatMap subCells ++ subCells (s, u1)) (((l.take k).zip ur).flatMap subCells ++ subCells (s, u2)) ((u1, s.hol) :: (u2, s.hol) :: (pairsG l us ++ pairsG l ur)) Y)
    (hs : l[k]? = some s) (hu : us.length = k) (hr : ur.length = k) : RowsSt w l (k + 1) p0 c0 vo vr (us ++ [u1]) (ur ++ [u2]) Y := by
  refine ⟨h.low, h.b0, ?_, ?_, by simp [hu], by simp [hr], fun i u x hiu hix => ?_, fun i u x hiu hix => ?_⟩
  · rw [zip_next hs hu]; exact h.own1
  · rw [zip_next hs hr]; exact h.own2
  · rcases snoc_get hiu with ⟨-, hiu⟩ | ⟨hi, rfl⟩
    · exact h.sp _ (List.mem_cons_of_mem _ (List.mem_cons_of_mem _ (List.mem_append_left _ (pairsG_mem hiu hix))))
    · rw [hi, hu, hs] at hix
      cases hix
      exact h.sp _ List.mem_cons_self
  · rcases snoc_get hiu with ⟨-, hiu⟩ | ⟨hi, rfl⟩
    · exact h.sp _ (List.mem_cons_of_mem _ (List.mem_cons_of_mem _ (List.mem_append_right _ (pairsG_mem hiu hix))))
    · rw [hi, hr, hs] at hix
      cases hix
      exact h.sp _ (List.mem_cons_of_mem _ List.mem_cons_self)
theorem RowsSt.reads (h : RowsSt w l l.length p0 c0 vo vr us ur Y) : RSubs Y.heap.size Y vo l ∧ RSubs Y.heap.size Y vr l := by
  have h1 := Rd.own h.own1 (own_le h.own1)
  have h2 := Rd.own h.own2 (own_le h.own2)
  rw [List.take_length] at h1 h2
  exact ⟨⟨us, h.lu, h1, fun i u s hu hs => (h.sp1 i u s hu hs).reads⟩, ⟨ur, h.lr, h2, fun i u s hu hs => (h.sp2 i u s hu hs).reads⟩⟩
end
end Go.Proofs.Ytlmpbmlbllndcaa
