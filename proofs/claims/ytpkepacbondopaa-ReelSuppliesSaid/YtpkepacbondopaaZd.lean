/-
  Proves: its results, its state.
-/
import Derived.Test.YtpkepacbondopaaZb
import Derived.Test.YtpkepacbondopaaZa
import Derived.Test.YtpkepacbondopaaMf
import Derived.Test.YtpkepacbondopaaTi
namespace Go.Proofs.Ytpkepacbondopaa
open Go.RowKit Go.Shelf
attribute [local go_sem] Oper.semAt_some

theorem results_two {tmps : Array Value} {w : World} {A B : Nat} {x e : Int} (hA : tmps.getD 4 undef = .pointer (some ⟨A, 0, none⟩)) (hB : tmps.getD 5 undef = .pointer (some ⟨B, 0, none⟩))
    (ha : w.cell? ⟨A, 0, none⟩ = some (.int .i64 x)) (hb : w.cell? ⟨B, 0, none⟩ = some (.int .i64 e)) : (results Try.f35 tmps).run Try.prog w = .ok (.tuple #[.int .i64 x, .int .i64 e]) w := by
  have hr : Try.f35.results = #[.cell 4 3, .cell 5 38] := rfl
  rw [Array.getD_eq_getD_getElem?] at hA hB
  simp [results, hr, go_sem, hA, hB, ha, hb]

/-- What lies there between two weeks. -/
structure PvSt (w : World) (s : SupD) (An Ao Au : Option Addr) (cn co n cu : Nat) (x e : Int) (ds : List Deferred) (X : World) : Prop where
  below_ : Below w.heap.size w X
  sup : Blk X w.heap.size 33 #[.slice An s.need.length cn, .slice Ao s.need.length co, .int .i64 s.keep, .int .i64 s.room]
  box : Blk X (w.heap.size + 1) 30 #[.slice Au n cu]
  r4 : Blk X (w.heap.size + 1 + 1) 3 #[.int .i64 x]
  r5 : Blk X (w.heap.size + 1 + 1 + 1) 38 #[.int .i64 e]
  defs : DsOk w.heap.size ds X
section
variable {w : World} {s : SupD} {An Ao Au : Option Addr} {cn co n cu : Nat} {x e : Int} {ds : List Deferred} {X Y : World}
theorem PvSt.below (h : PvSt w s An Ao Au cn co n cu x e ds X) (hb : Below X.heap.size X Y) : PvSt w s An Ao Au cn co n cu x e ds Y := by
  obtain ⟨h1, h2, h3, h4, h5, h6⟩ := h
  exact ⟨h1.trans (hb.mono h1.size), h2.below hb h2.lt, h3.below hb h3.lt, h4.below hb h4.lt, h5.below hb h5.lt, h6.keep fun D _ hD => hb.block D (Array.getElem?_eq_some_iff.1 hD).1⟩
theorem PvSt.grow {row : Option Nat} {B : Nat} (h : PvSt w s An Ao Au cn co n cu x e ds X) (hg : X.grownBy Y row) (hr : ∀ r, row = some r → B ≤ r ∧ ∃ o : Obj, X.heap[r]? = some o ∧ o.isCells = false) (hB : w.heap.size ≤ B)
    (hlt : ∀ D, ({ target := .collected D, args := #[] } : Deferred) ∈ ds → D < B) : PvSt w s An Ao Au cn co n cu x e ds Y := by
  obtain ⟨h1, h2, h3, h4, h5, Ds, h6, h6n, h6a⟩ := h
  refine ⟨h1.grown hg h1.size (fun j hj => by have := (hr j hj).1; omega), blk_grown h2 hg hr, blk_grown h3 hg hr, blk_grown h4 hg hr, blk_grown h5 hg hr, Ds, h6, h6n, fun D hD => ⟨(h6a D hD).1, ?_⟩⟩
  have hD' : D < B := hlt D (by rw [h6]; exact List.mem_map.2 ⟨D, hD, rfl⟩)
  refine (hg.block D (Array.getElem?_eq_some_iff.1 (h6a D hD).2).1 fun e => ?_).trans (h6a D hD).2
  have := (hr D e.symm).1
  omega
theorem PvSt.lt (h : PvSt w s An Ao Au cn co n cu x e ds X) : ∀ D, ({ target := .collected D, args := #[] } : Deferred) ∈ ds → D < X.heap.size := by
  intro D hD
  obtain ⟨Ds, h4, -, h4a⟩ := h.defs
  rw [h4] at hD
  obtain ⟨D', hD', e⟩ := List.mem_map.1 hD
  cases e
  exact (Array.getElem?_eq_some_iff.1 (h4a _ hD').2).1
theorem PvSt.range {D : Nat} (h : PvSt w s An Ao Au cn co n cu x e ds X) (hlt : ∀ D', ({ target := .collected D', args := #[] } : Deferred) ∈ ds → D' < D) (hw : w.heap.size ≤ D) (hK : X.heap[D]? = some (.deferred (some []))) : PvSt w s An Ao Au cn co n cu x e ({ target := .collected D, args := #[] } :: ds) X := by
  obtain ⟨h1, h2, h3, h4, h5, Ds, h6, h6n, h6a⟩ := h
  refine ⟨h1, h2, h3, h4, h5, D :: Ds, by rw [h6]; rfl, List.nodup_cons.2 ⟨fun hD => ?_, h6n⟩, fun D' hD => ?_⟩
  · have := hlt D (by rw [h6]; exact List.mem_map.2 ⟨D, hD, rfl⟩)
    omega
  · rcases List.mem_cons.1 hD with rfl | hD
    · exact ⟨hw, hK⟩
    · exact h6a D' hD
/-- Both results are written, in either order. -/
theorem PvSt.put (h : PvSt w s An Ao Au cn co n cu x e ds X) (x' e' : Int) : PvSt w s An Ao Au cn co n cu x' e' ds ((X.setCell ⟨w.heap.size + 1 + 1, 0, none⟩ (.int .i64 x')).setCell ⟨w.heap.size + 1 + 1 + 1, 0, none⟩ (.int .i64 e')) := by
  obtain ⟨h1, h2, h3, h4, h5, h6⟩ := h
  have hK1 : KeptBut (fun k => k = w.heap.size + 1 + 1 ∨ k = w.heap.size + 1 + 1 + 1) X (X.setCell ⟨w.heap.size + 1 + 1, 0, none⟩ (.int .i64 x')) := KeptBut.setCell (.inl rfl) _
  have hK2 : KeptBut (fun k => k = w.heap.size + 1 + 1 ∨ k = w.heap.size + 1 + 1 + 1) (X.setCell ⟨w.heap.size + 1 + 1, 0, none⟩ (.int .i64 x')) ((X.setCell ⟨w.heap.size + 1 + 1, 0, none⟩ (.int .i64 x')).setCell ⟨w.heap.size + 1 + 1 + 1, 0, none⟩ (.int .i64 e')) := KeptBut.setCell (.inr rfl) _
  have hK := hK1.trans hK2 fun _ _ h => h
  refine ⟨h1.trans (hK.below (fun k hk => by omega) h1.size), hK.blk h2 (by omega), hK.blk h3 (by omega), ?_, ?_, h6.keep fun D _ hD => hK.block D (Array.getElem?_eq_some_iff.1 hD).1 fun e => ?_⟩
  · exact (Below.heap_setCell _ ⟨w.heap.size + 1 + 1 + 1, 0, none⟩ _ (w.heap.size + 1 + 1) (by show w.heap.size + 1 + 1 ≠ w.heap.size + 1 + 1 + 1; omega)).trans (h4.put 0 (.int .i64 x'))
  · exact Blk.put ((Below.heap_setCell X ⟨w.heap.size + 1 + 1, 0, none⟩ _ (w.heap.size + 1 + 1 + 1) (by show w.heap.size + 1 + 1 + 1 ≠ w.heap.size + 1 + 1; omega)).trans h5) 0 (.int .i64 e')
  · rcases e with e | e
    · subst e
      have := h4.symm.trans hD
      simp at this
    · subst e
      have := h5.symm.trans hD
      simp at this
end
end Go.Proofs.Ytpkepacbondopaa
