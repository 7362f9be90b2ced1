/-
  Subscribers side by side in memory.
-/
import Derived.Test.YtlmpbmlbllndcaaCd
namespace Go.Proofs.Ytlmpbmlbllndcaa
open Go.RowKit

def subCells (x : SubD × Value) : List Value := [.int .i64 x.1.id, .int .i64 x.1.from_, .int .i64 x.1.to_, .int .i64 x.1.days, x.2]
/-- Subscribers in memory: each with a slice of spans of its own. -/
def RSubs (B : Nat) (w : World) (v : Value) (l : List SubD) : Prop :=
  ∃ us : List Value, us.length = l.length ∧ Rd B w 5 v l.length ((l.zip us).flatMap subCells) ∧ ∀ (i : Nat) (u : Value) (s : SubD), us[i]? = some u → l[i]? = some s → RSpans B w u s.hol
theorem RSubs.below {B : Nat} {w w' : World} {v : Value} {l : List SubD} (h : RSubs B w v l) (hb : Below B w w') : RSubs B w' v l := by
  obtain ⟨us, h1, h2, h3⟩ := h
  exact ⟨us, h1, Rd.below h2 hb, fun i u s hu hs => Rd.below (h3 i u s hu hs) hb⟩
theorem RSubs.more {B B' : Nat} {w : World} {v : Value} {l : List SubD} (h : RSubs B w v l) (hB : B ≤ B') : RSubs B' w v l := by
  obtain ⟨us, h1, h2, h3⟩ := h
  exact ⟨us, h1, Rd.more h2 hB, fun i u s hu hs => Rd.more (h3 i u s hu hs) hB⟩
/-- Subscribers by place, each at any later world. -/
theorem subs_later {w : World} {v : Value} {l : List SubD} (h : RSubs w.heap.size w v l) : ∃ A c, v = .slice A l.length c ∧ l.length ≤ 9223372036854775807 ∧ Hid (∀ k s, l[k]? = some s → ∃ g o u, A = some ⟨g, o, none⟩ ∧ Hid (∀ X, Below w.heap.size w X → (X.cell? ⟨g, o + k * 5, none⟩ = some (.int .i64 s.id) ∧ X.cell? ⟨g, o + k * 5 + 1, none⟩ = some (.int .i64 s.from_) ∧ X.cell? ⟨g, o + k * 5 + 2, none⟩ = some (.int .i64 s.to_) ∧ X.cell? ⟨g, o + k * 5 + 3, none⟩ = some (.int .i64 s.days) ∧ X.cell? ⟨g, o + k * 5 + 4, none⟩ = some u) ∧ RSub X.heap.size X (.agg #[.int .i64 s.id, .int .i64 s.from_, .int .i64 s.to_, .int .i64 s.days, u]) s)) := by
  obtain ⟨us, hu, ⟨A, c, rfl, -, hm, hr⟩, hs⟩ := h
  refine ⟨A, c, rfl, by simpa [maxLen] using hm, fun k s hk => ?_⟩
  have hkl : k < l.length := (List.getElem?_eq_some_iff.1 hk).1
  obtain ⟨u, hku⟩ : ∃ u, us[k]? = some u := ⟨_, List.getElem?_eq_getElem (by omega)⟩
  have hz : (l.zip us)[k]? = some (s, u) := List.getElem?_zip_eq_some.2 ⟨hk, hku⟩
  obtain ⟨g, o, hA, hb, hc⟩ := hr (by omega)
  have hf := fun j hj => flat_at subCells 5 (fun _ => rfl) _ k j _ hz hj
  refine ⟨g, o, u, hA, fun X hX => ⟨⟨(hX.cell (p := ⟨g, o + k * 5, none⟩) hb).trans (hc _ _ (hf 0 (by omega))), (hX.cell (p := ⟨g, o + k * 5 + 1, none⟩) hb).trans (hc _ _ (hf 1 (by omega))), (hX.cell (p := ⟨g, o + k * 5 + 2, none⟩) hb).trans (hc _ _ (hf 2 (by omega))), (hX.cell (p := ⟨g, o + k * 5 + 3, none⟩) hb).trans (hc _ _ (hf 3 (by omega))), (hX.cell (p := ⟨g, o + k * 5 + 4, none⟩) hb).trans (hc _ _ (hf 4 (by omega)))⟩, ⟨u, rfl, (Rd.below (hs k u s hku hk) hX).more hX.size⟩⟩⟩
end Go.Proofs.Ytlmpbmlbllndcaa
