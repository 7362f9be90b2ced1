/-
  The reference's Read on a desk with its blocks.
-/
import Derived.Test.YtffodgpafiifcaaQc
import Derived.Test.YtffodgpafiifcaaQd
namespace Go.Proofs.Ytffodgpafiifcaa
open Go.RowKit

theorem QSt.read {X : World} {mp ml pc : Value} {d : DeskD} {P : Nat → Prop} (h : QSt mp ml pc d P X) (hok : DeskOk d) (v : Value) (seen : List Int) (hv : RInts X.heap.size X v seen) (hl : seen.length ≤ 1000000) :
    Calls Try.prog 33 #[.agg #[mp, ml, .int .i64 d.W, .int .i64 d.limit, pc], v] X (RRead mp ml d P seen X) := by
  obtain ⟨h1, es, h2⟩ := h
  refine (refRead_any mp ml pc d es X (h2 X (fun _ _ => rfl) (Nat.le_refl _)) hok v seen hv hl).mono ?_
  rintro e w' ⟨c, code, d', pc', ue, um, rfl, his, hor, hue, hum, hb⟩
  rcases hor with ⟨rfl, rfl⟩ | ⟨rfl, hrow⟩
  · exact ⟨c, code, d', pc', ue, um, P, rfl, his, QSt.below ⟨h1, es, h2⟩ hb, fun k hk => .inl hk, hue, hum, hb⟩
  · refine ⟨c, code, d.add c, pc', ue, um, fun k => P k ∨ (X.heap.size ≤ k ∧ k < w'.heap.size), rfl, his, ⟨fun k hk => ?_, es ++ [(ue, um)], fun Y hY hs => ?_⟩, fun k hk => hk, hue, hum, hb⟩
    · rcases hk with hk | hk
      · exact Nat.lt_of_lt_of_le (h1 k hk) hb.size
      · exact hk.2
    · have hd := h2 Y (fun p hp => (hY p (.inl hp)).trans (hb.cell (h1 _ hp))) (Nat.le_trans hb.size hs)
      have hn : ∀ p : Addr, X.heap.size ≤ p.block → p.block < w'.heap.size → Y.cell? p = w'.cell? p := fun p a b => hY p (.inr ⟨a, b⟩)
      refine ⟨hd.marks, hd.loops, ?_, ?_, fun i c9 e9 hc9 he9 => ?_⟩
      · show Rd _ _ _ _ (d.copies ++ [c]).length _
        rw [List.length_append]
        exact own_agree hrow hn hs
      · show (es ++ [(ue, um)]).length = (d.copies ++ [c]).length
        rw [List.length_append, List.length_append, hd.len]
        rfl
      · have hc9' : (d.copies ++ [c])[i]? = some c9 := hc9
        rcases snoc_get hc9' with ⟨hi9, hc8⟩ | ⟨hi9, rfl⟩
        · have he8 : es[i]? = some e9 := by rwa [List.getElem?_append_left (by rw [hd.len]; exact hi9)] at he9
          exact hd.each i c9 e9 hc8 he8
        · have he8 : e9 = (ue, um) := by
            rw [hi9, ← hd.len, List.getElem?_concat_length] at he9
            cases he9
            rfl
          subst he8
          exact ⟨oints_agree hue hn hs, oints_agree hum hn hs⟩
end Go.Proofs.Ytffodgpafiifcaa
