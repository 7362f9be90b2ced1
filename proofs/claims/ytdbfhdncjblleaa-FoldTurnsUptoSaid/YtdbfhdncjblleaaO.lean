/-
  layout: the spots of each section of each copy.
-/
import Derived.Test.YtdbfhdncjblleaaN
namespace Go.Proofs.Ytdbfhdncjblleaa
open Go.RowKit

def layoutD (r : RunD) : List (List (List SpotD)) := if r.coll then [collectedD r] else (List.range (rows0 r).toNat).map fun (row : Nat) => straightD r row
theorem layout_coll {r : RunD} (h : r.coll = true) : layoutD r = [collectedD r] := by unfold layoutD; rw [if_pos h]
theorem layout_straight {r : RunD} (h : r.coll = false) : layoutD r = (List.range (rows0 r).toNat).map fun (row : Nat) => straightD r row := by unfold layoutD; rw [h]; rfl

/-- One element in a slice of its own. -/
theorem OCopies.one {base : Nat} {w : World} {u : Value} {l : List (List SpotD)} (hb : base ≤ w.heap.size) (h : OSecs base w u l) : OCopies base (w.alloc (.cells #[u] 115)) (.slice (some ⟨w.heap.size, 0, none⟩) 1 1) [l] := by
  refine ⟨[u], ⟨rfl, .inr ⟨w.heap.size, 1, #[u], rfl, hb, heap_alloc_new w _, Nat.le_refl _, by simp [maxLen], rfl, rfl⟩⟩, fun i x y hx hy => ?_⟩
  have hi : i = 0 := by
    rcases Nat.eq_zero_or_pos i with h0 | h0
    · exact h0
    · rw [List.getElem?_eq_none (by simp; omega)] at hx; cases hx
  subst hi
  simp only [List.getElem?_cons_zero, Option.some.injEq] at hx hy
  subst hx hy
  exact h.below ((Below.refl _ w).alloc (Nat.le_refl _) _)

set_option maxRecDepth 100000 in
set_option maxHeartbeats 1000000 in
theorem layout_any (v : Value) (r : RunD) (w : World) (h : RRun w.heap.size w v r) (hok : checkE r = 0) :
    Calls Try.prog 43 #[v] w fun e w' => ∃ u, e = .returned u ∧ OCopies w.heap.size w' u (layoutD r) ∧ Below w.heap.size w w' := by
  obtain ⟨i0, hi, hz0, hz1, hz2⟩ := info_parts infoSecs
  have hrun := Lib.hid h
  have Hok := Lib.hid hok
  have hn1 := (numbers_ok (parts_ok hok 0 (by omega))).1
  have hr2 := rows_two hok
  obtain ⟨v1, v2, v3, rfl, hw, -, -⟩ := h
  obtain ⟨A2, ca2, rfl, hA2, hW⟩ := hw.open_
  obtain ⟨y, hy⟩ : ∃ y, r.webs[0]? = some y := ⟨_, List.getElem?_eq_getElem hn1⟩
  obtain ⟨g0, o0, u0, rfl, hb0, -, hw2, -, -⟩ := hW 0 y hy
  simp only [Nat.zero_mul, Nat.add_zero] at hw2
  have hry : rows0 r = y.rows := by unfold rows0; rw [getD_of hy]
  obtain ⟨q, hq⟩ : ∃ q : Nat, rows0 r = q := ⟨(rows0 r).toNat, by omega⟩
  rw [← hry, hq] at hw2
  rw [hq] at hr2
  have Hq := Lib.hid hq
  have Hw2 := Lib.hid hw2
  have i0' : (0 : Int) < (r.webs.length : Int) := by omega
  clear hok hw hW hw2 hry hq hy
  have b0 : Below w.heap.size w (w.alloc (.cells #[.slice (some ⟨g0, o0, none⟩) r.webs.length ca2, v2, v3, .bool r.coll] 111)) := (Below.refl _ _).alloc (Nat.le_refl _) _
  have c0 := fun j x => box4 (w := w) (a := .slice (some ⟨g0, o0, none⟩) r.webs.length ca2) (b := v2) (c := v3) (d := .bool r.coll) (t := 111) j x
  have z0 : (w.alloc (.cells #[.slice (some ⟨g0, o0, none⟩) r.webs.length ca2, v2, v3, .bool r.coll] 111)).heap.size = w.heap.size + 1 := by simp
  have C0 := Lib.hid c0
  have B0 := Lib.hid b0
  have Z0 := Lib.hid z0
  clear c0 b0 z0
  cases hcoll : r.coll
  · have Hl := Lib.hid (layout_straight hcoll)
    rw [hcoll] at C0 B0 Z0 hrun
    clear hcoll
    have hw3 := (B0.out.cell (p := ⟨g0, o0 + 1, none⟩) hb0).trans Hw2.out
    go_enter Try.func43, Try.ntmps43
    go_wp2
    clear hw3
    generalize w.alloc (.cells #[.slice (some ⟨g0, o0, none⟩) r.webs.length ca2, v2, v3, .bool false] 111) = w1 at *
    go_loopw [3, 17] (fun u i wr => ∃ k : Nat, k ≤ q ∧ i = .int .i64 k ∧ OCopies (w.heap.size + 1) wr u ((layoutD r).take k) ∧ Below (w.heap.size + 1) w1 wr ∧ w.heap.size + 1 ≤ wr.heap.size) (fun _ i _ => q - (intOf i).toNat)
    case atStart => exact ⟨0, Nat.zero_le _, rfl, ⟨_, OAll.nil⟩, Below.refl _ _, by rw [Z0.out]; exact Nat.le_refl _⟩
    case round =>
      obtain ⟨k, hk, rfl, ⟨vs, ho⟩, hB, zr⟩ := hrel
      have hBw : Below w.heap.size w wr := B0.out.trans (hB.mono (by omega))
      by_cases hlt : k < q
      · have d0 := (hB.cell (p := ⟨w.heap.size, 0, none⟩) (by simp)).trans (C0.out 0 _ rfl)
        have d1 := (hB.cell (p := ⟨w.heap.size, 1, none⟩) (by simp)).trans (C0.out 1 _ rfl)
        have d2 := (hB.cell (p := ⟨w.heap.size, 2, none⟩) (by simp)).trans (C0.out 2 _ rfl)
        have d3 := (hB.cell (p := ⟨w.heap.size, 3, none⟩) (by simp)).trans (C0.out 3 _ rfl)
        have C := Lib.hid (straight_any _ r k wr ((hrun.out.below hBw).more hBw.size) Hok.out)
        have HX : Hid ((layoutD r).take (k + 1) = (layoutD r).take k ++ [straightD r k]) := by
          show (layoutD r).take (k + 1) = (layoutD r).take k ++ [straightD r k]
          rw [Hl.out]
          exact take_map_next (fun (row : Nat) => straightD r row) (by rw [List.getElem?_range (by rw [Hq.out]; omega)])
        have hlen : ((layoutD r).take k).length ≤ 100 := by rw [List.length_take]; omega
        go_wp2_with fail
        refine C.out.mono ?_
        rintro e w3 ⟨u, rfl, hu, hb3⟩
        have ho3 := ho.below hb3 fun _ _ hr => hr.below hb3
        have hu3 : OSecs (w.heap.size + 1) w3 u (straightD r k) := hu.base_ zr
        have hB3 := hB.trans (hb3.mono zr)
        have zr3 : w.heap.size + 1 ≤ w3.heap.size := Nat.le_trans zr hb3.size
        obtain ⟨us, hus⟩ := hu
        obtain ⟨A7, c7, rfl⟩ := ownsRow_form hus.1
        have hl3 := ho3.1
        clear d0 d1 d2 d3 hb3 hB hus
        go_wp2_with (at_builtin; refine wpList_append_own _ rfl _ _ 113 rfl (w.heap.size + 1) 115 i0 (.slice none 0 0) 1 24 Try.underlying113 hi hz0 hz1 hz2 rfl (by decide) _ _ _ rfl (hl3.alloc _) ⟨w3.heap.size, 0, none⟩ 1 1 [.slice A7 (straightD r k).length c7] rfl rfl (cells_new _ _ _) (by simp [Value.oneCell']) (by simp only [maxLen]; omega) (by omega) (by simp; omega) ?_; intro v' w4 hown' hgrow _)
        have hgr : Grew 115 w3 w4 := Grew.of_append hl3 hgrow
        have hB4 : Below (w.heap.size + 1) w1 w4 := (hB3.alloc zr3 _).grown hgrow (by simp; omega) fun k hk => (hl3.lt k hk).1
        have ho4 : OCopies (w.heap.size + 1) w4 v' ((layoutD r).take (k + 1)) := ⟨vs ++ [.slice A7 (straightD r k).length c7], by
          rw [HX.out]
          exact ho3.append (fun _ _ hr => OSecs.grew hr hgr (by decide) (by decide)) hu3 hown'⟩
        have zr4 : w.heap.size + 1 ≤ w4.heap.size := by have := hgrow.size; simp at this; omega
        clear hown' hgrow hl3 ho3 hgr
        go_wp2
        go_roundw
        case rel => exact ⟨k + 1, by omega, by go_num, ho4, hB4, zr4⟩
        case measure => simp [intOf]; omega
      · have hall : (layoutD r).take k = layoutD r := List.take_of_length_le (by rw [Hl.out, List.length_map, List.length_range, Hq.out]; omega)
        rw [hall] at ho
        have ho2 : OCopies w.heap.size wr u3 (layoutD r) := OCopies.base_ ⟨_, ho⟩ (by omega)
        go_wp2
        go_ret
        exact ⟨_, rfl, ho2, hBw⟩
  · have Hl := Lib.hid (layout_coll hcoll)
    rw [hcoll] at C0 B0 Z0 hrun
    clear hcoll
    have C := Lib.hid (collected_copy _ r _ ((hrun.out.below B0.out).more B0.out.size) Hok.out)
    go_enter Try.func43, Try.ntmps43
    go_wp2_with fail
    refine C.out.mono ?_
    rintro e w3 ⟨u, rfl, hu, hb3⟩
    have hu2 : OSecs w.heap.size w3 u (collectedD r) := hu.base_ B0.out.size
    have z3 : w.heap.size ≤ w3.heap.size := Nat.le_trans B0.out.size hb3.size
    have ho := OCopies.one z3 hu2
    have hB3 : Below w.heap.size w w3 := B0.out.trans (hb3.mono B0.out.size)
    have hB4 : ∀ o, Below w.heap.size w (w3.alloc o) := fun o => hB3.alloc z3 o
    obtain ⟨us, hus⟩ := hu
    obtain ⟨A7, c7, rfl⟩ := ownsRow_form hus.1
    clear hus hu2
    go_wp2
    go_ret
    exact ⟨_, rfl, by rw [Hl.out]; exact ho, hB4 _⟩
end Go.Proofs.Ytdbfhdncjblleaa
