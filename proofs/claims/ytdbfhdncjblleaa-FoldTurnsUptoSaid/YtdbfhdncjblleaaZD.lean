/-
  The kit's copies and comparisons of lists.
-/
import Derived.Test.YtdbfhdncjblleaaZC
import Derived.Laws.AppendOwnNone
namespace Go.Proofs.Ytdbfhdncjblleaa
open Go.RowKit

set_option maxHeartbeats 2000000 in
set_option maxRecDepth 100000 in
theorem CopyInts_any (v : Value) (l : List Int) (w : World) (h : RInts w.heap.size w v l) (hn : l.length ≤ 1048576) :
    Calls Try.prog 71 #[v] w fun e w' => ∃ u, e = .returned u ∧ OInts w.heap.size w' u l ∧ Below w.heap.size w w' := by
  obtain ⟨i0, hi, hz0, hz1, hz2⟩ := info_parts infoInt0
  obtain ⟨A, c, rfl, hl, h0, hc⟩ := rd_slice h
  rcases A with - | a
  · have h2 : l.length = 0 := by
      rcases Nat.eq_zero_or_pos l.length with h | h
      · exact h
      · exact absurd rfl (h0 h)
    have hx : l = [] := List.eq_nil_of_length_eq_zero h2
    subst hx
    clear h h0 hc hl h2 hn
    simp only [List.length_nil]
    have u22 : ∀ w, Sem.run Try.prog (underlying 48) w = .ok (TypeDesc.slice 3) w := run_underlying sliceInts
    go_enter Try.func71, Try.ntmps71
    go_wp2
    go_ret
    exact ⟨_, rfl, World.ownsRow_nil _ _ _ _, Below.refl _ _⟩
  · have HC := Lib.hid (hc a rfl)
    have HL := Lib.hid hl
    clear h h0 hc hl
    go_enter Try.func71, Try.ntmps71
    go_wp2_with (at_builtin; refine wpList_append_own _ rfl _ _ 48 rfl w.heap.size 3 i0 _ 1 8 sliceInts hi hz0 hz1 hz2 rfl (by decide) (.slice none 0 0) 0 [] rfl (World.ownsRow_nil w _ _ _) a l.length c (l.map (Value.int .i64)) rfl HL.out HC.out (int_cells_one l) (by simp only [maxLen]; omega) (by omega) (by omega) ?_; intro v' w1 hown hgrow _)
    go_wp2
    go_ret
    exact ⟨v', rfl, by unfold OInts; simpa using hown, (Below.refl w.heap.size w).grown hgrow (by omega) (by intro k hk; simp [Value.ownBlock] at hk)⟩

set_option maxHeartbeats 2000000 in
set_option maxRecDepth 100000 in
theorem CopyList_any (v : Value) (l : List Int) (w : World) (h : RInts w.heap.size w v l) (hn : l.length ≤ 1048576) :
    Calls Try.prog 53 #[v] w fun e w' => ∃ u, e = .returned u ∧ OInts w.heap.size w' u l ∧ Below w.heap.size w w' := by
  have HC := Lib.hid (CopyInts_any v l w h hn)
  clear h
  go_enter Try.func53, Try.ntmps53
  go_wp2_with fail
  refine HC.out.mono ?_
  rintro e w2 ⟨u, rfl, hu, hb⟩
  go_wp2
  go_ret
  exact ⟨_, rfl, hu, hb⟩

set_option maxHeartbeats 2000000 in
set_option maxRecDepth 100000 in
theorem CopyLists_any (v : Value) (l : List (List Int)) (w : World) (h : RIntss w.heap.size w v l) (hn : l.length ≤ 1048576) (hs : ∀ x ∈ l, x.length ≤ 1048576) :
    Calls Try.prog 30 #[v] w fun e w' => ∃ u, e = .returned u ∧ OIntss w.heap.size w' u l ∧ Below w.heap.size w w' := by
  obtain ⟨i2, hi2, hs0, hs1, hs2⟩ := info_parts infoInts0
  obtain ⟨A, c, rfl, -, hA⟩ := RAll.open_ h
  have HA := Lib.hid hA
  have HS := Lib.hid hs
  clear h hA hs
  go_enter Try.func30, Try.ntmps30
  go_wp2
  go_loopw [3, 4] (fun u i wr => ∃ k : Nat, k ≤ l.length ∧ i = .int .i64 k ∧ OIntss w.heap.size wr u (l.take k) ∧ Below w.heap.size w wr) (fun _ i _ => l.length - (intOf i).toNat)
  case atStart => exact ⟨0, Nat.zero_le _, rfl, ⟨_, OAll.nil⟩, Below.refl _ _⟩
  case round =>
    obtain ⟨k, hk, rfl, ⟨ws, hws⟩, hB⟩ := hrel
    by_cases hlt : k < l.length
    · obtain ⟨x, hx⟩ : ∃ x, l[k]? = some x := ⟨_, List.getElem?_eq_getElem hlt⟩
      obtain ⟨g, o, u, rfl, hb, hc1, hp⟩ := HA.out k x hx
      rw [← hB.cell (p := ⟨g, o + k, none⟩) hb] at hc1
      obtain ⟨A5, c5, rfl, -⟩ := rd_slice hp
      have hC := CopyList_any _ x wr ((hp.below hB).more hB.size) (HS.out x (List.mem_of_getElem? hx))
      have HC := Lib.hid hC
      have HT : Hid (l.take (k + 1) = l.take k ++ [x]) := by
        show l.take (k + 1) = l.take k ++ [x]
        rw [List.take_add_one, hx]; rfl
      have HL : Hid ((l.take k).length = k) := by show (l.take k).length = k; rw [List.length_take]; omega
      have hown := hws.1
      rw [HL.out] at hown
      have HWS := Lib.hid hws
      clear hx hp hC hws hb
      go_wp2_with fail
      refine HC.out.mono ?_
      rintro e w5 ⟨u', rfl, hu, h5⟩
      obtain ⟨A8, c8, rfl⟩ := ownsRow_form hu
      have hown5 := ownsRow_below hown h5
      have hsz := h5.size
      have hsz1 := hB.size
      clear hc1 hown
      go_wp2_with (at_builtin; refine wpList_append_own _ rfl _ _ 24 rfl w.heap.size 48 i2 (.slice none 0 0) 1 24 Try.underlying24 hi2 hs0 hs1 hs2 rfl (by decide) _ k ws rfl (hown5.alloc _) ⟨w5.heap.size, 0, none⟩ 1 1 [.slice A8 x.length c8] rfl rfl (cells_new _ _ _) (by simp [Value.oneCell']) (by simp only [maxLen]; omega) (by omega) (by simp; omega) ?_; intro v' w6 hown' hgrow _)
      have ho6 : OIntss w.heap.size w6 v' (l.take (k + 1)) := by
        rw [HT.out]
        exact OIntss.append (HWS.out.below h5 fun _ _ hr => ownsRow_below hr h5) (ownsRow_base hu hsz1) (Grew.of_append hown5 hgrow) (by rw [HL.out]; exact hown')
      have hB6 : Below w.heap.size w w6 := ((hB.trans (h5.mono hsz1)).alloc (by omega) _).grown hgrow (by simp; omega) fun j hj => (hown5.lt j hj).1
      clear hown' hgrow hown5 hu h5 hB
      go_wp2
      go_roundw
      case rel => exact ⟨k + 1, by omega, by go_num, ho6, hB6⟩
      case measure => simp [intOf]; omega
    · have hall : l.take k = l := List.take_of_length_le (by omega)
      rw [hall] at hws
      have HW := Lib.hid hws
      clear hws hall
      go_wp2
      go_ret
      exact ⟨_, rfl, ⟨_, HW.out⟩, hB⟩

end Go.Proofs.Ytdbfhdncjblleaa
