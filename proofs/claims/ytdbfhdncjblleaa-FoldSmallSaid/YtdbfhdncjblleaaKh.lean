/-
  The kit's copies and comparisons of lists.
  The kit's comparison of lists of lists.
  Own: a run of the program made of a run of the reference.
  Own: the walk.
-/
import Derived.Laws.AppendOwnNone
import Derived.Test.YtdbfhdncjblleaaKg
namespace Go.Proofs.Ytdbfhdncjblleaa
open Go.RowKit

set_option maxHeartbeats 2000000 in
set_option maxRecDepth 100000 in
theorem CopyInts_any (v : Value) (l : List Int) (w : World) (h : RInts w.heap.size w v l) (hn : l.length ≤ 1048576) :
    Calls Try.prog 71 #[v] w fun e w' => ∃ u, e = .returned u ∧ OInts w.heap.size w' u l ∧ Below w.heap.size w w' := by
  obtain ⟨i0, hi, hz0, hz1, hz2⟩ := info_parts infoInt0
  obtain ⟨A, c, rfl, hl, h0, hc⟩ := rd_slice h
  rcases A with - | a
  · have h2 : l.length = 0 := by
      rcases Nat.eq_zero_or_pos l.length with h | h
      · exact h
      · exact absurd rfl (h0 h)
    have hx : l = [] := List.eq_nil_of_length_eq_zero h2
    subst hx
    clear h h0 hc hl h2 hn
    simp only [List.length_nil]
    have u22 : ∀ w, Sem.run Try.prog (underlying 48) w = .ok (TypeDesc.slice 3) w := run_underlying sliceInts
    go_enter Try.func71, Try.ntmps71
    go_wp2
    go_ret
    exact ⟨_, rfl, World.ownsRow_nil _ _ _ _, Below.refl _ _⟩
  · have HC := Lib.hid (hc a rfl)
    have HL := Lib.hid hl
    clear h h0 hc hl
    go_enter Try.func71, Try.ntmps71
    go_wp2_with (at_builtin; refine wpList_append_own _ rfl _ _ 48 rfl w.heap.size 3 i0 _ 1 8 sliceInts hi hz0 hz1 hz2 rfl (by decide) (.slice none 0 0) 0 [] rfl (World.ownsRow_nil w _ _ _) a l.length c (l.map (Value.int .i64)) rfl HL.out HC.out (int_cells_one l) (by simp only [maxLen]; omega) (by omega) (by omega) ?_; intro v' w1 hown hgrow _)
    go_wp2
    go_ret
    exact ⟨v', rfl, by unfold OInts; simpa using hown, (Below.refl w.heap.size w).grown hgrow (by omega) (by intro k hk; simp [Value.ownBlock] at hk)⟩

set_option maxHeartbeats 2000000 in
set_option maxRecDepth 100000 in
theorem CopyList_any (v : Value) (l : List Int) (w : World) (h : RInts w.heap.size w v l) (hn : l.length ≤ 1048576) :
    Calls Try.prog 53 #[v] w fun e w' => ∃ u, e = .returned u ∧ OInts w.heap.size w' u l ∧ Below w.heap.size w w' := by
  have HC := Lib.hid (CopyInts_any v l w h hn)
  clear h
  go_enter Try.func53, Try.ntmps53
  go_wp2_with fail
  refine HC.out.mono ?_
  rintro e w2 ⟨u, rfl, hu, hb⟩
  go_wp2
  go_ret
  exact ⟨_, rfl, hu, hb⟩

set_option maxHeartbeats 2000000 in
set_option maxRecDepth 100000 in
theorem CopyLists_any (v : Value) (l : List (List Int)) (w : World) (h : RIntss w.heap.size w v l) (hn : l.length ≤ 1048576) (hs : ∀ x ∈ l, x.length ≤ 1048576) :
    Calls Try.prog 30 #[v] w fun e w' => ∃ u, e = .returned u ∧ OIntss w.heap.size w' u l ∧ Below w.heap.size w w' := by
  obtain ⟨i2, hi2, hs0, hs1, hs2⟩ := info_parts infoInts0
  obtain ⟨A, c, rfl, -, hA⟩ := RAll.open_ h
  have HA := Lib.hid hA
  have HS := Lib.hid hs
  clear h hA hs
  go_enter Try.func30, Try.ntmps30
  go_wp2
  go_loopw [3, 4] (fun u i wr => ∃ k : Nat, k ≤ l.length ∧ i = .int .i64 k ∧ OIntss w.heap.size wr u (l.take k) ∧ Below w.heap.size w wr) (fun _ i _ => l.length - (intOf i).toNat)
  case atStart => exact ⟨0, Nat.zero_le _, rfl, ⟨_, OAll.nil⟩, Below.refl _ _⟩
  case round =>
    obtain ⟨k, hk, rfl, ⟨ws, hws⟩, hB⟩ := hrel
    by_cases hlt : k < l.length
    · obtain ⟨x, hx⟩ : ∃ x, l[k]? = some x := ⟨_, List.getElem?_eq_getElem hlt⟩
      obtain ⟨g, o, u, rfl, hb, hc1, hp⟩ := HA.out k x hx
      rw [← hB.cell (p := ⟨g, o + k, none⟩) hb] at hc1
      obtain ⟨A5, c5, rfl, -⟩ := rd_slice hp
      have hC := CopyList_any _ x wr ((hp.below hB).more hB.size) (HS.out x (List.mem_of_getElem? hx))
      have HC := Lib.hid hC
      have HT : Hid (l.take (k + 1) = l.take k ++ [x]) := by
        show l.take (k + 1) = l.take k ++ [x]
        rw [List.take_add_one, hx]; rfl
      have HL : Hid ((l.take k).length = k) := by show (l.take k).length = k; rw [List.length_take]; omega
      have hown := hws.1
      rw [HL.out] at hown
      have HWS := Lib.hid hws
      clear hx hp hC hws hb
      go_wp2_with fail
      refine HC.out.mono ?_
      rintro e w5 ⟨u', rfl, hu, h5⟩
      obtain ⟨A8, c8, rfl⟩ := ownsRow_form hu
      have hown5 := ownsRow_below hown h5
      have hsz := h5.size
      have hsz1 := hB.size
      clear hc1 hown
      go_wp2_with (at_builtin; refine wpList_append_own _ rfl _ _ 24 rfl w.heap.size 48 i2 (.slice none 0 0) 1 24 Try.underlying24 hi2 hs0 hs1 hs2 rfl (by decide) _ k ws rfl (hown5.alloc _) ⟨w5.heap.size, 0, none⟩ 1 1 [.slice A8 x.length c8] rfl rfl (cells_new _ _ _) (by simp [Value.oneCell']) (by simp only [maxLen]; omega) (by omega) (by simp; omega) ?_; intro v' w6 hown' hgrow _)
      have ho6 : OIntss w.heap.size w6 v' (l.take (k + 1)) := by
        rw [HT.out]
        exact OIntss.append (HWS.out.below h5 fun _ _ hr => ownsRow_below hr h5) (ownsRow_base hu hsz1) (Grew.of_append hown5 hgrow) (by rw [HL.out]; exact hown')
      have hB6 : Below w.heap.size w w6 := ((hB.trans (h5.mono hsz1)).alloc (by omega) _).grown hgrow (by simp; omega) fun j hj => (hown5.lt j hj).1
      clear hown' hgrow hown5 hu h5 hB
      go_wp2
      go_roundw
      case rel => exact ⟨k + 1, by omega, by go_num, ho6, hB6⟩
      case measure => simp [intOf]; omega
    · have hall : l.take k = l := List.take_of_length_le (by omega)
      rw [hall] at hws
      have HW := Lib.hid hws
      clear hws hall
      go_wp2
      go_ret
      exact ⟨_, rfl, ⟨_, HW.out⟩, hB⟩

end Go.Proofs.Ytdbfhdncjblleaa
namespace Go.Proofs.Ytdbfhdncjblleaa
open Go.RowKit

set_option maxHeartbeats 400000 in
theorem SameList_any (a b : Value) (l m : List Int) (w : World) (ha : RInts w.heap.size w a l) (hb : RInts w.heap.size w b m) :
    Calls Try.prog 61 #[a, b] w fun e w' => e = .returned (.bool (decide (l = m))) ∧ Below w.heap.size w w' := by
  have HC := Lib.hid (sameInts_any a b l m w ha hb)
  clear ha hb
  go_enter Try.func61, Try.ntmps61
  go_wp2_with fail
  refine HC.out.mono ?_
  rintro e w2 ⟨rfl, hb⟩
  go_wp2
  go_ret
  exact ⟨rfl, hb⟩

theorem ne_at2 {α : Type} {l m : List α} {k : Nat} {x y : α} (hx : l[k]? = some x) (hy : m[k]? = some y) (he : x ≠ y) : l ≠ m := by
  rintro rfl
  rw [hx] at hy
  exact he (Option.some.inj hy)
theorem take_next2 {α : Type} {l m : List α} {k : Nat} {x : α} (h : Hid (l.take k = m.take k)) (hx : l[k]? = some x) (hy : m[k]? = some x) : Hid (l.take (k + 1) = m.take (k + 1)) := by
  show l.take (k + 1) = m.take (k + 1)
  rw [List.take_add_one, List.take_add_one, h.out, hx, hy]

set_option maxHeartbeats 2000000 in
set_option maxRecDepth 100000 in
theorem SameLists_any (a b : Value) (l m : List (List Int)) (w : World) (ha : RIntss w.heap.size w a l) (hb : RIntss w.heap.size w b m) :
    Calls Try.prog 37 #[a, b] w fun e w' => e = .returned (.bool (decide (l = m))) ∧ Below w.heap.size w w' := by
  obtain ⟨A, c, rfl, hlm, hA⟩ := RAll.open_ ha
  obtain ⟨B, d, rfl, hmm, hB'⟩ := RAll.open_ hb
  have HA := Lib.hid hA
  have HB := Lib.hid hB'
  clear ha hb hA hB'
  by_cases hne : l.length = m.length
  · have Hn := Lib.hid hne
    clear hne
    rw [← Hn.out]
    go_enter Try.func37, Try.ntmps37
    go_wp2
    go_loopw [5] (fun i wr => ∃ k : Nat, k ≤ l.length ∧ i = .int .i64 k ∧ Hid (l.take k = m.take k) ∧ Below w.heap.size w wr) (fun i _ => l.length - (intOf i).toNat)
    case atStart => exact ⟨0, Nat.zero_le _, rfl, rfl, Below.refl _ _⟩
    case round =>
      obtain ⟨k, hk, rfl, ht, hB⟩ := hrel
      by_cases hlt : k < l.length
      · obtain ⟨x, hx⟩ : ∃ x, l[k]? = some x := ⟨_, List.getElem?_eq_getElem hlt⟩
        obtain ⟨y, hy⟩ : ∃ y, m[k]? = some y := ⟨_, List.getElem?_eq_getElem (by have := Hn.out; omega)⟩
        obtain ⟨g, o, u, rfl, hb1, hc1, hp⟩ := HA.out k x hx
        obtain ⟨g2, o2, u2, rfl, hb2, hc2, hp2⟩ := HB.out k y hy
        rw [← hB.cell (p := ⟨g, o + k, none⟩) hb1] at hc1
        rw [← hB.cell (p := ⟨g2, o2 + k, none⟩) hb2] at hc2
        obtain ⟨A5, c5, rfl, -⟩ := rd_slice hp
        obtain ⟨A6, c6, rfl, -⟩ := rd_slice hp2
        have hcall : ∀ X, Below wr.heap.size wr X → Calls Try.prog 61 #[.slice A5 x.length c5, .slice A6 y.length c6] X fun e w' => e = .returned (.bool (decide (x = y))) ∧ Below wr.heap.size wr w' := fun X hX => by
          have hX2 := hB.trans (hX.mono hB.size)
          exact (SameList_any _ _ x y X ((hp.below hX2).more hX2.size) ((hp2.below hX2).more hX2.size)).mono fun e w' he => ⟨he.1, hX.trans (he.2.mono hX.size)⟩
        have HX := Lib.hid hx
        have HY := Lib.hid hy
        clear hp hp2 hx hy hb1 hb2
        cases hxy : decide (x = y)
        · rw [hxy] at hcall
          have HC := Lib.hid hcall
          have HD : Hid (decide (l = m) = false) := by
            show decide (l = m) = false
            exact decide_eq_false (ne_at2 HX.out HY.out (of_decide_eq_false hxy))
          clear hcall hxy
          go_wp2_with fail
          go_still_tail 8, (by kernel_rfl)
          change wpList _ _ _ _ _ wr.drew
          go_wp2_with fail
          refine (HC.out _ (Below.refl _ _).drew).mono ?_
          rintro e w5 ⟨rfl, h5⟩
          have hB5 := hB.trans (h5.mono hB.size)
          clear hc1 hc2 hB h5
          go_wp2
          go_ret
          exact ⟨rb HD.out, hB5⟩
        · rw [hxy] at hcall
          have HC := Lib.hid hcall
          have hxe : x = y := of_decide_eq_true hxy
          have HT := take_next2 ht HX.out (by rw [hxe]; exact HY.out)
          clear hcall hxy hxe
          go_wp2_with fail
          go_still_tail 8, (by kernel_rfl)
          change wpList _ _ _ _ _ wr.drew
          go_wp2_with fail
          refine (HC.out _ (Below.refl _ _).drew).mono ?_
          rintro e w5 ⟨rfl, h5⟩
          have hB5 := hB.trans (h5.mono hB.size)
          clear hc1 hc2 hB h5
          go_wp2
          go_roundw
          case rel => exact ⟨k + 1, by omega, by go_num, HT, hB5⟩
          case measure => simp [intOf]; omega
      · have HD : Hid (decide (l = m) = true) := by
          show decide (l = m) = true
          have h1 := ht.out
          rw [List.take_of_length_le (by omega), List.take_of_length_le (by have := Hn.out; omega)] at h1
          exact decide_eq_true h1
        go_wp2
        go_ret
        exact ⟨rb HD.out, hB⟩
  · have hd : decide (l = m) = false := decide_eq_false fun h => hne (by rw [h])
    have HD := Lib.hid hd
    have hne' : ((l.length : Int) != (m.length : Int)) = true := by simp; omega
    clear hd
    go_enter Try.func37, Try.ntmps37
    go_wp2
    go_ret
    exact ⟨rb HD.out, Below.refl _ _⟩
end Go.Proofs.Ytdbfhdncjblleaa
namespace Go.Proofs.Ytdbfhdncjblleaa
open Go.RowKit

/-- What Own has made so far. -/
def OwnSt (w : World) (r : RunD) (box : Array Value) (B : Nat) (v1 : Value) (vs : List Value) (l1 : List WebD) (v2 : Value) (l2 : List RibD) (v3 : Value) (X : World) : Prop :=
  Blk X B 36 #[v1, v2, v3, .bool r.coll] ∧ OWebs w.heap.size X v1 vs l1 ∧ ORibs w.heap.size X v2 l2 ∧ OIntss w.heap.size X v3 r.stacks ∧ Below w.heap.size w X ∧
    Blk X w.heap.size 26 box ∧ Blk X (w.heap.size + 1) 36 #[.slice none 0 0, .slice none 0 0, .slice none 0 0, .bool false] ∧ w.heap.size + 1 < B
section
variable {w X X1 : World} {r : RunD} {box : Array Value} {B : Nat} {v1 v1' v2 v2' u : Value} {vs : List Value} {l1 : List WebD} {l2 : List RibD} {v3 : Value} {tmp : Obj}
theorem OwnSt.below (h : OwnSt w r box B v1 vs l1 v2 l2 v3 X) (hb : Below X.heap.size X X1) : OwnSt w r box B v1 vs l1 v2 l2 v3 X1 := by
  obtain ⟨h1, h2, h3, h4, h5, h6, h7, h8⟩ := h
  exact ⟨h1.below hb h1.lt, h2.below hb, ownsRow_below h3 hb, h4.below hb, h5.trans (hb.mono h5.size), h6.below hb h6.lt, h7.below hb h7.lt, h8⟩
theorem OwnSt.web {x : WebD} {b0 : Nat} (h : OwnSt w r box B v1 vs l1 v2 l2 v3 X)
    (hlt : ∀ (i : Nat) (u' : Value) (g : Nat), vs[i]? = some u' → u'.ownBlock = some g → g < b0) (hu : OPlates w.heap.size X u x.plates) (hge : ∀ g, u.ownBlock = some g → b0 ≤ g)
    (hg : (X.alloc tmp).grownBy X1 v1.ownBlock) (hown : X1.ownsRow w.heap.size 87 3 v1' (l1.length + 1) (webFlat l1 vs ++ webCells x u)) :
    OwnSt w r box B v1' (vs ++ [u]) (l1 ++ [x]) v2 l2 v3 (X1.setCell ⟨B, 0, none⟩ v1') := by
  obtain ⟨h1, h2, h3, h4, h5, h6, h7, h8⟩ := h
  have hgr : Grew 87 X X1 := Grew.of_append h2.1 hg
  have hB1 := h1.grew hgr (by decide)
  have hgs := Grew.set hB1 0 v1'
  have hb1 : Below w.heap.size w X1 := (h5.alloc h5.size tmp).grown hg (by have := h5.size; simp; omega) fun k hk => (h2.1.lt k hk).1
  refine ⟨?_, (h2.append hlt hu hge hgr hown).grew hgs (by decide) (by decide), ownsRow_grew (ownsRow_grew h3 hgr (by decide)) hgs (by decide), (h4.grew hgr (by decide) (by decide)).grew hgs (by decide) (by decide), hb1.setCell (p := ⟨B, 0, none⟩) (by show w.heap.size ≤ B; omega) _, (h6.grew hgr (by decide)).far (by show w.heap.size ≠ B; omega) _, (h7.grew hgr (by decide)).far (by show w.heap.size + 1 ≠ B; omega) _, h8⟩
  exact hB1.put 0 v1'
theorem OwnSt.rib {x : RibD} (h : OwnSt w r box B v1 vs l1 v2 l2 v3 X)
    (hg : (X.alloc tmp).grownBy X1 v2.ownBlock) (hown : X1.ownsRow w.heap.size 91 5 v2' (l2.length + 1) (l2.flatMap RibD.cells ++ x.cells)) :
    OwnSt w r box B v1 vs l1 v2' (l2 ++ [x]) v3 (X1.setCell ⟨B, 1, none⟩ v2') := by
  obtain ⟨h1, h2, h3, h4, h5, h6, h7, h8⟩ := h
  have hgr : Grew 91 X X1 := Grew.of_append h3 hg
  have hB1 := h1.grew hgr (by decide)
  have hgs := Grew.set hB1 1 v2'
  have hb1 : Below w.heap.size w X1 := (h5.alloc h5.size tmp).grown hg (by have := h5.size; simp; omega) fun k hk => (h3.lt k hk).1
  have hown2 : ORibs w.heap.size X1 v2' (l2 ++ [x]) := by
    unfold ORibs
    rw [List.length_append, List.flatMap_append]
    simpa using hown
  refine ⟨?_, (h2.grew hgr (by decide) (by decide)).grew hgs (by decide) (by decide), ownsRow_grew hown2 hgs (by decide), (h4.grew hgr (by decide) (by decide)).grew hgs (by decide) (by decide), hb1.setCell (p := ⟨B, 1, none⟩) (by show w.heap.size ≤ B; omega) _, (h6.grew hgr (by decide)).far (by show w.heap.size ≠ B; omega) _, (h7.grew hgr (by decide)).far (by show w.heap.size + 1 ≠ B; omega) _, h8⟩
  exact hB1.put 1 v2'
theorem OwnSt.final (h : OwnSt w r box B v1 vs r.webs v2 r.ribs v3 X) :
    ORun w.heap.size ((((X.setCell ⟨w.heap.size + 1, 0, none⟩ v1).setCell ⟨w.heap.size + 1, 1, none⟩ v2).setCell ⟨w.heap.size + 1, 2, none⟩ v3).setCell ⟨w.heap.size + 1, 3, none⟩ (.bool r.coll)) (.agg #[v1, v2, v3, .bool r.coll]) r ∧
    Below w.heap.size w ((((X.setCell ⟨w.heap.size + 1, 0, none⟩ v1).setCell ⟨w.heap.size + 1, 1, none⟩ v2).setCell ⟨w.heap.size + 1, 2, none⟩ v3).setCell ⟨w.heap.size + 1, 3, none⟩ (.bool r.coll)) := by
  obtain ⟨h1, h2, h3, h4, h5, h6, h7, h8⟩ := h
  have k1 := h7.put 0 v1
  have k2 := k1.put 1 v2
  have k3 := k2.put 2 v3
  have g := (((Grew.set h7 0 v1).trans (Grew.set k1 1 v2)).trans (Grew.set k2 2 v3)).trans (Grew.set k3 3 (.bool r.coll))
  exact ⟨⟨v1, vs, v2, v3, rfl, h2.grew g (by decide) (by decide), ownsRow_grew h3 g (by decide), h4.grew g (by decide) (by decide)⟩, below_set4 h5 (by omega) _ _ _ _⟩
end

def OwnCut (w : World) (r : RunD) (box : Array Value) (s3 : Value) (wx : World) : Prop :=
  ∃ B v3, s3 = .pointer (some ⟨B, 0, none⟩) ∧ OwnSt w r box B (.slice none 0 0) [] [] (.slice none 0 0) [] v3 wx
theorem own_cutA {w W0 w4 : World} {r : RunD} {box : Array Value} {u : Value} (z0 : W0.heap.size = w.heap.size + 2) (B0 : Below w.heap.size w W0) (V0 : Blk W0 w.heap.size 26 box) (V1 : Blk W0 (w.heap.size + 1) 36 #[.slice none 0 0, .slice none 0 0, .slice none 0 0, .bool false])
    (h04 : Below W0.heap.size W0 w4) (hu : OIntss w.heap.size w4 u r.stacks) : OwnCut w r box (.pointer (some ⟨w4.heap.size, 0, none⟩)) (w4.alloc (.cells #[.slice none 0 0, .slice none 0 0, u, .bool r.coll] 36)) := by
  have s4 := h04.size
  have hb := B0.trans (h04.mono B0.size)
  have ha : Below w4.heap.size w4 (w4.alloc (.cells #[.slice none 0 0, .slice none 0 0, u, .bool r.coll] 36)) := (Below.refl _ _).alloc (Nat.le_refl _) _
  exact ⟨_, u, rfl, Blk.new _ _ _, OWebs.nil, World.ownsRow_nil _ _ _ _, hu.below ha, hb.trans (ha.mono hb.size), (V0.below h04 (by omega)).alloc _, (V1.below h04 (by omega)).alloc _, by omega⟩
theorem own_cutB {w W0 w4 : World} {r : RunD} {box : Array Value} {u : Value} (z0 : W0.heap.size = w.heap.size + 2) (B0 : Below w.heap.size w W0) (V0 : Blk W0 w.heap.size 26 box) (V1 : Blk W0 (w.heap.size + 1) 36 #[.slice none 0 0, .slice none 0 0, .slice none 0 0, .bool false])
    (h04 : Below W0.heap.size W0 w4) (hu : OIntss w.heap.size w4 u r.stacks) (z4 : Blk w4 W0.heap.size 36 #[.slice none 0 0, .slice none 0 0, .slice none 0 0, .bool false]) :
    OwnCut w r box (.pointer (some ⟨W0.heap.size, 0, none⟩)) ((((w4.setCell ⟨W0.heap.size, 0, none⟩ (.slice none 0 0)).setCell ⟨W0.heap.size, 1, none⟩ (.slice none 0 0)).setCell ⟨W0.heap.size, 2, none⟩ u).setCell ⟨W0.heap.size, 3, none⟩ (.bool r.coll)) := by
  have s4 := h04.size
  have hb := B0.trans (h04.mono B0.size)
  have k1 := z4.put 0 (.slice none 0 0)
  have k2 := k1.put 1 (.slice none 0 0)
  have k3 := k2.put 2 u
  have g := (((Grew.set z4 0 (.slice none 0 0)).trans (Grew.set k1 1 (.slice none 0 0))).trans (Grew.set k2 2 u)).trans (Grew.set k3 3 (.bool r.coll))
  refine ⟨_, u, rfl, k3.put 3 (.bool r.coll), OWebs.nil, World.ownsRow_nil _ _ _ _, hu.grew g (by decide) (by decide), below_set4 hb B0.size _ _ _ _, ?_, ?_, by omega⟩
  · have hne : w.heap.size ≠ W0.heap.size := by omega
    exact ((((V0.below h04 (by omega)).far (p := ⟨W0.heap.size, 0, none⟩) hne _).far (p := ⟨W0.heap.size, 1, none⟩) hne _).far (p := ⟨W0.heap.size, 2, none⟩) hne _).far (p := ⟨W0.heap.size, 3, none⟩) hne _
  · have hne : w.heap.size + 1 ≠ W0.heap.size := by omega
    exact ((((V1.below h04 (by omega)).far (p := ⟨W0.heap.size, 0, none⟩) hne _).far (p := ⟨W0.heap.size, 1, none⟩) hne _).far (p := ⟨W0.heap.size, 2, none⟩) hne _).far (p := ⟨W0.heap.size, 3, none⟩) hne _

end Go.Proofs.Ytdbfhdncjblleaa
namespace Go.Proofs.Ytdbfhdncjblleaa
open Go.RowKit

def Bounded (r : RunD) : Prop := r.webs.length ≤ 1048576 ∧ r.ribs.length ≤ 1048576 ∧ r.stacks.length ≤ 1048576 ∧ (∀ x ∈ r.webs, x.plates.length ≤ 1048576) ∧ ∀ s ∈ r.stacks, s.length ≤ 1048576
theorem RRun.ribs {B : Nat} {w : World} {r : RunD} {v1 v2 v3 : Value} (h : RRun B w (.agg #[v1, v2, v3, .bool r.coll]) r) : RRibs B w v2 r.ribs := by
  obtain ⟨u1, u2, u3, e, -, h1, -⟩ := h
  cases e
  exact h1

theorem OIntss.form {b : Nat} {w : World} {v : Value} {l : List (List Int)} (h : OIntss b w v l) : ∃ A c, v = .slice A l.length c := by
  obtain ⟨ws, h⟩ := h
  exact ownsRow_form h.1

set_option maxRecDepth 100000 in
set_option maxHeartbeats 2000000 in
theorem Own_any (v : Value) (r : RunD) (w : World) (h : RRun w.heap.size w v r) (hs : Bounded r) : Calls Try.prog 12 #[v] w fun e w' => ∃ u, e = .returned u ∧ ORun w.heap.size w' u r ∧ Below w.heap.size w w' := by
  have hrun := Lib.hid h
  obtain ⟨A1, c1, A2, c2, A3, c3, rfl⟩ := h.shape
  have hr3 : RIntss w.heap.size w (.slice A3 r.stacks.length c3) r.stacks := h.stacks
  clear h
  have F0 : ∃ W0, (w.alloc (.cells #[.slice A1 r.webs.length c1, .slice A2 r.ribs.length c2, .slice A3 r.stacks.length c3, .bool r.coll] 26)).alloc (.cells #[.slice none 0 0, .slice none 0 0, .slice none 0 0, .bool false] 36) = W0 ∧
      W0.heap.size = w.heap.size + 2 ∧ Below w.heap.size w W0 ∧ Blk W0 w.heap.size 26 #[.slice A1 r.webs.length c1, .slice A2 r.ribs.length c2, .slice A3 r.stacks.length c3, .bool r.coll] ∧
      Blk W0 (w.heap.size + 1) 36 #[.slice none 0 0, .slice none 0 0, .slice none 0 0, .bool false] := by
    refine ⟨_, rfl, by simp, ((Below.refl _ _).alloc (Nat.le_refl _) _).alloc (by simp) _, (Blk.new _ _ _).alloc _, ?_⟩
    have := Blk.new (w.alloc (.cells #[.slice A1 r.webs.length c1, .slice A2 r.ribs.length c2, .slice A3 r.stacks.length c3, .bool r.coll] 26)) 36 #[.slice none 0 0, .slice none 0 0, .slice none 0 0, .bool false]
    rw [World.size_alloc] at this
    exact this
  obtain ⟨W0, e0, z0, B0, V0, V1⟩ := F0
  have hc : ∀ X, Below W0.heap.size W0 X → Calls Try.prog 30 #[.slice A3 r.stacks.length c3] X fun e w' => ∃ u, e = .returned u ∧ OIntss w.heap.size w' u r.stacks ∧ Below X.heap.size X w' := fun X hX => by
    have hb := B0.trans (hX.mono B0.size)
    refine (CopyLists_any _ _ X ((hr3.below hb).more hb.size) hs.2.2.1 hs.2.2.2.2).mono ?_
    rintro e w' ⟨u, he, ⟨ws, hu⟩, hbu⟩
    exact ⟨u, he, ⟨ws, hu.base_ hb.size fun _ _ h => ownsRow_base h hb.size⟩, hbu⟩
  have z4 : ∀ w4, Below (W0.alloc (.cells #[.slice none 0 0, .slice none 0 0, .slice none 0 0, .bool false] 36)).drew.heap.size (W0.alloc (.cells #[.slice none 0 0, .slice none 0 0, .slice none 0 0, .bool false] 36)).drew w4 → Blk w4 W0.heap.size 36 #[.slice none 0 0, .slice none 0 0, .slice none 0 0, .bool false] ∧ w4.cell? ⟨W0.heap.size, 0, none⟩ = some (.slice none 0 0) ∧ w4.cell? ⟨W0.heap.size, 1, none⟩ = some (.slice none 0 0) ∧ w4.cell? ⟨W0.heap.size, 2, none⟩ = some (.slice none 0 0) ∧ w4.cell? ⟨W0.heap.size, 3, none⟩ = some (.bool false) ∧
      w4.frozen? ⟨W0.heap.size, 0, none⟩ = false ∧ w4.frozen? ⟨W0.heap.size, 1, none⟩ = false ∧ w4.frozen? ⟨W0.heap.size, 2, none⟩ = false ∧ w4.frozen? ⟨W0.heap.size, 3, none⟩ = false := fun w4 h => by
    have hk : Blk w4 W0.heap.size 36 #[.slice none 0 0, .slice none 0 0, .slice none 0 0, .bool false] := (Blk.new W0 _ _).below (W := (W0.alloc (.cells #[.slice none 0 0, .slice none 0 0, .slice none 0 0, .bool false] 36)).drew) h (by show W0.heap.size < (W0.alloc _).heap.size; rw [World.size_alloc]; omega)
    exact ⟨hk, hk.cell 0, hk.cell 1, hk.cell 2, hk.cell 3, hk.frozen 0, hk.frozen 1, hk.frozen 2, hk.frozen 3⟩
  have za : ∀ o, W0.heap.size ≤ (W0.alloc o).heap.size := fun o => by simp
  have v1 := cellOf V0 2 (x := .slice A3 r.stacks.length c3) rfl
  have v3 := cellOf V0 3 (x := .bool r.coll) rfl
  have n0 : w.heap.size < W0.heap.size := by omega
  have E0 := Lib.hid e0
  have Z0 := Lib.hid z0
  have HC := Lib.hid hc
  have Z4 := Lib.hid z4
  have ZA := Lib.hid za
  have HV0 := Lib.hid V0
  have HV1 := Lib.hid V1
  have HS := Lib.hid hs
  clear e0 z0 hc z4 za V0 V1 hs hr3
  go_enter Try.func12, Try.ntmps12
  go_upto_region 1 with fail
  rw [E0.out]
  go_cut [3] (fun s3 wx => OwnCut w r #[.slice A1 r.webs.length c1, .slice A2 r.ribs.length c2, .slice A3 r.stacks.length c3, .bool r.coll] s3 wx)
  case first =>
    go_region_with (go_at_call 30; refine (HC.out _ ?_).mono ?_; (first | exact (Below.refl _ _).drew | exact ((Below.refl _ _).alloc (Nat.le_refl _) _).drew); rintro e w4 ⟨u, rfl, hu, hb4⟩; obtain ⟨A7, c7, rfl⟩ := OIntss.form hu; have h04 : Below W0.heap.size W0 w4 := (by first | exact ((Below.refl W0.heap.size W0).drew).trans (hb4.mono (Nat.le_refl _)) | exact (((Below.refl W0.heap.size W0).alloc (Nat.le_refl _) _).drew).trans (hb4.mono (ZA.out _))); have y1 := (h04.cell (p := ⟨w.heap.size, 2, none⟩) n0).trans v1; have y3 := (h04.cell (p := ⟨w.heap.size, 3, none⟩) n0).trans v3; have n5 := Nat.lt_of_lt_of_le n0 h04.size; (first | (refine (fun H => ?_) (Z4.out w4 hb4); obtain ⟨z9, k0, k1, k2, k3, g0, g1, g2, g3⟩ := H) | skip))
    all_goals (go_wp2_with fail; go_meet; first | with_reducible exact own_cutA Z0.out B0 HV0.out HV1.out h04 hu | with_reducible exact own_cutB Z0.out B0 HV0.out HV1.out h04 hu z9)
  case rest =>
  obtain ⟨B, v3, rfl, hst⟩ := hcut
  obtain ⟨A7, c7, rfl⟩ := hst.2.2.2.1.form
  obtain ⟨i1, hi1, hw0, hw1, hw2⟩ := info_parts infoWeb0
  obtain ⟨ip, hip, hp0, hp1, hp2⟩ := info_parts infoPlate0
  obtain ⟨ir, hir, hr0, hr1, hr2⟩ := info_parts infoRib
  obtain ⟨Ax, cx, ea, -, hA⟩ := (hrun.out.webs).open_
  cases ea
  have HA := Lib.hid hA
  have HST := Lib.hid hst
  clear hA hst v1 v3 n0 B0
  go_wp2
  go_loopw [4] (fun i wr => ∃ (k : Nat) (v1 : Value) (vs : List Value), k ≤ r.webs.length ∧ i = .int .i64 k ∧ OwnSt w r #[.slice A1 r.webs.length c1, .slice A2 r.ribs.length c2, .slice A3 r.stacks.length c3, .bool r.coll] B v1 vs (r.webs.take k) (.slice none 0 0) [] (.slice A7 r.stacks.length c7) wr) (fun i _ => r.webs.length - (intOf i).toNat)
  case atStart => exact ⟨0, _, _, Nat.zero_le _, rfl, HST.out⟩
  case round =>
    obtain ⟨wo, rfl⟩ : ∃ wo, wo = wr := ⟨wr, rfl⟩
    obtain ⟨k, v1, vs, hk, rfl, hst⟩ := hrel
    clear HST
    have hBw : Below w.heap.size w wo := hst.2.2.2.2.1
    have bx0 := cellOf hst.2.2.2.2.2.1 0 (x := .slice A1 r.webs.length c1) rfl
    by_cases hlt : k < r.webs.length
    · obtain ⟨x, hx⟩ : ∃ x, r.webs[k]? = some x := ⟨_, List.getElem?_eq_getElem hlt⟩
      obtain ⟨g, o, u, rfl, hb, hc1, hc2, hc3, hp⟩ := HA.out k x hx
      rw [← hBw.cell (p := ⟨g, o + k * 3, none⟩) hb] at hc1
      rw [← hBw.cell (p := ⟨g, o + k * 3 + 1, none⟩) hb] at hc2
      rw [← hBw.cell (p := ⟨g, o + k * 3 + 2, none⟩) hb] at hc3
      obtain ⟨A5, c5, rfl, -⟩ := rd_slice hp
      have hpl : x.plates.length ≤ 1048576 := HS.out.2.2.2.1 x (List.mem_of_getElem? hx)
      have HT : Hid (r.webs.take (k + 1) = r.webs.take k ++ [x]) := by
        show r.webs.take (k + 1) = r.webs.take k ++ [x]
        rw [List.take_add_one, hx]; rfl
      have HL : Hid ((r.webs.take k).length = k) := by show (r.webs.take k).length = k; rw [List.length_take]; omega
      have hk1 : k ≤ 1048576 := by have := HS.out.1; omega
      obtain ⟨Av, cv, rfl⟩ := ownsRow_form hst.2.1.1
      rw [HL.out] at hst
      have hgr : g < wo.heap.size := Nat.lt_of_lt_of_le hb hBw.size
      have hwr : w.heap.size < wo.heap.size := hst.2.2.2.2.2.1.lt
      have hfacts : ∀ X, Below wo.heap.size wo X → X.cell? ⟨w.heap.size, 0, none⟩ = some (.slice (some ⟨g, o, none⟩) r.webs.length c1) ∧ X.cell? ⟨g, o + k * 3, none⟩ = some (.int .i64 x.cols) ∧ X.cell? ⟨g, o + k * 3 + 1, none⟩ = some (.int .i64 x.rows) ∧ X.cell? ⟨g, o + k * 3 + 2, none⟩ = some (.slice A5 x.plates.length c5) := fun X hX =>
        ⟨(hX.cell (p := ⟨w.heap.size, 0, none⟩) hwr).trans bx0, (hX.cell (p := ⟨g, o + k * 3, none⟩) hgr).trans hc1, (hX.cell (p := ⟨g, o + k * 3 + 1, none⟩) hgr).trans hc2, (hX.cell (p := ⟨g, o + k * 3 + 2, none⟩) hgr).trans hc3⟩
      have HF := Lib.hid hfacts
      have HST := Lib.hid hst
      obtain ⟨Ap, cp, ep, -, hP⟩ := RPlates.open_ hp
      cases ep
      have HP := Lib.hid hP
      have hik : (k : Int) < (r.webs.length : Int) := by omega
      clear hx hp hst hP hfacts
      go_wp2_with fail
      go_region_held3 (fun X => X.cell? ⟨w.heap.size, 0, none⟩ = some (.slice (some ⟨g, o, none⟩) r.webs.length c1) ∧ X.cell? ⟨g, o + k * 3, none⟩ = some (.int .i64 x.cols) ∧ X.cell? ⟨g, o + k * 3 + 1, none⟩ = some (.int .i64 x.rows) ∧ X.cell? ⟨g, o + k * 3 + 2, none⟩ = some (.slice A5 x.plates.length c5))
        (first | exact HF.out _ (Below.refl _ _) | exact HF.out _ (Below.refl _ _).drew | exact HF.out _ ((Below.refl _ _).alloc (Nat.le_refl _) _) | exact HF.out _ ((Below.refl _ _).drew.alloc (Nat.le_refl _) _) | go_keep)
        (first | fail)
      have F1 : ∃ w1, (wo.alloc (.cells #[.int .i64 x.cols, .int .i64 x.rows, .slice none 0 0] 87)).drew = w1 ∧ Below wo.heap.size wo w1 ∧ Blk w1 wo.heap.size 87 #[.int .i64 x.cols, .int .i64 x.rows, .slice none 0 0] :=
        ⟨_, rfl, ((Below.refl _ _).alloc (Nat.le_refl _) _).drew, Blk.new wo _ _⟩
      obtain ⟨w1, e1, hB1, V1⟩ := F1
      rw [e1]
      have E1 := Lib.hid e1
      clear e1 bx0 hc1 hc2 hc3
      go_wp2
      go_loopw [6] (fun i X => ∃ (j : Nat) (pv : Value), j ≤ x.plates.length ∧ i = .int .i64 j ∧ Below wo.heap.size wo X ∧ Blk X wo.heap.size 87 #[.int .i64 x.cols, .int .i64 x.rows, pv] ∧ OPlates wo.heap.size X pv (x.plates.take j)) (fun i _ => x.plates.length - (intOf i).toNat)
      case atStart => exact ⟨0, _, Nat.zero_le _, rfl, hB1, V1, World.ownsRow_nil _ _ _ _⟩
      case round =>
        clear hB1 V1
        obtain ⟨j, pv, hj, rfl, hB, hV, ho⟩ := hrel
        obtain ⟨e0, e1, e2, e3⟩ := HF.out wr hB
        by_cases hlt2 : j < x.plates.length
        · obtain ⟨y, hy⟩ : ∃ y, x.plates[j]? = some y := ⟨_, List.getElem?_eq_getElem hlt2⟩
          obtain ⟨g2, o2, rfl, hg2, hy1, hy2⟩ := HP.out j y hy
          have hX : Below w.heap.size w wr := hBw.trans (hB.mono hBw.size)
          rw [← hX.cell (p := ⟨g2, o2 + j * 2, none⟩) hg2] at hy1
          rw [← hX.cell (p := ⟨g2, o2 + j * 2 + 1, none⟩) hg2] at hy2
          have HLj : Hid ((x.plates.take j).length = j) := by show (x.plates.take j).length = j; rw [List.length_take]; omega
          have HTj : Hid (x.plates.take (j + 1) = x.plates.take j ++ [y]) := by
            show x.plates.take (j + 1) = x.plates.take j ++ [y]
            rw [List.take_add_one, hy]; rfl
          obtain ⟨Aq, cq, rfl⟩ := ownsRow_form ho
          have hown : wr.ownsRow wo.heap.size 89 2 (.slice Aq j cq) j ((x.plates.take j).flatMap PlateD.cells) := by
            have := ho
            unfold OPlates at this
            rwa [HLj.out] at this
          rw [HLj.out] at hV
          have d0 := cellOf hV 0 (x := .int .i64 x.cols) rfl
          have d1 := cellOf hV 1 (x := .int .i64 x.rows) rfl
          have d2 := cellOf hV 2 (x := .slice Aq j cq) rfl
          have hsz := hB.size
          have HV := Lib.hid hV
          clear hy ho hV hg2
          go_wp2_with (at_builtin; refine wpList_append_own _ rfl _ _ 85 rfl wo.heap.size 89 ip _ 2 16 slicePlates hip hp0 hp1 hp2 rfl (by decide) (.slice Aq j cq) j ((x.plates.take j).flatMap PlateD.cells) rfl (hown.alloc _) ⟨wr.heap.size, 0, none⟩ 1 1 [.int .i64 y.page, .bool y.up] rfl rfl (cells_new _ _ _) (by simp [Value.oneCell']) (by simp only [maxLen]; omega) (by omega) (by simp; omega) ?_; intro v' w6 hown' hgrow _; have p0 : Blk w6 wo.heap.size 87 #[.int .i64 x.cols, .int .i64 x.rows, .slice Aq j cq] := HV.out.grew (Grew.of_append hown hgrow) (by decide); have p1 := cellOf p0 2 (x := .slice Aq j cq) rfl; have p2 := p0.frozen 2; obtain ⟨A9, c9, rfl⟩ := ownsRow_form hown')
          have hB6 : Below wo.heap.size wo w6 := (hB.alloc (by omega) _).grown hgrow (by simp; omega) fun i hi => (hown.lt i hi).1
          have ho6 : OPlates wo.heap.size w6 (.slice A9 (j + 1) c9) (x.plates.take (j + 1)) := by
            unfold OPlates
            rw [HTj.out, List.length_append, List.flatMap_append, HLj.out]
            simpa [PlateD.cells] using hown'
          have ho7 : OPlates wo.heap.size (w6.setCell ⟨wo.heap.size, 2, none⟩ (.slice A9 (j + 1) c9)) (.slice A9 (j + 1) c9) (x.plates.take (j + 1)) := ownsRow_grew ho6 (Grew.set p0 2 (.slice A9 (j + 1) c9)) (by decide)
          have hV7 : Blk (w6.setCell ⟨wo.heap.size, 2, none⟩ (.slice A9 (j + 1) c9)) wo.heap.size 87 #[.int .i64 x.cols, .int .i64 x.rows, .slice A9 (j + 1) c9] := p0.put 2 (.slice A9 (j + 1) c9)
          have hB7 : Below wo.heap.size wo (w6.setCell ⟨wo.heap.size, 2, none⟩ (.slice A9 (j + 1) c9)) := hB6.setCell (p := ⟨wo.heap.size, 2, none⟩) (Nat.le_refl _) _
          clear hown hown' hgrow ho6 hB6 hB p0
          go_wp2
          go_roundw
          case rel => exact ⟨j + 1, _, by omega, by go_num, hB7, hV7, ho7⟩
          case measure => simp [intOf]; omega
        · have hall : x.plates.take j = x.plates := List.take_of_length_le (by omega)
          rw [hall] at ho
          obtain ⟨Aq, cq, rfl⟩ := ownsRow_form ho
          have hst3 := HST.out.below hB
          have hu3 : OPlates w.heap.size wr (.slice Aq x.plates.length cq) x.plates := ownsRow_base ho hBw.size
          have hge : ∀ g, (Value.slice Aq x.plates.length cq).ownBlock = some g → wo.heap.size ≤ g := fun g hg => (ho.lt g hg).1
          have HST3 := Lib.hid hst3
          have HU3 := Lib.hid hu3
          have HGE := Lib.hid hge
          have HLTS := Lib.hid HST.out.2.1.lts
          have d0 := cellOf hV 0 (x := .int .i64 x.cols) rfl
          have d1 := cellOf hV 1 (x := .int .i64 x.rows) rfl
          have d2 := cellOf hV 2 (x := .slice Aq x.plates.length cq) rfl
          have q0 := cellOf hst3.1 0 (x := .slice Av k cv) rfl
          have hown := hst3.2.1.1
          rw [HL.out] at hown
          have hsz := hB.size
          have hszw := hBw.size
          clear hst3 hu3 hge ho hV hall hB
          go_wp2_with (at_builtin; refine wpList_append_own _ rfl _ _ 33 rfl w.heap.size 87 i1 _ 3 40 Try.underlying33 hi1 hw0 hw1 hw2 rfl (by decide) _ _ _ rfl (hown.alloc _) ⟨wr.heap.size, 0, none⟩ 1 1 [.int .i64 x.cols, .int .i64 x.rows, .slice Aq x.plates.length cq] rfl rfl (cells_new _ _ _) (by simp [Value.oneCell']) (by simp only [maxLen]; omega) (by omega) (by simp; omega) ?_; intro v' w4 hown' hgrow _; have p0 : Blk w4 B 36 #[.slice Av k cv, .slice none 0 0, .slice A7 r.stacks.length c7, .bool r.coll] := HST3.out.1.grew (Grew.of_append hown hgrow) (by decide); have p1 := cellOf p0 0 (x := .slice Av k cv) rfl; have p2 := p0.frozen 0; obtain ⟨A9, c9, rfl⟩ := ownsRow_form hown')
          have hst4 := HST3.out.web (x := x) HLTS.out HU3.out HGE.out hgrow (by rw [HL.out]; exact hown')
          rw [← HT.out] at hst4
          clear hown hown' hgrow p0
          go_wp2
          go_roundw
          case rel => exact ⟨k + 1, _, _, by omega, by go_num, hst4⟩
          case measure => simp [intOf]; omega
    · have hall : r.webs.take k = r.webs := List.take_of_length_le (by omega)
      rw [hall] at hst
      obtain ⟨Av, cv, rfl⟩ := ownsRow_form hst.2.1.1
      obtain ⟨Ay, cy, ey, -, hI⟩ := (hrun.out.ribs).open_
      cases ey
      have HI := Lib.hid hI
      have HST := Lib.hid hst
      clear hI hst hall hk
      go_wp2
      clear bx0 hlt
      go_loopw [9] (fun i X => ∃ (j : Nat) (v2 : Value), j ≤ r.ribs.length ∧ i = .int .i64 j ∧ OwnSt w r #[.slice A1 r.webs.length c1, .slice A2 r.ribs.length c2, .slice A3 r.stacks.length c3, .bool r.coll] B (.slice Av r.webs.length cv) vs r.webs v2 (r.ribs.take j) (.slice A7 r.stacks.length c7) X) (fun i _ => r.ribs.length - (intOf i).toNat)
      case atStart => exact ⟨0, _, Nat.zero_le _, rfl, HST.out⟩
      case round =>
        obtain ⟨j, v2, hj, rfl, hst⟩ := hrel
        clear HST
        have hBw2 : Below w.heap.size w wr := hst.2.2.2.2.1
        have bx1 := cellOf hst.2.2.2.2.2.1 1 (x := .slice A2 r.ribs.length c2) rfl
        by_cases hlt : j < r.ribs.length
        · obtain ⟨x, hx⟩ : ∃ x, r.ribs[j]? = some x := ⟨_, List.getElem?_eq_getElem hlt⟩
          obtain ⟨g, o, rfl, hb, hc1, hc2, hc3, hc4, hc5⟩ := HI.out j x hx
          rw [← hBw2.cell (p := ⟨g, o + j * 5, none⟩) hb] at hc1
          rw [← hBw2.cell (p := ⟨g, o + j * 5 + 1, none⟩) hb] at hc2
          rw [← hBw2.cell (p := ⟨g, o + j * 5 + 2, none⟩) hb] at hc3
          rw [← hBw2.cell (p := ⟨g, o + j * 5 + 3, none⟩) hb] at hc4
          rw [← hBw2.cell (p := ⟨g, o + j * 5 + 4, none⟩) hb] at hc5
          have HT : Hid (r.ribs.take (j + 1) = r.ribs.take j ++ [x]) := by
            show r.ribs.take (j + 1) = r.ribs.take j ++ [x]
            rw [List.take_add_one, hx]; rfl
          have HL : Hid ((r.ribs.take j).length = j) := by show (r.ribs.take j).length = j; rw [List.length_take]; omega
          have hk1 : j ≤ 1048576 := by have := HS.out.2.1; omega
          obtain ⟨Aw, cw, rfl⟩ := ownsRow_form hst.2.2.1
          rw [HL.out] at hst
          have hown : wr.ownsRow w.heap.size 91 5 (.slice Aw j cw) j ((r.ribs.take j).flatMap RibD.cells) := by
            have := hst.2.2.1
            unfold ORibs at this
            rwa [HL.out] at this
          have q1 := cellOf hst.1 1 (x := .slice Aw j cw) rfl
          have hsz := hBw2.size
          have HST := Lib.hid hst
          clear hx hst hb
          go_wp2_with (at_builtin; refine wpList_append_own _ rfl _ _ 34 rfl w.heap.size 91 ir _ 5 32 sliceRibs hir hr0 hr1 hr2 rfl (by decide) (.slice Aw j cw) j ((r.ribs.take j).flatMap RibD.cells) rfl (hown.alloc _) ⟨wr.heap.size, 0, none⟩ 1 1 [.int .i64 x.web, .int .i64 x.col, .int .i64 x.width, .bool x.turned, .bool x.left] rfl rfl (cells_new _ _ _) (by simp [Value.oneCell']) (by simp only [maxLen]; omega) (by omega) (by simp; omega) ?_; intro v' w4 hown' hgrow _; have p0 : Blk w4 B 36 #[.slice Av r.webs.length cv, .slice Aw j cw, .slice A7 r.stacks.length c7, .bool r.coll] := HST.out.1.grew (Grew.of_append hown hgrow) (by decide); have p1 := cellOf p0 1 (x := .slice Aw j cw) rfl; have p2 := p0.frozen 1; obtain ⟨A9, c9, rfl⟩ := ownsRow_form hown')
          have hst4 := HST.out.rib (x := x) hgrow (by rw [HL.out]; exact hown')
          rw [← HT.out] at hst4
          clear hown hown' hgrow p0
          go_wp2
          go_roundw
          case rel => exact ⟨j + 1, _, by omega, by go_num, hst4⟩
          case measure => simp [intOf]; omega
        · have hall : r.ribs.take j = r.ribs := List.take_of_length_le (by omega)
          rw [hall] at hst
          obtain ⟨Aw, cw, rfl⟩ := ownsRow_form hst.2.2.1
          have HFin := Lib.hid hst.final
          have b0 := cellOf hst.1 0 (x := .slice Av r.webs.length cv) rfl
          have b1 := cellOf hst.1 1 (x := .slice Aw r.ribs.length cw) rfl
          have b2 := cellOf hst.1 2 (x := .slice A7 r.stacks.length c7) rfl
          have b3 := cellOf hst.1 3 (x := .bool r.coll) rfl
          have d0 := cellOf hst.2.2.2.2.2.2.1 0 (x := .slice none 0 0) rfl
          have d1 := cellOf hst.2.2.2.2.2.2.1 1 (x := .slice none 0 0) rfl
          have d2 := cellOf hst.2.2.2.2.2.2.1 2 (x := .slice none 0 0) rfl
          have d3 := cellOf hst.2.2.2.2.2.2.1 3 (x := .bool false) rfl
          have f0 := hst.2.2.2.2.2.2.1.frozen 0
          have f1 := hst.2.2.2.2.2.2.1.frozen 1
          have f2 := hst.2.2.2.2.2.2.1.frozen 2
          have f3 := hst.2.2.2.2.2.2.1.frozen 3
          clear hst hall
          go_wp2
          refine bodyPost_ret (v := .agg #[.slice Av r.webs.length cv, .slice Aw r.ribs.length cw, .slice A7 r.stacks.length c7, .bool r.coll]) (by simp [results, Try.results12, go_sem, d0, d1, d2, d3]) rfl ⟨_, rfl, HFin.out⟩

end Go.Proofs.Ytdbfhdncjblleaa
