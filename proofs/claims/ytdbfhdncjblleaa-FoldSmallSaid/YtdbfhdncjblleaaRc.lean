/-
  The reference's All: the spots of all copies.
-/
import Derived.Test.YtdbfhdncjblleaaRb
namespace Go.Proofs.Ytdbfhdncjblleaa
open Go.RowKit

theorem infoSpotsR : (Try.prog.info? 122).map (fun i => (i.zero, i.size, i.bytes)) = some (some (.slice none 0 0), 1, 24) := by kernel_rfl
theorem infoSecsR : (Try.prog.info? 121).map (fun i => (i.zero, i.size, i.bytes)) = some (some (.slice none 0 0), 1, 24) := by kernel_rfl
def OSecsR (base : Nat) (w : World) (v : Value) (l : List (List SpotD)) : Prop := ∃ vs, OAll (OSpotsR base) 122 base w v vs l
def OCopiesR (base : Nat) (w : World) (v : Value) (l : List (List (List SpotD))) : Prop := ∃ vs, OAll (OSecsR base) 121 base w v vs l
section
variable {base b' : Nat} {w w1 : World} {v : Value} {e : TypeId}
theorem OSpotsR.reads {l : List SpotD} (h : OSpotsR base w v l) : RSpots w.heap.size w v l := Rd.own h (own_le h)
theorem OSecsR.reads {l : List (List SpotD)} (h : OSecsR base w v l) : RSecs w.heap.size w v l := by
  obtain ⟨vs, h⟩ := h
  exact OAll.reads h fun _ _ hr => hr.reads
theorem OCopiesR.reads {l : List (List (List SpotD))} (h : OCopiesR base w v l) : RCopies w.heap.size w v l := by
  obtain ⟨vs, h⟩ := h
  exact OAll.reads h fun _ _ hr => hr.reads
theorem OSecsR.grew {l : List (List SpotD)} (h : OSecsR base w v l) (hg : Grew e w w1) (h1 : 122 ≠ e) (h2 : 30 ≠ e) : OSecsR base w1 v l := by
  obtain ⟨vs, h⟩ := h
  exact ⟨vs, h.keep hg h1 fun _ _ hr => ownsRow_grew hr hg h2⟩
theorem OSecsR.below {l : List (List SpotD)} (h : OSecsR base w v l) (hb : Below w.heap.size w w1) : OSecsR base w1 v l := by
  obtain ⟨vs, h⟩ := h
  exact ⟨vs, h.below hb fun _ _ hr => ownsRow_below hr hb⟩
theorem OCopiesR.below {l : List (List (List SpotD))} (h : OCopiesR base w v l) (hb : Below w.heap.size w w1) : OCopiesR base w1 v l := by
  obtain ⟨vs, h⟩ := h
  exact ⟨vs, h.below hb fun _ _ hr => hr.below hb⟩
theorem OSecsR.base_ {l : List (List SpotD)} (h : OSecsR base w v l) (hb : b' ≤ base) : OSecsR b' w v l := by
  obtain ⟨vs, h⟩ := h
  exact ⟨vs, ownsRow_base h.1 hb, fun i u x hu hx => ownsRow_base (h.2 i u x hu hx) hb⟩
theorem OCopiesR.base_ {l : List (List (List SpotD))} (h : OCopiesR base w v l) (hb : b' ≤ base) : OCopiesR b' w v l := by
  obtain ⟨vs, h⟩ := h
  exact ⟨vs, ownsRow_base h.1 hb, fun i u x hu hx => (h.2 i u x hu hx).base_ hb⟩
end
theorem OAll.append2 {α : Type} {R : World → Value → α → Prop} {e : TypeId} {base : Nat} {w w1 : World} {v v' u0 u1 : Value} {vs : List Value} {l : List α} {x0 x1 : α}
    (h : OAll R e base w v vs l) (hk : ∀ u x, R w u x → R w1 u x) (h0 : R w1 u0 x0) (h1 : R w1 u1 x1) (hown : w1.ownsRow base e 1 v' (l.length + 2) (vs ++ [u0, u1])) : OAll R e base w1 v' (vs ++ [u0, u1]) (l ++ [x0, x1]) := by
  refine ⟨by simpa using hown, fun i u x hu hx => ?_⟩
  have hl := h.len
  rcases Nat.lt_or_ge i l.length with hi | hi
  · rw [List.getElem?_append_left (by omega)] at hu
    rw [List.getElem?_append_left hi] at hx
    exact hk _ _ (h.2 i u x hu hx)
  · rw [List.getElem?_append_right (by omega)] at hu
    rw [List.getElem?_append_right hi] at hx
    rw [hl] at hu
    generalize i - l.length = j at hu hx
    match j, hu, hx with
    | 0, hu, hx =>
      simp only [List.getElem?_cons_zero, Option.some.injEq] at hu hx
      subst hu hx
      exact h0
    | 1, hu, hx =>
      simp only [List.getElem?_cons_succ, List.getElem?_cons_zero, Option.some.injEq] at hu hx
      subst hu hx
      exact h1
    | j + 2, hu, _ => simp at hu
theorem rows_coll {r : RunD} (h : checkE r = 0) (hc : r.coll = true) : rows0 r = 2 := by
  have h4 : collE r = 0 := parts_ok h 4 (by omega)
  unfold collE at h4
  rw [hc] at h4
  by_cases e : rows0 r = 2
  · exact e
  · simp [e] at h4
theorem rowsD_two {r : RunD} (h : rows0 r = 2) (s : List Int) : rowsD r s = [spotsD r s 0, spotsD r s 1] := by unfold rowsD; rw [h]; rfl
theorem coll_next {r : RunD} (h : rows0 r = 2) {k : Nat} {s : List Int} (hs : r.stacks[k]? = some s) : (r.stacks.take (k + 1)).flatMap (rowsD r) = (r.stacks.take k).flatMap (rowsD r) ++ [spotsD r s 0, spotsD r s 1] := by
  rw [List.take_add_one, hs, List.flatMap_append, ← rowsD_two h]
  simp
theorem coll_len {r : RunD} (h : rows0 r = 2) (k : Nat) (hk : k ≤ r.stacks.length) : ((r.stacks.take k).flatMap (rowsD r)).length = 2 * k := by
  induction k with
  | zero => simp
  | succ k ih =>
    rw [coll_next h (List.getElem?_eq_getElem (by omega : k < r.stacks.length)), List.length_append, ih (by omega)]
    simp; omega
/-- A section more in a list of sections. -/
theorem secs_one {base : Nat} {w7 w8 : World} {v v' u : Value} {vs : List Value} {l : List (List SpotD)} {x : List SpotD} {tmp : Obj} (h : OAll (OSpotsR base) 122 base w7 v vs l) (hu : OSpotsR base w7 u x) (hg : (w7.alloc tmp).grownBy w8 v.ownBlock) (hown : w8.ownsRow base 122 1 v' (l.length + 1) (vs ++ [u])) : OSecsR base w8 v' (l ++ [x]) :=
  have g := Grew.of_append h.1 hg
  ⟨_, h.append (fun _ _ hr => ownsRow_grew hr g (by decide)) hu hown⟩
theorem secs_two {base : Nat} {w7 w8 : World} {v v' u0 u1 : Value} {vs : List Value} {l : List (List SpotD)} {x0 x1 : List SpotD} {tmp : Obj} (h : OAll (OSpotsR base) 122 base w7 v vs l) (h0 : OSpotsR base w7 u0 x0) (h1 : OSpotsR base w7 u1 x1) (hg : (w7.alloc tmp).grownBy w8 v.ownBlock) (hown : w8.ownsRow base 122 1 v' (l.length + 2) (vs ++ [u0, u1])) : OSecsR base w8 v' (l ++ [x0, x1]) :=
  have g := Grew.of_append h.1 hg
  ⟨_, h.append2 (fun _ _ hr => ownsRow_grew hr g (by decide)) (ownsRow_grew h0 g (by decide)) (ownsRow_grew h1 g (by decide)) hown⟩
theorem below_grown {b : Nat} {W0 X X' : World} {e : TypeId} {k n : Nat} {v : Value} {xs : List Value} {tmp : Obj} (hB : Below b W0 X) (ho : X.ownsRow b e k v n xs) (hg : (X.alloc tmp).grownBy X' v.ownBlock) (hs : b ≤ X.heap.size) : Below b W0 X' :=
  (hB.alloc hs _).grown hg (by simp; omega) fun j hj => (ho.lt j hj).1

set_option maxRecDepth 100000 in
set_option maxHeartbeats 4000000 in
theorem All_any (v : Value) (r : RunD) (w : World) (h : RRun w.heap.size w v r) (hok : checkE r = 0) :
    Calls Try.prog 45 #[v] w fun e w' => ∃ u, e = .returned u ∧ OCopiesR w.heap.size w' u (layoutD r) ∧ Below w.heap.size w w' := by
  obtain ⟨i1, hi, hz0, hz1, hz2⟩ := info_parts infoSpotsR
  obtain ⟨i2, hi2, hs0, hs1, hs2⟩ := info_parts infoSecsR
  have Hok := Lib.hid hok
  have hrun := Lib.hid h
  have hst4 := (numbers_ok (parts_ok hok 0 (by omega))).2.2.2.2.2
  have hn1 := (numbers_ok (parts_ok hok 0 (by omega))).1
  have hrows := rows_two hok
  obtain ⟨A1, c1, A2, c2, A3, c3, rfl⟩ := h.shape
  obtain ⟨Ax, cx, ex, -, hAw⟩ := (h.webs).open_
  cases ex
  obtain ⟨Ay, cy, ey, -, hAy⟩ := RAll.open_ (h.stacks)
  cases ey
  have HAW := Lib.hid hAw
  have HAY := Lib.hid hAy
  clear h hok hAw hAy
  have F0 : ∃ W0, w.alloc (.cells #[.slice A1 r.webs.length c1, .slice A2 r.ribs.length c2, .slice A3 r.stacks.length c3, .bool r.coll] 26) = W0 ∧ Below w.heap.size w W0 ∧ Blk W0 w.heap.size 26 #[.slice A1 r.webs.length c1, .slice A2 r.ribs.length c2, .slice A3 r.stacks.length c3, .bool r.coll] :=
    ⟨_, rfl, (Below.refl _ _).alloc (Nat.le_refl _) _, Blk.new _ _ _⟩
  obtain ⟨W0, e0, B0, V0⟩ := F0
  have E0 := Lib.hid e0
  have hbox : ∀ X, Below W0.heap.size W0 X → X.cell? ⟨w.heap.size, 0, none⟩ = some (.slice A1 r.webs.length c1) ∧ X.cell? ⟨w.heap.size, 1, none⟩ = some (.slice A2 r.ribs.length c2) ∧ X.cell? ⟨w.heap.size, 2, none⟩ = some (.slice A3 r.stacks.length c3) ∧ X.cell? ⟨w.heap.size, 3, none⟩ = some (.bool r.coll) := fun X hX => by
    have k2 := V0.below hX V0.lt
    exact ⟨cellOf k2 0 rfl, cellOf k2 1 rfl, cellOf k2 2 rfl, cellOf k2 3 rfl⟩
  have HBX := Lib.hid hbox
  have hstk : ∀ k s, r.stacks[k]? = some s → ∃ g o A c, A3 = some ⟨g, o, none⟩ ∧ g < W0.heap.size ∧ ∀ X, Below W0.heap.size W0 X → X.cell? ⟨g, o + k, none⟩ = some (.slice A s.length c) ∧ ∀ (row : Int), Calls Try.prog 69 #[.agg #[.slice A1 r.webs.length c1, .slice A2 r.ribs.length c2, .slice A3 r.stacks.length c3, .bool r.coll], .slice A s.length c, .int .i64 row] X fun e w' => ∃ A' c', e = .returned (.slice A' (spotsD r s row).length c') ∧ OSpotsR X.heap.size w' (.slice A' (spotsD r s row).length c') (spotsD r s row) ∧ Below X.heap.size X w' ∧ Below W0.heap.size W0 w' := fun k s hs => by
    obtain ⟨g, o, u, rfl, hb, m0, hp⟩ := HAY.out k s hs
    obtain ⟨A, c, rfl, -⟩ := rd_slice hp
    refine ⟨g, o, A, c, rfl, Nat.lt_of_lt_of_le hb B0.size, fun X hX => ?_⟩
    have hB := B0.trans (hX.mono B0.size)
    refine ⟨(hB.cell (p := ⟨g, o + k, none⟩) hb).trans m0, fun row => ?_⟩
    refine (section_any _ _ r s row X ((hrun.out.below hB).more hB.size) Hok.out (List.mem_of_getElem? hs) ((hp.below hB).more hB.size)).mono ?_
    rintro e w' ⟨u, rfl, hu, hb2⟩
    obtain ⟨A', c', rfl⟩ := ownsRow_form hu
    exact ⟨A', c', rfl, hu, hb2, hX.trans (hb2.mono hX.size)⟩
  have HST := Lib.hid hstk
  have o3 := (hbox W0 (Below.refl _ _)).2.2.2
  have hw0 : w.heap.size < W0.heap.size := V0.lt
  clear e0 V0 hbox hstk
  go_enter Try.func45, Try.ntmps45
  go_upto_region 2 with fail
  rw [E0.out]
  cases hcoll : r.coll
  case true =>
    have hr2 := rows_coll Hok.out hcoll
    have HR2 := Lib.hid hr2
    have HLY := Lib.hid (layout_coll hcoll)
    rw [hcoll] at o3 HBX HST
    clear hr2 hrows
    go_wp2
    go_loopw [4, 5] (fun lv i wr => ∃ k : Nat, k ≤ r.stacks.length ∧ i = .int .i64 k ∧ OSecsR W0.heap.size wr lv ((r.stacks.take k).flatMap (rowsD r)) ∧ Below W0.heap.size W0 wr) (fun _ i _ => r.stacks.length - (intOf i).toNat)
    case atStart => exact ⟨0, Nat.zero_le _, rfl, ⟨_, OAll.nil⟩, Below.refl _ _⟩
    case round =>
      clear o3
      obtain ⟨k, hk, rfl, ⟨vs, hvs⟩, hB⟩ := hrel
      obtain ⟨o0, o1, o2, o3⟩ := HBX.out wr hB
      have hcl := coll_len HR2.out k hk
      by_cases hlt : k < r.stacks.length
      case pos =>
        obtain ⟨s, hs⟩ : ∃ s, r.stacks[k]? = some s := ⟨_, List.getElem?_eq_getElem hlt⟩
        obtain ⟨g, o, A, c, rfl, hg, hX⟩ := HST.out k s hs
        have HX := Lib.hid hX
        have HNX := Lib.hid (coll_next HR2.out hs)
        have ho := hvs.1
        rw [hcl] at ho
        obtain ⟨Aq, cq, rfl⟩ := ownsRow_form ho
        have HVS := Lib.hid hvs
        have hki : (k : Int) < (r.stacks.length : Int) := by omega
        have m0 := (hX wr hB).1
        have hbs := hB.size
        have hfacts : ∀ X, Below W0.heap.size W0 X → X.cell? ⟨w.heap.size, 0, none⟩ = some (.slice A1 r.webs.length c1) ∧ X.cell? ⟨w.heap.size, 1, none⟩ = some (.slice A2 r.ribs.length c2) ∧ X.cell? ⟨w.heap.size, 2, none⟩ = some (.slice (some ⟨g, o, none⟩) r.stacks.length c3) ∧ X.cell? ⟨w.heap.size, 3, none⟩ = some (.bool true) ∧ X.cell? ⟨g, o + k, none⟩ = some (.slice A s.length c) := fun X h => by
          obtain ⟨a0, a1, a2, a3⟩ := HBX.out X h
          exact ⟨a0, a1, a2, a3, (HX.out X h).1⟩
        have hc0 : ∀ X, Below wr.heap.size wr X → Calls Try.prog 69 #[.agg #[.slice A1 r.webs.length c1, .slice A2 r.ribs.length c2, .slice (some ⟨g, o, none⟩) r.stacks.length c3, .bool true], .slice A s.length c, .int .i64 0] X fun e w' => ∃ A' c', e = .returned (.slice A' (spotsD r s 0).length c') ∧ OSpotsR W0.heap.size w' (.slice A' (spotsD r s 0).length c') (spotsD r s 0) ∧ Below X.heap.size X w' ∧ Below W0.heap.size W0 w' ∧ Below wr.heap.size wr w' := fun X h =>
          ((HX.out X (hB.trans (h.mono hB.size))).2 0).mono fun e w' ⟨A', c', h1, h2, h3, h4⟩ => ⟨A', c', h1, ownsRow_base h2 (Nat.le_trans hB.size h.size), h3, h4, h.trans (h3.mono h.size)⟩
        have hc1 : ∀ X, Below wr.heap.size wr X → Calls Try.prog 69 #[.agg #[.slice A1 r.webs.length c1, .slice A2 r.ribs.length c2, .slice (some ⟨g, o, none⟩) r.stacks.length c3, .bool true], .slice A s.length c, .int .i64 1] X fun e w' => ∃ A' c', e = .returned (.slice A' (spotsD r s 1).length c') ∧ OSpotsR W0.heap.size w' (.slice A' (spotsD r s 1).length c') (spotsD r s 1) ∧ Below X.heap.size X w' ∧ Below W0.heap.size W0 w' ∧ Below wr.heap.size wr w' := fun X h =>
          ((HX.out X (hB.trans (h.mono hB.size))).2 1).mono fun e w' ⟨A', c', h1, h2, h3, h4⟩ => ⟨A', c', h1, ownsRow_base h2 (Nat.le_trans hB.size h.size), h3, h4, h.trans (h3.mono h.size)⟩
        have HF := Lib.hid hfacts
        have HC0 := Lib.hid hc0
        have HC1 := Lib.hid hc1
        have HN := Lib.hid hcl
        clear hs hX hvs hfacts hc0 hc1 hg hcl
        go_wp2_with fail
        go_region_held3 (fun X => X.cell? ⟨w.heap.size, 0, none⟩ = some (.slice A1 r.webs.length c1) ∧ X.cell? ⟨w.heap.size, 1, none⟩ = some (.slice A2 r.ribs.length c2) ∧ X.cell? ⟨w.heap.size, 2, none⟩ = some (.slice (some ⟨g, o, none⟩) r.stacks.length c3) ∧ X.cell? ⟨w.heap.size, 3, none⟩ = some (.bool true) ∧ X.cell? ⟨g, o + k, none⟩ = some (.slice A s.length c))
          (first | exact hR8 | exact HF.out _ (by assumption) | exact HF.out _ hB.drew | go_keep)
          (first | (refine step_append_lies _ (by rfl) _ _ _ (by rfl) W0.heap.size 122 i1 (.slice none 0 0) 1 24 Try.underlying121 hi hz0 hz1 hz2 rfl (by decide) (.slice Aq (2 * k) cq) (2 * k) vs (by rfl) (by first | exact (ownsRow_below ho hw7).alloc _ | exact ((ownsRow_below ho hw7).alloc _).drew) ⟨w7.heap.size, 0, none⟩ 2 2 [.slice A0' (spotsD r s 0).length c0', .slice A1' (spotsD r s 1).length c1'] (by rfl) (by rfl) (World.news_of_block (cs := #[.slice A0' (spotsD r s 0).length c0', .slice A1' (spotsD r s 1).length c1']) (t := 122) (fr := (0, 0)) (heap_alloc_new w7 _)) (by simp [Value.oneCell']) (by omega) (by simp only [maxLen]; omega) (by omega) (by have := hw7.size; simp; omega) (w7.heap.size + 1) (by simp) ?_; intro g9 c9 w8 hown' hgrow hat hlt9; have hB8 := below_grown hW7 (ownsRow_below ho hw7) hgrow hW7.size; have hR8 := HF.out w8 hB8) | (go_at_call 69; with_reducible refine (HC0.out _ ?_).mono ?_; (first | assumption | exact Below.refl _ _ | exact (Below.refl _ _).drew); rintro e w7 ⟨A0', c0', rfl, hu0, h0, hW7, hw7⟩) | (go_at_call 69; with_reducible refine (HC1.out _ ?_).mono ?_; (first | assumption | exact Below.refl _ _ | exact (Below.refl _ _).drew); rintro e w7 ⟨A1', c1', rfl, hu1, h1, hW7, hw7⟩))
        all_goals
          first
            | (have hS := secs_two (HVS.out.below hw7 fun _ _ hr => ownsRow_below hr hw7) (ownsRow_below hu0 h1) hu1 hgrow (by rw [HN.out]; exact hown'))
            | (have hS := secs_two (HVS.out.below hw7 fun _ _ hr => ownsRow_below hr hw7) hu0 (ownsRow_below hu1 h0) hgrow (by rw [HN.out]; exact hown'))
          rw [← HNX.out] at hS
          clear o0 o1 o2 o3 m0 ho hown' hgrow hR8
          go_wp2
          go_roundw
          case rel => exact ⟨k + 1, by omega, by go_num, hS, hB8⟩
          case measure => (simp [intOf]) <;> omega
      obtain rfl : k = r.stacks.length := by omega
      rw [List.take_length] at hvs hcl
      have ho := hvs.1
      rw [hcl] at ho
      obtain ⟨Aq, cq, rfl⟩ := ownsRow_form ho
      have HVS := Lib.hid hvs
      have hbs := hB.size
      clear hvs hcl ho
      go_wp2_with (at_builtin; refine wpList_append_own _ rfl _ _ 118 rfl W0.heap.size 121 i2 (.slice none 0 0) 1 24 Try.underlying118 hi2 hs0 hs1 hs2 rfl (by decide) (.slice none 0 0) 0 [] rfl (World.ownsRow_nil _ _ _ _) ⟨wr.heap.size, 0, none⟩ 1 1 [.slice Aq (2 * r.stacks.length) cq] rfl rfl (cells_new _ _ _) (by simp [Value.oneCell']) (by simp only [maxLen]; omega) (by omega) (by simp; omega) ?_; intro v' w6 hown' hgrow _)
      have hgr : Grew 121 wr w6 := Grew.of_append (World.ownsRow_nil wr W0.heap.size 121 1) hgrow
      have hC : OCopiesR W0.heap.size w6 v' [collectedD r] := ⟨_, (OAll.nil (R := OSecsR W0.heap.size) (w := wr)).append (fun _ _ hr => OSecsR.grew hr hgr (by decide) (by decide)) ⟨_, HVS.out⟩ hown'⟩
      have hB6 := below_grown hB (World.ownsRow_nil wr W0.heap.size 121 1) hgrow hbs
      have BF := B0.trans (hB6.mono B0.size)
      clear hown' hgrow hgr o0 o1 o2 o3
      go_wp2
      go_ret
      exact ⟨_, rfl, by rw [HLY.out]; exact hC.base_ B0.size, BF⟩
  case false =>
    have HLY := Lib.hid (layout_straight hcoll)
    rw [hcoll] at o3 HBX HST
    obtain ⟨y0, hy0⟩ : ∃ y, r.webs[0]? = some y := ⟨_, List.getElem?_eq_getElem hn1⟩
    obtain ⟨gw, ow, -, rfl, hgw, -, hw1, -, -⟩ := HAW.out 0 y0 hy0
    have hr0 : y0.rows = rows0 r := by unfold rows0; rw [getD_of hy0]
    rw [hr0] at hw1
    have hweb : ∀ X, Below W0.heap.size W0 X → X.cell? ⟨gw, ow + 1, none⟩ = some (.int .i64 (rows0 r)) := fun X hX => by
      have := ((B0.trans (hX.mono B0.size)).cell (p := ⟨gw, ow + 0 * 3 + 1, none⟩) hgw).trans hw1
      simpa using this
    have HWB := Lib.hid hweb
    have hl0 : (0 : Int) < (r.webs.length : Int) := by omega
    clear hw1 hweb hy0 hr0
    go_wp2
    go_loopw [3, 6] (fun lv i wr => ∃ k : Nat, (k : Int) ≤ rows0 r ∧ i = .int .i64 k ∧ OCopiesR W0.heap.size wr lv ((List.range k).map fun (row : Nat) => straightD r row) ∧ Below W0.heap.size W0 wr) (fun _ i _ => (rows0 r).toNat - (intOf i).toNat)
    case atStart => exact ⟨0, by omega, rfl, ⟨_, OAll.nil⟩, Below.refl _ _⟩
    case round =>
      clear o3
      obtain ⟨k, hk, rfl, ⟨ws, hws⟩, hB⟩ := hrel
      obtain ⟨o0, o1, o2, o3⟩ := HBX.out wr hB
      have q1 := HWB.out wr hB
      by_cases hlk : (k : Int) < rows0 r
      case neg =>
        obtain rfl : k = (rows0 r).toNat := by omega
        rw [← HLY.out] at hws
        have HWS := Lib.hid hws
        have BF := B0.trans (hB.mono B0.size)
        have hb0 := B0.size
        clear hws hlk
        go_wp2
        go_ret
        exact ⟨_, rfl, OCopiesR.base_ ⟨_, HWS.out⟩ hb0, BF⟩
      have HWS := Lib.hid hws
      clear hws
      go_wp2
      obtain ⟨wo, rfl⟩ : ∃ wo, wo = wr := ⟨wr, rfl⟩
      have hwo := hB.size
      clear o0 o1 o2 o3 q1
      go_loopw [7, 8] (fun lv i wr => ∃ j : Nat, j ≤ r.stacks.length ∧ i = .int .i64 j ∧ OSecsR wo.heap.size wr lv ((r.stacks.take j).map fun s => spotsD r s (k : Int)) ∧ Below wo.heap.size wo wr) (fun _ i _ => r.stacks.length - (intOf i).toNat)
      case atStart => exact ⟨0, Nat.zero_le _, rfl, ⟨_, OAll.nil⟩, Below.refl _ _⟩
      case round =>
        obtain ⟨j, hj, rfl, ⟨vs, hvs⟩, hB2⟩ := hrel
        have hB0 := hB.trans (hB2.mono hB.size)
        obtain ⟨o0, o1, o2, o3⟩ := HBX.out wr hB0
        have hcl : ((r.stacks.take j).map fun s => spotsD r s (k : Int)).length = j := by rw [List.length_map, List.length_take]; omega
        by_cases hlt : j < r.stacks.length
        case pos =>
          obtain ⟨s, hs⟩ : ∃ s, r.stacks[j]? = some s := ⟨_, List.getElem?_eq_getElem hlt⟩
          obtain ⟨g, o, A, c, rfl, hg, hX⟩ := HST.out j s hs
          have HX := Lib.hid hX
          have HNX : Hid (((r.stacks.take (j + 1)).map fun s => spotsD r s (k : Int)) = ((r.stacks.take j).map fun s => spotsD r s (k : Int)) ++ [spotsD r s k]) := by
            show _ = _
            rw [List.take_add_one, hs, List.map_append]; rfl
          have ho := hvs.1
          rw [hcl] at ho
          obtain ⟨Aq, cq, rfl⟩ := ownsRow_form ho
          have HVS := Lib.hid hvs
          have hji : (j : Int) < (r.stacks.length : Int) := by omega
          have m0 := (hX wr hB0).1
          have hbs := hB2.size
          have hfacts : ∀ X, Below W0.heap.size W0 X → X.cell? ⟨w.heap.size, 0, none⟩ = some (.slice (some ⟨gw, ow, none⟩) r.webs.length c1) ∧ X.cell? ⟨w.heap.size, 1, none⟩ = some (.slice A2 r.ribs.length c2) ∧ X.cell? ⟨w.heap.size, 2, none⟩ = some (.slice (some ⟨g, o, none⟩) r.stacks.length c3) ∧ X.cell? ⟨w.heap.size, 3, none⟩ = some (.bool false) ∧ X.cell? ⟨g, o + j, none⟩ = some (.slice A s.length c) := fun X h => by
            obtain ⟨a0, a1, a2, a3⟩ := HBX.out X h
            exact ⟨a0, a1, a2, a3, (HX.out X h).1⟩
          have hc0 : ∀ X, Below wr.heap.size wr X → Calls Try.prog 69 #[.agg #[.slice (some ⟨gw, ow, none⟩) r.webs.length c1, .slice A2 r.ribs.length c2, .slice (some ⟨g, o, none⟩) r.stacks.length c3, .bool false], .slice A s.length c, .int .i64 (k : Int)] X fun e w' => ∃ A' c', e = .returned (.slice A' (spotsD r s k).length c') ∧ OSpotsR wo.heap.size w' (.slice A' (spotsD r s k).length c') (spotsD r s k) ∧ Below X.heap.size X w' ∧ Below W0.heap.size W0 w' ∧ Below wr.heap.size wr w' := fun X h =>
            ((HX.out X (hB0.trans (h.mono hB0.size))).2 (k : Int)).mono fun e w' ⟨A', c', h1, h2, h3, h4⟩ => ⟨A', c', h1, ownsRow_base h2 (Nat.le_trans hbs h.size), h3, h4, h.trans (h3.mono h.size)⟩
          have hgrw : ∀ X X' tmp, Below wr.heap.size wr X → (X.alloc tmp).grownBy X' (Value.slice Aq j cq).ownBlock → Below wo.heap.size wo X' := fun X X' tmp hX hg =>
            below_grown (hB2.trans (hX.mono hbs)) (ownsRow_below ho hX) hg (Nat.le_trans hbs hX.size)
          have HG := Lib.hid hgrw
          have HF := Lib.hid hfacts
          have HC0 := Lib.hid hc0
          have HN := Lib.hid hcl
          clear hs hX hvs hfacts hc0 hg hcl hgrw
          go_wp2_with fail
          go_region_held3 (fun X => X.cell? ⟨w.heap.size, 0, none⟩ = some (.slice (some ⟨gw, ow, none⟩) r.webs.length c1) ∧ X.cell? ⟨w.heap.size, 1, none⟩ = some (.slice A2 r.ribs.length c2) ∧ X.cell? ⟨w.heap.size, 2, none⟩ = some (.slice (some ⟨g, o, none⟩) r.stacks.length c3) ∧ X.cell? ⟨w.heap.size, 3, none⟩ = some (.bool false) ∧ X.cell? ⟨g, o + j, none⟩ = some (.slice A s.length c))
            (first | exact hR8 | exact HF.out _ (by assumption) | exact HF.out _ hB0.drew | go_keep)
            (first | (refine step_append_lies _ (by rfl) _ _ _ (by rfl) wo.heap.size 122 i1 (.slice none 0 0) 1 24 Try.underlying121 hi hz0 hz1 hz2 rfl (by decide) (.slice Aq j cq) j vs (by rfl) (by first | exact (ownsRow_below ho hw7).alloc _ | exact ((ownsRow_below ho hw7).alloc _).drew) ⟨w7.heap.size, 0, none⟩ 1 1 [.slice A0' (spotsD r s k).length c0'] (by rfl) (by rfl) (World.news_of_block (cs := #[.slice A0' (spotsD r s k).length c0']) (t := 122) (fr := (0, 0)) (heap_alloc_new w7 _)) (by simp [Value.oneCell']) (by omega) (by simp only [maxLen]; omega) (by omega) (by have := hw7.size; simp; omega) (w7.heap.size + 1) (by simp) ?_; intro g9 c9 w8 hown' hgrow hat hlt9; have hB8 := HG.out w7 w8 _ hw7 hgrow; have hR8 := HF.out w8 (hB.trans (hB8.mono hB.size))) | (go_at_call 69; with_reducible refine (HC0.out _ ?_).mono ?_; (first | assumption | exact Below.refl _ _ | exact (Below.refl _ _).drew); rintro e w7 ⟨A0', c0', rfl, hu0, h0, hW7, hw7⟩))
          all_goals
            have hS := secs_one (HVS.out.below hw7 fun _ _ hr => ownsRow_below hr hw7) hu0 hgrow (by rw [HN.out]; exact hown')
            rw [← HNX.out] at hS
            clear o0 o1 o2 o3 m0 ho hown' hgrow hR8
            go_wp2
            go_roundw
            case rel => exact ⟨j + 1, by omega, by go_num, hS, hB8⟩
            case measure => (simp [intOf]) <;> omega
        obtain rfl : j = r.stacks.length := by omega
        rw [List.take_length] at hvs hcl
        have ho := hvs.1
        rw [hcl] at ho
        obtain ⟨Aq, cq, rfl⟩ := ownsRow_form ho
        have hst : OSecsR wo.heap.size wr (.slice Aq r.stacks.length cq) (straightD r k) := ⟨vs, hvs⟩
        have hw5 := ownsRow_below HWS.out.1 hB2
        have hlen : ((List.range k).map fun (row : Nat) => straightD r row).length = k := by simp
        rw [hlen] at hw5
        have HN := Lib.hid hlen
        have hbs := hB2.size
        have hk2 : k ≤ 2 := by omega
        clear hvs hcl ho hlen
        go_wp2_with (at_builtin; refine wpList_append_own _ rfl _ _ 118 rfl W0.heap.size 121 i2 (.slice none 0 0) 1 24 Try.underlying118 hi2 hs0 hs1 hs2 rfl (by decide) _ k ws rfl (hw5.alloc _) ⟨wr.heap.size, 0, none⟩ 1 1 [.slice Aq r.stacks.length cq] rfl rfl (cells_new _ _ _) (by simp [Value.oneCell']) (by simp only [maxLen]; omega) (by omega) (by simp; omega) ?_; intro v' w6 hown' hgrow _)
        have hgr : Grew 121 wr w6 := Grew.of_append hw5 hgrow
        have hC : OCopiesR W0.heap.size w6 v' ((List.range (k + 1)).map fun (row : Nat) => straightD r row) := by
          rw [List.range_succ, List.map_append]
          exact ⟨_, (HWS.out.below hB2 fun _ _ hr => hr.below hB2).append (fun _ _ hr => OSecsR.grew hr hgr (by decide) (by decide)) (hst.base_ hwo) (by rw [HN.out]; exact hown')⟩
        have hB6 := below_grown hB0 hw5 hgrow hB0.size
        clear hown' hgrow hgr o0 o1 o2 o3 hw5 hst
        go_wp2
        go_roundw
        case rel => exact ⟨k + 1, by omega, by go_num, hC, hB6⟩
        case measure => (simp [intOf]) <;> omega
end Go.Proofs.Ytdbfhdncjblleaa
