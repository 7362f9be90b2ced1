/-
  Ganged: its walk.
-/
import Derived.Test.YtdbfhdncjblleaaX
import Derived.IntWalk
namespace Go.Proofs.Ytdbfhdncjblleaa
open Go.RowKit

theorem infoPlace : (Try.prog.info? 56).map (fun i => (i.zero, i.size, i.bytes)) = some (some (.agg #[.int .i64 0, .int .i64 0, .int .i64 0]), 3, 24) := by kernel_rfl
/-- What Ganged gives: a slice of one's own, or nil and the error. -/
def GangRet (r : RunD) (w : World) (e : Ending) (w' : World) : Prop :=
  ∃ u, e = .returned (.tuple #[u, .int .i64 (checkE r)]) ∧ (checkE r = 0 → w'.ownsRow w.heap.size 56 3 u (gangedD r).length ((gangedD r).flatMap PlaceD.cells)) ∧ (checkE r ≠ 0 → u = .slice none 0 0) ∧ Below w.heap.size w w'
theorem place_snoc (l : List PlaceD) (x : PlaceD) : (l ++ [x]).flatMap PlaceD.cells = l.flatMap PlaceD.cells ++ x.cells := by simp
theorem len_snoc {α : Type} (l : List α) (x : α) : (l ++ [x]).length = l.length + 1 := by simp
def OPl (base : Nat) (w : World) (v : Value) (l : List PlaceD) : Prop := w.ownsRow base 56 3 v l.length (l.flatMap PlaceD.cells)

set_option maxRecDepth 100000 in
set_option maxHeartbeats 4000000 in
theorem Ganged_any (v : Value) (r : RunD) (w : World) (h : RRun w.heap.size w v r) : Calls Try.prog 25 #[v] w (GangRet r w) := by
  obtain ⟨i0, hi, hz0, hz1, hz2⟩ := info_parts infoPlace
  have hrun := Lib.hid h
  obtain ⟨A1, c1, A2, c2, A3, c3, rfl⟩ := h.shape
  clear h
  have F0 : ∃ W0, (w.alloc (.cells #[.slice A1 r.webs.length c1, .slice A2 r.ribs.length c2, .slice A3 r.stacks.length c3, .bool r.coll] 36)).alloc (.cells #[.slice A1 r.webs.length c1, .slice A2 r.ribs.length c2, .slice A3 r.stacks.length c3, .bool r.coll] 111) = W0 ∧
      W0.heap.size = w.heap.size + 2 ∧ Below w.heap.size w W0 ∧ Blk W0 (w.heap.size + 1) 111 #[.slice A1 r.webs.length c1, .slice A2 r.ribs.length c2, .slice A3 r.stacks.length c3, .bool r.coll] := by
    refine ⟨_, rfl, by simp, ((Below.refl _ _).alloc (Nat.le_refl _) _).alloc (by simp) _, ?_⟩
    have := Blk.new (w.alloc (.cells #[.slice A1 r.webs.length c1, .slice A2 r.ribs.length c2, .slice A3 r.stacks.length c3, .bool r.coll] 36)) 111 #[.slice A1 r.webs.length c1, .slice A2 r.ribs.length c2, .slice A3 r.stacks.length c3, .bool r.coll]
    rw [World.size_alloc] at this
    exact this
  obtain ⟨W0, e0, z0, B0, V0⟩ := F0
  have E0 := Lib.hid e0
  have Z0 := Lib.hid z0
  clear e0 z0
  go_enter Try.func25, Try.ntmps25
  go_wp2_with fail
  rw [E0.out]
  refine (check_any _ r _ ((hrun.out.below B0).more B0.size)).mono ?_
  rintro e w3 ⟨rfl, hb3⟩
  have V3 := V0.below hb3 (by rw [Z0.out]; omega)
  have B3 : Below w.heap.size w w3 := B0.trans (hb3.mono B0.size)
  clear V0 B0 E0 hb3
  have v0 := cellOf V3 0 (x := .slice A1 r.webs.length c1) rfl
  have v1 := cellOf V3 1 (x := .slice A2 r.ribs.length c2) rfl
  have v2 := cellOf V3 2 (x := .slice A3 r.stacks.length c3) rfl
  have v3 := cellOf V3 3 (x := .bool r.coll) rfl
  clear V3
  by_cases hck : checkE r = 0
  case neg =>
    have hck' : (checkE r != 0) = true := by simpa using hck
    have HR : ∀ e, e = .returned (.tuple #[.slice none 0 0, .int .i64 (checkE r)]) → GangRet r w e w3 := fun e he => ⟨_, he, fun h => absurd h hck, fun _ => rfl, B3⟩
    have HR' := Lib.hid HR
    clear hck HR
    generalize checkE r = ck at *
    go_wp2
    go_ret2
    exact HR'.out _ rfl
  have Hok := Lib.hid hck
  rw [hck]
  have n1 : w.heap.size + 1 < w3.heap.size := by
    have := World.block_lt_of_cell? w3 _ v0; exact this
  have VB : ∀ X, Below w3.heap.size w3 X → X.cell? ⟨w.heap.size + 1, 0, none⟩ = some (.slice A1 r.webs.length c1) ∧ X.cell? ⟨w.heap.size + 1, 1, none⟩ = some (.slice A2 r.ribs.length c2) ∧ X.cell? ⟨w.heap.size + 1, 2, none⟩ = some (.slice A3 r.stacks.length c3) ∧ X.cell? ⟨w.heap.size + 1, 3, none⟩ = some (.bool r.coll) := fun X hX =>
    ⟨(hX.cell (p := ⟨w.heap.size + 1, 0, none⟩) n1).trans v0, (hX.cell (p := ⟨w.heap.size + 1, 1, none⟩) n1).trans v1, (hX.cell (p := ⟨w.heap.size + 1, 2, none⟩) n1).trans v2, (hX.cell (p := ⟨w.heap.size + 1, 3, none⟩) n1).trans v3⟩
  have HVB := Lib.hid VB
  clear hck VB
  go_wp2_with fail
  refine (layout_any _ r _ ((hrun.out.below B3).more B3.size) Hok.out).mono ?_
  rintro e w4 ⟨u, rfl, hu, hb4⟩
  have B4 : Below w.heap.size w w4 := B3.trans (hb4.mono B3.size)
  obtain ⟨A, c, rfl, hA1, hA⟩ := RAll.open_ hu.reads
  have HA := Lib.hid hA
  clear hA hu v0 v1 v2 v3
  go_wp2
  go_loopw [6, 22] (fun u i wr => ∃ c : Nat, c ≤ (layoutD r).length ∧ i = .int .i64 c ∧ OPl w4.heap.size wr u (gang3 r ((layoutD r).take c)) ∧ Below w4.heap.size w4 wr) (fun _ i _ => (layoutD r).length - (intOf i).toNat)
  case atStart => exact ⟨0, Nat.zero_le _, rfl, World.ownsRow_nil _ _ _ _, Below.refl _ _⟩
  case round =>
    obtain ⟨c, hc, rfl, ho, hB⟩ := hrel
    by_cases hlt : c < (layoutD r).length
    · obtain ⟨S, hS⟩ : ∃ S, (layoutD r)[c]? = some S := ⟨_, List.getElem?_eq_getElem hlt⟩
      obtain ⟨g, o, u2, rfl, hb, hc1, hp⟩ := HA.out c S hS
      obtain ⟨A2', c2', rfl, hA2, hA3⟩ := RAll.open_ hp
      rw [← hB.cell (p := ⟨g, o + c, none⟩) hb] at hc1
      have HA3 := Lib.hid hA3
      have HS := Lib.hid hS
      have hG := gang3_len Hok.out c
      have ho' : OPl w4.heap.size wr u6 (gang3 r ((layoutD r).take c) ++ gang2 r c (S.take 0)) := by simpa [gang2] using ho
      clear hp hA3 hS ho
      go_wp2
      clear hc1
      go_loopw [6, 29] (fun u i wr => ∃ s : Nat, s ≤ S.length ∧ i = .int .i64 s ∧ OPl w4.heap.size wr u (gang3 r ((layoutD r).take c) ++ gang2 r c (S.take s)) ∧ Below w4.heap.size w4 wr) (fun _ i _ => S.length - (intOf i).toNat)
      case atStart => exact ⟨0, Nat.zero_le _, rfl, ho', hB⟩
      case round =>
        clear ho' hB
        obtain ⟨s, hs, rfl, ho, hB⟩ := hrel
        by_cases hlt2 : s < S.length
        · obtain ⟨l, hl⟩ : ∃ l, S[s]? = some l := ⟨_, List.getElem?_eq_getElem hlt2⟩
          obtain ⟨g2, o2, u4, rfl, hb2, hc1, hp⟩ := HA3.out s l hl
          obtain ⟨A4, c4, rfl, hA4, hA5⟩ := RSpots.open_ hp
          rw [← hB.cell (p := ⟨g2, o2 + s, none⟩) hb2] at hc1
          have HA5 := Lib.hid hA5
          have Hl := Lib.hid hl
          obtain ⟨hl128, hcol⟩ := sec_bound Hok.out HS.out hl
          have Hcol := Lib.hid hcol
          have hG2 := gang2_len Hok.out HS.out s
          have ho' : OPl w4.heap.size wr u6 ((gang3 r ((layoutD r).take c) ++ gang2 r c (S.take s)) ++ gangTo r c s l 0) := by simpa [gangTo] using ho
          clear hp hA5 hl ho hcol
          go_wp2
          clear hc1
          go_loopw [6, 11] (fun u i wr => ∃ k : Nat, k ≤ l.length - 1 ∧ i = .int .i64 (k + 1) ∧ OPl w4.heap.size wr u ((gang3 r ((layoutD r).take c) ++ gang2 r c (S.take s)) ++ gangTo r c s l k) ∧ Below w4.heap.size w4 wr) (fun _ i _ => l.length - (intOf i).toNat)
          case atStart => exact ⟨0, Nat.zero_le _, rfl, ho', hB⟩
          case round =>
            clear ho' hB
            obtain ⟨k, hk, rfl, ho, hB⟩ := hrel
            by_cases hlt3 : k + 1 < l.length
            · obtain ⟨x, hx⟩ : ∃ x, l[k]? = some x := ⟨_, List.getElem?_eq_getElem (by omega)⟩
              obtain ⟨y, hy⟩ : ∃ y, l[k + 1]? = some y := ⟨_, List.getElem?_eq_getElem hlt3⟩
              obtain ⟨g3, o3, rfl, hb3', hc1, hc2, hc3, hc4⟩ := HA5.out k x hx
              obtain ⟨g4, o4, he4, -, hd1, hd2, hd3, hd4⟩ := HA5.out (k + 1) y hy
              obtain ⟨rfl, rfl⟩ : g4 = g3 ∧ o4 = o3 := by simp at he4; omega
              have hw34 : Below w3.heap.size w3 wr := hb4.trans (hB.mono hb4.size)
              have hBw : Below w.heap.size w wr := B4.trans (hB.mono B4.size)
              have hfacts : ∀ X, Below wr.heap.size wr X → X.cell? ⟨w.heap.size + 1, 0, none⟩ = some (.slice A1 r.webs.length c1) ∧ X.cell? ⟨w.heap.size + 1, 1, none⟩ = some (.slice A2 r.ribs.length c2) ∧ X.cell? ⟨w.heap.size + 1, 2, none⟩ = some (.slice A3 r.stacks.length c3) ∧ X.cell? ⟨w.heap.size + 1, 3, none⟩ = some (.bool r.coll) ∧
                X.cell? ⟨g4, o4 + k * 4, none⟩ = some (.int .i64 x.web) ∧ X.cell? ⟨g4, o4 + k * 4 + 1, none⟩ = some (.int .i64 x.side) ∧ X.cell? ⟨g4, o4 + k * 4 + 2, none⟩ = some (.int .i64 x.row) ∧ X.cell? ⟨g4, o4 + k * 4 + 3, none⟩ = some (.int .i64 x.col) ∧
                X.cell? ⟨g4, o4 + (k + 1) * 4, none⟩ = some (.int .i64 y.web) ∧ X.cell? ⟨g4, o4 + (k + 1) * 4 + 1, none⟩ = some (.int .i64 y.side) ∧ X.cell? ⟨g4, o4 + (k + 1) * 4 + 2, none⟩ = some (.int .i64 y.row) ∧ X.cell? ⟨g4, o4 + (k + 1) * 4 + 3, none⟩ = some (.int .i64 y.col) := fun X hX => by
                have hX4 := hB.trans (hX.mono hB.size)
                obtain ⟨e0, e1, e2, e3⟩ := HVB.out X (hw34.trans (hX.mono hw34.size))
                exact ⟨e0, e1, e2, e3, (hX4.cell (p := ⟨g4, o4 + k * 4, none⟩) hb3').trans hc1, (hX4.cell (p := ⟨g4, o4 + k * 4 + 1, none⟩) hb3').trans hc2, (hX4.cell (p := ⟨g4, o4 + k * 4 + 2, none⟩) hb3').trans hc3, (hX4.cell (p := ⟨g4, o4 + k * 4 + 3, none⟩) hb3').trans hc4,
                  (hX4.cell (p := ⟨g4, o4 + (k + 1) * 4, none⟩) hb3').trans hd1, (hX4.cell (p := ⟨g4, o4 + (k + 1) * 4 + 1, none⟩) hb3').trans hd2, (hX4.cell (p := ⟨g4, o4 + (k + 1) * 4 + 2, none⟩) hb3').trans hd3, (hX4.cell (p := ⟨g4, o4 + (k + 1) * 4 + 3, none⟩) hb3').trans hd4⟩
              have HF := Lib.hid hfacts
              have hcx := Hcol.out x (List.mem_of_getElem? hx)
              have hcy := Hcol.out y (List.mem_of_getElem? hy)
              have hcall : ∀ X, Below wr.heap.size wr X → Calls Try.prog 51 #[.agg #[.slice A1 r.webs.length c1, .slice A2 r.ribs.length c2, .slice A3 r.stacks.length c3, .bool r.coll], .agg #[.int .i64 x.web, .int .i64 x.side, .int .i64 x.row, .int .i64 x.col], .agg #[.int .i64 y.web, .int .i64 y.side, .int .i64 y.row, .int .i64 y.col]] X fun e w' => e = .returned (.bool (besideB r x y)) ∧ Below wr.heap.size wr w' :=
                fun X hX => (beside_any _ r x y X ((hrun.out.below (hBw.trans (hX.mono hBw.size))).more (Nat.le_trans hBw.size hX.size)) Hok.out hcx hcy).mono fun e w' he => ⟨he.1, hX.trans (he.2.mono hX.size)⟩
              have hgx : l.getD k default = x := getD_of hx
              have hgy : l.getD (k + 1) default = y := getD_of hy
              have hyes : besideB r x y = true → gangTo r c s l (k + 1) = gangTo r c s l k ++ [⟨c, s, k⟩] := fun h => gangTo_yes (by rw [hgx, hgy]; exact h)
              have hno : besideB r x y = false → gangTo r c s l (k + 1) = gangTo r c s l k := fun h => gangTo_no (by rw [hgx, hgy]; exact h)
              have Hyes := Lib.hid hyes
              have Hno := Lib.hid hno
              have hcnt : ((gang3 r ((layoutD r).take c) ++ gang2 r c (S.take s)) ++ gangTo r c s l k).length ≤ 100000 := by
                have := gangTo_len r c s l k
                rw [List.length_append, List.length_append]; omega
              obtain ⟨e0, e1, e2, e3, f0, f1, f2, f3, j0, j1, j2, j3⟩ := HF.out wr (Below.refl _ _)
              have i1 : (k : Int) < (l.length : Int) := by omega
              have i2 : (k : Int) + 1 < (l.length : Int) := by omega
              clear hfacts hc1 hc2 hc3 hc4 hd1 hd2 hd3 hd4 he4 hgx hgy hyes hno hx hy hcx hcy
              have hwr : IntKind.i64.wrap ((k : Int) + 1 - 1) = (k : Int) := by
                rw [show (k : Int) + 1 - 1 = k by omega]; exact IntWalk.i64_in _ ⟨by omega, by omega⟩
              have hwr0 : IntKind.i64.wrap (k : Int) = (k : Int) := IntWalk.i64_in _ ⟨by omega, by omega⟩
              have hwr2 : (0 : Int) ≤ (k : Int) + 1 := by omega
              have hwr3 : ((k : Int) + 1).toNat = k + 1 := by omega
              have hwr4 : (0 : Int) ≤ (k : Int) := by omega
              cases hbs : besideB r x y
              · rw [hbs] at hcall
                have HC := Lib.hid hcall
                have Hg := Lib.hid (Hno.out hbs)
                clear hcall hbs
                go_wp2_with fail
                go_region_held3 (fun X => X.cell? ⟨w.heap.size + 1, 0, none⟩ = some (.slice A1 r.webs.length c1) ∧ X.cell? ⟨w.heap.size + 1, 1, none⟩ = some (.slice A2 r.ribs.length c2) ∧ X.cell? ⟨w.heap.size + 1, 2, none⟩ = some (.slice A3 r.stacks.length c3) ∧ X.cell? ⟨w.heap.size + 1, 3, none⟩ = some (.bool r.coll) ∧
                X.cell? ⟨g4, o4 + k * 4, none⟩ = some (.int .i64 x.web) ∧ X.cell? ⟨g4, o4 + k * 4 + 1, none⟩ = some (.int .i64 x.side) ∧ X.cell? ⟨g4, o4 + k * 4 + 2, none⟩ = some (.int .i64 x.row) ∧ X.cell? ⟨g4, o4 + k * 4 + 3, none⟩ = some (.int .i64 x.col) ∧
                X.cell? ⟨g4, o4 + (k + 1) * 4, none⟩ = some (.int .i64 y.web) ∧ X.cell? ⟨g4, o4 + (k + 1) * 4 + 1, none⟩ = some (.int .i64 y.side) ∧ X.cell? ⟨g4, o4 + (k + 1) * 4 + 2, none⟩ = some (.int .i64 y.row) ∧ X.cell? ⟨g4, o4 + (k + 1) * 4 + 3, none⟩ = some (.int .i64 y.col))
                  (first | exact HF.out _ (by assumption) | exact HF.out _ (Below.refl _ _) | exact HF.out _ (Below.refl _ _).drew | go_keep)
                  (first | (go_at_call 51; refine (HC.out _ ?_).mono ?_; (first | assumption | exact Below.refl _ _ | exact (Below.refl _ _).drew); rintro e w5 ⟨rfl, h5⟩))
                have ho5 : OPl w4.heap.size w5 u6 ((gang3 r ((layoutD r).take c) ++ gang2 r c (S.take s)) ++ gangTo r c s l (k + 1)) := by rw [Hg.out]; exact ownsRow_below ho h5
                have hB5 := hB.trans (h5.mono hB.size)
                clear hwr hwr0 hwr2 hwr3 hwr4 ho
                go_wp2
                go_roundw
                case rel => exact ⟨k + 1, by omega, by go_num, ho5, hB5⟩
                case measure => simp [intOf]; omega
              · rw [hbs] at hcall
                have HC := Lib.hid hcall
                have Hg := Lib.hid (Hyes.out hbs)
                clear hcall hbs
                go_wp2_with fail
                go_region_held3 (fun X => X.cell? ⟨w.heap.size + 1, 0, none⟩ = some (.slice A1 r.webs.length c1) ∧ X.cell? ⟨w.heap.size + 1, 1, none⟩ = some (.slice A2 r.ribs.length c2) ∧ X.cell? ⟨w.heap.size + 1, 2, none⟩ = some (.slice A3 r.stacks.length c3) ∧ X.cell? ⟨w.heap.size + 1, 3, none⟩ = some (.bool r.coll) ∧
                X.cell? ⟨g4, o4 + k * 4, none⟩ = some (.int .i64 x.web) ∧ X.cell? ⟨g4, o4 + k * 4 + 1, none⟩ = some (.int .i64 x.side) ∧ X.cell? ⟨g4, o4 + k * 4 + 2, none⟩ = some (.int .i64 x.row) ∧ X.cell? ⟨g4, o4 + k * 4 + 3, none⟩ = some (.int .i64 x.col) ∧
                X.cell? ⟨g4, o4 + (k + 1) * 4, none⟩ = some (.int .i64 y.web) ∧ X.cell? ⟨g4, o4 + (k + 1) * 4 + 1, none⟩ = some (.int .i64 y.side) ∧ X.cell? ⟨g4, o4 + (k + 1) * 4 + 2, none⟩ = some (.int .i64 y.row) ∧ X.cell? ⟨g4, o4 + (k + 1) * 4 + 3, none⟩ = some (.int .i64 y.col))
                  (first | exact HF.out _ (by assumption) | exact HF.out _ (Below.refl _ _) | exact HF.out _ (Below.refl _ _).drew | go_keep)
                  (first | (go_at_call 51; refine (HC.out _ ?_).mono ?_; (first | assumption | exact Below.refl _ _ | exact (Below.refl _ _).drew); rintro e w5 ⟨rfl, h5⟩))
                have ho5 := ownsRow_below ho h5
                have hB5 := hB.trans (h5.mono hB.size)
                have HE : Hid (((gang3 r ((layoutD r).take c) ++ gang2 r c (S.take s)) ++ gangTo r c s l k).flatMap PlaceD.cells ++ [.int .i64 c, .int .i64 s, .int .i64 k] = ((gang3 r ((layoutD r).take c) ++ gang2 r c (S.take s)) ++ gangTo r c s l (k + 1)).flatMap PlaceD.cells) := by
                  show _ = _
                  rw [Hg.out, ← List.append_assoc, place_snoc]; rfl
                have HN : Hid (((gang3 r ((layoutD r).take c) ++ gang2 r c (S.take s)) ++ gangTo r c s l (k + 1)).length = ((gang3 r ((layoutD r).take c) ++ gang2 r c (S.take s)) ++ gangTo r c s l k).length + 1) := by
                  show _ = _
                  rw [Hg.out, ← List.append_assoc, len_snoc]
                clear hwr hwr0 hwr2 hwr3 hwr4 ho
                generalize hnn : ((gang3 r ((layoutD r).take c) ++ gang2 r c (S.take s)) ++ gangTo r c s l k).length = nn at *
                have Hnn := Lib.hid hnn
                clear hnn
                go_wp2_with (at_builtin; refine wpList_append_own _ rfl _ _ 63 rfl w4.heap.size 56 i0 (.agg #[.int .i64 0, .int .i64 0, .int .i64 0]) 3 24 Try.underlying63 hi hz0 hz1 hz2 rfl (by decide) _ _ _ rfl (ho5.alloc _) ⟨w5.heap.size, 0, none⟩ 1 1 [.int .i64 c, .int .i64 s, .int .i64 k] rfl rfl (cells_new _ _ _) (by simp [Value.oneCell']) (by simp only [maxLen]; omega) (by omega) (by have := hB5.size; simp; omega) ?_; intro v' w6 hown' hgrow _)
                have hB6 : Below w4.heap.size w4 w6 := (hB5.alloc hB5.size _).grown hgrow (by have := hB5.size; simp; omega) fun k hk => (ho5.lt k hk).1
                have ho6 : OPl w4.heap.size w6 v' ((gang3 r ((layoutD r).take c) ++ gang2 r c (S.take s)) ++ gangTo r c s l (k + 1)) := by
                  unfold OPl
                  rw [HN.out, ← HE.out]
                  exact hown'
                clear hown' hgrow ho5
                go_wp2
                go_roundw
                case rel => exact ⟨k + 1, by omega, by go_num, ho6, hB6⟩
                case measure => simp [intOf]; omega
            · have hall : gangTo r c s l k = gang1 r c s l := by unfold gang1; rw [show k = l.length - 1 by omega]
              have ho2 : OPl w4.heap.size wr u6 (gang3 r ((layoutD r).take c) ++ gang2 r c (S.take (s + 1))) := by rw [gang2_next Hl.out, ← List.append_assoc, ← hall]; exact ho
              clear hall ho
              go_wp2
              go_roundw
              case rel => exact ⟨s + 1, by omega, by go_num, ho2, hB⟩
              case measure => simp [intOf]; omega
        · have ho2 : OPl w4.heap.size wr u6 (gang3 r ((layoutD r).take (c + 1))) := by
            rw [gang3_next HS.out, show S = S.take s from (List.take_of_length_le (by omega)).symm]; exact ho
          clear ho
          go_wp2
          go_roundw
          case rel => exact ⟨c + 1, by omega, by go_num, ho2, hB⟩
          case measure => simp [intOf]; omega
    · have ho2 : OPl w4.heap.size wr u6 (gangedD r) := by
        unfold gangedD
        rw [show layoutD r = (layoutD r).take c from (List.take_of_length_le (by omega)).symm]; exact ho
      have HR : ∀ e, e = .returned (.tuple #[u6, .int .i64 0]) → GangRet r w e wr := fun e he => ⟨_, by rw [Hok.out]; exact he, fun _ => ownsRow_base ho2 B4.size, fun h => absurd Hok.out h, B4.trans (hB.mono B4.size)⟩
      have HR' := Lib.hid HR
      clear HR ho ho2
      go_wp2
      go_ret2
      exact HR'.out _ rfl
end Go.Proofs.Ytdbfhdncjblleaa
