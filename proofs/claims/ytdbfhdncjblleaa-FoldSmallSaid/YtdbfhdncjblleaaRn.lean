/-
  leaves and Copies of the program.
-/
import Derived.Test.YtdbfhdncjblleaaRl
namespace Go.Proofs.Ytdbfhdncjblleaa
open Go.RowKit

theorem infoPts : (Try.prog.info? 85).map (fun i => (i.zero, i.size, i.bytes)) = some (some (.slice none 0 0), 1, 24) := by kernel_rfl
theorem infoPtss : (Try.prog.info? 116).map (fun i => (i.zero, i.size, i.bytes)) = some (some (.slice none 0 0), 1, 24) := by kernel_rfl

set_option maxRecDepth 100000 in
set_option maxHeartbeats 2000000 in
theorem leaves_any (v sv : Value) (r : RunD) (S : List (List SpotD)) (w : World) (h : RRun w.heap.size w v r) (hs : RSecs w.heap.size w sv S) (hok : ∀ l ∈ S, ∀ s ∈ l, ∃ m x, SpotOk r s m x) (hSl : S.length ≤ 100) (hll : ∀ l ∈ S, l.length ≤ 128) :
    Calls Try.prog 44 #[v, sv] w fun e w' => ∃ u, e = .returned u ∧ OPts 89 85 w.heap.size w' u (S.map fun l => l.map (plateAt r.webs)) ∧ Below w.heap.size w w' := by
  obtain ⟨i0, hi, hz0, hz1, hz2⟩ := info_parts infoPlate0
  obtain ⟨i1, hi1, hy0, hy1, hy2⟩ := info_parts infoPts
  have hrun := Lib.hid h
  have HOK := Lib.hid hok
  have HLL := Lib.hid hll
  obtain ⟨A1, c1, A2, c2, A3, c3, rfl⟩ := h.shape
  have F0 : ∃ W0, w.alloc (.cells #[.slice A1 r.webs.length c1, .slice A2 r.ribs.length c2, .slice A3 r.stacks.length c3, .bool r.coll] 111) = W0 ∧ Below w.heap.size w W0 ∧ Blk W0 w.heap.size 111 #[.slice A1 r.webs.length c1, .slice A2 r.ribs.length c2, .slice A3 r.stacks.length c3, .bool r.coll] :=
    ⟨_, rfl, (Below.refl _ _).alloc (Nat.le_refl _) _, Blk.new _ _ _⟩
  obtain ⟨W0, e0, B0, V0⟩ := F0
  have E0 := Lib.hid e0
  have hbox : ∀ X, Below W0.heap.size W0 X → X.cell? ⟨w.heap.size, 0, none⟩ = some (.slice A1 r.webs.length c1) ∧ X.cell? ⟨w.heap.size, 1, none⟩ = some (.slice A2 r.ribs.length c2) ∧ X.cell? ⟨w.heap.size, 2, none⟩ = some (.slice A3 r.stacks.length c3) ∧ X.cell? ⟨w.heap.size, 3, none⟩ = some (.bool r.coll) := fun X hX => by
    have k2 := V0.below hX V0.lt
    exact ⟨cellOf k2 0 rfl, cellOf k2 1 rfl, cellOf k2 2 rfl, cellOf k2 3 rfl⟩
  have HBX := Lib.hid hbox
  obtain ⟨D, d, rfl, -, hD⟩ := RAll.open_ hs
  have hlay : ∀ m l, S[m]? = some l → ∃ g1 o1 E f, D = some ⟨g1, o1, none⟩ ∧ (∀ X, Below W0.heap.size W0 X → X.cell? ⟨g1, o1 + m, none⟩ = some (.slice E l.length f)) ∧
      ∀ n s, l[n]? = some s → ∃ g2 o2, E = some ⟨g2, o2, none⟩ ∧ ∀ X, Below W0.heap.size W0 X → X.cell? ⟨g2, o2 + n * 4, none⟩ = some (.int .i64 s.web) ∧ X.cell? ⟨g2, o2 + n * 4 + 1, none⟩ = some (.int .i64 s.side) ∧ X.cell? ⟨g2, o2 + n * 4 + 2, none⟩ = some (.int .i64 s.row) ∧ X.cell? ⟨g2, o2 + n * 4 + 3, none⟩ = some (.int .i64 s.col) := fun m l hl => by
    obtain ⟨g1, o1, u2, rfl, hg1, m1, hp1⟩ := hD m l hl
    obtain ⟨E, f, rfl, -, hE⟩ := RSpots.open_ hp1
    refine ⟨g1, o1, E, f, rfl, fun X hX => ((B0.trans (hX.mono B0.size)).cell (p := ⟨g1, o1 + m, none⟩) hg1).trans m1, fun n s hs => ?_⟩
    obtain ⟨g2, o2, rfl, hg2, n0, n1, n2, n3⟩ := hE n s hs
    exact ⟨g2, o2, rfl, fun X hX => by
      have hB := B0.trans (hX.mono B0.size)
      exact ⟨(hB.cell (p := ⟨g2, o2 + n * 4, none⟩) hg2).trans n0, (hB.cell (p := ⟨g2, o2 + n * 4 + 1, none⟩) hg2).trans n1, (hB.cell (p := ⟨g2, o2 + n * 4 + 2, none⟩) hg2).trans n2, (hB.cell (p := ⟨g2, o2 + n * 4 + 3, none⟩) hg2).trans n3⟩⟩
  have HIN := Lib.hid hlay
  clear h hs hok hll hbox hlay hD e0 V0
  go_enter Try.func44, Try.ntmps44
  go_upto_region 1 with fail
  rw [E0.out]
  go_wp2
  go_loopw [5, 13] (fun lv i wr => ∃ m : Nat, m ≤ S.length ∧ i = .int .i64 m ∧ OPts 89 85 W0.heap.size wr lv ((S.map fun l => l.map (plateAt r.webs)).take m) ∧ Below W0.heap.size W0 wr) (fun _ i _ => S.length - (intOf i).toNat)
  case atStart => exact ⟨0, Nat.zero_le _, rfl, ⟨_, OAll.nil⟩, Below.refl _ _⟩
  case round =>
    obtain ⟨m, hm, rfl, ⟨vs, hvs⟩, hB2⟩ := hrel
    have hcl : ((S.map fun l => l.map (plateAt r.webs)).take m).length = m := by rw [List.length_take, List.length_map]; omega
    by_cases hlm : m < S.length
    case neg =>
      have hall : (S.map fun l => l.map (plateAt r.webs)).take m = S.map fun l => l.map (plateAt r.webs) := List.take_of_length_le (by rw [List.length_map]; omega)
      rw [hall] at hvs
      have hst : OPts 89 85 w.heap.size wr _ (S.map fun l => l.map (plateAt r.webs)) := OPts.base_ ⟨vs, hvs⟩ B0.size
      have BF := B0.trans (hB2.mono B0.size)
      have HST := Lib.hid hst
      clear hvs hall hcl hst
      go_wp2
      go_ret
      exact ⟨_, rfl, HST.out, BF⟩
    obtain ⟨l, hl⟩ : ∃ l, S[m]? = some l := ⟨_, List.getElem?_eq_getElem hlm⟩
    obtain ⟨g1, o1, E, f, rfl, hcl1, hin1⟩ := HIN.out m l hl
    have m0 := hcl1 wr hB2
    have HIN1 := Lib.hid hin1
    have HL := Lib.hid hl
    have HVS := Lib.hid hvs
    have HC2 := Lib.hid hcl
    have hll := HLL.out l (List.mem_of_getElem? hl)
    have hmi : (m : Int) < (S.length : Int) := by omega
    have hwi := hB2.size
    clear hl hcl1 hin1 hvs hcl
    go_wp2
    clear m0
    obtain ⟨wi, rfl⟩ : ∃ wi, wi = wr := ⟨wr, rfl⟩
    go_loopw [8, 19] (fun lv i wr => ∃ n : Nat, n ≤ l.length ∧ i = .int .i64 n ∧ OPt 89 wi.heap.size wr lv ((l.map (plateAt r.webs)).take n) ∧ Below wi.heap.size wi wr) (fun _ i _ => l.length - (intOf i).toNat)
    case atStart => exact ⟨0, Nat.zero_le _, rfl, World.ownsRow_nil _ _ _ _, Below.refl _ _⟩
    case round =>
      obtain ⟨n, hn, rfl, ho, hB3⟩ := hrel
      have hB1 := hB2.trans (hB3.mono hwi)
      have hlen : ((l.map (plateAt r.webs)).take n).length = n := by rw [List.length_take, List.length_map]; omega
      unfold OPt at ho
      rw [hlen] at ho
      by_cases hln : n < l.length
      case neg =>
        obtain rfl : n = l.length := by omega
        have hall : (l.map (plateAt r.webs)).take l.length = l.map (plateAt r.webs) := List.take_of_length_le (by rw [List.length_map]; omega)
        rw [hall] at ho hlen
        obtain ⟨Aq, cq, rfl⟩ := ownsRow_form ho
        have hst : OPt 89 W0.heap.size wr (.slice Aq l.length cq) (l.map (plateAt r.webs)) := by
          unfold OPt
          rw [hlen]
          exact ownsRow_base ho hwi
        have hv0 := HVS.out.below hB3 fun _ _ hr => ownsRow_below hr hB3
        have hv5 := hv0.1
        rw [HC2.out] at hv5
        have HST := Lib.hid hst
        have HV0 := Lib.hid hv0
        have HNX : Hid ((S.map fun l => l.map (plateAt r.webs)).take (m + 1) = (S.map fun l => l.map (plateAt r.webs)).take m ++ [l.map (plateAt r.webs)]) := by
          show (S.map fun l => l.map (plateAt r.webs)).take (m + 1) = (S.map fun l => l.map (plateAt r.webs)).take m ++ [l.map (plateAt r.webs)]
          exact take_map_next (fun l : List SpotD => l.map (plateAt r.webs)) HL.out
        have hbs := hB1.size
        clear ho hlen hall hst hv0
        go_wp2_with (at_builtin; refine wpList_append_own _ rfl _ _ 116 rfl W0.heap.size 85 i1 (.slice none 0 0) 1 24 Try.underlying116 hi1 hy0 hy1 hy2 rfl (by decide) _ m vs rfl (hv5.alloc _) ⟨wr.heap.size, 0, none⟩ 1 1 [.slice Aq l.length cq] rfl rfl (cells_new _ _ _) (by simp [Value.oneCell']) (by simp only [maxLen]; omega) (by omega) (by simp; omega) ?_; intro v' w6 hown' hgrow _)
        have hC : OPts 89 85 W0.heap.size w6 v' ((S.map fun l => l.map (plateAt r.webs)).take (m + 1)) := by
          rw [HNX.out]
          exact pts_one (by decide) HV0.out HST.out hgrow (by rw [HC2.out]; exact hown')
        have hB6 := below_grown hB1 hv5 hgrow hbs
        clear hown' hgrow hv5
        go_wp2
        go_roundw
        case rel => exact ⟨m + 1, by omega, by go_num, hC, hB6⟩
        case measure => (simp [intOf]) <;> omega
      obtain ⟨s, hs⟩ : ∃ s, l[n]? = some s := ⟨_, List.getElem?_eq_getElem hln⟩
      obtain ⟨g2, o2, rfl, hsp⟩ := HIN1.out n s hs
      obtain ⟨n0, n1, n2, n3⟩ := hsp wr hB1
      obtain ⟨a, x, hok⟩ := HOK.out l (List.mem_of_getElem? HL.out) s (List.mem_of_getElem? hs)
      obtain ⟨p, hpa⟩ : ∃ p, plateAt r.webs s = p := ⟨_, rfl⟩
      have hcall : ∀ X, Below W0.heap.size W0 X → Calls Try.prog 56 #[.agg #[.slice A1 r.webs.length c1, .slice A2 r.ribs.length c2, .slice A3 r.stacks.length c3, .bool r.coll], .agg #[.int .i64 s.web, .int .i64 s.side, .int .i64 s.row, .int .i64 s.col]] X fun e w' => e = .returned (.agg #[.int .i64 p.page, .bool p.up]) ∧ Below X.heap.size X w' := fun X hX => by
        have hB := B0.trans (hX.mono B0.size)
        have := plate_any2 _ r s a x X ((hrun.out.below hB).more hB.size) hok
        rwa [hpa] at this
      have HNX : Hid (((l.map (plateAt r.webs)).take (n + 1)).flatMap PlateD.cells = ((l.map (plateAt r.webs)).take n).flatMap PlateD.cells ++ [.int .i64 p.page, .bool p.up] ∧ ((l.map (plateAt r.webs)).take (n + 1)).length = n + 1) := by
        refine ⟨?_, by rw [List.length_take, List.length_map]; omega⟩
        rw [take_map_next (plateAt r.webs) hs, hpa, cells_snoc]
      obtain ⟨pg, pu⟩ := p
      obtain ⟨sw, ss, sr, sc⟩ := s
      dsimp only at n0 n1 n2 n3 hcall
      have HCALL := Lib.hid hcall
      have F1 : ∃ w1, wr.alloc (.cells #[.int .i64 sw, .int .i64 ss, .int .i64 sr, .int .i64 sc] 53) = w1 ∧ Below wr.heap.size wr w1 ∧ Blk w1 wr.heap.size 53 #[.int .i64 sw, .int .i64 ss, .int .i64 sr, .int .i64 sc] := ⟨_, rfl, (Below.refl _ _).alloc (Nat.le_refl _) _, Blk.new _ _ _⟩
      obtain ⟨w1, e1, hb1, R1⟩ := F1
      have E1 := Lib.hid e1
      have hni : (n : Int) < (l.length : Int) := by omega
      have hB11 := hB1.trans (hb1.mono hB1.size)
      have hBi := hB3.trans (hb1.mono hB3.size)
      have ho1 := ownsRow_below ho hb1
      clear e1 ho hs hsp hok hpa hcall hlen
      go_upto_region 9 with fail
      rw [E1.out]
      clear n0 n1 n2 n3
      obtain ⟨d0, d1, d2, d3⟩ := HBX.out w1 hB11
      have q0 := cellOf R1 0 (x := .int .i64 sw) rfl
      have q1 := cellOf R1 1 (x := .int .i64 ss) rfl
      have q2 := cellOf R1 2 (x := .int .i64 sr) rfl
      have q3 := cellOf R1 3 (x := .int .i64 sc) rfl
      clear R1 hb1
      go_wp2_with fail
      refine (HCALL.out _ hB11).mono ?_
      rintro e w2 ⟨rfl, hb2⟩
      have hBi2 := hBi.trans (hb2.mono hBi.size)
      have ho2 := ownsRow_below ho1 hb2
      have hbs := hBi2.size
      clear d0 d1 d2 d3 q0 q1 q2 q3 ho1 hb2
      go_wp2_with (at_builtin; refine wpList_append_own _ rfl _ _ 85 rfl wi.heap.size 89 i0 (.agg #[.int .i64 0, .bool false]) 2 16 Try.underlying85 hi hz0 hz1 hz2 rfl (by decide) _ n _ rfl (ho2.alloc _) ⟨w2.heap.size, 0, none⟩ 1 1 [.int .i64 pg, .bool pu] rfl rfl (cells_new _ _ _) (by simp [Value.oneCell']) (by simp only [maxLen]; omega) (by omega) (by simp; omega) ?_; intro v' w6 hown' hgrow _)
      have hS : OPt 89 wi.heap.size w6 v' ((l.map (plateAt r.webs)).take (n + 1)) := by
        unfold OPt
        rw [HNX.out.1, HNX.out.2]
        exact hown'
      have hB8 := below_grown hBi2 ho2 hgrow hbs
      clear ho2 hown' hgrow
      go_wp2
      go_roundw
      case rel => exact ⟨n + 1, by omega, by go_num, hS, hB8⟩
      case measure => (simp [intOf]) <;> omega

set_option maxRecDepth 100000 in
set_option maxHeartbeats 2000000 in
theorem Copies_any (v : Value) (r : RunD) (w : World) (h : RRun w.heap.size w v r) : Calls Try.prog 13 #[v] w (CopiesRet 89 85 116 r w) := by
  obtain ⟨i2, hi2, hx0, hx1, hx2⟩ := info_parts infoPtss
  have hrun := Lib.hid h
  obtain ⟨A1, c1, A2, c2, A3, c3, rfl⟩ := h.shape
  clear h
  have F0 : ∃ W0, (w.alloc (.cells #[.slice A1 r.webs.length c1, .slice A2 r.ribs.length c2, .slice A3 r.stacks.length c3, .bool r.coll] 36)).alloc (.cells #[.slice A1 r.webs.length c1, .slice A2 r.ribs.length c2, .slice A3 r.stacks.length c3, .bool r.coll] 111) = W0 ∧
      W0.heap.size = w.heap.size + 2 ∧ Below w.heap.size w W0 ∧ Blk W0 (w.heap.size + 1) 111 #[.slice A1 r.webs.length c1, .slice A2 r.ribs.length c2, .slice A3 r.stacks.length c3, .bool r.coll] := by
    refine ⟨_, rfl, by simp, ((Below.refl _ _).alloc (Nat.le_refl _) _).alloc (by simp) _, ?_⟩
    have := Blk.new (w.alloc (.cells #[.slice A1 r.webs.length c1, .slice A2 r.ribs.length c2, .slice A3 r.stacks.length c3, .bool r.coll] 36)) 111 #[.slice A1 r.webs.length c1, .slice A2 r.ribs.length c2, .slice A3 r.stacks.length c3, .bool r.coll]
    rw [World.size_alloc] at this
    exact this
  obtain ⟨W0, e0, z0, B0, V0⟩ := F0
  have E0 := Lib.hid e0
  have Z0 := Lib.hid z0
  clear e0 z0
  go_enter Try.func13, Try.ntmps13
  go_wp2_with fail
  rw [E0.out]
  refine (check_any _ r _ ((hrun.out.below B0).more B0.size)).mono ?_
  rintro e w3 ⟨rfl, hb3⟩
  have V3 := V0.below hb3 (by rw [Z0.out]; omega)
  have B3 : Below w.heap.size w w3 := B0.trans (hb3.mono B0.size)
  clear V0 B0 E0 hb3
  have v0 := cellOf V3 0 (x := .slice A1 r.webs.length c1) rfl
  have v1 := cellOf V3 1 (x := .slice A2 r.ribs.length c2) rfl
  have v2 := cellOf V3 2 (x := .slice A3 r.stacks.length c3) rfl
  have v3 := cellOf V3 3 (x := .bool r.coll) rfl
  clear V3
  by_cases hck : checkE r = 0
  case neg =>
    have hck' : (checkE r != 0) = true := by simpa using hck
    have HR : ∀ e, e = .returned (.tuple #[.slice none 0 0, .int .i64 (checkE r)]) → CopiesRet 89 85 116 r w e w3 := fun e he => ⟨_, he, fun h => absurd h hck, fun _ => rfl, B3⟩
    have HR' := Lib.hid HR
    clear hck HR
    generalize checkE r = ck at *
    go_wp2
    go_ret2
    exact HR'.out _ rfl
  have Hok := Lib.hid hck
  rw [hck]
  have hl2 := layout_two hck
  have n1 : w.heap.size + 1 < w3.heap.size := by
    have := World.block_lt_of_cell? w3 _ v0; exact this
  have VB : ∀ X, Below w3.heap.size w3 X → X.cell? ⟨w.heap.size + 1, 0, none⟩ = some (.slice A1 r.webs.length c1) ∧ X.cell? ⟨w.heap.size + 1, 1, none⟩ = some (.slice A2 r.ribs.length c2) ∧ X.cell? ⟨w.heap.size + 1, 2, none⟩ = some (.slice A3 r.stacks.length c3) ∧ X.cell? ⟨w.heap.size + 1, 3, none⟩ = some (.bool r.coll) := fun X hX =>
    ⟨(hX.cell (p := ⟨w.heap.size + 1, 0, none⟩) n1).trans v0, (hX.cell (p := ⟨w.heap.size + 1, 1, none⟩) n1).trans v1, (hX.cell (p := ⟨w.heap.size + 1, 2, none⟩) n1).trans v2, (hX.cell (p := ⟨w.heap.size + 1, 3, none⟩) n1).trans v3⟩
  have HVB := Lib.hid VB
  clear hck VB
  go_wp2_with fail
  refine (layout_any _ r _ ((hrun.out.below B3).more B3.size) Hok.out).mono ?_
  rintro e w4 ⟨u, rfl, hu, hb4⟩
  have B4 : Below w.heap.size w w4 := B3.trans (hb4.mono B3.size)
  obtain ⟨A, c, rfl, hA1, hA⟩ := RAll.open_ hu.reads
  have HA := Lib.hid hA
  clear hA hu v0 v1 v2 v3
  go_wp2
  go_loopw [6, 19] (fun lv i wr => ∃ k : Nat, k ≤ (layoutD r).length ∧ i = .int .i64 k ∧ OPtss 89 85 116 w4.heap.size wr lv ((copiesD r).take k) ∧ Below w4.heap.size w4 wr) (fun _ i _ => (layoutD r).length - (intOf i).toNat)
  case atStart => exact ⟨0, Nat.zero_le _, rfl, ⟨_, OAll.nil⟩, Below.refl _ _⟩
  case round =>
    obtain ⟨k, hk, rfl, ⟨ws, hws⟩, hB⟩ := hrel
    have hcl : ((copiesD r).take k).length = k := by unfold copiesD; rw [List.length_take, List.length_map]; omega
    have B5 := B4.trans (hB.mono B4.size)
    by_cases hlk : k < (layoutD r).length
    case neg =>
      have hall : (copiesD r).take k = copiesD r := List.take_of_length_le (by unfold copiesD; rw [List.length_map]; omega)
      rw [hall] at hws
      have HR : ∀ u e, OPtss 89 85 116 w4.heap.size wr u (copiesD r) → e = .returned (.tuple #[u, .int .i64 0]) → CopiesRet 89 85 116 r w e wr := fun u e hu he => ⟨u, by rw [Hok.out]; exact he, fun _ => hu.base_ B4.size, fun h => absurd Hok.out h, B5⟩
      have HR' := Lib.hid HR
      have HO := Lib.hid (show OPtss 89 85 116 w4.heap.size wr _ (copiesD r) from ⟨ws, hws⟩)
      clear hcl hall HR hws
      go_wp2
      go_ret2
      exact HR'.out _ _ HO.out rfl
    obtain ⟨S, hS⟩ : ∃ S, (layoutD r)[k]? = some S := ⟨_, List.getElem?_eq_getElem hlk⟩
    obtain ⟨g, o, u2, rfl, hb, hc1, hp⟩ := HA.out k S hS
    obtain ⟨D, d, rfl, -⟩ := RAll.open_ hp
    rw [← hB.cell (p := ⟨g, o + k, none⟩) hb] at hc1
    obtain ⟨v0, v1, v2, v3⟩ := HVB.out wr (hb4.trans (hB.mono hb4.size))
    have hki : (k : Int) < ((layoutD r).length : Int) := by omega
    have hSl := copy_small Hok.out hS
    have C := Lib.hid (leaves_any _ _ r S wr ((hrun.out.below B5).more B5.size) (RAll.more (RSecs.below hp hB) hB.size fun _ _ hr => Rd.more hr hB.size) (fun l hl s hs => by
      obtain ⟨m, hm, rfl⟩ := List.getElem_of_mem hl
      obtain ⟨n, hn, rfl⟩ := List.getElem_of_mem hs
      exact layout_spot Hok.out hS (List.getElem?_eq_getElem hm) (List.getElem?_eq_getElem hn)) hSl (fun l hl => by
      obtain ⟨m, hm, rfl⟩ := List.getElem_of_mem hl
      exact (sec_bound Hok.out hS (List.getElem?_eq_getElem hm)).1))
    have HS := Lib.hid hS
    have HWS := Lib.hid hws
    have HCL := Lib.hid hcl
    have hwo := hB.size
    clear hS hws hcl hp
    go_wp2_with fail
    refine C.out.mono ?_
    rintro e w5 ⟨u, rfl, hu, hb5⟩
    obtain ⟨us, hus⟩ := hu
    have hform := hus.1
    obtain ⟨n, hn⟩ : ∃ n, (S.map fun l => l.map (plateAt r.webs)).length = n := ⟨_, rfl⟩
    rw [hn] at hform
    obtain ⟨Aq, cq, rfl⟩ := ownsRow_form hform
    have hst : OPts 89 85 w4.heap.size w5 (.slice Aq n cq) (S.map fun l => l.map (plateAt r.webs)) := OPts.base_ ⟨us, hus⟩ hwo
    have hw0 := HWS.out.below hb5 fun _ _ hr => hr.below hb5
    have hw5 := hw0.1
    rw [HCL.out] at hw5
    have HST := Lib.hid hst
    have HW0 := Lib.hid hw0
    have HNX : Hid ((copiesD r).take (k + 1) = (copiesD r).take k ++ [S.map fun l => l.map (plateAt r.webs)]) := by
      show (copiesD r).take (k + 1) = (copiesD r).take k ++ [S.map fun l => l.map (plateAt r.webs)]
      exact take_map_next (fun S : List (List SpotD) => S.map fun l => l.map (plateAt r.webs)) HS.out
    have hB0 := hB.trans (hb5.mono hwo)
    have hbs := hB0.size
    have hk2 : k ≤ 2 := by omega
    clear hus hform hn hst hw0 v0 v1 v2 v3 hc1 C
    go_wp2_with (at_builtin; refine wpList_append_own _ rfl _ _ 38 rfl w4.heap.size 116 i2 (.slice none 0 0) 1 24 Try.underlying38 hi2 hx0 hx1 hx2 rfl (by decide) _ k ws rfl (hw5.alloc _) ⟨w5.heap.size, 0, none⟩ 1 1 [.slice Aq n cq] rfl rfl (cells_new _ _ _) (by simp [Value.oneCell']) (by simp only [maxLen]; omega) (by omega) (by simp; omega) ?_; intro v' w6 hown' hgrow _)
    have hC : OPtss 89 85 116 w4.heap.size w6 v' ((copiesD r).take (k + 1)) := by
      rw [HNX.out]
      exact ptss_one (by decide) (by decide) HW0.out HST.out hgrow (by rw [HCL.out]; exact hown')
    have hB6 := below_grown hB0 hw5 hgrow hbs
    clear hown' hgrow hw5
    go_wp2
    go_roundw
    case rel => exact ⟨k + 1, by omega, by go_num, hC, hB6⟩
    case measure => (simp [intOf]) <;> omega
end Go.Proofs.Ytdbfhdncjblleaa
