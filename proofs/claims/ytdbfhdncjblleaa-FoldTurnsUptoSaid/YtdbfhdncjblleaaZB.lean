/-
  clone: the walk.
-/
import Derived.Test.YtdbfhdncjblleaaZA
import Derived.Deep.DeepCutAuto
import Derived.Deep.AppendLies
import Derived.Deep.RegionLaw
import Derived.Deep.RegionHeld3
import Derived.Deep.RegionWith
import Derived.RegionTactic
namespace Go.Proofs.Ytdbfhdncjblleaa
open Go.RowKit

def SmallRun (r : RunD) : Prop := r.webs.length ≤ 1000 ∧ r.ribs.length ≤ 1000 ∧ r.stacks.length ≤ 1000 ∧ (∀ x ∈ r.webs, x.plates.length ≤ 1000) ∧ ∀ s ∈ r.stacks, s.length ≤ 1000
def CloneCut (w : World) (r : RunD) (box : Array Value) (s3 : Value) (wx : World) : Prop :=
  ∃ B v2, s3 = .pointer (some ⟨B, 0, none⟩) ∧ CloneSt w r box B (.slice none 0 0) [] [] v2 (.slice none 0 0) [] wx
theorem clone_cutA {w W0 w4 : World} {r : RunD} {box : Array Value} {u : Value} (z0 : W0.heap.size = w.heap.size + 2) (B0 : Below w.heap.size w W0) (V0 : Blk W0 w.heap.size 36 box) (V1 : Blk W0 (w.heap.size + 1) 36 #[.slice none 0 0, .slice none 0 0, .slice none 0 0, .bool false])
    (h04 : Below W0.heap.size W0 w4) (hu : ORibs w.heap.size w4 u r.ribs) : CloneCut w r box (.pointer (some ⟨w4.heap.size, 0, none⟩)) (w4.alloc (.cells #[.slice none 0 0, u, .slice none 0 0, .bool r.coll] 36)) := by
  have s4 := h04.size
  have hb := B0.trans (h04.mono B0.size)
  have ha : Below w4.heap.size w4 (w4.alloc (.cells #[.slice none 0 0, u, .slice none 0 0, .bool r.coll] 36)) := (Below.refl _ _).alloc (Nat.le_refl _) _
  exact ⟨_, u, rfl, Blk.new _ _ _, OWebs.nil, ownsRow_below hu ha, ⟨[], OAll.nil⟩, hb.trans (ha.mono hb.size), (V0.below h04 (by omega)).alloc _, (V1.below h04 (by omega)).alloc _, by omega⟩
theorem clone_cutB {w W0 w4 : World} {r : RunD} {box : Array Value} {u : Value} (z0 : W0.heap.size = w.heap.size + 2) (B0 : Below w.heap.size w W0) (V0 : Blk W0 w.heap.size 36 box) (V1 : Blk W0 (w.heap.size + 1) 36 #[.slice none 0 0, .slice none 0 0, .slice none 0 0, .bool false])
    (h04 : Below W0.heap.size W0 w4) (hu : ORibs w.heap.size w4 u r.ribs) (z4 : Blk w4 W0.heap.size 36 #[.slice none 0 0, .slice none 0 0, .slice none 0 0, .bool false]) :
    CloneCut w r box (.pointer (some ⟨W0.heap.size, 0, none⟩)) ((((w4.setCell ⟨W0.heap.size, 0, none⟩ (.slice none 0 0)).setCell ⟨W0.heap.size, 1, none⟩ u).setCell ⟨W0.heap.size, 2, none⟩ (.slice none 0 0)).setCell ⟨W0.heap.size, 3, none⟩ (.bool r.coll)) := by
  have s4 := h04.size
  have hb := B0.trans (h04.mono B0.size)
  have k1 := z4.put 0 (.slice none 0 0)
  have k2 := k1.put 1 u
  have k3 := k2.put 2 (.slice none 0 0)
  refine ⟨_, u, rfl, k3.put 3 (.bool r.coll), OWebs.nil, ?_, ⟨[], OAll.nil⟩, below_set4 hb B0.size _ _ _ _, ?_, ?_, by omega⟩
  · exact ownsRow_grew (ownsRow_grew (ownsRow_grew (ownsRow_grew hu (Grew.set z4 0 _) (by decide)) (Grew.set k1 1 _) (by decide)) (Grew.set k2 2 _) (by decide)) (Grew.set k3 3 _) (by decide)
  · have hne : w.heap.size ≠ W0.heap.size := by omega
    exact ((((V0.below h04 (by omega)).far (p := ⟨W0.heap.size, 0, none⟩) hne _).far (p := ⟨W0.heap.size, 1, none⟩) hne _).far (p := ⟨W0.heap.size, 2, none⟩) hne _).far (p := ⟨W0.heap.size, 3, none⟩) hne _
  · have hne : w.heap.size + 1 ≠ W0.heap.size := by omega
    exact ((((V1.below h04 (by omega)).far (p := ⟨W0.heap.size, 0, none⟩) hne _).far (p := ⟨W0.heap.size, 1, none⟩) hne _).far (p := ⟨W0.heap.size, 2, none⟩) hne _).far (p := ⟨W0.heap.size, 3, none⟩) hne _
theorem CloneSt.final {w X : World} {r : RunD} {box : Array Value} {B : Nat} {v1 : Value} {vs : List Value} {v2 v3 : Value} (h : CloneSt w r box B v1 vs r.webs v2 v3 r.stacks X) :
    ORun w.heap.size ((((X.setCell ⟨w.heap.size + 1, 0, none⟩ v1).setCell ⟨w.heap.size + 1, 1, none⟩ v2).setCell ⟨w.heap.size + 1, 2, none⟩ v3).setCell ⟨w.heap.size + 1, 3, none⟩ (.bool r.coll)) (.agg #[v1, v2, v3, .bool r.coll]) r ∧
    Below w.heap.size w ((((X.setCell ⟨w.heap.size + 1, 0, none⟩ v1).setCell ⟨w.heap.size + 1, 1, none⟩ v2).setCell ⟨w.heap.size + 1, 2, none⟩ v3).setCell ⟨w.heap.size + 1, 3, none⟩ (.bool r.coll)) := by
  obtain ⟨h1, h2, h3, h4, h5, h6, h7, h8⟩ := h
  have k1 := h7.put 0 v1
  have k2 := k1.put 1 v2
  have k3 := k2.put 2 v3
  have g1 := Grew.set h7 0 v1
  have g2 := Grew.set k1 1 v2
  have g3 := Grew.set k2 2 v3
  have g4 := Grew.set k3 3 (.bool r.coll)
  have g := ((g1.trans g2).trans g3).trans g4
  exact ⟨⟨v1, vs, v2, v3, rfl, h2.grew g (by decide) (by decide), ownsRow_grew h3 g (by decide), h4.grew g (by decide) (by decide)⟩, below_set4 h5 (by omega) _ _ _ _⟩
theorem rib_cells_one (l : List RibD) : ∀ u ∈ l.flatMap RibD.cells, u.oneCell' = true := fun u hu => by
  obtain ⟨x, -, hx⟩ := List.mem_flatMap.1 hu
  simp only [RibD.cells, List.mem_cons, List.not_mem_nil, or_false] at hx
  rcases hx with rfl | rfl | rfl | rfl | rfl <;> rfl
theorem plate_cells_one (l : List PlateD) : ∀ u ∈ l.flatMap PlateD.cells, u.oneCell' = true := fun u hu => by
  obtain ⟨x, -, hx⟩ := List.mem_flatMap.1 hu
  simp only [PlateD.cells, List.mem_cons, List.not_mem_nil, or_false] at hx
  rcases hx with rfl | rfl <;> rfl
theorem int_cells_one (l : List Int) : ∀ u ∈ l.map (Value.int .i64), u.oneCell' = true := fun u hu => by
  obtain ⟨x, -, rfl⟩ := List.mem_map.1 hu
  rfl

theorem infoWeb0 : (Try.prog.info? 87).map (fun i => (i.zero, i.size, i.bytes)) = some (some (.agg #[.int .i64 0, .int .i64 0, .slice none 0 0]), 3, 40) := by kernel_rfl
theorem infoInts0 : (Try.prog.info? 48).map (fun i => (i.zero, i.size, i.bytes)) = some (some (.slice none 0 0), 1, 24) := by kernel_rfl
theorem RRun.webs {B : Nat} {w : World} {r : RunD} {v1 v2 v3 : Value} (h : RRun B w (.agg #[v1, v2, v3, .bool r.coll]) r) : RWebs B w v1 r.webs := by
  obtain ⟨u1, u2, u3, e, h1, -, -⟩ := h
  cases e
  exact h1
theorem RRun.stacks {B : Nat} {w : World} {r : RunD} {v1 v2 v3 : Value} (h : RRun B w (.agg #[v1, v2, v3, .bool r.coll]) r) : RIntss B w v3 r.stacks := by
  obtain ⟨u1, u2, u3, e, -, -, h1⟩ := h
  cases e
  exact h1

set_option maxRecDepth 100000 in
set_option maxHeartbeats 2000000 in
theorem clone_any (v : Value) (r : RunD) (w : World) (h : RRun w.heap.size w v r) (hs : SmallRun r) : Calls Try.prog 58 #[v] w fun e w' => ∃ u, e = .returned u ∧ ORun w.heap.size w' u r ∧ Below w.heap.size w w' := by
  have hrun := Lib.hid h
  obtain ⟨A1, c1, A2, c2, A3, c3, rfl⟩ := h.shape
  have hr2 : Rd w.heap.size w 5 (.slice A2 r.ribs.length c2) r.ribs.length (r.ribs.flatMap RibD.cells) := by
    obtain ⟨v1, v2, v3, e, -, h2, -⟩ := h
    cases e
    exact h2
  clear h
  have F0 : ∃ W0, (w.alloc (.cells #[.slice A1 r.webs.length c1, .slice A2 r.ribs.length c2, .slice A3 r.stacks.length c3, .bool r.coll] 36)).alloc (.cells #[.slice none 0 0, .slice none 0 0, .slice none 0 0, .bool false] 36) = W0 ∧
      W0.heap.size = w.heap.size + 2 ∧ Below w.heap.size w W0 ∧ Blk W0 w.heap.size 36 #[.slice A1 r.webs.length c1, .slice A2 r.ribs.length c2, .slice A3 r.stacks.length c3, .bool r.coll] ∧
      Blk W0 (w.heap.size + 1) 36 #[.slice none 0 0, .slice none 0 0, .slice none 0 0, .bool false] := by
    refine ⟨_, rfl, by simp, ((Below.refl _ _).alloc (Nat.le_refl _) _).alloc (by simp) _, (Blk.new _ _ _).alloc _, ?_⟩
    have := Blk.new (w.alloc (.cells #[.slice A1 r.webs.length c1, .slice A2 r.ribs.length c2, .slice A3 r.stacks.length c3, .bool r.coll] 36)) 36 #[.slice none 0 0, .slice none 0 0, .slice none 0 0, .bool false]
    rw [World.size_alloc] at this
    exact this
  obtain ⟨W0, e0, z0, B0, V0, V1⟩ := F0
  have hc : ∀ X, Below W0.heap.size W0 X → Calls Try.prog 75 #[.slice A2 r.ribs.length c2] X fun e w' => ∃ u, e = .returned u ∧ ORibs w.heap.size w' u r.ribs ∧ Below X.heap.size X w' := fun X hX => by
    have hb := B0.trans (hX.mono B0.size)
    refine (cloneRibs_any _ _ _ X ((hr2.below hb).more hb.size) (rib_cells_one _) (by have := hs.2.1; omega)).mono ?_
    rintro e w' ⟨u, he, hu, hbu⟩
    exact ⟨u, he, ownsRow_base hu hb.size, hbu⟩
  have z4 : ∀ w4, Below (W0.alloc (.cells #[.slice none 0 0, .slice none 0 0, .slice none 0 0, .bool false] 36)).drew.heap.size (W0.alloc (.cells #[.slice none 0 0, .slice none 0 0, .slice none 0 0, .bool false] 36)).drew w4 → Blk w4 W0.heap.size 36 #[.slice none 0 0, .slice none 0 0, .slice none 0 0, .bool false] ∧ w4.cell? ⟨W0.heap.size, 0, none⟩ = some (.slice none 0 0) ∧ w4.cell? ⟨W0.heap.size, 1, none⟩ = some (.slice none 0 0) ∧ w4.cell? ⟨W0.heap.size, 2, none⟩ = some (.slice none 0 0) ∧ w4.cell? ⟨W0.heap.size, 3, none⟩ = some (.bool false) ∧
      w4.frozen? ⟨W0.heap.size, 0, none⟩ = false ∧ w4.frozen? ⟨W0.heap.size, 1, none⟩ = false ∧ w4.frozen? ⟨W0.heap.size, 2, none⟩ = false ∧ w4.frozen? ⟨W0.heap.size, 3, none⟩ = false := fun w4 h => by
    have hk : Blk w4 W0.heap.size 36 #[.slice none 0 0, .slice none 0 0, .slice none 0 0, .bool false] := (Blk.new W0 _ _).below (W := (W0.alloc (.cells #[.slice none 0 0, .slice none 0 0, .slice none 0 0, .bool false] 36)).drew) h (by show W0.heap.size < (W0.alloc _).heap.size; rw [World.size_alloc]; omega)
    exact ⟨hk, hk.cell 0, hk.cell 1, hk.cell 2, hk.cell 3, hk.frozen 0, hk.frozen 1, hk.frozen 2, hk.frozen 3⟩
  have za : ∀ o, W0.heap.size ≤ (W0.alloc o).heap.size := fun o => by simp
  have v1 := cellOf V0 1 (x := .slice A2 r.ribs.length c2) rfl
  have v3 := cellOf V0 3 (x := .bool r.coll) rfl
  have n0 : w.heap.size < W0.heap.size := by omega
  have E0 := Lib.hid e0
  have Z0 := Lib.hid z0
  have HC := Lib.hid hc
  have Z4 := Lib.hid z4
  have ZA := Lib.hid za
  have HV0 := Lib.hid V0
  have HV1 := Lib.hid V1
  have HS := Lib.hid hs
  clear e0 z0 hc z4 za V0 V1 hs hr2
  go_enter Try.func58, Try.ntmps58
  go_upto_region 1 with fail
  rw [E0.out]
  go_cut [3] (fun s3 wx => CloneCut w r #[.slice A1 r.webs.length c1, .slice A2 r.ribs.length c2, .slice A3 r.stacks.length c3, .bool r.coll] s3 wx)
  case first =>
    go_region_with (go_at_call 75; refine (HC.out _ ?_).mono ?_; (first | exact (Below.refl _ _).drew | exact ((Below.refl _ _).alloc (Nat.le_refl _) _).drew); rintro e w4 ⟨u, rfl, hu, hb4⟩; obtain ⟨A7, c7, rfl⟩ := ownsRow_form hu; have h04 : Below W0.heap.size W0 w4 := (by first | exact ((Below.refl W0.heap.size W0).drew).trans (hb4.mono (Nat.le_refl _)) | exact (((Below.refl W0.heap.size W0).alloc (Nat.le_refl _) _).drew).trans (hb4.mono (ZA.out _))); have y1 := (h04.cell (p := ⟨w.heap.size, 1, none⟩) n0).trans v1; have y3 := (h04.cell (p := ⟨w.heap.size, 3, none⟩) n0).trans v3; have n5 := Nat.lt_of_lt_of_le n0 h04.size; (first | (refine (fun H => ?_) (Z4.out w4 hb4); obtain ⟨z9, k0, k1, k2, k3, g0, g1, g2, g3⟩ := H) | skip))
    all_goals (go_wp2_with fail; go_meet; first | with_reducible exact clone_cutA Z0.out B0 HV0.out HV1.out h04 hu | with_reducible exact clone_cutB Z0.out B0 HV0.out HV1.out h04 hu z9)
  case rest =>
  obtain ⟨B, v2, rfl, hst⟩ := hcut
  obtain ⟨A7, c7, rfl⟩ := ownsRow_form hst.2.2.1
  obtain ⟨i1, hi1, hw0, hw1, hw2⟩ := info_parts infoWeb0
  obtain ⟨i2, hi2, hs0, hs1, hs2⟩ := info_parts infoInts0
  have hpc : ∀ X A c (l : List PlateD), Below w.heap.size w X → RPlates w.heap.size w (.slice A l.length c) l → l.length ≤ 1000 → Calls Try.prog 76 #[.slice A l.length c] X fun e w' => ∃ u, e = .returned u ∧ OPlates X.heap.size w' u l ∧ Below X.heap.size X w' := fun X A c l hX hp hl => by
    refine (clonePlates_any _ _ _ X (Rd.more (Rd.below hp hX) hX.size) (plate_cells_one _) (by omega)).mono ?_
    rintro e w' ⟨u, he, hu, hbu⟩
    exact ⟨u, he, hu, hbu⟩
  have HPC := Lib.hid hpc
  obtain ⟨Ax, cx, ea, -, hA⟩ := (hrun.out.webs).open_
  cases ea
  have HA := Lib.hid hA
  have v0 := cellOf hst.2.2.2.2.2.1 0 (x := .slice A1 r.webs.length c1) rfl
  have HST := Lib.hid hst
  have BWX := Lib.hid hst.2.2.2.2.1
  clear hpc hA hst v1 v3 n0 B0
  go_wp2
  clear v0
  go_loopw [17] (fun i wr => ∃ (k : Nat) (v1 : Value) (vs : List Value), k ≤ r.webs.length ∧ i = .int .i64 k ∧ CloneSt w r #[.slice A1 r.webs.length c1, .slice A2 r.ribs.length c2, .slice A3 r.stacks.length c3, .bool r.coll] B v1 vs (r.webs.take k) (.slice A7 r.ribs.length c7) (.slice none 0 0) [] wr) (fun i _ => r.webs.length - (intOf i).toNat)
  case atStart => exact ⟨0, _, _, Nat.zero_le _, rfl, HST.out⟩
  case round =>
    obtain ⟨k, v1, vs, hk, rfl, hst⟩ := hrel
    clear HST
    have hBw : Below w.heap.size w wr := hst.2.2.2.2.1
    by_cases hlt : k < r.webs.length
    · obtain ⟨x, hx⟩ : ∃ x, r.webs[k]? = some x := ⟨_, List.getElem?_eq_getElem hlt⟩
      obtain ⟨g, o, u, rfl, hb, hc1, hc2, hc3, hp⟩ := HA.out k x hx
      rw [← hBw.cell (p := ⟨g, o + k * 3, none⟩) hb] at hc1
      rw [← hBw.cell (p := ⟨g, o + k * 3 + 1, none⟩) hb] at hc2
      rw [← hBw.cell (p := ⟨g, o + k * 3 + 2, none⟩) hb] at hc3
      obtain ⟨A5, c5, rfl, -⟩ := rd_slice hp
      have hpl : x.plates.length ≤ 1000 := HS.out.2.2.2.1 x (List.mem_of_getElem? hx)
      have HP := Lib.hid hp
      have HT : Hid (r.webs.take (k + 1) = r.webs.take k ++ [x]) := by
        show r.webs.take (k + 1) = r.webs.take k ++ [x]
        rw [List.take_add_one, hx]; rfl
      have HL : Hid ((r.webs.take k).length = k) := by show (r.webs.take k).length = k; rw [List.length_take]; omega
      have hk1 : k ≤ 1000 := by have := HS.out.1; omega
      obtain ⟨Av, cv, rfl⟩ := ownsRow_form hst.2.1.1
      rw [HL.out] at hst
      have HST := Lib.hid hst
      clear hx hp hst
      go_wp2_with fail
      refine (HPC.out _ _ _ _ (hBw.alloc hBw.size _) HP.out hpl).mono ?_
      rintro e w2 ⟨u', rfl, hu, hb2⟩
      obtain ⟨A8, c8, rfl⟩ := ownsRow_form hu
      have hsz : (wr.alloc (.cells #[.int .i64 x.cols, .int .i64 x.rows, .slice A5 x.plates.length c5] 87)).heap.size = wr.heap.size + 1 := by simp
      have hbk : Blk w2 wr.heap.size 87 #[.int .i64 x.cols, .int .i64 x.rows, .slice A5 x.plates.length c5] := (Blk.new wr _ _).below hb2 (by rw [hsz]; omega)
      have hb3 : Below wr.heap.size wr w2 := ((Below.refl wr.heap.size wr).alloc (Nat.le_refl _) _).trans (hb2.mono (by rw [hsz]; omega))
      have hb4 : Below wr.heap.size wr (w2.setCell ⟨wr.heap.size, 2, none⟩ (.slice A8 x.plates.length c8)) := hb3.setCell (p := ⟨wr.heap.size, 2, none⟩) (Nat.le_refl _) _
      have hst3 := HST.out.below hb4
      have hBlt : B < wr.heap.size := HST.out.1.lt
      have hu3 : OPlates w.heap.size (w2.setCell ⟨wr.heap.size, 2, none⟩ (.slice A8 x.plates.length c8)) (.slice A8 x.plates.length c8) x.plates := ownsRow_base (ownsRow_grew hu (Grew.set hbk 2 _) (by decide)) (by rw [hsz]; have := hBw.size; omega)
      have hge : ∀ g, (Value.slice A8 x.plates.length c8).ownBlock = some g → wr.heap.size ≤ g := fun g hg => by have := (hu.lt g hg).1; rw [hsz] at this; omega
      have hlts := HST.out.2.1.lts
      have e0 := (hbk.put 2 (.slice A8 x.plates.length c8)).cell 0
      have e1 := (hbk.put 2 (.slice A8 x.plates.length c8)).cell 1
      have e2 := (hbk.put 2 (.slice A8 x.plates.length c8)).cell 2
      have q0 := cellOf hst3.1 0 (x := .slice Av k cv) rfl
      have y2 := cellOf hbk 2 (x := .slice A5 x.plates.length c5) rfl
      have y0 := cellOf hbk 0 (x := .int .i64 x.cols) rfl
      have y1 := cellOf hbk 1 (x := .int .i64 x.rows) rfl
      have yB := cellOf (HST.out.below hb3).1 0 (x := .slice Av k cv) rfl
      have f2 := hbk.frozen 2
      have hne : B ≠ wr.heap.size := by omega
      have hne' : wr.heap.size ≠ B := by omega
      have hown := hst3.2.1.1
      rw [HL.out] at hown
      have hsz3 : w.heap.size ≤ w2.heap.size := Nat.le_trans hBw.size hb3.size
      have hnew : ∀ j y, [Value.int .i64 x.cols, .int .i64 x.rows, .slice A8 x.plates.length c8][j]? = some y → ((w2.setCell ⟨wr.heap.size, 2, none⟩ (.slice A8 x.plates.length c8)).alloc (.cells #[.int .i64 x.cols, .int .i64 x.rows, .slice A8 x.plates.length c8] 87)).cell? ((⟨w2.heap.size, 0, none⟩ : Addr).add j) = some y := by
        have h9 := cells_new (w2.setCell ⟨wr.heap.size, 2, none⟩ (.slice A8 x.plates.length c8)) #[.int .i64 x.cols, .int .i64 x.rows, .slice A8 x.plates.length c8] 87
        rw [World.size_setCell] at h9
        exact h9
      have HNEW := Lib.hid hnew
      have HST3 := Lib.hid hst3
      have HU3 := Lib.hid hu3
      have HGE := Lib.hid hge
      have HLTS := Lib.hid hlts
      clear hnew hst3 hu hu3 hge hlts hb2 hb4 hbk e0 e1 e2 q0 hsz
      go_wp2_with (at_builtin; refine wpList_append_own _ rfl _ _ 33 rfl w.heap.size 87 i1 _ 3 40 Try.underlying33 hi1 hw0 hw1 hw2 rfl (by decide) _ _ _ rfl (hown.alloc _) ⟨w2.heap.size, 0, none⟩ 1 1 [.int .i64 x.cols, .int .i64 x.rows, .slice A8 x.plates.length c8] rfl rfl HNEW.out (by simp [Value.oneCell']) (by simp only [maxLen]; omega) (by omega) (by simp; omega) ?_; intro v' w4 hown' hgrow _; have p0 : Blk w4 B 36 #[.slice Av k cv, .slice A7 r.ribs.length c7, .slice none 0 0, .bool r.coll] := HST3.out.1.grew (Grew.of_append hown hgrow) (by decide); have p1 := cellOf p0 0 (x := .slice Av k cv) rfl; have p2 := p0.frozen 0; obtain ⟨A9, c9, rfl⟩ := ownsRow_form hown')
      have hst4 := HST3.out.web (x := x) HLTS.out HU3.out HGE.out hgrow (by rw [HL.out]; exact hown')
      rw [← HT.out] at hst4
      clear hown hown' hgrow p0
      go_wp2
      go_roundw
      case rel => exact ⟨k + 1, _, _, by omega, by go_num, hst4⟩
      case measure => simp [intOf]; omega
    · have hall : r.webs.take k = r.webs := List.take_of_length_le (by omega)
      rw [hall] at hst
      obtain ⟨Av, cv, rfl⟩ := ownsRow_form hst.2.1.1
      have hpi : ∀ X A c (l : List Int), Below w.heap.size w X → RInts w.heap.size w (.slice A l.length c) l → l.length ≤ 1000 → Calls Try.prog 77 #[.slice A l.length c] X fun e w' => ∃ u, e = .returned u ∧ OInts X.heap.size w' u l ∧ Below X.heap.size X w' := fun X A c l hX hp hl => by
        refine (cloneInts_any _ _ _ X (Rd.more (Rd.below hp hX) hX.size) (int_cells_one _) (by omega)).mono ?_
        rintro e w' ⟨u, he, hu, hbu⟩
        exact ⟨u, he, hu, hbu⟩
      have HPI := Lib.hid hpi
      obtain ⟨Ay, cy, ey, -, hI⟩ := (hrun.out.stacks).open_
      cases ey
      have HI := Lib.hid hI
      have v0 := cellOf hst.2.2.2.2.2.1 2 (x := .slice A3 r.stacks.length c3) rfl
      have HST := Lib.hid hst
      clear hpi hI hst hk hall
      go_wp2
      clear v0 hlt
      go_loopw [35] (fun i wr => ∃ (k : Nat) (v3 : Value), k ≤ r.stacks.length ∧ i = .int .i64 k ∧ CloneSt w r #[.slice A1 r.webs.length c1, .slice A2 r.ribs.length c2, .slice A3 r.stacks.length c3, .bool r.coll] B (.slice Av r.webs.length cv) vs r.webs (.slice A7 r.ribs.length c7) v3 (r.stacks.take k) wr) (fun i _ => r.stacks.length - (intOf i).toNat)
      case atStart => exact ⟨0, _, Nat.zero_le _, rfl, HST.out⟩
      case round =>
        obtain ⟨k, v3, hk, rfl, hst⟩ := hrel
        clear HST
        have hBw : Below w.heap.size w wr := hst.2.2.2.2.1
        by_cases hlt : k < r.stacks.length
        · obtain ⟨x, hx⟩ : ∃ x, r.stacks[k]? = some x := ⟨_, List.getElem?_eq_getElem hlt⟩
          obtain ⟨g, o, u, rfl, hb, hc1, hp⟩ := HI.out k x hx
          rw [← hBw.cell (p := ⟨g, o + k, none⟩) hb] at hc1
          obtain ⟨A5, c5, rfl, -⟩ := rd_slice hp
          have hpl : x.length ≤ 1000 := HS.out.2.2.2.2 x (List.mem_of_getElem? hx)
          have HP := Lib.hid hp
          have HT : Hid (r.stacks.take (k + 1) = r.stacks.take k ++ [x]) := by
            show r.stacks.take (k + 1) = r.stacks.take k ++ [x]
            rw [List.take_add_one, hx]; rfl
          have HL : Hid ((r.stacks.take k).length = k) := by show (r.stacks.take k).length = k; rw [List.length_take]; omega
          have hk1 : k ≤ 1000 := by have := HS.out.2.2.1; omega
          obtain ⟨ws, hws⟩ := hst.2.2.2.1
          obtain ⟨Aw, cw, rfl⟩ := ownsRow_form hws.1
          rw [HL.out] at hst hws
          have HST := Lib.hid hst
          have hown := hws.1
          rw [HL.out] at hown
          have HWS := Lib.hid hws
          have hBlt : B < wr.heap.size := hst.1.lt
          have hfacts : ∀ X, Below wr.heap.size wr X → X.cell? ⟨B, 2, none⟩ = some (.slice Aw k cw) := fun X hX => cellOf (hst.1.below hX hBlt) 2 rfl
          have HF := Lib.hid hfacts
          have hcall : ∀ X, Below wr.heap.size wr X → Calls Try.prog 77 #[.slice A5 x.length c5] X fun e w' => ∃ A c, e = .returned (.slice A x.length c) ∧ OInts w.heap.size w' (.slice A x.length c) x ∧ Below wr.heap.size wr w' := fun X hX => by
            have hX2 := hBw.trans (hX.mono hBw.size)
            refine (HPI.out X _ _ _ hX2 HP.out hpl).mono ?_
            rintro e w' ⟨u, he, hu, hbu⟩
            obtain ⟨A, c, rfl⟩ := ownsRow_form hu
            exact ⟨A, c, he, ownsRow_base hu hX2.size, hX.trans (hbu.mono hX.size)⟩
          have HC := Lib.hid hcall
          have e2 := HF.out wr (Below.refl _ _)
          clear hx hp hst hws hfacts hcall hb
          go_wp2_with fail
          go_region_law (first | (refine step_append_lies _ (by rfl) _ _ _ (by rfl) w.heap.size 48 i2 (.slice none 0 0) 1 24 Try.underlying24 hi2 hs0 hs1 hs2 rfl (by decide) (.slice Aw k cw) k ws (by rfl) (by first | exact (ownsRow_below hown h5).alloc _ | exact ((ownsRow_below hown h5).alloc _).drew) ⟨w5.heap.size, 0, none⟩ 1 1 [.slice A8 x.length c8] (by rfl) (by rfl) (World.news_of_block (cs := #[.slice A8 x.length c8]) (t := 48) (fr := (0, 0)) (heap_alloc_new w5 _)) (by simp [Value.oneCell']) (by omega) (by simp only [maxLen]; omega) (by omega) (by have := h5.size; have := hBw.size; simp; omega) (w5.heap.size + 1) (by simp) ?_; intro g9 c9 w6 hown' hgrow hat hlt9; have p0 : Blk w6 B 36 #[.slice Av r.webs.length cv, .slice A7 r.ribs.length c7, .slice Aw k cw, .bool r.coll] := (HST.out.below h5).1.grew (Grew.of_append (ownsRow_below hown h5) hgrow) (by decide); have p1 := cellOf p0 2 (x := .slice Aw k cw) rfl; have p2 := p0.frozen 2) | (go_simp; go_at_call 77; refine (HC.out _ ?_).mono ?_; (first | assumption | exact Below.refl _ _ | exact (Below.refl _ _).drew); rintro e w5 ⟨A8, c8, rfl, hu, h5⟩; have y2 := HF.out w5 h5; have y3 := fun o => HF.out (w5.alloc o) (h5.alloc h5.size o)))
          all_goals
            have hst6 := (HST.out.below h5).stack (x := x) (HWS.out.below h5 fun _ _ hr => ownsRow_below hr h5) hu hgrow (by rw [HL.out]; exact hown')
            rw [← HT.out] at hst6
            clear hown hown' hgrow p0 hu
            go_wp2
            go_roundw
            case rel => exact ⟨k + 1, _, by omega, by go_num, hst6⟩
            case measure => simp [intOf]; omega
        · have hall : r.stacks.take k = r.stacks := List.take_of_length_le (by omega)
          rw [hall] at hst
          obtain ⟨ws, hws⟩ := hst.2.2.2.1
          obtain ⟨Aw, cw, rfl⟩ := ownsRow_form hws.1
          have hfin := hst.final
          have HFin := Lib.hid hfin
          have b0 := cellOf hst.1 0 (x := .slice Av r.webs.length cv) rfl
          have b1 := cellOf hst.1 1 (x := .slice A7 r.ribs.length c7) rfl
          have b2 := cellOf hst.1 2 (x := .slice Aw r.stacks.length cw) rfl
          have b3 := cellOf hst.1 3 (x := .bool r.coll) rfl
          have d0 := cellOf hst.2.2.2.2.2.2.1 0 (x := .slice none 0 0) rfl
          have d1 := cellOf hst.2.2.2.2.2.2.1 1 (x := .slice none 0 0) rfl
          have d2 := cellOf hst.2.2.2.2.2.2.1 2 (x := .slice none 0 0) rfl
          have d3 := cellOf hst.2.2.2.2.2.2.1 3 (x := .bool false) rfl
          have f0 := hst.2.2.2.2.2.2.1.frozen 0
          have f1 := hst.2.2.2.2.2.2.1.frozen 1
          have f2 := hst.2.2.2.2.2.2.1.frozen 2
          have f3 := hst.2.2.2.2.2.2.1.frozen 3
          clear hst hfin hws hall
          go_wp2
          refine bodyPost_ret (v := .agg #[.slice Av r.webs.length cv, .slice A7 r.ribs.length c7, .slice Aw r.stacks.length cw, .bool r.coll]) (by simp [results, Try.results58, go_sem, d0, d1, d2, d3]) rfl ⟨_, rfl, HFin.out⟩

end Go.Proofs.Ytdbfhdncjblleaa
