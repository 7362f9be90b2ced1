/-
  Own: the walk.
-/
import Derived.Test.YtdbfhdncjblleaaZF
namespace Go.Proofs.Ytdbfhdncjblleaa
open Go.RowKit

def Bounded (r : RunD) : Prop := r.webs.length ≤ 1048576 ∧ r.ribs.length ≤ 1048576 ∧ r.stacks.length ≤ 1048576 ∧ (∀ x ∈ r.webs, x.plates.length ≤ 1048576) ∧ ∀ s ∈ r.stacks, s.length ≤ 1048576
theorem RRun.ribs {B : Nat} {w : World} {r : RunD} {v1 v2 v3 : Value} (h : RRun B w (.agg #[v1, v2, v3, .bool r.coll]) r) : RRibs B w v2 r.ribs := by
  obtain ⟨u1, u2, u3, e, -, h1, -⟩ := h
  cases e
  exact h1

theorem OIntss.form {b : Nat} {w : World} {v : Value} {l : List (List Int)} (h : OIntss b w v l) : ∃ A c, v = .slice A l.length c := by
  obtain ⟨ws, h⟩ := h
  exact ownsRow_form h.1

set_option maxRecDepth 100000 in
set_option maxHeartbeats 2000000 in
theorem Own_any (v : Value) (r : RunD) (w : World) (h : RRun w.heap.size w v r) (hs : Bounded r) : Calls Try.prog 12 #[v] w fun e w' => ∃ u, e = .returned u ∧ ORun w.heap.size w' u r ∧ Below w.heap.size w w' := by
  have hrun := Lib.hid h
  obtain ⟨A1, c1, A2, c2, A3, c3, rfl⟩ := h.shape
  have hr3 : RIntss w.heap.size w (.slice A3 r.stacks.length c3) r.stacks := h.stacks
  clear h
  have F0 : ∃ W0, (w.alloc (.cells #[.slice A1 r.webs.length c1, .slice A2 r.ribs.length c2, .slice A3 r.stacks.length c3, .bool r.coll] 26)).alloc (.cells #[.slice none 0 0, .slice none 0 0, .slice none 0 0, .bool false] 36) = W0 ∧
      W0.heap.size = w.heap.size + 2 ∧ Below w.heap.size w W0 ∧ Blk W0 w.heap.size 26 #[.slice A1 r.webs.length c1, .slice A2 r.ribs.length c2, .slice A3 r.stacks.length c3, .bool r.coll] ∧
      Blk W0 (w.heap.size + 1) 36 #[.slice none 0 0, .slice none 0 0, .slice none 0 0, .bool false] := by
    refine ⟨_, rfl, by simp, ((Below.refl _ _).alloc (Nat.le_refl _) _).alloc (by simp) _, (Blk.new _ _ _).alloc _, ?_⟩
    have := Blk.new (w.alloc (.cells #[.slice A1 r.webs.length c1, .slice A2 r.ribs.length c2, .slice A3 r.stacks.length c3, .bool r.coll] 26)) 36 #[.slice none 0 0, .slice none 0 0, .slice none 0 0, .bool false]
    rw [World.size_alloc] at this
    exact this
  obtain ⟨W0, e0, z0, B0, V0, V1⟩ := F0
  have hc : ∀ X, Below W0.heap.size W0 X → Calls Try.prog 30 #[.slice A3 r.stacks.length c3] X fun e w' => ∃ u, e = .returned u ∧ OIntss w.heap.size w' u r.stacks ∧ Below X.heap.size X w' := fun X hX => by
    have hb := B0.trans (hX.mono B0.size)
    refine (CopyLists_any _ _ X ((hr3.below hb).more hb.size) hs.2.2.1 hs.2.2.2.2).mono ?_
    rintro e w' ⟨u, he, ⟨ws, hu⟩, hbu⟩
    exact ⟨u, he, ⟨ws, hu.base_ hb.size fun _ _ h => ownsRow_base h hb.size⟩, hbu⟩
  have z4 : ∀ w4, Below (W0.alloc (.cells #[.slice none 0 0, .slice none 0 0, .slice none 0 0, .bool false] 36)).drew.heap.size (W0.alloc (.cells #[.slice none 0 0, .slice none 0 0, .slice none 0 0, .bool false] 36)).drew w4 → Blk w4 W0.heap.size 36 #[.slice none 0 0, .slice none 0 0, .slice none 0 0, .bool false] ∧ w4.cell? ⟨W0.heap.size, 0, none⟩ = some (.slice none 0 0) ∧ w4.cell? ⟨W0.heap.size, 1, none⟩ = some (.slice none 0 0) ∧ w4.cell? ⟨W0.heap.size, 2, none⟩ = some (.slice none 0 0) ∧ w4.cell? ⟨W0.heap.size, 3, none⟩ = some (.bool false) ∧
      w4.frozen? ⟨W0.heap.size, 0, none⟩ = false ∧ w4.frozen? ⟨W0.heap.size, 1, none⟩ = false ∧ w4.frozen? ⟨W0.heap.size, 2, none⟩ = false ∧ w4.frozen? ⟨W0.heap.size, 3, none⟩ = false := fun w4 h => by
    have hk : Blk w4 W0.heap.size 36 #[.slice none 0 0, .slice none 0 0, .slice none 0 0, .bool false] := (Blk.new W0 _ _).below (W := (W0.alloc (.cells #[.slice none 0 0, .slice none 0 0, .slice none 0 0, .bool false] 36)).drew) h (by show W0.heap.size < (W0.alloc _).heap.size; rw [World.size_alloc]; omega)
    exact ⟨hk, hk.cell 0, hk.cell 1, hk.cell 2, hk.cell 3, hk.frozen 0, hk.frozen 1, hk.frozen 2, hk.frozen 3⟩
  have za : ∀ o, W0.heap.size ≤ (W0.alloc o).heap.size := fun o => by simp
  have v1 := cellOf V0 2 (x := .slice A3 r.stacks.length c3) rfl
  have v3 := cellOf V0 3 (x := .bool r.coll) rfl
  have n0 : w.heap.size < W0.heap.size := by omega
  have E0 := Lib.hid e0
  have Z0 := Lib.hid z0
  have HC := Lib.hid hc
  have Z4 := Lib.hid z4
  have ZA := Lib.hid za
  have HV0 := Lib.hid V0
  have HV1 := Lib.hid V1
  have HS := Lib.hid hs
  clear e0 z0 hc z4 za V0 V1 hs hr3
  go_enter Try.func12, Try.ntmps12
  go_upto_region 1 with fail
  rw [E0.out]
  go_cut [3] (fun s3 wx => OwnCut w r #[.slice A1 r.webs.length c1, .slice A2 r.ribs.length c2, .slice A3 r.stacks.length c3, .bool r.coll] s3 wx)
  case first =>
    go_region_with (go_at_call 30; refine (HC.out _ ?_).mono ?_; (first | exact (Below.refl _ _).drew | exact ((Below.refl _ _).alloc (Nat.le_refl _) _).drew); rintro e w4 ⟨u, rfl, hu, hb4⟩; obtain ⟨A7, c7, rfl⟩ := OIntss.form hu; have h04 : Below W0.heap.size W0 w4 := (by first | exact ((Below.refl W0.heap.size W0).drew).trans (hb4.mono (Nat.le_refl _)) | exact (((Below.refl W0.heap.size W0).alloc (Nat.le_refl _) _).drew).trans (hb4.mono (ZA.out _))); have y1 := (h04.cell (p := ⟨w.heap.size, 2, none⟩) n0).trans v1; have y3 := (h04.cell (p := ⟨w.heap.size, 3, none⟩) n0).trans v3; have n5 := Nat.lt_of_lt_of_le n0 h04.size; (first | (refine (fun H => ?_) (Z4.out w4 hb4); obtain ⟨z9, k0, k1, k2, k3, g0, g1, g2, g3⟩ := H) | skip))
    all_goals (go_wp2_with fail; go_meet; first | with_reducible exact own_cutA Z0.out B0 HV0.out HV1.out h04 hu | with_reducible exact own_cutB Z0.out B0 HV0.out HV1.out h04 hu z9)
  case rest =>
  obtain ⟨B, v3, rfl, hst⟩ := hcut
  obtain ⟨A7, c7, rfl⟩ := hst.2.2.2.1.form
  obtain ⟨i1, hi1, hw0, hw1, hw2⟩ := info_parts infoWeb0
  obtain ⟨ip, hip, hp0, hp1, hp2⟩ := info_parts infoPlate0
  obtain ⟨ir, hir, hr0, hr1, hr2⟩ := info_parts infoRib
  obtain ⟨Ax, cx, ea, -, hA⟩ := (hrun.out.webs).open_
  cases ea
  have HA := Lib.hid hA
  have HST := Lib.hid hst
  clear hA hst v1 v3 n0 B0
  go_wp2
  go_loopw [4] (fun i wr => ∃ (k : Nat) (v1 : Value) (vs : List Value), k ≤ r.webs.length ∧ i = .int .i64 k ∧ OwnSt w r #[.slice A1 r.webs.length c1, .slice A2 r.ribs.length c2, .slice A3 r.stacks.length c3, .bool r.coll] B v1 vs (r.webs.take k) (.slice none 0 0) [] (.slice A7 r.stacks.length c7) wr) (fun i _ => r.webs.length - (intOf i).toNat)
  case atStart => exact ⟨0, _, _, Nat.zero_le _, rfl, HST.out⟩
  case round =>
    obtain ⟨wo, rfl⟩ : ∃ wo, wo = wr := ⟨wr, rfl⟩
    obtain ⟨k, v1, vs, hk, rfl, hst⟩ := hrel
    clear HST
    have hBw : Below w.heap.size w wo := hst.2.2.2.2.1
    have bx0 := cellOf hst.2.2.2.2.2.1 0 (x := .slice A1 r.webs.length c1) rfl
    by_cases hlt : k < r.webs.length
    · obtain ⟨x, hx⟩ : ∃ x, r.webs[k]? = some x := ⟨_, List.getElem?_eq_getElem hlt⟩
      obtain ⟨g, o, u, rfl, hb, hc1, hc2, hc3, hp⟩ := HA.out k x hx
      rw [← hBw.cell (p := ⟨g, o + k * 3, none⟩) hb] at hc1
      rw [← hBw.cell (p := ⟨g, o + k * 3 + 1, none⟩) hb] at hc2
      rw [← hBw.cell (p := ⟨g, o + k * 3 + 2, none⟩) hb] at hc3
      obtain ⟨A5, c5, rfl, -⟩ := rd_slice hp
      have hpl : x.plates.length ≤ 1048576 := HS.out.2.2.2.1 x (List.mem_of_getElem? hx)
      have HT : Hid (r.webs.take (k + 1) = r.webs.take k ++ [x]) := by
        show r.webs.take (k + 1) = r.webs.take k ++ [x]
        rw [List.take_add_one, hx]; rfl
      have HL : Hid ((r.webs.take k).length = k) := by show (r.webs.take k).length = k; rw [List.length_take]; omega
      have hk1 : k ≤ 1048576 := by have := HS.out.1; omega
      obtain ⟨Av, cv, rfl⟩ := ownsRow_form hst.2.1.1
      rw [HL.out] at hst
      have hgr : g < wo.heap.size := Nat.lt_of_lt_of_le hb hBw.size
      have hwr : w.heap.size < wo.heap.size := hst.2.2.2.2.2.1.lt
      have hfacts : ∀ X, Below wo.heap.size wo X → X.cell? ⟨w.heap.size, 0, none⟩ = some (.slice (some ⟨g, o, none⟩) r.webs.length c1) ∧ X.cell? ⟨g, o + k * 3, none⟩ = some (.int .i64 x.cols) ∧ X.cell? ⟨g, o + k * 3 + 1, none⟩ = some (.int .i64 x.rows) ∧ X.cell? ⟨g, o + k * 3 + 2, none⟩ = some (.slice A5 x.plates.length c5) := fun X hX =>
        ⟨(hX.cell (p := ⟨w.heap.size, 0, none⟩) hwr).trans bx0, (hX.cell (p := ⟨g, o + k * 3, none⟩) hgr).trans hc1, (hX.cell (p := ⟨g, o + k * 3 + 1, none⟩) hgr).trans hc2, (hX.cell (p := ⟨g, o + k * 3 + 2, none⟩) hgr).trans hc3⟩
      have HF := Lib.hid hfacts
      have HST := Lib.hid hst
      obtain ⟨Ap, cp, ep, -, hP⟩ := RPlates.open_ hp
      cases ep
      have HP := Lib.hid hP
      have hik : (k : Int) < (r.webs.length : Int) := by omega
      clear hx hp hst hP hfacts
      go_wp2_with fail
      go_region_held3 (fun X => X.cell? ⟨w.heap.size, 0, none⟩ = some (.slice (some ⟨g, o, none⟩) r.webs.length c1) ∧ X.cell? ⟨g, o + k * 3, none⟩ = some (.int .i64 x.cols) ∧ X.cell? ⟨g, o + k * 3 + 1, none⟩ = some (.int .i64 x.rows) ∧ X.cell? ⟨g, o + k * 3 + 2, none⟩ = some (.slice A5 x.plates.length c5))
        (first | exact HF.out _ (Below.refl _ _) | exact HF.out _ (Below.refl _ _).drew | exact HF.out _ ((Below.refl _ _).alloc (Nat.le_refl _) _) | exact HF.out _ ((Below.refl _ _).drew.alloc (Nat.le_refl _) _) | go_keep)
        (first | fail)
      have F1 : ∃ w1, (wo.alloc (.cells #[.int .i64 x.cols, .int .i64 x.rows, .slice none 0 0] 87)).drew = w1 ∧ Below wo.heap.size wo w1 ∧ Blk w1 wo.heap.size 87 #[.int .i64 x.cols, .int .i64 x.rows, .slice none 0 0] :=
        ⟨_, rfl, ((Below.refl _ _).alloc (Nat.le_refl _) _).drew, Blk.new wo _ _⟩
      obtain ⟨w1, e1, hB1, V1⟩ := F1
      rw [e1]
      have E1 := Lib.hid e1
      clear e1 bx0 hc1 hc2 hc3
      go_wp2
      go_loopw [6] (fun i X => ∃ (j : Nat) (pv : Value), j ≤ x.plates.length ∧ i = .int .i64 j ∧ Below wo.heap.size wo X ∧ Blk X wo.heap.size 87 #[.int .i64 x.cols, .int .i64 x.rows, pv] ∧ OPlates wo.heap.size X pv (x.plates.take j)) (fun i _ => x.plates.length - (intOf i).toNat)
      case atStart => exact ⟨0, _, Nat.zero_le _, rfl, hB1, V1, World.ownsRow_nil _ _ _ _⟩
      case round =>
        clear hB1 V1
        obtain ⟨j, pv, hj, rfl, hB, hV, ho⟩ := hrel
        obtain ⟨e0, e1, e2, e3⟩ := HF.out wr hB
        by_cases hlt2 : j < x.plates.length
        · obtain ⟨y, hy⟩ : ∃ y, x.plates[j]? = some y := ⟨_, List.getElem?_eq_getElem hlt2⟩
          obtain ⟨g2, o2, rfl, hg2, hy1, hy2⟩ := HP.out j y hy
          have hX : Below w.heap.size w wr := hBw.trans (hB.mono hBw.size)
          rw [← hX.cell (p := ⟨g2, o2 + j * 2, none⟩) hg2] at hy1
          rw [← hX.cell (p := ⟨g2, o2 + j * 2 + 1, none⟩) hg2] at hy2
          have HLj : Hid ((x.plates.take j).length = j) := by show (x.plates.take j).length = j; rw [List.length_take]; omega
          have HTj : Hid (x.plates.take (j + 1) = x.plates.take j ++ [y]) := by
            show x.plates.take (j + 1) = x.plates.take j ++ [y]
            rw [List.take_add_one, hy]; rfl
          obtain ⟨Aq, cq, rfl⟩ := ownsRow_form ho
          have hown : wr.ownsRow wo.heap.size 89 2 (.slice Aq j cq) j ((x.plates.take j).flatMap PlateD.cells) := by
            have := ho
            unfold OPlates at this
            rwa [HLj.out] at this
          rw [HLj.out] at hV
          have d0 := cellOf hV 0 (x := .int .i64 x.cols) rfl
          have d1 := cellOf hV 1 (x := .int .i64 x.rows) rfl
          have d2 := cellOf hV 2 (x := .slice Aq j cq) rfl
          have hsz := hB.size
          have HV := Lib.hid hV
          clear hy ho hV hg2
          go_wp2_with (at_builtin; refine wpList_append_own _ rfl _ _ 85 rfl wo.heap.size 89 ip _ 2 16 slicePlates hip hp0 hp1 hp2 rfl (by decide) (.slice Aq j cq) j ((x.plates.take j).flatMap PlateD.cells) rfl (hown.alloc _) ⟨wr.heap.size, 0, none⟩ 1 1 [.int .i64 y.page, .bool y.up] rfl rfl (cells_new _ _ _) (by simp [Value.oneCell']) (by simp only [maxLen]; omega) (by omega) (by simp; omega) ?_; intro v' w6 hown' hgrow _; have p0 : Blk w6 wo.heap.size 87 #[.int .i64 x.cols, .int .i64 x.rows, .slice Aq j cq] := HV.out.grew (Grew.of_append hown hgrow) (by decide); have p1 := cellOf p0 2 (x := .slice Aq j cq) rfl; have p2 := p0.frozen 2; obtain ⟨A9, c9, rfl⟩ := ownsRow_form hown')
          have hB6 : Below wo.heap.size wo w6 := (hB.alloc (by omega) _).grown hgrow (by simp; omega) fun i hi => (hown.lt i hi).1
          have ho6 : OPlates wo.heap.size w6 (.slice A9 (j + 1) c9) (x.plates.take (j + 1)) := by
            unfold OPlates
            rw [HTj.out, List.length_append, List.flatMap_append, HLj.out]
            simpa [PlateD.cells] using hown'
          have ho7 : OPlates wo.heap.size (w6.setCell ⟨wo.heap.size, 2, none⟩ (.slice A9 (j + 1) c9)) (.slice A9 (j + 1) c9) (x.plates.take (j + 1)) := ownsRow_grew ho6 (Grew.set p0 2 (.slice A9 (j + 1) c9)) (by decide)
          have hV7 : Blk (w6.setCell ⟨wo.heap.size, 2, none⟩ (.slice A9 (j + 1) c9)) wo.heap.size 87 #[.int .i64 x.cols, .int .i64 x.rows, .slice A9 (j + 1) c9] := p0.put 2 (.slice A9 (j + 1) c9)
          have hB7 : Below wo.heap.size wo (w6.setCell ⟨wo.heap.size, 2, none⟩ (.slice A9 (j + 1) c9)) := hB6.setCell (p := ⟨wo.heap.size, 2, none⟩) (Nat.le_refl _) _
          clear hown hown' hgrow ho6 hB6 hB p0
          go_wp2
          go_roundw
          case rel => exact ⟨j + 1, _, by omega, by go_num, hB7, hV7, ho7⟩
          case measure => simp [intOf]; omega
        · have hall : x.plates.take j = x.plates := List.take_of_length_le (by omega)
          rw [hall] at ho
          obtain ⟨Aq, cq, rfl⟩ := ownsRow_form ho
          have hst3 := HST.out.below hB
          have hu3 : OPlates w.heap.size wr (.slice Aq x.plates.length cq) x.plates := ownsRow_base ho hBw.size
          have hge : ∀ g, (Value.slice Aq x.plates.length cq).ownBlock = some g → wo.heap.size ≤ g := fun g hg => (ho.lt g hg).1
          have HST3 := Lib.hid hst3
          have HU3 := Lib.hid hu3
          have HGE := Lib.hid hge
          have HLTS := Lib.hid HST.out.2.1.lts
          have d0 := cellOf hV 0 (x := .int .i64 x.cols) rfl
          have d1 := cellOf hV 1 (x := .int .i64 x.rows) rfl
          have d2 := cellOf hV 2 (x := .slice Aq x.plates.length cq) rfl
          have q0 := cellOf hst3.1 0 (x := .slice Av k cv) rfl
          have hown := hst3.2.1.1
          rw [HL.out] at hown
          have hsz := hB.size
          have hszw := hBw.size
          clear hst3 hu3 hge ho hV hall hB
          go_wp2_with (at_builtin; refine wpList_append_own _ rfl _ _ 33 rfl w.heap.size 87 i1 _ 3 40 Try.underlying33 hi1 hw0 hw1 hw2 rfl (by decide) _ _ _ rfl (hown.alloc _) ⟨wr.heap.size, 0, none⟩ 1 1 [.int .i64 x.cols, .int .i64 x.rows, .slice Aq x.plates.length cq] rfl rfl (cells_new _ _ _) (by simp [Value.oneCell']) (by simp only [maxLen]; omega) (by omega) (by simp; omega) ?_; intro v' w4 hown' hgrow _; have p0 : Blk w4 B 36 #[.slice Av k cv, .slice none 0 0, .slice A7 r.stacks.length c7, .bool r.coll] := HST3.out.1.grew (Grew.of_append hown hgrow) (by decide); have p1 := cellOf p0 0 (x := .slice Av k cv) rfl; have p2 := p0.frozen 0; obtain ⟨A9, c9, rfl⟩ := ownsRow_form hown')
          have hst4 := HST3.out.web (x := x) HLTS.out HU3.out HGE.out hgrow (by rw [HL.out]; exact hown')
          rw [← HT.out] at hst4
          clear hown hown' hgrow p0
          go_wp2
          go_roundw
          case rel => exact ⟨k + 1, _, _, by omega, by go_num, hst4⟩
          case measure => simp [intOf]; omega
    · have hall : r.webs.take k = r.webs := List.take_of_length_le (by omega)
      rw [hall] at hst
      obtain ⟨Av, cv, rfl⟩ := ownsRow_form hst.2.1.1
      obtain ⟨Ay, cy, ey, -, hI⟩ := (hrun.out.ribs).open_
      cases ey
      have HI := Lib.hid hI
      have HST := Lib.hid hst
      clear hI hst hall hk
      go_wp2
      clear bx0 hlt
      go_loopw [9] (fun i X => ∃ (j : Nat) (v2 : Value), j ≤ r.ribs.length ∧ i = .int .i64 j ∧ OwnSt w r #[.slice A1 r.webs.length c1, .slice A2 r.ribs.length c2, .slice A3 r.stacks.length c3, .bool r.coll] B (.slice Av r.webs.length cv) vs r.webs v2 (r.ribs.take j) (.slice A7 r.stacks.length c7) X) (fun i _ => r.ribs.length - (intOf i).toNat)
      case atStart => exact ⟨0, _, Nat.zero_le _, rfl, HST.out⟩
      case round =>
        obtain ⟨j, v2, hj, rfl, hst⟩ := hrel
        clear HST
        have hBw2 : Below w.heap.size w wr := hst.2.2.2.2.1
        have bx1 := cellOf hst.2.2.2.2.2.1 1 (x := .slice A2 r.ribs.length c2) rfl
        by_cases hlt : j < r.ribs.length
        · obtain ⟨x, hx⟩ : ∃ x, r.ribs[j]? = some x := ⟨_, List.getElem?_eq_getElem hlt⟩
          obtain ⟨g, o, rfl, hb, hc1, hc2, hc3, hc4, hc5⟩ := HI.out j x hx
          rw [← hBw2.cell (p := ⟨g, o + j * 5, none⟩) hb] at hc1
          rw [← hBw2.cell (p := ⟨g, o + j * 5 + 1, none⟩) hb] at hc2
          rw [← hBw2.cell (p := ⟨g, o + j * 5 + 2, none⟩) hb] at hc3
          rw [← hBw2.cell (p := ⟨g, o + j * 5 + 3, none⟩) hb] at hc4
          rw [← hBw2.cell (p := ⟨g, o + j * 5 + 4, none⟩) hb] at hc5
          have HT : Hid (r.ribs.take (j + 1) = r.ribs.take j ++ [x]) := by
            show r.ribs.take (j + 1) = r.ribs.take j ++ [x]
            rw [List.take_add_one, hx]; rfl
          have HL : Hid ((r.ribs.take j).length = j) := by show (r.ribs.take j).length = j; rw [List.length_take]; omega
          have hk1 : j ≤ 1048576 := by have := HS.out.2.1; omega
          obtain ⟨Aw, cw, rfl⟩ := ownsRow_form hst.2.2.1
          rw [HL.out] at hst
          have hown : wr.ownsRow w.heap.size 91 5 (.slice Aw j cw) j ((r.ribs.take j).flatMap RibD.cells) := by
            have := hst.2.2.1
            unfold ORibs at this
            rwa [HL.out] at this
          have q1 := cellOf hst.1 1 (x := .slice Aw j cw) rfl
          have hsz := hBw2.size
          have HST := Lib.hid hst
          clear hx hst hb
          go_wp2_with (at_builtin; refine wpList_append_own _ rfl _ _ 34 rfl w.heap.size 91 ir _ 5 32 sliceRibs hir hr0 hr1 hr2 rfl (by decide) (.slice Aw j cw) j ((r.ribs.take j).flatMap RibD.cells) rfl (hown.alloc _) ⟨wr.heap.size, 0, none⟩ 1 1 [.int .i64 x.web, .int .i64 x.col, .int .i64 x.width, .bool x.turned, .bool x.left] rfl rfl (cells_new _ _ _) (by simp [Value.oneCell']) (by simp only [maxLen]; omega) (by omega) (by simp; omega) ?_; intro v' w4 hown' hgrow _; have p0 : Blk w4 B 36 #[.slice Av r.webs.length cv, .slice Aw j cw, .slice A7 r.stacks.length c7, .bool r.coll] := HST.out.1.grew (Grew.of_append hown hgrow) (by decide); have p1 := cellOf p0 1 (x := .slice Aw j cw) rfl; have p2 := p0.frozen 1; obtain ⟨A9, c9, rfl⟩ := ownsRow_form hown')
          have hst4 := HST.out.rib (x := x) hgrow (by rw [HL.out]; exact hown')
          rw [← HT.out] at hst4
          clear hown hown' hgrow p0
          go_wp2
          go_roundw
          case rel => exact ⟨j + 1, _, by omega, by go_num, hst4⟩
          case measure => simp [intOf]; omega
        · have hall : r.ribs.take j = r.ribs := List.take_of_length_le (by omega)
          rw [hall] at hst
          obtain ⟨Aw, cw, rfl⟩ := ownsRow_form hst.2.2.1
          have HFin := Lib.hid hst.final
          have b0 := cellOf hst.1 0 (x := .slice Av r.webs.length cv) rfl
          have b1 := cellOf hst.1 1 (x := .slice Aw r.ribs.length cw) rfl
          have b2 := cellOf hst.1 2 (x := .slice A7 r.stacks.length c7) rfl
          have b3 := cellOf hst.1 3 (x := .bool r.coll) rfl
          have d0 := cellOf hst.2.2.2.2.2.2.1 0 (x := .slice none 0 0) rfl
          have d1 := cellOf hst.2.2.2.2.2.2.1 1 (x := .slice none 0 0) rfl
          have d2 := cellOf hst.2.2.2.2.2.2.1 2 (x := .slice none 0 0) rfl
          have d3 := cellOf hst.2.2.2.2.2.2.1 3 (x := .bool false) rfl
          have f0 := hst.2.2.2.2.2.2.1.frozen 0
          have f1 := hst.2.2.2.2.2.2.1.frozen 1
          have f2 := hst.2.2.2.2.2.2.1.frozen 2
          have f3 := hst.2.2.2.2.2.2.1.frozen 3
          clear hst hall
          go_wp2
          refine bodyPost_ret (v := .agg #[.slice Av r.webs.length cv, .slice Aw r.ribs.length cw, .slice A7 r.stacks.length c7, .bool r.coll]) (by simp [results, Try.results12, go_sem, d0, d1, d2, d3]) rfl ⟨_, rfl, HFin.out⟩

end Go.Proofs.Ytdbfhdncjblleaa
