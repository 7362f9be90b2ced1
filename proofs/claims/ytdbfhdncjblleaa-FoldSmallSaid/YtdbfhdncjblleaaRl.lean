/-
  Copies: the plates of all copies, plain and as rows of one's own.
  The reference's Copies, given what its Check returns.
-/
import Derived.Test.YtdbfhdncjblleaaRg
import Derived.Test.YtdbfhdncjblleaaKk
namespace Go.Proofs.Ytdbfhdncjblleaa
open Go.RowKit

def copiesD (r : RunD) : List (List (List PlateD)) := (layoutD r).map fun S => S.map fun l => l.map (plateAt r.webs)
theorem layout_spot {r : RunD} (h : checkE r = 0) {c k i : Nat} {S : List (List SpotD)} {l : List SpotD} {s : SpotD} (hS : (layoutD r)[c]? = some S) (hl : S[k]? = some l) (hs : l[i]? = some s) : ∃ m x, SpotOk r s m x :=
  spot_ok h (place_all (place_mem.2 ⟨c, k, i, S, l, rfl, hS, hl, hs⟩))
def OPt (e : TypeId) (base : Nat) (w : World) (v : Value) (l : List PlateD) : Prop := w.ownsRow base e 2 v l.length (l.flatMap PlateD.cells)
def OPts (e e1 : TypeId) (base : Nat) (w : World) (v : Value) (l : List (List PlateD)) : Prop := ∃ vs, OAll (OPt e base) e1 base w v vs l
def OPtss (e e1 e2 : TypeId) (base : Nat) (w : World) (v : Value) (l : List (List (List PlateD))) : Prop := ∃ vs, OAll (OPts e e1 base) e2 base w v vs l
def RPts (B : Nat) (w : World) (v : Value) (l : List (List PlateD)) : Prop := RAll RPlates B w v l
def RPtss (B : Nat) (w : World) (v : Value) (l : List (List (List PlateD))) : Prop := RAll RPts B w v l
section
variable {base b' : Nat} {w w1 : World} {v : Value} {e e1 e2 f : TypeId}
theorem OPt.reads {l : List PlateD} (h : OPt e base w v l) : RPlates w.heap.size w v l := Rd.own h (own_le h)
theorem OPts.reads {l : List (List PlateD)} (h : OPts e e1 base w v l) : RPts w.heap.size w v l := by
  obtain ⟨vs, h⟩ := h
  exact OAll.reads h fun _ _ hr => hr.reads
theorem OPtss.reads {l : List (List (List PlateD))} (h : OPtss e e1 e2 base w v l) : RPtss w.heap.size w v l := by
  obtain ⟨vs, h⟩ := h
  exact OAll.reads h fun _ _ hr => hr.reads
theorem OPts.grew {l : List (List PlateD)} (h : OPts e e1 base w v l) (hg : Grew f w w1) (h1 : e1 ≠ f) (h2 : e ≠ f) : OPts e e1 base w1 v l := by
  obtain ⟨vs, h⟩ := h
  exact ⟨vs, h.keep hg h1 fun _ _ hr => ownsRow_grew hr hg h2⟩
theorem OPts.below {l : List (List PlateD)} (h : OPts e e1 base w v l) (hb : Below w.heap.size w w1) : OPts e e1 base w1 v l := by
  obtain ⟨vs, h⟩ := h
  exact ⟨vs, h.below hb fun _ _ hr => ownsRow_below hr hb⟩
theorem OPtss.below {l : List (List (List PlateD))} (h : OPtss e e1 e2 base w v l) (hb : Below w.heap.size w w1) : OPtss e e1 e2 base w1 v l := by
  obtain ⟨vs, h⟩ := h
  exact ⟨vs, h.below hb fun _ _ hr => hr.below hb⟩
theorem OPts.base_ {l : List (List PlateD)} (h : OPts e e1 base w v l) (hb : b' ≤ base) : OPts e e1 b' w v l := by
  obtain ⟨vs, h⟩ := h
  exact ⟨vs, ownsRow_base h.1 hb, fun i u x hu hx => ownsRow_base (h.2 i u x hu hx) hb⟩
theorem OPtss.base_ {l : List (List (List PlateD))} (h : OPtss e e1 e2 base w v l) (hb : b' ≤ base) : OPtss e e1 e2 b' w v l := by
  obtain ⟨vs, h⟩ := h
  exact ⟨vs, ownsRow_base h.1 hb, fun i u x hu hx => (h.2 i u x hu hx).base_ hb⟩
theorem pts_one {w7 w8 : World} {v v' u : Value} {vs : List Value} {l : List (List PlateD)} {x : List PlateD} {tmp : Obj} (hne : e ≠ e1) (h : OAll (OPt e base) e1 base w7 v vs l) (hu : OPt e base w7 u x) (hg : (w7.alloc tmp).grownBy w8 v.ownBlock) (hown : w8.ownsRow base e1 1 v' (l.length + 1) (vs ++ [u])) : OPts e e1 base w8 v' (l ++ [x]) :=
  have g := Grew.of_append h.1 hg
  ⟨_, h.append (fun _ _ hr => ownsRow_grew hr g hne) hu hown⟩
theorem ptss_one {w7 w8 : World} {v v' u : Value} {vs : List Value} {l : List (List (List PlateD))} {x : List (List PlateD)} {tmp : Obj} (h1 : e1 ≠ e2) (h2 : e ≠ e2) (h : OAll (OPts e e1 base) e2 base w7 v vs l) (hu : OPts e e1 base w7 u x) (hg : (w7.alloc tmp).grownBy w8 v.ownBlock) (hown : w8.ownsRow base e2 1 v' (l.length + 1) (vs ++ [u])) : OPtss e e1 e2 base w8 v' (l ++ [x]) :=
  have g := Grew.of_append h.1 hg
  ⟨_, h.append (fun _ _ hr => OPts.grew hr g h1 h2) hu hown⟩
end
/-- What a Copies returns. -/
def CopiesRet (e e1 e2 : TypeId) (r : RunD) (w : World) (en : Ending) (w' : World) : Prop :=
  ∃ u, en = .returned (.tuple #[u, .int .i64 (checkE r)]) ∧ (checkE r = 0 → OPtss e e1 e2 w.heap.size w' u (copiesD r)) ∧ (checkE r ≠ 0 → u = .slice none 0 0) ∧ Below w.heap.size w w'

theorem infoPlateR : (Try.prog.info? 98).map (fun i => (i.zero, i.size, i.bytes)) = some (some (.agg #[.int .i64 0, .bool false]), 2, 16) := by kernel_rfl
theorem infoPtsR : (Try.prog.info? 95).map (fun i => (i.zero, i.size, i.bytes)) = some (some (.slice none 0 0), 1, 24) := by kernel_rfl
theorem infoPtssR : (Try.prog.info? 120).map (fun i => (i.zero, i.size, i.bytes)) = some (some (.slice none 0 0), 1, 24) := by kernel_rfl

theorem cells_snoc (l : List PlateD) (p : PlateD) : (l ++ [p]).flatMap PlateD.cells = l.flatMap PlateD.cells ++ [.int .i64 p.page, .bool p.up] := by simp [PlateD.cells]

set_option maxRecDepth 100000 in
set_option maxHeartbeats 4000000 in
theorem refCopies_any (RC : RefCheckOk) (v : Value) (r : RunD) (w : World) (h : RRun w.heap.size w v r) (hsm : SmallRun r) :
    Calls Try.prog 14 #[v] w (CopiesRet 98 95 120 r w) := by
  obtain ⟨i0, hi, hz0, hz1, hz2⟩ := info_parts infoPlateR
  obtain ⟨i1, hi1, hy0, hy1, hy2⟩ := info_parts infoPtsR
  obtain ⟨i2, hi2, hx0, hx1, hx2⟩ := info_parts infoPtssR
  have HRC := Lib.hid RC
  have HSM := Lib.hid hsm
  have hrun := Lib.hid h
  obtain ⟨A1, c1, A2, c2, A3, c3, rfl⟩ := h.shape
  obtain ⟨Ax, cx, ex, -, hAw⟩ := (h.webs).open_
  cases ex
  have HAW := Lib.hid hAw
  clear h RC hsm hAw
  have F0 : ∃ W0, w.alloc (.cells #[.slice A1 r.webs.length c1, .slice A2 r.ribs.length c2, .slice A3 r.stacks.length c3, .bool r.coll] 26) = W0 ∧ Below w.heap.size w W0 ∧ Blk W0 w.heap.size 26 #[.slice A1 r.webs.length c1, .slice A2 r.ribs.length c2, .slice A3 r.stacks.length c3, .bool r.coll] :=
    ⟨_, rfl, (Below.refl _ _).alloc (Nat.le_refl _) _, Blk.new _ _ _⟩
  obtain ⟨W0, e0, B0, V0⟩ := F0
  have E0 := Lib.hid e0
  have o0 := cellOf V0 0 (x := .slice A1 r.webs.length c1) rfl
  have o1 := cellOf V0 1 (x := .slice A2 r.ribs.length c2) rfl
  have o2 := cellOf V0 2 (x := .slice A3 r.stacks.length c3) rfl
  have o3 := cellOf V0 3 (x := .bool r.coll) rfl
  have C := Lib.hid (HRC.out _ r W0 ((hrun.out.below B0).more B0.size) HSM.out)
  clear e0
  go_enter Try.func14, Try.ntmps14
  go_upto_region 1 with fail
  rw [E0.out]
  go_wp2_with fail
  refine C.out.mono ?_
  rintro e w3 ⟨rfl, hb3⟩
  have B3 := B0.trans (hb3.mono B0.size)
  have V3 := V0.below hb3 V0.lt
  clear C o0 o1 o2 o3 V0 hb3
  by_cases hck : checkE r = 0
  case neg =>
    have hck' : (checkE r != 0) = true := by simpa using hck
    have HR : ∀ e, e = .returned (.tuple #[.slice none 0 0, .int .i64 (checkE r)]) → CopiesRet 98 95 120 r w e w3 := fun e he => ⟨_, he, fun h => absurd h hck, fun _ => rfl, B3⟩
    have HR' := Lib.hid HR
    clear hck HR V3
    generalize checkE r = ck at *
    go_wp2
    go_ret2
    exact HR'.out _ rfl
  rw [hck]
  have Hok := Lib.hid hck
  have o0 := cellOf V3 0 (x := .slice A1 r.webs.length c1) rfl
  have o1 := cellOf V3 1 (x := .slice A2 r.ribs.length c2) rfl
  have o2 := cellOf V3 2 (x := .slice A3 r.stacks.length c3) rfl
  have o3 := cellOf V3 3 (x := .bool r.coll) rfl
  have HV3 := Lib.hid V3
  have C := Lib.hid (All_any _ r w3 ((hrun.out.below B3).more B3.size) hck)
  have hl2 := layout_two hck
  clear hck V3
  go_upto_region 4 with fail
  go_wp2_with fail
  refine C.out.mono ?_
  rintro e w4 ⟨u, rfl, hu, hb4⟩
  have B4 := B3.trans (hb4.mono B3.size)
  have V4 := HV3.out.below hb4 HV3.out.lt
  have hbox : ∀ X, Below w4.heap.size w4 X → X.cell? ⟨w.heap.size, 0, none⟩ = some (.slice A1 r.webs.length c1) := fun X hX => cellOf (V4.below hX V4.lt) 0 rfl
  have HBX := Lib.hid hbox
  obtain ⟨A, c, rfl, -, hA⟩ := RAll.open_ hu.reads
  have hlay : ∀ k S, (layoutD r)[k]? = some S → ∃ g o D d, A = some ⟨g, o, none⟩ ∧ (∀ X, Below w4.heap.size w4 X → X.cell? ⟨g, o + k, none⟩ = some (.slice D S.length d)) ∧ ∀ m l, S[m]? = some l → ∃ g1 o1 E f, D = some ⟨g1, o1, none⟩ ∧ (∀ X, Below w4.heap.size w4 X → X.cell? ⟨g1, o1 + m, none⟩ = some (.slice E l.length f)) ∧
      ∀ n s, l[n]? = some s → ∃ g2 o2, E = some ⟨g2, o2, none⟩ ∧ g2 < w4.heap.size ∧ ∀ X, Below w4.heap.size w4 X → X.cell? ⟨g2, o2 + n * 4, none⟩ = some (.int .i64 s.web) ∧ X.cell? ⟨g2, o2 + n * 4 + 1, none⟩ = some (.int .i64 s.side) ∧ X.cell? ⟨g2, o2 + n * 4 + 2, none⟩ = some (.int .i64 s.row) ∧ X.cell? ⟨g2, o2 + n * 4 + 3, none⟩ = some (.int .i64 s.col) := fun k S hS => by
    obtain ⟨g, o, u1, rfl, hg, m0, hp⟩ := hA k S hS
    obtain ⟨D, d, rfl, -, hD⟩ := RAll.open_ hp
    refine ⟨g, o, D, d, rfl, fun X hX => (hX.cell (p := ⟨g, o + k, none⟩) hg).trans m0, fun m l hl => ?_⟩
    obtain ⟨g1, o1, u2, rfl, hg1, m1, hp1⟩ := hD m l hl
    obtain ⟨E, f, rfl, -, hE⟩ := RSpots.open_ hp1
    refine ⟨g1, o1, E, f, rfl, fun X hX => (hX.cell (p := ⟨g1, o1 + m, none⟩) hg1).trans m1, fun n s hs => ?_⟩
    obtain ⟨g2, o2, rfl, hg2, n0, n1, n2, n3⟩ := hE n s hs
    exact ⟨g2, o2, rfl, hg2, fun X hX => ⟨(hX.cell (p := ⟨g2, o2 + n * 4, none⟩) hg2).trans n0, (hX.cell (p := ⟨g2, o2 + n * 4 + 1, none⟩) hg2).trans n1, (hX.cell (p := ⟨g2, o2 + n * 4 + 2, none⟩) hg2).trans n2, (hX.cell (p := ⟨g2, o2 + n * 4 + 3, none⟩) hg2).trans n3⟩⟩
  have HLAY := Lib.hid hlay
  have hweb : ∀ m x, r.webs[m]? = some x → ∃ g o D d, A1 = some ⟨g, o, none⟩ ∧ (∀ X, Below w4.heap.size w4 X → X.cell? ⟨g, o + m * 3, none⟩ = some (.int .i64 x.cols) ∧ X.cell? ⟨g, o + m * 3 + 1, none⟩ = some (.int .i64 x.rows) ∧ X.cell? ⟨g, o + m * 3 + 2, none⟩ = some (.slice D x.plates.length d)) ∧
      ∀ k p, x.plates[k]? = some p → ∃ g1 o1, D = some ⟨g1, o1, none⟩ ∧ ∀ X, Below w4.heap.size w4 X → X.cell? ⟨g1, o1 + k * 2, none⟩ = some (.int .i64 p.page) ∧ X.cell? ⟨g1, o1 + k * 2 + 1, none⟩ = some (.bool p.up) := fun m x hx => by
    obtain ⟨g, o, u1, rfl, hg, m0, m1, m2, hp⟩ := HAW.out m x hx
    obtain ⟨D, d, rfl, -, hD⟩ := hp.open_
    refine ⟨g, o, D, d, rfl, fun X hX => ?_, fun k p hpk => ?_⟩
    · have hB := B4.trans (hX.mono B4.size)
      exact ⟨(hB.cell (p := ⟨g, o + m * 3, none⟩) hg).trans m0, (hB.cell (p := ⟨g, o + m * 3 + 1, none⟩) hg).trans m1, (hB.cell (p := ⟨g, o + m * 3 + 2, none⟩) hg).trans m2⟩
    · obtain ⟨g1, o1, rfl, hg1, n0, n1⟩ := hD k p hpk
      refine ⟨g1, o1, rfl, fun X hX => ?_⟩
      have hB := B4.trans (hX.mono B4.size)
      exact ⟨(hB.cell (p := ⟨g1, o1 + k * 2, none⟩) hg1).trans n0, (hB.cell (p := ⟨g1, o1 + k * 2 + 1, none⟩) hg1).trans n1⟩
  have HWEB := Lib.hid hweb
  clear C o0 o1 o2 o3 hu hA hb4 hbox hlay hweb V4
  go_wp2
  go_loopw [6, 7] (fun lv i wr => ∃ k : Nat, k ≤ (layoutD r).length ∧ i = .int .i64 k ∧ OPtss 98 95 120 w4.heap.size wr lv ((copiesD r).take k) ∧ Below w4.heap.size w4 wr) (fun _ i _ => (layoutD r).length - (intOf i).toNat)
  case atStart => exact ⟨0, Nat.zero_le _, rfl, ⟨_, OAll.nil⟩, Below.refl _ _⟩
  case round =>
    obtain ⟨k, hk, rfl, ⟨ws, hws⟩, hB⟩ := hrel
    have hcl : ((copiesD r).take k).length = k := by unfold copiesD; rw [List.length_take, List.length_map]; omega
    by_cases hlk : k < (layoutD r).length
    case neg =>
      have hall : (copiesD r).take k = copiesD r := List.take_of_length_le (by unfold copiesD; rw [List.length_map]; omega)
      rw [hall] at hws
      have B5 := B4.trans (hB.mono B4.size)
      have HR : ∀ u e, OPtss 98 95 120 w4.heap.size wr u (copiesD r) → e = .returned (.tuple #[u, .int .i64 0]) → CopiesRet 98 95 120 r w e wr := fun u e hu he => ⟨u, by rw [Hok.out]; exact he, fun _ => hu.base_ B4.size, fun h => absurd Hok.out h, B5⟩
      have HR' := Lib.hid HR
      have HO := Lib.hid (show OPtss 98 95 120 w4.heap.size wr _ (copiesD r) from ⟨ws, hws⟩)
      clear hcl hall HR hws
      go_wp2
      go_ret2
      exact HR'.out _ _ HO.out rfl
    obtain ⟨S, hS⟩ : ∃ S, (layoutD r)[k]? = some S := ⟨_, List.getElem?_eq_getElem hlk⟩
    obtain ⟨g, o, D, d, rfl, hcS, hin⟩ := HLAY.out k S hS
    have HCS := Lib.hid hcS
    have HIN := Lib.hid hin
    have HS := Lib.hid hS
    have HWS := Lib.hid hws
    have HCL := Lib.hid hcl
    have hSl := copy_small Hok.out hS
    have hki : (k : Int) < ((layoutD r).length : Int) := by omega
    have hwo := hB.size
    clear hS hcS hin hws hcl
    go_wp2
    obtain ⟨wo, rfl⟩ : ∃ wo, wo = wr := ⟨wr, rfl⟩
    go_loopw [8, 9] (fun lv i wr => ∃ m : Nat, m ≤ S.length ∧ i = .int .i64 m ∧ OPts 98 95 wo.heap.size wr lv ((S.map fun l => l.map (plateAt r.webs)).take m) ∧ Below wo.heap.size wo wr) (fun _ i _ => S.length - (intOf i).toNat)
    case atStart => exact ⟨0, Nat.zero_le _, rfl, ⟨_, OAll.nil⟩, Below.refl _ _⟩
    case round =>
      obtain ⟨m, hm, rfl, ⟨vs, hvs⟩, hB2⟩ := hrel
      have hB0 := hB.trans (hB2.mono hwo)
      have m0 := HCS.out wr hB0
      have hcl : ((S.map fun l => l.map (plateAt r.webs)).take m).length = m := by rw [List.length_take, List.length_map]; omega
      by_cases hlm : m < S.length
      case neg =>
        have hall : (S.map fun l => l.map (plateAt r.webs)).take m = S.map fun l => l.map (plateAt r.webs) := List.take_of_length_le (by rw [List.length_map]; omega)
        rw [hall] at hvs
        have ho := hvs.1
        obtain ⟨n, hn⟩ : ∃ n, (S.map fun l => l.map (plateAt r.webs)).length = n := ⟨_, rfl⟩
        rw [hn] at ho
        obtain ⟨Aq, cq, rfl⟩ := ownsRow_form ho
        have hst : OPts 98 95 w4.heap.size wr (.slice Aq n cq) (S.map fun l => l.map (plateAt r.webs)) := OPts.base_ ⟨vs, hvs⟩ hwo
        have hw0 := HWS.out.below hB2 fun _ _ hr => hr.below hB2
        have hw5 := hw0.1
        rw [HCL.out] at hw5
        have HST := Lib.hid hst
        have HW0 := Lib.hid hw0
        have HNX : Hid ((copiesD r).take (k + 1) = (copiesD r).take k ++ [S.map fun l => l.map (plateAt r.webs)]) := by
          show (copiesD r).take (k + 1) = (copiesD r).take k ++ [S.map fun l => l.map (plateAt r.webs)]
          exact take_map_next (fun S : List (List SpotD) => S.map fun l => l.map (plateAt r.webs)) HS.out
        have hbs := hB2.size
        have hk2 : k ≤ 2 := by omega
        clear hvs ho hn hall hcl hst hw0
        go_wp2_with (at_builtin; refine wpList_append_own _ rfl _ _ 42 rfl w4.heap.size 120 i2 (.slice none 0 0) 1 24 Try.underlying42 hi2 hx0 hx1 hx2 rfl (by decide) _ k ws rfl (hw5.alloc _) ⟨wr.heap.size, 0, none⟩ 1 1 [.slice Aq n cq] rfl rfl (cells_new _ _ _) (by simp [Value.oneCell']) (by simp only [maxLen]; omega) (by omega) (by simp; omega) ?_; intro v' w6 hown' hgrow _)
        have hC : OPtss 98 95 120 w4.heap.size w6 v' ((copiesD r).take (k + 1)) := by
          rw [HNX.out]
          exact ptss_one (by decide) (by decide) HW0.out HST.out hgrow (by rw [HCL.out]; exact hown')
        have hB6 := below_grown hB0 hw5 hgrow hB0.size
        clear hown' hgrow m0 hw5
        go_wp2
        go_roundw
        case rel => exact ⟨k + 1, by omega, by go_num, hC, hB6⟩
        case measure => (simp [intOf]) <;> omega
      obtain ⟨l, hl⟩ : ∃ l, S[m]? = some l := ⟨_, List.getElem?_eq_getElem hlm⟩
      obtain ⟨g1, o1, E, f, rfl, hcl1, hin1⟩ := HIN.out m l hl
      have HCL1 := Lib.hid hcl1
      have HIN1 := Lib.hid hin1
      have HL := Lib.hid hl
      have HVS := Lib.hid hvs
      have HC2 := Lib.hid hcl
      have hll := (sec_bound Hok.out HS.out hl).1
      have hmi : (m : Int) < (S.length : Int) := by omega
      have hwi := hB2.size
      clear hl hcl1 hin1 hvs hcl
      go_wp2
      clear m0
      obtain ⟨wi, rfl⟩ : ∃ wi, wi = wr := ⟨wr, rfl⟩
      go_loopw [10, 11] (fun lv i wr => ∃ n : Nat, n ≤ l.length ∧ i = .int .i64 n ∧ OPt 98 wi.heap.size wr lv ((l.map (plateAt r.webs)).take n) ∧ Below wi.heap.size wi wr) (fun _ i _ => l.length - (intOf i).toNat)
      case atStart => exact ⟨0, Nat.zero_le _, rfl, World.ownsRow_nil _ _ _ _, Below.refl _ _⟩
      case round =>
        obtain ⟨n, hn, rfl, ho, hB3⟩ := hrel
        have hB1 := hB0.trans (hB3.mono hB0.size)
        have m0 := HCS.out wr hB1
        have m1 := HCL1.out wr hB1
        have hlen : ((l.map (plateAt r.webs)).take n).length = n := by rw [List.length_take, List.length_map]; omega
        unfold OPt at ho
        rw [hlen] at ho
        by_cases hln : n < l.length
        case neg =>
          obtain rfl : n = l.length := by omega
          have hall : (l.map (plateAt r.webs)).take l.length = l.map (plateAt r.webs) := List.take_of_length_le (by rw [List.length_map]; omega)
          rw [hall] at ho hlen
          obtain ⟨Aq, cq, rfl⟩ := ownsRow_form ho
          have hst : OPt 98 wo.heap.size wr (.slice Aq l.length cq) (l.map (plateAt r.webs)) := by
            unfold OPt
            rw [hlen]
            exact ownsRow_base ho hwi
          have hv0 := HVS.out.below hB3 fun _ _ hr => ownsRow_below hr hB3
          have hv5 := hv0.1
          rw [HC2.out] at hv5
          have HST := Lib.hid hst
          have HV0 := Lib.hid hv0
          have HNX : Hid ((S.map fun l => l.map (plateAt r.webs)).take (m + 1) = (S.map fun l => l.map (plateAt r.webs)).take m ++ [l.map (plateAt r.webs)]) := by
            show (S.map fun l => l.map (plateAt r.webs)).take (m + 1) = (S.map fun l => l.map (plateAt r.webs)).take m ++ [l.map (plateAt r.webs)]
            exact take_map_next (fun l : List SpotD => l.map (plateAt r.webs)) HL.out
          have hB7 := hB2.trans (hB3.mono hwi)
          have hbs := hB7.size
          clear ho hlen hall hst hv0
          go_wp2_with (at_builtin; refine wpList_append_own _ rfl _ _ 120 rfl wo.heap.size 95 i1 (.slice none 0 0) 1 24 Try.underlying120 hi1 hy0 hy1 hy2 rfl (by decide) _ m vs rfl (hv5.alloc _) ⟨wr.heap.size, 0, none⟩ 1 1 [.slice Aq l.length cq] rfl rfl (cells_new _ _ _) (by simp [Value.oneCell']) (by simp only [maxLen]; omega) (by omega) (by simp; omega) ?_; intro v' w6 hown' hgrow _)
          have hC : OPts 98 95 wo.heap.size w6 v' ((S.map fun l => l.map (plateAt r.webs)).take (m + 1)) := by
            rw [HNX.out]
            exact pts_one (by decide) HV0.out HST.out hgrow (by rw [HC2.out]; exact hown')
          have hB6 := below_grown hB7 hv5 hgrow hbs
          clear hown' hgrow m0 m1 hv5
          go_wp2
          go_roundw
          case rel => exact ⟨m + 1, by omega, by go_num, hC, hB6⟩
          case measure => (simp [intOf]) <;> omega
        obtain ⟨s, hs⟩ : ∃ s, l[n]? = some s := ⟨_, List.getElem?_eq_getElem hln⟩
        obtain ⟨g2, o2, rfl, hg2, hsp⟩ := HIN1.out n s hs
        obtain ⟨n0, n1, n2, n3⟩ := hsp wr hB1
        obtain ⟨a, x, hok⟩ := layout_spot Hok.out HS.out HL.out hs
        obtain ⟨kk, p, hp, hkk, hki2, hpa, -⟩ := plate_spot hok
        obtain ⟨gw, ow, Ap, cp, rfl, hwc, hpl⟩ := HWEB.out a x hok.there
        obtain ⟨gp, op, rfl, hpc⟩ := hpl kk p hp
        have hai : (a : Int) < (r.webs.length : Int) := by have := (List.getElem?_eq_some_iff.1 hok.there).1; omega
        have hkl : (kk : Int) < (x.plates.length : Int) := by have := (List.getElem?_eq_some_iff.1 hp).1; omega
        have hsw := hok.web
        have HWC := Lib.hid hwc
        have HPC := Lib.hid hpc
        have hat : ∀ X pv, Calls Try.prog 46 #[.agg #[.int .i64 x.cols, .int .i64 x.rows, pv], .agg #[.int .i64 s.web, .int .i64 s.side, .int .i64 s.row, .int .i64 s.col]] X fun e w' => e = .returned (.int .i64 (kk : Int)) ∧ Below X.heap.size X w' := fun X pv => by
          have := At_any r s a x pv X hok
          rwa [hki2] at this
        have HNX : Hid (((l.map (plateAt r.webs)).take (n + 1)).flatMap PlateD.cells = ((l.map (plateAt r.webs)).take n).flatMap PlateD.cells ++ [.int .i64 p.page, .bool p.up] ∧ ((l.map (plateAt r.webs)).take (n + 1)).length = n + 1) := by
          refine ⟨?_, by rw [List.length_take, List.length_map]; omega⟩
          rw [take_map_next (plateAt r.webs) hs, hpa, cells_snoc]
        obtain ⟨xc, xr, xp⟩ := x
        obtain ⟨pg, pu⟩ := p
        obtain ⟨sw, ss, sr, sc⟩ := s
        dsimp only at n0 n1 n2 n3 hsw hat hwc hkl hpc
        subst hsw
        have HAT := Lib.hid hat
        have HO := Lib.hid ho
        clear hs hsp hok hp hkk hki2 hpa hwc hpl hpc hat hlen
        have F1 : ∃ w1, wr.alloc (.cells #[.int .i64 (a : Int), .int .i64 ss, .int .i64 sr, .int .i64 sc] 30) = w1 ∧ Below wr.heap.size wr w1 ∧ Blk w1 wr.heap.size 30 #[.int .i64 (a : Int), .int .i64 ss, .int .i64 sr, .int .i64 sc] := ⟨_, rfl, (Below.refl _ _).alloc (Nat.le_refl _) _, Blk.new _ _ _⟩
        obtain ⟨w1, e1, hb1, R1⟩ := F1
        have E1 := Lib.hid e1
        have hni : (n : Int) < (l.length : Int) := by omega
        have HR1 := Lib.hid R1
        have HB1 := Lib.hid hb1
        have HB3 := Lib.hid hB3
        have hB11 := hB1.trans (hb1.mono hB1.size)
        have ho1 := ownsRow_below ho hb1
        obtain ⟨Aq, cq, rfl⟩ := ownsRow_form ho
        clear e1 ho R1 hb1
        go_upto_region 18 with fail
        rw [E1.out]
        clear m0 m1 n0 n1 n2 n3
        obtain ⟨b12, hb12⟩ : ∃ b, wr.heap.size = b := ⟨_, rfl⟩
        rw [hb12] at HR1
        have hfacts : ∀ X, Below w1.heap.size w1 X → X.cell? ⟨w.heap.size, 0, none⟩ = some (.slice (some ⟨gw, ow, none⟩) r.webs.length c1) ∧ X.cell? ⟨b12, 0, none⟩ = some (.int .i64 (a : Int)) ∧ X.cell? ⟨b12, 1, none⟩ = some (.int .i64 ss) ∧ X.cell? ⟨b12, 2, none⟩ = some (.int .i64 sr) ∧ X.cell? ⟨b12, 3, none⟩ = some (.int .i64 sc) ∧ X.cell? ⟨gw, ow + a * 3, none⟩ = some (.int .i64 xc) ∧ X.cell? ⟨gw, ow + a * 3 + 1, none⟩ = some (.int .i64 xr) ∧ X.cell? ⟨gw, ow + a * 3 + 2, none⟩ = some (.slice (some ⟨gp, op, none⟩) xp.length cp) ∧ X.cell? ⟨gp, op + kk * 2, none⟩ = some (.int .i64 pg) ∧ X.cell? ⟨gp, op + kk * 2 + 1, none⟩ = some (.bool pu) := fun X hX => by
          have hX4 := hB11.trans (hX.mono hB11.size)
          have R := HR1.out.below hX HR1.out.lt
          obtain ⟨a0, a1, a2⟩ := HWC.out X hX4
          obtain ⟨a3, a4⟩ := HPC.out X hX4
          exact ⟨HBX.out X hX4, cellOf R 0 rfl, cellOf R 1 rfl, cellOf R 2 rfl, cellOf R 3 rfl, a0, a1, a2, a3, a4⟩
        have hgrw : ∀ X X' tmp, Below w1.heap.size w1 X → (X.alloc tmp).grownBy X' (Value.slice Aq n cq).ownBlock → Below wi.heap.size wi X' ∧ X'.cell? ⟨w.heap.size, 0, none⟩ = some (.slice (some ⟨gw, ow, none⟩) r.webs.length c1) ∧ X'.cell? ⟨b12, 0, none⟩ = some (.int .i64 (a : Int)) ∧ X'.cell? ⟨b12, 1, none⟩ = some (.int .i64 ss) ∧ X'.cell? ⟨b12, 2, none⟩ = some (.int .i64 sr) ∧ X'.cell? ⟨b12, 3, none⟩ = some (.int .i64 sc) ∧ X'.cell? ⟨gw, ow + a * 3, none⟩ = some (.int .i64 xc) ∧ X'.cell? ⟨gw, ow + a * 3 + 1, none⟩ = some (.int .i64 xr) ∧ X'.cell? ⟨gw, ow + a * 3 + 2, none⟩ = some (.slice (some ⟨gp, op, none⟩) xp.length cp) ∧ X'.cell? ⟨gp, op + kk * 2, none⟩ = some (.int .i64 pg) ∧ X'.cell? ⟨gp, op + kk * 2 + 1, none⟩ = some (.bool pu) := fun X X' tmp hX hg => by
          have hX3 := (HB3.out.trans (HB1.out.mono HB3.out.size)).trans (hX.mono (Nat.le_trans HB3.out.size HB1.out.size))
          have hO := ownsRow_below ho1 hX
          have hB8 := below_grown hX3 hO hg hX3.size
          have hX4 := hB0.trans (hB8.mono hB0.size)
          have R := (HR1.out.below hX HR1.out.lt).grew (Grew.of_append hO hg) (by decide)
          obtain ⟨a0, a1, a2⟩ := HWC.out X' hX4
          obtain ⟨a3, a4⟩ := HPC.out X' hX4
          exact ⟨hB8, HBX.out X' hX4, cellOf R 0 rfl, cellOf R 1 rfl, cellOf R 2 rfl, cellOf R 3 rfl, a0, a1, a2, a3, a4⟩
        have hC : ∀ X, Below w1.heap.size w1 X → Calls Try.prog 46 #[.agg #[.int .i64 xc, .int .i64 xr, .slice (some ⟨gp, op, none⟩) xp.length cp], .agg #[.int .i64 (a : Int), .int .i64 ss, .int .i64 sr, .int .i64 sc]] X fun e w' => e = .returned (.int .i64 (kk : Int)) ∧ Below w1.heap.size w1 w' := fun X hX =>
          (HAT.out X _).mono fun e w' he => ⟨he.1, hX.trans (he.2.mono hX.size)⟩
        have HF := Lib.hid hfacts
        have HG := Lib.hid hgrw
        have HC := Lib.hid hC
        have hbs : wi.heap.size ≤ w1.heap.size := Nat.le_trans HB3.out.size HB1.out.size
        obtain ⟨q0, q1, q2, q3, q4, q5, q6, q7, q8, q9⟩ := hfacts w1 (Below.refl _ _)
        clear hfacts hgrw hC
        go_region_held3 (fun X => X.cell? ⟨w.heap.size, 0, none⟩ = some (.slice (some ⟨gw, ow, none⟩) r.webs.length c1) ∧ X.cell? ⟨b12, 0, none⟩ = some (.int .i64 (a : Int)) ∧ X.cell? ⟨b12, 1, none⟩ = some (.int .i64 ss) ∧ X.cell? ⟨b12, 2, none⟩ = some (.int .i64 sr) ∧ X.cell? ⟨b12, 3, none⟩ = some (.int .i64 sc) ∧ X.cell? ⟨gw, ow + a * 3, none⟩ = some (.int .i64 xc) ∧ X.cell? ⟨gw, ow + a * 3 + 1, none⟩ = some (.int .i64 xr) ∧ X.cell? ⟨gw, ow + a * 3 + 2, none⟩ = some (.slice (some ⟨gp, op, none⟩) xp.length cp) ∧ X.cell? ⟨gp, op + kk * 2, none⟩ = some (.int .i64 pg) ∧ X.cell? ⟨gp, op + kk * 2 + 1, none⟩ = some (.bool pu))
          (first | exact hR8 | exact HF.out _ (by assumption) | exact HF.out _ (Below.refl _ _) | exact HF.out _ (Below.refl _ _).drew | go_keep)
          (first | (refine step_append_lies _ (by rfl) _ _ _ (by rfl) wi.heap.size 98 i0 (.agg #[.int .i64 0, .bool false]) 2 16 Try.underlying95 hi hz0 hz1 hz2 rfl (by decide) (.slice Aq n cq) n _ (by rfl) (by first | exact (ownsRow_below ho1 h7).alloc _ | exact ((ownsRow_below ho1 h7).alloc _).drew) ⟨w7.heap.size, 0, none⟩ 1 1 [.int .i64 pg, .bool pu] (by rfl) (by rfl) (World.news_of_block (cs := #[.int .i64 pg, .bool pu]) (t := 98) (fr := (0, 0)) (heap_alloc_new w7 _)) (by simp [Value.oneCell']) (by omega) (by simp only [maxLen]; omega) (by omega) (by have := h7.size; simp; omega) (w7.heap.size + 1) (by simp) ?_; intro g9 c9 w8 hown' hgrow hat hlt9; have hG8 := HG.out w7 w8 _ h7 hgrow; have hR8 := hG8.2) | (go_at_call 46; with_reducible refine (HC.out _ ?_).mono ?_; (first | assumption | exact Below.refl _ _ | exact (Below.refl _ _).drew); rintro e w7 ⟨rfl, h7⟩))
        all_goals
          have hB8 := hG8.1
          have hS : OPt 98 wi.heap.size w8 (.slice (some ⟨g9, 0, none⟩) (n + 1) c9) ((l.map (plateAt r.webs)).take (n + 1)) := by
            unfold OPt
            rw [HNX.out.1, HNX.out.2]
            exact hown'
          clear q0 q1 q2 q3 q4 q5 q6 q7 q8 q9 ho1 hown' hgrow hR8 hG8 h7
          go_wp2
          go_roundw
          case rel => exact ⟨n + 1, by omega, by go_num, hS, hB8⟩
          case measure => (simp [intOf]) <;> omega
end Go.Proofs.Ytdbfhdncjblleaa
