/-
  The reference's Turn, given what its Check returns.
-/
import Derived.Test.YtdbfhdncjblleaaSb
namespace Go.Proofs.Ytdbfhdncjblleaa
open Go.RowKit

/-- What the reference's Turn gives. -/
def RTurnRet (A3 : Option Addr) (c3 : Nat) (r : RunD) (i : Int) (w : World) (e : Ending) (w' : World) : Prop :=
  ∃ u, e = .returned (.tuple #[u, .int .i64 (turnE r i)]) ∧ (turnE r i = 0 → ∃ v1 vs v2, u = .agg #[v1, v2, .slice A3 r.stacks.length c3, .bool r.coll] ∧ OWebsR w.heap.size w' v1 vs r.webs ∧ ORibsR w.heap.size w' v2 (turnD r i).ribs) ∧ (turnE r i ≠ 0 → u = runRet0) ∧ Below w.heap.size w w'
theorem ORibsR.cell {base : Nat} {w : World} {l : List RibD} {g n c : Nat} (h : ORibsR base w (.slice (some ⟨g, 0, none⟩) n c) l) {k : Nat} {x : RibD} (hx : l[k]? = some x) : w.cell? ⟨g, k * 5 + 3, none⟩ = some (.bool x.turned) := by
  have := h.cells (g := g) rfl (k * 5 + 3) (.bool x.turned) (flat_at RibD.cells 5 (fun _ => rfl) _ k 3 _ hx (by omega))
  rwa [add0] at this

set_option maxRecDepth 100000 in
set_option maxHeartbeats 2000000 in
theorem refTurn_any (RC : RefCheckOk) (A1 A2 A3 : Option Addr) (c1 c2 c3 : Nat) (r : RunD) (i : Int) (w : World) (h : RRun w.heap.size w (.agg #[.slice A1 r.webs.length c1, .slice A2 r.ribs.length c2, .slice A3 r.stacks.length c3, .bool r.coll]) r) (hsm : SmallRun r) :
    Calls Try.prog 36 #[.agg #[.slice A1 r.webs.length c1, .slice A2 r.ribs.length c2, .slice A3 r.stacks.length c3, .bool r.coll], .int .i64 i] w (RTurnRet A3 c3 r i w) := by
  have HRC := Lib.hid RC
  have HSM := Lib.hid hsm
  have hrun := Lib.hid h
  obtain ⟨Ay, cy, ey, -, hAr⟩ := (h.ribs).open_
  cases ey
  have HAR := Lib.hid hAr
  clear h RC hsm hAr
  have F0 : ∃ W0, (w.alloc (.cells #[.slice A1 r.webs.length c1, .slice A2 r.ribs.length c2, .slice A3 r.stacks.length c3, .bool r.coll] 26)).alloc (.cells #[.slice none 0 0, .slice none 0 0, .slice none 0 0, .bool false] 26) = W0 ∧
      Below w.heap.size w W0 ∧ Blk W0 w.heap.size 26 #[.slice A1 r.webs.length c1, .slice A2 r.ribs.length c2, .slice A3 r.stacks.length c3, .bool r.coll] ∧ Blk W0 (w.heap.size + 1) 26 #[.slice none 0 0, .slice none 0 0, .slice none 0 0, .bool false] := by
    refine ⟨_, rfl, ((Below.refl _ _).alloc (Nat.le_refl _) _).alloc (by simp) _, (Blk.new w _ _).alloc _, ?_⟩
    have := Blk.new (w.alloc (.cells #[.slice A1 r.webs.length c1, .slice A2 r.ribs.length c2, .slice A3 r.stacks.length c3, .bool r.coll] 26)) 26 #[.slice none 0 0, .slice none 0 0, .slice none 0 0, .bool false]
    rw [World.size_alloc] at this
    exact this
  obtain ⟨W0, e0, B0, V0, R0⟩ := F0
  have E0 := Lib.hid e0
  have o0 := cellOf V0 0 (x := .slice A1 r.webs.length c1) rfl
  have o1 := cellOf V0 1 (x := .slice A2 r.ribs.length c2) rfl
  have o2 := cellOf V0 2 (x := .slice A3 r.stacks.length c3) rfl
  have o3 := cellOf V0 3 (x := .bool r.coll) rfl
  have C := Lib.hid (HRC.out _ r W0 ((hrun.out.below B0).more B0.size) HSM.out)
  clear e0
  go_enter Try.func36, Try.ntmps36
  go_upto_region 1 with fail
  rw [E0.out]
  go_wp2_with fail
  refine C.out.mono ?_
  rintro e w3 ⟨rfl, hb3⟩
  have B3 := B0.trans (hb3.mono B0.size)
  have V3 := V0.below hb3 V0.lt
  have R3 := R0.below hb3 R0.lt
  have HRET : Hid (∀ (z : Int), turnE r i = z → z ≠ 0 → ∀ Y, Below w.heap.size w Y → RTurnRet A3 c3 r i w (.returned (.tuple #[runRet0, .int .i64 z])) Y) := fun z hz hne Y hY => ⟨_, by rw [hz], fun h => absurd (hz ▸ h) hne, fun _ => rfl, hY⟩
  clear C o0 o1 o2 o3 V0 R0 hb3
  have o1 := cellOf V3 1 (x := .slice A2 r.ribs.length c2) rfl
  by_cases hck : checkE r = 0
  case neg =>
    have hck' : (checkE r != 0) = true := by simpa using hck
    have hck2 : (checkE r == 0) = false := by simpa using hck
    have hE : turnE r i = checkE r := by unfold turnE; rw [if_pos hck]
    have HR := Lib.hid (HRET.out _ hE hck)
    have d0 := cellOf R3 0 (x := .slice none 0 0) rfl
    have d1 := cellOf R3 1 (x := .slice none 0 0) rfl
    have d2 := cellOf R3 2 (x := .slice none 0 0) rfl
    have d3 := cellOf R3 3 (x := .bool false) rfl
    have f0 := R3.frozen 0
    have f1 := R3.frozen 1
    have f2 := R3.frozen 2
    have f3 := R3.frozen 3
    have HB := Lib.hid (below_set4 B3 (Nat.le_succ w.heap.size) (.slice none 0 0) (.slice none 0 0) (.slice none 0 0) (.bool false))
    clear hck hE V3 R3
    generalize checkE r = ck at *
    go_wp2
    refine bodyPost_ret (v := .tuple #[runRet0, .int .i64 ck]) (by simp [results, Try.results36, go_sem, d0, d1, d2, d3, runRet0]) rfl (HR.out _ HB.out)
  have Hok := Lib.hid hck
  rw [hck]
  clear hck
  by_cases hr1 : i < 0
  case pos =>
    have HR := Lib.hid (HRET.out 6 (by unfold turnE; rw [if_neg (by rw [Hok.out]; simp), if_pos (.inl hr1)]) (by decide))
    have d0 := cellOf R3 0 (x := .slice none 0 0) rfl
    have d1 := cellOf R3 1 (x := .slice none 0 0) rfl
    have d2 := cellOf R3 2 (x := .slice none 0 0) rfl
    have d3 := cellOf R3 3 (x := .bool false) rfl
    have f0 := R3.frozen 0
    have f1 := R3.frozen 1
    have f2 := R3.frozen 2
    have f3 := R3.frozen 3
    have HB := Lib.hid (below_set4 B3 (Nat.le_succ w.heap.size) (.slice none 0 0) (.slice none 0 0) (.slice none 0 0) (.bool false))
    clear V3 R3
    go_wp2
    refine bodyPost_ret (v := .tuple #[runRet0, .int .i64 6]) (by simp [results, Try.results36, go_sem, d0, d1, d2, d3, runRet0]) rfl (HR.out _ HB.out)
  by_cases hr2 : (r.ribs.length : Int) ≤ i
  case pos =>
    have HR := Lib.hid (HRET.out 6 (by unfold turnE; rw [if_neg (by rw [Hok.out]; simp), if_pos (.inr hr2)]) (by decide))
    have d0 := cellOf R3 0 (x := .slice none 0 0) rfl
    have d1 := cellOf R3 1 (x := .slice none 0 0) rfl
    have d2 := cellOf R3 2 (x := .slice none 0 0) rfl
    have d3 := cellOf R3 3 (x := .bool false) rfl
    have f0 := R3.frozen 0
    have f1 := R3.frozen 1
    have f2 := R3.frozen 2
    have f3 := R3.frozen 3
    have HB := Lib.hid (below_set4 B3 (Nat.le_succ w.heap.size) (.slice none 0 0) (.slice none 0 0) (.slice none 0 0) (.bool false))
    clear V3 R3
    go_wp2
    refine bodyPost_ret (v := .tuple #[runRet0, .int .i64 6]) (by simp [results, Try.results36, go_sem, d0, d1, d2, d3, runRet0]) rfl (HR.out _ HB.out)
  obtain ⟨k, rfl⟩ : ∃ k : Nat, i = k := ⟨i.toNat, by omega⟩
  have hk : k < r.ribs.length := by omega
  have HE : Hid (turnE r k = 0) := by show turnE r k = 0; unfold turnE; rw [if_neg (by rw [Hok.out]; simp), if_neg (by omega)]
  obtain ⟨x, hx⟩ : ∃ x, r.ribs[k]? = some x := ⟨_, List.getElem?_eq_getElem hk⟩
  have HX := Lib.hid hx
  have hi1 : (k : Int) < (r.ribs.length : Int) := by omega
  have HC := Lib.hid (refCopy_any A1 A2 A3 c1 c2 c3 r w3 ((hrun.out.below B3).more B3.size) HSM.out)
  have o0 := cellOf V3 0 (x := .slice A1 r.webs.length c1) rfl
  have o2 := cellOf V3 2 (x := .slice A3 r.stacks.length c3) rfl
  have o3 := cellOf V3 3 (x := .bool r.coll) rfl
  have HV3 := Lib.hid V3
  have HR3 := Lib.hid R3
  have n1 : w.heap.size + 1 < w3.heap.size := R3.lt
  clear hr1 hx V3 R3
  go_wp2_with fail
  refine HC.out.mono ?_
  rintro e w4 ⟨v1, vs, v2, rfl, ow, orb, hb4⟩
  have B4 : Below w.heap.size w w4 := B3.trans (hb4.mono B3.size)
  have hbw := B3.size
  have ow := ow.base_ (b' := w3.heap.size) (by omega)
  have orb := ownsRow_base orb (b' := w3.heap.size) (by omega)
  obtain ⟨D1, m1, rfl⟩ := ownsRow_form ow.1
  obtain ⟨D2, m2, rfl⟩ := ownsRow_form orb
  obtain ⟨g, rfl, hg0, hg1⟩ := ownsRow_block orb (by omega)
  obtain ⟨hset, cs, hcs⟩ := ORibsR.set orb HX.out (!x.turned)
  have hcell := ORibsR.cell orb HX.out
  obtain ⟨ga, oa, rfl, hga, -, -, -, q3, -⟩ := HAR.out k x HX.out
  have F5 : ∃ w5, w4.alloc (.cells #[.slice D1 r.webs.length m1, .slice (some ⟨g, 0, none⟩) r.ribs.length m2, .slice A3 r.stacks.length c3, .bool r.coll] 26) = w5 ∧ Below w4.heap.size w4 w5 ∧ w5.heap.size = w4.heap.size + 1 ∧
      Blk w5 w4.heap.size 26 #[.slice D1 r.webs.length m1, .slice (some ⟨g, 0, none⟩) r.ribs.length m2, .slice A3 r.stacks.length c3, .bool r.coll] :=
    ⟨_, rfl, (Below.refl _ _).alloc (Nat.le_refl _) _, by simp, Blk.new _ _ _⟩
  obtain ⟨w5, e5, hb5, z5, V5⟩ := F5
  have E5 := Lib.hid e5
  clear e5
  have V3 := HV3.out
  have R3 := HR3.out
  have R5 := (R3.below hb4 R3.lt).below hb5 (by have := hb4.size; omega)
  have U5 := (V3.below hb4 V3.lt).below hb5 (by have := hb4.size; omega)
  clear o0 o1 o2 o3 V3 R3
  go_upto_region 7 with fail
  rw [E5.out]
  have y1 := cellOf V5 1 (x := .slice (some ⟨g, 0, none⟩) r.ribs.length m2) rfl
  have y2 : w5.cell? ⟨g, k * 5 + 3, none⟩ = some (.bool x.turned) := (hb5.cell (p := ⟨g, k * 5 + 3, none⟩) hg1).trans hcell
  have y3 : w5.frozen? ⟨g, k * 5 + 3, none⟩ = false := (hcs.below hb5 hg1).frozen _
  have y4 := cellOf U5 1 (x := .slice (some ⟨ga, oa, none⟩) r.ribs.length c2) rfl
  have y5 : w5.cell? ⟨ga, oa + k * 5 + 3, none⟩ = some (.bool x.turned) := ((B4.trans (hb5.mono B4.size)).cell (p := ⟨ga, oa + k * 5 + 3, none⟩) hga).trans q3
  go_still_tail 12, (by kernel_rfl)
  change wpList _ _ _ _ _ w5.drew
  have q0 := cellOf V5 0 (x := .slice D1 r.webs.length m1) rfl
  have q2 := cellOf V5 2 (x := .slice A3 r.stacks.length c3) rfl
  have q3 := cellOf V5 3 (x := .bool r.coll) rfl
  have t0 := cellOf R5 0 (x := .slice none 0 0) rfl
  have t1 := cellOf R5 1 (x := .slice none 0 0) rfl
  have t2 := cellOf R5 2 (x := .slice none 0 0) rfl
  have t3 := cellOf R5 3 (x := .bool false) rfl
  have f0 := R5.frozen 0
  have f1 := R5.frozen 1
  have f2 := R5.frozen 2
  have f3 := R5.frozen 3
  have hz4 := hb4.size
  have ha1 : w.heap.size + 1 ≠ g := by omega
  have ha2 : w4.heap.size ≠ g := by omega
  have ha3 : w4.heap.size ≠ w.heap.size + 1 := by omega
  have ha4 : g ≠ w.heap.size + 1 := by omega
  have ha5 : g ≠ w4.heap.size := by omega
  have hT : turnD r k = { r with ribs := r.ribs.set k { x with turned := !x.turned } } := by
    unfold turnD turnRib
    rw [Int.toNat_natCast, getD_of HX.out]
  have hX5 := ORibsR.set (ownsRow_below orb hb5) HX.out (!x.turned)
  have gr1 : Grew 99 w5 (w5.setCell ⟨g, k * 5 + 3, none⟩ (.bool !x.turned)) := Grew.set (hcs.below hb5 hg1) _ _
  have hR6 := R5.grew gr1 (by decide)
  have hW6 := (ow.below hb5).grew gr1 (by decide) (by decide)
  have hB6 := ((B4.trans (hb5.mono B4.size)).setCell (p := ⟨g, k * 5 + 3, none⟩) (by show w.heap.size ≤ g; omega) (.bool !x.turned))
  have k1 := hR6.put 0 (.slice D1 r.webs.length m1)
  have k2 := k1.put 1 (.slice (some ⟨g, 0, none⟩) r.ribs.length m2)
  have k3 := k2.put 2 (.slice A3 r.stacks.length c3)
  have gr := (((Grew.set hR6 0 (.slice D1 r.webs.length m1)).trans (Grew.set k1 1 (.slice (some ⟨g, 0, none⟩) r.ribs.length m2))).trans (Grew.set k2 2 (.slice A3 r.stacks.length c3))).trans (Grew.set k3 3 (.bool r.coll))
  have hF1 := (hW6.grew gr (by decide) (by decide)).base_ hbw
  have HTR : Hid ((turnD r k).ribs = r.ribs.set k { x with turned := !x.turned }) := by show (turnD r k).ribs = _; rw [hT]
  have hF2 := ownsRow_base (ownsRow_grew hX5.1 gr (by decide)) hbw
  have hF3 := below_set4 hB6 (Nat.le_succ w.heap.size) (.slice D1 r.webs.length m1) (.slice (some ⟨g, 0, none⟩) r.ribs.length m2) (.slice A3 r.stacks.length c3) (.bool r.coll)
  have HF1 := Lib.hid hF1
  have HF2 := Lib.hid hF2
  have HF3 := Lib.hid hF3
  clear hcell hset hcs orb ow hT hX5 gr1 hR6 hW6 hB6 k1 k2 k3 gr hF1 hF2 hF3 y4 y5 U5
  go_wp2
  refine bodyPost_ret (v := .tuple #[.agg #[.slice D1 r.webs.length m1, .slice (some ⟨g, 0, none⟩) r.ribs.length m2, .slice A3 r.stacks.length c3, .bool r.coll], .int .i64 0]) (by simp [results, Try.results36, go_sem, t0, t1, t2, t3, ha1]) rfl ⟨_, by rw [HE.out], fun _ => ⟨_, vs, _, rfl, ?_, ?_⟩, fun h => absurd HE.out h, ?_⟩
  · exact (OWebsR.below HF1.out (Below.refl _ _).drew)
  · rw [HTR.out]
    exact (ownsRow_below HF2.out (Below.refl _ _).drew)
  · exact HF3.out.drew
end Go.Proofs.Ytdbfhdncjblleaa
