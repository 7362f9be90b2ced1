/-
  plates: some runs are filled, and right.
-/
import Derived.Test.YtdbfhdncjblleaaZW
namespace Go.Proofs.Ytdbfhdncjblleaa
open Go.RowKit

set_option maxRecDepth 100000 in
set_option maxHeartbeats 4000000 in
theorem plates_any (v pv wv : Value) (r : RunD) (product : List (List Int)) (want : List Int) (w : World) (h : RRun w.heap.size w v r) (hp : RIntss w.heap.size w pv product) (hw : RInts w.heap.size w wv want) (hE : fillE r product = 0) (hpos : 0 < want.length)
    (hF : ∀ r', Filled r product r' → SmallRun r' ∧ (∃ x, r'.webs[0]? = some x ∧ x.plates = want.map fun p => ⟨p, false⟩) ∧ rightV r' product = .tuple #[.bool true, .int .i64 0]) :
    Calls Try.prog 41 #[v, pv, wv] w fun e w' => e = .returned (.bool true) ∧ Below w.heap.size w w' := by
  have hrun := Lib.hid h
  obtain ⟨A1, c1, A2, c2, A3, c3, rfl⟩ := h.shape
  have Hp := Lib.hid hp
  obtain ⟨Aw, cw, rfl, hlw, hAw⟩ := RInts.open_ hw
  have HAw := Lib.hid hAw
  have HE := Lib.hid hE
  have HF := Lib.hid hF
  clear h hp hw hE hF hAw
  have F0 : ∃ W0, w.alloc (.cells #[.slice A1 r.webs.length c1, .slice A2 r.ribs.length c2, .slice A3 r.stacks.length c3, .bool r.coll] 36) = W0 ∧ Below w.heap.size w W0 ∧ Blk W0 w.heap.size 36 #[.slice A1 r.webs.length c1, .slice A2 r.ribs.length c2, .slice A3 r.stacks.length c3, .bool r.coll] :=
    ⟨_, rfl, (Below.refl _ _).alloc (Nat.le_refl _) _, Blk.new _ _ _⟩
  obtain ⟨W0, e0, B0, V0⟩ := F0
  have E0 := Lib.hid e0
  clear e0
  go_enter Try.func41, Try.ntmps41
  go_wp2_with fail
  rw [E0.out]
  refine (Fill_any _ pv r product _ ((hrun.out.below B0).more B0.size) ((Hp.out.below B0).more B0.size)).mono ?_
  rintro e w3 ⟨u, rfl, hu, -, hb3⟩
  rw [HE.out]
  obtain ⟨r', hfil, hor⟩ := hu HE.out
  obtain ⟨hsm, ⟨x, hx, hxp⟩, hrt⟩ := HF.out r' hfil
  have B3 : Below w.heap.size w w3 := B0.trans (hb3.mono B0.size)
  have hrd := hor.reads hsm
  have HRT := Lib.hid hrt
  obtain ⟨u1, vs, u2, u3, rfl, ow, orb, os⟩ := hor
  have hn := (List.getElem?_eq_some_iff.1 hx).1
  obtain ⟨D1, m1, rfl⟩ := ownsRow_form ow.1
  obtain ⟨D2, m2, rfl⟩ := ownsRow_form orb
  obtain ⟨D3, m3, rfl⟩ : ∃ A c, u3 = .slice A r'.stacks.length c := by
    obtain ⟨ws, hws⟩ := os
    exact ownsRow_form hws.1
  obtain ⟨gw, rfl, hg0, hg1⟩ := ownsRow_block ow.1 (by omega)
  obtain ⟨u5, hu5, hop, j0, j1, j2⟩ := ow.at hx
  have hlen : x.plates.length = want.length := by rw [hxp, List.length_map]
  obtain ⟨A5, c5, rfl⟩ := ownsRow_form hop
  obtain ⟨g5, rfl, hg50, hg51⟩ := ownsRow_block hop (by omega)
  rw [hlen] at j2
  simp only [Nat.zero_mul, Nat.zero_add] at j0 j1 j2
  have hpl : ∀ k p, want[k]? = some p → w3.cell? ⟨g5, k * 2, none⟩ = some (.int .i64 p) ∧ w3.cell? ⟨g5, k * 2 + 1, none⟩ = some (.bool false) := fun k p hk => by
    have : x.plates[k]? = some ⟨p, false⟩ := by rw [hxp, List.getElem?_map, hk]; rfl
    exact hop.at this
  have HPL := Lib.hid hpl
  have HRD := Lib.hid hrd
  have hn1 : ((r'.webs.length : Int) == 0) = false := by rw [beq_eq_false_iff_ne]; omega
  have hn2 : (0 : Int) < (r'.webs.length : Int) := by omega
  clear hpl hrd hop hu5 ow orb os hfil hx hxp hrt hsm hb3 V0 hu
  have F4 : ∃ w4, w3.alloc (.cells #[.slice (some ⟨gw, 0, none⟩) r'.webs.length m1, .slice D2 r'.ribs.length m2, .slice D3 r'.stacks.length m3, .bool r'.coll] 36) = w4 ∧ Below w3.heap.size w3 w4 ∧
      Blk w4 w3.heap.size 36 #[.slice (some ⟨gw, 0, none⟩) r'.webs.length m1, .slice D2 r'.ribs.length m2, .slice D3 r'.stacks.length m3, .bool r'.coll] :=
    ⟨_, rfl, (Below.refl _ _).alloc (Nat.le_refl _) _, Blk.new _ _ _⟩
  obtain ⟨w4, e4, hb4, O4⟩ := F4
  have E4 := Lib.hid e4
  have B4 := B3.trans (hb4.mono B3.size)
  have v0 := cellOf O4 0 (x := .slice (some ⟨gw, 0, none⟩) r'.webs.length m1) rfl
  have k2 := (hb4.cell (p := ⟨gw, 2, none⟩) hg1).trans j2
  clear e4
  go_upto_region 2 with fail
  rw [E4.out]
  clear j0 j1 j2
  go_wp2
  clear hn1
  go_loopw [9] (fun i wr => ∃ k : Nat, k ≤ want.length ∧ i = .int .i64 k ∧ Below w4.heap.size w4 wr) (fun i _ => want.length - (intOf i).toNat)
  case atStart => exact ⟨0, Nat.zero_le _, rfl, Below.refl _ _⟩
  case round =>
    obtain ⟨k, hk, rfl, hB⟩ := hrel
    have O5 := O4.below hB O4.lt
    have v0' := cellOf O5 0 (x := .slice (some ⟨gw, 0, none⟩) r'.webs.length m1) rfl
    have nz : w3.heap.size ≤ w4.heap.size := hb4.size
    have k2' := (hB.cell (p := ⟨gw, 2, none⟩) (by show gw < w4.heap.size; omega)).trans k2
    by_cases hlt : k < want.length
    · obtain ⟨g, o, y, rfl, hgb, hc1, hy⟩ := HAw.out k hlt
      have hy2 : want[k]? = some y := by
        have := hy.out
        simpa [List.getD_eq_getElem?_getD, List.getElem?_eq_getElem hlt] using this
      have B5 := B4.trans (hB.mono B4.size)
      have q1 := (B5.cell (p := ⟨g, o + k, none⟩) hgb).trans hc1
      have hb34 := hb4.trans (hB.mono hb4.size)
      have q2 := (hb34.cell (p := ⟨g5, k * 2, none⟩) hg51).trans (HPL.out k y hy2).1
      have q3 := (hb34.cell (p := ⟨g5, k * 2 + 1, none⟩) hg51).trans (HPL.out k y hy2).2
      have i1 : (k : Int) < (want.length : Int) := by omega
      clear v0 k2 hc1 hy hy2 O5 O4 hb34 nz
      go_upto_region 7 with fail
      go_quiet (fail)
      go_wp2
      exact ⟨⟨k + 1, by omega, by go_num, below_drewN hB _⟩, by simp [intOf]; omega⟩
    · have B5 := B4.trans (hB.mono B4.size)
      have hb34 := hb4.trans (hB.mono hb4.size)
      have v1 := cellOf O5 1 (x := .slice D2 r'.ribs.length m2) rfl
      have v2 := cellOf O5 2 (x := .slice D3 r'.stacks.length m3) rfl
      have v3 := cellOf O5 3 (x := .bool r'.coll) rfl
      have C := Lib.hid (Right_any _ pv r' product wr ((HRD.out.below hb34).more hb34.size) ((Hp.out.below B5).more B5.size))
      rw [HRT.out] at C
      clear v0 k2 k2' O5 O4
      go_wp2_with fail
      refine C.out.mono ?_
      rintro e w6 ⟨rfl, hb6⟩
      have B6 := B5.trans (hb6.mono B5.size)
      go_wp2
      go_ret
      exact ⟨rfl, B6⟩
end Go.Proofs.Ytdbfhdncjblleaa
