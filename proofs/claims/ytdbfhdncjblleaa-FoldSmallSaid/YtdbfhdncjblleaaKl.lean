/-
  one: the run of the chapter's first example.
  plates: some runs are filled, and right.
  The examples' runs, as data.
  awake: the examples of the chapter.
-/
import Derived.Test.YtdbfhdncjblleaaKk
namespace Go.Proofs.Ytdbfhdncjblleaa
open Go.RowKit

def OneAt (w' : World) (n : Nat) : Prop :=
  Blk w' n 89 #[.int .i64 0, .bool false, .int .i64 0, .bool false, .int .i64 0, .bool false, .int .i64 0, .bool false] ∧ Blk w' (n + 1) 87 #[.int .i64 2, .int .i64 1, .slice (some ⟨n, 0, none⟩) 4 4] ∧
    Blk w' (n + 2) 91 #[.int .i64 0, .int .i64 0, .int .i64 2, .bool false, .bool false] ∧ Blk w' (n + 3) 3 #[.int .i64 0] ∧ Blk w' (n + 4) 48 #[.slice (some ⟨n + 3, 0, none⟩) 1 1]
def oneV (n : Nat) : Value := .agg #[.slice (some ⟨n + 1, 0, none⟩) 1 1, .slice (some ⟨n + 2, 0, none⟩) 1 1, .slice (some ⟨n + 4, 0, none⟩) 1 1, .bool false]

set_option maxRecDepth 100000 in
set_option maxHeartbeats 1000000 in
theorem makePlates (k : Nat) (hk : k ≤ 100) (u : World) : (Instr.makeSlice 85 (.int .i64 k) (.int .i64 k)).run Try.prog u =
      .ok (.slice (some ⟨u.heap.size, 0, none⟩) k k) (u.alloc (.cells (madeCells #[.int .i64 0, .bool false] (k * 2)) 89)) := by
  obtain ⟨i0, hi, hz0, hz1, hz2⟩ := info_parts infoPlate0
  have h := run_make (P := Try.prog) u 85 89 i0 (.agg #[.int .i64 0, .bool false]) Try.underlying85 hi hz0 .i64 .i64 (k : Int) (k : Int) (by omega) (Int.le_refl _) (by rw [hz2]; omega) (by omega)
  rw [Int.toNat_natCast] at h
  simpa [hz1, Value.cells] using h

theorem blk_new {W : World} {n : Nat} (h : W.heap.size = n) (t : TypeId) (cs : Array Value) : Blk (W.alloc (.cells cs t)) n t cs := h ▸ Blk.new W t cs
theorem make4 (u : World) : (Instr.makeSlice 85 (.int .i64 4) (.int .i64 4)).run Try.prog u = .ok (.slice (some ⟨u.heap.size, 0, none⟩) 4 4) (u.alloc (.cells #[.int .i64 0, .bool false, .int .i64 0, .bool false, .int .i64 0, .bool false, .int .i64 0, .bool false] 89)) := by
  have h := makePlates 4 (by omega) u
  rw [show madeCells #[Value.int .i64 0, .bool false] (4 * 2) = #[.int .i64 0, .bool false, .int .i64 0, .bool false, .int .i64 0, .bool false, .int .i64 0, .bool false] from by kernel_rfl] at h
  exact h
theorem make2 (u : World) : (Instr.makeSlice 85 (.int .i64 2) (.int .i64 2)).run Try.prog u = .ok (.slice (some ⟨u.heap.size, 0, none⟩) 2 2) (u.alloc (.cells #[.int .i64 0, .bool false, .int .i64 0, .bool false] 89)) := by
  have h := makePlates 2 (by omega) u
  rw [show madeCells #[Value.int .i64 0, .bool false] (2 * 2) = #[.int .i64 0, .bool false, .int .i64 0, .bool false] from by kernel_rfl] at h
  exact h
theorem make8 (u : World) : (Instr.makeSlice 85 (.int .i64 8) (.int .i64 8)).run Try.prog u = .ok (.slice (some ⟨u.heap.size, 0, none⟩) 8 8) (u.alloc (.cells #[.int .i64 0, .bool false, .int .i64 0, .bool false, .int .i64 0, .bool false, .int .i64 0, .bool false, .int .i64 0, .bool false, .int .i64 0, .bool false, .int .i64 0, .bool false, .int .i64 0, .bool false] 89)) := by
  have h := makePlates 8 (by omega) u
  rw [show madeCells #[Value.int .i64 0, .bool false] (8 * 2) = #[.int .i64 0, .bool false, .int .i64 0, .bool false, .int .i64 0, .bool false, .int .i64 0, .bool false, .int .i64 0, .bool false, .int .i64 0, .bool false, .int .i64 0, .bool false, .int .i64 0, .bool false] from by kernel_rfl] at h
  exact h

set_option maxRecDepth 100000 in
set_option maxHeartbeats 1000000 in
theorem one_any (w : World) : Calls Try.prog 40 #[] w fun e w' => ∃ n, e = .returned (oneV n) ∧ OneAt w' n ∧ w.heap.size ≤ n ∧ w'.heap.size = n + 5 ∧ Below w.heap.size w w' := by
  have hmk := make4
  go_enter Try.func40, Try.ntmps40
  go_wp2
  refine bodyPost_ret (v := oneV (w.heap.size + 1)) (by simp [results, Try.results40, go_sem, oneV, Nat.add_assoc]) rfl ⟨w.heap.size + 1, rfl, ?_, by omega, ?_, ?_⟩
  · refine ⟨?_, ?_, ?_, ?_, ?_⟩
    · exact ((((blk_new (by simp) _ _).alloc _).alloc _).alloc _).alloc _
    · exact (((blk_new (by simp) _ _).alloc _).alloc _).alloc _
    · exact ((blk_new (by simp) _ _).alloc _).alloc _
    · exact (blk_new (by simp) _ _).alloc _
    · exact blk_new (by simp) _ _
  · simp
  · exact ((((((Below.refl _ _).alloc (Nat.le_refl _) _).alloc (by simp) _).alloc (by simp; omega) _).alloc (by simp; omega) _).alloc (by simp; omega) _).alloc (by simp; omega) _
end Go.Proofs.Ytdbfhdncjblleaa
namespace Go.Proofs.Ytdbfhdncjblleaa
open Go.RowKit

set_option maxRecDepth 100000 in
set_option maxHeartbeats 4000000 in
theorem plates_any (v pv wv : Value) (r : RunD) (product : List (List Int)) (want : List Int) (w : World) (h : RRun w.heap.size w v r) (hp : RIntss w.heap.size w pv product) (hw : RInts w.heap.size w wv want) (hE : fillE r product = 0) (hpos : 0 < want.length)
    (hF : ∀ r', Filled r product r' → SmallRun r' ∧ (∃ x, r'.webs[0]? = some x ∧ x.plates = want.map fun p => ⟨p, false⟩) ∧ rightV r' product = .tuple #[.bool true, .int .i64 0]) :
    Calls Try.prog 41 #[v, pv, wv] w fun e w' => e = .returned (.bool true) ∧ Below w.heap.size w w' := by
  have hrun := Lib.hid h
  obtain ⟨A1, c1, A2, c2, A3, c3, rfl⟩ := h.shape
  have Hp := Lib.hid hp
  obtain ⟨Aw, cw, rfl, hlw, hAw⟩ := RInts.open_ hw
  have HAw := Lib.hid hAw
  have HE := Lib.hid hE
  have HF := Lib.hid hF
  clear h hp hw hE hF hAw
  have F0 : ∃ W0, w.alloc (.cells #[.slice A1 r.webs.length c1, .slice A2 r.ribs.length c2, .slice A3 r.stacks.length c3, .bool r.coll] 36) = W0 ∧ Below w.heap.size w W0 ∧ Blk W0 w.heap.size 36 #[.slice A1 r.webs.length c1, .slice A2 r.ribs.length c2, .slice A3 r.stacks.length c3, .bool r.coll] :=
    ⟨_, rfl, (Below.refl _ _).alloc (Nat.le_refl _) _, Blk.new _ _ _⟩
  obtain ⟨W0, e0, B0, V0⟩ := F0
  have E0 := Lib.hid e0
  clear e0
  go_enter Try.func41, Try.ntmps41
  go_wp2_with fail
  rw [E0.out]
  refine (Fill_any _ pv r product _ ((hrun.out.below B0).more B0.size) ((Hp.out.below B0).more B0.size)).mono ?_
  rintro e w3 ⟨u, rfl, hu, -, hb3⟩
  rw [HE.out]
  obtain ⟨r', hfil, hor⟩ := hu HE.out
  obtain ⟨hsm, ⟨x, hx, hxp⟩, hrt⟩ := HF.out r' hfil
  have B3 : Below w.heap.size w w3 := B0.trans (hb3.mono B0.size)
  have hrd := hor.reads hsm
  have HRT := Lib.hid hrt
  obtain ⟨u1, vs, u2, u3, rfl, ow, orb, os⟩ := hor
  have hn := (List.getElem?_eq_some_iff.1 hx).1
  obtain ⟨D1, m1, rfl⟩ := ownsRow_form ow.1
  obtain ⟨D2, m2, rfl⟩ := ownsRow_form orb
  obtain ⟨D3, m3, rfl⟩ : ∃ A c, u3 = .slice A r'.stacks.length c := by
    obtain ⟨ws, hws⟩ := os
    exact ownsRow_form hws.1
  obtain ⟨gw, rfl, hg0, hg1⟩ := ownsRow_block ow.1 (by omega)
  obtain ⟨u5, hu5, hop, j0, j1, j2⟩ := ow.at hx
  have hlen : x.plates.length = want.length := by rw [hxp, List.length_map]
  obtain ⟨A5, c5, rfl⟩ := ownsRow_form hop
  obtain ⟨g5, rfl, hg50, hg51⟩ := ownsRow_block hop (by omega)
  rw [hlen] at j2
  simp only [Nat.zero_mul, Nat.zero_add] at j0 j1 j2
  have hpl : ∀ k p, want[k]? = some p → w3.cell? ⟨g5, k * 2, none⟩ = some (.int .i64 p) ∧ w3.cell? ⟨g5, k * 2 + 1, none⟩ = some (.bool false) := fun k p hk => by
    have : x.plates[k]? = some ⟨p, false⟩ := by rw [hxp, List.getElem?_map, hk]; rfl
    exact hop.at this
  have HPL := Lib.hid hpl
  have HRD := Lib.hid hrd
  have hn1 : ((r'.webs.length : Int) == 0) = false := by rw [beq_eq_false_iff_ne]; omega
  have hn2 : (0 : Int) < (r'.webs.length : Int) := by omega
  clear hpl hrd hop hu5 ow orb os hfil hx hxp hrt hsm hb3 V0 hu
  have F4 : ∃ w4, w3.alloc (.cells #[.slice (some ⟨gw, 0, none⟩) r'.webs.length m1, .slice D2 r'.ribs.length m2, .slice D3 r'.stacks.length m3, .bool r'.coll] 36) = w4 ∧ Below w3.heap.size w3 w4 ∧
      Blk w4 w3.heap.size 36 #[.slice (some ⟨gw, 0, none⟩) r'.webs.length m1, .slice D2 r'.ribs.length m2, .slice D3 r'.stacks.length m3, .bool r'.coll] :=
    ⟨_, rfl, (Below.refl _ _).alloc (Nat.le_refl _) _, Blk.new _ _ _⟩
  obtain ⟨w4, e4, hb4, O4⟩ := F4
  have E4 := Lib.hid e4
  have B4 := B3.trans (hb4.mono B3.size)
  have v0 := cellOf O4 0 (x := .slice (some ⟨gw, 0, none⟩) r'.webs.length m1) rfl
  have k2 := (hb4.cell (p := ⟨gw, 2, none⟩) hg1).trans j2
  clear e4
  go_upto_region 2 with fail
  rw [E4.out]
  clear j0 j1 j2
  go_wp2
  clear hn1
  go_loopw [9] (fun i wr => ∃ k : Nat, k ≤ want.length ∧ i = .int .i64 k ∧ Below w4.heap.size w4 wr) (fun i _ => want.length - (intOf i).toNat)
  case atStart => exact ⟨0, Nat.zero_le _, rfl, Below.refl _ _⟩
  case round =>
    obtain ⟨k, hk, rfl, hB⟩ := hrel
    have O5 := O4.below hB O4.lt
    have v0' := cellOf O5 0 (x := .slice (some ⟨gw, 0, none⟩) r'.webs.length m1) rfl
    have nz : w3.heap.size ≤ w4.heap.size := hb4.size
    have k2' := (hB.cell (p := ⟨gw, 2, none⟩) (by show gw < w4.heap.size; omega)).trans k2
    by_cases hlt : k < want.length
    · obtain ⟨g, o, y, rfl, hgb, hc1, hy⟩ := HAw.out k hlt
      have hy2 : want[k]? = some y := by
        have := hy.out
        simpa [List.getD_eq_getElem?_getD, List.getElem?_eq_getElem hlt] using this
      have B5 := B4.trans (hB.mono B4.size)
      have q1 := (B5.cell (p := ⟨g, o + k, none⟩) hgb).trans hc1
      have hb34 := hb4.trans (hB.mono hb4.size)
      have q2 := (hb34.cell (p := ⟨g5, k * 2, none⟩) hg51).trans (HPL.out k y hy2).1
      have q3 := (hb34.cell (p := ⟨g5, k * 2 + 1, none⟩) hg51).trans (HPL.out k y hy2).2
      have i1 : (k : Int) < (want.length : Int) := by omega
      clear v0 k2 hc1 hy hy2 O5 O4 hb34 nz
      go_upto_region 7 with fail
      go_quiet (fail)
      go_wp2
      exact ⟨⟨k + 1, by omega, by go_num, below_drewN hB _⟩, by simp [intOf]; omega⟩
    · have B5 := B4.trans (hB.mono B4.size)
      have hb34 := hb4.trans (hB.mono hb4.size)
      have v1 := cellOf O5 1 (x := .slice D2 r'.ribs.length m2) rfl
      have v2 := cellOf O5 2 (x := .slice D3 r'.stacks.length m3) rfl
      have v3 := cellOf O5 3 (x := .bool r'.coll) rfl
      have C := Lib.hid (Right_any _ pv r' product wr ((HRD.out.below hb34).more hb34.size) ((Hp.out.below B5).more B5.size))
      rw [HRT.out] at C
      clear v0 k2 k2' O5 O4
      go_wp2_with fail
      refine C.out.mono ?_
      rintro e w6 ⟨rfl, hb6⟩
      have B6 := B5.trans (hb6.mono B5.size)
      go_wp2
      go_ret
      exact ⟨rfl, B6⟩
end Go.Proofs.Ytdbfhdncjblleaa
namespace Go.Proofs.Ytdbfhdncjblleaa
open Go.RowKit

def pl0 : PlateD := ⟨0, false⟩
def oneD : RunD := ⟨[⟨2, 1, [pl0, pl0, pl0, pl0]⟩], [⟨0, 0, 2, false, false⟩], [[0]], false⟩
def twoD : RunD := ⟨[⟨2, 1, [pl0, pl0, pl0, pl0]⟩, ⟨1, 1, [pl0, pl0]⟩], [⟨0, 0, 2, false, false⟩, ⟨1, 0, 1, false, false⟩], [[0, 1]], false⟩
def colD : RunD := ⟨[⟨2, 2, [pl0, pl0, pl0, pl0, pl0, pl0, pl0, pl0]⟩], [⟨0, 0, 2, false, false⟩], [[0]], true⟩
def fillD (a b c d : Int) (t : Bool) : RunD := ⟨[⟨2, 1, [⟨a, false⟩, ⟨b, false⟩, ⟨c, false⟩, ⟨d, false⟩]⟩], [⟨0, 0, 2, t, false⟩], [[0]], false⟩

theorem one_check : checkE oneD = 0 := by decide +kernel
theorem one_turn : turnE oneD 0 = 0 := by decide +kernel
theorem turn_small : SmallRun (turnD oneD 0) := by
  refine ⟨by decide, by decide, by decide, ?_, ?_⟩
  · show ∀ x ∈ oneD.webs, x.plates.length ≤ 1000
    decide
  · show ∀ s ∈ oneD.stacks, s.length ≤ 1000
    decide
theorem one_fill : fillE oneD [[1, 2, 3, 4]] = 0 := by decide +kernel
theorem turn_fill : fillE (turnD oneD 0) [[1, 2, 3, 4]] = 0 := by decide +kernel
theorem four {α : Type} {l : List α} (h : l.length = 4) : ∃ a b c d, l = [a, b, c, d] := by
  match l, h with
  | [a, b, c, d], _ => exact ⟨a, b, c, d, rfl⟩
theorem shape_one {r r' : RunD} {product : List (List Int)} (hw : r.webs = oneD.webs) (h : Filled r product r') : ∃ a b c d, r' = ⟨[⟨2, 1, [a, b, c, d]⟩], r.ribs, r.stacks, r.coll⟩ := by
  obtain ⟨h1, h2, h3, h4, -⟩ := h
  obtain ⟨ws, rs, ss, cc⟩ := r'
  dsimp only at h1 h2 h3 h4
  subst h1 h2 h3
  rw [hw] at h4
  obtain ⟨h5, h6⟩ := h4
  obtain ⟨x', k1, k2, k3, k4⟩ := h6 0 _ rfl
  obtain ⟨a, b, c, d, e⟩ := four (l := x'.plates) k4
  obtain ⟨xc, xr, xp⟩ := x'
  dsimp only at k2 k3 e
  subst k2 k3 e
  match ws, h5, k1 with
  | [y], _, k1 =>
    simp only [List.getElem?_cons_zero, Option.some.injEq] at k1
    subst k1
    exact ⟨a, b, c, d, rfl⟩
theorem filled_one {r' : RunD} (h : Filled oneD [[1, 2, 3, 4]] r') : r' = fillD 3 2 4 1 false := by
  obtain ⟨a, b, c, d, rfl⟩ := shape_one rfl h
  have hp := h.2.2.2.2
  have e1 := hp (⟨0, 1, 0, 1⟩, ⟨0, 0, 0⟩) (by decide +kernel)
  have e2 := hp (⟨0, 0, 0, 1⟩, ⟨0, 0, 1⟩) (by decide +kernel)
  have e3 := hp (⟨0, 0, 0, 0⟩, ⟨0, 0, 2⟩) (by decide +kernel)
  have e4 := hp (⟨0, 1, 0, 0⟩, ⟨0, 0, 3⟩) (by decide +kernel)
  replace e1 : d = ⟨1, false⟩ := e1
  replace e2 : b = ⟨2, false⟩ := e2
  replace e3 : a = ⟨3, false⟩ := e3
  replace e4 : c = ⟨4, false⟩ := e4
  subst e1 e2 e3 e4
  rfl
theorem filled_turn {r' : RunD} (h : Filled (turnD oneD 0) [[1, 2, 3, 4]] r') : r' = fillD 1 4 2 3 true := by
  obtain ⟨a, b, c, d, rfl⟩ := shape_one (r := turnD oneD 0) rfl h
  have hp := h.2.2.2.2
  have e1 := hp (⟨0, 0, 0, 0⟩, ⟨0, 0, 0⟩) (by decide +kernel)
  have e2 := hp (⟨0, 1, 0, 0⟩, ⟨0, 0, 1⟩) (by decide +kernel)
  have e3 := hp (⟨0, 1, 0, 1⟩, ⟨0, 0, 2⟩) (by decide +kernel)
  have e4 := hp (⟨0, 0, 0, 1⟩, ⟨0, 0, 3⟩) (by decide +kernel)
  replace e1 : a = ⟨1, false⟩ := e1
  replace e2 : c = ⟨2, false⟩ := e2
  replace e3 : d = ⟨3, false⟩ := e3
  replace e4 : b = ⟨4, false⟩ := e4
  subst e1 e2 e3 e4
  rfl
theorem fill_small (a b c d : Int) (t : Bool) : SmallRun (fillD a b c d t) := by
  unfold fillD
  refine ⟨Nat.le_of_ble_eq_true rfl, Nat.le_of_ble_eq_true rfl, Nat.le_of_ble_eq_true rfl, fun x hx => ?_, fun s hs => ?_⟩
  · rw [List.mem_singleton] at hx; subst hx; exact Nat.le_of_ble_eq_true rfl
  · rw [List.mem_singleton] at hs; subst hs; exact Nat.le_of_ble_eq_true rfl
theorem one_right : ∀ r', Filled oneD [[1, 2, 3, 4]] r' → SmallRun r' ∧ (∃ x, r'.webs[0]? = some x ∧ x.plates = [3, 2, 4, 1].map fun p => ⟨p, false⟩) ∧ rightV r' [[1, 2, 3, 4]] = .tuple #[.bool true, .int .i64 0] := fun r' h => by
  rw [filled_one h]
  refine ⟨fill_small _ _ _ _ _, ⟨_, rfl, rfl⟩, ?_⟩
  unfold rightV
  rw [if_neg (by decide +kernel), if_neg (by decide +kernel), if_neg (by decide +kernel), show rightB (fillD 3 2 4 1 false) [[1, 2, 3, 4]] = true by decide +kernel]
theorem turn_right : ∀ r', Filled (turnD oneD 0) [[1, 2, 3, 4]] r' → SmallRun r' ∧ (∃ x, r'.webs[0]? = some x ∧ x.plates = [1, 4, 2, 3].map fun p => ⟨p, false⟩) ∧ rightV r' [[1, 2, 3, 4]] = .tuple #[.bool true, .int .i64 0] := fun r' h => by
  rw [filled_turn h]
  refine ⟨fill_small _ _ _ _ _, ⟨_, rfl, rfl⟩, ?_⟩
  unfold rightV
  rw [if_neg (by decide +kernel), if_neg (by decide +kernel), if_neg (by decide +kernel), show rightB (fillD 1 4 2 3 true) [[1, 2, 3, 4]] = true by decide +kernel]
theorem one_gang : gangedD oneD = [⟨0, 0, 1⟩] := by decide +kernel
theorem two_check : checkE twoD = 0 := by decide +kernel
theorem two_gang : gangedD twoD = [] := by decide +kernel
theorem two_sizes : sizesD twoD = [6] := by decide +kernel
theorem two_where : whereD twoD ⟨0, 0, 2⟩ = (⟨1, 1, 0, 0⟩, 0) := by decide +kernel
theorem col_check : checkE colD = 0 := by decide +kernel
theorem col_sizes : sizesD colD = [4, 4] := by decide +kernel
theorem col_cut : CutRet colD 5 = .tuple #[.int .i64 2, .int .i64 1, .int .i64 0] := by
  unfold CutRet
  rw [if_neg (by decide +kernel), if_neg (by decide), if_pos (by decide)]
  rfl

theorem rd_blk {B : Nat} {W : World} {g k n c : Nat} {t : TypeId} {cs : Array Value} (h : Blk W g t cs) (hg : g < B) (hl : cs.toList.length = n * k) (hm : n ≤ 1000) : Rd B W k (.slice (some ⟨g, 0, none⟩) n c) n cs.toList :=
  ⟨_, _, rfl, hl, by simp only [maxLen]; omega, fun _ => ⟨g, 0, rfl, hg, fun j u hu => by rw [Nat.zero_add, h.cell j]; simpa using hu⟩⟩
theorem one_reads {W : World} {n B : Nat} (h : OneAt W n) (hB : n + 5 ≤ B) : RRun B W (oneV n) oneD := by
  obtain ⟨h1, h2, h3, h4, h5⟩ := h
  refine ⟨_, _, _, rfl, ⟨[.slice (some ⟨n, 0, none⟩) 4 4], rd_blk h2 (by omega) rfl (by omega), rfl, fun i u x hu hx => ?_⟩, rd_blk h3 (by omega) rfl (by omega), ⟨[.slice (some ⟨n + 3, 0, none⟩) 1 1], rd_blk h5 (by omega) rfl (by omega), rfl, fun i u x hu hx => ?_⟩⟩
  · have hi : i = 0 := by have := (List.getElem?_eq_some_iff.1 hu).1; simpa using this
    subst hi
    simp only [List.getElem?_cons_zero, Option.some.injEq] at hu
    subst hu
    replace hx : some (⟨2, 1, [pl0, pl0, pl0, pl0]⟩ : WebD) = some x := hx
    injection hx with hx
    subst hx
    exact rd_blk h1 (by omega) rfl (by omega)
  · have hi : i = 0 := by have := (List.getElem?_eq_some_iff.1 hu).1; simpa using this
    subst hi
    simp only [List.getElem?_cons_zero, Option.some.injEq] at hu
    subst hu
    replace hx : some ([0] : List Int) = some x := hx
    injection hx with hx
    subst hx
    exact rd_blk h4 (by omega) rfl (by omega)
theorem OneAt.below {W W' : World} {n B : Nat} (h : OneAt W n) (hb : Below B W W') (hn : n + 5 ≤ B) : OneAt W' n := by
  obtain ⟨h1, h2, h3, h4, h5⟩ := h
  exact ⟨h1.below hb (by omega), h2.below hb (by omega), h3.below hb (by omega), h4.below hb (by omega), h5.below hb (by omega)⟩
end Go.Proofs.Ytdbfhdncjblleaa
namespace Go.Proofs.Ytdbfhdncjblleaa
open Go.RowKit

theorem lit3 (w : World) (l m : List Int) (hl : l.length ≤ 1000) (hm : m.length ≤ 1000) {X : World} (hX : ((w.alloc (.cells (l.map (Value.int .i64)).toArray 3)).alloc (.cells #[.slice (some ⟨w.heap.size, 0, none⟩) l.length l.length] 48)).alloc (.cells (m.map (Value.int .i64)).toArray 3) = X) :
    RIntss X.heap.size X (.slice (some ⟨w.heap.size + 1, 0, none⟩) 1 1) [l] ∧ RInts X.heap.size X (.slice (some ⟨w.heap.size + 1 + 1, 0, none⟩) m.length m.length) m ∧ Below w.heap.size w X ∧ X.heap.size = w.heap.size + 3 := by
  subst hX
  have z : (((w.alloc (.cells (l.map (Value.int .i64)).toArray 3)).alloc (.cells #[.slice (some ⟨w.heap.size, 0, none⟩) l.length l.length] 48)).alloc (.cells (m.map (Value.int .i64)).toArray 3)).heap.size = w.heap.size + 3 := by simp
  rw [z]
  refine ⟨⟨[.slice (some ⟨w.heap.size, 0, none⟩) l.length l.length], rd_blk (((blk_new (by simp) _ _).alloc _)) (by omega) rfl (by omega), rfl, fun i u x hu hx => ?_⟩, ?_, (((Below.refl _ _).alloc (Nat.le_refl _) _).alloc (by simp) _).alloc (by simp; omega) _, rfl⟩
  · have hi : i = 0 := by have := (List.getElem?_eq_some_iff.1 hu).1; simpa using this
    subst hi
    simp only [List.getElem?_cons_zero, Option.some.injEq] at hu hx
    subst hu hx
    have := rd_blk (B := w.heap.size + 3) (k := 1) (n := l.length) (c := l.length) (((Blk.new w 3 (l.map (Value.int .i64)).toArray).alloc (.cells #[.slice (some ⟨w.heap.size, 0, none⟩) l.length l.length] 48)).alloc (.cells (m.map (Value.int .i64)).toArray 3)) (by omega) (by simp) hl
    unfold RInts
    simpa using this
  · have := rd_blk (B := w.heap.size + 3) (k := 1) (n := m.length) (c := m.length) (blk_new (W := (w.alloc (.cells (l.map (Value.int .i64)).toArray 3)).alloc (.cells #[.slice (some ⟨w.heap.size, 0, none⟩) l.length l.length] 48)) (n := w.heap.size + 1 + 1) (by simp) 3 (m.map (Value.int .i64)).toArray) (by omega) (by simp) hm
    unfold RInts
    simpa using this

theorem one_lit (w : World) : Calls Try.prog 40 #[] w fun e w' => ∃ n, e = .returned (.agg #[.slice (some ⟨n + 1, 0, none⟩) 1 1, .slice (some ⟨n + 2, 0, none⟩) 1 1, .slice (some ⟨n + 4, 0, none⟩) 1 1, .bool false]) ∧ OneAt w' n ∧ w.heap.size ≤ n ∧ w'.heap.size = n + 5 ∧ Below w.heap.size w w' := one_any w
theorem Grew.of_row {e : TypeId} {w Y w1 : World} {base k n : Nat} {v : Value} {xs : List Value} (hr : w.ownsRow base e k v n xs) (hY : Y.heap = w.heap) (hg : Y.grownBy w1 v.ownBlock) : Grew e w w1 := fun g cs t fr hc hne => by
  rw [← hY] at hc ⊢
  refine hg.block g (Array.getElem?_eq_some_iff.1 hc).1 fun e1 => ?_
  rcases hr.2 with ⟨rfl, -⟩ | ⟨g', cap, cur, rfl, hb, hh, -⟩
  · cases e1
  · have : g' = g := by
      have e2 : (some g : Option Nat) = some g' := e1
      injection e2 with e2
      exact e2.symm
    subst this
    rw [hY, hh] at hc
    cases hc
    exact hne rfl
def plate2 : Array Value := #[.int .i64 0, .bool false, .int .i64 0, .bool false]
def plate4 : Array Value := #[.int .i64 0, .bool false, .int .i64 0, .bool false, .int .i64 0, .bool false, .int .i64 0, .bool false]
/-- The run with a second web, behind the first append. -/
def TwoA (w : World) (n : Nat) (wx : World) : Prop :=
  ∃ b g c, Blk wx (n + 5) 36 #[.slice (some ⟨g, 0, none⟩) 2 c, .slice (some ⟨n + 2, 0, none⟩) 1 1, .slice (some ⟨n + 4, 0, none⟩) 1 1, .bool false] ∧ Blk wx n 89 plate4 ∧ Blk wx b 89 plate2 ∧
    wx.ownsRow w.heap.size 87 3 (.slice (some ⟨g, 0, none⟩) 2 c) 2 [.int .i64 2, .int .i64 1, .slice (some ⟨n, 0, none⟩) 4 4, .int .i64 1, .int .i64 1, .slice (some ⟨b, 0, none⟩) 2 2] ∧
    Blk wx (n + 2) 91 #[.int .i64 0, .int .i64 0, .int .i64 2, .bool false, .bool false] ∧ Blk wx (n + 3) 3 #[.int .i64 0] ∧ Blk wx (n + 4) 48 #[.slice (some ⟨n + 3, 0, none⟩) 1 1] ∧ Below w.heap.size w wx
theorem twoA {w X w13 : World} {n b g c : Nat} (hn : w.heap.size ≤ n) (hX : Below w.heap.size w X) (hg : Grew 87 X w13) (hb13 : Below w.heap.size w w13) (R : Blk X (n + 5) 36 #[.slice (some ⟨n + 1, 0, none⟩) 1 1, .slice (some ⟨n + 2, 0, none⟩) 1 1, .slice (some ⟨n + 4, 0, none⟩) 1 1, .bool false])
    (P : Blk X n 89 plate4) (Q : Blk X b 89 plate2) (I : Blk X (n + 2) 91 #[.int .i64 0, .int .i64 0, .int .i64 2, .bool false, .bool false]) (N : Blk X (n + 3) 3 #[.int .i64 0]) (S : Blk X (n + 4) 48 #[.slice (some ⟨n + 3, 0, none⟩) 1 1])
    (O : w13.ownsRow w.heap.size 87 3 (.slice (some ⟨g, 0, none⟩) (1 + 1) c) (1 + 1) ([.int .i64 2, .int .i64 1, .slice (some ⟨n, 0, none⟩) 4 4] ++ [.int .i64 1, .int .i64 1, .slice (some ⟨b, 0, none⟩) 2 2])) :
    TwoA w n (w13.setCell ⟨n + 5, 0, none⟩ (.slice (some ⟨g, 0, none⟩) 2 c)) := by
  have R' := R.grew hg (by decide)
  have G2 := Grew.set R' 0 (.slice (some ⟨g, 0, none⟩) 2 c)
  exact ⟨b, g, c, R'.put 0 _, (P.grew hg (by decide)).grew G2 (by decide), (Q.grew hg (by decide)).grew G2 (by decide), ownsRow_grew O G2 (by decide), (I.grew hg (by decide)).grew G2 (by decide), (N.grew hg (by decide)).grew G2 (by decide), (S.grew hg (by decide)).grew G2 (by decide), hb13.setCell (p := ⟨n + 5, 0, none⟩) (by show w.heap.size ≤ n + 5; omega) _⟩
/-- The same, behind all three appends. -/
def TwoC (w : World) (n : Nat) (wx : World) : Prop :=
  ∃ b g c g2 c2 g3 c3, Blk wx (n + 5) 36 #[.slice (some ⟨g, 0, none⟩) 2 c, .slice (some ⟨g2, 0, none⟩) 2 c2, .slice (some ⟨n + 4, 0, none⟩) 1 1, .bool false] ∧ Blk wx n 89 plate4 ∧ Blk wx b 89 plate2 ∧
    wx.ownsRow w.heap.size 87 3 (.slice (some ⟨g, 0, none⟩) 2 c) 2 [.int .i64 2, .int .i64 1, .slice (some ⟨n, 0, none⟩) 4 4, .int .i64 1, .int .i64 1, .slice (some ⟨b, 0, none⟩) 2 2] ∧
    wx.ownsRow w.heap.size 91 5 (.slice (some ⟨g2, 0, none⟩) 2 c2) 2 [.int .i64 0, .int .i64 0, .int .i64 2, .bool false, .bool false, .int .i64 1, .int .i64 0, .int .i64 1, .bool false, .bool false] ∧
    wx.ownsRow w.heap.size 3 1 (.slice (some ⟨g3, 0, none⟩) 2 c3) 2 [.int .i64 0, .int .i64 1] ∧ Blk wx (n + 4) 48 #[.slice (some ⟨g3, 0, none⟩) 2 c3] ∧ Below w.heap.size w wx
/-- Behind two appends. -/
def TwoB (w : World) (n : Nat) (b g c g2 c2 : Nat) (wx : World) : Prop :=
  Blk wx (n + 5) 36 #[.slice (some ⟨g, 0, none⟩) 2 c, .slice (some ⟨g2, 0, none⟩) 2 c2, .slice (some ⟨n + 4, 0, none⟩) 1 1, .bool false] ∧ Blk wx n 89 plate4 ∧ Blk wx b 89 plate2 ∧
    wx.ownsRow w.heap.size 87 3 (.slice (some ⟨g, 0, none⟩) 2 c) 2 [.int .i64 2, .int .i64 1, .slice (some ⟨n, 0, none⟩) 4 4, .int .i64 1, .int .i64 1, .slice (some ⟨b, 0, none⟩) 2 2] ∧
    wx.ownsRow w.heap.size 91 5 (.slice (some ⟨g2, 0, none⟩) 2 c2) 2 [.int .i64 0, .int .i64 0, .int .i64 2, .bool false, .bool false, .int .i64 1, .int .i64 0, .int .i64 1, .bool false, .bool false] ∧
    Blk wx (n + 3) 3 #[.int .i64 0] ∧ Blk wx (n + 4) 48 #[.slice (some ⟨n + 3, 0, none⟩) 1 1] ∧ Below w.heap.size w wx
theorem twoB {w X w13 : World} {n b g c g2 c2 : Nat} (hn : w.heap.size ≤ n) (hg : Grew 91 X w13) (hb13 : Below w.heap.size w w13)
    (R : Blk X (n + 5) 36 #[.slice (some ⟨g, 0, none⟩) 2 c, .slice (some ⟨n + 2, 0, none⟩) 1 1, .slice (some ⟨n + 4, 0, none⟩) 1 1, .bool false])
    (P : Blk X n 89 plate4) (Q : Blk X b 89 plate2) (N : Blk X (n + 3) 3 #[.int .i64 0]) (S : Blk X (n + 4) 48 #[.slice (some ⟨n + 3, 0, none⟩) 1 1])
    (O : X.ownsRow w.heap.size 87 3 (.slice (some ⟨g, 0, none⟩) 2 c) 2 [.int .i64 2, .int .i64 1, .slice (some ⟨n, 0, none⟩) 4 4, .int .i64 1, .int .i64 1, .slice (some ⟨b, 0, none⟩) 2 2])
    (V : w13.ownsRow w.heap.size 91 5 (.slice (some ⟨g2, 0, none⟩) 2 c2) 2 [.int .i64 0, .int .i64 0, .int .i64 2, .bool false, .bool false, .int .i64 1, .int .i64 0, .int .i64 1, .bool false, .bool false]) :
    TwoB w n b g c g2 c2 (w13.setCell ⟨n + 5, 1, none⟩ (.slice (some ⟨g2, 0, none⟩) 2 c2)) := by
  have R' := R.grew hg (by decide)
  have G2 := Grew.set R' 1 (.slice (some ⟨g2, 0, none⟩) 2 c2)
  exact ⟨R'.put 1 _, (P.grew hg (by decide)).grew G2 (by decide), (Q.grew hg (by decide)).grew G2 (by decide), ownsRow_grew (ownsRow_grew O hg (by decide)) G2 (by decide), ownsRow_grew V G2 (by decide), (N.grew hg (by decide)).grew G2 (by decide), (S.grew hg (by decide)).grew G2 (by decide), hb13.setCell (p := ⟨n + 5, 1, none⟩) (by show w.heap.size ≤ n + 5; omega) _⟩
theorem TwoB.below {w X Y : World} {n b g c g2 c2 : Nat} (h : TwoB w n b g c g2 c2 X) (hb : Below X.heap.size X Y) : TwoB w n b g c g2 c2 Y := by
  obtain ⟨R, P, Q, O, V, N, S, B⟩ := h
  exact ⟨R.below hb R.lt, P.below hb P.lt, Q.below hb Q.lt, ownsRow_below O hb, ownsRow_below V hb, N.below hb N.lt, S.below hb S.lt, B.trans (hb.mono B.size)⟩
theorem twoC {w X w13 : World} {n b g c g2 c2 g3 c3 : Nat} (hn : w.heap.size ≤ n) (h : TwoB w n b g c g2 c2 X) (hg : Grew 3 X w13) (hb13 : Below w.heap.size w w13)
    (V : w13.ownsRow w.heap.size 3 1 (.slice (some ⟨g3, 0, none⟩) (1 + 1) c3) (1 + 1) ([.int .i64 0] ++ [.int .i64 1])) :
    TwoC w n (w13.setCell ⟨n + 4, 0, none⟩ (.slice (some ⟨g3, 0, none⟩) 2 c3)) := by
  obtain ⟨R, P, Q, O, W, N, S, B⟩ := h
  have S' := S.grew hg (by decide)
  have G2 := Grew.set S' 0 (.slice (some ⟨g3, 0, none⟩) 2 c3)
  exact ⟨b, g, c, g2, c2, g3, c3, (R.grew hg (by decide)).grew G2 (by decide), (P.grew hg (by decide)).grew G2 (by decide), (Q.grew hg (by decide)).grew G2 (by decide), ownsRow_grew (ownsRow_grew O hg (by decide)) G2 (by decide), ownsRow_grew (ownsRow_grew W hg (by decide)) G2 (by decide), ownsRow_grew V G2 (by decide), S'.put 0 _, hb13.setCell (p := ⟨n + 4, 0, none⟩) (by show w.heap.size ≤ n + 4; omega) _⟩
theorem two_le : (2 : Nat) ≤ maxLen := by simp only [maxLen]; omega
theorem TwoC.reads {w X : World} {n : Nat} (h : TwoC w n X) : ∃ g c g2 c2, Blk X (n + 5) 36 #[.slice (some ⟨g, 0, none⟩) 2 c, .slice (some ⟨g2, 0, none⟩) 2 c2, .slice (some ⟨n + 4, 0, none⟩) 1 1, .bool false] ∧ Below w.heap.size w X ∧
    RRun X.heap.size X (.agg #[.slice (some ⟨g, 0, none⟩) 2 c, .slice (some ⟨g2, 0, none⟩) 2 c2, .slice (some ⟨n + 4, 0, none⟩) 1 1, .bool false]) twoD := by
  obtain ⟨b, g, c, g2, c2, g3, c3, R, P, Q, O, W, V, S, B⟩ := h
  refine ⟨g, c, g2, c2, R, B, _, _, _, rfl, ⟨[.slice (some ⟨n, 0, none⟩) 4 4, .slice (some ⟨b, 0, none⟩) 2 2], Rd.own O two_le, rfl, fun i u x hu hx => ?_⟩, Rd.own W two_le, ⟨[.slice (some ⟨g3, 0, none⟩) 2 c3], rd_blk S S.lt rfl (by omega), rfl, fun i u x hu hx => ?_⟩⟩
  · have hi : i = 0 ∨ i = 1 := by
      have h1 := (List.getElem?_eq_some_iff.1 hu).1
      have h2 : i < 2 := h1
      omega
    rcases hi with rfl | rfl
    · simp only [List.getElem?_cons_zero, Option.some.injEq] at hu
      subst hu
      replace hx : some (⟨2, 1, [pl0, pl0, pl0, pl0]⟩ : WebD) = some x := hx
      injection hx with hx
      subst hx
      exact rd_blk P P.lt rfl (by omega)
    · simp only [List.getElem?_cons_succ, List.getElem?_cons_zero, Option.some.injEq] at hu
      subst hu
      replace hx : some (⟨1, 1, [pl0, pl0]⟩ : WebD) = some x := hx
      injection hx with hx
      subst hx
      exact rd_blk Q Q.lt rfl (by omega)
  · have hi : i = 0 := by have := (List.getElem?_eq_some_iff.1 hu).1; simpa using this
    subst hi
    simp only [List.getElem?_cons_zero, Option.some.injEq] at hu
    subst hu
    replace hx : some ([0, 1] : List Int) = some x := hx
    injection hx with hx
    subst hx
    exact Rd.own V two_le
def plate8 : Array Value := #[.int .i64 0, .bool false, .int .i64 0, .bool false, .int .i64 0, .bool false, .int .i64 0, .bool false, .int .i64 0, .bool false, .int .i64 0, .bool false, .int .i64 0, .bool false, .int .i64 0, .bool false]
/-- The collected run. -/
def ColSt (w : World) (n m : Nat) (wx : World) : Prop :=
  ∃ b, Blk wx (n + 5) 36 #[.slice (some ⟨m + 1, 0, none⟩) 1 1, .slice (some ⟨m + 2, 0, none⟩) 1 1, .slice (some ⟨m + 4, 0, none⟩) 1 1, .bool true] ∧ Blk wx b 89 plate8 ∧ Blk wx (m + 1) 87 #[.int .i64 2, .int .i64 2, .slice (some ⟨b, 0, none⟩) 8 8] ∧
    Blk wx (m + 2) 91 #[.int .i64 0, .int .i64 0, .int .i64 2, .bool false, .bool false] ∧ Blk wx (m + 3) 3 #[.int .i64 0] ∧ Blk wx (m + 4) 48 #[.slice (some ⟨m + 3, 0, none⟩) 1 1] ∧ Below w.heap.size w wx
theorem ColSt.reads {w X : World} {n m : Nat} (h : ColSt w n m X) : Blk X (n + 5) 36 #[.slice (some ⟨m + 1, 0, none⟩) 1 1, .slice (some ⟨m + 2, 0, none⟩) 1 1, .slice (some ⟨m + 4, 0, none⟩) 1 1, .bool true] ∧ Below w.heap.size w X ∧
    RRun X.heap.size X (.agg #[.slice (some ⟨m + 1, 0, none⟩) 1 1, .slice (some ⟨m + 2, 0, none⟩) 1 1, .slice (some ⟨m + 4, 0, none⟩) 1 1, .bool true]) colD := by
  obtain ⟨b, R, P, W, I, N, S, B⟩ := h
  refine ⟨R, B, _, _, _, rfl, ⟨[.slice (some ⟨b, 0, none⟩) 8 8], rd_blk W W.lt rfl (by omega), rfl, fun i u x hu hx => ?_⟩, rd_blk I I.lt rfl (by omega), ⟨[.slice (some ⟨m + 3, 0, none⟩) 1 1], rd_blk S S.lt rfl (by omega), rfl, fun i u x hu hx => ?_⟩⟩
  · have hi : i = 0 := by have := (List.getElem?_eq_some_iff.1 hu).1; simpa using this
    subst hi
    simp only [List.getElem?_cons_zero, Option.some.injEq] at hu
    subst hu
    replace hx : some (⟨2, 2, [pl0, pl0, pl0, pl0, pl0, pl0, pl0, pl0]⟩ : WebD) = some x := hx
    injection hx with hx
    subst hx
    exact rd_blk P P.lt rfl (by omega)
  · have hi : i = 0 := by have := (List.getElem?_eq_some_iff.1 hu).1; simpa using this
    subst hi
    simp only [List.getElem?_cons_zero, Option.some.injEq] at hu
    subst hu
    replace hx : some ([0] : List Int) = some x := hx
    injection hx with hx
    subst hx
    exact rd_blk N N.lt rfl (by omega)
theorem colSt {w X : World} {n m : Nat} (x0 : n + 5 < m) (hn : w.heap.size ≤ n) (hm : w.heap.size ≤ m) (R : Blk X (n + 5) 36 #[.slice (some ⟨m + 1, 0, none⟩) 1 1, .slice (some ⟨m + 2, 0, none⟩) 1 1, .slice (some ⟨m + 4, 0, none⟩) 1 1, .bool false])
    (W : Blk X (m + 1) 87 #[.int .i64 2, .int .i64 1, .slice (some ⟨m, 0, none⟩) 4 4]) (I : Blk X (m + 2) 91 #[.int .i64 0, .int .i64 0, .int .i64 2, .bool false, .bool false]) (N : Blk X (m + 3) 3 #[.int .i64 0]) (S : Blk X (m + 4) 48 #[.slice (some ⟨m + 3, 0, none⟩) 1 1]) (B : Below w.heap.size w X) :
    ColSt w n m ((((X.setCell ⟨m + 1, 1, none⟩ (.int .i64 2)).setCell ⟨m + 1, 2, none⟩ (.slice (some ⟨X.heap.size, 0, none⟩) 8 8)).setCell ⟨n + 5, 3, none⟩ (.bool true)).alloc (.cells plate8 89)).drew := by
  have hf : ∀ b t cs, Blk X b t cs → b ≠ m + 1 → b ≠ n + 5 → Blk ((((X.setCell ⟨m + 1, 1, none⟩ (.int .i64 2)).setCell ⟨m + 1, 2, none⟩ (.slice (some ⟨X.heap.size, 0, none⟩) 8 8)).setCell ⟨n + 5, 3, none⟩ (.bool true)).alloc (.cells plate8 89)) b t cs := fun b t cs h h1 h2 =>
    (((h.far (p := ⟨m + 1, 1, none⟩) h1 _).far (p := ⟨m + 1, 2, none⟩) h1 _).far (p := ⟨n + 5, 3, none⟩) h2 _).alloc _
  have ne : n + 5 ≠ m + 1 := by omega
  have B' := (((B.setCell (p := ⟨m + 1, 1, none⟩) (by show w.heap.size ≤ m + 1; omega) (.int .i64 2)).setCell (p := ⟨m + 1, 2, none⟩) (by show w.heap.size ≤ m + 1; omega) (.slice (some ⟨X.heap.size, 0, none⟩) 8 8)).setCell (p := ⟨n + 5, 3, none⟩) (by show w.heap.size ≤ n + 5; omega) (.bool true))
  have R' := (((R.far (p := ⟨m + 1, 1, none⟩) ne (.int .i64 2)).far (p := ⟨m + 1, 2, none⟩) ne (.slice (some ⟨X.heap.size, 0, none⟩) 8 8)).put 3 (.bool true)).alloc (.cells plate8 89)
  have W' := (((W.put 1 (.int .i64 2)).put 2 (.slice (some ⟨X.heap.size, 0, none⟩) 8 8)).far (p := ⟨n + 5, 3, none⟩) (fun e => ne e.symm) (.bool true)).alloc (.cells plate8 89)
  exact ⟨X.heap.size, R', blk_new (by simp) _ _, W', hf _ _ _ I (by omega) (by omega), hf _ _ _ N (by omega) (by omega), hf _ _ _ S (by omega) (by omega), (B'.alloc B'.size _).drew⟩
theorem own_blk {W : World} {g base k n : Nat} {t : TypeId} {cs : Array Value} (h : Blk W g t cs) (hb : base ≤ g) (hs : cs.size = n * k) (hn : n ≤ 1000) : W.ownsRow base t k (.slice (some ⟨g, 0, none⟩) n n) n cs.toList :=
  ⟨by simpa using hs, .inr ⟨g, n, cs, rfl, hb, h, Nat.le_refl _, by simp only [maxLen]; omega, hs, by rw [List.take_of_length_le (by simp; omega)]⟩⟩

set_option maxRecDepth 100000 in
set_option maxHeartbeats 4000000 in
theorem awake_any (w : World) : Calls Try.prog 11 #[] w fun e w' => e = .returned (.bool true) ∧ Below w.heap.size w w' := by
  have hm2 := make2
  have hm8 := make8
  go_enter Try.func11, Try.ntmps11
  go_wp2_with fail
  refine (one_any _).mono ?_
  rintro e w1 ⟨n1, rfl, h1, hn1, hz1, hb1⟩
  go_wp2_with fail
  refine (Turn_any _ oneD 0 w1 (one_reads h1 (by omega))).mono ?_
  rintro e w2 ⟨u, rfl, hu, -, hb2⟩
  rw [one_turn]
  have hor := hu one_turn
  have htr := hor.reads turn_small
  obtain ⟨T1, d1, T2, d2, T3, d3, rfl⟩ := htr.shape
  have B2 : Below w.heap.size w w2 := hb1.trans (hb2.mono hb1.size)
  clear hu hor
  have F3 : ∃ w3, w2.alloc (.cells #[.slice T1 (turnD oneD 0).webs.length d1, .slice T2 (turnD oneD 0).ribs.length d2, .slice T3 (turnD oneD 0).stacks.length d3, .bool (turnD oneD 0).coll] 36) = w3 ∧ Below w2.heap.size w2 w3 ∧ Blk w3 w2.heap.size 36 #[.slice T1 (turnD oneD 0).webs.length d1, .slice T2 (turnD oneD 0).ribs.length d2, .slice T3 (turnD oneD 0).stacks.length d3, .bool (turnD oneD 0).coll] :=
    ⟨_, rfl, (Below.refl _ _).alloc (Nat.le_refl _) _, Blk.new _ _ _⟩
  obtain ⟨w3, e3, hb3, T3b⟩ := F3
  have E3 := Lib.hid e3
  have B3 := B2.trans (hb3.mono B2.size)
  clear e3
  go_wp2_with fail
  rw [E3.out]
  refine (one_any _).mono ?_
  rintro e w4 ⟨n4, rfl, h4, hn4, hz4, hb4⟩
  have T4 := T3b.below hb4 T3b.lt
  have B4 := B3.trans (hb4.mono B3.size)
  have b24 := hb3.trans (hb4.mono hb3.size)
  have htr4 := (htr.below b24).more b24.size
  clear htr hb3 hb4 T3b b24
  obtain ⟨w5, e5⟩ : ∃ X, ((w4.alloc (.cells #[.int .i64 1, .int .i64 2, .int .i64 3, .int .i64 4] 3)).alloc (.cells #[.slice (some ⟨w4.heap.size, 0, none⟩) 4 4] 48)).alloc (.cells #[.int .i64 3, .int .i64 2, .int .i64 4, .int .i64 1] 3) = X := ⟨_, rfl⟩
  obtain ⟨lp, lw, hb5, z5⟩ := lit3 w4 [1, 2, 3, 4] [3, 2, 4, 1] (by decide) (by decide) e5
  have E5 := Lib.hid e5
  have T5 := T4.below hb5 T4.lt
  have B5 := B4.trans (hb5.mono B4.size)
  have htr5 := (htr4.below hb5).more hb5.size
  have ho5 := one_reads (h4.below hb5 (by omega)) (B := w5.heap.size) (by omega)
  have C := Lib.hid (plates_any _ _ _ oneD [[1, 2, 3, 4]] [3, 2, 4, 1] w5 ho5 lp lw one_fill (by decide) one_right)
  clear e5 T4 B4 htr4 hb5 ho5 h4 lp lw hn4 hz4
  go_wp2_with fail
  rw [E5.out]
  refine C.out.mono ?_
  rintro e w6 ⟨rfl, hb6⟩
  have T6 := T5.below hb6 T5.lt
  have B6 := B5.trans (hb6.mono B5.size)
  have htr6 := (htr5.below hb6).more hb6.size
  clear C T5 B5 htr5 hb6
  have v0 := cellOf T6 0 (x := .slice T1 (turnD oneD 0).webs.length d1) rfl
  have v1 := cellOf T6 1 (x := .slice T2 (turnD oneD 0).ribs.length d2) rfl
  have v2 := cellOf T6 2 (x := .slice T3 (turnD oneD 0).stacks.length d3) rfl
  have v3 := cellOf T6 3 (x := .bool (turnD oneD 0).coll) rfl
  obtain ⟨w7, e7⟩ : ∃ X, ((w6.alloc (.cells #[.int .i64 1, .int .i64 2, .int .i64 3, .int .i64 4] 3)).alloc (.cells #[.slice (some ⟨w6.heap.size, 0, none⟩) 4 4] 48)).alloc (.cells #[.int .i64 1, .int .i64 4, .int .i64 2, .int .i64 3] 3) = X := ⟨_, rfl⟩
  obtain ⟨lp, lw, hb7, z7⟩ := lit3 w6 [1, 2, 3, 4] [1, 4, 2, 3] (by decide) (by decide) e7
  have E7 := Lib.hid e7
  have B7 := B6.trans (hb7.mono B6.size)
  have htr7 := (htr6.below hb7).more hb7.size
  have C := Lib.hid (plates_any _ _ _ (turnD oneD 0) [[1, 2, 3, 4]] [1, 4, 2, 3] w7 htr7 lp lw turn_fill (by decide) turn_right)
  clear e7 T6 B6 htr6 hb7 htr7 lp lw
  go_wp2_with fail
  rw [E7.out]
  refine C.out.mono ?_
  rintro e w8 ⟨rfl, hb8⟩
  have B8 := B7.trans (hb8.mono B7.size)
  clear C B7 hb8 v0 v1 v2 v3
  go_wp2_with fail
  refine (one_any _).mono ?_
  rintro e w9 ⟨n9, rfl, h9, hn9, hz9, hb9⟩
  have B9 := B8.trans (hb9.mono B8.size)
  have C := Lib.hid (Ganged_any _ oneD w9 (one_reads h9 (by omega)))
  clear hb9 h9 hn9 B8 hz9
  go_wp2_with fail
  refine C.out.mono ?_
  rintro e w10 ⟨u, rfl, hu, -, hb10⟩
  rw [one_check]
  have B10 := B9.trans (hb10.mono B9.size)
  have hu := hu one_check
  rw [one_gang] at hu
  obtain ⟨A, c, rfl⟩ := ownsRow_form hu
  obtain ⟨g, rfl, -, -⟩ := ownsRow_block hu (by decide)
  have c0 := hu.cells (g := g) rfl 0 (.int .i64 0) rfl
  have c1 := hu.cells (g := g) rfl 1 (.int .i64 0) rfl
  have c2 := hu.cells (g := g) rfl 2 (.int .i64 1) rfl
  rw [add0] at c0 c1 c2
  clear C B9 hb10 hu
  go_upto_region 7 with fail
  clear c0 c1 c2 h1 hn1 hz1 hb1 hb2 B2 E3 B3 z5 E5 z7 E7
  go_wp2_with fail
  refine (one_lit _).mono ?_
  rintro e w11 ⟨n, rfl, h11, hn11, hz11, hb11⟩
  have B11 := B10.trans (hb11.mono B10.size)
  have hbn : w.heap.size ≤ n := Nat.le_trans B10.size hn11
  clear hn11 hb11 B10
  have F12 : ∃ w12, w11.alloc (.cells #[.slice (some ⟨n + 1, 0, none⟩) 1 1, .slice (some ⟨n + 2, 0, none⟩) 1 1, .slice (some ⟨n + 4, 0, none⟩) 1 1, .bool false] 36) = w12 ∧ Below w11.heap.size w11 w12 ∧ w12.heap.size = n + 6 ∧ Blk w12 w11.heap.size 36 #[.slice (some ⟨n + 1, 0, none⟩) 1 1, .slice (some ⟨n + 2, 0, none⟩) 1 1, .slice (some ⟨n + 4, 0, none⟩) 1 1, .bool false] :=
    ⟨_, rfl, (Below.refl _ _).alloc (Nat.le_refl _) _, by simp [hz11], Blk.new _ _ _⟩
  obtain ⟨w12, e12, hb12, z12, R12⟩ := F12
  have E12 := Lib.hid e12
  have B12 := B11.trans (hb12.mono B11.size)
  obtain ⟨P12, W12, I12, N12, S12⟩ := h11.below hb12 (by omega)
  generalize eB : w11.heap.size = B at *
  obtain rfl : B = n + 5 := by omega
  clear e12 hb12 h11 B11 hz11
  obtain ⟨iw, hiw, hw0, hw1, hw2⟩ := info_parts infoWeb0
  have ow := own_blk (k := 3) (n := 1) (base := w.heap.size) W12 (by omega) rfl (by omega)
  have r0 := cellOf R12 0 (x := .slice (some ⟨n + 1, 0, none⟩) 1 1) rfl
  have rf0 := R12.frozen 0
  have Z12 := Lib.hid z12
  clear z12
  have hbz : w.heap.size ≤ w12.heap.size := B12.size
  have hnews := World.news_of_block (blk_new (W := w12.alloc (.cells #[.int .i64 0, .bool false, .int .i64 0, .bool false] 89)) (n := w12.heap.size + 1) (by simp) 87 #[.int .i64 1, .int .i64 1, .slice (some ⟨w12.heap.size, 0, none⟩) 2 2])
  have hafter : ∀ (w13 Y : World), Y.heap = ((w12.alloc (.cells #[.int .i64 0, .bool false, .int .i64 0, .bool false] 89)).alloc (.cells #[.int .i64 1, .int .i64 1, .slice (some ⟨w12.heap.size, 0, none⟩) 2 2] 87)).heap → Y.grownBy w13 (Value.slice (some ⟨n + 1, 0, none⟩) 1 1).ownBlock →
      Grew 87 ((w12.alloc (.cells #[.int .i64 0, .bool false, .int .i64 0, .bool false] 89)).alloc (.cells #[.int .i64 1, .int .i64 1, .slice (some ⟨w12.heap.size, 0, none⟩) 2 2] 87)) w13 := fun w13 Y hY hg => Grew.of_row ((ow.alloc _).alloc _) hY hg
  have hrun : ∀ w13, Grew 87 ((w12.alloc (.cells #[.int .i64 0, .bool false, .int .i64 0, .bool false] 89)).alloc (.cells #[.int .i64 1, .int .i64 1, .slice (some ⟨w12.heap.size, 0, none⟩) 2 2] 87)) w13 → Blk w13 (n + 5) 36 #[.slice (some ⟨n + 1, 0, none⟩) 1 1, .slice (some ⟨n + 2, 0, none⟩) 1 1, .slice (some ⟨n + 4, 0, none⟩) 1 1, .bool false] :=
    fun w13 hg => ((R12.alloc _).alloc _).grew hg (by decide)
  have q1 := cellOf (R12.alloc (.cells #[.int .i64 0, .bool false, .int .i64 0, .bool false] 89)) 0 (x := .slice (some ⟨n + 1, 0, none⟩) 1 1) rfl
  have q2 := cellOf ((R12.alloc (.cells #[.int .i64 0, .bool false, .int .i64 0, .bool false] 89)).alloc (.cells #[.int .i64 1, .int .i64 1, .slice (some ⟨w12.heap.size, 0, none⟩) 2 2] 87)) 0 (x := .slice (some ⟨n + 1, 0, none⟩) 1 1) rfl
  have hx : Below w.heap.size w ((w12.alloc (.cells #[.int .i64 0, .bool false, .int .i64 0, .bool false] 89)).alloc (.cells #[.int .i64 1, .int .i64 1, .slice (some ⟨w12.heap.size, 0, none⟩) 2 2] 87)) := (B12.alloc hbz _).alloc (by simp; omega) _
  have hxs : w.heap.size ≤ ((w12.alloc (.cells #[.int .i64 0, .bool false, .int .i64 0, .bool false] 89)).alloc (.cells #[.int .i64 1, .int .i64 1, .slice (some ⟨w12.heap.size, 0, none⟩) 2 2] 87)).heap.size := hx.size
  have hgg : ∀ w13, ((w12.alloc (.cells #[.int .i64 0, .bool false, .int .i64 0, .bool false] 89)).alloc (.cells #[.int .i64 1, .int .i64 1, .slice (some ⟨w12.heap.size, 0, none⟩) 2 2] 87)).grownBy w13 (Value.slice (some ⟨n + 1, 0, none⟩) 1 1).ownBlock → Below w.heap.size w w13 := fun w13 hg => hx.grown hg hxs fun j hj => by cases hj; exact Nat.le_succ_of_le hbn
  have hgd : ∀ w13, ((w12.alloc (.cells #[.int .i64 0, .bool false, .int .i64 0, .bool false] 89)).alloc (.cells #[.int .i64 1, .int .i64 1, .slice (some ⟨w12.heap.size, 0, none⟩) 2 2] 87)).drew.grownBy w13 (Value.slice (some ⟨n + 1, 0, none⟩) 1 1).ownBlock → Below w.heap.size w w13 := fun w13 hg => hx.drew.grown hg hxs fun j hj => by cases hj; exact Nat.le_succ_of_le hbn
  have HX := Lib.hid hx
  have HG := Lib.hid hgg
  have HGd := Lib.hid hgd
  have HRb := Lib.hid ((R12.alloc (.cells #[.int .i64 0, .bool false, .int .i64 0, .bool false] 89)).alloc (.cells #[.int .i64 1, .int .i64 1, .slice (some ⟨w12.heap.size, 0, none⟩) 2 2] 87))
  have HPb := Lib.hid ((P12.alloc (.cells #[.int .i64 0, .bool false, .int .i64 0, .bool false] 89)).alloc (.cells #[.int .i64 1, .int .i64 1, .slice (some ⟨w12.heap.size, 0, none⟩) 2 2] 87))
  have HQb := Lib.hid ((Blk.new w12 89 #[.int .i64 0, .bool false, .int .i64 0, .bool false]).alloc (.cells #[.int .i64 1, .int .i64 1, .slice (some ⟨w12.heap.size, 0, none⟩) 2 2] 87))
  have HIb := Lib.hid ((I12.alloc (.cells #[.int .i64 0, .bool false, .int .i64 0, .bool false] 89)).alloc (.cells #[.int .i64 1, .int .i64 1, .slice (some ⟨w12.heap.size, 0, none⟩) 2 2] 87))
  have HNb := Lib.hid ((N12.alloc (.cells #[.int .i64 0, .bool false, .int .i64 0, .bool false] 89)).alloc (.cells #[.int .i64 1, .int .i64 1, .slice (some ⟨w12.heap.size, 0, none⟩) 2 2] 87))
  have HSb := Lib.hid ((S12.alloc (.cells #[.int .i64 0, .bool false, .int .i64 0, .bool false] 89)).alloc (.cells #[.int .i64 1, .int .i64 1, .slice (some ⟨w12.heap.size, 0, none⟩) 2 2] 87))
  clear hx hgg hgd hxs
  have HA := Lib.hid hafter
  have HB := Lib.hid hrun
  clear hafter hrun
  go_upto_region 8 with fail
  rw [E12.out]
  go_cut [55] (fun _ wx => TwoA w n wx)
  case first =>
   go_region_law (first | (refine step_append_lies _ (by rfl) _ _ _ (by rfl) w.heap.size 87 iw _ 3 40 Try.underlying33 hiw hw0 hw1 hw2 rfl (by decide) (.slice (some ⟨n + 1, 0, none⟩) 1 1) 1 _ (by rfl) (by first | exact (ow.alloc _).alloc _ | exact ((ow.alloc _).alloc _).drew) ⟨w12.heap.size + 1, 0, none⟩ 1 1 [.int .i64 1, .int .i64 1, .slice (some ⟨w12.heap.size, 0, none⟩) 2 2] (by rfl) (by rfl) hnews (by simp [Value.oneCell']) (by omega) (by simp only [maxLen]; omega) (by omega) (by simp; omega) (w12.heap.size + 2) (by simp) ?_; intro g9 c9 w13 hown' hgrow hat hlt9; have Gw := HA.out w13 _ (by rfl) hgrow; have R13 := HB.out w13 Gw; have p1 := cellOf R13 0 (x := .slice (some ⟨n + 1, 0, none⟩) 1 1) rfl; have p2 := R13.frozen 0))
   all_goals (go_wp2_with fail; go_meet; exact twoA hbn HX.out Gw (by first | exact HG.out _ hgrow | exact HGd.out _ hgrow) HRb.out HPb.out HQb.out HIb.out HNb.out HSb.out hown')
  case rest =>
  clear HX HG HGd HRb HPb HQb HIb HNb HSb HA HB ow r0 rf0 q1 q2 hnews hbz P12 W12 I12 N12 S12 R12 B12 Z12 E12 hiw hw0 hw1 hw2
  obtain ⟨b, g9, c9, R, P, Q, O, I, N, S, BX⟩ := hcut
  obtain ⟨ir, hir, hr0, hr1, hr2⟩ := info_parts infoRib
  have orb := own_blk (k := 5) (n := 1) (base := w.heap.size) I (by omega) rfl (by omega)
  have r1 := cellOf R 1 (x := .slice (some ⟨n + 2, 0, none⟩) 1 1) rfl
  have rl := R.lt
  have bxs := BX.size
  have hafter : ∀ w14 : World, (wc.alloc (.cells #[.int .i64 1, .int .i64 0, .int .i64 1, .bool false, .bool false] 91)).grownBy w14 (Value.slice (some ⟨n + 2, 0, none⟩) 1 1).ownBlock → Grew 91 wc w14 := fun w14 hg => Grew.of_append orb hg
  have hrun : ∀ w14 : World, Grew 91 wc w14 → Blk w14 (n + 5) 36 #[.slice (some ⟨g9, 0, none⟩) 2 c9, .slice (some ⟨n + 2, 0, none⟩) 1 1, .slice (some ⟨n + 4, 0, none⟩) 1 1, .bool false] := fun w14 hg => R.grew hg (by decide)
  have HA14 := Lib.hid hafter
  have HR14 := Lib.hid hrun
  clear hafter hrun
  go_wp2_with (at_builtin; refine wpList_append_own _ rfl _ _ 34 rfl w.heap.size 91 ir _ 5 32 Try.underlying34 hir hr0 hr1 hr2 rfl (by decide) (.slice (some ⟨n + 2, 0, none⟩) 1 1) 1 _ rfl (orb.alloc _) ⟨wc.heap.size, 0, none⟩ 1 1 [.int .i64 1, .int .i64 0, .int .i64 1, .bool false, .bool false] rfl rfl (cells_new _ _ _) (by simp [Value.oneCell']) (by simp only [maxLen]; omega) (by omega) (by simp; omega) ?_; intro v' w14 hown' hgrow _; obtain ⟨A14, c14, rfl⟩ := ownsRow_form hown'; obtain ⟨g14, rfl, -, -⟩ := ownsRow_block hown' (by omega); have Gw14 := HA14.out w14 hgrow; have R14 := HR14.out w14 Gw14; have p1 := cellOf R14 1 (x := .slice (some ⟨n + 2, 0, none⟩) 1 1) rfl; have p2 := R14.frozen 1)
  have BX14 : Below w.heap.size w w14 := (BX.alloc BX.size _).grown hgrow (by simp; omega) fun j hj => by cases hj; exact Nat.le_trans hbn (Nat.le_add_right _ _)
  have hB := twoB hbn Gw14 BX14 R P Q N S O hown'
  generalize (w14.setCell ⟨n + 5, 1, none⟩ (.slice (some ⟨g14, 0, none⟩) 2 c14)) = w15 at hB ⊢
  clear R P Q N S O I orb r1 rl bxs hgrow hown' Gw14 R14 p1 p2 BX14 BX HA14 HR14 hir hr0 hr1 hr2
  obtain ⟨R15, -, -, -, -, N15, S15, B15⟩ := hB.below (Below.refl _ _)
  obtain ⟨ii, hii, hi0, hi1, hi2⟩ := info_parts infoInt
  have ow := own_blk (k := 1) (n := 1) (base := w.heap.size) N15 (by omega) rfl (by omega)
  have z15 := B15.size
  have r2 := cellOf R15 2 (x := .slice (some ⟨n + 4, 0, none⟩) 1 1) rfl
  have s0 := cellOf S15 0 (x := .slice (some ⟨n + 3, 0, none⟩) 1 1) rfl
  have q2 := cellOf (R15.alloc (.cells #[.int .i64 1] 3)) 2 (x := .slice (some ⟨n + 4, 0, none⟩) 1 1) rfl
  have q0 := cellOf (S15.alloc (.cells #[.int .i64 1] 3)) 0 (x := .slice (some ⟨n + 3, 0, none⟩) 1 1) rfl
  have hafter : ∀ (w16 Y : World), Y.heap = (w15.alloc (.cells #[.int .i64 1] 3)).heap → Y.grownBy w16 (Value.slice (some ⟨n + 3, 0, none⟩) 1 1).ownBlock → Grew 3 (w15.alloc (.cells #[.int .i64 1] 3)) w16 := fun w16 Y hY hg => Grew.of_row (ow.alloc _) hY hg
  have hrun : ∀ w16, Grew 3 (w15.alloc (.cells #[.int .i64 1] 3)) w16 → w16.cell? ⟨n + 5, 2, none⟩ = some (.slice (some ⟨n + 4, 0, none⟩) 1 1) ∧ w16.cell? ⟨n + 4, 0, none⟩ = some (.slice (some ⟨n + 3, 0, none⟩) 1 1) ∧ w16.frozen? ⟨n + 4, 0, none⟩ = false := fun w16 hg => by
    have k1 := (R15.alloc (.cells #[.int .i64 1] 3)).grew hg (by decide)
    have k2 := (S15.alloc (.cells #[.int .i64 1] 3)).grew hg (by decide)
    exact ⟨cellOf k1 2 rfl, cellOf k2 0 rfl, k2.frozen 0⟩
  have hx : Below w.heap.size w (w15.alloc (.cells #[.int .i64 1] 3)) := B15.alloc z15 _
  have hxs := hx.size
  have hgg : ∀ w16, (w15.alloc (.cells #[.int .i64 1] 3)).grownBy w16 (Value.slice (some ⟨n + 3, 0, none⟩) 1 1).ownBlock → Below w.heap.size w w16 := fun w16 hg => hx.grown hg hxs fun j hj => by cases hj; exact Nat.le_trans hbn (Nat.le_add_right _ _)
  have hgd : ∀ w16, (w15.alloc (.cells #[.int .i64 1] 3)).drew.grownBy w16 (Value.slice (some ⟨n + 3, 0, none⟩) 1 1).ownBlock → Below w.heap.size w w16 := fun w16 hg => hx.drew.grown hg hxs fun j hj => by cases hj; exact Nat.le_trans hbn (Nat.le_add_right _ _)
  have hst := hB.below ((Below.refl w15.heap.size w15).alloc (Nat.le_refl _) (.cells #[.int .i64 1] 3))
  have hnews := World.news_of_block (blk_new (W := w15) (n := w15.heap.size) rfl 3 #[.int .i64 1])
  have HA := Lib.hid hafter
  have HR := Lib.hid hrun
  have HG := Lib.hid hgg
  have HGd := Lib.hid hgd
  have HSt := Lib.hid hst
  clear hafter hrun hx hxs hgg hgd hst hB R15 N15 S15 B15
  go_cut [68] (fun _ wx => TwoC w n wx)
  case first =>
    go_region_law (first | (refine step_append_lies _ (by rfl) _ _ _ (by rfl) w.heap.size 3 ii (.int .i64 0) 1 8 Try.underlying48 hii hi0 hi1 hi2 rfl (by decide) (.slice (some ⟨n + 3, 0, none⟩) 1 1) 1 _ (by rfl) (by first | exact ow.alloc _ | exact (ow.alloc _).drew) ⟨w15.heap.size, 0, none⟩ 1 1 [.int .i64 1] (by rfl) (by rfl) hnews (by simp [Value.oneCell']) (by omega) (by simp only [maxLen]; omega) (by omega) (by simp; omega) (w15.heap.size + 1) (by simp) ?_; intro g16 c16 w16 hown' hgrow hat hlt16; have Gw := HA.out w16 _ (by rfl) hgrow; have p0 := (HR.out w16 Gw).1; have p1 := (HR.out w16 Gw).2.1; have p2 := (HR.out w16 Gw).2.2))
    all_goals (go_wp2_with fail; go_meet; exact twoC hbn HSt.out Gw (by first | exact HG.out _ hgrow | exact HGd.out _ hgrow) hown')
  case rest =>
  clear ow r2 s0 q2 q0 hnews HA HR HG HGd HSt hii hi0 hi1 hi2 z15
  obtain ⟨gA, cA, gB, cB, R, B, hrd⟩ := hcut.reads
  clear hcut
  have v0 := cellOf R 0 (x := .slice (some ⟨gA, 0, none⟩) 2 cA) rfl
  have v1 := cellOf R 1 (x := .slice (some ⟨gB, 0, none⟩) 2 cB) rfl
  have v2 := cellOf R 2 (x := .slice (some ⟨n + 4, 0, none⟩) 1 1) rfl
  have v3 := cellOf R 3 (x := .bool false) rfl
  have C := Lib.hid (Ganged_any _ twoD wc hrd)
  go_wp2_with fail
  refine C.out.mono ?_
  rintro e w17 ⟨u, rfl, hu, -, hb17⟩
  rw [two_check]
  replace hu := hu two_check
  rw [two_gang] at hu
  obtain ⟨A17, c17, rfl⟩ := ownsRow_form hu
  have R17 := R.below hb17 R.lt
  have B17 := B.trans (hb17.mono B.size)
  have hrd17 := (hrd.below hb17).more hb17.size
  clear v0 v1 v2 v3 C hu R B hrd hb17
  have v0 := cellOf R17 0 (x := .slice (some ⟨gA, 0, none⟩) 2 cA) rfl
  have v1 := cellOf R17 1 (x := .slice (some ⟨gB, 0, none⟩) 2 cB) rfl
  have v2 := cellOf R17 2 (x := .slice (some ⟨n + 4, 0, none⟩) 1 1) rfl
  have v3 := cellOf R17 3 (x := .bool false) rfl
  have C := Lib.hid (Sizes_any _ twoD w17 hrd17)
  go_wp2_with fail
  refine C.out.mono ?_
  rintro e w18 ⟨u18, rfl, hu, -, hb18⟩
  rw [two_check]
  replace hu := hu two_check
  rw [two_sizes] at hu
  have R18 := R17.below hb18 R17.lt
  have B18 := B17.trans (hb18.mono B17.size)
  have hrd18 := (hrd17.below hb18).more hb18.size
  have hsz : RInts w18.heap.size w18 u18 [6] := Rd.own hu (own_le hu)
  clear v0 v1 v2 v3 C hu R17 B17 hrd17 hb18
  have v0 := cellOf R18 0 (x := .slice (some ⟨gA, 0, none⟩) 2 cA) rfl
  have v1 := cellOf R18 1 (x := .slice (some ⟨gB, 0, none⟩) 2 cB) rfl
  have v2 := cellOf R18 2 (x := .slice (some ⟨n + 4, 0, none⟩) 1 1) rfl
  have v3 := cellOf R18 3 (x := .bool false) rfl
  have C := Lib.hid (where_any _ twoD ⟨0, 0, 2⟩ w18 hrd18)
  rw [two_where] at C
  go_wp2_with fail
  refine C.out.mono ?_
  rintro e w19 ⟨rfl, hb19⟩
  have R19 := R18.below hb19 R18.lt
  have B19 := B18.trans (hb19.mono B18.size)
  have hsz19 := (hsz.below hb19).more hb19.size
  clear v0 v1 v2 v3 C R18 B18 hrd18 hb19 hsz
  simp only [spotRet, SpotD.val]
  have F20 : ∃ w20, (w19.alloc (.cells #[.int .i64 1, .int .i64 1, .int .i64 0, .int .i64 0] 53)).alloc (.cells #[.int .i64 6] 3) = w20 ∧ Below w19.heap.size w19 w20 ∧ Blk w20 w19.heap.size 53 #[.int .i64 1, .int .i64 1, .int .i64 0, .int .i64 0] ∧ RInts w20.heap.size w20 (.slice (some ⟨w19.heap.size + 1, 0, none⟩) 1 1) [6] := by
    refine ⟨_, rfl, ((Below.refl _ _).alloc (Nat.le_refl _) _).alloc (by simp) _, (Blk.new _ _ _).alloc _, rd_blk (blk_new (by simp) _ _) (by simp) rfl (by omega)⟩
  obtain ⟨w20, e20, hb20, S20, hsix⟩ := F20
  have E20 := Lib.hid e20
  have R20 := R19.below hb20 R19.lt
  have B20 := B19.trans (hb20.mono B19.size)
  have C := Lib.hid (sameInts_any u18 _ [6] [6] w20 ((hsz19.below hb20).more hb20.size) hsix)
  clear e20 R19 B19 hb20 hsz19 hsix
  go_wp2_with fail
  rw [E20.out]
  refine C.out.mono ?_
  rintro e w21 ⟨rfl, hb21⟩
  have S21 := S20.below hb21 S20.lt
  have R21 := R20.below hb21 R20.lt
  have B21 := B20.trans (hb21.mono B20.size)
  have s0 := cellOf S21 0 (x := .int .i64 1) rfl
  have s1 := cellOf S21 1 (x := .int .i64 1) rfl
  have s2 := cellOf S21 2 (x := .int .i64 0) rfl
  have s3 := cellOf S21 3 (x := .int .i64 0) rfl
  clear C S20 R20 B20 hb21 S21
  clear E20
  go_wp2_with fail
  refine (one_lit _).mono ?_
  rintro e w22 ⟨m, rfl, h22, hm22, hz22, hb22⟩
  have R22 := R21.below hb22 R21.lt
  have B22 := B21.trans (hb22.mono B21.size)
  have rl := R21.lt
  have hbm : w.heap.size ≤ m := Nat.le_trans B21.size hm22
  have f0 := R22.frozen 0
  have f1 := R22.frozen 1
  have f2 := R22.frozen 2
  have f3 := R22.frozen 3
  have v0 := cellOf R22 0 (x := .slice (some ⟨gA, 0, none⟩) 2 cA) rfl
  have v1 := cellOf R22 1 (x := .slice (some ⟨gB, 0, none⟩) 2 cB) rfl
  have v2 := cellOf R22 2 (x := .slice (some ⟨n + 4, 0, none⟩) 1 1) rfl
  have v3 := cellOf R22 3 (x := .bool false) rfl
  have F23 : ∃ w23, (((w22.setCell ⟨n + 5, 0, none⟩ (.slice (some ⟨m + 1, 0, none⟩) 1 1)).setCell ⟨n + 5, 1, none⟩ (.slice (some ⟨m + 2, 0, none⟩) 1 1)).setCell ⟨n + 5, 2, none⟩ (.slice (some ⟨m + 4, 0, none⟩) 1 1)).setCell ⟨n + 5, 3, none⟩ (.bool false) = w23 ∧ w23.heap.size = m + 5 ∧
      Blk w23 (n + 5) 36 #[.slice (some ⟨m + 1, 0, none⟩) 1 1, .slice (some ⟨m + 2, 0, none⟩) 1 1, .slice (some ⟨m + 4, 0, none⟩) 1 1, .bool false] ∧ OneAt w23 m ∧ Below w.heap.size w w23 := by
    obtain ⟨k1, k2, k3, k4, k5⟩ := h22
    have hf : ∀ b t cs, Blk w22 b t cs → m ≤ b → Blk ((((w22.setCell ⟨n + 5, 0, none⟩ (.slice (some ⟨m + 1, 0, none⟩) 1 1)).setCell ⟨n + 5, 1, none⟩ (.slice (some ⟨m + 2, 0, none⟩) 1 1)).setCell ⟨n + 5, 2, none⟩ (.slice (some ⟨m + 4, 0, none⟩) 1 1)).setCell ⟨n + 5, 3, none⟩ (.bool false)) b t cs := fun b t cs h hb => by
      have hne : b ≠ n + 5 := by omega
      exact (((h.far (p := ⟨n + 5, 0, none⟩) hne _).far (p := ⟨n + 5, 1, none⟩) hne _).far (p := ⟨n + 5, 2, none⟩) hne _).far (p := ⟨n + 5, 3, none⟩) hne _
    exact ⟨_, rfl, by simpa using hz22, (((R22.put 0 _).put 1 _).put 2 _).put 3 _, ⟨hf _ _ _ k1 (by omega), hf _ _ _ k2 (by omega), hf _ _ _ k3 (by omega), hf _ _ _ k4 (by omega), hf _ _ _ k5 (by omega)⟩, below_set4 B22 (by omega) _ _ _ _⟩
  obtain ⟨w23, e23, z23, R23, h23, B23⟩ := F23
  have E23 := Lib.hid e23
  have x1 : n + 5 ≠ m + 1 := by omega
  have x0 : n + 5 < m := by omega
  clear e23 R22 R21 B21 B22 h22 hm22 hz22 hb22 s0 s1 s2 s3
  go_upto_region 17 with fail
  rw [E23.out]
  clear v0 v1 v2 v3 f0 f1 f2 f3
  obtain ⟨-, W23, I23, N23, S23⟩ := h23
  have HRc := Lib.hid R23
  have HWc := Lib.hid W23
  have HIc := Lib.hid I23
  have HNc := Lib.hid N23
  have HSc := Lib.hid S23
  have r0 := cellOf R23 0 (x := .slice (some ⟨m + 1, 0, none⟩) 1 1) rfl
  have r3 := cellOf R23 3 (x := .bool false) rfl
  have t1 := cellOf W23 1 (x := .int .i64 1) rfl
  have t2 := cellOf W23 2 (x := .slice (some ⟨m, 0, none⟩) 4 4) rfl
  have f3 := R23.frozen 3
  have g1 := W23.frozen 1
  have g2 := W23.frozen 2
  have x2 : m + 1 ≠ n + 5 := fun e => x1 e.symm
  have x3 := R23.lt
  have x4 := W23.lt
  have Z23 := Lib.hid z23
  clear z23
  go_cut [119] (fun _ wx => ColSt w n m wx)
  case first =>
    go_region
    all_goals (go_wp2_with fail; go_meet; exact colSt x0 hbn hbm HRc.out HWc.out HIc.out HNc.out HSc.out B23)
  case rest =>
  clear r0 r3 t1 t2 f3 g1 g2 x1 x2 x3 x4 HRc HWc HIc HNc HSc R23 W23 I23 N23 S23 B23 E23 Z23
  obtain ⟨R, B, hrd⟩ := hcut.reads
  clear hcut
  have v0 := cellOf R 0 (x := .slice (some ⟨m + 1, 0, none⟩) 1 1) rfl
  have v1 := cellOf R 1 (x := .slice (some ⟨m + 2, 0, none⟩) 1 1) rfl
  have v2 := cellOf R 2 (x := .slice (some ⟨m + 4, 0, none⟩) 1 1) rfl
  have v3 := cellOf R 3 (x := .bool true) rfl
  have C := Lib.hid (Cut_any _ colD 5 wc hrd)
  rw [col_cut] at C
  go_wp2_with fail
  refine C.out.mono ?_
  rintro e w25 ⟨rfl, hb25⟩
  have R25 := R.below hb25 R.lt
  have B25 := B.trans (hb25.mono B.size)
  have hrd25 := (hrd.below hb25).more hb25.size
  clear v0 v1 v2 v3 C R B hrd hb25
  have v0 := cellOf R25 0 (x := .slice (some ⟨m + 1, 0, none⟩) 1 1) rfl
  have v1 := cellOf R25 1 (x := .slice (some ⟨m + 2, 0, none⟩) 1 1) rfl
  have v2 := cellOf R25 2 (x := .slice (some ⟨m + 4, 0, none⟩) 1 1) rfl
  have v3 := cellOf R25 3 (x := .bool true) rfl
  have C := Lib.hid (Sizes_any _ colD w25 hrd25)
  go_wp2_with fail
  refine C.out.mono ?_
  rintro e w26 ⟨u26, rfl, hu, -, hb26⟩
  rw [col_check]
  replace hu := hu col_check
  rw [col_sizes] at hu
  have B26 := B25.trans (hb26.mono B25.size)
  have hsz : RInts w26.heap.size w26 u26 [4, 4] := Rd.own hu (own_le hu)
  clear v0 v1 v2 v3 C hu R25 B25 hrd25 hb26
  have F27 : ∃ w27, w26.alloc (.cells #[.int .i64 4, .int .i64 4] 3) = w27 ∧ Below w26.heap.size w26 w27 ∧ RInts w27.heap.size w27 (.slice (some ⟨w26.heap.size, 0, none⟩) 2 2) [4, 4] :=
    ⟨_, rfl, (Below.refl _ _).alloc (Nat.le_refl _) _, rd_blk (Blk.new _ _ _) (by simp) rfl (by omega)⟩
  obtain ⟨w27, e27, hb27, hsix⟩ := F27
  have E27 := Lib.hid e27
  have B27 := B26.trans (hb27.mono B26.size)
  have C := Lib.hid (sameInts_any u26 _ [4, 4] [4, 4] w27 ((hsz.below hb27).more hb27.size) hsix)
  clear e27 hsz hsix hb27 B26
  go_wp2_with fail
  rw [E27.out]
  refine C.out.mono ?_
  rintro e w28 ⟨rfl, hb28⟩
  have B28 := B27.trans (hb28.mono B27.size)
  clear C B27 hb28
  go_wp2
  go_ret
  exact ⟨rfl, B28⟩
end Go.Proofs.Ytdbfhdncjblleaa
