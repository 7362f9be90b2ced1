/-
  The reference's Where, given what its Check returns.
-/
import Derived.Test.YtdbfhdncjblleaaRg
namespace Go.Proofs.Ytdbfhdncjblleaa
open Go.RowKit

theorem alike_len {r : RunD} (h : checkE r = 0) {c c' : Nat} {S S' : List (List SpotD)} (hS : (layoutD r)[c]? = some S) (hS' : (layoutD r)[c']? = some S') : S.length = S'.length := by
  have h1 := congrArg List.length ((alike h hS).trans (alike h hS').symm)
  simpa using h1

set_option maxRecDepth 100000 in
set_option maxHeartbeats 4000000 in
theorem refWhere_any (RC : RefCheckOk) (v : Value) (r : RunD) (p : PlaceD) (w : World) (h : RRun w.heap.size w v r) (hsm : SmallRun r) :
    Calls Try.prog 22 #[v, .agg #[.int .i64 p.copy, .int .i64 p.sec, .int .i64 p.idx]] w fun e w' => e = .returned (spotRet (whereD r p)) ∧ Below w.heap.size w w' := by
  have HRC := Lib.hid RC
  have HSM := Lib.hid hsm
  have hrun := Lib.hid h
  obtain ⟨A1, c1, A2, c2, A3, c3, rfl⟩ := h.shape
  clear h RC hsm
  obtain ⟨copy, sec, idx⟩ := p
  have F0 : ∃ W0, ((w.alloc (.cells #[.slice A1 r.webs.length c1, .slice A2 r.ribs.length c2, .slice A3 r.stacks.length c3, .bool r.coll] 26)).alloc (.cells #[.int .i64 copy, .int .i64 sec, .int .i64 idx] 28)).alloc (.cells #[.int .i64 0, .int .i64 0, .int .i64 0, .int .i64 0] 30) = W0 ∧
      W0.heap.size = w.heap.size + 3 ∧ Below w.heap.size w W0 ∧ Blk W0 w.heap.size 26 #[.slice A1 r.webs.length c1, .slice A2 r.ribs.length c2, .slice A3 r.stacks.length c3, .bool r.coll] ∧ Blk W0 (w.heap.size + 1) 28 #[.int .i64 copy, .int .i64 sec, .int .i64 idx] ∧ Blk W0 (w.heap.size + 1 + 1) 30 #[.int .i64 0, .int .i64 0, .int .i64 0, .int .i64 0] := by
    refine ⟨_, rfl, by simp, (((Below.refl _ _).alloc (Nat.le_refl _) _).alloc (by simp) _).alloc (by simp; omega) _, ((Blk.new w _ _).alloc _).alloc _, ?_, ?_⟩
    · have := Blk.new (w.alloc (.cells #[.slice A1 r.webs.length c1, .slice A2 r.ribs.length c2, .slice A3 r.stacks.length c3, .bool r.coll] 26)) 28 #[.int .i64 copy, .int .i64 sec, .int .i64 idx]
      rw [World.size_alloc] at this
      exact this.alloc _
    · have := Blk.new ((w.alloc (.cells #[.slice A1 r.webs.length c1, .slice A2 r.ribs.length c2, .slice A3 r.stacks.length c3, .bool r.coll] 26)).alloc (.cells #[.int .i64 copy, .int .i64 sec, .int .i64 idx] 28)) 30 #[.int .i64 0, .int .i64 0, .int .i64 0, .int .i64 0]
      rw [World.size_alloc, World.size_alloc] at this
      exact this
  obtain ⟨W0, e0, z0, B0, V0, P0, R0⟩ := F0
  have E0 := Lib.hid e0
  have hb2 : w.heap.size ≤ w.heap.size + 1 + 1 := by omega
  obtain ⟨b1, hb1e⟩ : ∃ b1, w.heap.size + 1 = b1 := ⟨_, rfl⟩
  obtain ⟨b2, hb2e⟩ : ∃ b2, b1 + 1 = b2 := ⟨_, rfl⟩
  rw [hb1e] at P0 R0 hb2
  rw [hb2e] at R0 hb2
  have o0 := cellOf V0 0 (x := .slice A1 r.webs.length c1) rfl
  have o1 := cellOf V0 1 (x := .slice A2 r.ribs.length c2) rfl
  have o2 := cellOf V0 2 (x := .slice A3 r.stacks.length c3) rfl
  have o3 := cellOf V0 3 (x := .bool r.coll) rfl
  have C := Lib.hid (HRC.out _ r W0 ((hrun.out.below B0).more B0.size) HSM.out)
  clear e0 z0
  go_enter Try.func22, Try.ntmps22
  go_upto_region 1 with fail
  rw [E0.out]
  try simp only [hb1e, hb2e]
  clear hb1e hb2e
  go_wp2_with fail
  refine C.out.mono ?_
  rintro e w3 ⟨rfl, hb3⟩
  have B3 := B0.trans (hb3.mono B0.size)
  have V3 := V0.below hb3 V0.lt
  have P3 := P0.below hb3 P0.lt
  have R3 := R0.below hb3 R0.lt
  clear C o0 o1 o2 o3 V0 P0 R0 hb3
  by_cases hck : checkE r = 0
  case neg =>
    have Hn := Lib.hid (where_bad (p := ⟨copy, sec, idx⟩) hck)
    have hck' : (checkE r != 0) = true := by simpa using hck
    have r0 := cellOf R3 0 (x := .int .i64 0) rfl
    have r1 := cellOf R3 1 (x := .int .i64 0) rfl
    have r2 := cellOf R3 2 (x := .int .i64 0) rfl
    have r3 := cellOf R3 3 (x := .int .i64 0) rfl
    have f0 := R3.frozen 0
    have f1 := R3.frozen 1
    have f2 := R3.frozen 2
    have f3 := R3.frozen 3
    clear hck V3 P3 R3
    generalize checkE r = ck at *
    go_wp2
    refine bodyPost_ret (v := .tuple #[.agg #[.int .i64 0, .int .i64 0, .int .i64 0, .int .i64 0], .int .i64 ck]) (by simp [results, Try.results22, go_sem, r0, r1, r2, r3]) rfl ⟨?_, below_set4 B3 hb2 _ _ _ _⟩
    rw [Hn.out]; rfl
  rw [hck]
  have Hok := Lib.hid hck
  have o0 := cellOf V3 0 (x := .slice A1 r.webs.length c1) rfl
  have o1 := cellOf V3 1 (x := .slice A2 r.ribs.length c2) rfl
  have o2 := cellOf V3 2 (x := .slice A3 r.stacks.length c3) rfl
  have o3 := cellOf V3 3 (x := .bool r.coll) rfl
  have C := Lib.hid (All_any _ r w3 ((hrun.out.below B3).more B3.size) hck)
  obtain ⟨S0, hS0⟩ := layout_pos hck
  have HS0 := Lib.hid hS0
  clear hck V3 hS0
  go_upto_region 4 with fail
  go_wp2_with fail
  refine C.out.mono ?_
  rintro e w4 ⟨u, rfl, hu, hb4⟩
  have B4 := B3.trans (hb4.mono B3.size)
  have P4 := P3.below hb4 P3.lt
  have R4 := R3.below hb4 R3.lt
  obtain ⟨A, c, rfl, hA1, hA⟩ := RAll.open_ hu.reads
  have HA := Lib.hid hA
  have HP4 := Lib.hid P4
  have HR4 := Lib.hid R4
  have p0 := cellOf P4 0 (x := .int .i64 copy) rfl
  have p1 := cellOf P4 1 (x := .int .i64 sec) rfl
  have p2 := cellOf P4 2 (x := .int .i64 idx) rfl
  have r0 := cellOf R4 0 (x := .int .i64 0) rfl
  have r1 := cellOf R4 1 (x := .int .i64 0) rfl
  have r2 := cellOf R4 2 (x := .int .i64 0) rfl
  have r3 := cellOf R4 3 (x := .int .i64 0) rfl
  have f0 := R4.frozen 0
  have f1 := R4.frozen 1
  have f2 := R4.frozen 2
  have f3 := R4.frozen 3
  obtain ⟨g0, o, u0, rfl, hg0, m0, hp0⟩ := hA 0 S0 HS0.out
  simp only [Nat.add_zero] at m0
  obtain ⟨A5, c5, rfl, -⟩ := RAll.open_ hp0
  have hl0 : (0 : Int) < ((layoutD r).length : Int) := by have := (List.getElem?_eq_some_iff.1 HS0.out).1; omega
  have HBD : ∀ n, Below w.heap.size w (w4.drewN n) := fun n => below_drewN B4 n
  clear C o0 o1 o2 o3 hu hA hb4 P3 R3 P4 R4 hp0
  go_upto_region 5 with fail
  by_cases h1 : copy < 0
  case pos =>
    have Hn := Lib.hid (where_no (p := ⟨copy, sec, idx⟩) Hok.out (by unfold whereO; rw [getI_neg (by simp only; omega)]; rfl))
    have d1 : decide (copy < 0) = true := by simpa using h1
    go_quiet (fail)
    go_wp2
    refine bodyPost_ret (v := .tuple #[.agg #[.int .i64 0, .int .i64 0, .int .i64 0, .int .i64 0], .int .i64 6]) (by simp [results, Try.results22, go_sem, r0, r1, r2, r3]) rfl ⟨?_, below_set4 (HBD _) hb2 _ _ _ _⟩
    rw [Hn.out]; rfl
  have d1 : decide (copy < 0) = false := by simpa using h1
  obtain ⟨cn, rfl⟩ : ∃ cn : Nat, copy = cn := ⟨copy.toNat, by omega⟩
  clear h1
  by_cases h2 : ((layoutD r).length : Int) ≤ (cn : Int)
  case pos =>
    have Hn := Lib.hid (where_no (p := ⟨cn, sec, idx⟩) Hok.out (by unfold whereO; rw [getI_big (by simp only; omega)]; rfl))
    have d2 : decide (((layoutD r).length : Int) ≤ (cn : Int)) = true := by simpa using h2
    go_quiet (fail)
    go_wp2
    refine bodyPost_ret (v := .tuple #[.agg #[.int .i64 0, .int .i64 0, .int .i64 0, .int .i64 0], .int .i64 6]) (by simp [results, Try.results22, go_sem, r0, r1, r2, r3]) rfl ⟨?_, below_set4 (HBD _) hb2 _ _ _ _⟩
    rw [Hn.out]; rfl
  have d2 : decide (((layoutD r).length : Int) ≤ (cn : Int)) = false := by simpa using h2
  obtain ⟨S, hS⟩ : ∃ S, (layoutD r)[cn]? = some S := ⟨_, List.getElem?_eq_getElem (by omega)⟩
  have hSl : S0.length = S.length := alike_len Hok.out HS0.out hS
  have HS : Hid (getI (layoutD r) (cn : Int) = some S) := by
    show getI (layoutD r) (cn : Int) = some S
    rw [getI_nat]; exact hS
  rw [hSl] at m0
  have HSS := Lib.hid hS
  clear hS hSl
  by_cases h3 : sec < 0
  case pos =>
    have Hn := Lib.hid (where_no (p := ⟨cn, sec, idx⟩) Hok.out (by unfold whereO; rw [HS.out]; show (getI S sec).bind _ = none; rw [getI_neg (by omega)]; rfl))
    have d3 : decide (sec < 0) = true := by simpa using h3
    go_quiet (fail)
    go_wp2
    refine bodyPost_ret (v := .tuple #[.agg #[.int .i64 0, .int .i64 0, .int .i64 0, .int .i64 0], .int .i64 6]) (by simp [results, Try.results22, go_sem, r0, r1, r2, r3]) rfl ⟨?_, below_set4 (HBD _) hb2 _ _ _ _⟩
    rw [Hn.out]; rfl
  have d3 : decide (sec < 0) = false := by simpa using h3
  obtain ⟨sn, rfl⟩ : ∃ sn : Nat, sec = sn := ⟨sec.toNat, by omega⟩
  clear h3
  by_cases h4 : (S.length : Int) ≤ (sn : Int)
  case pos =>
    have Hn := Lib.hid (where_no (p := ⟨cn, sn, idx⟩) Hok.out (by unfold whereO; rw [HS.out]; show (getI S sn).bind _ = none; rw [getI_big (by omega)]; rfl))
    have d4 : decide ((S.length : Int) ≤ (sn : Int)) = true := by simpa using h4
    go_quiet (fail)
    go_wp2
    refine bodyPost_ret (v := .tuple #[.agg #[.int .i64 0, .int .i64 0, .int .i64 0, .int .i64 0], .int .i64 6]) (by simp [results, Try.results22, go_sem, r0, r1, r2, r3]) rfl ⟨?_, below_set4 (HBD _) hb2 _ _ _ _⟩
    rw [Hn.out]; rfl
  have d4 : decide ((S.length : Int) ≤ (sn : Int)) = false := by simpa using h4
  obtain ⟨l, hl⟩ : ∃ l, S[sn]? = some l := ⟨_, List.getElem?_eq_getElem (by omega)⟩
  have HL : Hid (getI S (sn : Int) = some l) := by
    show getI S (sn : Int) = some l
    rw [getI_nat]; exact hl
  go_quiet (fail)
  go_wp2
  obtain ⟨w5, e5⟩ : ∃ w5, w4.drewN nq = w5 := ⟨_, rfl⟩
  have hb5 : Below w4.heap.size w4 w5 := by rw [← e5]; exact below_drewN (Below.refl _ _) _
  rw [e5]
  have B5 := B4.trans (hb5.mono B4.size)
  have P5 := HP4.out.below hb5 HP4.out.lt
  have R5 := HR4.out.below hb5 HR4.out.lt
  clear e5 p0 p1 p2 r0 r1 r2 r3 f0 f1 f2 f3 m0 HBD d1 d2 d3 d4
  have HBD : ∀ n, Below w.heap.size w (w5.drewN n) := fun n => below_drewN B5 n
  have p0 := cellOf P5 0 (x := .int .i64 (cn : Int)) rfl
  have p1 := cellOf P5 1 (x := .int .i64 (sn : Int)) rfl
  have p2 := cellOf P5 2 (x := .int .i64 idx) rfl
  have r0 := cellOf R5 0 (x := .int .i64 0) rfl
  have r1 := cellOf R5 1 (x := .int .i64 0) rfl
  have r2 := cellOf R5 2 (x := .int .i64 0) rfl
  have r3 := cellOf R5 3 (x := .int .i64 0) rfl
  have f0 := R5.frozen 0
  have f1 := R5.frozen 1
  have f2 := R5.frozen 2
  have f3 := R5.frozen 3
  obtain ⟨g1, o1, u1, eg, hg1, m1, hp1⟩ := HA.out cn S HSS.out
  simp only [Option.some.injEq, Addr.mk.injEq, and_true] at eg
  obtain ⟨rfl, rfl⟩ := eg
  obtain ⟨A6, c6, rfl, -, hA6⟩ := RAll.open_ hp1
  obtain ⟨g2, o2, u2, rfl, hg2, m2, hp2⟩ := hA6 sn l hl
  obtain ⟨A7, c7, rfl, -, hA7⟩ := RSpots.open_ hp2
  have HA7 := Lib.hid hA7
  have m1 := (hb5.cell (p := ⟨g0, o + cn, none⟩) hg1).trans m1
  have m2 := (hb5.cell (p := ⟨g2, o2 + sn, none⟩) hg2).trans m2
  have hci : (cn : Int) < ((layoutD r).length : Int) := by omega
  have hsi : (sn : Int) < (S.length : Int) := by omega
  have HP5 := Lib.hid P5
  have HR5 := Lib.hid R5
  clear hA6 hA7 hp1 hp2 hl P5 R5
  by_cases h5 : idx < 0
  case pos =>
    have Hn := Lib.hid (where_no (p := ⟨cn, sn, idx⟩) Hok.out (by unfold whereO; rw [HS.out]; show (getI S sn).bind _ = none; rw [HL.out]; show getI l idx = none; rw [getI_neg (by omega)]))
    have d5 : decide (idx < 0) = true := by simpa using h5
    go_quiet (fail)
    go_wp2
    refine bodyPost_ret (v := .tuple #[.agg #[.int .i64 0, .int .i64 0, .int .i64 0, .int .i64 0], .int .i64 6]) (by simp [results, Try.results22, go_sem, r0, r1, r2, r3]) rfl ⟨?_, below_set4 (HBD _) hb2 _ _ _ _⟩
    rw [Hn.out]; rfl
  have d5 : decide (idx < 0) = false := by simpa using h5
  obtain ⟨k, rfl⟩ : ∃ k : Nat, idx = k := ⟨idx.toNat, by omega⟩
  clear h5
  by_cases h6 : (l.length : Int) ≤ (k : Int)
  case pos =>
    have Hn := Lib.hid (where_no (p := ⟨cn, sn, k⟩) Hok.out (by unfold whereO; rw [HS.out]; show (getI S sn).bind _ = none; rw [HL.out]; show getI l k = none; rw [getI_big (by omega)]))
    have d6 : decide ((l.length : Int) ≤ (k : Int)) = true := by simpa using h6
    go_quiet (fail)
    go_wp2
    refine bodyPost_ret (v := .tuple #[.agg #[.int .i64 0, .int .i64 0, .int .i64 0, .int .i64 0], .int .i64 6]) (by simp [results, Try.results22, go_sem, r0, r1, r2, r3]) rfl ⟨?_, below_set4 (HBD _) hb2 _ _ _ _⟩
    rw [Hn.out]; rfl
  have d6 : decide ((l.length : Int) ≤ (k : Int)) = false := by simpa using h6
  obtain ⟨x, hx⟩ : ∃ x, l[k]? = some x := ⟨_, List.getElem?_eq_getElem (by omega)⟩
  obtain ⟨g3, o3, rfl, hg3, n0, n1, n2, n3⟩ := HA7.out k x hx
  have Hn := Lib.hid (where_yes (p := ⟨cn, sn, k⟩) (s := x) Hok.out (by unfold whereO; rw [HS.out]; show (getI S sn).bind _ = _; rw [HL.out]; show getI l k = _; rw [getI_nat]; exact hx))
  have hki : (k : Int) < (l.length : Int) := by omega
  clear hx
  obtain ⟨xw, xs, xr, xc⟩ := x
  dsimp only at n0 n1 n2 n3
  have hg4 : w4.heap.size ≤ w5.heap.size := hb5.size
  go_quiet (fail)
  go_wp2_with fail
  obtain ⟨w6, e6⟩ : ∃ w6, w5.drewN nq = w6 := ⟨_, rfl⟩
  have hb6 : Below w5.heap.size w5 w6 := by rw [← e6]; exact below_drewN (Below.refl _ _) _
  rw [e6]
  have B6 := B5.trans (hb6.mono B5.size)
  have P6 := HP5.out.below hb6 HP5.out.lt
  have R6 := HR5.out.below hb6 HR5.out.lt
  have hb56 := hb5.trans (hb6.mono hb5.size)
  have m1 := (hb6.cell (p := ⟨g0, o + cn, none⟩) (Nat.lt_of_lt_of_le hg1 hg4)).trans m1
  have m2 := (hb6.cell (p := ⟨g2, o2 + sn, none⟩) (Nat.lt_of_lt_of_le hg2 hg4)).trans m2
  have n0 := (hb56.cell (p := ⟨g3, o3 + k * 4, none⟩) hg3).trans n0
  have n1 := (hb56.cell (p := ⟨g3, o3 + k * 4 + 1, none⟩) hg3).trans n1
  have n2 := (hb56.cell (p := ⟨g3, o3 + k * 4 + 2, none⟩) hg3).trans n2
  have n3 := (hb56.cell (p := ⟨g3, o3 + k * 4 + 3, none⟩) hg3).trans n3
  clear e6 p0 p1 p2 r0 r1 r2 r3 f0 f1 f2 f3 HBD d5 d6
  have p0 := cellOf P6 0 (x := .int .i64 (cn : Int)) rfl
  have p1 := cellOf P6 1 (x := .int .i64 (sn : Int)) rfl
  have p2 := cellOf P6 2 (x := .int .i64 (k : Int)) rfl
  have r0 := cellOf R6 0 (x := .int .i64 0) rfl
  have r1 := cellOf R6 1 (x := .int .i64 0) rfl
  have r2 := cellOf R6 2 (x := .int .i64 0) rfl
  have r3 := cellOf R6 3 (x := .int .i64 0) rfl
  have f0 := R6.frozen 0
  have f1 := R6.frozen 1
  have f2 := R6.frozen 2
  have f3 := R6.frozen 3
  clear P6 R6 hb56
  go_region
  all_goals
    go_wp2
    refine bodyPost_ret (v := .tuple #[.agg #[.int .i64 xw, .int .i64 xs, .int .i64 xr, .int .i64 xc], .int .i64 0]) (by simp [results, Try.results22, go_sem, r0, r1, r2, r3]) rfl ⟨?_, (below_set4 B6 hb2 _ _ _ _).drew⟩
    rw [Hn.out]; rfl
end Go.Proofs.Ytdbfhdncjblleaa
