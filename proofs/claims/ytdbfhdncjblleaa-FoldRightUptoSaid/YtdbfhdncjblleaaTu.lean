/-
  FoldTurns: the walk.
  FoldTurns, where what it reads is of bulk at most 1048576: it returns true, and the input reads as it did.
-/
import Derived.Test.YtdbfhdncjblleaaKm
import Derived.Test.YtdbfhdncjblleaaKn
namespace Go.Proofs.Ytdbfhdncjblleaa
open Go.RowKit

theorem small_of2 {r : RunD} (h : bigB r = false) : SmallRun r := by
  unfold bigB at h
  simp only [Bool.or_eq_false_iff, decide_eq_false_iff_not] at h
  obtain ⟨⟨⟨⟨h1, h2⟩, h3⟩, h4⟩, h5⟩ := h
  refine ⟨by omega, by omega, by omega, fun x hx => ?_, fun s hs => ?_⟩
  · have := List.any_eq_false.1 h4 x hx
    simp only [decide_eq_true_eq] at this
    omega
  · have := List.any_eq_false.1 h5 s hs
    simp only [decide_eq_true_eq] at this
    omega

theorem turn_ok {r : RunD} (h : checkE r = 0) {n : Nat} (hn : n < r.ribs.length) : turnE r n = 0 := by
  unfold turnE
  rw [if_neg (by rw [h]; simp), if_neg (by omega)]
theorem turn_len (r : RunD) (i : Int) : (turnD r i).ribs.length = r.ribs.length := by unfold turnD; simp
theorem turn_ne {r : RunD} {n : Nat} (hn : n < r.ribs.length) : turnD r n ≠ r := fun e => by
  have h1 := congrArg (fun x => (x.ribs.getD n default).turned) e
  unfold turnD turnRib at h1
  simp only [Int.toNat_natCast] at h1
  rw [List.getD_eq_getElem?_getD, List.getElem?_set_self hn, List.getD_eq_getElem?_getD] at h1
  simp at h1

theorem fieldsPl : Try.prog.underlying 56 = some (.struct (Try.prog.fieldsOf 56)) := by kernel_rfl
theorem heldPl : Try.prog.stoodInHeld 56 = false := by kernel_rfl
theorem flPl : (Try.prog.fieldsOf 56).toList.map (fun f => (f.name != "_", f.type, f.offset)) = [(true, 3, 0), (true, 3, 1), (true, 3, 2)] := by kernel_rfl
theorem eqPlace (a b c : Int) (w : World) : (Op.equalIn 10000 56 (.agg #[.int .i64 a, .int .i64 b, .int .i64 c]) (.agg #[.int .i64 a, .int .i64 b, .int .i64 c])).run Try.prog w = .ok true w := by
  rw [run_equalIn_agg w 9999 _ _ _ fieldsPl heldPl]
  have hl := flPl
  generalize (Try.prog.fieldsOf 56).toList = fs at hl ⊢
  obtain ⟨f0, r0, rfl, h0, hl⟩ := List.map_eq_cons_iff.1 hl
  obtain ⟨f1, r1, rfl, h1, hl⟩ := List.map_eq_cons_iff.1 hl
  obtain ⟨f2, r2, rfl, h2, hl⟩ := List.map_eq_cons_iff.1 hl
  obtain rfl := List.map_eq_nil_iff.1 hl
  simp only [Prod.mk.injEq, bne_iff_ne, ne_eq] at h0 h1 h2
  obtain ⟨n0, t0, o0⟩ := h0
  obtain ⟨n1, t1, o1⟩ := h1
  obtain ⟨n2, t2, o2⟩ := h2
  clear hl
  simp [Op.eqFields, n0, n1, n2, t0, t1, t2, o0, o1, o2, go_sem]
/-- A spot and the place where it goes when the ribbon is turned. -/
theorem turn_spot {r : RunD} (h : checkE r = 0) {n : Nat} (hn : n < r.ribs.length) {a row c : Nat} {sd : Int} {x : WebD} (hx : r.webs[a]? = some x) (hs : sd = 0 ∨ sd = 1) (hrow : (row : Int) < x.rows) (hc : (c : Int) < x.cols) :
    ∃ p : PlaceD, followD r ⟨a, sd, row, c⟩ = (p, 0) ∧ followD (turnD r n) (flipS (ribAt r n) ⟨a, sd, row, c⟩) = (p, 0) := by
  have ha := (List.getElem?_eq_some_iff.1 hx).1
  have hw := webs_ok (parts_ok h 1 (by omega)) x (List.mem_of_getElem? hx)
  obtain ⟨p, hp⟩ := follow_some h (spot_there h (w := a) (row := row) (c := c) sd ha (by omega) (by rw [getD_of hx]; exact hc) hs)
  exact ⟨p, follow_yes h hp, follow_yes ((turn_check r n).trans h) (turn_follow h hn hp)⟩
/-- The turned spot's block is stored. -/
def FlipCut (w13 : World) (S T : Nat) (cs ct : Array Value) (wx : World) : Prop := Blk wx S 53 cs ∧ Blk wx T 53 ct ∧ Below w13.heap.size w13 wx
/-- The turned spot stands in its block, and is printed where the first one was. -/
def TurnSt (w13 : World) (r : RunD) (n S : Nat) (a sd b c : Nat) (p : PlaceD) (wx : World) : Prop :=
  ∃ sd' c' : Int, Blk wx S 53 #[.int .i64 a, .int .i64 sd, .int .i64 b, .int .i64 c] ∧ Blk wx (S + 1) 53 #[.int .i64 a, .int .i64 sd', .int .i64 b, .int .i64 c'] ∧ Below w13.heap.size w13 wx ∧ followD (turnD r n) ⟨a, sd', b, c'⟩ = (p, 0)
theorem flip_cut {w13 X : World} {S T : Nat} {cs : Array Value} {a b c d b' d' : Value} (hST : S ≠ T) (hT : w13.heap.size ≤ T) (hB : Below w13.heap.size w13 X) (hS : Blk X S 53 cs) (hT2 : Blk X T 53 #[a, b, c, d]) :
    FlipCut w13 S T cs #[a, b', c, d'] ((X.setCell ⟨T, 1, none⟩ b').setCell ⟨T, 3, none⟩ d').drew :=
  ⟨(hS.far (p := ⟨T, 1, none⟩) hST b').far (p := ⟨T, 3, none⟩) hST d', (hT2.put 1 b').put 3 d', ((hB.setCell (p := ⟨T, 1, none⟩) hT b').setCell (p := ⟨T, 3, none⟩) hT d').drew⟩

set_option maxRecDepth 100000 in
set_option maxHeartbeats 4000000 in
theorem Turns_any (v : Value) (r : RunD) (ribbon : Int) (w : World) (h : RRun w.heap.size w v r) (hbd : Bounded r) : Calls Try.prog 8 #[v, .int .i64 ribbon] w fun e w' => e = .returned (.bool true) ∧ Below w.heap.size w w' := by
  have hrun := Lib.hid h
  have HBd := Lib.hid hbd
  obtain ⟨A1, c1, A2, c2, A3, c3, rfl⟩ := h.shape
  obtain ⟨Ax, cx, ex, hlw, hAw⟩ := (h.webs).open_
  cases ex
  have HAW := Lib.hid hAw
  clear h hbd hAw
  have F0 : ∃ W0, w.alloc (.cells #[.slice A1 r.webs.length c1, .slice A2 r.ribs.length c2, .slice A3 r.stacks.length c3, .bool r.coll] 26) = W0 ∧ Below w.heap.size w W0 ∧ Blk W0 w.heap.size 26 #[.slice A1 r.webs.length c1, .slice A2 r.ribs.length c2, .slice A3 r.stacks.length c3, .bool r.coll] :=
    ⟨_, rfl, (Below.refl _ _).alloc (Nat.le_refl _) _, Blk.new _ _ _⟩
  obtain ⟨W0, e0, B0, V0⟩ := F0
  have E0 := Lib.hid e0
  have v0 := cellOf V0 0 (x := .slice A1 r.webs.length c1) rfl
  have v1 := cellOf V0 1 (x := .slice A2 r.ribs.length c2) rfl
  have v2 := cellOf V0 2 (x := .slice A3 r.stacks.length c3) rfl
  have v3 := cellOf V0 3 (x := .bool r.coll) rfl
  have C := Lib.hid (Own_any _ r W0 ((hrun.out.below B0).more B0.size) HBd.out)
  clear e0
  go_enter Try.func8, Try.ntmps8
  go_upto_region 1 with fail
  rw [E0.out]
  go_wp2_with fail
  refine C.out.mono ?_
  rintro e w3 ⟨u, rfl, hor, hb3⟩
  have B3 := B0.trans (hb3.mono B0.size)
  have V3 := V0.below hb3 V0.lt
  obtain ⟨X1, d1, X2, d2, X3, d3, rfl⟩ : ∃ X1 d1 X2 d2 X3 d3, u = .agg #[.slice X1 r.webs.length d1, .slice X2 r.ribs.length d2, .slice X3 r.stacks.length d3, .bool r.coll] := by
    obtain ⟨u1, vs, u2, u3, rfl, ow, orb, ws, os⟩ := hor
    obtain ⟨D1, m1, rfl⟩ := ownsRow_form ow.1
    obtain ⟨D2, m2, rfl⟩ := ownsRow_form orb
    obtain ⟨D3, m3, rfl⟩ := ownsRow_form os.1
    exact ⟨_, _, _, _, _, _, rfl⟩
  have F4 : ∃ w4, w3.alloc (.cells #[.slice X1 r.webs.length d1, .slice X2 r.ribs.length d2, .slice X3 r.stacks.length d3, .bool r.coll] 36) = w4 ∧ Below w3.heap.size w3 w4 ∧ Blk w4 w3.heap.size 36 #[.slice X1 r.webs.length d1, .slice X2 r.ribs.length d2, .slice X3 r.stacks.length d3, .bool r.coll] :=
    ⟨_, rfl, (Below.refl _ _).alloc (Nat.le_refl _) _, Blk.new _ _ _⟩
  obtain ⟨w4, e4, hb4, O4⟩ := F4
  have E4 := Lib.hid e4
  have V4 := V3.below hb4 V3.lt
  have B4 := B3.trans (hb4.mono B3.size)
  clear v0 v1 v2 v3 C V0 B0 V3 e4
  have v0 := cellOf V4 0 (x := .slice A1 r.webs.length c1) rfl
  have v1 := cellOf V4 1 (x := .slice A2 r.ribs.length c2) rfl
  have v2 := cellOf V4 2 (x := .slice A3 r.stacks.length c3) rfl
  have v3 := cellOf V4 3 (x := .bool r.coll) rfl
  have C := Lib.hid (big_any _ r w4 ((hrun.out.below B4).more B4.size))
  go_upto_region 2 with fail
  rw [E4.out]
  cases hbig : bigB r
  case true =>
    rw [hbig] at C
    clear hor O4 V4
    go_wp2_with fail
    refine C.out.mono ?_
    rintro e w5 ⟨rfl, hb5⟩
    have B5 := B4.trans (hb5.mono B4.size)
    go_wp2_with fail
    refine (awake_any _).mono ?_
    rintro e w6 ⟨rfl, hb6⟩
    go_wp2
    go_ret
    exact ⟨rfl, B5.trans (hb6.mono B5.size)⟩
  rw [hbig] at C
  have hsm := small_of2 hbig
  have hrd := (hor.reads hsm).below hb4
  have hrd4 := hrd.more hb4.size
  clear hor hrd hbig
  go_wp2_with fail
  refine C.out.mono ?_
  rintro e w5 ⟨rfl, hb5⟩
  have B5 := B4.trans (hb5.mono B4.size)
  have V5 := V4.below hb5 V4.lt
  have O5 := O4.below hb5 O4.lt
  have hrd5 := (hrd4.below hb5).more hb5.size
  clear v0 v1 v2 v3 C V4 O4 hrd4
  have o0 := cellOf O5 0 (x := .slice X1 r.webs.length d1) rfl
  have o1 := cellOf O5 1 (x := .slice X2 r.ribs.length d2) rfl
  have o2 := cellOf O5 2 (x := .slice X3 r.stacks.length d3) rfl
  have o3 := cellOf O5 3 (x := .bool r.coll) rfl
  have C := Lib.hid (Check_any _ r w5 hrd5)
  go_wp2_with fail
  refine C.out.mono ?_
  rintro e w6 ⟨rfl, hb6⟩
  have B6 := B5.trans (hb6.mono B5.size)
  have V6 := V5.below hb6 V5.lt
  have O6 := O5.below hb6 O5.lt
  have hrd6 := (hrd5.below hb6).more hb6.size
  clear o0 o1 o2 o3 C V5 O5 hrd5
  by_cases hck : checkE r = 0
  case neg =>
    have hck' : (checkE r != 0) = true := by simpa using hck
    clear V6 O6 hrd6
    go_wp2_with fail
    refine (awake_any _).mono ?_
    rintro e w7 ⟨rfl, hb7⟩
    go_wp2
    go_ret
    exact ⟨rfl, B6.trans (hb7.mono B6.size)⟩
  rw [hck]
  have Hok := Lib.hid hck
  have hn1 := (numbers_ok (parts_ok hck 0 (by omega))).1
  have hn2 : ((r.webs.length : Int) == 0) = false := by rw [beq_eq_false_iff_ne]; omega
  have hm1 := (numbers_ok (parts_ok hck 0 (by omega))).2.2.1
  have hm2 := (numbers_ok (parts_ok hck 0 (by omega))).2.2.2.1
  have hn3 : ((r.ribs.length : Int) == 0) = false := by rw [beq_eq_false_iff_ne]; omega
  have v1 := cellOf V6 1 (x := .slice A2 r.ribs.length c2) rfl
  have v0 := cellOf V6 0 (x := .slice A1 r.webs.length c1) rfl
  clear hck
  have hpk := pick_any ribbon (r.ribs.length : Int) (by omega) (by omega) w6
  obtain ⟨n, hn⟩ : ∃ n : Nat, ribbon % (r.ribs.length : Int) = n := ⟨(ribbon % (r.ribs.length : Int)).toNat, by have := Int.emod_nonneg ribbon (show (r.ribs.length : Int) ≠ 0 by omega); omega⟩
  have hnl : n < r.ribs.length := by have := Int.emod_lt_of_pos ribbon (show 0 < (r.ribs.length : Int) by omega); omega
  rw [hn] at hpk
  have CP := Lib.hid hpk
  have HE1 : Hid (turnE r n = 0) := turn_ok Hok.out hnl
  have Hok2 : Hid (checkE (turnD r n) = 0) := (turn_check r n).trans Hok.out
  have HE2 : Hid (turnE (turnD r n) n = 0) := turn_ok Hok2.out (by rw [turn_len]; exact hnl)
  have hsm2 := small_ok Hok2.out
  clear hpk hn
  go_upto_region 4 with fail
  go_wp2_with fail
  refine CP.out.mono ?_
  rintro e w' ⟨rfl, rfl⟩
  clear CP v0 v1 hn2 hn3
  have o0 := cellOf O6 0 (x := .slice X1 r.webs.length d1) rfl
  have o1 := cellOf O6 1 (x := .slice X2 r.ribs.length d2) rfl
  have o2 := cellOf O6 2 (x := .slice X3 r.stacks.length d3) rfl
  have o3 := cellOf O6 3 (x := .bool r.coll) rfl
  have C := Lib.hid (Turn_any _ r n w6 hrd6)
  go_wp2_with fail
  refine C.out.mono ?_
  rintro e w7 ⟨u7, rfl, hu7, -, hb7⟩
  rw [HE1.out]
  have hor7 := hu7 HE1.out
  have hrd7 := hor7.reads hsm2
  obtain ⟨Y1, y1, Y2, y2, Y3, y3, rfl⟩ := hrd7.shape
  have B7 := B6.trans (hb7.mono B6.size)
  have V7 := V6.below hb7 V6.lt
  have O7 := O6.below hb7 O6.lt
  have hx7 := (hrd6.below hb7).more hb7.size
  clear C o0 o1 o2 o3 hu7 hor7 hb7 V6 O6 hrd6
  have F8 : ∃ w8, w7.alloc (.cells #[.slice Y1 (turnD r n).webs.length y1, .slice Y2 (turnD r n).ribs.length y2, .slice Y3 (turnD r n).stacks.length y3, .bool (turnD r n).coll] 36) = w8 ∧ Below w7.heap.size w7 w8 ∧ Blk w8 w7.heap.size 36 #[.slice Y1 (turnD r n).webs.length y1, .slice Y2 (turnD r n).ribs.length y2, .slice Y3 (turnD r n).stacks.length y3, .bool (turnD r n).coll] :=
    ⟨_, rfl, (Below.refl _ _).alloc (Nat.le_refl _) _, Blk.new _ _ _⟩
  obtain ⟨w8, e8, hb8, Y8⟩ := F8
  have E8 := Lib.hid e8
  have B8 := B7.trans (hb8.mono B7.size)
  have V8 := V7.below hb8 V7.lt
  have O8 := O7.below hb8 O7.lt
  have hx8 := (hx7.below hb8).more hb8.size
  have hy8 := (hrd7.below hb8).more hb8.size
  clear e8 hb8 V7 O7 hx7 hrd7 B7
  have o0 := cellOf Y8 0 (x := .slice Y1 (turnD r n).webs.length y1) rfl
  have o1 := cellOf Y8 1 (x := .slice Y2 (turnD r n).ribs.length y2) rfl
  have o2 := cellOf Y8 2 (x := .slice Y3 (turnD r n).stacks.length y3) rfl
  have o3 := cellOf Y8 3 (x := .bool (turnD r n).coll) rfl
  have C := Lib.hid (Turn_any _ (turnD r n) n w8 hy8)
  go_upto_region 6 with fail
  rw [E8.out]
  go_wp2_with fail
  refine C.out.mono ?_
  rintro e w9 ⟨u9, rfl, hu9, -, hb9⟩
  rw [HE2.out]
  have hor9 := hu9 HE2.out
  rw [turn_twice] at hor9
  have hrd9 := hor9.reads (small_ok Hok.out)
  obtain ⟨Z1, z1, Z2, z2, Z3, z3, rfl⟩ := hrd9.shape
  have B9 := B8.trans (hb9.mono B8.size)
  have V9 := V8.below hb9 V8.lt
  have O9 := O8.below hb9 O8.lt
  have Y9 := Y8.below hb9 Y8.lt
  have hx9 := (hx8.below hb9).more hb9.size
  have hy9 := (hy8.below hb9).more hb9.size
  clear C o0 o1 o2 o3 hu9 hor9 hb9 V8 O8 Y8 hx8 hy8 B8
  have F10 : ∃ w10, w9.alloc (.cells #[.slice Z1 r.webs.length z1, .slice Z2 r.ribs.length z2, .slice Z3 r.stacks.length z3, .bool r.coll] 36) = w10 ∧ Below w9.heap.size w9 w10 ∧ Blk w10 w9.heap.size 36 #[.slice Z1 r.webs.length z1, .slice Z2 r.ribs.length z2, .slice Z3 r.stacks.length z3, .bool r.coll] :=
    ⟨_, rfl, (Below.refl _ _).alloc (Nat.le_refl _) _, Blk.new _ _ _⟩
  obtain ⟨w10, e10, hb10, Z10⟩ := F10
  have E10 := Lib.hid e10
  have B10 := B9.trans (hb10.mono B9.size)
  have V10 := V9.below hb10 V9.lt
  have O10 := O9.below hb10 O9.lt
  have Y10 := Y9.below hb10 Y9.lt
  have hx10 := (hx9.below hb10).more hb10.size
  have hy10 := (hy9.below hb10).more hb10.size
  have hz10 := (hrd9.below hb10).more hb10.size
  clear e10 hb10 V9 O9 Y9 hx9 hy9 hrd9 B9
  have t0 := cellOf Z10 0 (x := .slice Z1 r.webs.length z1) rfl
  have t1 := cellOf Z10 1 (x := .slice Z2 r.ribs.length z2) rfl
  have t2 := cellOf Z10 2 (x := .slice Z3 r.stacks.length z3) rfl
  have t3 := cellOf Z10 3 (x := .bool r.coll) rfl
  have v0 := cellOf V10 0 (x := .slice A1 r.webs.length c1) rfl
  have v1 := cellOf V10 1 (x := .slice A2 r.ribs.length c2) rfl
  have v2 := cellOf V10 2 (x := .slice A3 r.stacks.length c3) rfl
  have v3 := cellOf V10 3 (x := .bool r.coll) rfl
  have C := Lib.hid (Same_any _ _ r r w10 hz10 ((hrun.out.below B10).more B10.size))
  rw [decide_eq_true rfl] at C
  go_upto_region 7 with fail
  rw [E10.out]
  go_wp2_with fail
  refine C.out.mono ?_
  rintro e w11 ⟨rfl, hb11⟩
  have B11 := B10.trans (hb11.mono B10.size)
  have V11 := V10.below hb11 V10.lt
  have O11 := O10.below hb11 O10.lt
  have Y11 := Y10.below hb11 Y10.lt
  have hx11 := (hx10.below hb11).more hb11.size
  have hy11 := (hy10.below hb11).more hb11.size
  clear C t0 t1 t2 t3 v0 v1 v2 v3 hb11 V10 O10 Y10 Z10 hx10 hy10 hz10 B10
  have o0 := cellOf Y11 0 (x := .slice Y1 (turnD r n).webs.length y1) rfl
  have o1 := cellOf Y11 1 (x := .slice Y2 (turnD r n).ribs.length y2) rfl
  have o2 := cellOf Y11 2 (x := .slice Y3 (turnD r n).stacks.length y3) rfl
  have o3 := cellOf Y11 3 (x := .bool (turnD r n).coll) rfl
  have v0 := cellOf V11 0 (x := .slice A1 r.webs.length c1) rfl
  have v1 := cellOf V11 1 (x := .slice A2 r.ribs.length c2) rfl
  have v2 := cellOf V11 2 (x := .slice A3 r.stacks.length c3) rfl
  have v3 := cellOf V11 3 (x := .bool r.coll) rfl
  have C := Lib.hid (Same_any _ _ (turnD r n) r w11 hy11 ((hrun.out.below B11).more B11.size))
  rw [decide_eq_false (turn_ne hnl)] at C
  go_wp2_with fail
  refine C.out.mono ?_
  rintro e w12 ⟨rfl, hb12⟩
  have B12 := B11.trans (hb12.mono B11.size)
  have V12 := V11.below hb12 V11.lt
  have O12 := O11.below hb12 O11.lt
  have Y12 := Y11.below hb12 Y11.lt
  have hx12 := (hx11.below hb12).more hb12.size
  have hy12 := (hy11.below hb12).more hb12.size
  clear C o0 o1 o2 o3 v0 v1 v2 v3 hb12 V11 O11 Y11 hx11 hy11 B11
  obtain ⟨Ar, ar, ear, hlr, hRa⟩ := RRibs.open_ (by obtain ⟨u1, u2, u3, e, -, h, -⟩ := hrun.out; cases e; exact h)
  cases ear
  obtain ⟨⟨bw, bc, bd, bt, bl⟩, hb⟩ : ∃ b, r.ribs[n]? = some b := ⟨_, List.getElem?_eq_getElem hnl⟩
  obtain ⟨gr, og, rfl, hgr, m0, m1, m2, m3, m4⟩ := hRa n _ hb
  have hrb : ribAt r n = ⟨bw, bc, bd, bt, bl⟩ := by unfold ribAt; rw [Int.toNat_natCast, getD_of hb]
  have ho := rib_at Hok.out (i := (n : Int)) ⟨by omega, by omega⟩
  rw [hrb] at ho
  have ho1 := ho.col0
  have ho2 := ho.col2
  have ho3 := ho.width0
  have ho4 := ho.width1
  dsimp only at m0 m1 m2 m3 m4 ho1 ho2 ho3 ho4
  have m0 := (B12.cell (p := ⟨gr, og + n * 5, none⟩) hgr).trans m0
  have m1 := (B12.cell (p := ⟨gr, og + n * 5 + 1, none⟩) hgr).trans m1
  have m2 := (B12.cell (p := ⟨gr, og + n * 5 + 2, none⟩) hgr).trans m2
  have m3 := (B12.cell (p := ⟨gr, og + n * 5 + 3, none⟩) hgr).trans m3
  have m4 := (B12.cell (p := ⟨gr, og + n * 5 + 4, none⟩) hgr).trans m4
  have v1 := cellOf V12 1 (x := .slice (some ⟨gr, og, none⟩) r.ribs.length c2) rfl
  have hnn : (n : Int) < (r.ribs.length : Int) := by omega
  have F13 : ∃ w13, w12.alloc (.cells #[.int .i64 bw, .int .i64 bc, .int .i64 bd, .bool bt, .bool bl] 99) = w13 ∧ Below w12.heap.size w12 w13 ∧ Blk w13 w12.heap.size 99 #[.int .i64 bw, .int .i64 bc, .int .i64 bd, .bool bt, .bool bl] :=
    ⟨_, rfl, (Below.refl _ _).alloc (Nat.le_refl _) _, Blk.new _ _ _⟩
  obtain ⟨w13, e13, hb13, R13⟩ := F13
  have E13 := Lib.hid e13
  have B13 := B12.trans (hb13.mono B12.size)
  have V13 := V12.below hb13 V12.lt
  have O13 := O12.below hb13 O12.lt
  have Y13 := Y12.below hb13 Y12.lt
  have hx13 := (hx12.below hb13).more hb13.size
  have hy13 := (hy12.below hb13).more hb13.size
  clear e13 hb13 V12 O12 Y12 hx12 hy12
  obtain ⟨y0, hy0⟩ : ∃ y, r.webs[0]? = some y := ⟨_, List.getElem?_eq_getElem hn1⟩
  obtain ⟨g, o, -, rfl, hgb, -⟩ := HAW.out 0 y0 hy0
  have hcells : ∀ k x, r.webs[k]? = some x → ∀ X, Below w13.heap.size w13 X → X.cell? ⟨g, o + k * 3, none⟩ = some (.int .i64 x.cols) ∧ X.cell? ⟨g, o + k * 3 + 1, none⟩ = some (.int .i64 x.rows) := fun k x hx X hX => by
    obtain ⟨g', o', u', e, -, h1, h2, -⟩ := HAW.out k x hx
    simp only [Option.some.injEq, Addr.mk.injEq, and_true] at e
    obtain ⟨rfl, rfl⟩ := e
    have hb := B13.trans (hX.mono B13.size)
    exact ⟨(hb.cell (p := ⟨g, o + k * 3, none⟩) hgb).trans h1, (hb.cell (p := ⟨g, o + k * 3 + 1, none⟩) hgb).trans h2⟩
  have hbox : ∀ X, Below w13.heap.size w13 X → X.cell? ⟨w.heap.size, 0, none⟩ = some (.slice (some ⟨g, o, none⟩) r.webs.length c1) := fun X hX => cellOf (V13.below hX V13.lt) 0 rfl
  have hbx : ∀ X, Below w13.heap.size w13 X → X.cell? ⟨w3.heap.size, 0, none⟩ = some (.slice X1 r.webs.length d1) ∧ X.cell? ⟨w3.heap.size, 1, none⟩ = some (.slice X2 r.ribs.length d2) ∧ X.cell? ⟨w3.heap.size, 2, none⟩ = some (.slice X3 r.stacks.length d3) ∧ X.cell? ⟨w3.heap.size, 3, none⟩ = some (.bool r.coll) := fun X hX => by
    have k2 := O13.below hX O13.lt
    exact ⟨cellOf k2 0 rfl, cellOf k2 1 rfl, cellOf k2 2 rfl, cellOf k2 3 rfl⟩
  have hby : ∀ X, Below w13.heap.size w13 X → X.cell? ⟨w7.heap.size, 0, none⟩ = some (.slice Y1 (turnD r n).webs.length y1) ∧ X.cell? ⟨w7.heap.size, 1, none⟩ = some (.slice Y2 (turnD r n).ribs.length y2) ∧ X.cell? ⟨w7.heap.size, 2, none⟩ = some (.slice Y3 (turnD r n).stacks.length y3) ∧ X.cell? ⟨w7.heap.size, 3, none⟩ = some (.bool (turnD r n).coll) := fun X hX => by
    have k2 := Y13.below hX Y13.lt
    exact ⟨cellOf k2 0 rfl, cellOf k2 1 rfl, cellOf k2 2 rfl, cellOf k2 3 rfl⟩
  have hbb : ∀ X, Below w13.heap.size w13 X → X.cell? ⟨w12.heap.size, 0, none⟩ = some (.int .i64 bw) ∧ X.cell? ⟨w12.heap.size, 1, none⟩ = some (.int .i64 bc) ∧ X.cell? ⟨w12.heap.size, 2, none⟩ = some (.int .i64 bd) := fun X hX => by
    have k2 := R13.below hX R13.lt
    exact ⟨cellOf k2 0 rfl, cellOf k2 1 rfl, cellOf k2 2 rfl⟩
  have hcx : ∀ (X : World) (sw ss sr sc : Int) (p : PlaceD), Below w13.heap.size w13 X → followD r ⟨sw, ss, sr, sc⟩ = (p, 0) → Calls Try.prog 23 #[.agg #[.slice X1 r.webs.length d1, .slice X2 r.ribs.length d2, .slice X3 r.stacks.length d3, .bool r.coll], .agg #[.int .i64 sw, .int .i64 ss, .int .i64 sr, .int .i64 sc]] X fun e w' => e = .returned (.tuple #[.agg #[.int .i64 p.copy, .int .i64 p.sec, .int .i64 p.idx], .int .i64 0]) ∧ Below X.heap.size X w' := fun X sw ss sr sc p hX hp => by
    have := Follow_any _ r ⟨sw, ss, sr, sc⟩ X ((hx13.below hX).more hX.size)
    rw [hp] at this
    exact this
  have hcy : ∀ (X : World) (sw ss sr sc : Int) (p : PlaceD), Below w13.heap.size w13 X → followD (turnD r n) ⟨sw, ss, sr, sc⟩ = (p, 0) → Calls Try.prog 23 #[.agg #[.slice Y1 (turnD r n).webs.length y1, .slice Y2 (turnD r n).ribs.length y2, .slice Y3 (turnD r n).stacks.length y3, .bool (turnD r n).coll], .agg #[.int .i64 sw, .int .i64 ss, .int .i64 sr, .int .i64 sc]] X fun e w' => e = .returned (.tuple #[.agg #[.int .i64 p.copy, .int .i64 p.sec, .int .i64 p.idx], .int .i64 0]) ∧ Below X.heap.size X w' := fun X sw ss sr sc p hX hp => by
    have := Follow_any _ (turnD r n) ⟨sw, ss, sr, sc⟩ X ((hy13.below hX).more hX.size)
    rw [hp] at this
    exact this
  have HW := Lib.hid hcells
  have HV := Lib.hid hbox
  have HBX := Lib.hid hbx
  have HBY := Lib.hid hby
  have HBB := Lib.hid hbb
  have HCX := Lib.hid hcx
  have HCY := Lib.hid hcy
  have HRB := Lib.hid hrb
  have nz3 : w3.heap.size < w13.heap.size := O13.lt
  have nz0 : w.heap.size < w13.heap.size := V13.lt
  have nz7 : w7.heap.size < w13.heap.size := Y13.lt
  have nz12 : w12.heap.size < w13.heap.size := R13.lt
  clear hcells hbox hbx hby hbb hcx hcy HAW V13 O13 Y13 R13 hx13 hy13 hy0 hn1 hm1 hm2 hrb ho hb hRa
  go_upto_region 10 with fail
  rw [E13.out]
  clear v1 m0 m1 m2 m3 m4 hnn
  go_wp2
  go_loopw [12] (fun i wr => ∃ a : Nat, a ≤ r.webs.length ∧ i = .int .i64 a ∧ Below w13.heap.size w13 wr) (fun i _ => r.webs.length - (intOf i).toNat)
  case atStart => exact ⟨0, Nat.zero_le _, rfl, Below.refl _ _⟩
  case round =>
    obtain ⟨a, ha, rfl, hB⟩ := hrel
    have v0 := HV.out wr hB
    by_cases hlt : a < r.webs.length
    case neg =>
      have BF := B13.trans (hB.mono B13.size)
      go_wp2_with fail
      refine (awake_any _).mono ?_
      rintro e w20 ⟨rfl, hb20⟩
      go_wp2
      go_ret
      exact ⟨rfl, BF.trans (hb20.mono BF.size)⟩
    obtain ⟨x, hx⟩ : ∃ x, r.webs[a]? = some x := ⟨_, List.getElem?_eq_getElem hlt⟩
    have hwx := webs_ok (parts_ok Hok.out 1 (by omega)) x (List.mem_of_getElem? hx)
    obtain ⟨wc1, wc2, wr1, wr2, -⟩ := hwx
    have hia : (a : Int) < (r.webs.length : Int) := by omega
    have HX := Lib.hid hx
    clear hx
    go_wp2
    clear v0
    obtain ⟨wo, rfl⟩ : ∃ wo, wo = wr := ⟨wr, rfl⟩
    go_loopw [13] (fun i wr => ∃ sd : Nat, sd ≤ 2 ∧ i = .int .i64 sd ∧ Below w13.heap.size w13 wr) (fun i _ => 2 - (intOf i).toNat)
    case atStart => exact ⟨0, by omega, rfl, hB⟩
    case round =>
      clear hB
      obtain ⟨sd, hsd, rfl, hB⟩ := hrel
      by_cases hlts : sd < 2
      case neg =>
        go_wp2
        go_roundw
        case rel => exact ⟨a + 1, by omega, by go_num, hB⟩
        case measure => simp [intOf]; omega
      have hls : (sd : Int) < 2 := by omega
      go_wp2
      obtain ⟨wo2, rfl⟩ : ∃ wo2, wo2 = wr := ⟨wr, rfl⟩
      go_loopw [14] (fun i wr => ∃ b : Nat, (b : Int) ≤ x.rows ∧ i = .int .i64 b ∧ Below w13.heap.size w13 wr) (fun i _ => x.rows.toNat - (intOf i).toNat)
      case atStart => exact ⟨0, by omega, rfl, hB⟩
      case round =>
        clear hB
        obtain ⟨b, hb, rfl, hB⟩ := hrel
        have v0 := HV.out wr hB
        obtain ⟨q0, q1⟩ := HW.out a x HX.out wr hB
        by_cases hltb : (b : Int) < x.rows
        case neg =>
          go_wp2
          go_roundw
          case rel => exact ⟨sd + 1, by omega, by go_num, hB⟩
          case measure => simp [intOf]; omega
        go_wp2
        clear v0 q0 q1
        obtain ⟨wp, rfl⟩ : ∃ wp, wp = wr := ⟨wr, rfl⟩
        go_loopw [15] (fun i wr => ∃ c : Nat, (c : Int) ≤ x.cols ∧ i = .int .i64 c ∧ Below w13.heap.size w13 wr) (fun i _ => x.cols.toNat - (intOf i).toNat)
        case atStart => exact ⟨0, by omega, rfl, hB⟩
        case round =>
          clear hB
          obtain ⟨c, hc, rfl, hB⟩ := hrel
          have v0 := HV.out wr hB
          obtain ⟨q0, q1⟩ := HW.out a x HX.out wr hB
          by_cases hltc : (c : Int) < x.cols
          case neg =>
            go_wp2
            go_roundw
            case rel => exact ⟨b + 1, by omega, by go_num, hB⟩
            case measure => simp [intOf]; omega
          obtain ⟨⟨pc, pk, pi⟩, hp, hq⟩ := turn_spot Hok.out hnl HX.out (sd := sd) (by omega) hltb hltc
          rw [HRB.out] at hq
          have HP := Lib.hid hp
          have HQ := Lib.hid hq
          have F16 : ∃ w16, (wr.alloc (.cells #[.int .i64 a, .int .i64 sd, .int .i64 b, .int .i64 c] 53)).alloc (.cells #[.int .i64 a, .int .i64 sd, .int .i64 b, .int .i64 c] 53) = w16 ∧ Below wr.heap.size wr w16 ∧ w16.heap.size = wr.heap.size + 2 ∧ Blk w16 wr.heap.size 53 #[.int .i64 a, .int .i64 sd, .int .i64 b, .int .i64 c] ∧ Blk w16 (wr.heap.size + 1) 53 #[.int .i64 a, .int .i64 sd, .int .i64 b, .int .i64 c] :=
            ⟨_, rfl, ((Below.refl _ _).alloc (Nat.le_refl _) _).alloc (by simp) _, by simp, (Blk.new _ _ _).alloc _, blk_new (by simp) _ _⟩
          obtain ⟨w16, e16, hb16, z16, S16, T16⟩ := F16
          have E16 := Lib.hid e16
          have B16 := hB.trans (hb16.mono hB.size)
          have hwz := hB.size
          clear hp hq e16 hb16 z16
          go_upto_region 24 with fail
          rw [E16.out]
          obtain ⟨m0, m1, m2⟩ := HBB.out w16 B16
          have s0 := cellOf S16 0 (x := .int .i64 a) rfl
          have s1 := cellOf S16 1 (x := .int .i64 sd) rfl
          have s2 := cellOf S16 2 (x := .int .i64 b) rfl
          have s3 := cellOf S16 3 (x := .int .i64 c) rfl
          have hoff : ¬ ((a : Int) = bw ∧ bc ≤ (c : Int) ∧ (c : Int) < bc + bd) → TurnSt w13 r n wr.heap.size a sd b c ⟨pc, pk, pi⟩ w16 := fun h => by
            refine ⟨sd, c, S16, T16, B16, ?_⟩
            have hq := HQ.out
            unfold flipS onRib at hq
            rw [decide_eq_false h] at hq
            exact hq
          have HOff := Lib.hid hoff
          clear hoff q0 q1 v0
          by_cases g1 : (a : Int) = bw
          case neg =>
            have hst := HOff.out (fun h => g1 h.1)
            have k1 : ((a : Int) == bw) = false := by simpa using g1
            clear g1 S16 T16 HOff
            go_upto_region 26 with fail
            clear m0 m1 m2 s0 s1 s2 s3 k1
            obtain ⟨w17, rfl⟩ : ∃ w17, w17 = w16 := ⟨w16, rfl⟩
            obtain ⟨sd', c', hS17, hT17, hB17, hq17⟩ := hst
            obtain ⟨o0, o1, o2, o3⟩ := HBX.out w17 hB17
            have s0 := cellOf hS17 0 (x := .int .i64 a) rfl
            have s1 := cellOf hS17 1 (x := .int .i64 sd) rfl
            have s2 := cellOf hS17 2 (x := .int .i64 b) rfl
            have s3 := cellOf hS17 3 (x := .int .i64 c) rfl
            have C := Lib.hid (HCX.out w17 a sd b c ⟨pc, pk, pi⟩ hB17 HP.out)
            go_upto_region 26 with fail
            go_wp2_with fail
            refine C.out.mono ?_
            rintro e w18 ⟨rfl, hb18⟩
            have F19 : ∃ w19, w18.alloc (.cells #[.int .i64 pc, .int .i64 pk, .int .i64 pi] 56) = w19 ∧ Below w18.heap.size w18 w19 ∧ Blk w19 w18.heap.size 56 #[.int .i64 pc, .int .i64 pk, .int .i64 pi] := ⟨_, rfl, (Below.refl _ _).alloc (Nat.le_refl _) _, Blk.new _ _ _⟩
            obtain ⟨w19, e19, hb19, P19⟩ := F19
            have E19 := Lib.hid e19
            have B18 := hB17.trans (hb18.mono hB17.size)
            have B19 := B18.trans (hb19.mono B18.size)
            have T19 := (hT17.below hb18 hT17.lt).below hb19 (Nat.lt_of_lt_of_le hT17.lt hb18.size)
            clear o0 o1 o2 o3 s0 s1 s2 s3 C hb18 hb19 e19 hS17 hT17 hB17 B18
            obtain ⟨o0, o1, o2, o3⟩ := HBY.out w19 B19
            have s0 := cellOf T19 0 (x := .int .i64 a) rfl
            have s1 := cellOf T19 1 (x := .int .i64 sd') rfl
            have s2 := cellOf T19 2 (x := .int .i64 b) rfl
            have s3 := cellOf T19 3 (x := .int .i64 c') rfl
            have C := Lib.hid (HCY.out w19 a sd' b c' ⟨pc, pk, pi⟩ B19 hq17)
            go_upto_region 27 with fail
            rw [E19.out]
            go_wp2_with fail
            refine C.out.mono ?_
            rintro e w20 ⟨rfl, hb20⟩
            have F21 : ∃ w21, w20.alloc (.cells #[.int .i64 pc, .int .i64 pk, .int .i64 pi] 56) = w21 ∧ Below w20.heap.size w20 w21 ∧ Blk w21 w20.heap.size 56 #[.int .i64 pc, .int .i64 pk, .int .i64 pi] := ⟨_, rfl, (Below.refl _ _).alloc (Nat.le_refl _) _, Blk.new _ _ _⟩
            obtain ⟨w21, e21, hb21, Q21⟩ := F21
            have E21 := Lib.hid e21
            have P21 := (P19.below hb20 P19.lt).below hb21 (Nat.lt_of_lt_of_le P19.lt hb20.size)
            have B20 := B19.trans (hb20.mono B19.size)
            have B21 := B20.trans (hb21.mono B20.size)
            clear o0 o1 o2 o3 s0 s1 s2 s3 C hb20 hb21 e21 T19 P19 B19 B20
            have p0 := cellOf P21 0 (x := .int .i64 pc) rfl
            have p1 := cellOf P21 1 (x := .int .i64 pk) rfl
            have p2 := cellOf P21 2 (x := .int .i64 pi) rfl
            have r0 := cellOf Q21 0 (x := .int .i64 pc) rfl
            have r1 := cellOf Q21 1 (x := .int .i64 pk) rfl
            have r2 := cellOf Q21 2 (x := .int .i64 pi) rfl
            clear P21 Q21
            go_upto_region 28 with fail
            rw [E21.out]
            have hpe := eqPlace pc pk pi
            go_wp2
            go_roundw
            case rel => exact ⟨c + 1, by omega, by go_num, B21⟩
            case measure => simp [intOf]; omega
          have k1 : ((a : Int) == bw) = true := by simpa using g1
          by_cases g2 : bc ≤ (c : Int)
          case neg =>
            have hst := HOff.out (fun h => g2 h.2.1)
            clear g1 S16 T16 HOff
            go_upto_region 26 with fail
            clear m0 m1 m2 s0 s1 s2 s3 k1 g2
            obtain ⟨w17, rfl⟩ : ∃ w17, w17 = w16 := ⟨w16, rfl⟩
            obtain ⟨sd', c', hS17, hT17, hB17, hq17⟩ := hst
            obtain ⟨o0, o1, o2, o3⟩ := HBX.out w17 hB17
            have s0 := cellOf hS17 0 (x := .int .i64 a) rfl
            have s1 := cellOf hS17 1 (x := .int .i64 sd) rfl
            have s2 := cellOf hS17 2 (x := .int .i64 b) rfl
            have s3 := cellOf hS17 3 (x := .int .i64 c) rfl
            have C := Lib.hid (HCX.out w17 a sd b c ⟨pc, pk, pi⟩ hB17 HP.out)
            go_upto_region 26 with fail
            go_wp2_with fail
            refine C.out.mono ?_
            rintro e w18 ⟨rfl, hb18⟩
            have F19 : ∃ w19, w18.alloc (.cells #[.int .i64 pc, .int .i64 pk, .int .i64 pi] 56) = w19 ∧ Below w18.heap.size w18 w19 ∧ Blk w19 w18.heap.size 56 #[.int .i64 pc, .int .i64 pk, .int .i64 pi] := ⟨_, rfl, (Below.refl _ _).alloc (Nat.le_refl _) _, Blk.new _ _ _⟩
            obtain ⟨w19, e19, hb19, P19⟩ := F19
            have E19 := Lib.hid e19
            have B18 := hB17.trans (hb18.mono hB17.size)
            have B19 := B18.trans (hb19.mono B18.size)
            have T19 := (hT17.below hb18 hT17.lt).below hb19 (Nat.lt_of_lt_of_le hT17.lt hb18.size)
            clear o0 o1 o2 o3 s0 s1 s2 s3 C hb18 hb19 e19 hS17 hT17 hB17 B18
            obtain ⟨o0, o1, o2, o3⟩ := HBY.out w19 B19
            have s0 := cellOf T19 0 (x := .int .i64 a) rfl
            have s1 := cellOf T19 1 (x := .int .i64 sd') rfl
            have s2 := cellOf T19 2 (x := .int .i64 b) rfl
            have s3 := cellOf T19 3 (x := .int .i64 c') rfl
            have C := Lib.hid (HCY.out w19 a sd' b c' ⟨pc, pk, pi⟩ B19 hq17)
            go_upto_region 27 with fail
            rw [E19.out]
            go_wp2_with fail
            refine C.out.mono ?_
            rintro e w20 ⟨rfl, hb20⟩
            have F21 : ∃ w21, w20.alloc (.cells #[.int .i64 pc, .int .i64 pk, .int .i64 pi] 56) = w21 ∧ Below w20.heap.size w20 w21 ∧ Blk w21 w20.heap.size 56 #[.int .i64 pc, .int .i64 pk, .int .i64 pi] := ⟨_, rfl, (Below.refl _ _).alloc (Nat.le_refl _) _, Blk.new _ _ _⟩
            obtain ⟨w21, e21, hb21, Q21⟩ := F21
            have E21 := Lib.hid e21
            have P21 := (P19.below hb20 P19.lt).below hb21 (Nat.lt_of_lt_of_le P19.lt hb20.size)
            have B20 := B19.trans (hb20.mono B19.size)
            have B21 := B20.trans (hb21.mono B20.size)
            clear o0 o1 o2 o3 s0 s1 s2 s3 C hb20 hb21 e21 T19 P19 B19 B20
            have p0 := cellOf P21 0 (x := .int .i64 pc) rfl
            have p1 := cellOf P21 1 (x := .int .i64 pk) rfl
            have p2 := cellOf P21 2 (x := .int .i64 pi) rfl
            have r0 := cellOf Q21 0 (x := .int .i64 pc) rfl
            have r1 := cellOf Q21 1 (x := .int .i64 pk) rfl
            have r2 := cellOf Q21 2 (x := .int .i64 pi) rfl
            clear P21 Q21
            go_upto_region 28 with fail
            rw [E21.out]
            have hpe := eqPlace pc pk pi
            go_wp2
            go_roundw
            case rel => exact ⟨c + 1, by omega, by go_num, B21⟩
            case measure => simp [intOf]; omega
          have kw : IntKind.i64.wrap (bc + bd) = bc + bd := IntWalk.i64_in _ ⟨by omega, by omega⟩
          by_cases g3 : (c : Int) < bc + bd
          case neg =>
            have hst := HOff.out (fun h => g3 h.2.2)
            clear g1 S16 T16 HOff
            go_upto_region 26 with fail
            clear m0 m1 m2 s0 s1 s2 s3 k1 g2 g3 kw
            obtain ⟨w17, rfl⟩ : ∃ w17, w17 = w16 := ⟨w16, rfl⟩
            obtain ⟨sd', c', hS17, hT17, hB17, hq17⟩ := hst
            obtain ⟨o0, o1, o2, o3⟩ := HBX.out w17 hB17
            have s0 := cellOf hS17 0 (x := .int .i64 a) rfl
            have s1 := cellOf hS17 1 (x := .int .i64 sd) rfl
            have s2 := cellOf hS17 2 (x := .int .i64 b) rfl
            have s3 := cellOf hS17 3 (x := .int .i64 c) rfl
            have C := Lib.hid (HCX.out w17 a sd b c ⟨pc, pk, pi⟩ hB17 HP.out)
            go_upto_region 26 with fail
            go_wp2_with fail
            refine C.out.mono ?_
            rintro e w18 ⟨rfl, hb18⟩
            have F19 : ∃ w19, w18.alloc (.cells #[.int .i64 pc, .int .i64 pk, .int .i64 pi] 56) = w19 ∧ Below w18.heap.size w18 w19 ∧ Blk w19 w18.heap.size 56 #[.int .i64 pc, .int .i64 pk, .int .i64 pi] := ⟨_, rfl, (Below.refl _ _).alloc (Nat.le_refl _) _, Blk.new _ _ _⟩
            obtain ⟨w19, e19, hb19, P19⟩ := F19
            have E19 := Lib.hid e19
            have B18 := hB17.trans (hb18.mono hB17.size)
            have B19 := B18.trans (hb19.mono B18.size)
            have T19 := (hT17.below hb18 hT17.lt).below hb19 (Nat.lt_of_lt_of_le hT17.lt hb18.size)
            clear o0 o1 o2 o3 s0 s1 s2 s3 C hb18 hb19 e19 hS17 hT17 hB17 B18
            obtain ⟨o0, o1, o2, o3⟩ := HBY.out w19 B19
            have s0 := cellOf T19 0 (x := .int .i64 a) rfl
            have s1 := cellOf T19 1 (x := .int .i64 sd') rfl
            have s2 := cellOf T19 2 (x := .int .i64 b) rfl
            have s3 := cellOf T19 3 (x := .int .i64 c') rfl
            have C := Lib.hid (HCY.out w19 a sd' b c' ⟨pc, pk, pi⟩ B19 hq17)
            go_upto_region 27 with fail
            rw [E19.out]
            go_wp2_with fail
            refine C.out.mono ?_
            rintro e w20 ⟨rfl, hb20⟩
            have F21 : ∃ w21, w20.alloc (.cells #[.int .i64 pc, .int .i64 pk, .int .i64 pi] 56) = w21 ∧ Below w20.heap.size w20 w21 ∧ Blk w21 w20.heap.size 56 #[.int .i64 pc, .int .i64 pk, .int .i64 pi] := ⟨_, rfl, (Below.refl _ _).alloc (Nat.le_refl _) _, Blk.new _ _ _⟩
            obtain ⟨w21, e21, hb21, Q21⟩ := F21
            have E21 := Lib.hid e21
            have P21 := (P19.below hb20 P19.lt).below hb21 (Nat.lt_of_lt_of_le P19.lt hb20.size)
            have B20 := B19.trans (hb20.mono B19.size)
            have B21 := B20.trans (hb21.mono B20.size)
            clear o0 o1 o2 o3 s0 s1 s2 s3 C hb20 hb21 e21 T19 P19 B19 B20
            have p0 := cellOf P21 0 (x := .int .i64 pc) rfl
            have p1 := cellOf P21 1 (x := .int .i64 pk) rfl
            have p2 := cellOf P21 2 (x := .int .i64 pi) rfl
            have r0 := cellOf Q21 0 (x := .int .i64 pc) rfl
            have r1 := cellOf Q21 1 (x := .int .i64 pk) rfl
            have r2 := cellOf Q21 2 (x := .int .i64 pi) rfl
            clear P21 Q21
            go_upto_region 28 with fail
            rw [E21.out]
            have hpe := eqPlace pc pk pi
            go_wp2
            go_roundw
            case rel => exact ⟨c + 1, by omega, by go_num, B21⟩
            case measure => simp [intOf]; omega
          have hq2 : followD (turnD r n) ⟨a, 1 - (sd : Int), b, 2 * bc + bd - 1 - c⟩ = (⟨pc, pk, pi⟩, 0) := by
            have hq := HQ.out
            unfold flipS onRib at hq
            rw [decide_eq_true ⟨g1, g2, g3⟩] at hq
            exact hq
          have HQ2 := Lib.hid hq2
          have HS16 := Lib.hid S16
          have HT16 := Lib.hid T16
          have t1 := cellOf T16 1 (x := .int .i64 sd) rfl
          have t3 := cellOf T16 3 (x := .int .i64 c) rfl
          have f1 := T16.frozen 1
          have f3 := T16.frozen 3
          have hfl := flip_cut (b' := .int .i64 (1 - (sd : Int))) (d' := .int .i64 (2 * bc + bd - 1 - (c : Int))) (S := wr.heap.size) (T := wr.heap.size + 1) (by omega) (by omega) B16 S16 T16
          have HFL := Lib.hid hfl
          clear HOff hq2 hfl
          go_upto_region 25 with fail
          have w1 : IntKind.i64.wrap (1 - (sd : Int)) = 1 - (sd : Int) := IntWalk.i64_in _ ⟨by omega, by omega⟩
          have w2 : IntKind.i64.wrap (2 * bc) = 2 * bc := IntWalk.i64_in _ ⟨by omega, by omega⟩
          have w3' : IntKind.i64.wrap (2 * bc + bd) = 2 * bc + bd := IntWalk.i64_in _ ⟨by omega, by omega⟩
          have w4' : IntKind.i64.wrap (2 * bc + bd - 1) = 2 * bc + bd - 1 := IntWalk.i64_in _ ⟨by omega, by omega⟩
          have w5' : IntKind.i64.wrap (2 * bc + bd - 1 - (c : Int)) = 2 * bc + bd - 1 - (c : Int) := IntWalk.i64_in _ ⟨by omega, by omega⟩
          have ne12 : w12.heap.size ≠ wr.heap.size + 1 := by omega
          have ne21 : wr.heap.size + 1 ≠ w12.heap.size := by omega
          clear s0 s1 s2 s3 S16 T16 k1 kw
          go_cut [139] (fun _ wx => TurnSt w13 r n wr.heap.size a sd b c ⟨pc, pk, pi⟩ wx)
          case first =>
            go_region
            all_goals (go_wp2_with fail; go_meet; exact ⟨_, _, HFL.out.1, HFL.out.2.1, HFL.out.2.2, HQ2.out⟩)
          case rest =>
            have hst := hcut
            clear hcut m0 m1 m2 t1 t3 f1 f3 w1 w2 w3' w4' w5' ne12 ne21 g1 g2 g3 HS16 HT16
            obtain ⟨w17, rfl⟩ : ∃ w17, w17 = wc := ⟨wc, rfl⟩
            obtain ⟨sd', c', hS17, hT17, hB17, hq17⟩ := hst
            obtain ⟨o0, o1, o2, o3⟩ := HBX.out w17 hB17
            have s0 := cellOf hS17 0 (x := .int .i64 a) rfl
            have s1 := cellOf hS17 1 (x := .int .i64 sd) rfl
            have s2 := cellOf hS17 2 (x := .int .i64 b) rfl
            have s3 := cellOf hS17 3 (x := .int .i64 c) rfl
            have C := Lib.hid (HCX.out w17 a sd b c ⟨pc, pk, pi⟩ hB17 HP.out)
            go_upto_region 26 with fail
            go_wp2_with fail
            refine C.out.mono ?_
            rintro e w18 ⟨rfl, hb18⟩
            have F19 : ∃ w19, w18.alloc (.cells #[.int .i64 pc, .int .i64 pk, .int .i64 pi] 56) = w19 ∧ Below w18.heap.size w18 w19 ∧ Blk w19 w18.heap.size 56 #[.int .i64 pc, .int .i64 pk, .int .i64 pi] := ⟨_, rfl, (Below.refl _ _).alloc (Nat.le_refl _) _, Blk.new _ _ _⟩
            obtain ⟨w19, e19, hb19, P19⟩ := F19
            have E19 := Lib.hid e19
            have B18 := hB17.trans (hb18.mono hB17.size)
            have B19 := B18.trans (hb19.mono B18.size)
            have T19 := (hT17.below hb18 hT17.lt).below hb19 (Nat.lt_of_lt_of_le hT17.lt hb18.size)
            clear o0 o1 o2 o3 s0 s1 s2 s3 C hb18 hb19 e19 hS17 hT17 hB17 B18
            obtain ⟨o0, o1, o2, o3⟩ := HBY.out w19 B19
            have s0 := cellOf T19 0 (x := .int .i64 a) rfl
            have s1 := cellOf T19 1 (x := .int .i64 sd') rfl
            have s2 := cellOf T19 2 (x := .int .i64 b) rfl
            have s3 := cellOf T19 3 (x := .int .i64 c') rfl
            have C := Lib.hid (HCY.out w19 a sd' b c' ⟨pc, pk, pi⟩ B19 hq17)
            go_upto_region 27 with fail
            rw [E19.out]
            go_wp2_with fail
            refine C.out.mono ?_
            rintro e w20 ⟨rfl, hb20⟩
            have F21 : ∃ w21, w20.alloc (.cells #[.int .i64 pc, .int .i64 pk, .int .i64 pi] 56) = w21 ∧ Below w20.heap.size w20 w21 ∧ Blk w21 w20.heap.size 56 #[.int .i64 pc, .int .i64 pk, .int .i64 pi] := ⟨_, rfl, (Below.refl _ _).alloc (Nat.le_refl _) _, Blk.new _ _ _⟩
            obtain ⟨w21, e21, hb21, Q21⟩ := F21
            have E21 := Lib.hid e21
            have P21 := (P19.below hb20 P19.lt).below hb21 (Nat.lt_of_lt_of_le P19.lt hb20.size)
            have B20 := B19.trans (hb20.mono B19.size)
            have B21 := B20.trans (hb21.mono B20.size)
            clear o0 o1 o2 o3 s0 s1 s2 s3 C hb20 hb21 e21 T19 P19 B19 B20
            have p0 := cellOf P21 0 (x := .int .i64 pc) rfl
            have p1 := cellOf P21 1 (x := .int .i64 pk) rfl
            have p2 := cellOf P21 2 (x := .int .i64 pi) rfl
            have r0 := cellOf Q21 0 (x := .int .i64 pc) rfl
            have r1 := cellOf Q21 1 (x := .int .i64 pk) rfl
            have r2 := cellOf Q21 2 (x := .int .i64 pi) rfl
            clear P21 Q21
            go_upto_region 28 with fail
            rw [E21.out]
            have hpe := eqPlace pc pk pi
            go_wp2
            go_roundw
            case rel => exact ⟨c + 1, by omega, by go_num, B21⟩
            case measure => simp [intOf]; omega
end Go.Proofs.Ytdbfhdncjblleaa
namespace Go.Proofs.Ytdbfhdncjblleaa
open Go.ChangeShapes Go.WideShapes Go.ChangeAt Go.RowKit

theorem own2 : ownKnob Try.prog.godebug = none := by kernel_rfl
theorem laidOut2 : laidOutB Try.prog = true := by kernel_rfl

set_option maxRecDepth 100000 in
theorem turns_contract (H : Type) (enc : TypeId × Value → H) (W : World) (base : Nat) (args : Array Value) (ds gs : List (DataW H)) (before : List MemPlace)
    (hval : ∀ (j : Nat) t v, Try.f8.params[j]? = some t → args[j]? = some v → Value.okWide Try.prog W .any base t v)
    (hW : DataW.Whole enc Try.prog Try.f8.params.toList Rows.foldTurnsSpec.vars false W args.toList ds gs before) (hk : Rows.uptoSmall H (ds ++ gs) = true) :
    Calls Try.prog 8 args W fun e W' => ∃ v, e = .returned v ∧ Rows.foldTurnsSpec.post enc Try.prog Try.f8 false true false false W args v W' := by
  have hW' := hW
  obtain ⟨p, q, hA0, hV, rfl, hfz, hnd⟩ := hW
  have hA : DataW.TrodAll enc Try.prog W 0 (fun _ => true) true Try.f8.params.toList args.toList ds p := hA0
  rw [Try.params8] at hA hval
  obtain ⟨v0, vs0, d0, ds0, p0, q0, hargs0, rfl, rfl, h0, r0⟩ := trodAll_cons hA
  obtain ⟨v1, vs1, d1, ds1, p1, q1, hargs1, rfl, rfl, h1, r1⟩ := trodAll_cons r0
  obtain ⟨rfl, rfl, rfl⟩ := trodAll_nil r1
  subst hargs1
  obtain rfl : args = #[v0, v1] := by cases args; simp_all
  obtain ⟨rfl, rfl⟩ := trodVars_none hV
  obtain ⟨a1, rfl, rfl, rfl, w1⟩ := open_int Try.underlying3 (hval 1 3 v1 rfl rfl) h1
  clear hA0
  simp only [List.append_nil] at hW' hk
  have hbk : Rows.uptoBulk d0 ≤ 1048576 := by
    have h : Rows.uptoBulkAll [d0, .lit (.int .i64 a1)] ≤ 1048576 := of_decide_eq_true hk
    simp only [Rows.uptoBulkAll] at h
    omega
  obtain ⟨r, hr, hbd⟩ := run_of (hval 0 26 v0 rfl rfl) h0 hbk
  have hlt : ∀ x ∈ p0, x.block < W.heap.size := fun x hx => by simpa using hW'.lt x (by simp [hx])
  have hargs : ∀ (W' : World), Below W.heap.size W W' → DataW.Trod enc Try.prog W' 0 (fun b => decide (b < W.heap.size)) true 26 v0 d0 p0 :=
    fun W' hn => Below.trod laidOut2 (by kernel_rfl) (of_decide_eq_true (by kernel_rfl)) h0 hn hlt
  refine (Turns_any v0 r a1 W hr hbd).mono fun e W' ⟨he, hnx⟩ => ?_
  subst he
  exact ⟨_, rfl, _, _, _, [], p0 ++ ([] ++ []), [], hW', trodAll_cons_mk (shut_bool Try.underlying4 _) trodAll_mk0, trodAll_cons_mk (hargs _ hnx) (trodAll_cons_mk (shut_int Try.underlying3 w1) trodAll_mk0), rfl, hnx.frame _, fun h => by cases h⟩

set_option maxRecDepth 100000 in
theorem turns_lifted (os : Os) (started : os.Started) (H : Type) (enc : TypeId × Value → H) (F : Stop.Interp) :
    ReturnsInHanded {} Try.checked os 8 .any ((Rows.OpenSpec.upto Rows.foldTurnsSpec).pre6 enc Try.prog Try.f8 Rows.foldTurnsUptoRow.domain false) (((Rows.OpenSpec.upto Rows.foldTurnsSpec).at F).post enc Try.prog Try.f8 false true false false) := by
  refine returnsInHanded_of_cond (C := Try.checked) (s := Rows.OpenSpec.upto Rows.foldTurnsSpec) (k := Rows.uptoSmall) rfl own2 started (by kernel_rfl) Try.func8
    (OpenSpec.witness (enc := enc) (C := Try.checked) (s := Rows.OpenSpec.upto Rows.foldTurnsSpec) (k := Rows.uptoSmall) rfl false ⟨#[], #[.agg #[.slice none 0 0, .slice none 0 0, .slice none 0 0, .bool false], .int .i64 0], []⟩ 8 (by kernel_rfl) (by kernel_rfl) (by kernel_rfl)
      (x := ([.agg [.nil, .nil, .nil, .lit (.bool false)], .lit (.int .i64 0)], [], [])) (by kernel_rfl) rfl (by kernel_rfl)) ?_
  intro W base args ds gs before hval hW _ hk _
  exact turns_contract H enc W base args ds gs before hval hW hk

theorem turns_proved : Rows.FoldTurnsUptoSaid :=
  OpenClaim.holds_of_cond 8 Try.f8 rfl rfl rfl rfl rfl rfl rfl ⟨rfl, rfl, rfl, rfl, rfl⟩ rfl rfl rfl rfl rfl (by kernel_rfl) Try.func8 (by kernel_rfl)
    (of_decide_eq_true (by kernel_rfl)) (by unfold Func.isWrapper; first | (rw [if_pos (by decide +kernel)]; kernel_rfl) | (rw [if_neg (by decide +kernel)]; exact ⟨rfl, rfl⟩))
    (fun os started H enc _ F => turns_lifted os started H enc F)
#print axioms turns_proved
end Go.Proofs.Ytdbfhdncjblleaa
