/-
  FoldBoth: the walk.
  FoldBoth, where what it reads is of bulk at most 1048576: it returns true, and the input reads as it did.
-/
import Derived.Test.YtdbfhdncjblleaaKo
import Derived.Test.YtdbfhdncjblleaaTu
import Derived.Test.YtdbfhdncjblleaaKn
namespace Go.Proofs.Ytdbfhdncjblleaa
open Go.RowKit

theorem fieldsSp : Try.prog.underlying 53 = some (.struct (Try.prog.fieldsOf 53)) := by kernel_rfl
/-- A spot of the grid and the place where it prints, which says back where it is printed. -/
theorem both_spot {r : RunD} (h : checkE r = 0) {a row c : Nat} {sd : Int} {x : WebD} (hx : r.webs[a]? = some x) (hs : sd = 0 ∨ sd = 1) (hrow : (row : Int) < x.rows) (hc : (c : Int) < x.cols) :
    ∃ (pc pk pi : Nat) (z : Int), followO r ⟨a, sd, row, c⟩ = some ⟨pc, pk, pi⟩ ∧ followD r ⟨a, sd, row, c⟩ = (⟨pc, pk, pi⟩, 0) ∧ whereD r ⟨pc, pk, pi⟩ = (⟨a, sd, row, c⟩, 0) ∧ (sizesD r)[pk]? = some z ∧ (pi : Int) < z := by
  have ha := (List.getElem?_eq_some_iff.1 hx).1
  have hw := webs_ok (parts_ok h 1 (by omega)) x (List.mem_of_getElem? hx)
  obtain ⟨p, hp⟩ := follow_some h (spot_there h (w := a) (row := row) (c := c) sd ha (by omega) (by rw [getD_of hx]; exact hc) hs)
  obtain ⟨pc, pk, pi, z, rfl, h1, h2⟩ := place_within h hp
  exact ⟨pc, pk, pi, z, hp, follow_yes h hp, where_yes h ((follow_where h).1 hp), h1, h2⟩

/-- A map step in the walk, by what it leaves. -/
theorem wpList_map_ex {P : Program} {w : World} {Φ : World → Prop} {ops : Array Oper} {rest : List Oper} {o : Oper} {a : Act} {Q : Exit → Act → World → Prop} (hg : o.guard = none) (m x v : Operand) (t : TypeId) (hop : o.op = Op.mapUpdate t m x v)
    (hrun : ∃ w1, (Instr.mapUpdate t (a.eval m) (a.eval x) (a.eval v)).run P w = .ok () w1 ∧ Φ w1) (h : ∀ w1, Φ w1 → wpList P ops Q rest (a.put o.dst undef) w1) : wpList P ops Q (o :: rest) a w := by
  obtain ⟨w1, h1, h2⟩ := hrun
  exact wpList_mapUpdate_run hg m x v t hop h1 (h w1 h2)

set_option maxRecDepth 100000 in
set_option maxHeartbeats 4000000 in
theorem Both_any (v : Value) (r : RunD) (w : World) (h : RRun w.heap.size w v r) (hbd : Bounded r) : Calls Try.prog 6 #[v] w fun e w' => e = .returned (.bool true) ∧ Below w.heap.size w w' := by
  have hrun := Lib.hid h
  have HBd := Lib.hid hbd
  obtain ⟨A1, c1, A2, c2, A3, c3, rfl⟩ := h.shape
  obtain ⟨Ax, cx, ex, hlw, hAw⟩ := (h.webs).open_
  cases ex
  have HAW := Lib.hid hAw
  clear h hbd hAw
  have F0 : ∃ W0, w.alloc (.cells #[.slice A1 r.webs.length c1, .slice A2 r.ribs.length c2, .slice A3 r.stacks.length c3, .bool r.coll] 26) = W0 ∧ Below w.heap.size w W0 ∧ Blk W0 w.heap.size 26 #[.slice A1 r.webs.length c1, .slice A2 r.ribs.length c2, .slice A3 r.stacks.length c3, .bool r.coll] :=
    ⟨_, rfl, (Below.refl _ _).alloc (Nat.le_refl _) _, Blk.new _ _ _⟩
  obtain ⟨W0, e0, B0, V0⟩ := F0
  have E0 := Lib.hid e0
  have v0 := cellOf V0 0 (x := .slice A1 r.webs.length c1) rfl
  have v1 := cellOf V0 1 (x := .slice A2 r.ribs.length c2) rfl
  have v2 := cellOf V0 2 (x := .slice A3 r.stacks.length c3) rfl
  have v3 := cellOf V0 3 (x := .bool r.coll) rfl
  have C := Lib.hid (Own_any _ r W0 ((hrun.out.below B0).more B0.size) HBd.out)
  clear e0
  go_enter Try.func6, Try.ntmps6
  go_upto_region 1 with fail
  rw [E0.out]
  go_wp2_with fail
  refine C.out.mono ?_
  rintro e w3 ⟨u, rfl, hor, hb3⟩
  have B3 := B0.trans (hb3.mono B0.size)
  have V3 := V0.below hb3 V0.lt
  obtain ⟨X1, d1, X2, d2, X3, d3, rfl⟩ : ∃ X1 d1 X2 d2 X3 d3, u = .agg #[.slice X1 r.webs.length d1, .slice X2 r.ribs.length d2, .slice X3 r.stacks.length d3, .bool r.coll] := by
    obtain ⟨u1, vs, u2, u3, rfl, ow, orb, ws, os⟩ := hor
    obtain ⟨D1, m1, rfl⟩ := ownsRow_form ow.1
    obtain ⟨D2, m2, rfl⟩ := ownsRow_form orb
    obtain ⟨D3, m3, rfl⟩ := ownsRow_form os.1
    exact ⟨_, _, _, _, _, _, rfl⟩
  have F4 : ∃ w4, w3.alloc (.cells #[.slice X1 r.webs.length d1, .slice X2 r.ribs.length d2, .slice X3 r.stacks.length d3, .bool r.coll] 36) = w4 ∧ Below w3.heap.size w3 w4 ∧ Blk w4 w3.heap.size 36 #[.slice X1 r.webs.length d1, .slice X2 r.ribs.length d2, .slice X3 r.stacks.length d3, .bool r.coll] :=
    ⟨_, rfl, (Below.refl _ _).alloc (Nat.le_refl _) _, Blk.new _ _ _⟩
  obtain ⟨w4, e4, hb4, O4⟩ := F4
  have E4 := Lib.hid e4
  have V4 := V3.below hb4 V3.lt
  have B4 := B3.trans (hb4.mono B3.size)
  clear v0 v1 v2 v3 C V0 B0 V3 e4
  have v0 := cellOf V4 0 (x := .slice A1 r.webs.length c1) rfl
  have v1 := cellOf V4 1 (x := .slice A2 r.ribs.length c2) rfl
  have v2 := cellOf V4 2 (x := .slice A3 r.stacks.length c3) rfl
  have v3 := cellOf V4 3 (x := .bool r.coll) rfl
  have C := Lib.hid (big_any _ r w4 ((hrun.out.below B4).more B4.size))
  go_upto_region 2 with fail
  rw [E4.out]
  cases hbig : bigB r
  case true =>
    rw [hbig] at C
    clear hor O4 V4
    go_wp2_with fail
    refine C.out.mono ?_
    rintro e w5 ⟨rfl, hb5⟩
    have B5 := B4.trans (hb5.mono B4.size)
    go_wp2_with fail
    refine (awake_any _).mono ?_
    rintro e w6 ⟨rfl, hb6⟩
    go_wp2
    go_ret
    exact ⟨rfl, B5.trans (hb6.mono B5.size)⟩
  rw [hbig] at C
  have hsm := small_of2 hbig
  have hrd := (hor.reads hsm).below hb4
  have hrd4 := hrd.more hb4.size
  clear hor hrd hbig
  go_wp2_with fail
  refine C.out.mono ?_
  rintro e w5 ⟨rfl, hb5⟩
  have B5 := B4.trans (hb5.mono B4.size)
  have V5 := V4.below hb5 V4.lt
  have O5 := O4.below hb5 O4.lt
  have hrd5 := (hrd4.below hb5).more hb5.size
  clear v0 v1 v2 v3 C V4 O4 hrd4
  have o0 := cellOf O5 0 (x := .slice X1 r.webs.length d1) rfl
  have o1 := cellOf O5 1 (x := .slice X2 r.ribs.length d2) rfl
  have o2 := cellOf O5 2 (x := .slice X3 r.stacks.length d3) rfl
  have o3 := cellOf O5 3 (x := .bool r.coll) rfl
  have C := Lib.hid (Check_any _ r w5 hrd5)
  go_wp2_with fail
  refine C.out.mono ?_
  rintro e w6 ⟨rfl, hb6⟩
  have B6 := B5.trans (hb6.mono B5.size)
  have V6 := V5.below hb6 V5.lt
  have O6 := O5.below hb6 O5.lt
  have hrd6 := (hrd5.below hb6).more hb6.size
  clear o0 o1 o2 o3 C V5 O5 hrd5
  by_cases hck : checkE r = 0
  case neg =>
    have hck' : (checkE r != 0) = true := by simpa using hck
    clear V6 O6 hrd6
    go_wp2_with fail
    refine (awake_any _).mono ?_
    rintro e w7 ⟨rfl, hb7⟩
    go_wp2
    go_ret
    exact ⟨rfl, B6.trans (hb7.mono B6.size)⟩
  rw [hck]
  have Hok := Lib.hid hck
  have hn1 := (numbers_ok (parts_ok hck 0 (by omega))).1
  have hn2 : ((r.webs.length : Int) == 0) = false := by rw [beq_eq_false_iff_ne]; omega
  have v0 := cellOf V6 0 (x := .slice A1 r.webs.length c1) rfl
  clear hck
  have o0 := cellOf O6 0 (x := .slice X1 r.webs.length d1) rfl
  have o1 := cellOf O6 1 (x := .slice X2 r.ribs.length d2) rfl
  have o2 := cellOf O6 2 (x := .slice X3 r.stacks.length d3) rfl
  have o3 := cellOf O6 3 (x := .bool r.coll) rfl
  have C := Lib.hid (Sizes_any _ r w6 hrd6)
  go_upto_region 4 with fail
  go_wp2_with fail
  refine C.out.mono ?_
  rintro e w7 ⟨u7, rfl, hu7, -, hb7⟩
  rw [Hok.out]
  have hsz := hu7 Hok.out
  obtain ⟨As, cs, rfl⟩ := ownsRow_form hsz
  have B7 := B6.trans (hb7.mono B6.size)
  have V7 := V6.below hb7 V6.lt
  have O7 := O6.below hb7 O6.lt
  have hrd7 := (hrd6.below hb7).more hb7.size
  have HSZ := Lib.hid hsz
  have hsl : (sizesD r).length ≤ 9223372036854775807 := by have := own_le hsz; simp only [maxLen] at this; omega
  have hsc : ∀ X, Below w7.heap.size w7 X → ∀ (k : Nat) z, (sizesD r)[k]? = some z → ∃ g, As = some ⟨g, 0, none⟩ ∧ X.cell? ⟨g, k, none⟩ = some (.int .i64 z) := fun X hX k z hz => by
    obtain ⟨g, rfl, -, hg⟩ := ownsRow_block HSZ.out (by have := (List.getElem?_eq_some_iff.1 hz).1; omega)
    refine ⟨g, rfl, ?_⟩
    have h0 := HSZ.out.cells (g := g) rfl k _ (by rw [List.getElem?_map, hz]; rfl)
    rw [add0] at h0
    exact (hX.cell (p := ⟨g, k, none⟩) hg).trans h0
  have HSC := Lib.hid hsc
  clear C v0 o0 o1 o2 o3 hu7 hsz hsc hb7 V6 O6 hrd6 B6
  obtain ⟨y0, hy0⟩ : ∃ y, r.webs[0]? = some y := ⟨_, List.getElem?_eq_getElem hn1⟩
  obtain ⟨g, o, -, rfl, hgb, -⟩ := HAW.out 0 y0 hy0
  have hcells : ∀ k x, r.webs[k]? = some x → ∀ X, Below w7.heap.size w7 X → X.cell? ⟨g, o + k * 3, none⟩ = some (.int .i64 x.cols) ∧ X.cell? ⟨g, o + k * 3 + 1, none⟩ = some (.int .i64 x.rows) ∧ ∃ A c, X.cell? ⟨g, o + k * 3 + 2, none⟩ = some (.slice A x.plates.length c) := fun k x hx X hX => by
    obtain ⟨g', o', u', e, -, h1, h2, h3, h4⟩ := HAW.out k x hx
    simp only [Option.some.injEq, Addr.mk.injEq, and_true] at e
    obtain ⟨rfl, rfl⟩ := e
    obtain ⟨A, c, rfl, -⟩ := h4.open_
    have hb := B7.trans (hX.mono B7.size)
    exact ⟨(hb.cell (p := ⟨g, o + k * 3, none⟩) hgb).trans h1, (hb.cell (p := ⟨g, o + k * 3 + 1, none⟩) hgb).trans h2, A, c, (hb.cell (p := ⟨g, o + k * 3 + 2, none⟩) hgb).trans h3⟩
  have hbox : ∀ X, Below w7.heap.size w7 X → X.cell? ⟨w.heap.size, 0, none⟩ = some (.slice (some ⟨g, o, none⟩) r.webs.length c1) ∧ X.cell? ⟨w.heap.size, 3, none⟩ = some (.bool r.coll) := fun X hX => ⟨cellOf (V7.below hX V7.lt) 0 rfl, cellOf (V7.below hX V7.lt) 3 rfl⟩
  have hbx : ∀ X, Below w7.heap.size w7 X → X.cell? ⟨w3.heap.size, 0, none⟩ = some (.slice X1 r.webs.length d1) ∧ X.cell? ⟨w3.heap.size, 1, none⟩ = some (.slice X2 r.ribs.length d2) ∧ X.cell? ⟨w3.heap.size, 2, none⟩ = some (.slice X3 r.stacks.length d3) ∧ X.cell? ⟨w3.heap.size, 3, none⟩ = some (.bool r.coll) := fun X hX => by
    have k2 := O7.below hX O7.lt
    exact ⟨cellOf k2 0 rfl, cellOf k2 1 rfl, cellOf k2 2 rfl, cellOf k2 3 rfl⟩
  have hcx : ∀ (X : World) (sw ss sr sc : Int) (p : PlaceD), Below w7.heap.size w7 X → followD r ⟨sw, ss, sr, sc⟩ = (p, 0) → Calls Try.prog 23 #[.agg #[.slice X1 r.webs.length d1, .slice X2 r.ribs.length d2, .slice X3 r.stacks.length d3, .bool r.coll], .agg #[.int .i64 sw, .int .i64 ss, .int .i64 sr, .int .i64 sc]] X fun e w' => e = .returned (.tuple #[.agg #[.int .i64 p.copy, .int .i64 p.sec, .int .i64 p.idx], .int .i64 0]) ∧ Below X.heap.size X w' := fun X sw ss sr sc p hX hp => by
    have := Follow_any _ r ⟨sw, ss, sr, sc⟩ X ((hrd7.below hX).more hX.size)
    rw [hp] at this
    exact this
  have hcw : ∀ (X : World) (c k j : Int) (s : SpotD), Below w7.heap.size w7 X → whereD r ⟨c, k, j⟩ = (s, 0) → Calls Try.prog 21 #[.agg #[.slice X1 r.webs.length d1, .slice X2 r.ribs.length d2, .slice X3 r.stacks.length d3, .bool r.coll], .agg #[.int .i64 c, .int .i64 k, .int .i64 j]] X fun e w' => e = .returned (.tuple #[.agg #[.int .i64 s.web, .int .i64 s.side, .int .i64 s.row, .int .i64 s.col], .int .i64 0]) ∧ Below X.heap.size X w' := fun X c k j s hX hs => by
    have := where_any _ r ⟨c, k, j⟩ X ((hrd7.below hX).more hX.size)
    rw [hs] at this
    exact this
  have HW := Lib.hid hcells
  have HV := Lib.hid hbox
  have HBX := Lib.hid hbx
  have HCX := Lib.hid hcx
  have HCW := Lib.hid hcw
  have nz3 : w3.heap.size < w7.heap.size := O7.lt
  have nz0 : w.heap.size < w7.heap.size := V7.lt
  have HY0 := Lib.hid hy0
  clear hcells hbox hbx hcx hcw HAW V7 O7 hrd7 hy0 hn1 hn2
  go_upto_region 7 with fail
  go_wp2
  go_loopw [8, 6] (fun i t wr => ∃ k : Nat, k ≤ (sizesD r).length ∧ i = .int .i64 k ∧ t = .int .i64 ((sizesD r).take k).sum ∧ Below w7.heap.size w7 wr) (fun i _ _ => (sizesD r).length - (intOf i).toNat)
  case atStart => exact ⟨0, Nat.zero_le _, rfl, rfl, Below.refl _ _⟩
  case round =>
    obtain ⟨k, hk, rfl, rfl, hB⟩ := hrel
    by_cases hlk : k < (sizesD r).length
    case pos =>
      obtain ⟨z, hz⟩ : ∃ z, (sizesD r)[k]? = some z := ⟨_, List.getElem?_eq_getElem hlk⟩
      obtain ⟨g8, rfl, q8⟩ := HSC.out wr hB k z hz
      have t1 := total_128 Hok.out k
      have t2 := total_128 Hok.out (k + 1)
      have hnx := sum_next hz
      rw [hnx] at t2
      have hik : (k : Int) < ((sizesD r).length : Int) := by omega
      have kw : IntKind.i64.wrap (((sizesD r).take k).sum + z) = ((sizesD r).take k).sum + z := IntWalk.i64_in _ ⟨by omega, by omega⟩
      clear hz
      go_wp2
      go_roundw
      case rel => exact ⟨k + 1, by omega, by go_num, by rw [hnx], hB⟩
      case measure => simp [intOf]; omega
    obtain rfl : k = (sizesD r).length := by omega
    have htot : ((sizesD r).take (sizesD r).length).sum = (totalD r : Int) := by rw [List.take_length]; exact sizes_sum r
    rw [htot]
    clear htot hlk hk
    obtain ⟨w8, rfl⟩ : ∃ w8, w8 = wr := ⟨wr, rfl⟩
    have hmm := @run_makeMap Try.prog
    have F9 : ∃ w9, w8.alloc (.map #[] 0) = w9 ∧ Below w8.heap.size w8 w9 ∧ MapAt PlaceD.val Value.bool w9 w8.heap.size (seenL r (gridL (r.webs.take 0))) :=
      ⟨_, rfl, (Below.refl _ _).alloc (Nat.le_refl _) _, World.alloc_heap_new w8 (.map #[] 0)⟩
    obtain ⟨w9, e9, hb9, M9⟩ := F9
    have E9 := Lib.hid e9
    clear e9
    go_upto_region 13 with fail
    rw [E9.out]
    have hz8 := hB.size
    clear hmm
    go_wp2
    go_loopw [10, 7] (fun i t wr => ∃ a : Nat, a ≤ r.webs.length ∧ i = .int .i64 a ∧ t = .int .i64 (platesL (r.webs.take a) : Nat) ∧ Below w8.heap.size w8 wr ∧ MapAt PlaceD.val Value.bool wr w8.heap.size (seenL r (gridL (r.webs.take a)))) (fun i _ _ => r.webs.length - (intOf i).toNat)
    case atStart => exact ⟨0, Nat.zero_le _, rfl, rfl, hb9, M9⟩
    case round =>
      clear hb9 M9
      obtain ⟨a, ha, rfl, rfl, hB8, hM⟩ := hrel
      obtain ⟨v0, v3⟩ := HV.out wr (hB.trans (hB8.mono hB.size))
      by_cases hlt : a < r.webs.length
      case neg =>
        obtain rfl : a = r.webs.length := by omega
        rw [List.take_length] at hM
        rw [List.take_length]
        have hmap := seen_len hM
        have hpl : platesL r.webs = platesD r := rfl
        have hgl : (seenL r (gridL r.webs)).length = platesD r := by rw [seenL_len, gridL_all]; exact grid_plates Hok.out
        rw [hgl] at hmap
        rw [hpl]
        have hend := both_end Hok.out
        have hp8 := plates_128 Hok.out
        have BW := (B7.trans (hB.mono B7.size)).trans (hB8.mono (B7.trans (hB.mono B7.size)).size)
        obtain ⟨q0, q1, -⟩ := HW.out 0 y0 HY0.out wr (hB.trans (hB8.mono hB.size))
        have hr0 : y0.rows = rows0 r := by unfold rows0; rw [getD_of HY0.out]
        rw [hr0] at q1
        have hl0 : (0 : Int) < (r.webs.length : Int) := by have := (List.getElem?_eq_some_iff.1 HY0.out).1; omega
        cases hcl : r.coll with
        | true =>
          rw [hcl] at hend v3
          simp only [if_true, Int.mul_one] at hend
          have hm1 : IntKind.i64.wrap ((totalD r : Int)) = (platesD r : Int) := by rw [IntWalk.i64_in _ ⟨by omega, by omega⟩]; omega
          have hm2 : IntKind.i64.wrap ((totalD r : Int) * 1) = (platesD r : Int) := by rw [Int.mul_one]; exact hm1
          clear hend
          go_wp2_with fail
          refine (awake_any _).mono ?_
          rintro e w20 ⟨rfl, hb20⟩
          go_wp2
          go_ret
          exact ⟨rfl, BW.trans (hb20.mono BW.size)⟩
        | false =>
          rw [hcl] at hend v3
          simp only [Bool.false_eq_true, if_false] at hend
          have hm1 : IntKind.i64.wrap ((totalD r : Int) * rows0 r) = (platesD r : Int) := by rw [IntWalk.i64_in _ ⟨by omega, by omega⟩]; omega
          clear hend
          go_wp2_with fail
          refine (awake_any _).mono ?_
          rintro e w20 ⟨rfl, hb20⟩
          go_wp2
          go_ret
          exact ⟨rfl, BW.trans (hb20.mono BW.size)⟩
      obtain ⟨x, hx⟩ : ∃ x, r.webs[a]? = some x := ⟨_, List.getElem?_eq_getElem hlt⟩
      have hwx := webs_ok (parts_ok Hok.out 1 (by omega)) x (List.mem_of_getElem? hx)
      obtain ⟨wc1, wc2, wr1, wr2, -⟩ := hwx
      have hia : (a : Int) < (r.webs.length : Int) := by omega
      obtain ⟨-, -, Ap, cp, q2⟩ := HW.out a x hx wr (hB.trans (hB8.mono hB.size))
      have hpn := platesL_next hx
      have hp1 := platesL_128 Hok.out (a + 1)
      have kw : IntKind.i64.wrap (((platesL (r.webs.take a) : Nat) : Int) + (x.plates.length : Int)) = ((platesL (r.webs.take (a + 1)) : Nat) : Int) := by rw [IntWalk.i64_in _ ⟨by omega, by omega⟩]; omega
      have hM' : MapAt PlaceD.val Value.bool wr w8.heap.size (seenL r (metG r x a 0 0 0)) := by rw [metG_start]; exact hM
      have HX := Lib.hid hx
      clear hx hM hpn hp1
      go_upto_region 17 with fail
      clear v0 v3 q2 kw
      go_wp2
      obtain ⟨wo, rfl⟩ : ∃ wo, wo = wr := ⟨wr, rfl⟩
      go_loopw [11] (fun i wr => ∃ sd : Nat, sd ≤ 2 ∧ i = .int .i64 sd ∧ Below w8.heap.size w8 wr ∧ MapAt PlaceD.val Value.bool wr w8.heap.size (seenL r (metG r x a sd 0 0))) (fun i _ => 2 - (intOf i).toNat)
      case atStart => exact ⟨0, by omega, rfl, hB8, hM'⟩
      case round =>
        clear hB8 hM'
        obtain ⟨sd, hsd, rfl, hB8, hM⟩ := hrel
        by_cases hlts : sd < 2
        case neg =>
          obtain rfl : sd = 2 := by omega
          rw [metG_web r HX.out] at hM
          go_wp2
          go_roundw
          case rel => exact ⟨a + 1, by omega, by go_num, rfl, hB8, hM⟩
          case measure => simp [intOf]; omega
        have hls : (sd : Int) < 2 := by omega
        go_wp2
        obtain ⟨wo2, rfl⟩ : ∃ wo2, wo2 = wr := ⟨wr, rfl⟩
        go_loopw [12] (fun i wr => ∃ b : Nat, (b : Int) ≤ x.rows ∧ i = .int .i64 b ∧ Below w8.heap.size w8 wr ∧ MapAt PlaceD.val Value.bool wr w8.heap.size (seenL r (metG r x a sd b 0))) (fun i _ => x.rows.toNat - (intOf i).toNat)
        case atStart => exact ⟨0, by omega, rfl, hB8, hM⟩
        case round =>
          clear hB8 hM
          obtain ⟨b, hb, rfl, hB8, hM⟩ := hrel
          obtain ⟨v0, -⟩ := HV.out wr (hB.trans (hB8.mono hB.size))
          obtain ⟨q0, q1, -⟩ := HW.out a x HX.out wr (hB.trans (hB8.mono hB.size))
          by_cases hltb : (b : Int) < x.rows
          case neg =>
            rw [metG_side r x a sd b (by omega)] at hM
            go_wp2
            go_roundw
            case rel => exact ⟨sd + 1, by omega, by go_num, hB8, hM⟩
            case measure => simp [intOf]; omega
          go_wp2
          clear v0 q0 q1
          obtain ⟨wp, rfl⟩ : ∃ wp, wp = wr := ⟨wr, rfl⟩
          go_loopw [13] (fun i wr => ∃ c : Nat, (c : Int) ≤ x.cols ∧ i = .int .i64 c ∧ Below w8.heap.size w8 wr ∧ MapAt PlaceD.val Value.bool wr w8.heap.size (seenL r (metG r x a sd b c))) (fun i _ => x.cols.toNat - (intOf i).toNat)
          case atStart => exact ⟨0, by omega, rfl, hB8, hM⟩
          case round =>
            clear hB8 hM
            obtain ⟨c, hc, rfl, hB8, hM⟩ := hrel
            obtain ⟨v0, -⟩ := HV.out wr (hB.trans (hB8.mono hB.size))
            obtain ⟨q0, q1, -⟩ := HW.out a x HX.out wr (hB.trans (hB8.mono hB.size))
            by_cases hltc : (c : Int) < x.cols
            case neg =>
              rw [metG_row r x a sd b c (by omega)] at hM
              go_wp2
              go_roundw
              case rel => exact ⟨b + 1, by omega, by go_num, hB8, hM⟩
              case measure => simp [intOf]; omega
            obtain ⟨pc, pk, pi, z, hp0, hp, hq, hz, hpz⟩ := both_spot Hok.out HX.out (sd := sd) (by omega) hltb hltc
            have hpre := metG_pre HX.out hlts (b := b) (c := c) (by omega) (by omega)
            have hnew := seenL_new Hok.out hpre hp0
            have hmet : seenL r (metG r x a sd b (c + 1)) = seenL r (metG r x a sd b c) ++ [(⟨pc, pk, pi⟩, true)] := by rw [metG_col, seenL_snoc hp0]
            have HP := Lib.hid hp
            have HQ := Lib.hid hq
            have HZ := Lib.hid hz
            have HNEW := Lib.hid hnew
            have HMET := Lib.hid hmet
            have F16 : ∃ w16, wr.alloc (.cells #[.int .i64 a, .int .i64 sd, .int .i64 b, .int .i64 c] 53) = w16 ∧ Below wr.heap.size wr w16 ∧ Blk w16 wr.heap.size 53 #[.int .i64 a, .int .i64 sd, .int .i64 b, .int .i64 c] :=
              ⟨_, rfl, (Below.refl _ _).alloc (Nat.le_refl _) _, Blk.new _ _ _⟩
            obtain ⟨w16, e16, hb16, S16⟩ := F16
            have E16 := Lib.hid e16
            have B16 := hB8.trans (hb16.mono hB8.size)
            have M16 := hM.below hb16
            clear hp0 hp hq hpre hnew hmet e16 hb16 hM hz
            go_upto_region 27 with fail
            rw [E16.out]
            clear v0 q0 q1
            obtain ⟨o0, o1, o2, o3⟩ := HBX.out w16 (hB.trans (B16.mono hB.size))
            have s0 := cellOf S16 0 (x := .int .i64 a) rfl
            have s1 := cellOf S16 1 (x := .int .i64 sd) rfl
            have s2 := cellOf S16 2 (x := .int .i64 b) rfl
            have s3 := cellOf S16 3 (x := .int .i64 c) rfl
            have C := Lib.hid (HCX.out w16 a sd b c ⟨pc, pk, pi⟩ (hB.trans (B16.mono hB.size)) HP.out)
            go_wp2_with fail
            refine C.out.mono ?_
            rintro e w17 ⟨rfl, hb17⟩
            have F18 : ∃ w18, w17.alloc (.cells #[.int .i64 pc, .int .i64 pk, .int .i64 pi] 56) = w18 ∧ Below w17.heap.size w17 w18 ∧ Blk w18 w17.heap.size 56 #[.int .i64 pc, .int .i64 pk, .int .i64 pi] := ⟨_, rfl, (Below.refl _ _).alloc (Nat.le_refl _) _, Blk.new _ _ _⟩
            obtain ⟨w18, e18, hb18, P18⟩ := F18
            have E18 := Lib.hid e18
            have B17 := B16.trans (hb17.mono B16.size)
            have B18 := B17.trans (hb18.mono B17.size)
            have S18 := (S16.below hb17 S16.lt).below hb18 (Nat.lt_of_lt_of_le S16.lt hb17.size)
            have M18 := (M16.below hb17).below hb18
            clear o0 o1 o2 o3 s0 s1 s2 s3 C hb17 hb18 e18 S16 M16 B17
            obtain ⟨o0, o1, o2, o3⟩ := HBX.out w18 (hB.trans (B18.mono hB.size))
            have p0 := cellOf P18 0 (x := .int .i64 pc) rfl
            have p1 := cellOf P18 1 (x := .int .i64 pk) rfl
            have p2 := cellOf P18 2 (x := .int .i64 pi) rfl
            have C := Lib.hid (HCW.out w18 pc pk pi ⟨a, sd, b, c⟩ (hB.trans (B18.mono hB.size)) HQ.out)
            go_upto_region 28 with fail
            rw [E18.out]
            go_wp2_with fail
            refine C.out.mono ?_
            rintro e w19 ⟨rfl, hb19⟩
            have F20 : ∃ w20, w19.alloc (.cells #[.int .i64 a, .int .i64 sd, .int .i64 b, .int .i64 c] 53) = w20 ∧ Below w19.heap.size w19 w20 ∧ Blk w20 w19.heap.size 53 #[.int .i64 a, .int .i64 sd, .int .i64 b, .int .i64 c] := ⟨_, rfl, (Below.refl _ _).alloc (Nat.le_refl _) _, Blk.new _ _ _⟩
            obtain ⟨w20, e20, hb20, T20⟩ := F20
            have E20 := Lib.hid e20
            have B19 := B18.trans (hb19.mono B18.size)
            have B20 := B19.trans (hb20.mono B19.size)
            have S20 := (S18.below hb19 S18.lt).below hb20 (Nat.lt_of_lt_of_le S18.lt hb19.size)
            have P20 := (P18.below hb19 P18.lt).below hb20 (Nat.lt_of_lt_of_le P18.lt hb19.size)
            have M20 := (M18.below hb19).below hb20
            clear o0 o1 o2 o3 p0 p1 p2 C hb19 hb20 e20 S18 P18 M18 B19
            have s0 := cellOf S20 0 (x := .int .i64 a) rfl
            have s1 := cellOf S20 1 (x := .int .i64 sd) rfl
            have s2 := cellOf S20 2 (x := .int .i64 b) rfl
            have s3 := cellOf S20 3 (x := .int .i64 c) rfl
            have t0 := cellOf T20 0 (x := .int .i64 a) rfl
            have t1 := cellOf T20 1 (x := .int .i64 sd) rfl
            have t2 := cellOf T20 2 (x := .int .i64 b) rfl
            have t3 := cellOf T20 3 (x := .int .i64 c) rfl
            have p0 := cellOf P20 0 (x := .int .i64 pc) rfl
            have p1 := cellOf P20 1 (x := .int .i64 pk) rfl
            have p2 := cellOf P20 2 (x := .int .i64 pi) rfl
            obtain ⟨g8, rfl, q8⟩ := HSC.out w20 (hB.trans (B20.mono hB.size)) pk z HZ.out
            have hse : ∀ W, (Op.equalIn 10000 53 (.agg #[.int .i64 a, .int .i64 sd, .int .i64 b, .int .i64 c]) (.agg #[.int .i64 a, .int .i64 sd, .int .i64 b, .int .i64 c])).run Try.prog W = .ok true W := fun W => by rw [eq4]; simp
            have hlk : ∀ n, (Instr.lookup 102 (.map (some w8.heap.size)) (.agg #[.int .i64 pc, .int .i64 pk, .int .i64 pi]) false).run Try.prog (w20.drewN n) = .ok (.bool false) (w20.drewN n) := fun n => seen_no (M20.below (below_drewN (Below.refl _ _) n)) ⟨pc, pk, pi⟩ HNEW.out
            have hup : ∀ n, ∃ w21, (Instr.mapUpdate 102 (.map (some w8.heap.size)) (.agg #[.int .i64 pc, .int .i64 pk, .int .i64 pi]) (.bool true)).run Try.prog (w20.drewN n) = .ok () w21 ∧ (Below w8.heap.size w8 w21 ∧ MapAt PlaceD.val Value.bool w21 w8.heap.size (seenL r (metG r x a sd b (c + 1)))) := fun n => by
              obtain ⟨w21, h1, h2, h3⟩ := seen_add (M20.below (below_drewN (Below.refl _ _) n)) ⟨pc, pk, pi⟩ HNEW.out
              exact ⟨w21, h1, (below_drewN B20 n).grown h3 (below_drewN B20 n).size (fun j e => by cases e; exact Nat.le_refl _), by rw [HMET.out]; exact h2⟩
            have HUP := Lib.hid hup
            have hpk := (List.getElem?_eq_some_iff.1 HZ.out).1
            have hpki : (pk : Int) < ((sizesD r).length : Int) := by omega
            have g1 : decide ((pk : Int) < 0) = false := by simp
            have g2 : decide (((sizesD r).length : Int) ≤ (pk : Int)) = false := by simp; omega
            have g3 : decide ((pi : Int) < 0) = false := by simp
            have g4 : decide (z ≤ (pi : Int)) = false := by simp; omega
            clear hup S20 T20 P20 M20
            go_upto_region 29 with fail
            rw [E20.out]
            go_quiet (fail)
            go_wp2_with (at_mapUpdate; refine wpList_map_ex rfl _ _ _ 102 rfl (HUP.out _) ?_; rintro w21 ⟨hB21, hM21⟩)
            go_roundw
            case rel => exact ⟨c + 1, by omega, by go_num, hB21, hM21⟩
            case measure => simp [intOf]; omega
end Go.Proofs.Ytdbfhdncjblleaa
namespace Go.Proofs.Ytdbfhdncjblleaa
open Go.ChangeShapes Go.WideShapes Go.ChangeAt Go.RowKit

theorem own : ownKnob Try.prog.godebug = none := by kernel_rfl
theorem laidOut : laidOutB Try.prog = true := by kernel_rfl

set_option maxRecDepth 100000 in
theorem both_contract (H : Type) (enc : TypeId × Value → H) (W : World) (base : Nat) (args : Array Value) (ds gs : List (DataW H)) (before : List MemPlace)
    (hval : ∀ (j : Nat) t v, Try.f6.params[j]? = some t → args[j]? = some v → Value.okWide Try.prog W .any base t v)
    (hW : DataW.Whole enc Try.prog Try.f6.params.toList Rows.foldBothSpec.vars false W args.toList ds gs before) (hk : Rows.uptoSmall H (ds ++ gs) = true) :
    Calls Try.prog 6 args W fun e W' => ∃ v, e = .returned v ∧ Rows.foldBothSpec.post enc Try.prog Try.f6 false true false false W args v W' := by
  have hW' := hW
  obtain ⟨p, q, hA0, hV, rfl, hfz, hnd⟩ := hW
  have hA : DataW.TrodAll enc Try.prog W 0 (fun _ => true) true Try.f6.params.toList args.toList ds p := hA0
  rw [Try.params6] at hA hval
  obtain ⟨v0, d0, rfl, rfl, h0⟩ := trodAll_one hA
  obtain ⟨rfl, rfl⟩ := trodVars_none hV
  clear hA0
  simp only [List.append_nil] at hW' hk
  have hbk : Rows.uptoBulk d0 ≤ 1048576 := by
    have h : Rows.uptoBulkAll [d0] ≤ 1048576 := of_decide_eq_true hk
    simp only [Rows.uptoBulkAll] at h
    omega
  obtain ⟨r, hr, hbd⟩ := run_of (hval 0 26 v0 rfl rfl) h0 hbk
  have hlt : ∀ x ∈ p, x.block < W.heap.size := fun x hx => by simpa using hW'.lt x hx
  have hargs : ∀ (W' : World), Below W.heap.size W W' → DataW.Trod enc Try.prog W' 0 (fun b => decide (b < W.heap.size)) true 26 v0 d0 p :=
    fun W' hn => Below.trod laidOut (by kernel_rfl) (of_decide_eq_true (by kernel_rfl)) h0 hn hlt
  refine (Both_any v0 r W hr hbd).mono fun e W' ⟨he, hnx⟩ => ?_
  subst he
  exact ⟨_, rfl, _, _, _, [], p, [], hW', trodAll_cons_mk (shut_bool Try.underlying4 _) trodAll_mk0, trodAll_mk1 (hargs _ hnx), rfl, hnx.frame _, fun h => by cases h⟩

set_option maxRecDepth 100000 in
theorem both_lifted (os : Os) (started : os.Started) (H : Type) (enc : TypeId × Value → H) (F : Stop.Interp) :
    ReturnsInHanded {} Try.checked os 6 .any ((Rows.OpenSpec.upto Rows.foldBothSpec).pre6 enc Try.prog Try.f6 Rows.foldBothUptoRow.domain false) (((Rows.OpenSpec.upto Rows.foldBothSpec).at F).post enc Try.prog Try.f6 false true false false) := by
  refine returnsInHanded_of_cond (C := Try.checked) (s := Rows.OpenSpec.upto Rows.foldBothSpec) (k := Rows.uptoSmall) rfl own started (by kernel_rfl) Try.func6
    (OpenSpec.witness (enc := enc) (C := Try.checked) (s := Rows.OpenSpec.upto Rows.foldBothSpec) (k := Rows.uptoSmall) rfl false ⟨#[], #[.agg #[.slice none 0 0, .slice none 0 0, .slice none 0 0, .bool false]], []⟩ 8 (by kernel_rfl) (by kernel_rfl) (by kernel_rfl)
      (x := ([.agg [.nil, .nil, .nil, .lit (.bool false)]], [], [])) (by kernel_rfl) rfl (by kernel_rfl)) ?_
  intro W base args ds gs before hval hW _ hk _
  exact both_contract H enc W base args ds gs before hval hW hk

theorem both_proved : Rows.FoldBothUptoSaid :=
  OpenClaim.holds_of_cond 6 Try.f6 rfl rfl rfl rfl rfl rfl rfl ⟨rfl, rfl, rfl, rfl, rfl⟩ rfl rfl rfl rfl rfl (by kernel_rfl) Try.func6 (by kernel_rfl)
    (of_decide_eq_true (by kernel_rfl)) (by unfold Func.isWrapper; first | (rw [if_pos (by decide +kernel)]; kernel_rfl) | (rw [if_neg (by decide +kernel)]; exact ⟨rfl, rfl⟩))
    (fun os started H enc _ F => both_lifted os started H enc F)
#print axioms both_proved
end Go.Proofs.Ytdbfhdncjblleaa
