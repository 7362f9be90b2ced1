/-
  FoldFaces: the walk.
-/
import Derived.Test.YtdbfhdncjblleaaZZ
namespace Go.Proofs.Ytdbfhdncjblleaa
open Go.RowKit

theorem small_of {r : RunD} (h : bigB r = false) : SmallRun r := by
  unfold bigB at h
  simp only [Bool.or_eq_false_iff, decide_eq_false_iff_not] at h
  obtain ⟨⟨⟨⟨h1, h2⟩, h3⟩, h4⟩, h5⟩ := h
  refine ⟨by omega, by omega, by omega, fun x hx => ?_, fun s hs => ?_⟩
  · have := List.any_eq_false.1 h4 x hx
    simp only [decide_eq_true_eq] at this
    omega
  · have := List.any_eq_false.1 h5 s hs
    simp only [decide_eq_true_eq] at this
    omega

/-- The places of the two sides of one web in one row and column. -/
theorem two_sides {r : RunD} (h : checkE r = 0) {a b c : Nat} {x : WebD} (hx : r.webs[a]? = some x) (hb : (b : Int) < x.rows) (hc : (c : Int) < x.cols) :
    ∃ (cc k i j m : Nat), followD r ⟨a, 0, b, c⟩ = (⟨cc, k, i⟩, 0) ∧ followD r ⟨a, 1, b, c⟩ = (⟨cc, k, j⟩, 0) ∧ i ≤ 1000 ∧ j ≤ 1000 ∧ ((i = 2 * m ∧ j = 2 * m + 1) ∨ (i = 2 * m + 1 ∧ j = 2 * m)) := by
  have ha := (List.getElem?_eq_some_iff.1 hx).1
  have hw := webs_ok (parts_ok h 1 (by omega)) x (List.mem_of_getElem? hx)
  have hgx : r.webs.getD a default = x := getD_of hx
  have hs := fun side hs => spot_there h (w := a) (row := b) (c := c) side ha (by omega) (by rw [hgx]; exact hc) hs
  obtain ⟨p, hp⟩ := follow_some h (hs 0 (.inl rfl))
  obtain ⟨q, hq⟩ := follow_some h (hs 1 (.inr rfl))
  obtain ⟨m, e1, e2, e3⟩ := faces h hp hq
  obtain ⟨cc, k, i, S, l, hpe, hS, hl, hi⟩ := place_mem.1 ((follow_mem h).1 hp)
  obtain ⟨cc', k', i', S', l', hqe, hS', hl', hi'⟩ := place_mem.1 ((follow_mem h).1 hq)
  subst hpe hqe
  simp only at e1 e2 e3
  have hl128 := (sec_bound h hS hl).1
  have hl128' := (sec_bound h hS' hl').1
  have hii := (List.getElem?_eq_some_iff.1 hi).1
  have hii' := (List.getElem?_eq_some_iff.1 hi').1
  have f1 := follow_yes h hp
  have f2 := follow_yes h hq
  rw [← e1, ← e2] at f2
  exact ⟨cc, k, i, i', m, f1, f2, by omega, by omega, by omega⟩

theorem gang_at {r : RunD} (h : checkE r = 0) {i : Nat} {p : PlaceD} (hp : (gangedD r)[i]? = some p) :
    ∃ (pc pk pi m : Nat) (aw as_ ar ac bc : Int), p = ⟨pc, pk, pi⟩ ∧ whereD r ⟨pc, pk, pi⟩ = (⟨aw, as_, ar, ac⟩, 0) ∧ whereD r ⟨pc, pk, (pi : Int) + 1⟩ = (⟨aw, as_, ar, bc⟩, 0) ∧ (ac - bc = 1 ∨ bc - ac = 1) ∧ (0 ≤ ac ∧ ac ≤ 4) ∧ (0 ≤ bc ∧ bc ≤ 4) ∧ pi = 2 * m + 1 ∧ pi ≤ 1000 := by
  have hm := List.mem_of_getElem? hp
  obtain ⟨c, k, i', S, l, a', b', rfl, hS, hl, hi, hi2, -⟩ := gang_mem hm
  obtain ⟨a, b, ha, hb, e1, e2, e3, e4, m, e5⟩ := gang_facts h hm
  obtain ⟨aw, as_, ar, ac⟩ := a
  obtain ⟨bw, bs, br, bc⟩ := b
  dsimp only at e1 e2 e3 e4 e5 hb
  subst e1 e2 e3
  obtain ⟨ma, xa, hsa⟩ := spot_ok h (place_all (where_mem.1 ha))
  obtain ⟨mb, xb, hsb⟩ := spot_ok h (place_all (where_mem.1 hb))
  have a1 := hsa.col
  have a2 := hsa.cols
  have b1 := hsb.col
  have b2 := hsb.cols
  dsimp only at a1 b1
  have hl128 := (sec_bound h hS hl).1
  have hii := (List.getElem?_eq_some_iff.1 hi).1
  exact ⟨c, k, i', m, aw, as_, ar, ac, bc, rfl, where_yes h ha, where_yes h hb, e4, by omega, by omega, by omega, by omega⟩
theorem gang_prev {r : RunD} (h : checkE r = 0) {k : Nat} {p q : PlaceD} (hq : (gangedD r)[k]? = some q) (hp : (gangedD r)[k + 1]? = some p) (he : q.copy = p.copy) : q.sec < p.sec := by
  obtain ⟨h1, rfl⟩ := List.getElem?_eq_some_iff.1 hq
  obtain ⟨h2, rfl⟩ := List.getElem?_eq_some_iff.1 hp
  exact List.pairwise_iff_getElem.1 (gang_order h) k (k + 1) h1 h2 (by omega) he

/-- A spot in a block of its own, whatever the order of its making and of the call. -/
def SpotCut (w12 : World) (pb : Nat) (pc : Array Value) (sc : Array Value) (s15 s16 : Value) (wx : World) : Prop :=
  ∃ B, s15 = .pointer (some ⟨B, 0, none⟩) ∧ s16 = .int .i64 0 ∧ Blk wx B 53 sc ∧ Blk wx pb 56 pc ∧ Below w12.heap.size w12 wx
theorem spot_cutA {w12 w13 w14 : World} {pb : Nat} {pc sc : Array Value} (B : Below w12.heap.size w12 w13) (h : Below w13.heap.size w13 w14) (P : Blk w13 pb 56 pc) :
    SpotCut w12 pb pc sc (.pointer (some ⟨w14.heap.size, 0, none⟩)) (.int .i64 0) (w14.alloc (.cells sc 53)) := by
  have hb := B.trans (h.mono B.size)
  exact ⟨_, rfl, rfl, Blk.new _ _ _, (P.below h P.lt).alloc _, hb.alloc hb.size _⟩
theorem spot_cutB {w12 w13 w14 : World} {pb : Nat} {pc : Array Value} {a b c d : Value} (B : Below w12.heap.size w12 w13) (h : Below w13.heap.size w13 w14) (P : Blk w13 pb 56 pc) (z : Blk w14 w13.heap.size 53 #[.int .i64 0, .int .i64 0, .int .i64 0, .int .i64 0]) :
    SpotCut w12 pb pc #[a, b, c, d] (.pointer (some ⟨w13.heap.size, 0, none⟩)) (.int .i64 0) ((((w14.setCell ⟨w13.heap.size, 0, none⟩ a).setCell ⟨w13.heap.size, 1, none⟩ b).setCell ⟨w13.heap.size, 2, none⟩ c).setCell ⟨w13.heap.size, 3, none⟩ d) := by
  have hb := B.trans (h.mono B.size)
  have hne : pb ≠ w13.heap.size := by have := P.lt; omega
  have P' := P.below h P.lt
  exact ⟨_, rfl, rfl, (((z.put 0 a).put 1 b).put 2 c).put 3 d, (((P'.far (p := ⟨w13.heap.size, 0, none⟩) hne a).far (p := ⟨w13.heap.size, 1, none⟩) hne b).far (p := ⟨w13.heap.size, 2, none⟩) hne c).far (p := ⟨w13.heap.size, 3, none⟩) hne d, below_set4 hb B.size a b c d⟩

set_option maxRecDepth 100000 in
set_option maxHeartbeats 4000000 in
theorem Faces_any (v : Value) (r : RunD) (w : World) (h : RRun w.heap.size w v r) (hbd : Bounded r) : Calls Try.prog 9 #[v] w fun e w' => e = .returned (.bool true) ∧ Below w.heap.size w w' := by
  have hrun := Lib.hid h
  have HBd := Lib.hid hbd
  obtain ⟨A1, c1, A2, c2, A3, c3, rfl⟩ := h.shape
  obtain ⟨Ax, cx, ex, hlw, hAw⟩ := (h.webs).open_
  cases ex
  have HAW := Lib.hid hAw
  clear h hbd hAw
  have F0 : ∃ W0, w.alloc (.cells #[.slice A1 r.webs.length c1, .slice A2 r.ribs.length c2, .slice A3 r.stacks.length c3, .bool r.coll] 26) = W0 ∧ Below w.heap.size w W0 ∧ Blk W0 w.heap.size 26 #[.slice A1 r.webs.length c1, .slice A2 r.ribs.length c2, .slice A3 r.stacks.length c3, .bool r.coll] :=
    ⟨_, rfl, (Below.refl _ _).alloc (Nat.le_refl _) _, Blk.new _ _ _⟩
  obtain ⟨W0, e0, B0, V0⟩ := F0
  have E0 := Lib.hid e0
  have v0 := cellOf V0 0 (x := .slice A1 r.webs.length c1) rfl
  have v1 := cellOf V0 1 (x := .slice A2 r.ribs.length c2) rfl
  have v2 := cellOf V0 2 (x := .slice A3 r.stacks.length c3) rfl
  have v3 := cellOf V0 3 (x := .bool r.coll) rfl
  have C := Lib.hid (Own_any _ r W0 ((hrun.out.below B0).more B0.size) HBd.out)
  clear e0
  go_enter Try.func9, Try.ntmps9
  go_upto_region 1 with fail
  rw [E0.out]
  go_wp2_with fail
  refine C.out.mono ?_
  rintro e w3 ⟨u, rfl, hor, hb3⟩
  have B3 := B0.trans (hb3.mono B0.size)
  have V3 := V0.below hb3 V0.lt
  obtain ⟨X1, d1, X2, d2, X3, d3, rfl⟩ : ∃ X1 d1 X2 d2 X3 d3, u = .agg #[.slice X1 r.webs.length d1, .slice X2 r.ribs.length d2, .slice X3 r.stacks.length d3, .bool r.coll] := by
    obtain ⟨u1, vs, u2, u3, rfl, ow, orb, ws, os⟩ := hor
    obtain ⟨D1, m1, rfl⟩ := ownsRow_form ow.1
    obtain ⟨D2, m2, rfl⟩ := ownsRow_form orb
    obtain ⟨D3, m3, rfl⟩ := ownsRow_form os.1
    exact ⟨_, _, _, _, _, _, rfl⟩
  have F4 : ∃ w4, w3.alloc (.cells #[.slice X1 r.webs.length d1, .slice X2 r.ribs.length d2, .slice X3 r.stacks.length d3, .bool r.coll] 36) = w4 ∧ Below w3.heap.size w3 w4 ∧ Blk w4 w3.heap.size 36 #[.slice X1 r.webs.length d1, .slice X2 r.ribs.length d2, .slice X3 r.stacks.length d3, .bool r.coll] :=
    ⟨_, rfl, (Below.refl _ _).alloc (Nat.le_refl _) _, Blk.new _ _ _⟩
  obtain ⟨w4, e4, hb4, O4⟩ := F4
  have E4 := Lib.hid e4
  have V4 := V3.below hb4 V3.lt
  have B4 := B3.trans (hb4.mono B3.size)
  clear v0 v1 v2 v3 C V0 B0 V3 e4
  have v0 := cellOf V4 0 (x := .slice A1 r.webs.length c1) rfl
  have v1 := cellOf V4 1 (x := .slice A2 r.ribs.length c2) rfl
  have v2 := cellOf V4 2 (x := .slice A3 r.stacks.length c3) rfl
  have v3 := cellOf V4 3 (x := .bool r.coll) rfl
  have C := Lib.hid (big_any _ r w4 ((hrun.out.below B4).more B4.size))
  go_upto_region 2 with fail
  rw [E4.out]
  cases hbig : bigB r
  case true =>
    rw [hbig] at C
    clear hor O4 V4
    go_wp2_with fail
    refine C.out.mono ?_
    rintro e w5 ⟨rfl, hb5⟩
    have B5 := B4.trans (hb5.mono B4.size)
    go_wp2_with fail
    refine (awake_any _).mono ?_
    rintro e w6 ⟨rfl, hb6⟩
    go_wp2
    go_ret
    exact ⟨rfl, B5.trans (hb6.mono B5.size)⟩
  rw [hbig] at C
  have hsm := small_of hbig
  have hrd := (hor.reads hsm).below hb4
  have hrd4 := hrd.more hb4.size
  clear hor hrd hbig
  go_wp2_with fail
  refine C.out.mono ?_
  rintro e w5 ⟨rfl, hb5⟩
  have B5 := B4.trans (hb5.mono B4.size)
  have V5 := V4.below hb5 V4.lt
  have O5 := O4.below hb5 O4.lt
  have hrd5 := (hrd4.below hb5).more hb5.size
  clear v0 v1 v2 v3 C V4 O4 hrd4
  have o0 := cellOf O5 0 (x := .slice X1 r.webs.length d1) rfl
  have o1 := cellOf O5 1 (x := .slice X2 r.ribs.length d2) rfl
  have o2 := cellOf O5 2 (x := .slice X3 r.stacks.length d3) rfl
  have o3 := cellOf O5 3 (x := .bool r.coll) rfl
  have C := Lib.hid (Check_any _ r w5 hrd5)
  go_wp2_with fail
  refine C.out.mono ?_
  rintro e w6 ⟨rfl, hb6⟩
  have B6 := B5.trans (hb6.mono B5.size)
  have V6 := V5.below hb6 V5.lt
  have O6 := O5.below hb6 O5.lt
  have hrd6 := (hrd5.below hb6).more hb6.size
  clear o0 o1 o2 o3 C V5 O5 hrd5
  by_cases hck : checkE r = 0
  case neg =>
    have hck' : (checkE r != 0) = true := by simpa using hck
    clear V6 O6 hrd6
    go_wp2_with fail
    refine (awake_any _).mono ?_
    rintro e w7 ⟨rfl, hb7⟩
    go_wp2
    go_ret
    exact ⟨rfl, B6.trans (hb7.mono B6.size)⟩
  rw [hck]
  have Hok := Lib.hid hck
  have hn1 := (numbers_ok (parts_ok hck 0 (by omega))).1
  have hn2 : ((r.webs.length : Int) == 0) = false := by rw [beq_eq_false_iff_ne]; omega
  have v0 := cellOf V6 0 (x := .slice A1 r.webs.length c1) rfl
  clear hck
  obtain ⟨y0, hy0⟩ : ∃ y, r.webs[0]? = some y := ⟨_, List.getElem?_eq_getElem hn1⟩
  obtain ⟨g, o, -, rfl, hgb, -⟩ := HAW.out 0 y0 hy0
  have hcells : ∀ k x, r.webs[k]? = some x → ∀ X, Below w6.heap.size w6 X → X.cell? ⟨g, o + k * 3, none⟩ = some (.int .i64 x.cols) ∧ X.cell? ⟨g, o + k * 3 + 1, none⟩ = some (.int .i64 x.rows) := fun k x hx X hX => by
    obtain ⟨g', o', u', e, -, h1, h2, -⟩ := HAW.out k x hx
    simp only [Option.some.injEq, Addr.mk.injEq, and_true] at e
    obtain ⟨rfl, rfl⟩ := e
    have hb := B6.trans (hX.mono B6.size)
    exact ⟨(hb.cell (p := ⟨g, o + k * 3, none⟩) hgb).trans h1, (hb.cell (p := ⟨g, o + k * 3 + 1, none⟩) hgb).trans h2⟩
  have hbox : ∀ X, Below w6.heap.size w6 X → X.cell? ⟨w.heap.size, 0, none⟩ = some (.slice (some ⟨g, o, none⟩) r.webs.length c1) ∧ X.cell? ⟨w3.heap.size, 0, none⟩ = some (.slice X1 r.webs.length d1) ∧ X.cell? ⟨w3.heap.size, 1, none⟩ = some (.slice X2 r.ribs.length d2) ∧ X.cell? ⟨w3.heap.size, 2, none⟩ = some (.slice X3 r.stacks.length d3) ∧ X.cell? ⟨w3.heap.size, 3, none⟩ = some (.bool r.coll) := fun X hX => by
    have k1 := V6.below hX V6.lt
    have k2 := O6.below hX O6.lt
    exact ⟨cellOf k1 0 rfl, cellOf k2 0 rfl, cellOf k2 1 rfl, cellOf k2 2 rfl, cellOf k2 3 rfl⟩
  have hcall : ∀ (X : World) (sw ss sr sc : Int) (p : PlaceD), Below w6.heap.size w6 X → followD r ⟨sw, ss, sr, sc⟩ = (p, 0) → Calls Try.prog 23 #[.agg #[.slice X1 r.webs.length d1, .slice X2 r.ribs.length d2, .slice X3 r.stacks.length d3, .bool r.coll], .agg #[.int .i64 sw, .int .i64 ss, .int .i64 sr, .int .i64 sc]] X fun e w' => e = .returned (.tuple #[.agg #[.int .i64 p.copy, .int .i64 p.sec, .int .i64 p.idx], .int .i64 0]) ∧ Below X.heap.size X w' := fun X sw ss sr sc p hX hp => by
    have := Follow_any _ r ⟨sw, ss, sr, sc⟩ X ((hrd6.below hX).more hX.size)
    rw [hp] at this
    exact this
  have HW := Lib.hid hcells
  have HV := Lib.hid hbox
  have HC := Lib.hid hcall
  have HRD := Lib.hid hrd6
  have hz3 : w3.heap.size < w6.heap.size := O6.lt
  have hz0 : w.heap.size < w6.heap.size := V6.lt
  clear hcells hbox hcall hrd6 HAW V6 O6 hy0 hn1
  go_upto_region 4 with fail
  clear v0 hn2
  go_wp2
  go_loopw [4] (fun i wr => ∃ a : Nat, a ≤ r.webs.length ∧ i = .int .i64 a ∧ Below w6.heap.size w6 wr) (fun i _ => r.webs.length - (intOf i).toNat)
  case atStart => exact ⟨0, Nat.zero_le _, rfl, Below.refl _ _⟩
  case round =>
    obtain ⟨a, ha, rfl, hB⟩ := hrel
    obtain ⟨v0, o0, o1, o2, o3⟩ := HV.out wr hB
    by_cases hlt : a < r.webs.length
    case neg =>
      have C := Lib.hid (Ganged_any _ r wr ((HRD.out.below hB).more hB.size))
      go_wp2_with fail
      refine C.out.mono ?_
      rintro e w12 ⟨u, rfl, hu, -, hb12⟩
      rw [Hok.out]
      replace hu := hu Hok.out
      obtain ⟨Al, cl, rfl⟩ := ownsRow_form hu
      have B12 := hB.trans (hb12.mono hB.size)
      have HU := Lib.hid hu
      have hgm : (gangedD r).length ≤ 9223372036854775807 := by have := own_le hu; simp only [maxLen] at this; omega
      clear C v0 o0 o1 o2 o3 hu hb12 hB
      go_wp2
      go_loopw [13] (fun i wr => ∃ i' : Nat, i' ≤ (gangedD r).length ∧ i = .int .i64 i' ∧ Below w12.heap.size w12 wr) (fun i _ => (gangedD r).length - (intOf i).toNat)
      case atStart => exact ⟨0, Nat.zero_le _, rfl, Below.refl _ _⟩
      case round =>
        obtain ⟨i, hi, rfl, hB⟩ := hrel
        by_cases hlti : i < (gangedD r).length
        case neg =>
          have BF := B12.trans (hB.mono B12.size)
          have BW := B6.trans (BF.mono B6.size)
          go_wp2_with fail
          refine (awake_any _).mono ?_
          rintro e w13 ⟨rfl, hb13⟩
          go_wp2
          go_ret
          exact ⟨rfl, BW.trans (hb13.mono BW.size)⟩
        obtain ⟨p, hp⟩ : ∃ p, (gangedD r)[i]? = some p := ⟨_, List.getElem?_eq_getElem hlti⟩
        obtain ⟨pc, pk, pi, m, aw, as_, ar, ac, bc, rfl, hwa, hwb, hab, hac, hbc, hpm, hpi⟩ := gang_at Hok.out hp
        obtain ⟨gl, rfl, -, hgl⟩ := ownsRow_block HU.out (by omega)
        have hcl : ∀ k q, (gangedD r)[k]? = some q → w12.cell? ⟨gl, k * 3, none⟩ = some (.int .i64 q.copy) ∧ w12.cell? ⟨gl, k * 3 + 1, none⟩ = some (.int .i64 q.sec) ∧ w12.cell? ⟨gl, k * 3 + 2, none⟩ = some (.int .i64 q.idx) := fun k q hq => by
          have hf := fun j hj => flat_at PlaceD.cells 3 (fun _ => rfl) _ k j _ hq hj
          have h0 := HU.out.cells (g := gl) rfl (k * 3) _ (hf 0 (by omega))
          have h1 := HU.out.cells (g := gl) rfl (k * 3 + 1) _ (hf 1 (by omega))
          have h2 := HU.out.cells (g := gl) rfl (k * 3 + 2) _ (hf 2 (by omega))
          rw [add0] at h0 h1 h2
          exact ⟨h0, h1, h2⟩
        have HCl := Lib.hid hcl
        have hlc : ∀ X, Below w12.heap.size w12 X → X.cell? ⟨gl, i * 3, none⟩ = some (.int .i64 pc) ∧ X.cell? ⟨gl, i * 3 + 1, none⟩ = some (.int .i64 pk) ∧ X.cell? ⟨gl, i * 3 + 2, none⟩ = some (.int .i64 pi) := fun X hX => by
          obtain ⟨h0, h1, h2⟩ := HCl.out i _ hp
          exact ⟨(hX.cell (p := ⟨gl, i * 3, none⟩) hgl).trans h0, (hX.cell (p := ⟨gl, i * 3 + 1, none⟩) hgl).trans h1, (hX.cell (p := ⟨gl, i * 3 + 2, none⟩) hgl).trans h2⟩
        have hwh : ∀ (X : World) (c k j : Int) (s : SpotD), Below w12.heap.size w12 X → whereD r ⟨c, k, j⟩ = (s, 0) → Calls Try.prog 21 #[.agg #[.slice X1 r.webs.length d1, .slice X2 r.ribs.length d2, .slice X3 r.stacks.length d3, .bool r.coll], .agg #[.int .i64 c, .int .i64 k, .int .i64 j]] X fun e w' => e = .returned (.tuple #[.agg #[.int .i64 s.web, .int .i64 s.side, .int .i64 s.row, .int .i64 s.col], .int .i64 0]) ∧ Below X.heap.size X w' := fun X c k j s hX hs => by
          have hX6 := B12.trans (hX.mono B12.size)
          have := where_any _ r ⟨c, k, j⟩ X ((HRD.out.below hX6).more hX6.size)
          rw [hs] at this
          exact this
        have HL := Lib.hid hlc
        have HWH := Lib.hid hwh
        have HP := Lib.hid hp
        have HWB := Lib.hid hwb
        have C1 := Lib.hid (fun X hX => HWH.out X pc pk pi _ hX hwa)
        have hii : (i : Int) < ((gangedD r).length : Int) := by omega
        obtain ⟨l0, l1, l2⟩ := HL.out wr hB
        have kw : IntKind.i64.wrap ((pi : Int) + 1) = (pi : Int) + 1 := IntWalk.i64_in _ ⟨by omega, by omega⟩
        have F13 : ∃ w13, wr.alloc (.cells #[.int .i64 pc, .int .i64 pk, .int .i64 ((pi : Int) + 1)] 56) = w13 ∧ Below wr.heap.size wr w13 ∧ Blk w13 wr.heap.size 56 #[.int .i64 pc, .int .i64 pk, .int .i64 ((pi : Int) + 1)] := ⟨_, rfl, (Below.refl _ _).alloc (Nat.le_refl _) _, Blk.new _ _ _⟩
        obtain ⟨w13, e13, hb13, P13⟩ := F13
        have E13 := Lib.hid e13
        have B13 := hB.trans (hb13.mono hB.size)
        have HPM := Lib.hid hpm
        clear hcl hlc hwh hp hwa hwb e13 hb13 hpm
        go_upto_region 25 with fail
        rw [E13.out]
        clear l0 l1 l2 kw
        obtain ⟨l0, l1, l2⟩ := HL.out w13 B13
        obtain ⟨v0, o0, o1, o2, o3⟩ := HV.out w13 (B12.trans (B13.mono B12.size))
        have hz : ∀ w14, Below (w13.alloc (.cells #[.int .i64 0, .int .i64 0, .int .i64 0, .int .i64 0] 53)).drew.heap.size (w13.alloc (.cells #[.int .i64 0, .int .i64 0, .int .i64 0, .int .i64 0] 53)).drew w14 →
            Blk w14 w13.heap.size 53 #[.int .i64 0, .int .i64 0, .int .i64 0, .int .i64 0] ∧ w14.cell? ⟨w13.heap.size, 0, none⟩ = some (.int .i64 0) ∧ w14.cell? ⟨w13.heap.size, 1, none⟩ = some (.int .i64 0) ∧ w14.cell? ⟨w13.heap.size, 2, none⟩ = some (.int .i64 0) ∧ w14.cell? ⟨w13.heap.size, 3, none⟩ = some (.int .i64 0) ∧
            w14.frozen? ⟨w13.heap.size, 0, none⟩ = false ∧ w14.frozen? ⟨w13.heap.size, 1, none⟩ = false ∧ w14.frozen? ⟨w13.heap.size, 2, none⟩ = false ∧ w14.frozen? ⟨w13.heap.size, 3, none⟩ = false := fun w14 h => by
          have hk : Blk w14 w13.heap.size 53 #[.int .i64 0, .int .i64 0, .int .i64 0, .int .i64 0] := (Blk.new w13 _ _).below (W := (w13.alloc (.cells #[.int .i64 0, .int .i64 0, .int .i64 0, .int .i64 0] 53)).drew) h (by show w13.heap.size < (w13.alloc _).heap.size; rw [World.size_alloc]; omega)
          exact ⟨hk, hk.cell 0, hk.cell 1, hk.cell 2, hk.cell 3, hk.frozen 0, hk.frozen 1, hk.frozen 2, hk.frozen 3⟩
        have HZ := Lib.hid hz
        have za : ∀ o, w13.heap.size ≤ (w13.alloc o).heap.size := fun o => by simp
        have ZA := Lib.hid za
        have hc1 : ∀ X, Below w13.heap.size w13 X → Calls Try.prog 21 #[.agg #[.slice X1 r.webs.length d1, .slice X2 r.ribs.length d2, .slice X3 r.stacks.length d3, .bool r.coll], .agg #[.int .i64 pc, .int .i64 pk, .int .i64 pi]] X fun e w' => e = .returned (.tuple #[.agg #[.int .i64 aw, .int .i64 as_, .int .i64 ar, .int .i64 ac], .int .i64 0]) ∧ Below X.heap.size X w' := fun X hX => C1.out X (B13.trans (hX.mono B13.size))
        have HC1 := Lib.hid hc1
        have HP13 := Lib.hid P13
        have n1 : gl < w13.heap.size := Nat.lt_of_lt_of_le hgl B13.size
        have n2 : w3.heap.size < w13.heap.size := Nat.lt_of_lt_of_le hz3 (Nat.le_trans B12.size B13.size)
        clear hz za hc1 C1 P13
        go_cut [15, 16] (fun s15 s16 wx => SpotCut w12 wr.heap.size #[.int .i64 pc, .int .i64 pk, .int .i64 ((pi : Int) + 1)] #[.int .i64 aw, .int .i64 as_, .int .i64 ar, .int .i64 ac] s15 s16 wx)
        case first =>
          go_region_with (go_at_call 21; refine (HC1.out _ ?_).mono ?_; (first | exact (Below.refl _ _).drew | exact ((Below.refl _ _).alloc (Nat.le_refl _) _).drew); rintro e w14 ⟨rfl, hb14⟩; have h34 : Below w13.heap.size w13 w14 := (by first | exact ((Below.refl w13.heap.size w13).drew).trans (hb14.mono (Nat.le_refl _)) | exact (((Below.refl w13.heap.size w13).alloc (Nat.le_refl _) _).drew).trans (hb14.mono (ZA.out _))); (first | (refine (fun H => ?_) (HZ.out w14 hb14); obtain ⟨z9, z0, z1, z2, z3, g0, g1, g2, g3⟩ := H) | skip))
          all_goals (go_wp2_with fail; go_meet; first | with_reducible exact spot_cutA B13 h34 HP13.out | with_reducible exact spot_cutB B13 h34 HP13.out z9)
        case rest =>
        obtain ⟨Bs, rfl, rfl, S15, P15, B15⟩ := hcut
        clear l0 l1 l2 v0 o0 o1 o2 o3 n1 n2 HC1 HZ ZA HP13 E13
        obtain ⟨w15, rfl⟩ : ∃ w15, w15 = wc := ⟨wc, rfl⟩
        obtain ⟨v0, o0, o1, o2, o3⟩ := HV.out w15 (B12.trans (B15.mono B12.size))
        have p0 := cellOf P15 0 (x := .int .i64 pc) rfl
        have p1 := cellOf P15 1 (x := .int .i64 pk) rfl
        have p2 := cellOf P15 2 (x := .int .i64 ((pi : Int) + 1)) rfl
        have C2 := Lib.hid (HWH.out w15 pc pk ((pi : Int) + 1) _ B15 HWB.out)
        go_upto_region 26 with fail
        go_wp2_with fail
        refine C2.out.mono ?_
        rintro e w16 ⟨rfl, hb16⟩
        have B16 := B15.trans (hb16.mono B15.size)
        have S16 := S15.below hb16 S15.lt
        have F17 : ∃ w17, w16.alloc (.cells #[.int .i64 aw, .int .i64 as_, .int .i64 ar, .int .i64 bc] 53) = w17 ∧ Below w16.heap.size w16 w17 ∧ Blk w17 w16.heap.size 53 #[.int .i64 aw, .int .i64 as_, .int .i64 ar, .int .i64 bc] := ⟨_, rfl, (Below.refl _ _).alloc (Nat.le_refl _) _, Blk.new _ _ _⟩
        obtain ⟨w17, e17, hb17, T17⟩ := F17
        have E17 := Lib.hid e17
        have S17 := S16.below hb17 S16.lt
        have B17 := B16.trans (hb17.mono B16.size)
        clear v0 o0 o1 o2 o3 p0 p1 p2 C2 S15 S16 P15 e17 hb17 hb16
        obtain ⟨l0, l1, l2⟩ := HL.out w17 B17
        have s0 := cellOf S17 0 (x := .int .i64 aw) rfl
        have s1 := cellOf S17 1 (x := .int .i64 as_) rfl
        have s2 := cellOf S17 2 (x := .int .i64 ar) rfl
        have s3 := cellOf S17 3 (x := .int .i64 ac) rfl
        have t0 := cellOf T17 0 (x := .int .i64 aw) rfl
        have t1 := cellOf T17 1 (x := .int .i64 as_) rfl
        have t2 := cellOf T17 2 (x := .int .i64 ar) rfl
        have t3 := cellOf T17 3 (x := .int .i64 bc) rfl
        have k1 : IntKind.i64.wrap (ac - bc) = ac - bc := IntWalk.i64_in _ ⟨by omega, by omega⟩
        have k2 : IntKind.i64.wrap (bc - ac) = bc - ac := IntWalk.i64_in _ ⟨by omega, by omega⟩
        have k6 : ((pi : Int) % 2 != 1) = false := by have := HPM.out; simp; omega
        clear S17 T17
        go_upto_region 27 with fail
        rw [E17.out]
        have hk : (ac - bc != 1) = false ∨ ((ac - bc != 1) = true ∧ (bc - ac != 1) = false) := by
          rcases hab with h | h
          · left; simpa using h
          · right; constructor
            · simp; omega
            · simpa using h
        have BF := B6.trans ((B12.trans (B17.mono B12.size)).mono B6.size)
        clear hab HPM
        rcases hk with k3 | ⟨k3, k4⟩
        all_goals
          go_upto_region 29 with fail
          rcases Nat.eq_zero_or_pos i with h0 | h0
          · subst h0
            go_quiet (fail)
            go_wp2
            exact ⟨⟨1, by omega, by go_num, below_drewN B17 _⟩, by simp [intOf]; omega⟩
          · obtain ⟨k, rfl⟩ : ∃ k, i = k + 1 := ⟨i - 1, by omega⟩
            obtain ⟨q, hq⟩ : ∃ q, (gangedD r)[k]? = some q := ⟨_, List.getElem?_eq_getElem (by omega)⟩
            have hprev := gang_prev Hok.out hq HP.out
            obtain ⟨qc, qk, qi, -, -, -, -, -, -, rfl, -⟩ := gang_at Hok.out hq
            obtain ⟨h1, h2, -⟩ := HCl.out k _ hq
            have j0 := (B17.cell (p := ⟨gl, k * 3, none⟩) hgl).trans h1
            have j1 := (B17.cell (p := ⟨gl, k * 3 + 1, none⟩) hgl).trans h2
            dsimp only at j0 j1 hprev
            have hwr : IntKind.i64.wrap ((k : Int) + 1 - 1) = (k : Int) := by
              rw [show (k : Int) + 1 - 1 = k by omega]; exact IntWalk.i64_in _ ⟨by omega, by omega⟩
            have hwr0 : IntKind.i64.wrap (k : Int) = (k : Int) := IntWalk.i64_in _ ⟨by omega, by omega⟩
            have hwr2 : (0 : Int) ≤ (k : Int) + 1 := by omega
            have hwr3 : ((k : Int) + 1).toNat = k + 1 := by omega
            have hwr4 : (0 : Int) ≤ (k : Int) := by omega
            have hwr5 : (k : Int) < ((gangedD r).length : Int) := by omega
            have hwr6 : (k : Int) + 1 < ((gangedD r).length : Int) := by omega
            clear hq h1 h2 h0
            by_cases hcc : (pc : Int) = qc
            · have hcb : ((pc : Int) == qc) = true := by simpa using hcc
              have hkb : ¬ pk ≤ qk := by have := hprev hcc.symm; omega
              clear hprev hcc
              go_quiet (fail)
              go_wp2
              exact ⟨⟨k + 2, by omega, by go_num, below_drewN B17 _⟩, by simp [intOf]; omega⟩
            · have hcb : ((pc : Int) == qc) = false := by simpa using hcc
              clear hprev hcc
              go_quiet (fail)
              go_wp2
              exact ⟨⟨k + 2, by omega, by go_num, below_drewN B17 _⟩, by simp [intOf]; omega⟩
    obtain ⟨x, hx⟩ : ∃ x, r.webs[a]? = some x := ⟨_, List.getElem?_eq_getElem hlt⟩
    have hwx := webs_ok (parts_ok Hok.out 1 (by omega)) x (List.mem_of_getElem? hx)
    obtain ⟨wc1, wc2, wr1, wr2, -⟩ := hwx
    have hia : (a : Int) < (r.webs.length : Int) := by omega
    have HX := Lib.hid hx
    clear hx
    go_wp2
    clear v0 o0 o1 o2 o3
    obtain ⟨wo, rfl⟩ : ∃ wo, wo = wr := ⟨wr, rfl⟩
    go_loopw [5] (fun i wr => ∃ b : Nat, (b : Int) ≤ x.rows ∧ i = .int .i64 b ∧ Below w6.heap.size w6 wr) (fun i _ => x.rows.toNat - (intOf i).toNat)
    case atStart => exact ⟨0, by omega, rfl, hB⟩
    case round =>
      clear hB
      obtain ⟨b, hb, rfl, hB⟩ := hrel
      obtain ⟨v0, o0, o1, o2, o3⟩ := HV.out wr hB
      obtain ⟨q0, q1⟩ := HW.out a x HX.out wr hB
      by_cases hltb : (b : Int) < x.rows
      case neg =>
        go_wp2
        go_roundw
        case rel => exact ⟨a + 1, by omega, by go_num, hB⟩
        case measure => simp [intOf]; omega
      go_wp2
      clear v0 o0 o1 o2 o3 q0 q1
      obtain ⟨wp, rfl⟩ : ∃ wp, wp = wr := ⟨wr, rfl⟩
      go_loopw [6] (fun i wr => ∃ c : Nat, (c : Int) ≤ x.cols ∧ i = .int .i64 c ∧ Below w6.heap.size w6 wr) (fun i _ => x.cols.toNat - (intOf i).toNat)
      case atStart => exact ⟨0, by omega, rfl, hB⟩
      case round =>
        clear hB
        obtain ⟨c, hc, rfl, hB⟩ := hrel
        obtain ⟨v0, o0, o1, o2, o3⟩ := HV.out wr hB
        obtain ⟨q0, q1⟩ := HW.out a x HX.out wr hB
        by_cases hltc : (c : Int) < x.cols
        case neg =>
          go_wp2
          go_roundw
          case rel => exact ⟨b + 1, by omega, by go_num, hB⟩
          case measure => simp [intOf]; omega
        obtain ⟨cc, k, i, j, m, hp, hq, hi, hj, hij⟩ := two_sides Hok.out HX.out hltb hltc
        have C1 := Lib.hid (HC.out wr a 0 b c _ hB hp)
        have HQ := Lib.hid hq
        clear hp hq
        go_wp2_with fail
        refine C1.out.mono ?_
        rintro e w7 ⟨rfl, hb7⟩
        have B7 := hB.trans (hb7.mono hB.size)
        have F8 : ∃ w8, w7.alloc (.cells #[.int .i64 cc, .int .i64 k, .int .i64 i] 56) = w8 ∧ Below w7.heap.size w7 w8 ∧ Blk w8 w7.heap.size 56 #[.int .i64 cc, .int .i64 k, .int .i64 i] := ⟨_, rfl, (Below.refl _ _).alloc (Nat.le_refl _) _, Blk.new _ _ _⟩
        obtain ⟨w8, e8, hb8, P8⟩ := F8
        have E8 := Lib.hid e8
        have B8 := B7.trans (hb8.mono B7.size)
        clear v0 o0 o1 o2 o3 q0 q1 C1 hb7 e8 B7
        obtain ⟨v0, o0, o1, o2, o3⟩ := HV.out w8 B8
        have C2 := Lib.hid (HC.out w8 a 1 b c _ B8 HQ.out)
        go_upto_region 14 with fail
        rw [E8.out]
        go_wp2_with fail
        refine C2.out.mono ?_
        rintro e w9 ⟨rfl, hb9⟩
        have B9 := B8.trans (hb9.mono B8.size)
        have P9 := P8.below hb9 P8.lt
        have F10 : ∃ w10, w9.alloc (.cells #[.int .i64 cc, .int .i64 k, .int .i64 j] 56) = w10 ∧ Below w9.heap.size w9 w10 ∧ Blk w10 w9.heap.size 56 #[.int .i64 cc, .int .i64 k, .int .i64 j] := ⟨_, rfl, (Below.refl _ _).alloc (Nat.le_refl _) _, Blk.new _ _ _⟩
        obtain ⟨w10, e10, hb10, Q10⟩ := F10
        have E10 := Lib.hid e10
        have P10 := P9.below hb10 P9.lt
        have B10 := B9.trans (hb10.mono B9.size)
        clear v0 o0 o1 o2 o3 C2 hb8 hb9 P8 P9 e10 B8 B9 hB HQ
        have p0 := cellOf P10 0 (x := .int .i64 cc) rfl
        have p1 := cellOf P10 1 (x := .int .i64 k) rfl
        have p2 := cellOf P10 2 (x := .int .i64 i) rfl
        have q0 := cellOf Q10 0 (x := .int .i64 cc) rfl
        have q1 := cellOf Q10 1 (x := .int .i64 k) rfl
        have q2 := cellOf Q10 2 (x := .int .i64 j) rfl
        have k1 : IntKind.i64.wrap ((i : Int) - (j : Int)) = (i : Int) - j := IntWalk.i64_in _ ⟨by omega, by omega⟩
        have k2 : IntKind.i64.wrap ((j : Int) - (i : Int)) = (j : Int) - i := IntWalk.i64_in _ ⟨by omega, by omega⟩
        have HM : Hid ((i = 2 * m ∧ j = 2 * m + 1) ∨ (i = 2 * m + 1 ∧ j = 2 * m)) := hij
        clear hij P10 Q10
        go_upto_region 15 with fail
        rw [E10.out]
        rcases HM.out with ⟨h1, h2⟩ | ⟨h1, h2⟩
        · have k3 : ((i : Int) - j != 1) = true := by simp; omega
          have k4 : ((j : Int) - i != 1) = false := by simp; omega
          have k5 : ¬ j < i := by omega
          have k6 : ((i : Int) % 2 != 0) = false := by simp; omega
          clear h1 h2
          go_wp2
          exact ⟨⟨c + 1, by omega, by go_num, B10⟩, by simp [intOf]; omega⟩
        · have k3 : ((i : Int) - j != 1) = false := by simp; omega
          have k5 : j < i := by omega
          have k6 : ((j : Int) % 2 != 0) = false := by simp; omega
          clear h1 h2
          go_wp2
          exact ⟨⟨c + 1, by omega, by go_num, B10⟩, by simp [intOf]; omega⟩
end Go.Proofs.Ytdbfhdncjblleaa
