/-
  FoldRight: for every run, list of numbers, web, plate and page, where what it reads is of bulk at most 1048576, the call returns true, and each argument reads as it did.
  First what stands in memory while a plate of the filled run is changed, then the walk, then the statement.
-/
import Derived.Test.YtdbfhdncjblleaaKp
import Derived.Test.YtdbfhdncjblleaaTu
import Derived.Test.YtdbfhdncjblleaaKn
namespace Go.Proofs.Ytdbfhdncjblleaa
open Go.RowKit

theorem OIntss.reads {base : Nat} {w : World} {v : Value} {l : List (List Int)} (h : OIntss base w v l) : RIntss w.heap.size w v l := by
  obtain ⟨vs, h⟩ := h
  exact OAll.reads h fun _ _ hr => Rd.own hr (own_le hr)
theorem ORun.reads2 {b : Nat} {w : World} {v : Value} {r : RunD} (h : ORun b w v r) : RRun w.heap.size w v r := by
  obtain ⟨v1, vs, v2, v3, rfl, ⟨h1, h2, h3, -⟩, h4, h5⟩ := h
  exact ⟨_, _, _, rfl, ⟨vs, Rd.own h1 (own_le h1), h2, fun i u x hu hx => Rd.own (h3 i u x hu hx) (own_le (h3 i u x hu hx))⟩, Rd.own h4 (own_le h4), h5.reads⟩
theorem arr_modify_same {α : Type} (a : Array α) (i : Nat) (f : α → α) (x : α) (h : a[i]? = some x) (hf : f x = x) : a.modify i f = a := by
  apply Array.ext_getElem?
  intro j
  rw [Array.getElem?_modify]
  split
  · rename_i e
    subst e
    rw [h]; simp [hf]
  · rfl
/-- A cell stored as it is. -/
theorem blk_same {W : World} {b i : Nat} {t : TypeId} {cs : Array Value} {u : Value} (h : Blk W b t cs) (hu : cs[i]? = some u) : W.setCell ⟨b, i, none⟩ u = W := by
  have e : (W.setCell ⟨b, i, none⟩ u).heap = W.heap := by
    unfold World.setCell
    dsimp only
    refine arr_modify_same _ _ _ _ h ?_
    have h2 : cs.setIfInBounds i u = cs := by
      apply Array.ext_getElem?
      intro j
      rw [Array.getElem?_setIfInBounds]
      split
      · rename_i e
        subst e
        have h3 := (Array.getElem?_eq_some_iff.1 hu).1
        rw [if_pos h3, hu]
      · rfl
    simp [h2]
  have e2 : W.setCell ⟨b, i, none⟩ u = { W with heap := (W.setCell ⟨b, i, none⟩ u).heap } := rfl
  rw [e2, e]
theorem putPlate_twice (l : List WebD) (m k : Nat) (p q : PlateD) : putPlate (putPlate l m k p) m k q = putPlate l m k q := by
  unfold putPlate
  rcases Nat.lt_or_ge m l.length with hm | hm
  · have e : (l.set m ⟨(l.getD m default).cols, (l.getD m default).rows, (l.getD m default).plates.set k p⟩).getD m default = ⟨(l.getD m default).cols, (l.getD m default).rows, (l.getD m default).plates.set k p⟩ := by
      rw [List.getD_eq_getElem?_getD, List.getElem?_set_self hm]; rfl
    rw [e]
    simp only [List.set_set]
  · rw [List.set_eq_of_length_le hm, List.set_eq_of_length_le hm]
theorem putPlate_at {l : List WebD} {m : Nat} {x : WebD} (hx : l[m]? = some x) (k : Nat) (q : PlateD) : (putPlate l m k q)[m]? = some ⟨x.cols, x.rows, x.plates.set k q⟩ := by
  unfold putPlate
  rw [getD_of hx, List.getElem?_set_self (List.getElem?_eq_some_iff.1 hx).1]

/-- The filled run, in memory above w0; its box is block B. -/
def YSt (w0 : World) (r : RunD) (B : Nat) (y1 y2 y3 : Value) (vs : List Value) (ws : List WebD) (X : World) : Prop :=
  OWebs w0.heap.size X y1 vs ws ∧ ORibs w0.heap.size X y2 r.ribs ∧ OIntss w0.heap.size X y3 r.stacks ∧ Below w0.heap.size w0 X ∧ Blk X B 36 #[y1, y2, y3, .bool r.coll]
section
variable {w0 X X' : World} {r : RunD} {B : Nat} {y1 y2 y3 : Value} {vs : List Value} {ws : List WebD}
theorem YSt.below (h : YSt w0 r B y1 y2 y3 vs ws X) (hb : Below X.heap.size X X') : YSt w0 r B y1 y2 y3 vs ws X' := by
  obtain ⟨h1, h2, h3, h4, h5⟩ := h
  exact ⟨h1.below hb, ownsRow_below h2 hb, h3.below hb, h4.trans (hb.mono h4.size), h5.below hb h5.lt⟩
theorem YSt.run (h : YSt w0 r B y1 y2 y3 vs ws X) : RRun X.heap.size X (.agg #[y1, y2, y3, .bool r.coll]) { r with webs := ws } := by
  obtain ⟨h1, h2, h3, -, -⟩ := h
  exact ORun.reads2 (b := w0.heap.size) ⟨y1, vs, y2, y3, rfl, h1, h2, h3⟩
/-- Both cells of a plate. -/
theorem YSt.put (h : YSt w0 r B y1 y2 y3 vs ws X) {m k g n c : Nat} {x : WebD} (hu : vs[m]? = some (.slice (some ⟨g, 0, none⟩) n c)) (hx : ws[m]? = some x) (hk : k < x.plates.length) (pg : Int) (up : Bool) :
    YSt w0 r B y1 y2 y3 vs (putPlate ws m k ⟨pg, up⟩) ((X.setCell ⟨g, k * 2, none⟩ (.int .i64 pg)).setCell ⟨g, k * 2 + 1, none⟩ (.bool up)) := by
  obtain ⟨h1, h2, h3, h4, h5⟩ := h
  obtain ⟨p1, p2, p3, p4⟩ := h1.put hu hx hk pg up
  exact ⟨p1, ownsRow_grew h2 p2 (by decide), h3.grew p2 (by decide) (by decide), (h4.setCell (p := ⟨g, k * 2, none⟩) p3 _).setCell (p := ⟨g, k * 2 + 1, none⟩) p3 _, h5.grew p2 (by decide)⟩
/-- The block of a web's plates, and where the plate stands in it. -/
theorem YSt.plate (h : YSt w0 r B y1 y2 y3 vs ws X) {m k g n c : Nat} {x : WebD} {p : PlateD} (hu : vs[m]? = some (.slice (some ⟨g, 0, none⟩) n c)) (hx : ws[m]? = some x) (hp : x.plates[k]? = some p) :
    X.cell? ⟨g, k * 2, none⟩ = some (.int .i64 p.page) ∧ X.cell? ⟨g, k * 2 + 1, none⟩ = some (.bool p.up) ∧ X.frozen? ⟨g, k * 2, none⟩ = false ∧ X.frozen? ⟨g, k * 2 + 1, none⟩ = false ∧ w0.heap.size ≤ g ∧ g < X.heap.size ∧
      ∃ cs, Blk X g 89 cs ∧ cs[k * 2]? = some (.int .i64 p.page) ∧ cs[k * 2 + 1]? = some (.bool p.up) := by
  obtain ⟨h1, -⟩ := h
  have ho := h1.2.2.1 m _ x hu hx
  obtain ⟨e1, e2⟩ := ho.at hp
  obtain ⟨cs, hcs⟩ := ho.blk
  have hlt := ho.lt g rfl
  exact ⟨e1, e2, hcs.frozen _, hcs.frozen _, hlt.1, hlt.2, cs, hcs, (hcs.cell _).symm.trans e1, (hcs.cell _).symm.trans e2⟩
/-- Upside alone. -/
theorem YSt.put_up (h : YSt w0 r B y1 y2 y3 vs ws X) {m k g n c : Nat} {x : WebD} {p : PlateD} (hu : vs[m]? = some (.slice (some ⟨g, 0, none⟩) n c)) (hx : ws[m]? = some x) (hp : x.plates[k]? = some p) (up : Bool) :
    YSt w0 r B y1 y2 y3 vs (putPlate ws m k ⟨p.page, up⟩) (X.setCell ⟨g, k * 2 + 1, none⟩ (.bool up)) := by
  obtain ⟨-, -, -, -, -, -, cs, hcs, e1, -⟩ := h.plate hu hx hp
  have := h.put hu hx (List.getElem?_eq_some_iff.1 hp).1 p.page up
  rw [blk_same hcs e1] at this
  exact this
/-- The page alone. -/
theorem YSt.put_page (h : YSt w0 r B y1 y2 y3 vs ws X) {m k g n c : Nat} {x : WebD} {p : PlateD} (hu : vs[m]? = some (.slice (some ⟨g, 0, none⟩) n c)) (hx : ws[m]? = some x) (hp : x.plates[k]? = some p) (pg : Int) :
    YSt w0 r B y1 y2 y3 vs (putPlate ws m k ⟨pg, p.up⟩) (X.setCell ⟨g, k * 2, none⟩ (.int .i64 pg)) := by
  obtain ⟨-, -, -, -, -, -, cs, hcs, e1, e2⟩ := h.plate hu hx hp
  have := h.put hu hx (List.getElem?_eq_some_iff.1 hp).1 pg p.up
  rw [blk_same (hcs.put (k * 2) (.int .i64 pg)) (by rw [Array.getElem?_setIfInBounds_ne (by omega)]; exact e2)] at this
  exact this
/-- The slices of the webs' cells. -/
theorem YSt.web {gy ny cy : Nat} (h : YSt w0 r B (.slice (some ⟨gy, 0, none⟩) ny cy) y2 y3 vs ws X) {m : Nat} {x : WebD} (hx : ws[m]? = some x) (hpos : 0 < x.plates.length) :
    ∃ g c, vs[m]? = some (.slice (some ⟨g, 0, none⟩) x.plates.length c) ∧ X.cell? ⟨gy, m * 3 + 2, none⟩ = some (.slice (some ⟨g, 0, none⟩) x.plates.length c) := by
  obtain ⟨u, h1, h2, -, -, h5⟩ := h.1.at hx
  obtain ⟨A, c, rfl⟩ := ownsRow_form h2
  obtain ⟨g, rfl, -⟩ := ownsRow_block h2 hpos
  exact ⟨g, c, h1, h5⟩
end
theorem pick_same (x n : Int) (hn : 1 ≤ n) (hn2 : n ≤ 1000000) (w : World) :
    Calls Try.prog 39 #[.int .i64 x, .int .i64 n] w fun e w' => e = .returned (.int .i64 (x % n)) ∧ w' = w :=
  (pick_any x n hn hn2 w).mono fun _ _ ⟨h1, h2⟩ => ⟨h1, h2.symm⟩
end Go.Proofs.Ytdbfhdncjblleaa
namespace Go.Proofs.Ytdbfhdncjblleaa
open Go.RowKit

theorem filled_form {r r' : RunD} {product : List (List Int)} (h : Filled r product r') : ∃ ws, r' = { r with webs := ws } := by
  obtain ⟨h1, h2, h3, -⟩ := h
  refine ⟨r'.webs, ?_⟩
  cases r'
  cases r
  simp only at h1 h2 h3
  subst h1 h2 h3
  rfl
theorem pick_nat (x n : Int) (m : Nat) (hn : 1 ≤ n) (hn2 : n ≤ 1000000) (hm : x % n = m) (w : World) :
    Calls Try.prog 39 #[.int .i64 x, .int .i64 n] w fun e w' => e = .returned (.int .i64 (m : Int)) ∧ w' = w := by
  have := pick_same x n hn hn2 w
  rw [hm] at this
  exact this
theorem emod_nat (x : Int) (n : Nat) (h : 0 < n) : ∃ m : Nat, x % (n : Int) = m ∧ m < n := by
  have h1 := Int.emod_nonneg x (show (n : Int) ≠ 0 by omega)
  have h2 := Int.emod_lt_of_pos x (show 0 < (n : Int) by omega)
  exact ⟨(x % (n : Int)).toNat, by omega, by omega⟩

set_option maxRecDepth 100000 in
set_option maxHeartbeats 4000000 in
theorem RightLaw_any (v nv : Value) (r : RunD) (numbers : List Int) (web plate page : Int) (w : World) (h : RRun w.heap.size w v r) (hbd : Bounded r) (hn : RInts w.heap.size w nv numbers) :
    Calls Try.prog 7 #[v, nv, .int .i64 web, .int .i64 plate, .int .i64 page] w fun e w' => e = .returned (.bool true) ∧ Below w.heap.size w w' := by
  obtain ⟨i0, hi, hz0, hz1, hz2⟩ := info_parts infoInt0
  obtain ⟨i2, hi2, hs0, hs1, hs2⟩ := info_parts infoInts0
  have hrun := Lib.hid h
  have HBd := Lib.hid hbd
  obtain ⟨A1, c1, A2, c2, A3, c3, rfl⟩ := h.shape
  obtain ⟨Ax, cx, ex, hlw, hAw⟩ := (h.webs).open_
  cases ex
  have HAW := Lib.hid hAw
  clear h hbd hAw
  obtain ⟨An, cn, rfl, hnl, hnc⟩ := hn.open_
  have HN := Lib.hid hnc
  clear hn hnc
  have F0 : ∃ W0, w.alloc (.cells #[.slice A1 r.webs.length c1, .slice A2 r.ribs.length c2, .slice A3 r.stacks.length c3, .bool r.coll] 26) = W0 ∧ Below w.heap.size w W0 ∧ Blk W0 w.heap.size 26 #[.slice A1 r.webs.length c1, .slice A2 r.ribs.length c2, .slice A3 r.stacks.length c3, .bool r.coll] :=
    ⟨_, rfl, (Below.refl _ _).alloc (Nat.le_refl _) _, Blk.new _ _ _⟩
  obtain ⟨W0, e0, B0, V0⟩ := F0
  have E0 := Lib.hid e0
  have v0 := cellOf V0 0 (x := .slice A1 r.webs.length c1) rfl
  have v1 := cellOf V0 1 (x := .slice A2 r.ribs.length c2) rfl
  have v2 := cellOf V0 2 (x := .slice A3 r.stacks.length c3) rfl
  have v3 := cellOf V0 3 (x := .bool r.coll) rfl
  have C := Lib.hid (Own_any _ r W0 ((hrun.out.below B0).more B0.size) HBd.out)
  clear e0
  go_enter Try.func7, Try.ntmps7
  go_upto_region 1 with fail
  rw [E0.out]
  go_wp2_with fail
  refine C.out.mono ?_
  rintro e w3 ⟨u, rfl, hor, hb3⟩
  have B3 := B0.trans (hb3.mono B0.size)
  have V3 := V0.below hb3 V0.lt
  obtain ⟨X1, d1, X2, d2, X3, d3, rfl⟩ : ∃ X1 d1 X2 d2 X3 d3, u = .agg #[.slice X1 r.webs.length d1, .slice X2 r.ribs.length d2, .slice X3 r.stacks.length d3, .bool r.coll] := by
    obtain ⟨u1, vs, u2, u3, rfl, ow, orb, ws, os⟩ := hor
    obtain ⟨D1, m1, rfl⟩ := ownsRow_form ow.1
    obtain ⟨D2, m2, rfl⟩ := ownsRow_form orb
    obtain ⟨D3, m3, rfl⟩ := ownsRow_form os.1
    exact ⟨_, _, _, _, _, _, rfl⟩
  have F4 : ∃ w4, w3.alloc (.cells #[.slice X1 r.webs.length d1, .slice X2 r.ribs.length d2, .slice X3 r.stacks.length d3, .bool r.coll] 36) = w4 ∧ Below w3.heap.size w3 w4 ∧ Blk w4 w3.heap.size 36 #[.slice X1 r.webs.length d1, .slice X2 r.ribs.length d2, .slice X3 r.stacks.length d3, .bool r.coll] :=
    ⟨_, rfl, (Below.refl _ _).alloc (Nat.le_refl _) _, Blk.new _ _ _⟩
  obtain ⟨w4, e4, hb4, O4⟩ := F4
  have E4 := Lib.hid e4
  have V4 := V3.below hb4 V3.lt
  have B4 := B3.trans (hb4.mono B3.size)
  clear v0 v1 v2 v3 C V0 B0 V3 e4
  have o0 := cellOf O4 0 (x := .slice X1 r.webs.length d1) rfl
  have o1 := cellOf O4 1 (x := .slice X2 r.ribs.length d2) rfl
  have o2 := cellOf O4 2 (x := .slice X3 r.stacks.length d3) rfl
  have o3 := cellOf O4 3 (x := .bool r.coll) rfl
  have hrd4 := ((hor.reads2).below hb4).more hb4.size
  have C := Lib.hid (Sizes_any _ r w4 hrd4)
  clear hor
  go_upto_region 2 with fail
  rw [E4.out]
  go_wp2_with fail
  refine C.out.mono ?_
  rintro e w5 ⟨u5, rfl, hu5, -, hb5⟩
  have B5 := B4.trans (hb5.mono B4.size)
  have V5 := V4.below hb5 V4.lt
  have O5 := O4.below hb5 O4.lt
  have hrd5 := (hrd4.below hb5).more hb5.size
  clear C o0 o1 o2 o3 V4 O4 hrd4
  have v0 := cellOf V5 0 (x := .slice A1 r.webs.length c1) rfl
  have v1 := cellOf V5 1 (x := .slice A2 r.ribs.length c2) rfl
  have v2 := cellOf V5 2 (x := .slice A3 r.stacks.length c3) rfl
  have v3 := cellOf V5 3 (x := .bool r.coll) rfl
  have C := Lib.hid (big_any _ r w5 ((hrun.out.below B5).more B5.size))
  go_upto_region 3 with fail
  cases hbig : bigB r
  case true =>
    rw [hbig] at C
    clear hu5 V5 O5 hrd5
    go_wp2_with fail
    refine C.out.mono ?_
    rintro e w6 ⟨rfl, hb6⟩
    have B6 := B5.trans (hb6.mono B5.size)
    go_wp2_with fail
    refine (awake_any _).mono ?_
    rintro e w7 ⟨rfl, hb7⟩
    go_wp2
    go_ret
    exact ⟨rfl, B6.trans (hb7.mono B6.size)⟩
  rw [hbig] at C
  go_wp2_with fail
  refine C.out.mono ?_
  rintro e w6 ⟨rfl, hb6⟩
  have B6 := B5.trans (hb6.mono B5.size)
  have V6 := V5.below hb6 V5.lt
  have O6 := O5.below hb6 O5.lt
  have hrd6 := (hrd5.below hb6).more hb6.size
  clear C v0 v1 v2 v3 V5 O5 hrd5
  by_cases hck : checkE r = 0
  case neg =>
    have hck' : (checkE r != 0) = true := by simpa using hck
    clear V6 O6 hrd6 hu5
    go_wp2_with fail
    refine (awake_any _).mono ?_
    rintro e w7 ⟨rfl, hb7⟩
    go_wp2
    go_ret
    exact ⟨rfl, B6.trans (hb7.mono B6.size)⟩
  rw [hck]
  have Hok := Lib.hid hck
  have hsz := ownsRow_below (hu5 hck) hb6
  have hn1 := (numbers_ok (parts_ok hck 0 (by omega))).1
  have hn2 : ((r.webs.length : Int) == 0) = false := by rw [beq_eq_false_iff_ne]; omega
  have hm1 := (numbers_ok (parts_ok hck 0 (by omega))).2.1
  have hsl0 := layout_small hck
  have hsl : (sizesD r).length ≤ 100 := by unfold sizesD; rw [List.length_map]; exact hsl0
  obtain ⟨As, cs, rfl⟩ := ownsRow_form hsz
  have HSZ := Lib.hid hsz
  have hsc : ∀ X, Below w6.heap.size w6 X → ∀ (k : Nat) z, (sizesD r)[k]? = some z → ∃ g, As = some ⟨g, 0, none⟩ ∧ X.cell? ⟨g, k, none⟩ = some (.int .i64 z) := fun X hX k z hz => by
    obtain ⟨g, rfl, -, hg⟩ := ownsRow_block HSZ.out (by have := (List.getElem?_eq_some_iff.1 hz).1; omega)
    refine ⟨g, rfl, ?_⟩
    have h0 := HSZ.out.cells (g := g) rfl k _ (by rw [List.getElem?_map, hz]; rfl)
    rw [add0] at h0
    exact (hX.cell (p := ⟨g, k, none⟩) hg).trans h0
  have HSC := Lib.hid hsc
  have HRD := Lib.hid hrd6
  have HV6 := Lib.hid V6
  have HO6 := Lib.hid O6
  clear hck hsz hsc hu5 hsl0 hb5 hb6 hrd6 V6 O6 hbig hlw hb3 hb4
  have hnum : ∀ X, Below w6.heap.size w6 X → ∀ j, j < numbers.length → ∃ g o x, An = some ⟨g, o, none⟩ ∧ X.cell? ⟨g, o + j, none⟩ = some (.int .i64 x) ∧ Hid (numbers.getD j 0 = x) := fun X hX j hj => by
    obtain ⟨g, o, x, rfl, hg, h1, h2⟩ := HN.out j hj
    exact ⟨g, o, x, rfl, ((B6.trans (hX.mono B6.size)).cell (p := ⟨g, o + j, none⟩) hg).trans h1, h2⟩
  have HNUM := Lib.hid hnum
  clear hnum
  go_upto_region 5 with fail
  go_wp2
  go_loopw [14, 15, 16] (fun pv nvv i wr => ∃ k : Nat, k ≤ (sizesD r).length ∧ i = .int .i64 k ∧ nvv = .int .i64 ((offN r k : Nat) : Int) ∧ OIntss w6.heap.size wr pv (prodN r numbers k) ∧ Below w6.heap.size w6 wr) (fun _ _ i _ => (sizesD r).length - (intOf i).toNat)
  case atStart => exact ⟨0, Nat.zero_le _, rfl, rfl, ⟨_, OAll.nil⟩, Below.refl _ _⟩
  case round =>
    obtain ⟨k, hk, rfl, rfl, ⟨ws, hws⟩, hB⟩ := hrel
    by_cases hlk : k < (sizesD r).length
    case pos =>
      obtain ⟨z, hz⟩ : ∃ z, (sizesD r)[k]? = some z := ⟨_, List.getElem?_eq_getElem hlk⟩
      obtain ⟨g8, rfl, q8⟩ := HSC.out wr hB k z hz
      have hzz := sizes_one Hok.out hz
      have hoff := offN_128 Hok.out k
      have HON := Lib.hid (offN_next Hok.out hz)
      have HPN := Lib.hid (prodN_next (numbers := numbers) hz)
      have HZ := Lib.hid hz
      have hik : (k : Int) < ((sizesD r).length : Int) := by omega
      have HWS := Lib.hid hws
      have hbs := hB.size
      clear hz hws
      go_wp2
      clear q8
      obtain ⟨wo, rfl⟩ : ∃ wo, wo = wr := ⟨wr, rfl⟩
      go_loopw [17, 18, 15] (fun lv i nvv wr => ∃ j : Nat, j ≤ z.toNat ∧ i = .int .i64 j ∧ (∃ N : Nat, N = offN r k + j ∧ nvv = .int .i64 (N : Int)) ∧ wr.ownsRow wo.heap.size 3 1 lv j ((secN numbers (offN r k) j).map (Value.int .i64)) ∧ Below wo.heap.size wo wr) (fun _ i _ _ => z.toNat - (intOf i).toNat)
      case atStart => exact ⟨0, Nat.zero_le _, rfl, ⟨_, rfl, rfl⟩, World.ownsRow_nil _ _ _ _, Below.refl _ _⟩
      case round =>
        obtain ⟨j, hj, rfl, ⟨N, hN, rfl⟩, ho, hB2⟩ := hrel
        have hN128 : N ≤ 256 := by omega
        have HNj := Lib.hid hN
        clear hN
        obtain ⟨g9, eg, q8⟩ := HSC.out wr (hB.trans (hB2.mono hB.size)) k z HZ.out
        simp only [Option.some.injEq, Addr.mk.injEq, and_true] at eg
        subst eg
        have zr := hB2.size
        by_cases hlj : (j : Int) < z
        case pos =>
          have hj2 : (j : Int) < 200 := by omega
          have HX : Hid ((secN numbers (offN r k) (j + 1)).map (Value.int .i64) = (secN numbers (offN r k) j).map (Value.int .i64) ++ [.int .i64 (pageN numbers N)]) := by
            show (secN numbers (offN r k) (j + 1)).map (Value.int .i64) = (secN numbers (offN r k) j).map (Value.int .i64) ++ [.int .i64 (pageN numbers N)]
            rw [secN_next, List.map_append, ← HNj.out]; rfl
          by_cases hn0 : numbers.length = 0
          case pos =>
            have hg0 : ¬ (0 : Int) < (numbers.length : Int) := by omega
            have hvn : vNum numbers N = (N : Int) := by unfold vNum; rw [if_pos hn0]
            have kw : IntKind.i64.wrap (1 + (N : Int) % 128) = pageN numbers N := by
              rw [IntWalk.i64_in _ ⟨by omega, by omega⟩]; unfold pageN; rw [hvn]
            have C := Lib.hid (pick_any (N : Int) 128 (by omega) (by omega) wr)
            clear hvn hn0
            go_upto_region 17 with fail
            go_wp2_with fail
            refine C.out.mono ?_
            rintro e w' ⟨rfl, rfl⟩
            go_wp2_with (at_builtin; refine wpList_append_own _ rfl _ _ 48 rfl wo.heap.size 3 i0 (.int .i64 0) 1 8 Try.underlying48 hi hz0 hz1 hz2 rfl (by decide) _ _ _ rfl (ho.alloc _) ⟨wr.heap.size, 0, none⟩ 1 1 [.int .i64 (pageN numbers N)] rfl rfl (cells_new _ _ _) (by simp [Value.oneCell']) (by simp only [maxLen]; omega) (by omega) (by simp; omega) ?_; intro v' w4' hown' hgrow _)
            have hB4' : Below wo.heap.size wo w4' := (hB2.alloc zr _).grown hgrow (by simp; omega) fun i hi => (ho.lt i hi).1
            rw [← HX.out] at hown'
            clear hgrow ho
            go_wp2
            go_roundw
            case rel => exact ⟨j + 1, by omega, by go_num, ⟨N + 1, by have := HNj.out; omega, by go_num⟩, hown', hB4'⟩
            case measure => simp [intOf]; omega
          case neg =>
            have hg0 : (0 : Int) < (numbers.length : Int) := by omega
            obtain ⟨M, hM⟩ : ∃ M : Nat, N % numbers.length = M := ⟨_, rfl⟩
            have hM2 : M < numbers.length := by rw [← hM]; exact Nat.mod_lt _ (by omega)
            obtain ⟨gn, on, x, rfl, qn, hx⟩ := HNUM.out wr (hB.trans (hB2.mono hB.size)) M hM2
            have hrem : (N : Int).tmod (numbers.length : Int) = (M : Int) := by rw [Int.tmod_eq_emod_of_nonneg (by omega), ← hM]; rfl
            have hlt0 : (M : Int) < (numbers.length : Int) := by omega
            have hx1 := Int.tmod_lt_of_pos x (show (0 : Int) < 1000 by omega)
            have hx2 : -1000 < x.tmod 1000 := by have := Int.lt_tmod_of_pos x (show (0 : Int) < 1000 by omega); omega
            have hvn : vNum numbers N = (N : Int) + x.tmod 1000 := by unfold vNum; rw [if_neg hn0, hM, hx.out]
            have kv : IntKind.i64.wrap ((N : Int) + x.tmod 1000) = vNum numbers N := by rw [IntWalk.i64_in _ ⟨by omega, by omega⟩, hvn]
            have kw : IntKind.i64.wrap (1 + vNum numbers N % 128) = pageN numbers N := by
              rw [IntWalk.i64_in _ ⟨by omega, by omega⟩]; rfl
            have C := Lib.hid (pick_any (vNum numbers N) 128 (by omega) (by omega) wr)
            clear hvn hn0 hx hM
            go_wp2_with fail
            refine C.out.mono ?_
            rintro e w' ⟨rfl, rfl⟩
            go_wp2_with (at_builtin; refine wpList_append_own _ rfl _ _ 48 rfl wo.heap.size 3 i0 (.int .i64 0) 1 8 Try.underlying48 hi hz0 hz1 hz2 rfl (by decide) _ _ _ rfl (ho.alloc _) ⟨wr.heap.size, 0, none⟩ 1 1 [.int .i64 (pageN numbers N)] rfl rfl (cells_new _ _ _) (by simp [Value.oneCell']) (by simp only [maxLen]; omega) (by omega) (by simp; omega) ?_; intro v' w4' hown' hgrow _)
            have hB4' : Below wo.heap.size wo w4' := (hB2.alloc zr _).grown hgrow (by simp; omega) fun i hi => (ho.lt i hi).1
            rw [← HX.out] at hown'
            clear hgrow ho
            go_wp2
            go_roundw
            case rel => exact ⟨j + 1, by omega, by go_num, ⟨N + 1, by have := HNj.out; omega, by go_num⟩, hown', hB4'⟩
            case measure => simp [intOf]; omega
        have hjz : j = z.toNat := by omega
        have HJ := Lib.hid hjz
        have hj128 : j ≤ 200 := by omega
        clear hjz
        have HNN : Hid (N = offN r (k + 1)) := by show N = offN r (k + 1); rw [HNj.out, HON.out, HJ.out]
        obtain ⟨A8, c8, rfl⟩ := ownsRow_form ho
        have hown := HWS.out.1
        rw [prodN_len] at hown
        have hown5 := ownsRow_below hown hB2
        have hOI : OInts w6.heap.size wr (.slice A8 j c8) (secN numbers (offN r k) j) := by unfold OInts; rw [secN_len]; exact ownsRow_base ho hbs
        clear hown ho
        go_wp2_with (at_builtin; refine wpList_append_own _ rfl _ _ 24 rfl w6.heap.size 48 i2 (.slice none 0 0) 1 24 Try.underlying24 hi2 hs0 hs1 hs2 rfl (by decide) _ k ws rfl (hown5.alloc _) ⟨wr.heap.size, 0, none⟩ 1 1 [.slice A8 j c8] rfl rfl (cells_new _ _ _) (by simp [Value.oneCell']) (by simp only [maxLen]; omega) (by omega) (by simp; omega) ?_; intro v' w6' hown' hgrow _)
        have ho6 : OIntss w6.heap.size w6' v' (prodN r numbers (k + 1)) := by
          rw [HPN.out, ← HJ.out]
          exact OIntss.append (HWS.out.below hB2 fun _ _ hr => ownsRow_below hr hB2) hOI (Grew.of_append hown5 hgrow) (by rw [prodN_len]; exact hown')
        have hB6 : Below w6.heap.size w6 w6' := ((hB.trans (hB2.mono hbs)).alloc (by omega) _).grown hgrow (by simp; omega) fun j hj => (hown5.lt j hj).1
        clear hown' hgrow hown5
        go_wp2
        go_roundw
        case rel => exact ⟨k + 1, by omega, by go_num, by rw [HNN.out], ho6, hB6⟩
        case measure => simp [intOf]; omega
    obtain rfl : k = (sizesD r).length := by omega
    have hown := hws.1
    rw [prodN_len] at hown
    obtain ⟨Ap, cp, rfl⟩ := ownsRow_form hown
    obtain ⟨w7, rfl⟩ : ∃ w7, w7 = wr := ⟨wr, rfl⟩
    have B7 := B6.trans (hB.mono B6.size)
    have V7 := HV6.out.below hB HV6.out.lt
    have O7 := HO6.out.below hB HO6.out.lt
    have hrd7 := (HRD.out.below hB).more hB.size
    have hpr7 : RIntss w7.heap.size w7 (.slice Ap (sizesD r).length cp) (prodD r numbers) := OIntss.reads ⟨ws, hws⟩
    have HPR := Lib.hid hpr7
    have HV7 := Lib.hid V7
    have C := Lib.hid (Fill_any _ _ r (prodD r numbers) w7 hrd7 hpr7)
    have o0 := cellOf O7 0 (x := .slice X1 r.webs.length d1) rfl
    have o1 := cellOf O7 1 (x := .slice X2 r.ribs.length d2) rfl
    have o2 := cellOf O7 2 (x := .slice X3 r.stacks.length d3) rfl
    have o3 := cellOf O7 3 (x := .bool r.coll) rfl
    have HPF : Hid (fillE r (prodD r numbers) = 0) := prod_fill Hok.out numbers
    clear hown hws hB V7 O7 hrd7 hpr7 hlk hk HSC HNUM HN HAW HSZ HRD HV6 HO6
    go_upto_region 20 with fail
    go_wp2_with fail
    refine C.out.mono ?_
    rintro e w8 ⟨u8, rfl, hu8, -, hb8⟩
    rw [HPF.out]
    obtain ⟨r', hf, hor8⟩ := hu8 HPF.out
    obtain ⟨ws8, rfl⟩ := filled_form hf
    obtain ⟨y1, vs, y2, y3, rfl, hW, hRb, hSt⟩ := hor8
    have hW' : OWebs w7.heap.size w8 y1 vs ws8 := hW
    have hlw : ws8.length = r.webs.length := hf.2.2.2.1.1
    have hl1 := hW'.1
    rw [hlw] at hl1
    obtain ⟨Ay, cy, rfl⟩ := ownsRow_form hl1
    obtain ⟨gy, rfl, -⟩ := ownsRow_block hl1 (by omega)
    obtain ⟨Y2, e2, rfl⟩ := ownsRow_form hRb
    obtain ⟨Y3, e3, rfl⟩ := OIntss.form hSt
    clear C o0 o1 o2 o3 hu8 hW hl1 hlw
    have F9 : ∃ w9, w8.alloc (.cells #[.slice (some ⟨gy, 0, none⟩) r.webs.length cy, .slice Y2 r.ribs.length e2, .slice Y3 r.stacks.length e3, .bool r.coll] 36) = w9 ∧ YSt w7 r w8.heap.size (.slice (some ⟨gy, 0, none⟩) r.webs.length cy) (.slice Y2 r.ribs.length e2) (.slice Y3 r.stacks.length e3) vs ws8 w9 := by
      have hb9 : Below w8.heap.size w8 (w8.alloc (.cells #[.slice (some ⟨gy, 0, none⟩) r.webs.length cy, .slice Y2 r.ribs.length e2, .slice Y3 r.stacks.length e3, .bool r.coll] 36)) := (Below.refl _ _).alloc (Nat.le_refl _) _
      exact ⟨_, rfl, hW'.below hb9, ownsRow_below hRb hb9, hSt.below hb9, hb8.trans (hb9.mono hb8.size), Blk.new _ _ _⟩
    obtain ⟨w9, e9, hY9⟩ := F9
    have E9 := Lib.hid e9
    have hpg := prod_pages r numbers
    have hsz := prod_sizes Hok.out numbers
    have hfr := filled_reset hpg Hok.out hsz hf
    have hrt : ∀ X ws, YSt w7 r w8.heap.size (.slice (some ⟨gy, 0, none⟩) r.webs.length cy) (.slice Y2 r.ribs.length e2) (.slice Y3 r.stacks.length e3) vs ws X → Reset r { r with webs := ws } → Calls Try.prog 31 #[.agg #[.slice (some ⟨gy, 0, none⟩) r.webs.length cy, .slice Y2 r.ribs.length e2, .slice Y3 r.stacks.length e3, .bool r.coll], .slice Ap (sizesD r).length cp] X fun e w' => e = .returned (.tuple #[.bool (rightB { r with webs := ws } (prodD r numbers)), .int .i64 0]) ∧ Below X.heap.size X w' := fun X ws hY hres => by
      have := Right_any _ _ { r with webs := ws } (prodD r numbers) X hY.run ((HPR.out.below hY.2.2.2.1).more hY.2.2.2.1.size)
      rw [reset_rightV Hok.out (prod_has r numbers) (prod_sizes Hok.out numbers) hres] at this
      exact this
    have HRT := Lib.hid hrt
    have HPG := Lib.hid hpg
    have HSZ := Lib.hid hsz
    have HF := Lib.hid hf
    have HFR := Lib.hid hfr
    have C := HRT.out w9 ws8 hY9 hfr
    rw [filled_right hpg Hok.out hsz hf] at C
    have C := Lib.hid C
    have k0 := cellOf hY9.2.2.2.2 0 (x := .slice (some ⟨gy, 0, none⟩) r.webs.length cy) rfl
    have k1 := cellOf hY9.2.2.2.2 1 (x := .slice Y2 r.ribs.length e2) rfl
    have k2 := cellOf hY9.2.2.2.2 2 (x := .slice Y3 r.stacks.length e3) rfl
    have k3 := cellOf hY9.2.2.2.2 3 (x := .bool r.coll) rfl
    have HY9 := Lib.hid hY9
    clear e9 hpg hsz hfr hrt hf hY9 hW' hRb hSt hb8
    go_upto_region 21 with fail
    rw [E9.out]
    go_wp2_with fail
    refine C.out.mono ?_
    rintro e w10 ⟨rfl, hb10⟩
    have hY10 := HY9.out.below hb10
    have V10 := HV7.out.below hY10.2.2.2.1 HV7.out.lt
    have k0 := cellOf hY10.2.2.2.2 0 (x := .slice (some ⟨gy, 0, none⟩) r.webs.length cy) rfl
    have v0 := cellOf V10 0 (x := .slice A1 r.webs.length c1) rfl
    have HY10 := Lib.hid hY10
    obtain ⟨m, hm, hml⟩ := emod_nat web r.webs.length (by omega)
    have hcp : ∀ X, Calls Try.prog 39 #[.int .i64 web, .int .i64 (r.webs.length : Int)] X fun e w' => e = .returned (.int .i64 (m : Int)) ∧ w' = X := fun X => pick_nat web _ m (by omega) (by omega) hm X
    have CP := Lib.hid hcp
    have hml2 : (m : Int) < (r.webs.length : Int) := by omega
    clear C k1 k2 k3 hb10 hY10 V10 hm hcp HY9
    go_upto_region 24 with fail
    clear v0
    go_cut [23] (fun s23 wx => s23 = .pointer (some ⟨gy, m * 3, none⟩) ∧ Below w10.heap.size w10 wx)
    case first =>
      go_quiet ((go_at_call 39; refine Calls.quiet_of_same (CP.out _)))
      go_wp2_with fail
      go_meet
      exact ⟨rfl, below_drewN (Below.refl _ _) _⟩
    case rest =>
    obtain ⟨rfl, hb11⟩ := hcut
    obtain ⟨w11, rfl⟩ : ∃ w11, w11 = wc := ⟨wc, rfl⟩
    have hY11 := HY10.out.below hb11
    obtain ⟨x, hx⟩ : ∃ x, r.webs[m]? = some x := ⟨_, List.getElem?_eq_getElem hml⟩
    obtain ⟨x', hx', -, -, hxl⟩ := HF.out.2.2.2.1.2 m x hx
    have hwx := webs_ok (parts_ok Hok.out 1 (by omega)) x (List.mem_of_getElem? hx)
    have h16 := plates_16 Hok.out x (List.mem_of_getElem? hx)
    have hpos : 0 < x'.plates.length := by
      rw [hxl]
      obtain ⟨h1, h2, h3, h4, -, h5, -⟩ := hwx
      rcases (show x.rows = 1 ∨ x.rows = 2 by omega) with e | e <;> rw [e] at h5 <;> omega
    obtain ⟨gp, cpp, hvs, q2⟩ := hY11.web hx' hpos
    have hp0 : ((x'.plates.length : Int) == 0) = false := by rw [beq_eq_false_iff_ne]; omega
    obtain ⟨k, hk, hkl⟩ := emod_nat plate x'.plates.length hpos
    have hcq : ∀ X, Calls Try.prog 39 #[.int .i64 plate, .int .i64 (x'.plates.length : Int)] X fun e w' => e = .returned (.int .i64 (k : Int)) ∧ w' = X := fun X => pick_nat plate _ k (by omega) (by omega) hk X
    have CQ := Lib.hid hcq
    have hkl2 : (k : Int) < (x'.plates.length : Int) := by omega
    have HY11 := Lib.hid hY11
    have HX := Lib.hid hx
    have HX' := Lib.hid hx'
    have HVS := Lib.hid hvs
    have HXL := Lib.hid hxl
    clear k0 hb11 hY11 hx hx' hwx hvs hxl hk hcq CP HY10 hml hml2
    go_upto_region 27 with fail
    go_cut [24] (fun s24 wx => s24 = .pointer (some ⟨gp, k * 2, none⟩) ∧ Below w11.heap.size w11 wx)
    case first =>
      go_quiet ((go_at_call 39; refine Calls.quiet_of_same (CQ.out _)))
      go_wp2_with fail
      go_meet
      exact ⟨rfl, below_drewN (Below.refl _ _) _⟩
    case rest =>
    obtain ⟨rfl, hb12⟩ := hcut
    obtain ⟨w12, rfl⟩ : ∃ w12, w12 = wc := ⟨wc, rfl⟩
    have hY12 := HY11.out.below hb12
    obtain ⟨s, pl, hsp, ho, ek⟩ := place_of Hok.out HX.out (k := k) (by have := HXL.out; omega)
    obtain ⟨x2, hx2, -, -, -, hpl⟩ := filled_plate HF.out hsp ho
    have hxe : x' = x2 := Option.some.inj (HX'.out.symm.trans hx2)
    subst hxe
    rw [ek] at hpl
    obtain ⟨hP1, hP2⟩ := pages_of HPG.out Hok.out HSZ.out hsp
    obtain ⟨P, hP⟩ : ∃ P, pageOf (prodD r numbers) pl = P := ⟨_, rfl⟩
    have hput : ∀ q : PlateD, 0 ≤ q.page ∧ q.page ≤ 128 → rightB { r with webs := putPlate ws8 m k q } (prodD r numbers) = (decide (q.page = P) && !(decide (q.page ≠ 0) && q.up)) := fun q hq => by
      have := put_right HPG.out Hok.out HSZ.out HF.out hsp ho q hq
      rw [ek, hP] at this
      exact this
    rw [hP] at hpl hP1 hP2
    have HPUT := Lib.hid hput
    have HPL := Lib.hid hpl
    obtain ⟨l0, l1, -, -, -, hg2, -⟩ := hY12.plate HVS.out HX'.out hpl
    have F13 : ∃ w13, w12.alloc (.cells #[.int .i64 P, .bool false] 89) = w13 ∧ Below w12.heap.size w12 w13 ∧ Blk w13 w12.heap.size 89 #[.int .i64 P, .bool false] := ⟨_, rfl, (Below.refl _ _).alloc (Nat.le_refl _) _, Blk.new _ _ _⟩
    obtain ⟨w13, e13, hb13, Z13⟩ := F13
    have E13 := Lib.hid e13
    have hY13 := hY12.below hb13
    have hgz : w12.heap.size ≠ gp := by omega
    clear q2 hp0 hb12 hY12 hsp ho ek hpl hP hput e13 hb13 hx2 CQ HY11 hkl2
    go_upto_region 29 with fail
    rw [E13.out]
    clear l0 l1
    obtain ⟨l0, l1, f0, f1, -, hg3, -⟩ := hY13.plate HVS.out HX'.out HPL.out
    have F14 : ∃ w14, w13.setCell ⟨gp, k * 2 + 1, none⟩ (.bool true) = w14 ∧ YSt w7 r w8.heap.size (.slice (some ⟨gy, 0, none⟩) r.webs.length cy) (.slice Y2 r.ribs.length e2) (.slice Y3 r.stacks.length e3) vs (putPlate ws8 m k ⟨P, true⟩) w14 ∧ Blk w14 w12.heap.size 89 #[.int .i64 P, .bool false] :=
      ⟨_, rfl, hY13.put_up HVS.out HX'.out HPL.out true, Z13.far (p := ⟨gp, k * 2 + 1, none⟩) hgz _⟩
    obtain ⟨w14, e14, hY14, Z14⟩ := F14
    have E14 := Lib.hid e14
    clear e14 hY13 Z13
    go_upto_region 30 with fail
    rw [E14.out]
    clear l0 l1 f0 f1
    have C := HRT.out w14 _ hY14 (put_reset HFR.out m k ⟨P, true⟩ ⟨by show 0 ≤ P; omega, by show P ≤ 128; omega⟩)
    rw [HPUT.out ⟨P, true⟩ ⟨by show 0 ≤ P; omega, by show P ≤ 128; omega⟩] at C
    have hf1 : (decide ((⟨P, true⟩ : PlateD).page = P) && !(decide ((⟨P, true⟩ : PlateD).page ≠ 0) && (⟨P, true⟩ : PlateD).up)) = false := by simp; omega
    rw [hf1] at C
    have C := Lib.hid C
    have k0 := cellOf hY14.2.2.2.2 0 (x := .slice (some ⟨gy, 0, none⟩) r.webs.length cy) rfl
    have k1 := cellOf hY14.2.2.2.2 1 (x := .slice Y2 r.ribs.length e2) rfl
    have k2 := cellOf hY14.2.2.2.2 2 (x := .slice Y3 r.stacks.length e3) rfl
    have k3 := cellOf hY14.2.2.2.2 3 (x := .bool r.coll) rfl
    have HY14 := Lib.hid hY14
    have HZ14 := Lib.hid Z14
    clear hf1 hY14 Z14
    go_wp2_with fail
    refine C.out.mono ?_
    rintro e w15 ⟨rfl, hb15⟩
    have hY15 := HY14.out.below hb15
    have Z15 := HZ14.out.below hb15 HZ14.out.lt
    have hx15 := putPlate_at HX'.out k ⟨P, true⟩
    have hl15 : (x'.plates.set k ⟨P, true⟩)[k]? = some ⟨P, true⟩ := List.getElem?_set_self hkl
    obtain ⟨l0, l1, f0, f1, -, hg4, -⟩ := hY15.plate HVS.out hx15 hl15
    have z0 := cellOf Z15 0 (x := .int .i64 P) rfl
    have z1 := cellOf Z15 1 (x := .bool false) rfl
    have F16 : ∃ w16, (w15.setCell ⟨gp, k * 2, none⟩ (.int .i64 P)).setCell ⟨gp, k * 2 + 1, none⟩ (.bool false) = w16 ∧ YSt w7 r w8.heap.size (.slice (some ⟨gy, 0, none⟩) r.webs.length cy) (.slice Y2 r.ribs.length e2) (.slice Y3 r.stacks.length e3) vs (putPlate ws8 m k ⟨P, false⟩) w16 ∧ Blk w16 w12.heap.size 89 #[.int .i64 P, .bool false] := by
      have hy := hY15.put HVS.out hx15 (by show k < (x'.plates.set k ⟨P, true⟩).length; rw [List.length_set]; exact hkl) P false
      rw [putPlate_twice] at hy
      exact ⟨_, rfl, hy, (Z15.far (p := ⟨gp, k * 2, none⟩) hgz _).far (p := ⟨gp, k * 2 + 1, none⟩) hgz _⟩
    obtain ⟨w16, e16, hY16, Z16⟩ := F16
    have E16 := Lib.hid e16
    clear C k0 k1 k2 k3 e16 hY15 Z15 hb15 hx15 hl15 HY14 HZ14
    go_upto_region 34 with fail
    rw [E16.out]
    clear l0 l1 f0 f1 z0 z1
    obtain ⟨Q, hQ, hQl⟩ := emod_nat page 129 (by omega)
    have hcr : ∀ X, Calls Try.prog 39 #[.int .i64 page, .int .i64 129] X fun e w' => e = .returned (.int .i64 (Q : Int)) ∧ X = w' := fun X => (pick_nat page 129 Q (by omega) (by omega) hQ X).mono fun _ _ ⟨h1, h2⟩ => ⟨h1, h2.symm⟩
    have CR := Lib.hid hcr
    have hx16 := putPlate_at HX'.out k ⟨P, false⟩
    have hl16 : (x'.plates.set k ⟨P, false⟩)[k]? = some ⟨P, false⟩ := List.getElem?_set_self hkl
    obtain ⟨l0, l1, f0, f1, -, hg5, -⟩ := hY16.plate HVS.out hx16 hl16
    have F17 : ∃ w17, w16.setCell ⟨gp, k * 2, none⟩ (.int .i64 (Q : Int)) = w17 ∧ YSt w7 r w8.heap.size (.slice (some ⟨gy, 0, none⟩) r.webs.length cy) (.slice Y2 r.ribs.length e2) (.slice Y3 r.stacks.length e3) vs (putPlate ws8 m k ⟨Q, false⟩) w17 ∧ Blk w17 w12.heap.size 89 #[.int .i64 P, .bool false] := by
      have hy := hY16.put_page HVS.out hx16 hl16 (Q : Int)
      rw [putPlate_twice] at hy
      exact ⟨_, rfl, hy, Z16.far (p := ⟨gp, k * 2, none⟩) hgz _⟩
    obtain ⟨w17, e17, hY17, Z17⟩ := F17
    have E17 := Lib.hid e17
    clear e17 hY16 Z16 hQ hcr hx16 hl16
    go_wp2_with fail
    refine (CR.out _).mono ?_
    rintro e w' ⟨rfl, rfl⟩
    go_upto_region 35 with fail
    rw [E17.out]
    clear l0 l1 f0 f1 CR
    have hx17 := putPlate_at HX'.out k ⟨Q, false⟩
    have hl17 : (x'.plates.set k ⟨Q, false⟩)[k]? = some ⟨Q, false⟩ := List.getElem?_set_self hkl
    have C := HRT.out w17 _ hY17 (put_reset HFR.out m k ⟨Q, false⟩ ⟨by show (0 : Int) ≤ Q; omega, by show (Q : Int) ≤ 128; omega⟩)
    rw [HPUT.out ⟨Q, false⟩ ⟨by show (0 : Int) ≤ Q; omega, by show (Q : Int) ≤ 128; omega⟩] at C
    have hf2 : (decide ((⟨Q, false⟩ : PlateD).page = P) && !(decide ((⟨Q, false⟩ : PlateD).page ≠ 0) && (⟨Q, false⟩ : PlateD).up)) = ((Q : Int) == P) := by rw [Bool.eq_iff_iff]; simp
    rw [hf2] at C
    have k0 := cellOf hY17.2.2.2.2 0 (x := .slice (some ⟨gy, 0, none⟩) r.webs.length cy) rfl
    have k1 := cellOf hY17.2.2.2.2 1 (x := .slice Y2 r.ribs.length e2) rfl
    have k2 := cellOf hY17.2.2.2.2 2 (x := .slice Y3 r.stacks.length e3) rfl
    have k3 := cellOf hY17.2.2.2.2 3 (x := .bool r.coll) rfl
    have HY17 := Lib.hid hY17
    have HZ17 := Lib.hid Z17
    have HX17 := Lib.hid hx17
    have HL17 := Lib.hid hl17
    clear hf2 hY17 Z17 hx17 hl17
    cases hQP : ((Q : Int) == P)
    all_goals
      rw [hQP] at C
      have C' := Lib.hid C
      clear C
      go_wp2_with fail
      refine C'.out.mono ?_
      rintro e w18 ⟨rfl, hb18⟩
      have hY18 := HY17.out.below hb18
      have Z18 := HZ17.out.below hb18 HZ17.out.lt
      obtain ⟨l0, l1, -, -, -, hg6, -⟩ := hY18.plate HVS.out HX17.out HL17.out
      have z0 := cellOf Z18 0 (x := .int .i64 P) rfl
      have BF := B7.trans (hY18.2.2.2.1.mono B7.size)
      clear C' k0 k1 k2 k3 hb18 hY18 Z18
      go_upto_region 36 with fail
      go_still_tail 14, (by kernel_rfl)
      change wpList _ _ _ _ _ w18.drew
      go_wp2_with fail
      refine (awake_any _).mono ?_
      rintro e w20 ⟨rfl, hb20⟩
      go_wp2
      go_ret
      exact ⟨rfl, BF.drew.trans (hb20.mono BF.drew.size)⟩
end Go.Proofs.Ytdbfhdncjblleaa
namespace Go.Proofs.Ytdbfhdncjblleaa
open Go.ChangeShapes Go.WideShapes Go.ChangeAt Go.RowKit

theorem own4 : ownKnob Try.prog.godebug = none := by kernel_rfl
theorem laidOut4 : laidOutB Try.prog = true := by kernel_rfl
set_option maxRecDepth 100000 in
theorem ints_arg {H : Type} {enc : TypeId × Value → H} {w W' : World} {base b0 : Nat} {rc : Reach} {spare : Nat → Bool} {held : Bool} {v : Value} {d : DataW H} {p : List MemPlace} (hv : Value.okWide Try.prog W' rc b0 48 v) (h : DataW.Trod enc Try.prog w base spare held 48 v d p) :
    ∃ l : List Int, RInts w.heap.size w v l ∧ l.length ≤ Rows.uptoBulk d := by
  obtain ⟨a, len, cap, rfl⟩ := okWide_slice Try.underlying48 hv
  obtain ⟨fuel, hf⟩ := h
  exact ints_of (y := (d, p)) hf

set_option maxRecDepth 100000 in
theorem right_contract (H : Type) (enc : TypeId × Value → H) (W : World) (base : Nat) (args : Array Value) (ds gs : List (DataW H)) (before : List MemPlace)
    (hval : ∀ (j : Nat) t v, Try.f7.params[j]? = some t → args[j]? = some v → Value.okWide Try.prog W .any base t v)
    (hW : DataW.Whole enc Try.prog Try.f7.params.toList Rows.foldRightSpec.vars false W args.toList ds gs before) (hk : Rows.uptoSmall H (ds ++ gs) = true) :
    Calls Try.prog 7 args W fun e W' => ∃ v, e = .returned v ∧ Rows.foldRightSpec.post enc Try.prog Try.f7 false true false false W args v W' := by
  have hW' := hW
  obtain ⟨p, q, hA0, hV, rfl, hfz, hnd⟩ := hW
  have hA : DataW.TrodAll enc Try.prog W 0 (fun _ => true) true Try.f7.params.toList args.toList ds p := hA0
  rw [Try.params7] at hA hval
  obtain ⟨v0, vs0, d0, ds0, p0, q0, hargs0, rfl, rfl, h0, r0⟩ := trodAll_cons hA
  obtain ⟨v1, vs1, d1, ds1, p1, q1, hargs1, rfl, rfl, h1, r1⟩ := trodAll_cons r0
  obtain ⟨v2, vs2, d2, ds2, p2, q2, hargs2, rfl, rfl, h2, r2⟩ := trodAll_cons r1
  obtain ⟨v3, vs3, d3, ds3, p3, q3, hargs3, rfl, rfl, h3, r3⟩ := trodAll_cons r2
  obtain ⟨v4, vs4, d4, ds4, p4, q4, hargs4, rfl, rfl, h4, r4⟩ := trodAll_cons r3
  obtain ⟨rfl, rfl, rfl⟩ := trodAll_nil r4
  subst hargs4
  obtain rfl : args = #[v0, v1, v2, v3, v4] := by cases args; simp_all
  obtain ⟨rfl, rfl⟩ := trodVars_none hV
  obtain ⟨a2, rfl, rfl, rfl, w2⟩ := open_int Try.underlying3 (hval 2 3 v2 rfl rfl) h2
  obtain ⟨a3, rfl, rfl, rfl, w3⟩ := open_int Try.underlying3 (hval 3 3 v3 rfl rfl) h3
  obtain ⟨a4, rfl, rfl, rfl, w4⟩ := open_int Try.underlying3 (hval 4 3 v4 rfl rfl) h4
  clear hA0
  simp only [List.append_nil] at hW' hk
  have hbk : Rows.uptoBulk d0 ≤ 1048576 := by
    have h : Rows.uptoBulkAll [d0, d1, .lit (.int .i64 a2), .lit (.int .i64 a3), .lit (.int .i64 a4)] ≤ 1048576 := of_decide_eq_true hk
    simp only [Rows.uptoBulkAll] at h
    omega
  obtain ⟨r, hr, hbd⟩ := run_of (hval 0 26 v0 rfl rfl) h0 hbk
  obtain ⟨l, hl, -⟩ := ints_arg (hval 1 48 v1 rfl rfl) h1
  have hlt : ∀ x ∈ p0 ++ p1, x.block < W.heap.size := fun x hx => by
    rcases List.mem_append.1 hx with hx | hx
    · simpa using hW'.lt x (by simp [hx])
    · simpa using hW'.lt x (by simp [hx])
  have hargs : ∀ (W' : World), Below W.heap.size W W' → DataW.Trod enc Try.prog W' 0 (fun b => decide (b < W.heap.size)) true 26 v0 d0 p0 :=
    fun W' hn => Below.trod laidOut4 (by kernel_rfl) (of_decide_eq_true (by kernel_rfl)) h0 hn fun x hx => hlt x (List.mem_append_left _ hx)
  have hargs2 : ∀ (W' : World), Below W.heap.size W W' → DataW.Trod enc Try.prog W' 0 (fun b => decide (b < W.heap.size)) true 48 v1 d1 p1 :=
    fun W' hn => Below.trod laidOut4 (by kernel_rfl) (of_decide_eq_true (by kernel_rfl)) h1 hn fun x hx => hlt x (List.mem_append_right _ hx)
  refine (RightLaw_any v0 v1 r l a2 a3 a4 W hr hbd hl).mono fun e W' ⟨he, hnx⟩ => ?_
  subst he
  exact ⟨_, rfl, _, _, _, [], p0 ++ (p1 ++ ([] ++ ([] ++ ([] ++ [])))), [], hW', trodAll_cons_mk (shut_bool Try.underlying4 _) trodAll_mk0, trodAll_cons_mk (hargs _ hnx) (trodAll_cons_mk (hargs2 _ hnx) (trodAll_cons_mk (shut_int Try.underlying3 w2) (trodAll_cons_mk (shut_int Try.underlying3 w3) (trodAll_cons_mk (shut_int Try.underlying3 w4) trodAll_mk0)))), rfl, hnx.frame _, fun h => by cases h⟩

set_option maxRecDepth 100000 in
theorem right_lifted (os : Os) (started : os.Started) (H : Type) (enc : TypeId × Value → H) (F : Stop.Interp) :
    ReturnsInHanded {} Try.checked os 7 .any ((Rows.OpenSpec.upto Rows.foldRightSpec).pre6 enc Try.prog Try.f7 Rows.foldRightUptoRow.domain false) (((Rows.OpenSpec.upto Rows.foldRightSpec).at F).post enc Try.prog Try.f7 false true false false) := by
  refine returnsInHanded_of_cond (C := Try.checked) (s := Rows.OpenSpec.upto Rows.foldRightSpec) (k := Rows.uptoSmall) rfl own4 started (by kernel_rfl) Try.func7
    (OpenSpec.witness (enc := enc) (C := Try.checked) (s := Rows.OpenSpec.upto Rows.foldRightSpec) (k := Rows.uptoSmall) rfl false ⟨#[], #[.agg #[.slice none 0 0, .slice none 0 0, .slice none 0 0, .bool false], .slice none 0 0, .int .i64 0, .int .i64 0, .int .i64 0], []⟩ 8 (by kernel_rfl) (by kernel_rfl) (by kernel_rfl)
      (x := ([.agg [.nil, .nil, .nil, .lit (.bool false)], .nil, .lit (.int .i64 0), .lit (.int .i64 0), .lit (.int .i64 0)], [], [])) (by kernel_rfl) rfl (by kernel_rfl)) ?_
  intro W base args ds gs before hval hW _ hk _
  exact right_contract H enc W base args ds gs before hval hW hk

theorem right_proved : Rows.FoldRightUptoSaid :=
  OpenClaim.holds_of_cond 7 Try.f7 rfl rfl rfl rfl rfl rfl rfl ⟨rfl, rfl, rfl, rfl, rfl⟩ rfl rfl rfl rfl rfl (by kernel_rfl) Try.func7 (by kernel_rfl)
    (of_decide_eq_true (by kernel_rfl)) (by unfold Func.isWrapper; first | (rw [if_pos (by decide +kernel)]; kernel_rfl) | (rw [if_neg (by decide +kernel)]; exact ⟨rfl, rfl⟩))
    (fun os started H enc _ F => right_lifted os started H enc F)
#print axioms right_proved
end Go.Proofs.Ytdbfhdncjblleaa
