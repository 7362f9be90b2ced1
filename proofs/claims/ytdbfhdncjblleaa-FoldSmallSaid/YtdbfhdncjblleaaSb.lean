/-
  The reference's Fill, given what its Check returns.
-/
import Derived.Test.YtdbfhdncjblleaaSa
namespace Go.Proofs.Ytdbfhdncjblleaa
open Go.RowKit

theorem blk_ne {w : World} {g g' : Nat} {t t' : TypeId} {cs cs' : Array Value} (h : Blk w g t cs) (h' : Blk w g' t' cs') (hne : t ≠ t') : g ≠ g' := by
  rintro rfl
  have e := h.symm.trans h'
  simp only [Option.some.injEq, Obj.cells.injEq] at e
  exact hne e.2.1
/-- A list of lists of numbers, read in every later world; with the bounds of its blocks. -/
theorem RIntss.deepB {B : Nat} {w : World} {v : Value} {l : List (List Int)} (h : RIntss B w v l) : ∃ A c, v = .slice A l.length c ∧ l.length ≤ 9223372036854775807 ∧ ∀ k s, l[k]? = some s → ∃ g o D d, A = some ⟨g, o, none⟩ ∧ g < B ∧ s.length ≤ 9223372036854775807 ∧ (∀ X, Below B w X → X.cell? ⟨g, o + k, none⟩ = some (.slice D s.length d)) ∧
    ∀ i z, s[i]? = some z → ∃ g1 o1, D = some ⟨g1, o1, none⟩ ∧ g1 < B ∧ ∀ X, Below B w X → X.cell? ⟨g1, o1 + i, none⟩ = some (.int .i64 z) := by
  obtain ⟨A, c, rfl, hl, hA⟩ := RAll.open_ h
  refine ⟨A, c, rfl, hl, fun k s hs => ?_⟩
  obtain ⟨g, o, u, rfl, hb, m0, hp⟩ := hA k s hs
  obtain ⟨D, d, rfl, hl1, hD⟩ := RInts.open_ hp
  refine ⟨g, o, D, d, rfl, hb, hl1, fun X hX => (hX.cell (p := ⟨g, o + k, none⟩) hb).trans m0, fun i z hz => ?_⟩
  have hi := (List.getElem?_eq_some_iff.1 hz).1
  obtain ⟨g1, o1, y, rfl, hb1, n0, hy⟩ := hD i hi
  have hyz : y = z := by
    have := hy.out
    rw [List.getD_eq_getElem?_getD, hz] at this
    exact this.symm
  subst hyz
  exact ⟨g1, o1, rfl, hb1, fun X hX => (hX.cell (p := ⟨g1, o1 + i, none⟩) hb1).trans n0⟩
/-- Webs filled where these places stand. -/
def FilledL (r : RunD) (product : List (List Int)) (d : List (SpotD × PlaceD)) (ws : List WebD) : Prop :=
  SameShape r.webs ws ∧ ∀ y ∈ d, plateAt ws y.1 = ⟨pageOf product y.2, false⟩
theorem FilledL.step {r : RunD} {product : List (List Int)} {d : List (SpotD × PlaceD)} {ws : List WebD} (hok : checkE r = 0) (h : FilledL r product d ws) {s : SpotD} {p : PlaceD} (hp : d ++ [(s, p)] <+: placesD r) {m : Nat} {x : WebD} (hs : SpotOk r s m x) :
    FilledL r product (d ++ [(s, p)]) (putPlate ws m (plateI x s) ⟨pageOf product p, false⟩) := by
  refine ⟨h.1.put _ _ _, fun y hy => ?_⟩
  rcases List.mem_append.1 hy with hy | hy
  · have hne := done_new hp (hnd_ok hok) y hy
    obtain ⟨m', x2, hs'⟩ := spot_ok hok (place_all (s := y.1) (p := y.2) (hp.subset (List.mem_append_left _ hy)))
    rw [put_other h.1 hs hs' hne]
    exact h.2 y hy
  · rw [List.mem_singleton] at hy
    subst hy
    exact put_same h.1 hs _
theorem OWebsR.blk {base : Nat} {w : World} {vs : List Value} {l : List WebD} {g n c : Nat} (h : OWebsR base w (.slice (some ⟨g, 0, none⟩) n c) vs l) : ∃ cs, Blk w g 97 cs := by
  rcases h.1.2 with ⟨h2, -⟩ | ⟨g', cap, cur, he, hb, hh, -⟩
  · cases h2
  · cases he
    exact ⟨cur, hh⟩
/-- The spots of all copies, read in every later world that changes blocks of plates only. -/
theorem OCopiesR.deep {base : Nat} {w : World} {v : Value} {l : List (List (List SpotD))} (h : OCopiesR base w v l) : ∃ A c, v = .slice A l.length c ∧ ∀ k S, l[k]? = some S → ∃ g o D d, A = some ⟨g, o, none⟩ ∧ (∀ X, Grew 98 w X → X.cell? ⟨g, o + k, none⟩ = some (.slice D S.length d)) ∧
    ∀ m s, S[m]? = some s → ∃ g1 o1 E f, D = some ⟨g1, o1, none⟩ ∧ s.length ≤ 9223372036854775807 ∧ (∀ X, Grew 98 w X → X.cell? ⟨g1, o1 + m, none⟩ = some (.slice E s.length f)) ∧
      ∀ n x, s[n]? = some x → ∃ g2 o2, E = some ⟨g2, o2, none⟩ ∧ ∀ X, Grew 98 w X → X.cell? ⟨g2, o2 + n * 4, none⟩ = some (.int .i64 x.web) ∧ X.cell? ⟨g2, o2 + n * 4 + 1, none⟩ = some (.int .i64 x.side) ∧ X.cell? ⟨g2, o2 + n * 4 + 2, none⟩ = some (.int .i64 x.row) ∧ X.cell? ⟨g2, o2 + n * 4 + 3, none⟩ = some (.int .i64 x.col) := by
  obtain ⟨vs, h0⟩ := h
  have hvl := h0.len
  obtain ⟨h1, h2⟩ := h0
  obtain ⟨A, c, rfl⟩ := ownsRow_form h1
  refine ⟨A, c, rfl, fun k S hS => ?_⟩
  have hk := (List.getElem?_eq_some_iff.1 hS).1
  obtain ⟨g, rfl, -, -⟩ := ownsRow_block h1 (by omega)
  obtain ⟨u, hu⟩ : ∃ u, vs[k]? = some u := ⟨_, List.getElem?_eq_getElem (by omega)⟩
  obtain ⟨vs1, k0⟩ := h2 k u S hu hS
  have kvl := k0.len
  obtain ⟨k1, k2⟩ := k0
  obtain ⟨D, d, rfl⟩ := ownsRow_form k1
  refine ⟨g, 0, D, d, rfl, fun X hX => ?_, fun m s hs => ?_⟩
  · have := (ownsRow_grew h1 hX (by decide)).cells (g := g) rfl k _ hu
    rw [add0] at this
    rw [Nat.zero_add]; exact this
  have hm := (List.getElem?_eq_some_iff.1 hs).1
  obtain ⟨g1, rfl, -, -⟩ := ownsRow_block k1 (by omega)
  obtain ⟨u1, hu1⟩ : ∃ u, vs1[m]? = some u := ⟨_, List.getElem?_eq_getElem (by omega)⟩
  have q := k2 m u1 s hu1 hs
  obtain ⟨E, f, rfl⟩ := ownsRow_form q
  refine ⟨g1, 0, E, f, rfl, by have := own_le q; simp only [maxLen] at this; omega, fun X hX => ?_, fun n x hx => ?_⟩
  · have := (ownsRow_grew k1 hX (by decide)).cells (g := g1) rfl m _ hu1
    rw [add0] at this
    rw [Nat.zero_add]; exact this
  have hn := (List.getElem?_eq_some_iff.1 hx).1
  obtain ⟨g2, rfl, -, -⟩ := ownsRow_block q (by omega)
  refine ⟨g2, 0, rfl, fun X hX => ?_⟩
  have q2 : X.ownsRow base 30 4 (.slice (some ⟨g2, 0, none⟩) s.length f) s.length (cellsOf s) := ownsRow_grew q hX (by decide)
  have hf := fun j hj => flat_at SpotD.cells 4 (fun _ => rfl) _ n j _ hx hj
  have c0 := q2.cells (g := g2) rfl (n * 4) _ (hf 0 (by omega))
  have c1 := q2.cells (g := g2) rfl (n * 4 + 1) _ (hf 1 (by omega))
  have c2 := q2.cells (g := g2) rfl (n * 4 + 2) _ (hf 2 (by omega))
  have c3 := q2.cells (g := g2) rfl (n * 4 + 3) _ (hf 3 (by omega))
  rw [add0] at c0 c1 c2 c3
  rw [Nat.zero_add]
  exact ⟨c0, c1, c2, c3⟩

/-- What stands in memory while the reference stores plates. -/
def RFillSt (w w7 : World) (r : RunD) (b9 : Nat) (v1 : Value) (vs : List Value) (v2 u3 : Value) (ws : List WebD) (wr : World) : Prop :=
  OWebsR w.heap.size wr v1 vs ws ∧ ORibsR w.heap.size wr v2 r.ribs ∧ Below w.heap.size w wr ∧ Grew 98 w7 wr ∧ w7.heap.size ≤ wr.heap.size ∧
    Blk wr b9 26 #[v1, v2, u3, .bool r.coll] ∧ Blk wr (w.heap.size + 1) 26 #[.slice none 0 0, .slice none 0 0, .slice none 0 0, .bool false]
section
variable {w w7 wr w' : World} {r : RunD} {b9 : Nat} {v1 : Value} {vs : List Value} {v2 u3 : Value} {ws : List WebD}
theorem RFillSt.below (h : RFillSt w w7 r b9 v1 vs v2 u3 ws wr) (hb : Below wr.heap.size wr w') : RFillSt w w7 r b9 v1 vs v2 u3 ws w' := by
  obtain ⟨h1, h2, h3, h4, h5, h6, h7⟩ := h
  exact ⟨h1.below hb, ownsRow_below h2 hb, h3.trans (hb.mono h3.size), h4.trans (Grew.of_below hb), Nat.le_trans h5 hb.size, h6.below hb h6.lt, h7.below hb h7.lt⟩
theorem RFillSt.put (h : RFillSt w w7 r b9 v1 vs v2 u3 ws wr) {m k g n c : Nat} {x : WebD} (hu : vs[m]? = some (.slice (some ⟨g, 0, none⟩) n c)) (hx : ws[m]? = some x) (hk : k < x.plates.length) (pg : Int) (up : Bool) :
    RFillSt w w7 r b9 v1 vs v2 u3 (putPlate ws m k ⟨pg, up⟩) ((wr.setCell ⟨g, k * 2, none⟩ (.int .i64 pg)).setCell ⟨g, k * 2 + 1, none⟩ (.bool up)) := by
  obtain ⟨h1, h2, h3, h4, h5, h6, h7⟩ := h
  obtain ⟨p1, p2, p3, p4⟩ := h1.put hu hx hk pg up
  exact ⟨p1, ownsRow_grew h2 p2 (by decide), (h3.setCell (p := ⟨g, k * 2, none⟩) p3 _).setCell (p := ⟨g, k * 2 + 1, none⟩) p3 _, h4.trans p2, by rw [World.size_setCell, World.size_setCell]; exact h5, h6.grew p2 (by decide), h7.grew p2 (by decide)⟩
/-- The run as it is handed back. -/
theorem RFillSt.final (h : RFillSt w w7 r b9 v1 vs v2 u3 ws wr) :
    ∀ Y, Y = ((((wr.setCell ⟨w.heap.size + 1, 0, none⟩ v1).setCell ⟨w.heap.size + 1, 1, none⟩ v2).setCell ⟨w.heap.size + 1, 2, none⟩ u3).setCell ⟨w.heap.size + 1, 3, none⟩ (.bool r.coll)) →
    OWebsR w.heap.size Y v1 vs ws ∧ ORibsR w.heap.size Y v2 r.ribs ∧ Below w.heap.size w Y := by
  rintro Y rfl
  obtain ⟨h1, h2, h3, h4, h5, h6, h7⟩ := h
  have k1 := h7.put 0 v1
  have k2 := k1.put 1 v2
  have k3 := k2.put 2 u3
  have gr := (((Grew.set h7 0 v1).trans (Grew.set k1 1 v2)).trans (Grew.set k2 2 u3)).trans (Grew.set k3 3 (.bool r.coll))
  exact ⟨h1.grew gr (by decide) (by decide), ownsRow_grew h2 gr (by decide), below_set4 h3 (by omega) _ _ _ _⟩
end

/-- What the reference's Fill gives. -/
def RFillRet (A3 : Option Addr) (c3 : Nat) (r : RunD) (product : List (List Int)) (w : World) (e : Ending) (w' : World) : Prop :=
  ∃ u, e = .returned (.tuple #[u, .int .i64 (fillE r product)]) ∧ (fillE r product = 0 → ∃ r' v1 vs v2, Filled r product r' ∧ u = .agg #[v1, v2, .slice A3 r.stacks.length c3, .bool r.coll] ∧ OWebsR w.heap.size w' v1 vs r'.webs ∧ ORibsR w.heap.size w' v2 r'.ribs) ∧ (fillE r product ≠ 0 → u = runRet0) ∧ Below w.heap.size w w'

set_option maxRecDepth 100000 in
set_option maxHeartbeats 4000000 in
theorem refFill_any (RC : RefCheckOk) (A1 A2 A3 : Option Addr) (c1 c2 c3 : Nat) (pv : Value) (r : RunD) (product : List (List Int)) (w : World) (h : RRun w.heap.size w (.agg #[.slice A1 r.webs.length c1, .slice A2 r.ribs.length c2, .slice A3 r.stacks.length c3, .bool r.coll]) r) (hsm : SmallRun r) (hp : RIntss w.heap.size w pv product) :
    Calls Try.prog 34 #[.agg #[.slice A1 r.webs.length c1, .slice A2 r.ribs.length c2, .slice A3 r.stacks.length c3, .bool r.coll], pv] w (RFillRet A3 c3 r product w) := by
  have HRC := Lib.hid RC
  have HSM := Lib.hid hsm
  have hrun := Lib.hid h
  have HP := Lib.hid hp
  obtain ⟨Ax, cx, ex, -, hAw⟩ := (h.webs).open_
  cases ex
  have HAW := Lib.hid hAw
  obtain ⟨Ap, cp, rfl, hpl, hpr⟩ := hp.deepB
  have HPR := Lib.hid hpr
  clear h RC hsm hp hAw hpr
  have F0 : ∃ W0, (w.alloc (.cells #[.slice A1 r.webs.length c1, .slice A2 r.ribs.length c2, .slice A3 r.stacks.length c3, .bool r.coll] 26)).alloc (.cells #[.slice none 0 0, .slice none 0 0, .slice none 0 0, .bool false] 26) = W0 ∧
      Below w.heap.size w W0 ∧ Blk W0 w.heap.size 26 #[.slice A1 r.webs.length c1, .slice A2 r.ribs.length c2, .slice A3 r.stacks.length c3, .bool r.coll] ∧ Blk W0 (w.heap.size + 1) 26 #[.slice none 0 0, .slice none 0 0, .slice none 0 0, .bool false] := by
    refine ⟨_, rfl, ((Below.refl _ _).alloc (Nat.le_refl _) _).alloc (by simp) _, (Blk.new w _ _).alloc _, ?_⟩
    have := Blk.new (w.alloc (.cells #[.slice A1 r.webs.length c1, .slice A2 r.ribs.length c2, .slice A3 r.stacks.length c3, .bool r.coll] 26)) 26 #[.slice none 0 0, .slice none 0 0, .slice none 0 0, .bool false]
    rw [World.size_alloc] at this
    exact this
  obtain ⟨W0, e0, B0, V0, R0⟩ := F0
  have E0 := Lib.hid e0
  have o0 := cellOf V0 0 (x := .slice A1 r.webs.length c1) rfl
  have o1 := cellOf V0 1 (x := .slice A2 r.ribs.length c2) rfl
  have o2 := cellOf V0 2 (x := .slice A3 r.stacks.length c3) rfl
  have o3 := cellOf V0 3 (x := .bool r.coll) rfl
  have C := Lib.hid (refSizes_any HRC.out _ r W0 ((hrun.out.below B0).more B0.size) HSM.out)
  clear e0
  go_enter Try.func34, Try.ntmps34
  go_upto_region 1 with fail
  rw [E0.out]
  go_wp2_with fail
  refine C.out.mono ?_
  rintro e w3 ⟨u, rfl, hu0, hu1, hb3⟩
  have B3 := B0.trans (hb3.mono B0.size)
  have V3 := V0.below hb3 V0.lt
  have R3 := R0.below hb3 R0.lt
  have HRET : Hid (∀ (z : Int), fillE r product = z → z ≠ 0 → ∀ Y, Below w.heap.size w Y → RFillRet A3 c3 r product w (.returned (.tuple #[runRet0, .int .i64 z])) Y) := fun z hz hne Y hY => ⟨_, by rw [hz], fun h => absurd (hz ▸ h) hne, fun _ => rfl, hY⟩
  clear C o0 o1 o2 o3 V0 R0 hb3 hu1
  by_cases hck : checkE r = 0
  case neg =>
    have hck' : (checkE r != 0) = true := by simpa using hck
    have hE : fillE r product = checkE r := by unfold fillE; rw [if_pos hck]
    have HR := Lib.hid (HRET.out _ hE hck)
    have d0 := cellOf R3 0 (x := .slice none 0 0) rfl
    have d1 := cellOf R3 1 (x := .slice none 0 0) rfl
    have d2 := cellOf R3 2 (x := .slice none 0 0) rfl
    have d3 := cellOf R3 3 (x := .bool false) rfl
    have f0 := R3.frozen 0
    have f1 := R3.frozen 1
    have f2 := R3.frozen 2
    have f3 := R3.frozen 3
    have HB := Lib.hid (below_set4 B3 (Nat.le_succ w.heap.size) (.slice none 0 0) (.slice none 0 0) (.slice none 0 0) (.bool false))
    clear hck hE V3 R3 hu0
    generalize checkE r = ck at *
    go_wp2
    refine bodyPost_ret (v := .tuple #[runRet0, .int .i64 ck]) (by simp [results, Try.results34, go_sem, d0, d1, d2, d3, runRet0]) rfl (HR.out _ HB.out)
  rw [hck]
  have Hok := Lib.hid hck
  have hu := hu0 hck
  obtain ⟨As, cs, rfl⟩ := ownsRow_form hu
  obtain ⟨As', cs', es, hsl, hsz⟩ := RInts.open_ (Rd.own hu (own_le hu) : RInts w3.heap.size w3 (.slice As (sizesD r).length cs) (sizesD r))
  cases es
  have HSZ := Lib.hid hsz
  have HV3 := Lib.hid V3
  have HR3 := Lib.hid R3
  have hbad : ∀ X, Below w3.heap.size w3 X → Below w.heap.size w X ∧ Blk X (w.heap.size + 1) 26 #[.slice none 0 0, .slice none 0 0, .slice none 0 0, .bool false] := fun X hX => ⟨B3.trans (hX.mono B3.size), R3.below hX R3.lt⟩
  have HBD := Lib.hid hbad
  have HE21 : Hid (sizesD r ≠ lensD product → fillE r product = 21) := fun hne => by unfold fillE; rw [if_neg (by rw [Hok.out]; simp), if_pos (show hasSizesB r product = false from decide_eq_false hne)]
  clear hck hu0 hu hsz V3 R3 hbad
  by_cases hle : (sizesD r).length = product.length
  case neg =>
    have k1 : (((sizesD r).length : Int) != (product.length : Int)) = true := by simp; omega
    have HR := Lib.hid (HRET.out 21 (HE21.out fun e => hle (by have := congrArg List.length e; rwa [lens_len] at this)) (by decide))
    obtain ⟨BX, R4⟩ := HBD.out w3 (Below.refl _ _)
    have d0 := cellOf R4 0 (x := .slice none 0 0) rfl
    have d1 := cellOf R4 1 (x := .slice none 0 0) rfl
    have d2 := cellOf R4 2 (x := .slice none 0 0) rfl
    have d3 := cellOf R4 3 (x := .bool false) rfl
    have f0 := R4.frozen 0
    have f1 := R4.frozen 1
    have f2 := R4.frozen 2
    have f3 := R4.frozen 3
    have HB := Lib.hid (below_set4 BX (Nat.le_succ w.heap.size) (.slice none 0 0) (.slice none 0 0) (.slice none 0 0) (.bool false))
    clear hle R4 BX
    go_wp2
    refine bodyPost_ret (v := .tuple #[runRet0, .int .i64 21]) (by simp [results, Try.results34, go_sem, d0, d1, d2, d3, runRet0]) rfl (HR.out _ HB.out)
  have k1 : (((sizesD r).length : Int) != (product.length : Int)) = false := by simp; omega
  have HLE := Lib.hid hle
  clear hle
  go_wp2
  rw [HLE.out]
  clear k1
  go_loopw [8] (fun i wr => ∃ k : Nat, k ≤ product.length ∧ i = .int .i64 k ∧ Hid ((sizesD r).take k = (lensD product).take k) ∧ Below w3.heap.size w3 wr) (fun i _ => product.length - (intOf i).toNat)
  case atStart => exact ⟨0, Nat.zero_le _, rfl, rfl, Below.refl _ _⟩
  case round =>
    obtain ⟨k, hk, rfl, ht, hB⟩ := hrel
    by_cases hlt : k < product.length
    case pos =>
      obtain ⟨sec, hx⟩ : ∃ sec, product[k]? = some sec := ⟨_, List.getElem?_eq_getElem hlt⟩
      obtain ⟨gP, oP, D, d, rfl, -, hsl2, hcP, -⟩ := HPR.out k sec hx
      have hks : k < (sizesD r).length := by have := HLE.out; omega
      obtain ⟨gs, os, y, rfl, hgs, hcs, hy⟩ := HSZ.out k hks
      have hyl : (sizesD r)[k]? = some y := by
        have := hy.out
        simpa [List.getD_eq_getElem?_getD, List.getElem?_eq_getElem hks] using this
      obtain ⟨BX, R4⟩ := HBD.out wr hB
      have n0 := (hB.cell (p := ⟨gs, os + k, none⟩) hgs).trans hcs
      have m0 := hcP wr BX
      have hki : (k : Int) < (product.length : Int) := by omega
      by_cases hz : y = (sec.length : Int)
      case pos =>
        have k1 : (y != (sec.length : Int)) = false := by simpa using hz
        have HNX : Hid ((sizesD r).take (k + 1) = (lensD product).take (k + 1)) := eq_take_next ht (hz ▸ hyl) (lens_at hx)
        have hBD2 : ∀ n, Below w3.heap.size w3 (wr.drewN n) := fun n => below_drewN hB n
        have HBD2 := Lib.hid hBD2
        have HLk : (sec.length : Int) ≤ 9223372036854775807 := by omega
        clear hx hcP hcs hgs hy hyl R4 BX hz ht hBD2 hks
        go_wp2
        go_quiet (fail)
        go_wp2
        go_roundw
        case rel => exact ⟨k + 1, by omega, by go_num, HNX, HBD2.out _⟩
        case measure => (simp [intOf]) <;> omega
      have k1 : (y != (sec.length : Int)) = true := by simpa using hz
      have HR := Lib.hid (HRET.out 21 (HE21.out (ne_at9 hyl (lens_at hx) hz)) (by decide))
      have d0 := cellOf R4 0 (x := .slice none 0 0) rfl
      have d1 := cellOf R4 1 (x := .slice none 0 0) rfl
      have d2 := cellOf R4 2 (x := .slice none 0 0) rfl
      have d3 := cellOf R4 3 (x := .bool false) rfl
      have f0 := R4.frozen 0
      have f1 := R4.frozen 1
      have f2 := R4.frozen 2
      have f3 := R4.frozen 3
      have HB : Hid (∀ n, Below w.heap.size w _) := fun n => below_set4 (below_drewN BX n) (Nat.le_succ w.heap.size) (.slice none 0 0) (.slice none 0 0) (.slice none 0 0) (.bool false)
      clear hx hcP hcs hgs hy hyl R4 BX hz ht hks
      go_wp2
      go_quiet (fail)
      go_wp2
      refine bodyPost_ret (v := .tuple #[runRet0, .int .i64 21]) (by simp [results, Try.results34, go_sem, d0, d1, d2, d3, runRet0]) rfl (HR.out _ (HB.out _))
    obtain ⟨wo, rfl⟩ : ∃ wo, wo = wr := ⟨wr, rfl⟩
    have hszE : sizesD r = lensD product := by
      have h1 := ht.out
      rwa [List.take_of_length_le (by have := HLE.out; omega), List.take_of_length_le (by rw [lens_len]; omega)] at h1
    have Hsz : Hid (hasSizesB r product = true) := decide_eq_true hszE
    obtain ⟨B4, R4⟩ := HBD.out wo hB
    have V4 := HV3.out.below hB HV3.out.lt
    have C1 := wrong_any _ product wo ((HP.out.below B4).more B4.size)
    clear ht hszE
    cases hpg : hasPagesB product
    case false =>
      rw [hpg] at C1
      have hE : fillE r product = 6 := by unfold fillE; rw [if_neg (by rw [Hok.out]; simp), if_neg (by rw [Hsz.out]; simp), if_pos hpg]
      have HR := Lib.hid (HRET.out 6 hE (by decide))
      have d0 := cellOf R4 0 (x := .slice none 0 0) rfl
      have d1 := cellOf R4 1 (x := .slice none 0 0) rfl
      have d2 := cellOf R4 2 (x := .slice none 0 0) rfl
      have d3 := cellOf R4 3 (x := .bool false) rfl
      have f0 := R4.frozen 0
      have f1 := R4.frozen 1
      have f2 := R4.frozen 2
      have f3 := R4.frozen 3
      have HB := Lib.hid (below_set4 B4 (Nat.le_succ w.heap.size) (.slice none 0 0) (.slice none 0 0) (.slice none 0 0) (.bool false))
      have HC1 := Lib.hid C1
      clear hpg hE R4 B4 C1 V4
      go_wp2_with fail
      refine HC1.out.mono ?_
      rintro e w' ⟨rfl, rfl⟩
      go_wp2
      refine bodyPost_ret (v := .tuple #[runRet0, .int .i64 6]) (by simp [results, Try.results34, go_sem, d0, d1, d2, d3, runRet0]) rfl (HR.out _ HB.out)
    rw [hpg] at C1
    have HC1 := Lib.hid C1
    have HE : Hid (fillE r product = 0) := by show fillE r product = 0; unfold fillE; rw [if_neg (by rw [Hok.out]; simp), if_neg (by rw [Hsz.out]; simp), if_neg (by rw [hpg]; simp)]
    have HR4 := Lib.hid R4
    have HV4 := Lib.hid V4
    have o0 := cellOf V4 0 (x := .slice A1 r.webs.length c1) rfl
    have o1 := cellOf V4 1 (x := .slice A2 r.ribs.length c2) rfl
    have o2 := cellOf V4 2 (x := .slice A3 r.stacks.length c3) rfl
    have o3 := cellOf V4 3 (x := .bool r.coll) rfl
    have CC := Lib.hid (refCopy_any A1 A2 A3 c1 c2 c3 r wo ((hrun.out.below B4).more B4.size) HSM.out)
    clear hpg C1 R4 V4 hB
    go_wp2_with fail
    refine HC1.out.mono ?_
    rintro e w' ⟨rfl, rfl⟩
    go_wp2_with fail
    refine CC.out.mono ?_
    rintro e w5 ⟨v1, vs, v2, rfl, ow, orb, hb5⟩
    have B5 := B4.trans (hb5.mono B4.size)
    have ow := ow.base_ (b' := w.heap.size) (by have := B4.size; omega)
    have orb := ownsRow_base orb (b' := w.heap.size) (by have := B4.size; omega)
    obtain ⟨D1, m1, rfl⟩ := ownsRow_form ow.1
    obtain ⟨D2, m2, rfl⟩ := ownsRow_form orb
    obtain ⟨gw, rfl, hg0, hg1⟩ := ownsRow_block ow.1 (by have := (numbers_ok (parts_ok Hok.out 0 (by omega))).1; omega)
    have V5 := HV4.out.below hb5 HV4.out.lt
    have R5 := HR4.out.below hb5 HR4.out.lt
    clear CC HC1 o0 o1 o2 o3 hb5
    have F6 : ∃ w6, w5.alloc (.cells #[.slice (some ⟨gw, 0, none⟩) r.webs.length m1, .slice D2 r.ribs.length m2, .slice A3 r.stacks.length c3, .bool r.coll] 26) = w6 ∧ Below w5.heap.size w5 w6 ∧
        Blk w6 w5.heap.size 26 #[.slice (some ⟨gw, 0, none⟩) r.webs.length m1, .slice D2 r.ribs.length m2, .slice A3 r.stacks.length c3, .bool r.coll] :=
      ⟨_, rfl, (Below.refl _ _).alloc (Nat.le_refl _) _, Blk.new _ _ _⟩
    obtain ⟨w6, e6, hb6, O6⟩ := F6
    have E6 := Lib.hid e6
    have V6 := V5.below hb6 V5.lt
    have R6 := R5.below hb6 R5.lt
    have B6 := B5.trans (hb6.mono B5.size)
    have o0 := cellOf V6 0 (x := .slice A1 r.webs.length c1) rfl
    have o1 := cellOf V6 1 (x := .slice A2 r.ribs.length c2) rfl
    have o2 := cellOf V6 2 (x := .slice A3 r.stacks.length c3) rfl
    have o3 := cellOf V6 3 (x := .bool r.coll) rfl
    have ow6 := ow.below hb6
    have or6 := ownsRow_below orb hb6
    have C := Lib.hid (All_any _ r w6 ((hrun.out.below B6).more B6.size) Hok.out)
    clear ow orb V5 R5 e6 hb6 hg0 hg1
    go_upto_region 14 with fail
    rw [E6.out]
    clear E6
    generalize eb9 : w5.heap.size = b9 at *
    clear eb9
    go_wp2_with fail
    refine C.out.mono ?_
    rintro e w7 ⟨u, rfl, hu, hb7⟩
    have B7 := B6.trans (hb7.mono B6.size)
    have V7 := V6.below hb7 V6.lt
    obtain ⟨A, c, rfl, hA⟩ := hu.deep
    have HA := Lib.hid hA
    have HV7 := Lib.hid V7
    have hst : RFillSt w w7 r b9 (.slice (some ⟨gw, 0, none⟩) r.webs.length m1) vs (.slice D2 r.ribs.length m2) (.slice A3 r.stacks.length c3) r.webs w7 :=
      ⟨ow6.below hb7, ownsRow_below or6 hb7, B7, Grew.of_below (Below.refl _ _), Nat.le_refl _, O6.below hb7 O6.lt, R6.below hb7 R6.lt⟩
    have HST0 := Lib.hid hst
    have hf0 : Hid (FilledL r product (row3 ((layoutD r).take 0)) r.webs) := ⟨SameShape.refl _, fun y hy => by simp [row3] at hy⟩
    clear hlt C o0 o1 o2 o3 hu hA hb7 V6 V7 R6 O6 ow6 or6 hst B6 B7 B5
    have hl2 := layout_two Hok.out
    go_wp2
    go_loopw [11] (fun i wr => ∃ c : Nat, c ≤ (layoutD r).length ∧ i = .int .i64 c ∧ ∃ ws, Hid (FilledL r product (row3 ((layoutD r).take c)) ws) ∧ Hid (RFillSt w w7 r b9 (.slice (some ⟨gw, 0, none⟩) r.webs.length m1) vs (.slice D2 r.ribs.length m2) (.slice A3 r.stacks.length c3) ws wr)) (fun i _ => (layoutD r).length - (intOf i).toNat)
    case atStart => exact ⟨0, Nat.zero_le _, rfl, _, hf0, HST0⟩
    case round =>
      clear hf0 HST0
      obtain ⟨c, hc, rfl, ws, hF, hst⟩ := hrel
      by_cases hltc : c < (layoutD r).length
      case neg =>
        have hF2 : Hid (Filled r product { r with webs := ws }) := by
          have := hF.out
          rw [List.take_of_length_le (by omega)] at this
          exact ⟨rfl, rfl, rfl, this.1, this.2⟩
        have O9 := hst.out.2.2.2.2.2.1
        have R9 := hst.out.2.2.2.2.2.2
        have d0 := cellOf R9 0 (x := .slice none 0 0) rfl
        have d1 := cellOf R9 1 (x := .slice none 0 0) rfl
        have d2 := cellOf R9 2 (x := .slice none 0 0) rfl
        have d3 := cellOf R9 3 (x := .bool false) rfl
        have f0 := R9.frozen 0
        have f1 := R9.frozen 1
        have f2 := R9.frozen 2
        have f3 := R9.frozen 3
        have v0 := cellOf O9 0 (x := .slice (some ⟨gw, 0, none⟩) r.webs.length m1) rfl
        have v1 := cellOf O9 1 (x := .slice D2 r.ribs.length m2) rfl
        have v2 := cellOf O9 2 (x := .slice A3 r.stacks.length c3) rfl
        have v3 := cellOf O9 3 (x := .bool r.coll) rfl
        have hfin := Lib.hid hst.out.final
        clear hst O9 R9 hF
        go_wp2
        refine bodyPost_ret (v := .tuple #[.agg #[.slice (some ⟨gw, 0, none⟩) r.webs.length m1, .slice D2 r.ribs.length m2, .slice A3 r.stacks.length c3, .bool r.coll], .int .i64 0]) (by simp [results, Try.results34, go_sem, d0, d1, d2, d3]) rfl ⟨_, by rw [HE.out], fun _ => ⟨_, _, vs, _, hF2.out, rfl, ?_, ?_⟩, fun h => absurd HE.out h, ?_⟩
        · exact (hfin.out _ rfl).1
        · exact (hfin.out _ rfl).2.1
        · exact (hfin.out _ rfl).2.2
      obtain ⟨S, hS⟩ : ∃ S, (layoutD r)[c]? = some S := ⟨_, List.getElem?_eq_getElem hltc⟩
      obtain ⟨g, o, D, d, rfl, hcS, hin⟩ := HA.out c S hS
      have HCS := Lib.hid hcS
      have HIN := Lib.hid hin
      have HS := Lib.hid hS
      have hci : (c : Int) < ((layoutD r).length : Int) := by omega
      have hF2 : Hid (FilledL r product (row3 ((layoutD r).take c) ++ row2 c (S.take 0)) ws) := by
        show FilledL _ _ _ _
        simpa [row2] using hF.out
      have hSl := copy_small Hok.out hS
      clear hS hcS hin hF
      go_wp2
      go_loopw [12] (fun i wr => ∃ k : Nat, k ≤ S.length ∧ i = .int .i64 k ∧ ∃ ws, Hid (FilledL r product (row3 ((layoutD r).take c) ++ row2 c (S.take k)) ws) ∧ Hid (RFillSt w w7 r b9 (.slice (some ⟨gw, 0, none⟩) r.webs.length m1) vs (.slice D2 r.ribs.length m2) (.slice A3 r.stacks.length c3) ws wr)) (fun i _ => S.length - (intOf i).toNat)
      case atStart => exact ⟨0, Nat.zero_le _, rfl, _, hF2, hst⟩
      case round =>
        clear hF2 hst
        obtain ⟨k, hk, rfl, ws, hF, hst⟩ := hrel
        have m0 := HCS.out wr hst.out.2.2.2.1
        by_cases hltk : k < S.length
        case neg =>
          have hF3 : Hid (FilledL r product (row3 ((layoutD r).take (c + 1))) ws) := by
            show FilledL _ _ _ _
            rw [row3_next HS.out]
            have := hF.out
            rwa [show S.take k = S from List.take_of_length_le (by omega)] at this
          clear hF
          go_wp2
          go_roundw
          case rel => exact ⟨c + 1, by omega, by go_num, _, hF3, hst⟩
          case measure => (simp [intOf]) <;> omega
        obtain ⟨l, hl⟩ : ∃ l, S[k]? = some l := ⟨_, List.getElem?_eq_getElem hltk⟩
        obtain ⟨g1, o1, E, f, rfl, hll, hcl, hin⟩ := HIN.out k l hl
        have HCL := Lib.hid hcl
        have HIN2 := Lib.hid hin
        have HL := Lib.hid hl
        have hki : (k : Int) < (S.length : Int) := by omega
        have hF2 : Hid (FilledL r product (row3 ((layoutD r).take c) ++ (row2 c (S.take k) ++ row1 c k (l.take 0))) ws) := by
          show FilledL _ _ _ _
          simpa [row1] using hF.out
        clear hl hcl hin hF
        go_wp2
        clear m0
        go_loopw [13] (fun i wr => ∃ m : Nat, m ≤ l.length ∧ i = .int .i64 m ∧ ∃ ws, Hid (FilledL r product (row3 ((layoutD r).take c) ++ (row2 c (S.take k) ++ row1 c k (l.take m))) ws) ∧ Hid (RFillSt w w7 r b9 (.slice (some ⟨gw, 0, none⟩) r.webs.length m1) vs (.slice D2 r.ribs.length m2) (.slice A3 r.stacks.length c3) ws wr)) (fun i _ => l.length - (intOf i).toNat)
        case atStart => exact ⟨0, Nat.zero_le _, rfl, _, hF2, hst⟩
        case round =>
          clear hF2 hst
          obtain ⟨i, hi, rfl, ws, hF, hst⟩ := hrel
          have hG := hst.out.2.2.2.1
          have m0 := HCS.out wr hG
          have m1' := HCL.out wr hG
          by_cases hlti : i < l.length
          case neg =>
            have hF3 : Hid (FilledL r product (row3 ((layoutD r).take c) ++ row2 c (S.take (k + 1))) ws) := by
              show FilledL _ _ _ _
              rw [row2_next HL.out]
              have := hF.out
              rwa [show l.take i = l from List.take_of_length_le (by omega)] at this
            clear hF
            go_wp2
            go_roundw
            case rel => exact ⟨k + 1, by omega, by go_num, _, hF3, hst⟩
            case measure => (simp [intOf]) <;> omega
          obtain ⟨x, hx⟩ : ∃ x, l[i]? = some x := ⟨_, List.getElem?_eq_getElem hlti⟩
          obtain ⟨g2, o2, rfl, hc2⟩ := HIN2.out i x hx
          obtain ⟨m, xw, hso⟩ := layout_spot Hok.out HS.out HL.out hx
          have hnx := row1_next (c := c) (s := k) hx
          have hpre := done_pre HS.out HL.out hx
          obtain ⟨sw, ss, sr, sc⟩ := x
          obtain ⟨n0, n1, n2, n3⟩ := hc2 wr hG
          dsimp only at n0 n1 n2 n3
          obtain rfl : sw = (m : Int) := hso.web
          obtain ⟨c', k', i', sec, page, hpe, hsec, hpage, hpo⟩ := place_in Hok.out Hsz.out (place_mem.2 ⟨c, k, i, S, l, rfl, HS.out, HL.out, hx⟩)
          simp only [PlaceD.mk.injEq] at hpe
          obtain rfl : c = c' := by omega
          obtain rfl : k = k' := by omega
          obtain rfl : i = i' := by omega
          clear hpe
          obtain ⟨gP, oP, P, q, rfl, hgP, -, hcP, hinP⟩ := HPR.out k sec hsec
          obtain ⟨gQ, oQ, rfl, hgQ, hcQ⟩ := hinP i page hpage
          have HSO := Lib.hid hso
          have HPO := Lib.hid hpo
          obtain ⟨⟨xc, xr, xp⟩, hx', hxc, hxr, hxp⟩ := hF.out.1.2 m xw hso.there
          dsimp only at hxc hxr hxp
          obtain ⟨ga, oa, ua, rfl, hga, q0, q1, q2, hqp⟩ := HAW.out m xw hso.there
          obtain ⟨Aa, ca, rfl, -⟩ := rd_slice hqp
          obtain ⟨kk, hkk⟩ : ∃ kk, plateI xw ⟨m, ss, sr, sc⟩ = kk := ⟨_, rfl⟩
          have hidx := hso.idx
          rw [hkk, ← hxp] at hidx
          obtain ⟨hidx1, -⟩ := hidx
          have st := hst.out
          obtain ⟨u, hu, hop, j0, j1, j2⟩ := st.1.at hx'
          dsimp only at j0 j1 j2 hop
          obtain ⟨A5, c5, rfl⟩ := ownsRow_form hop
          obtain ⟨g5, rfl, hg50, hg51⟩ := ownsRow_block hop (by omega)
          obtain ⟨csP, hcsP⟩ := hop.blk
          obtain ⟨csW, hcsW⟩ := st.1.blk
          have hV := HV7.out.grew hG (by decide)
          have O9 := st.2.2.2.2.2.1
          have BW := st.2.2.1
          obtain ⟨⟨opg, oup⟩, hold⟩ : ∃ p, xp[kk]? = some p := ⟨_, List.getElem?_eq_getElem hidx1⟩
          obtain ⟨y0, y1⟩ := hop.at hold
          dsimp only at y0 y1
          have k1 : (k : Int) < (product.length : Int) := by have := (List.getElem?_eq_some_iff.1 hsec).1; omega
          have k2 : (i : Int) < (sec.length : Int) := by have := (List.getElem?_eq_some_iff.1 hpage).1; omega
          have k3 : (m : Int) < (r.webs.length : Int) := by have := (List.getElem?_eq_some_iff.1 hso.there).1; omega
          have k4 : (kk : Int) < (xp.length : Int) := by omega
          have k5 : (i : Int) < (l.length : Int) := by omega
          have F10 : ∃ W10, wr.alloc (.cells #[.int .i64 m, .int .i64 ss, .int .i64 sr, .int .i64 sc] 30) = W10 ∧ W10.heap.size = wr.heap.size + 1 ∧ Below wr.heap.size wr W10 ∧ Blk W10 wr.heap.size 30 #[.int .i64 m, .int .i64 ss, .int .i64 sr, .int .i64 sc] :=
            ⟨_, rfl, by simp, (Below.refl _ _).alloc (Nat.le_refl _) _, Blk.new _ _ _⟩
          obtain ⟨W10, e10, z10, B10, S10⟩ := F10
          have E10 := Lib.hid e10
          have B010 := BW.trans (B10.mono BW.size)
          have hfacts : ∀ X, Below W10.heap.size W10 X → X.cell? ⟨b9, 0, none⟩ = some (.slice (some ⟨gw, 0, none⟩) r.webs.length m1) ∧
              X.cell? ⟨wr.heap.size, 0, none⟩ = some (.int .i64 m) ∧ X.cell? ⟨wr.heap.size, 1, none⟩ = some (.int .i64 ss) ∧ X.cell? ⟨wr.heap.size, 2, none⟩ = some (.int .i64 sr) ∧ X.cell? ⟨wr.heap.size, 3, none⟩ = some (.int .i64 sc) ∧
              X.cell? ⟨gw, m * 3 + 2, none⟩ = some (.slice (some ⟨g5, 0, none⟩) xp.length c5) ∧ X.cell? ⟨w.heap.size, 0, none⟩ = some (.slice (some ⟨ga, oa, none⟩) r.webs.length c1) ∧
              X.cell? ⟨ga, oa + m * 3, none⟩ = some (.int .i64 xw.cols) ∧ X.cell? ⟨ga, oa + m * 3 + 1, none⟩ = some (.int .i64 xw.rows) ∧ X.cell? ⟨ga, oa + m * 3 + 2, none⟩ = some (.slice Aa xw.plates.length ca) ∧
              X.cell? ⟨gP, oP + k, none⟩ = some (.slice (some ⟨gQ, oQ, none⟩) sec.length q) ∧ X.cell? ⟨gQ, oQ + i, none⟩ = some (.int .i64 page) := fun X hX => by
            have hb := B10.trans (hX.mono B10.size)
            have hb0 := BW.trans (hb.mono BW.size)
            have t1 := S10.below hX S10.lt
            exact ⟨cellOf (O9.below hb O9.lt) 0 rfl, cellOf t1 0 rfl, cellOf t1 1 rfl, cellOf t1 2 rfl, cellOf t1 3 rfl, (hb.cell (p := ⟨gw, m * 3 + 2, none⟩) hcsW.lt).trans j2, cellOf (hV.below hb hV.lt) 0 rfl,
              (hb0.cell (p := ⟨ga, oa + m * 3, none⟩) hga).trans q0, (hb0.cell (p := ⟨ga, oa + m * 3 + 1, none⟩) hga).trans q1, (hb0.cell (p := ⟨ga, oa + m * 3 + 2, none⟩) hga).trans q2, hcP X hb0, hcQ X hb0⟩
          have HF := Lib.hid hfacts
          have hcall : ∀ X, Below W10.heap.size W10 X → Calls Try.prog 46 #[.agg #[.int .i64 xw.cols, .int .i64 xw.rows, .slice Aa xw.plates.length ca], .agg #[.int .i64 m, .int .i64 ss, .int .i64 sr, .int .i64 sc]] X fun e w' => e = .returned (.int .i64 kk) ∧ Below W10.heap.size W10 w' :=
            fun X hX => (At_any r ⟨m, ss, sr, sc⟩ m xw (.slice Aa xw.plates.length ca) X HSO.out).mono fun e w' he => ⟨by rw [he.1, hkk], hX.trans (he.2.mono hX.size)⟩
          have HC := Lib.hid hcall
          have hnew : ∀ X, Below W10.heap.size W10 X → X.cell? ⟨g5, kk * 2, none⟩ = some (.int .i64 opg) ∧ X.cell? ⟨g5, kk * 2 + 1, none⟩ = some (.bool oup) ∧ X.frozen? ⟨g5, kk * 2, none⟩ = false ∧ X.frozen? ⟨g5, kk * 2 + 1, none⟩ = false := fun X hX => by
            have hb := B10.trans (hX.mono B10.size)
            have t := hcsP.below hb hcsP.lt
            exact ⟨(hb.cell (p := ⟨g5, kk * 2, none⟩) hg51).trans y0, (hb.cell (p := ⟨g5, kk * 2 + 1, none⟩) hg51).trans y1, t.frozen _, t.frozen _⟩
          have HN := Lib.hid hnew
          have hput : ∀ X, Below W10.heap.size W10 X → ∃ ws2, Hid (FilledL r product (row3 ((layoutD r).take c) ++ (row2 c (S.take k) ++ row1 c k (l.take (i + 1)))) ws2) ∧ Hid (RFillSt w w7 r b9 (.slice (some ⟨gw, 0, none⟩) r.webs.length m1) vs (.slice D2 r.ribs.length m2) (.slice A3 r.stacks.length c3) ws2 ((X.setCell ⟨g5, kk * 2, none⟩ (.int .i64 page)).setCell ⟨g5, kk * 2 + 1, none⟩ (.bool false))) := fun X hX => by
            refine ⟨putPlate ws m kk ⟨page, false⟩, ?_, ((st.below B10).below hX).put hu hx' hidx1 page false⟩
            have := FilledL.step Hok.out hF.out hpre HSO.out
            rw [HPO.out, hkk] at this
            show FilledL _ _ _ _
            rw [hnx, ← List.append_assoc, ← List.append_assoc]
            rw [← List.append_assoc] at this
            exact this
          have HPUT := Lib.hid hput
          obtain ⟨t0, t1, t2, t3, t4, t5, t6, t7, t8, t9, t10, t11⟩ := HF.out W10 (Below.refl _ _)
          have x1 : g5 ≠ b9 := blk_ne hcsP O9 (by decide)
          have x2 : g5 ≠ wr.heap.size := by omega
          have x3 : g5 ≠ gw := blk_ne hcsP hcsW (by decide)
          have x4 : g5 ≠ w.heap.size := blk_ne hcsP hV (by decide)
          have x5 : g5 ≠ ga := by omega
          have x7 : g5 ≠ gP := by omega
          have x8 : g5 ≠ gQ := by omega
          have x6 : g5 < W10.heap.size := by omega
          clear z10 hx hso hpo hsec hpage e10 st hu hx' hxc hxr hxp hidx1 hkk hop hold hcsP hcsW hnew hput hfacts hcall S10 O9 BW y0 y1 j0 j1 j2 q0 q1 q2 hqp hcP hcQ hinP hV B010 hnx hpre hc2
          go_upto_region 25 with fail
          rw [E10.out]
          clear n0 n1 n2 n3 m0 m1'
          go_region_held3 (fun X => X.cell? ⟨b9, 0, none⟩ = some (.slice (some ⟨gw, 0, none⟩) r.webs.length m1) ∧ X.cell? ⟨wr.heap.size, 0, none⟩ = some (.int .i64 m) ∧ X.cell? ⟨wr.heap.size, 1, none⟩ = some (.int .i64 ss) ∧ X.cell? ⟨wr.heap.size, 2, none⟩ = some (.int .i64 sr) ∧ X.cell? ⟨wr.heap.size, 3, none⟩ = some (.int .i64 sc) ∧ X.cell? ⟨gw, m * 3 + 2, none⟩ = some (.slice (some ⟨g5, 0, none⟩) xp.length c5) ∧ X.cell? ⟨w.heap.size, 0, none⟩ = some (.slice (some ⟨ga, oa, none⟩) r.webs.length c1) ∧ X.cell? ⟨ga, oa + m * 3, none⟩ = some (.int .i64 xw.cols) ∧ X.cell? ⟨ga, oa + m * 3 + 1, none⟩ = some (.int .i64 xw.rows) ∧ X.cell? ⟨ga, oa + m * 3 + 2, none⟩ = some (.slice Aa xw.plates.length ca) ∧ X.cell? ⟨gP, oP + k, none⟩ = some (.slice (some ⟨gQ, oQ, none⟩) sec.length q) ∧ X.cell? ⟨gQ, oQ + i, none⟩ = some (.int .i64 page))
            (first | exact HF.out _ (by assumption) | exact HF.out _ (Below.refl _ _) | exact HF.out _ (Below.refl _ _).drew | go_keep)
            (first | (go_at_call 46; refine (HC.out _ ?_).mono ?_; (first | assumption | exact Below.refl _ _ | exact (Below.refl _ _).drew); rintro e w12 ⟨rfl, h12⟩; have r5 := (HN.out _ h12).1; have s5 := (HN.out _ h12).2.1; have t5' := (HN.out _ h12).2.2.1; have u5' := (HN.out _ h12).2.2.2))
          obtain ⟨ws2, hf2, hs2⟩ := HPUT.out w12 (by assumption)
          clear r5 s5 t5' u5' t0 t1 t2 t3 t4 t5 t6 t7 t8 t9 t10 t11 HF
          go_wp2
          go_roundw
          case rel => exact ⟨i + 1, by omega, by go_num, _, hf2, hs2⟩
          case measure => (simp [intOf]) <;> omega
end Go.Proofs.Ytdbfhdncjblleaa
