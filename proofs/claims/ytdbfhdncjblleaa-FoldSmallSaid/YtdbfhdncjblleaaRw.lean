/-
  FoldReads: the walk: whatever the run, place, spot and number, the call returns true and what there was stays as it was.
-/
import Derived.Test.YtdbfhdncjblleaaRn
import Derived.Test.YtdbfhdncjblleaaRp
import Derived.Test.YtdbfhdncjblleaaRq
import Derived.Test.YtdbfhdncjblleaaRj
import Derived.Test.YtdbfhdncjblleaaKl
namespace Go.Proofs.Ytdbfhdncjblleaa
open Go.RowKit

theorem small_of3 {r : RunD} (h : bigB r = false) : SmallRun r := by
  unfold bigB at h
  simp only [Bool.or_eq_false_iff, decide_eq_false_iff_not] at h
  obtain ⟨⟨⟨⟨h1, h2⟩, h3⟩, h4⟩, h5⟩ := h
  refine ⟨by omega, by omega, by omega, fun x hx => ?_, fun s hs => ?_⟩
  · have := List.any_eq_false.1 h4 x hx
    simp only [decide_eq_true_eq] at this
    omega
  · have := List.any_eq_false.1 h5 s hs
    simp only [decide_eq_true_eq] at this
    omega
theorem SmallRun.bounded {r : RunD} (h : SmallRun r) : Bounded r :=
  ⟨by have := h.1; omega, by have := h.2.1; omega, by have := h.2.2.1; omega, fun x hx => by have := h.2.2.2.1 x hx; omega, fun s hs => by have := h.2.2.2.2 s hs; omega⟩
theorem RPts.keep {B : Nat} {w w' : World} {v : Value} {l : List (List PlateD)} (h : RPts B w v l) (hk : ∀ p : Addr, p.block < B → w'.cell? p = w.cell? p) : RPts B w' v l := RAll.keep h hk fun _ _ hr => Rd.keep hr hk
theorem RPts.more {B B' : Nat} {w : World} {v : Value} {l : List (List PlateD)} (h : RPts B w v l) (hB : B ≤ B') : RPts B' w v l := RAll.more h hB fun _ _ hr => Rd.more hr hB
theorem RPtss.below {B : Nat} {w w' : World} {v : Value} {l : List (List (List PlateD))} (h : RPtss B w v l) (hb : Below B w w') : RPtss B w' v l := RAll.keep h (fun _ hp => hb.cell hp) fun _ _ hr => RPts.keep hr fun _ hp => hb.cell hp
theorem RPtss.more {B B' : Nat} {w : World} {v : Value} {l : List (List (List PlateD))} (h : RPtss B w v l) (hB : B ≤ B') : RPtss B' w v l := RAll.more h hB fun _ _ hr => RPts.more hr hB
theorem RPtss.nil {B : Nat} {w : World} : RPtss B w (.slice none 0 0) [] := ⟨[], Rd.nil, rfl, fun i u x hu _ => by simp at hu⟩
def RPls (B : Nat) (w : World) (v : Value) (l : List PlaceD) : Prop := Rd B w 3 v l.length (l.flatMap PlaceD.cells)
theorem RPls.open_ {B : Nat} {w : World} {v : Value} {l : List PlaceD} (h : RPls B w v l) : ∃ A c, v = .slice A l.length c ∧ l.length ≤ 9223372036854775807 ∧
    ∀ k x, l[k]? = some x → ∃ g o, A = some ⟨g, o, none⟩ ∧ ∀ X, Below B w X → X.cell? ⟨g, o + k * 3, none⟩ = some (.int .i64 x.copy) ∧ X.cell? ⟨g, o + k * 3 + 1, none⟩ = some (.int .i64 x.sec) ∧ X.cell? ⟨g, o + k * 3 + 2, none⟩ = some (.int .i64 x.idx) := by
  obtain ⟨A, c, rfl, -, hm, hr⟩ := h
  refine ⟨A, c, rfl, by simpa [maxLen] using hm, fun k x hx => ?_⟩
  have hk : k < l.length := (List.getElem?_eq_some_iff.1 hx).1
  obtain ⟨g, o, hA, hb, hc⟩ := hr (by omega)
  have hf := fun j hj => flat_at PlaceD.cells 3 (fun _ => rfl) _ k j _ hx hj
  exact ⟨g, o, hA, fun X hX => ⟨(hX.cell (p := ⟨g, o + k * 3, none⟩) hb).trans (hc _ _ (hf 0 (by omega))), (hX.cell (p := ⟨g, o + k * 3 + 1, none⟩) hb).trans (hc _ _ (hf 1 (by omega))), (hX.cell (p := ⟨g, o + k * 3 + 2, none⟩) hb).trans (hc _ _ (hf 2 (by omega)))⟩⟩
theorem fieldsPlR : Try.prog.underlying 28 = some (.struct (Try.prog.fieldsOf 28)) := by kernel_rfl
theorem heldPlR : Try.prog.stoodInHeld 28 = false := by kernel_rfl
theorem flPlR : (Try.prog.fieldsOf 28).toList.map (fun f => (f.name != "_", f.type, f.offset)) = [(true, 3, 0), (true, 3, 1), (true, 3, 2)] := by kernel_rfl
theorem eqPlaceR (a b c : Int) (w : World) : (Op.equalIn 10000 28 (.agg #[.int .i64 a, .int .i64 b, .int .i64 c]) (.agg #[.int .i64 a, .int .i64 b, .int .i64 c])).run Try.prog w = .ok true w := by
  rw [run_equalIn_agg w 9999 _ _ _ fieldsPlR heldPlR]
  have hl := flPlR
  generalize (Try.prog.fieldsOf 28).toList = fs at hl ⊢
  obtain ⟨f0, r0, rfl, h0, hl⟩ := List.map_eq_cons_iff.1 hl
  obtain ⟨f1, r1, rfl, h1, hl⟩ := List.map_eq_cons_iff.1 hl
  obtain ⟨f2, r2, rfl, h2, hl⟩ := List.map_eq_cons_iff.1 hl
  obtain rfl := List.map_eq_nil_iff.1 hl
  simp only [Prod.mk.injEq, bne_iff_ne, ne_eq] at h0 h1 h2
  obtain ⟨n0, t0, o0⟩ := h0
  obtain ⟨n1, t1, o1⟩ := h1
  obtain ⟨n2, t2, o2⟩ := h2
  clear hl
  simp [Op.eqFields, n0, n1, n2, t0, t1, t2, o0, o1, o2, go_sem]
theorem eqSpotR (a b c d : Int) (w : World) : (Op.equalIn 10000 30 (.agg #[.int .i64 a, .int .i64 b, .int .i64 c, .int .i64 d]) (.agg #[.int .i64 a, .int .i64 b, .int .i64 c, .int .i64 d])).run Try.prog w = .ok true w :=
  (eq4R a b c d a b c d w).trans (by simp)
theorem cut_form (r : RunD) (n : Int) : ∃ a b c, CutRet r n = .tuple #[.int .i64 a, .int .i64 b, .int .i64 c] := by
  unfold CutRet
  split
  · exact ⟨_, _, _, rfl⟩
  · split
    · exact ⟨_, _, _, rfl⟩
    · split
      · exact ⟨_, _, _, rfl⟩
      · exact ⟨_, _, _, rfl⟩
/-- The boxes of the arguments and of the run of one's own. -/
def Boxes (b g : Nat) (ra xa : Array Value) (pc ps pi sw ss sr sc : Int) (X : World) : Prop :=
  Blk X b 26 ra ∧ Blk X (b + 1) 28 #[.int .i64 pc, .int .i64 ps, .int .i64 pi] ∧ Blk X (b + 2) 30 #[.int .i64 sw, .int .i64 ss, .int .i64 sr, .int .i64 sc] ∧ Blk X g 36 xa

set_option maxRecDepth 100000 in
set_option maxHeartbeats 8000000 in
theorem Reads_any (RC : RefCheckOk) (v : Value) (r : RunD) (pc ps pi sw ss sr sc n : Int) (w : World) (h : RRun w.heap.size w v r) :
    Calls Try.prog 3 #[v, .agg #[.int .i64 pc, .int .i64 ps, .int .i64 pi], .agg #[.int .i64 sw, .int .i64 ss, .int .i64 sr, .int .i64 sc], .int .i64 n] w fun e w' => e = .returned (.bool true) ∧ Below w.heap.size w w' := by
  have HRC := Lib.hid RC
  have hrun := Lib.hid h
  obtain ⟨A1, c1, A2, c2, A3, c3, rfl⟩ := h.shape
  clear h RC
  have F0 : ∃ W0, ((w.alloc (.cells #[.slice A1 r.webs.length c1, .slice A2 r.ribs.length c2, .slice A3 r.stacks.length c3, .bool r.coll] 26)).alloc (.cells #[.int .i64 pc, .int .i64 ps, .int .i64 pi] 28)).alloc (.cells #[.int .i64 sw, .int .i64 ss, .int .i64 sr, .int .i64 sc] 30) = W0 ∧
      W0.heap.size = w.heap.size + 3 ∧ Below w.heap.size w W0 ∧ Blk W0 w.heap.size 26 #[.slice A1 r.webs.length c1, .slice A2 r.ribs.length c2, .slice A3 r.stacks.length c3, .bool r.coll] ∧ Blk W0 (w.heap.size + 1) 28 #[.int .i64 pc, .int .i64 ps, .int .i64 pi] ∧ Blk W0 (w.heap.size + 2) 30 #[.int .i64 sw, .int .i64 ss, .int .i64 sr, .int .i64 sc] := by
    refine ⟨_, rfl, by simp, ((((Below.refl _ _).alloc (Nat.le_refl _) _).alloc (by simp) _).alloc (by simp; omega) _), ((Blk.new w _ _).alloc _).alloc _, ?_, ?_⟩
    · have := Blk.new (w.alloc (.cells #[.slice A1 r.webs.length c1, .slice A2 r.ribs.length c2, .slice A3 r.stacks.length c3, .bool r.coll] 26)) 28 #[.int .i64 pc, .int .i64 ps, .int .i64 pi]
      rw [World.size_alloc] at this
      exact this.alloc _
    · have := Blk.new ((w.alloc (.cells #[.slice A1 r.webs.length c1, .slice A2 r.ribs.length c2, .slice A3 r.stacks.length c3, .bool r.coll] 26)).alloc (.cells #[.int .i64 pc, .int .i64 ps, .int .i64 pi] 28)) 30 #[.int .i64 sw, .int .i64 ss, .int .i64 sr, .int .i64 sc]
      rw [World.size_alloc, World.size_alloc] at this
      exact this
  obtain ⟨W0, e0, z0, B0, V0, P0, S0⟩ := F0
  have E0 := Lib.hid e0
  have Z0 := Lib.hid z0
  have v0 := cellOf V0 0 (x := .slice A1 r.webs.length c1) rfl
  have v1 := cellOf V0 1 (x := .slice A2 r.ribs.length c2) rfl
  have v2 := cellOf V0 2 (x := .slice A3 r.stacks.length c3) rfl
  have v3 := cellOf V0 3 (x := .bool r.coll) rfl
  have C := Lib.hid (big_any _ r W0 ((hrun.out.below B0).more B0.size))
  have HV0 := Lib.hid V0
  have HP0 := Lib.hid P0
  have HS0 := Lib.hid S0
  clear e0 z0 V0 P0 S0
  go_enter Try.func3, Try.ntmps3
  go_upto_region 1 with fail
  rw [E0.out]
  cases hbig : bigB r
  case true =>
    rw [hbig] at C
    go_wp2_with fail
    refine C.out.mono ?_
    rintro e w5 ⟨rfl, hb5⟩
    have B5 := B0.trans (hb5.mono B0.size)
    go_wp2_with fail
    refine (awake_any _).mono ?_
    rintro e w6 ⟨rfl, hb6⟩
    go_wp2
    go_ret
    exact ⟨rfl, B5.trans (hb6.mono B5.size)⟩
  rw [hbig] at C
  have HSM := Lib.hid (small_of3 hbig)
  clear hbig
  go_wp2_with fail
  refine C.out.mono ?_
  rintro e w1 ⟨rfl, hb1⟩
  have B1 := B0.trans (hb1.mono B0.size)
  have V1 := HV0.out.below hb1 HV0.out.lt
  have P1 := HP0.out.below hb1 HP0.out.lt
  have S1 := HS0.out.below hb1 HS0.out.lt
  clear v0 v1 v2 v3 C hb1 HV0 HP0 HS0
  have v0 := cellOf V1 0 (x := .slice A1 r.webs.length c1) rfl
  have v1 := cellOf V1 1 (x := .slice A2 r.ribs.length c2) rfl
  have v2 := cellOf V1 2 (x := .slice A3 r.stacks.length c3) rfl
  have v3 := cellOf V1 3 (x := .bool r.coll) rfl
  have C := Lib.hid (Own_any _ r w1 ((hrun.out.below B1).more B1.size) HSM.out.bounded)
  have HV1 := Lib.hid V1
  have HP1 := Lib.hid P1
  have HS1 := Lib.hid S1
  clear V1 P1 S1
  go_wp2_with fail
  refine C.out.mono ?_
  rintro e w3 ⟨u, rfl, hor, hb3⟩
  have B3 := B1.trans (hb3.mono B1.size)
  obtain ⟨X1, d1, X2, d2, X3, d3, rfl⟩ : ∃ X1 d1 X2 d2 X3 d3, u = .agg #[.slice X1 r.webs.length d1, .slice X2 r.ribs.length d2, .slice X3 r.stacks.length d3, .bool r.coll] := by
    obtain ⟨u1, vs, u2, u3, rfl, ow, orb, ws, os⟩ := hor
    obtain ⟨D1, m1, rfl⟩ := ownsRow_form ow.1
    obtain ⟨D2, m2, rfl⟩ := ownsRow_form orb
    obtain ⟨D3, m3, rfl⟩ := ownsRow_form os.1
    exact ⟨_, _, _, _, _, _, rfl⟩
  have F4 : ∃ w4, w3.alloc (.cells #[.slice X1 r.webs.length d1, .slice X2 r.ribs.length d2, .slice X3 r.stacks.length d3, .bool r.coll] 36) = w4 ∧ Below w3.heap.size w3 w4 ∧ Blk w4 w3.heap.size 36 #[.slice X1 r.webs.length d1, .slice X2 r.ribs.length d2, .slice X3 r.stacks.length d3, .bool r.coll] :=
    ⟨_, rfl, (Below.refl _ _).alloc (Nat.le_refl _) _, Blk.new _ _ _⟩
  obtain ⟨w4, e4, hb4, O4⟩ := F4
  have E4 := Lib.hid e4
  have B4 := B3.trans (hb4.mono B3.size)
  have hrd := (hor.reads HSM.out).below hb4
  have HRD := Lib.hid (hrd.more hb4.size)
  have hboxes : ∀ X, Below w4.heap.size w4 X → Boxes w.heap.size w3.heap.size #[.slice A1 r.webs.length c1, .slice A2 r.ribs.length c2, .slice A3 r.stacks.length c3, .bool r.coll] #[.slice X1 r.webs.length d1, .slice X2 r.ribs.length d2, .slice X3 r.stacks.length d3, .bool r.coll] pc ps pi sw ss sr sc X := fun X hX => by
    have V3 := (HV1.out.below hb3 HV1.out.lt).below hb4 (Nat.lt_of_lt_of_le HV1.out.lt hb3.size)
    have P3 := (HP1.out.below hb3 HP1.out.lt).below hb4 (Nat.lt_of_lt_of_le HP1.out.lt hb3.size)
    have S3 := (HS1.out.below hb3 HS1.out.lt).below hb4 (Nat.lt_of_lt_of_le HS1.out.lt hb3.size)
    exact ⟨V3.below hX V3.lt, P3.below hX P3.lt, S3.below hX S3.lt, O4.below hX O4.lt⟩
  have HBX := Lib.hid hboxes
  have hv : ∀ X, Below w4.heap.size w4 X → X.cell? ⟨w.heap.size, 0, none⟩ = some (.slice A1 r.webs.length c1) ∧ X.cell? ⟨w.heap.size, 1, none⟩ = some (.slice A2 r.ribs.length c2) ∧ X.cell? ⟨w.heap.size, 2, none⟩ = some (.slice A3 r.stacks.length c3) ∧ X.cell? ⟨w.heap.size, 3, none⟩ = some (.bool r.coll) := fun X hX => by
    have k := (hboxes X hX).1
    exact ⟨cellOf k 0 rfl, cellOf k 1 rfl, cellOf k 2 rfl, cellOf k 3 rfl⟩
  have hx : ∀ X, Below w4.heap.size w4 X → X.cell? ⟨w3.heap.size, 0, none⟩ = some (.slice X1 r.webs.length d1) ∧ X.cell? ⟨w3.heap.size, 1, none⟩ = some (.slice X2 r.ribs.length d2) ∧ X.cell? ⟨w3.heap.size, 2, none⟩ = some (.slice X3 r.stacks.length d3) ∧ X.cell? ⟨w3.heap.size, 3, none⟩ = some (.bool r.coll) := fun X hX => by
    have k := (hboxes X hX).2.2.2
    exact ⟨cellOf k 0 rfl, cellOf k 1 rfl, cellOf k 2 rfl, cellOf k 3 rfl⟩
  have hp : ∀ X, Below w4.heap.size w4 X → X.cell? ⟨w.heap.size + 1, 0, none⟩ = some (.int .i64 pc) ∧ X.cell? ⟨w.heap.size + 1, 1, none⟩ = some (.int .i64 ps) ∧ X.cell? ⟨w.heap.size + 1, 2, none⟩ = some (.int .i64 pi) := fun X hX => by
    have k := (hboxes X hX).2.1
    exact ⟨cellOf k 0 rfl, cellOf k 1 rfl, cellOf k 2 rfl⟩
  have hs : ∀ X, Below w4.heap.size w4 X → X.cell? ⟨w.heap.size + 2, 0, none⟩ = some (.int .i64 sw) ∧ X.cell? ⟨w.heap.size + 2, 1, none⟩ = some (.int .i64 ss) ∧ X.cell? ⟨w.heap.size + 2, 2, none⟩ = some (.int .i64 sr) ∧ X.cell? ⟨w.heap.size + 2, 3, none⟩ = some (.int .i64 sc) := fun X hX => by
    have k := (hboxes X hX).2.2.1
    exact ⟨cellOf k 0 rfl, cellOf k 1 rfl, cellOf k 2 rfl, cellOf k 3 rfl⟩
  have hrx : ∀ X, Below w4.heap.size w4 X → RRun X.heap.size X (.agg #[.slice X1 r.webs.length d1, .slice X2 r.ribs.length d2, .slice X3 r.stacks.length d3, .bool r.coll]) r := fun X hX => (HRD.out.below hX).more hX.size
  have hrr : ∀ X, Below w4.heap.size w4 X → RRun X.heap.size X (.agg #[.slice A1 r.webs.length c1, .slice A2 r.ribs.length c2, .slice A3 r.stacks.length c3, .bool r.coll]) r := fun X hX => by
    have hB := B4.trans (hX.mono B4.size)
    exact (hrun.out.below hB).more hB.size
  have HV := Lib.hid hv
  have HX := Lib.hid hx
  have HP := Lib.hid hp
  have HS := Lib.hid hs
  have HRX := Lib.hid hrx
  have HRR := Lib.hid hrr
  obtain ⟨x0, x1, x2, x3⟩ := hx w4 (Below.refl _ _)
  clear v0 v1 v2 v3 C B0 B1 B3 hor hb3 hb4 e4 O4 hrd hboxes hv hx hp hs hrx hrr HV1 HP1 HS1
  have C := Lib.hid (Copies_any _ r w4 (HRX.out w4 (Below.refl _ _)))
  go_upto_region 4 with fail
  rw [E4.out]
  go_wp2_with fail
  refine C.out.mono ?_
  rintro e w5 ⟨ua, rfl, ha0, ha1, hb5⟩
  clear C x0 x1 x2 x3
  obtain ⟨v0, v1, v2, v3⟩ := HV.out w5 hb5
  have C := Lib.hid (refCopies_any HRC.out _ r w5 (HRR.out w5 hb5) HSM.out)
  go_wp2_with fail
  refine C.out.mono ?_
  rintro e w6 ⟨ub, rfl, hc0, hc1, hb6⟩
  have hB6 := hb5.trans (hb6.mono hb5.size)
  have hL : ∃ L, RPtss w6.heap.size w6 ua L ∧ RPtss w6.heap.size w6 ub L := by
    by_cases hck : checkE r = 0
    · exact ⟨copiesD r, ((ha0 hck).reads.below hb6).more hb6.size, (hc0 hck).reads⟩
    · rw [ha1 hck, hc1 hck]
      exact ⟨[], RPtss.nil, RPtss.nil⟩
  obtain ⟨L, hLa, hLb⟩ := hL
  have hC1 : ∀ X, Below w6.heap.size w6 X → Calls Try.prog 15 #[ua, ub] X fun e w' => e = .returned (.bool true) ∧ Below w6.heap.size w6 w' := fun X hX =>
    (sameCopies_any ua ub L L X ((hLa.below hX).more hX.size) ((hLb.below hX).more hX.size)).mono fun e w' he => ⟨he.1.trans (rb (decide_eq_true (rfl : L = L)).symm), hX.trans (he.2.mono hX.size)⟩
  have hC2 : ∀ X, Below w6.heap.size w6 X → Calls Try.prog 16 #[.agg #[.slice X1 r.webs.length d1, .slice X2 r.ribs.length d2, .slice X3 r.stacks.length d3, .bool r.coll]] X fun e w' => e = .returned (.int .i64 (checkE r)) ∧ Below w6.heap.size w6 w' := fun X hX =>
    (Check_any _ r X (HRX.out X (hB6.trans (hX.mono hB6.size)))).mono fun e w' he => ⟨he.1, hX.trans (he.2.mono hX.size)⟩
  have hC3 : ∀ X, Below w6.heap.size w6 X → Calls Try.prog 17 #[.agg #[.slice A1 r.webs.length c1, .slice A2 r.ribs.length c2, .slice A3 r.stacks.length c3, .bool r.coll]] X fun e w' => e = .returned (.int .i64 (checkE r)) ∧ Below w6.heap.size w6 w' := fun X hX =>
    (HRC.out _ r X (HRR.out X (hB6.trans (hX.mono hB6.size))) HSM.out).mono fun e w' he => ⟨he.1, hX.trans (he.2.mono hX.size)⟩
  have hF : ∀ X, Below w6.heap.size w6 X → X.cell? ⟨w.heap.size, 0, none⟩ = some (.slice A1 r.webs.length c1) ∧ X.cell? ⟨w.heap.size, 1, none⟩ = some (.slice A2 r.ribs.length c2) ∧ X.cell? ⟨w.heap.size, 2, none⟩ = some (.slice A3 r.stacks.length c3) ∧ X.cell? ⟨w.heap.size, 3, none⟩ = some (.bool r.coll) ∧ X.cell? ⟨w3.heap.size, 0, none⟩ = some (.slice X1 r.webs.length d1) ∧ X.cell? ⟨w3.heap.size, 1, none⟩ = some (.slice X2 r.ribs.length d2) ∧ X.cell? ⟨w3.heap.size, 2, none⟩ = some (.slice X3 r.stacks.length d3) ∧ X.cell? ⟨w3.heap.size, 3, none⟩ = some (.bool r.coll) := fun X hX => by
    have hX4 := hB6.trans (hX.mono hB6.size)
    obtain ⟨a0, a1, a2, a3⟩ := HV.out X hX4
    exact ⟨a0, a1, a2, a3, HX.out X hX4⟩
  obtain ⟨E, hE⟩ : ∃ E, checkE r = E := ⟨_, rfl⟩
  rw [hE] at hC2 hC3
  have HE := Lib.hid hE
  have HC1 := Lib.hid hC1
  have HC2 := Lib.hid hC2
  have HC3 := Lib.hid hC3
  have HF := Lib.hid hF
  have k0 : (E != E) = false := by simp
  rw [hE]
  clear C v0 v1 v2 v3 ha0 ha1 hc0 hc1 hb5 hb6 hLa hLb hC1 hC2 hC3 hF hE
  obtain ⟨v0, v1, v2, v3, x0, x1, x2, x3⟩ := HF.out w6 (Below.refl _ _)
  go_upto_region 6 with fail
  go_cut [57] (fun s57 wx => s57 = .bool false ∧ Below w6.heap.size w6 wx)
  case first =>
    go_region_held3 (fun X => X.cell? ⟨w.heap.size, 0, none⟩ = some (.slice A1 r.webs.length c1) ∧ X.cell? ⟨w.heap.size, 1, none⟩ = some (.slice A2 r.ribs.length c2) ∧ X.cell? ⟨w.heap.size, 2, none⟩ = some (.slice A3 r.stacks.length c3) ∧ X.cell? ⟨w.heap.size, 3, none⟩ = some (.bool r.coll) ∧ X.cell? ⟨w3.heap.size, 0, none⟩ = some (.slice X1 r.webs.length d1) ∧ X.cell? ⟨w3.heap.size, 1, none⟩ = some (.slice X2 r.ribs.length d2) ∧ X.cell? ⟨w3.heap.size, 2, none⟩ = some (.slice X3 r.stacks.length d3) ∧ X.cell? ⟨w3.heap.size, 3, none⟩ = some (.bool r.coll))
      (first | exact HF.out _ (by assumption) | exact HF.out _ (Below.refl _ _) | exact HF.out _ (Below.refl _ _).drew | go_keep)
      (first | (go_at_call 15; with_reducible refine (HC1.out _ ?_).mono ?_; (first | assumption | exact Below.refl _ _ | exact (Below.refl _ _).drew); rintro e w7 ⟨rfl, h7⟩) | (go_at_call 16; with_reducible refine (HC2.out _ ?_).mono ?_; (first | assumption | exact Below.refl _ _ | exact (Below.refl _ _).drew); rintro e w7 ⟨rfl, h7⟩) | (go_at_call 17; with_reducible refine (HC3.out _ ?_).mono ?_; (first | assumption | exact Below.refl _ _ | exact (Below.refl _ _).drew); rintro e w7 ⟨rfl, h7⟩))
    all_goals
      go_wp2_with fail
      go_meet
      first | exact ⟨rfl, h7⟩ | exact ⟨rfl, h7.drew⟩ | exact ⟨rfl, by assumption⟩
  case rest =>
  obtain ⟨rfl, hb7⟩ := hcut
  obtain ⟨w7, rfl⟩ : ∃ w7, w7 = wc := ⟨wc, rfl⟩
  have hB7 := hB6.trans (hb7.mono hB6.size)
  clear v0 v1 v2 v3 x0 x1 x2 x3 hb7 HC1 HC2 HC3 HF hB6
  -- the sizes
  obtain ⟨x0, x1, x2, x3⟩ := HX.out w7 hB7
  have C := Lib.hid (Sizes_any _ r w7 (HRX.out w7 hB7))
  go_wp2_with fail
  refine C.out.mono ?_
  rintro e w8 ⟨uc, rfl, ha0, ha1, hb8⟩
  have hB8 := hB7.trans (hb8.mono hB7.size)
  clear C x0 x1 x2 x3
  obtain ⟨v0, v1, v2, v3⟩ := HV.out w8 hB8
  have C := Lib.hid (refSizes_any HRC.out _ r w8 (HRR.out w8 hB8) HSM.out)
  go_wp2_with fail
  refine C.out.mono ?_
  rintro e w9 ⟨ud, rfl, hc0, hc1, hb9⟩
  have hB9 := hB8.trans (hb9.mono hB8.size)
  have hL : ∃ L, RInts w9.heap.size w9 uc L ∧ RInts w9.heap.size w9 ud L := by
    by_cases hck : checkE r = 0
    · exact ⟨sizesD r, Rd.more (Rd.below (Rd.own (ha0 hck) (own_le (ha0 hck))) hb9) hb9.size, Rd.own (hc0 hck) (own_le (hc0 hck))⟩
    · rw [ha1 hck, hc1 hck]
      exact ⟨[], Rd.nil, Rd.nil⟩
  obtain ⟨L2, hLa, hLb⟩ := hL
  have C2 := Lib.hid ((sameInts_any uc ud L2 L2 w9 hLa hLb).mono fun e w' he => (⟨he.1.trans (rb (decide_eq_true (rfl : L2 = L2)).symm), he.2⟩ : e = .returned (.bool true) ∧ Below w9.heap.size w9 w'))
  rw [HE.out]
  clear C v0 v1 v2 v3 ha0 ha1 hc0 hc1 hb8 hb9 hLa hLb hB7 hB8
  go_wp2_with fail
  refine C2.out.mono ?_
  rintro e w10 ⟨rfl, hb10⟩
  have hB10 := hB9.trans (hb10.mono hB9.size)
  clear C2 hb10 hB9
  -- the place of the spot
  obtain ⟨tw, ts, tr, tc, we, hwd⟩ : ∃ tw ts tr tc we, whereD r ⟨pc, ps, pi⟩ = (⟨tw, ts, tr, tc⟩, we) := ⟨_, _, _, _, _, rfl⟩
  obtain ⟨x0, x1, x2, x3⟩ := HX.out w10 hB10
  obtain ⟨p0, p1, p2⟩ := HP.out w10 hB10
  have hw1 := where_any _ r ⟨pc, ps, pi⟩ w10 (HRX.out w10 hB10)
  rw [hwd] at hw1
  simp only [spotRet, SpotD.val] at hw1
  have C := Lib.hid hw1
  clear hw1
  go_wp2_with fail
  refine C.out.mono ?_
  rintro e w11 ⟨rfl, hb11⟩
  have hB11 := hB10.trans (hb11.mono hB10.size)
  have F12 : ∃ w12, w11.alloc (.cells #[.int .i64 tw, .int .i64 ts, .int .i64 tr, .int .i64 tc] 53) = w12 ∧ Below w11.heap.size w11 w12 ∧ Blk w12 w11.heap.size 53 #[.int .i64 tw, .int .i64 ts, .int .i64 tr, .int .i64 tc] := ⟨_, rfl, (Below.refl _ _).alloc (Nat.le_refl _) _, Blk.new _ _ _⟩
  obtain ⟨w12, e12, hb12, T12⟩ := F12
  have E12 := Lib.hid e12
  have hB12 := hB11.trans (hb12.mono hB11.size)
  clear C x0 x1 x2 x3 p0 p1 p2 hb11 e12
  obtain ⟨v0, v1, v2, v3⟩ := HV.out w12 hB12
  obtain ⟨p0, p1, p2⟩ := HP.out w12 hB12
  have hw1 := refWhere_any HRC.out _ r ⟨pc, ps, pi⟩ w12 (HRR.out w12 hB12) HSM.out
  rw [hwd] at hw1
  simp only [spotRet, SpotD.val] at hw1
  have C := Lib.hid hw1
  have HT12 := Lib.hid T12
  clear hw1 hb12 T12
  go_upto_region 13 with fail
  rw [E12.out]
  go_wp2_with fail
  refine C.out.mono ?_
  rintro e w13 ⟨rfl, hb13⟩
  have hB13 := hB12.trans (hb13.mono hB12.size)
  have F14 : ∃ w14, w13.alloc (.cells #[.int .i64 tw, .int .i64 ts, .int .i64 tr, .int .i64 tc] 30) = w14 ∧ Below w13.heap.size w13 w14 ∧ Blk w14 w13.heap.size 30 #[.int .i64 tw, .int .i64 ts, .int .i64 tr, .int .i64 tc] := ⟨_, rfl, (Below.refl _ _).alloc (Nat.le_refl _) _, Blk.new _ _ _⟩
  obtain ⟨w14, e14, hb14, U14⟩ := F14
  have E14 := Lib.hid e14
  have hB14 := hB13.trans (hb14.mono hB13.size)
  have T14 := (HT12.out.below hb13 HT12.out.lt).below hb14 (Nat.lt_of_lt_of_le HT12.out.lt hb13.size)
  have t0 := cellOf T14 0 (x := .int .i64 tw) rfl
  have t1 := cellOf T14 1 (x := .int .i64 ts) rfl
  have t2 := cellOf T14 2 (x := .int .i64 tr) rfl
  have t3 := cellOf T14 3 (x := .int .i64 tc) rfl
  have u0 := cellOf U14 0 (x := .int .i64 tw) rfl
  have u1 := cellOf U14 1 (x := .int .i64 ts) rfl
  have u2 := cellOf U14 2 (x := .int .i64 tr) rfl
  have u3 := cellOf U14 3 (x := .int .i64 tc) rfl
  have he := fun W => eqSpotR tw ts tr tc W
  have kw : (we != we) = false := by simp
  clear C v0 v1 v2 v3 p0 p1 p2 hb13 hb14 e14 T14 U14 HT12 hB10 hB11 hB12 hB13 hwd
  -- the spot of the place
  obtain ⟨qc, qs, qi, fe, hfd⟩ : ∃ qc qs qi fe, followD r ⟨sw, ss, sr, sc⟩ = (⟨qc, qs, qi⟩, fe) := ⟨_, _, _, _, rfl⟩
  obtain ⟨x0, x1, x2, x3⟩ := HX.out w14 hB14
  obtain ⟨s0, s1, s2, s3⟩ := HS.out w14 hB14
  have hw1 := Follow_any _ r ⟨sw, ss, sr, sc⟩ w14 (HRX.out w14 hB14)
  rw [hfd] at hw1
  simp only [placeRet, PlaceD.val] at hw1
  have C := Lib.hid hw1
  clear hw1
  go_upto_region 14 with fail
  rw [E14.out]
  go_wp2_with fail
  refine C.out.mono ?_
  rintro e w15 ⟨rfl, hb15⟩
  have hB15 := hB14.trans (hb15.mono hB14.size)
  have F16 : ∃ w16, w15.alloc (.cells #[.int .i64 qc, .int .i64 qs, .int .i64 qi] 56) = w16 ∧ Below w15.heap.size w15 w16 ∧ Blk w16 w15.heap.size 56 #[.int .i64 qc, .int .i64 qs, .int .i64 qi] := ⟨_, rfl, (Below.refl _ _).alloc (Nat.le_refl _) _, Blk.new _ _ _⟩
  obtain ⟨w16, e16, hb16, T16⟩ := F16
  have E16 := Lib.hid e16
  have hB16 := hB15.trans (hb16.mono hB15.size)
  have HT16 := Lib.hid T16
  clear C x0 x1 x2 x3 s0 s1 s2 s3 t0 t1 t2 t3 u0 u1 u2 u3 he kw hb15 hb16 e16 T16
  obtain ⟨v0, v1, v2, v3⟩ := HV.out w16 hB16
  obtain ⟨s0, s1, s2, s3⟩ := HS.out w16 hB16
  have hw1 := refFollow_any HRC.out _ r ⟨sw, ss, sr, sc⟩ w16 (HRR.out w16 hB16) HSM.out
  rw [hfd] at hw1
  simp only [placeRet, PlaceD.val] at hw1
  have C := Lib.hid hw1
  clear hw1
  go_upto_region 17 with fail
  rw [E16.out]
  go_wp2_with fail
  refine C.out.mono ?_
  rintro e w17 ⟨rfl, hb17⟩
  have hB17 := hB16.trans (hb17.mono hB16.size)
  have F18 : ∃ w18, w17.alloc (.cells #[.int .i64 qc, .int .i64 qs, .int .i64 qi] 28) = w18 ∧ Below w17.heap.size w17 w18 ∧ Blk w18 w17.heap.size 28 #[.int .i64 qc, .int .i64 qs, .int .i64 qi] := ⟨_, rfl, (Below.refl _ _).alloc (Nat.le_refl _) _, Blk.new _ _ _⟩
  obtain ⟨w18, e18, hb18, U18⟩ := F18
  have E18 := Lib.hid e18
  have hB18 := hB17.trans (hb18.mono hB17.size)
  have T18 := (HT16.out.below hb17 HT16.out.lt).below hb18 (Nat.lt_of_lt_of_le HT16.out.lt hb17.size)
  have t0 := cellOf T18 0 (x := .int .i64 qc) rfl
  have t1 := cellOf T18 1 (x := .int .i64 qs) rfl
  have t2 := cellOf T18 2 (x := .int .i64 qi) rfl
  have u0 := cellOf U18 0 (x := .int .i64 qc) rfl
  have u1 := cellOf U18 1 (x := .int .i64 qs) rfl
  have u2 := cellOf U18 2 (x := .int .i64 qi) rfl
  have he := fun W => eqPlaceR qc qs qi W
  have kw : (fe != fe) = false := by simp
  clear C v0 v1 v2 v3 s0 s1 s2 s3 hb17 hb18 e18 T18 U18 HT16 hB14 hB15 hB16 hB17 hfd
  -- what is ganged
  obtain ⟨x0, x1, x2, x3⟩ := HX.out w18 hB18
  have C := Lib.hid (Ganged_any _ r w18 (HRX.out w18 hB18))
  go_upto_region 18 with fail
  rw [E18.out]
  go_wp2_with fail
  refine C.out.mono ?_
  rintro e w19 ⟨ug, rfl, ha0, ha1, hb19⟩
  have hB19 := hB18.trans (hb19.mono hB18.size)
  clear C x0 x1 x2 x3 t0 t1 t2 u0 u1 u2 he kw
  obtain ⟨v0, v1, v2, v3⟩ := HV.out w19 hB19
  have C := Lib.hid (refGanged_any HRC.out _ r w19 (HRR.out w19 hB19) HSM.out)
  go_wp2_with fail
  refine C.out.mono ?_
  rintro e w20 ⟨uh, rfl, hc0, hc1, hb20⟩
  have hB20 := hB19.trans (hb20.mono hB19.size)
  have hL : ∃ L, RPls w20.heap.size w20 ug L ∧ RPls w20.heap.size w20 uh L := by
    by_cases hck : checkE r = 0
    · exact ⟨gangedD r, Rd.more (Rd.below (Rd.own (ha0 hck) (own_le (ha0 hck))) hb20) hb20.size, Rd.own (hc0 hck) (own_le (hc0 hck))⟩
    · rw [ha1 hck, hc1 hck]
      exact ⟨[], Rd.nil, Rd.nil⟩
  obtain ⟨G, hLa, hLb⟩ := hL
  obtain ⟨A8, c8, rfl, hGl, hA8⟩ := hLa.open_
  obtain ⟨A9, c9, rfl, -, hA9⟩ := hLb.open_
  have HA8 := Lib.hid hA8
  have HA9 := Lib.hid hA9
  have kG : ((G.length : Int) != (G.length : Int)) = false := by simp
  rw [HE.out]
  clear C v0 v1 v2 v3 ha0 ha1 hc0 hc1 hb19 hb20 hLa hLb hA8 hA9 hB18 hB19
  go_wp2
  clear kG
  go_loopw [22] (fun i wr => ∃ i' : Nat, i' ≤ G.length ∧ i = .int .i64 i' ∧ Below w20.heap.size w20 wr) (fun i _ => G.length - (intOf i).toNat)
  case atStart => exact ⟨0, Nat.zero_le _, rfl, Below.refl _ _⟩
  case round =>
    obtain ⟨i, hi, rfl, hC⟩ := hrel
    have hB := hB20.trans (hC.mono hB20.size)
    by_cases hli : i < G.length
    case pos =>
      obtain ⟨⟨gc, gs, gi⟩, hg⟩ : ∃ p, G[i]? = some p := ⟨_, List.getElem?_eq_getElem hli⟩
      obtain ⟨g8, o8, rfl, h8⟩ := HA8.out i _ hg
      obtain ⟨g9, o9, rfl, h9⟩ := HA9.out i _ hg
      obtain ⟨m0, m1, m2⟩ := h8 wr hC
      obtain ⟨n0, n1, n2⟩ := h9 wr hC
      dsimp only at m0 m1 m2 n0 n1 n2
      have he := fun W => eqPlaceR gc gs gi W
      have hii : (i : Int) < (G.length : Int) := by omega
      have HBD : ∀ n, Below w20.heap.size w20 (wr.drewN n) := fun n => below_drewN hC n
      clear hg h8 h9
      go_upto_region 27 with fail
      go_quiet (fail)
      go_wp2
      go_roundw
      case rel => exact ⟨i + 1, by omega, by go_num, HBD _⟩
      case measure => (simp [intOf]) <;> omega
    obtain ⟨x0, x1, x2, x3⟩ := HX.out wr hB
    obtain ⟨ca, cb, ce, hcut⟩ := cut_form r n
    have C := Cut_any _ r n wr (HRX.out wr hB)
    rw [hcut] at C
    have C1 := Lib.hid C
    clear C
    go_wp2_with fail
    refine C1.out.mono ?_
    rintro e w21 ⟨rfl, hb21⟩
    have hB21 := hB.trans (hb21.mono hB.size)
    clear C1 x0 x1 x2 x3 hb21 hB hC
    obtain ⟨v0, v1, v2, v3⟩ := HV.out w21 hB21
    have C := refCut_any HRC.out _ r n w21 (HRR.out w21 hB21) HSM.out
    rw [hcut] at C
    have C1 := Lib.hid C
    clear C hcut
    go_wp2_with fail
    refine C1.out.mono ?_
    rintro e w22 ⟨rfl, hb22⟩
    have hB22 := hB21.trans (hb22.mono hB21.size)
    clear C1 v0 v1 v2 v3 hb22 hB21
    obtain ⟨x0, x1, x2, x3⟩ := HX.out w22 hB22
    obtain ⟨v0, v1, v2, v3⟩ := HV.out w22 hB22
    have k1 : (ca == ca) = true := by simp
    have k2 : (cb == cb) = true := by simp
    have k3 : (ce == ce) = true := by simp
    have C := Lib.hid ((Same_any _ _ r r w22 (HRX.out w22 hB22) (HRR.out w22 hB22)).mono fun e w' he => (⟨he.1.trans (rb (decide_eq_true (rfl : r = r)).symm), he.2⟩ : e = .returned (.bool true) ∧ Below w22.heap.size w22 w'))
    go_wp2_with fail
    refine C.out.mono ?_
    rintro e w23 ⟨rfl, hb23⟩
    have hB23 := hB22.trans (hb23.mono hB22.size)
    have BF := B4.trans (hB23.mono B4.size)
    clear C x0 x1 x2 x3 v0 v1 v2 v3 hb23 hB22 hB23
    go_wp2_with fail
    refine (awake_any _).mono ?_
    rintro e w24 ⟨rfl, hb24⟩
    go_wp2
    go_ret
    exact ⟨rfl, BF.trans (hb24.mono BF.size)⟩
end Go.Proofs.Ytdbfhdncjblleaa
