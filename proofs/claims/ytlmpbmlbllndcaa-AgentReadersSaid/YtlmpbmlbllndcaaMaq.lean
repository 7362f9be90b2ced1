/-
  settle, Settle.
-/
import Derived.Test.YtlmpbmlbllndcaaMap
namespace Go.Proofs.Ytlmpbmlbllndcaa
open Go.RowKit
attribute [local go_sem] Oper.semAt_some

/-- What was supplied on the first k days, what of it came back in time, and late. -/
def supK (l : List DayD) (k : Nat) : Int := supTo (l.take k)
def latK (m : List Int) (k : Nat) : Int := sumI (m.take k)
def inK (l : List DayD) (m : List Int) (k : Nat) : Int := retTo (l.take k) - sumI (m.take k)
/-- The lines of an account of an agent, and their sum. -/
def setL (t : TarD) (l : List DayD) (m : List Int) : List LineD :=
  [⟨1, supTo l, supTo l * t.price⟩, ⟨2, retTo l - sumI m, (retTo l - sumI m) * -t.back⟩, ⟨3, sumI m, sumI m * -t.late⟩]
def setS (t : TarD) (l : List DayD) (m : List Int) : Int := supTo l * t.price + (retTo l - sumI m) * -t.back + sumI m * -t.late
theorem sumI_app (a b : List Int) : sumI (a ++ b) = sumI a + sumI b := by
  induction a with
  | nil => simp [sumI]
  | cons x a ih => rw [List.cons_append, sumI_cons, sumI_cons, ih]; omega
theorem sums_next {l : List DayD} {m : List Int} {k : Nat} {x : DayD} {y : Int} (hx : l[k]? = some x) (hy : m[k]? = some y) : supK l (k + 1) = supK l k + x.sup ∧ inK l m (k + 1) = inK l m k + (x.ret - y) ∧ latK m (k + 1) = latK m k + y := by
  unfold supK inK latK supTo retTo
  rw [List.take_add_one, hx, List.take_add_one, hy]
  simp only [Option.toList_some, List.map_append, sumI_app, List.map_cons, List.map_nil, sumI_cons, show sumI [] = 0 from rfl]
  omega
theorem sums_bd {l : List DayD} {m : List Int} (hl : l.length ≤ 400) (hd : ∀ d ∈ l, d.ok) (hm : m.length = l.length) (hb : lateB l m = true) : ∀ k, k ≤ l.length → (0 ≤ supK l k ∧ supK l k ≤ 10000 * k) ∧ (0 ≤ inK l m k ∧ inK l m k ≤ 10000 * k) ∧ (0 ≤ latK m k ∧ latK m k ≤ 10000 * k)
  | 0, _ => by simp [supK, inK, latK, supTo, retTo, sumI]
  | k + 1, h => by
    have ih := sums_bd hl hd hm hb k (by omega)
    have hx : l[k]? = some l[k] := List.getElem?_eq_getElem (by omega)
    have hy : m[k]? = some m[k] := List.getElem?_eq_getElem (by omega)
    obtain ⟨h1, h2, h3⟩ := sums_next hx hy
    obtain ⟨d1, d2, d3, d4⟩ := hd l[k] (List.getElem_mem _)
    have hz := List.all_eq_true.1 hb _ (List.mem_of_getElem? (zip_get hx hy))
    have hz' := inB_iff.1 hz
    simp only at hz'
    rw [h1, h2, h3]
    push_cast
    omega
theorem AcSt.far {base Ab Pb b : Nat} {l : List LineD} {s : Int} {v : Value} {Y Z : World} {ty : TypeId} {cs : Array Value} (h : AcSt base Ab Pb l s v Y) (hK : KeptBut (fun j => j = Ab ∨ some j = v.ownBlock) Y Z) (hB : Blk Y b ty cs) (hb : b ≠ Ab) (ht : ty ≠ 84) : Blk Z b ty cs := hK.blk hB fun e => by
  rcases e with e | e
  · exact hb e
  · obtain ⟨-, cs', hB'⟩ := ownsRow_own h.row e.symm
    exact Blk.ne hB hB' ht rfl
theorem AcSt.belowK {base Ab Pb B : Nat} {l : List LineD} {s : Int} {v : Value} {Y Z : World} (h : AcSt base Ab Pb l s v Y) (hK : KeptBut (fun j => j = Ab ∨ some j = v.ownBlock) Y Z) (h1 : B ≤ Ab) (h2 : B ≤ base) (h3 : B ≤ Y.heap.size) : Below B Y Z := hK.below (fun j hj => by
  rcases hj with rfl | e
  · exact h1
  · exact Nat.le_trans h2 (ownsRow_own h.row e.symm).1) h3
/-- What settle answers. -/
def SetRet (t : TarD) (l : List DayD) (m : List Int) (w : World) (e : Ending) (w' : World) : Prop := ∃ A c, e = .returned (.agg #[.slice A 3 c, .int .i64 (setS t l m)]) ∧ Hid (OLines w.heap.size w' (.slice A 3 c) (setL t l m)) ∧ Hid (Below w.heap.size w w')

set_option maxRecDepth 1000000 in
set_option maxHeartbeats 4000000 in
theorem settle_any (t : TarD) (ht : t.okB = true) (l : List DayD) (m : List Int) (hl : l.length ≤ 400) (hd : ∀ d ∈ l, d.ok) (hml : m.length = l.length) (hlb : lateB l m = true) (v vm : Value) (w : World) (h : RDays w.heap.size w v l) (hm : RInts w.heap.size w vm m) :
    Calls Try.prog 95 #[.agg #[.int .i64 t.price, .int .i64 t.back, .int .i64 t.late, .int .i64 t.carry, .int .i64 t.credit], v, vm] w (SetRet t l m w) := by
  obtain ⟨A, c, rfl, hlm, HD⟩ := days_later h
  obtain ⟨A2, c2, rfl, hmm, HI⟩ := ints_later hm
  obtain ⟨n, hn⟩ : ∃ n, l.length = n := ⟨_, rfl⟩
  have hn2 : m.length = n := by rw [hml, hn]
  have HBD : Hid (∀ k, k ≤ n → (0 ≤ supK l k ∧ supK l k ≤ 10000 * k) ∧ (0 ≤ inK l m k ∧ inK l m k ≤ 10000 * k) ∧ (0 ≤ latK m k ∧ latK m k ≤ 10000 * k)) := fun k hk => sums_bd hl hd hml hlb k (by rw [hn]; exact hk)
  have HDO := Lib.hid hd
  have HSF : Hid (setL t l m = [⟨1, supK l n, supK l n * t.price⟩, ⟨2, inK l m n, inK l m n * -t.back⟩, ⟨3, latK m n, latK m n * -t.late⟩] ∧ setS t l m = supK l n * t.price + inK l m n * -t.back + latK m n * -t.late) := by
    unfold supK inK latK
    rw [List.take_of_length_le (by omega), List.take_of_length_le (by omega)]
    exact ⟨rfl, rfl⟩
  have HLB : Hid (∀ (k : Nat) (x : DayD) (y : Int), l[k]? = some x → m[k]? = some y → 0 ≤ y ∧ y ≤ x.ret) := fun k x y hx hy => inB_iff.1 (List.all_eq_true.1 hlb _ (List.mem_of_getElem? (zip_get hx hy)))
  rw [hn] at hlm hl ⊢
  rw [hn2] at hmm ⊢
  have HN := Lib.hid hn
  have HN2 := Lib.hid hn2
  have HT := Lib.hid (TarD.okB_iff.1 ht)
  have F0 : ∃ W0, (w.alloc (.cells #[.int .i64 t.price, .int .i64 t.back, .int .i64 t.late, .int .i64 t.carry, .int .i64 t.credit] 37)).alloc (.cells #[.slice none 0 0, .int .i64 0] 80) = W0 ∧ Hid (Below w.heap.size w W0) ∧ Hid (Blk W0 w.heap.size 37 #[.int .i64 t.price, .int .i64 t.back, .int .i64 t.late, .int .i64 t.carry, .int .i64 t.credit] ∧ Blk W0 (w.heap.size + 1) 80 #[.slice none 0 0, .int .i64 0]) :=
    ⟨_, rfl, sbelow_al (below_alloc _ _) _, (Blk.new _ _ _).alloc _, blk_new (by simp) _ _⟩
  obtain ⟨W0, e0, HB0, HK0⟩ := F0
  have E0 := Lib.hid e0
  obtain ⟨p, hp⟩ : ∃ p, w.heap.size = p := ⟨_, rfl⟩
  have HP := Lib.hid hp
  clear h hm hn hn2 ht hd hml hlb e0 hp
  go_enter Try.func95, Try.ntmps95
  go_upto_region 1 with fail
  rw [E0.out]
  clear E0
  rw [HP.out]
  go_wp2_with fail
  go_loopw [7, 8, 9, 16] (fun q1 q2 q3 i wr => ∃ k : Nat, k ≤ n ∧ i = .int .i64 k ∧ ∃ s1 s2 s3 : Int, q1 = .int .i64 s1 ∧ q2 = .int .i64 s2 ∧ q3 = .int .i64 s3 ∧ Hid (s1 = supK l k ∧ s2 = inK l m k ∧ s3 = latK m k) ∧ Hid (Below W0.heap.size W0 wr)) (fun _ _ _ i _ => n - (intOf i).toNat)
  case atStart => exact ⟨0, Nat.zero_le _, rfl, 0, 0, 0, rfl, rfl, rfl, ⟨rfl, rfl, rfl⟩, Below.refl _ _⟩
  case round =>
  obtain ⟨k, hk, rfl, s1, s2, s3, rfl, rfl, rfl, hs, hB⟩ := hrel
  obtain ⟨X, rfl⟩ : ∃ X : World, X = wr := ⟨_, rfl⟩
  have HBX : Hid (Below w.heap.size w X) := HB0.out.trans (hB.out.mono HB0.out.size)
  obtain ⟨⟨u1, u2⟩, ⟨u3, u4⟩, u5, u6⟩ := HBD.out k hk
  rw [← hs.out.1] at u1 u2
  rw [← hs.out.2.1] at u3 u4
  rw [← hs.out.2.2] at u5 u6
  by_cases hlt : k < n
  · obtain ⟨x, hx⟩ : ∃ x, l[k]? = some x := ⟨_, List.getElem?_eq_getElem (by rw [HN.out]; exact hlt)⟩
    obtain ⟨y, hy⟩ : ∃ y, m[k]? = some y := ⟨_, List.getElem?_eq_getElem (by rw [HN2.out]; exact hlt)⟩
    obtain ⟨g, o, rfl, HX⟩ := HD.out k x hx
    obtain ⟨g2, o2, rfl, HY⟩ := HI.out k y hy
    obtain ⟨c0, c1⟩ := HX.out X HBX.out
    obtain ⟨y1, y2⟩ := HLB.out k x y hx hy
    obtain ⟨x1, x2, x3, x4⟩ := HDO.out x (List.mem_of_getElem? hx)
    have F1 : ∃ X1, X.alloc (.cells #[.int .i64 x.sup, .int .i64 x.ret] 24) = X1 ∧ Hid (Below X.heap.size X X1) ∧ Hid (Blk X1 X.heap.size 24 #[.int .i64 x.sup, .int .i64 x.ret]) := ⟨_, rfl, below_alloc _ _, Blk.new _ _ _⟩
    obtain ⟨X1, e1, HX1, HK1⟩ := F1
    have E1 := Lib.hid e1
    have HB1 : Hid (Below W0.heap.size W0 X1) := hB.out.trans (HX1.out.mono hB.out.size)
    have HBW1 : Hid (Below w.heap.size w X1) := HB0.out.trans (HB1.out.mono HB0.out.size)
    obtain ⟨q, hq⟩ : ∃ q, X.heap.size = q := ⟨_, rfl⟩
    rw [hq] at HK1
    have HQ := Lib.hid hq
    have HC1 : Hid (∀ Y, Below X1.heap.size X1 Y → Y.cell? ⟨q, 0, none⟩ = some (.int .i64 x.sup) ∧ Y.cell? ⟨q, 1, none⟩ = some (.int .i64 x.ret) ∧ Y.cell? ⟨g2, o2 + k, none⟩ = some (.int .i64 y)) := fun Y hY => by
      have h1 := HK1.out.below hY HK1.out.lt
      exact ⟨cellOf h1 0 rfl, cellOf h1 1 rfl, HY.out Y (HBW1.out.trans (hY.mono HBW1.out.size))⟩
    obtain ⟨d0, d1, y0⟩ := HC1.out X1 (Below.refl _ _)
    have HNX : Hid (s1 + x.sup = supK l (k + 1) ∧ s2 + (x.ret - y) = inK l m (k + 1) ∧ s3 + y = latK m (k + 1)) := by
      obtain ⟨h1, h2, h3⟩ := sums_next hx hy
      rw [h1, h2, h3, hs.out.1, hs.out.2.1, hs.out.2.2]
      exact ⟨rfl, rfl, rfl⟩
    have k0 : (0 : Int) ≤ (k : Int) := by omega
    have k1 : (k : Int) < (n : Int) := by omega
    clear hx hy e1 hB HX HY hs HX1 HK1 hq
    go_upto_region 5 with fail
    rw [E1.out, HQ.out]
    clear E1 c0 c1
    go_upto_region 6 with fail
    have m1 : IntKind.i64.wrap (x.ret - y) = x.ret - y := IntWalk.i64_in _ ⟨by omega, by omega⟩
    have m2 : IntKind.i64.wrap (s2 + (x.ret - y)) = s2 + (x.ret - y) := IntWalk.i64_in _ ⟨by omega, by omega⟩
    go_cut [8] from 25 to 33 (fun z wx => z = .int .i64 (s2 + (x.ret - y)) ∧ Hid (Below X1.heap.size X1 wx))
    case first =>
      have HDN : Hid (∀ nq, Below X1.heap.size X1 (X1.drewN nq)) := fun nq => below_drewN (Below.refl _ _) nq
      go_quiet (fail)
      clear m1 m2
      go_wp2_with fail
      go_meet
      exact ⟨rfl, HDN.out _⟩
    case rest =>
    clear d0 d1 y0 m1 m2
    obtain ⟨rfl, HY2⟩ := hcut
    obtain ⟨Y, rfl⟩ : ∃ X : World, X = wc := ⟨_, rfl⟩
    have HBY : Hid (Below W0.heap.size W0 Y) := HB1.out.trans (HY2.out.mono HB1.out.size)
    obtain ⟨d0, d1, y0⟩ := HC1.out Y HY2.out
    go_wp2_with fail
    clear d0 d1 y0
    go_roundw
    case rel => exact ⟨k + 1, by omega, by go_num, _, _, _, rfl, rfl, rfl, HNX.out, HBY⟩
    case measure => simp [intOf]; omega
  · have hkn : k = n := by omega
    have HS : Hid (setL t l m = [⟨1, s1, s1 * t.price⟩, ⟨2, s2, s2 * -t.back⟩, ⟨3, s3, s3 * -t.late⟩] ∧ setS t l m = s1 * t.price + s2 * -t.back + s3 * -t.late) := by
      rw [HSF.out.1, HSF.out.2, ← hkn, ← hs.out.1, ← hs.out.2.1, ← hs.out.2.2]
      exact ⟨rfl, rfl⟩
    obtain ⟨⟨t1, t2⟩, ⟨t3, t4⟩, ⟨t5, t6⟩, -, -⟩ := HT.out
    have a1 : 0 ≤ s1 * t.price ∧ s1 * t.price ≤ 40000000000 := ⟨Int.mul_nonneg (by omega) (by omega), Int.le_trans (Int.mul_le_mul (show s1 ≤ 4000000 by omega) t2 (by omega) (by omega)) (by omega)⟩
    have a2 : 0 ≤ s2 * t.back ∧ s2 * t.back ≤ 40000000000 := ⟨Int.mul_nonneg (by omega) (by omega), Int.le_trans (Int.mul_le_mul (show s2 ≤ 4000000 by omega) (show t.back ≤ 10000 by omega) (by omega) (by omega)) (by omega)⟩
    have a3 : 0 ≤ s3 * t.late ∧ s3 * t.late ≤ 40000000000 := ⟨Int.mul_nonneg (by omega) (by omega), Int.le_trans (Int.mul_le_mul (show s3 ≤ 4000000 by omega) (show t.late ≤ 10000 by omega) (by omega) (by omega)) (by omega)⟩
    have a2' : s2 * -t.back = -(s2 * t.back) := by rw [Int.mul_neg]
    have a3' : s3 * -t.late = -(s3 * t.late) := by rw [Int.mul_neg]
    have HA1 := Lib.hid a1
    have HA2 : Hid (-40000000000 ≤ s2 * -t.back ∧ s2 * -t.back ≤ 0) := by rw [a2']; exact ⟨by omega, by omega⟩
    have HA3 : Hid (-40000000000 ≤ s3 * -t.late ∧ s3 * -t.late ≤ 0) := by rw [a3']; exact ⟨by omega, by omega⟩
    clear a1 a2 a3 a2' a3' hs hkn
    have F2 : ∃ XA, X.alloc (.cells #[.slice none 0 0, .int .i64 0] 80) = XA ∧ Hid (Below X.heap.size X XA) ∧ Hid (Blk XA X.heap.size 80 #[.slice none 0 0, .int .i64 0]) ∧ XA.heap.size = X.heap.size + 1 := ⟨_, rfl, below_alloc _ _, Blk.new _ _ _, by simp⟩
    obtain ⟨XA, e2, HXA, HKA, hza⟩ := F2
    have E2 := Lib.hid e2
    have CA := Lib.hid (adder_any X.heap.size XA)
    obtain ⟨q, hq⟩ : ∃ q, X.heap.size = q := ⟨_, rfl⟩
    obtain ⟨pb, hpb⟩ : ∃ pb, XA.heap.size = pb := ⟨_, rfl⟩
    have F3 : ∃ X2, XA.alloc (.cells #[.pointer (some ⟨q, 0, none⟩)] 228) = X2 ∧ Hid (Below X.heap.size X X2) ∧ Hid (AcSt q q pb [] 0 (.slice none 0 0) X2) := by
      refine ⟨_, rfl, sbelow_al HXA.out _, ?_, blk_new hpb _ _, World.ownsRow_nil _ _ _ _⟩
      rw [← hq]
      exact HKA.out.alloc _
    obtain ⟨X2, e3, HX2, HS2⟩ := F3
    rw [hq, hpb, e3] at CA
    have HQ := Lib.hid hq
    have HQ2 : Hid (w.heap.size ≤ q ∧ p + 1 < q ∧ q ≤ X2.heap.size) := by
      have h1 := HK0.out.2.lt
      have h2 := hB.out.size
      rw [HP.out] at h1
      exact ⟨by rw [← hq]; exact HBX.out.size, by rw [← hq]; omega, by rw [← hq]; exact HX2.out.size⟩
    have HBX2 : Hid (Below w.heap.size w X2) := HBX.out.trans (HX2.out.mono HBX.out.size)
    have HTB2 : Hid (Blk X2 p 37 #[.int .i64 t.price, .int .i64 t.back, .int .i64 t.late, .int .i64 t.carry, .int .i64 t.credit] ∧ Blk X2 (p + 1) 80 #[.slice none 0 0, .int .i64 0]) := by
      have h1 : Below W0.heap.size W0 X2 := hB.out.trans (HX2.out.mono hB.out.size)
      rw [← HP.out]
      exact ⟨HK0.out.1.below h1 HK0.out.1.lt, HK0.out.2.below h1 HK0.out.2.lt⟩
    clear e2 e3 hq hpb hza HXA HKA hB HX2 HBX HT
    go_upto_region 10 with fail
    rw [E2.out, HQ.out]
    clear E2
    go_wp2_with fail
    refine CA.out.mono ?_
    rintro _ _ ⟨rfl, rfl⟩
    clear CA
    have C1 := Lib.hid (add_any (base := q) (Ab := q) (Pb := pb) (k := 0) (l := []) 1 s1 t.price (by simp) (by omega) (by obtain ⟨h1, h2⟩ := HA1.out; obtain ⟨h3, h4⟩ := HA2.out; first | omega | (simp only; omega)) (by have h := HA1.out; omega) X2 HQ2.out.2.2 HS2.out)
    have g0 := cellOf HTB2.out.1 0 (x := .int .i64 t.price) rfl
    go_wp2_with fail
    refine C1.out.mono ?_
    rintro _ Y1 ⟨⟨z1, rfl⟩, b1, d1, HS3, HK3⟩
    have HTB3 : Hid (Blk Y1 p 37 #[.int .i64 t.price, .int .i64 t.back, .int .i64 t.late, .int .i64 t.carry, .int .i64 t.credit] ∧ Blk Y1 (p + 1) 80 #[.slice none 0 0, .int .i64 0]) := ⟨HS2.out.far HK3.out HTB2.out.1 (by have := HQ2.out; omega) (by decide), HS2.out.far HK3.out HTB2.out.2 (by have := HQ2.out; omega) (by decide)⟩
    have HBX3 : Hid (Below w.heap.size w Y1) := HBX2.out.trans (HS2.out.belowK HK3.out HQ2.out.1 HQ2.out.1 HBX2.out.size)
    have HZ2 : Hid (q ≤ Y1.heap.size) := Nat.le_trans HQ2.out.2.2 HK3.out.size
    clear C1 g0 HTB2 HS2 HK3 HBX2
    have C2 := Lib.hid (add_any (base := q) (Ab := q) (Pb := pb) (k := 1) (l := ([] ++ [⟨1, s1, s1 * t.price⟩])) 2 s2 (-t.back) (by simp) (by omega) (by obtain ⟨h1, h2⟩ := HA1.out; obtain ⟨h3, h4⟩ := HA2.out; first | omega | (simp only; omega)) (by have h := HA2.out; omega) Y1 HZ2.out HS3.out)
    have g0 := cellOf HTB3.out.1 1 (x := .int .i64 t.back) rfl
    go_wp2_with fail
    refine C2.out.mono ?_
    rintro _ Y2 ⟨⟨z2, rfl⟩, b2, d2, HS4, HK4⟩
    have HTB4 : Hid (Blk Y2 p 37 #[.int .i64 t.price, .int .i64 t.back, .int .i64 t.late, .int .i64 t.carry, .int .i64 t.credit] ∧ Blk Y2 (p + 1) 80 #[.slice none 0 0, .int .i64 0]) := ⟨HS3.out.far HK4.out HTB3.out.1 (by have := HQ2.out; omega) (by decide), HS3.out.far HK4.out HTB3.out.2 (by have := HQ2.out; omega) (by decide)⟩
    have HBX4 : Hid (Below w.heap.size w Y2) := HBX3.out.trans (HS3.out.belowK HK4.out HQ2.out.1 HQ2.out.1 HBX3.out.size)
    have HZ3 : Hid (q ≤ Y2.heap.size) := Nat.le_trans HZ2.out HK4.out.size
    clear C2 g0 HTB3 HS3 HK4 HBX3
    have C3 := Lib.hid (add_any (base := q) (Ab := q) (Pb := pb) (k := 2) (l := ([] ++ [⟨1, s1, s1 * t.price⟩] ++ [⟨2, s2, s2 * -t.back⟩])) 3 s3 (-t.late) (by simp) (by omega) (by obtain ⟨h1, h2⟩ := HA1.out; obtain ⟨h3, h4⟩ := HA2.out; first | omega | (simp only; omega)) (by have h := HA3.out; omega) Y2 HZ3.out HS4.out)
    have g0 := cellOf HTB4.out.1 2 (x := .int .i64 t.late) rfl
    go_wp2_with fail
    refine C3.out.mono ?_
    rintro _ Y3 ⟨⟨z3, rfl⟩, b3, d3, HS5, HK5⟩
    have HTB5 : Hid (Blk Y3 p 37 #[.int .i64 t.price, .int .i64 t.back, .int .i64 t.late, .int .i64 t.carry, .int .i64 t.credit] ∧ Blk Y3 (p + 1) 80 #[.slice none 0 0, .int .i64 0]) := ⟨HS4.out.far HK5.out HTB4.out.1 (by have := HQ2.out; omega) (by decide), HS4.out.far HK5.out HTB4.out.2 (by have := HQ2.out; omega) (by decide)⟩
    have HBX5 : Hid (Below w.heap.size w Y3) := HBX4.out.trans (HS4.out.belowK HK5.out HQ2.out.1 HQ2.out.1 HBX4.out.size)
    have HZ4 : Hid (q ≤ Y3.heap.size) := Nat.le_trans HZ3.out HK5.out.size
    clear C3 g0 HTB4 HS4 HK5 HBX4
    have HLF : Hid (OLines w.heap.size Y3 (.slice (some ⟨b3, 0, none⟩) 3 d3) (setL t l m)) := by
      rw [HS.out.1]
      exact ownsRow_base HS5.out.row HQ2.out.1
    have HAC : Hid (Blk Y3 q 80 #[.slice (some ⟨b3, 0, none⟩) 3 d3, .int .i64 (setS t l m)]) := by
      rw [HS.out.2]
      have h1 := HS5.out.acc
      simp only [Int.zero_add] at h1
      exact h1
    obtain ⟨S, hS⟩ : ∃ S, setS t l m = S := ⟨_, rfl⟩
    rw [hS] at HAC
    have HSS := Lib.hid hS
    have k0 := cellOf HAC.out 0 (x := .slice (some ⟨b3, 0, none⟩) 3 d3) rfl
    have k1 := cellOf HAC.out 1 (x := .int .i64 S) rfl
    have r0 := cellOf HTB5.out.2 0 (x := .slice none 0 0) rfl
    have r1 := cellOf HTB5.out.2 1 (x := .int .i64 0) rfl
    have f0 := HTB5.out.2.frozen 0
    have f1 := HTB5.out.2.frozen 1
    have hK : KeptBut (fun g => g = p + 1) Y3 ((Y3.setCell ⟨p + 1, 0, none⟩ (.slice (some ⟨b3, 0, none⟩) 3 d3)).setCell ⟨p + 1, 1, none⟩ (.int .i64 S)) := (KeptBut.setCell (S := fun g => g = p + 1) rfl _).trans (KeptBut.setCell (S := fun g => g = p + 1) rfl _) fun _ _ h => h
    have HFIN : Hid (SetRet t l m w (.returned (.agg #[.slice (some ⟨b3, 0, none⟩) 3 d3, .int .i64 S])) ((Y3.setCell ⟨p + 1, 0, none⟩ (.slice (some ⟨b3, 0, none⟩) 3 d3)).setCell ⟨p + 1, 1, none⟩ (.int .i64 S))) := by
      refine ⟨_, _, by rw [HSS.out], ownsRow_keptBut HLF.out hK fun g cs _ hB e => by subst e; exact Blk.ne hB HTB5.out.2 (by decide) rfl, HBX5.out.trans (hK.below (fun g hg => by rw [hg, HP.out]; omega) HBX5.out.size)⟩
    have R := (HTB5.out.2.put 0 (.slice (some ⟨b3, 0, none⟩) 3 d3)).put 1 (.int .i64 S)
    have e0 := cellOf R 0 (x := .slice (some ⟨b3, 0, none⟩) 3 d3) rfl
    have e1 := cellOf R 1 (x := .int .i64 S) rfl
    clear hS hK R HAC HLF HS5 HBX5 HTB5
    go_wp2_with fail
    exact bodyPost_ret (v := .agg #[.slice (some ⟨b3, 0, none⟩) 3 d3, .int .i64 S]) (by simp [results, Try.results95, go_sem, e0, e1]) rfl HFIN.out
end Go.Proofs.Ytlmpbmlbllndcaa
