/-
  The generator of subscribers.
-/
import Derived.Maps.AppendAt
import Derived.Test.YtlmpbmlbllndcaaHa
import Derived.Test.YtlmpbmlbllndcaaJa
namespace Go.Proofs.Ytlmpbmlbllndcaa
open Go.RowKit
attribute [local go_sem] Oper.semAt_some

theorem sliceSub : Try.prog.underlying 35 = some (.slice 42) := by kernel_rfl
theorem infoSub : (Try.prog.info? 42).map (fun i => (i.zero, i.size, i.bytes)) = some (some (.agg #[.int .i64 0, .int .i64 0, .int .i64 0, .int .i64 0, .slice none 0 0]), 5, 56) := by kernel_rfl
/-- The slice of holidays that the generator makes. -/
def SubU (X : World) (u : Value) (s : SubD) : Prop := (s.hol = [] ∧ u = .slice none 0 0) ∨ ∃ h x, s.hol = [x] ∧ u = .slice (some ⟨h, 0, none⟩) 1 1 ∧ Blk X h 87 #[.int .i64 x.lo, .int .i64 x.hi]
theorem SubU.keep {X Y : World} {S : Nat → Prop} {u : Value} {s : SubD} (h : SubU X u s) (hK : KeptBut S X Y) (hne : ∀ g, (∃ cs, Blk X g 87 cs) → ¬ S g) : SubU Y u s := by
  rcases h with h | ⟨g, x, h1, h2, h3⟩
  · exact .inl h
  · exact .inr ⟨g, x, h1, h2, hK.blk h3 (hne g ⟨_, h3⟩)⟩
theorem SubU.spans {X : World} {u : Value} {s : SubD} (h : SubU X u s) : RSpans X.heap.size X u s.hol := by
  rcases h with ⟨h1, rfl⟩ | ⟨g, x, h1, rfl, h3⟩
  · rw [h1]
    exact ⟨none, 0, rfl, rfl, by simp [maxLen], fun h => absurd h (by simp)⟩
  · rw [h1]
    refine ⟨_, _, rfl, rfl, by simp [maxLen], fun _ => ⟨g, 0, rfl, h3.lt, fun j u hj => ?_⟩⟩
    rw [Nat.zero_add]
    match j, hj with
    | 0, hj => exact (cellOf h3 0 (x := .int .i64 x.lo) rfl).trans (by simpa [SpanD.cells] using hj)
    | 1, hj => exact (cellOf h3 1 (x := .int .i64 x.hi) rfl).trans (by simpa [SpanD.cells] using hj)
/-- The subscribers made so far. -/
structure SubsSt (w : World) (data : List Int) (k : Nat) (us : List Value) (dv : Value) (X : World) : Prop where
  row : X.ownsRow w.heap.size 42 5 dv k (((subTo data k).zip us).flatMap subCells)
  len : us.length = k
  spans : ∀ (i : Nat) (u : Value), us[i]? = some u → SubU X u (subAt data i)
  below : Below w.heap.size w X
theorem SubsSt.keep {w X Y : World} {data : List Int} {k : Nat} {us : List Value} {dv : Value} {S : Nat → Prop} (h : SubsSt w data k us dv X) (hK : KeptBut S X Y) (hS : ∀ i, S i → (∃ t cs, Blk X i t cs ∧ t = 42) ∧ w.heap.size ≤ i ∧ ¬ some i = dv.ownBlock) : SubsSt w data k us dv Y :=
  ⟨ownsRow_keptBut h.row hK fun i cs hv _ e => (hS i e).2.2 hv.symm, h.len, fun i u hu => (h.spans i u hu).keep hK fun g hg e => by
    obtain ⟨⟨t, cs, hB, ht⟩, -⟩ := hS g e
    obtain ⟨cs2, hB2⟩ := hg
    subst ht
    exact Blk.ne hB2 hB (by decide) rfl, h.below.trans (hK.below (fun i hi => (hS i hi).2.1) h.below.size)⟩
theorem SubsSt.more {w X Y : World} {data : List Int} {k : Nat} {us : List Value} {dv dv' : Value} (h : SubsSt w data k us dv X) {u : Value} (hu : SubU X u (subAt data k)) {cs : List Value} (hc : subCells (subAt data k, u) = cs) (hB : Below w.heap.size w X)
    (hO : Y.ownsRow w.heap.size 42 5 dv' (k + 1) (((subTo data k).zip us).flatMap subCells ++ cs)) (hG : X.grownBy Y dv.ownBlock) : SubsSt w data (k + 1) (us ++ [u]) dv' Y := by
  have hK : KeptBut (fun j => some j = dv.ownBlock) X Y := KeptBut.grown (S := fun j => some j = dv.ownBlock) hG fun j hj => hj
  have hne : ∀ g, (∃ cs, Blk X g 87 cs) → ¬ some g = dv.ownBlock := fun g hg e => by
    obtain ⟨cs2, hB2⟩ := hg
    obtain ⟨-, cs3, hB3⟩ := ownsRow_own h.row e.symm
    exact Blk.ne hB2 hB3 (by decide) rfl
  refine ⟨?_, by rw [List.length_append, h.len]; rfl, fun i u' hi => ?_, hB.trans (hK.below (fun i hi => (ownsRow_own h.row hi.symm).1) hB.size)⟩
  · rw [subTo_next, List.zip_append (by rw [subTo_len, h.len]), List.flatMap_append]
    show World.ownsRow _ _ _ _ _ _ (_ ++ (subCells (subAt data k, u) ++ []))
    rw [List.append_nil, hc]
    exact hO
  · rw [List.getElem?_append] at hi
    split at hi
    · exact (h.spans i u' hi).keep hK hne
    · rename_i hl
      obtain rfl : i = k := by
        have := (List.getElem?_eq_some_iff.1 hi).1
        rw [h.len] at hl this
        simp only [List.length_cons, List.length_nil] at this
        omega
      rw [h.len, Nat.sub_self] at hi
      obtain rfl : u = u' := by simpa using hi
      exact hu.keep hK hne
def SubRet (data : List Int) (w : World) (e : Ending) (w' : World) : Prop := ∃ A c, e = .returned (.slice A (nSubs data) c) ∧ RSubs w'.heap.size w' (.slice A (nSubs data) c) (subsOf data) ∧ Below w.heap.size w w'
set_option maxRecDepth 1000000 in
set_option maxHeartbeats 4000000 in
theorem subscribers_any (data : List Int) (hby : Bytes data) (v : Value) (w : World) (h : RBytes w.heap.size w v data) :
    Calls Try.prog 32 #[v] w (SubRet data w) := by
  obtain ⟨A, c, rfl, hlm, hr⟩ := h.open_
  obtain ⟨n, hn⟩ : ∃ n, data.length = n := ⟨_, rfl⟩
  rw [hn] at hlm hr
  rw [hn]
  obtain ⟨N, hN⟩ : ∃ N, nSubs data = N := ⟨_, rfl⟩
  have hNd : N = min 10 (n / 4) := by rw [← hN, ← hn]; rfl
  have HR := Lib.hid hr
  have HBY := Lib.hid hby
  have HN := Lib.hid hN
  have HNN := Lib.hid hn
  obtain ⟨i0, hi0, hz0, hz1, hz2⟩ := info_parts infoSub
  have HO0 : Hid (SubsSt w data 0 [] (.slice none 0 0) w) := ⟨World.ownsRow_nil w _ _ _, rfl, fun i u hu => by simp at hu, Below.refl _ _⟩
  clear h hr hby hN hn
  go_enter Try.func32, Try.ntmps32
  go_wp2_with fail
  go_loopw [3, 4] (fun dv i wr => ∃ (k : Nat) (us : List Value), k ≤ N ∧ i = .int .i64 ((4 * k : Nat) : Int) ∧ SubsSt w data k us dv wr) (fun _ i _ => 1000 - (intOf i).toNat)
  case atStart => exact ⟨0, [], Nat.zero_le _, rfl, HO0.out⟩
  case round =>
  clear HO0
  obtain ⟨k, us, hk, rfl, hO⟩ := hrel
  obtain ⟨X, rfl⟩ : ∃ X : World, X = wr := ⟨_, rfl⟩
  obtain ⟨Av, cv, rfl⟩ := ownsRow_form hO.row
  have HS := Lib.hid hO
  clear hO
  obtain ⟨j, hj⟩ : ∃ j, 4 * k = j := ⟨_, rfl⟩
  obtain ⟨j1, hj1⟩ : ∃ j1, j + 1 = j1 := ⟨_, rfl⟩
  obtain ⟨j2, hj2⟩ : ∃ j2, j + 2 = j2 := ⟨_, rfl⟩
  obtain ⟨j3, hj3⟩ : ∃ j3, j + 3 = j3 := ⟨_, rfl⟩
  have kj1 : (j : Int) + 1 = (j1 : Int) := by omega
  have kj2 : (j : Int) + 2 = (j2 : Int) := by omega
  have kj3 : (j : Int) + 3 = (j3 : Int) := by omega
  have HJ := Lib.hid hj
  rw [hj]
  have j00 : (0 : Int) ≤ (j : Int) := by omega
  have j10 : (0 : Int) ≤ (j1 : Int) := by omega
  have j20 : (0 : Int) ≤ (j2 : Int) := by omega
  have j30 : (0 : Int) ≤ (j3 : Int) := by omega
  have kw : IntKind.i64.wrap ((j : Int) + 3) = (j3 : Int) := by rw [kj3]; exact IntWalk.i64_in _ ⟨by omega, by omega⟩
  by_cases hk1 : k < N
  case neg =>
    have hX : Hid (SubRet data w (.returned (.slice Av k cv)) X) := by
      obtain rfl : k = N := by omega
      obtain ⟨h1, h2, h3, h4⟩ := HS.out
      refine ⟨Av, cv, by rw [HN.out], ⟨us, ?_, ?_, fun i u s hu hs => ?_⟩, h4⟩
      · rw [h2, subs_len, HN.out]
      · rw [subs_len, HN.out]
        unfold subsOf
        rw [HN.out]
        exact Rd.own h1 (own_le h1)
      · have := (h3 i u hu).spans
        have hi : i < k := by have := (List.getElem?_eq_some_iff.1 hu).1; omega
        have e9 : s = subAt data i := by
          unfold subsOf subTo at hs
          rw [HN.out, List.getElem?_map, List.getElem?_range hi] at hs
          simpa using hs.symm
        rw [e9]
        exact this
    by_cases hc1 : (j3 : Int) < (n : Int)
    · have hc2 : ¬ (j : Int) < 40 := by omega
      clear HS
      go_wp2_with fail
      go_ret
      exact hX.out
    · clear HS
      go_wp2_with fail
      go_ret
      exact hX.out
  have hc1 : (j3 : Int) < (n : Int) := by omega
  have hc2 : (j : Int) < 40 := by omega
  have hc3 : (j : Int) < (n : Int) := by omega
  have hc4 : (j1 : Int) < (n : Int) := by omega
  have hc5 : (j2 : Int) < (n : Int) := by omega
  obtain ⟨g, o, rfl, hgl, cx⟩ := HR.out j (by omega)
  obtain ⟨g2, o2, e, -, cy⟩ := HR.out j1 (by omega)
  cases e
  obtain ⟨g2, o2, e, -, cz⟩ := HR.out j2 (by omega)
  cases e
  obtain ⟨g2, o2, e, -, cv3⟩ := HR.out j3 (by omega)
  cases e
  obtain ⟨x, hx⟩ : ∃ x, data.getD j 0 = x := ⟨_, rfl⟩
  obtain ⟨x0, x1⟩ : 0 ≤ x ∧ x ≤ 255 := by
    have := HBY.out (data.getD j 0) (by rw [List.getD_eq_getElem?_getD, List.getElem?_eq_getElem (by rw [HNN.out]; omega)]; exact List.getElem_mem _)
    rw [hx] at this
    omega
  obtain ⟨y, hy⟩ : ∃ x, data.getD j1 0 = x := ⟨_, rfl⟩
  obtain ⟨y0, y1⟩ : 0 ≤ y ∧ y ≤ 255 := by
    have := HBY.out (data.getD j1 0) (by rw [List.getD_eq_getElem?_getD, List.getElem?_eq_getElem (by rw [HNN.out]; omega)]; exact List.getElem_mem _)
    rw [hy] at this
    omega
  obtain ⟨z, hz⟩ : ∃ x, data.getD j2 0 = x := ⟨_, rfl⟩
  obtain ⟨z0, z1⟩ : 0 ≤ z ∧ z ≤ 255 := by
    have := HBY.out (data.getD j2 0) (by rw [List.getD_eq_getElem?_getD, List.getElem?_eq_getElem (by rw [HNN.out]; omega)]; exact List.getElem_mem _)
    rw [hz] at this
    omega
  obtain ⟨t, ht⟩ : ∃ x, data.getD j3 0 = x := ⟨_, rfl⟩
  obtain ⟨t0, t1⟩ : 0 ≤ t ∧ t ≤ 255 := by
    have := HBY.out (data.getD j3 0) (by rw [List.getD_eq_getElem?_getD, List.getElem?_eq_getElem (by rw [HNN.out]; omega)]; exact List.getElem_mem _)
    rw [ht] at this
    omega
  rw [hx] at cx
  rw [hy] at cy
  rw [hz] at cz
  rw [ht] at cv3
  have HCX : Hid (∀ Y, Below w.heap.size w Y → Y.cell? ⟨g, o + j, none⟩ = some (.int .u8 x) ∧ Y.cell? ⟨g, o + j1, none⟩ = some (.int .u8 y) ∧ Y.cell? ⟨g, o + j2, none⟩ = some (.int .u8 z) ∧ Y.cell? ⟨g, o + j3, none⟩ = some (.int .u8 t)) := fun Y hY =>
    ⟨(hY.cell (p := ⟨g, o + j, none⟩) hgl).trans cx, (hY.cell (p := ⟨g, o + j1, none⟩) hgl).trans cy, (hY.cell (p := ⟨g, o + j2, none⟩) hgl).trans cz, (hY.cell (p := ⟨g, o + j3, none⟩) hgl).trans cv3⟩
  clear cx cy cz cv3
  obtain ⟨fr, hfr⟩ : ∃ s, x % 40 = s := ⟨_, rfl⟩
  have fr0 : 0 ≤ fr := by omega
  have fr1 : fr ≤ 39 := by omega
  obtain ⟨zq, hzq⟩ : ∃ s, z % 127 = s := ⟨_, rfl⟩
  have zq0 : 0 ≤ zq := by omega
  have zq1 : zq ≤ 126 := by omega
  obtain ⟨dy, hdy⟩ : ∃ s, 1 + zq = s := ⟨_, rfl⟩
  obtain ⟨yq, hyq⟩ : ∃ s, y % 60 = s := ⟨_, rfl⟩
  have yq0 : 0 ≤ yq := by omega
  have yq1 : yq ≤ 59 := by omega
  obtain ⟨to_, hto⟩ : ∃ s, fr + yq = s := ⟨_, rfl⟩
  obtain ⟨lo, hlo⟩ : ∃ s, t % 50 = s := ⟨_, rfl⟩
  have lo0 : 0 ≤ lo := by omega
  have lo1 : lo ≤ 49 := by omega
  obtain ⟨z9, hz9⟩ : ∃ s, z % 9 = s := ⟨_, rfl⟩
  have z90 : 0 ≤ z9 := by omega
  have z91 : z9 ≤ 8 := by omega
  obtain ⟨hi_, hhi⟩ : ∃ s, lo + z9 = s := ⟨_, rfl⟩
  have HSUB : Hid (subAt data k = ⟨(j : Int), fr, to_, dy, if 60 < t then [⟨lo, hi_⟩] else []⟩) := by
    show _ = _
    unfold subAt subOf holOf
    rw [HJ.out, hj1, hj2, hj3, hx, hy, hz, ht, hfr, hzq, hdy, hyq, hto, hlo, hz9, hhi, show 4 * (k : Int) = (j : Int) by omega]
  have F1 : ∃ X1, (X.alloc (.cells #[.int .i64 (j : Int), .int .i64 fr, .int .i64 0, .int .i64 dy, .slice none 0 0] 42)).drew = X1 ∧ Hid (Below X.heap.size X X1) ∧ Hid (Blk X1 X.heap.size 42 #[.int .i64 (j : Int), .int .i64 fr, .int .i64 0, .int .i64 dy, .slice none 0 0]) := ⟨_, rfl, (below_alloc _ _).drew, (Blk.new _ _ _).drew_⟩
  obtain ⟨X1, e1, HX1, HK1⟩ := F1
  have E1 := Lib.hid e1
  have HQO : Hid (∀ gg, (Value.slice Av k cv).ownBlock = some gg → gg ≠ X.heap.size) := fun gg hg => by
    have := (HS.out.row.lt gg hg).2
    omega
  have HS1 : Hid (SubsSt w data k us (.slice Av k cv) X1) := HS.out.keep (KeptBut.of_below (S := fun _ => False) HX1.out) fun _ e => e.elim
  have hqw : w.heap.size ≤ X.heap.size := HS.out.below.size
  obtain ⟨q, hq⟩ : ∃ q, X.heap.size = q := ⟨_, rfl⟩
  rw [hq] at HK1 HQO hqw
  have HQ := Lib.hid hq
  have HFR := Lib.hid hfr
  have HZQ := Lib.hid hzq
  have HDY := Lib.hid hdy
  have HYQ := Lib.hid hyq
  have HTO := Lib.hid hto
  have HLO := Lib.hid hlo
  have HZ9 := Lib.hid hz9
  have HHI := Lib.hid hhi
  obtain ⟨c0, c1, c2, c3⟩ := HCX.out X HS.out.below
  have HSX := Lib.hid HS.out.below
  clear e1 hq hx hy hz ht hfr hzq hdy hyq hto hlo hz9 hhi HS HX1 kw
  have u1 : -1000 ≤ 1 + z % 127 := by omega
  have u2 : 1 + z % 127 ≤ 1000 := by omega
  have HSB := Lib.hid HS1.out.below
  go_upto_region 5 with fail
  have hbel : Below w.heap.size w (X.alloc (.cells #[.int .i64 0, .int .i64 0, .int .i64 0, .int .i64 0, .slice none 0 0] 42)).drew := (HSX.out.trans ((below_alloc X _).mono HSX.out.size)).drew
  obtain ⟨a0, -, a2, -⟩ := HCX.out _ hbel
  clear c1 c3 hbel
  go_region
  rw [HFR.out, HZQ.out, HDY.out, E1.out, HQ.out]
  clear E1 c0 c2 a0 a2 u1 u2
  obtain ⟨-, b1, -, -⟩ := HCX.out X1 HSB.out
  obtain ⟨-, b1', -, -⟩ := HCX.out X1.drew HSB.out.drew
  have q1 := cellOf HK1.out 1 (x := .int .i64 fr) rfl
  have q2 := cellOf HK1.out 2 (x := .int .i64 0) rfl
  have q1' := cellOf HK1.out.drew_ 1 (x := .int .i64 fr) rfl
  have q2' := cellOf HK1.out.drew_ 2 (x := .int .i64 0) rfl
  have qf := HK1.out.frozen 2
  have qf' := HK1.out.drew_.frozen 2
  have u1 : -1000 ≤ fr + y % 60 := by omega
  have u2 : fr + y % 60 ≤ 1000 := by omega
  go_upto_region 6 with fail
  go_region
  rw [HYQ.out, HTO.out]
  clear b1 b1' q1 q2 q1' q2' qf qf' u1 u2
  have F2 : ∃ X2, (X1.setCell ⟨q, 2, none⟩ (.int .i64 to_)).drew = X2 ∧ Hid (Blk X2 q 42 #[.int .i64 (j : Int), .int .i64 fr, .int .i64 to_, .int .i64 dy, .slice none 0 0]) ∧ Hid (KeptBut (fun i => i = q) X1 X2) := ⟨_, rfl, (HK1.out.put 2 _).drew_, (KeptBut.setCell (S := fun i => i = q) (w := X1) (p := ⟨q, 2, none⟩) rfl (.int .i64 to_)).trans (KeptBut.of_below (S := fun _ => False) (Below.refl _ _).drew) fun _ _ h => h.elim⟩
  obtain ⟨X2, e2, HKX2, HKB⟩ := F2
  have HQS : Hid (∀ i, i = q → (∃ t cs, Blk X1 i t cs ∧ t = 42) ∧ w.heap.size ≤ i ∧ ¬ some i = (Value.slice Av k cv).ownBlock) := fun i hi => by
    subst hi
    exact ⟨⟨_, _, HK1.out, rfl⟩, hqw, fun e => HQO.out _ e.symm rfl⟩
  have HSX2 : Hid (SubsSt w data k us (.slice Av k cv) X2) := HS1.out.keep HKB.out HQS.out
  have HBX2 := Lib.hid HSX2.out.below
  rw [e2]
  obtain ⟨-, -, -, c3⟩ := HCX.out X2 HBX2.out
  clear e2 HS1 HSB HKB HQS
  by_cases hz : 60 < t
  · have hz' : ¬ t ≤ 60 := by omega
    go_upto_region 8 with fail
    clear c3 hz'
    have hb1 : Below w.heap.size w X2.drew := HBX2.out.drew
    have hb2 : Below w.heap.size w (X2.alloc (.cells #[.int .i64 (t % 50), .int .i64 (t % 50 + z % 9)] 87)).drew := (HBX2.out.trans ((below_alloc X2 _).mono HBX2.out.size)).drew
    obtain ⟨-, -, p2, p3⟩ := HCX.out X2 HBX2.out
    obtain ⟨-, -, a2, a3⟩ := HCX.out _ hb1
    obtain ⟨-, -, d2, d3⟩ := HCX.out _ hb2
    have q4 := cellOf HKX2.out 4 (x := .slice none 0 0) rfl
    have q4' := cellOf HKX2.out.drew_ 4 (x := .slice none 0 0) rfl
    have qf := HKX2.out.frozen 4
    have qf' := HKX2.out.drew_.frozen 4
    have qq := (HKX2.out.alloc (.cells #[.int .i64 (t % 50), .int .i64 (t % 50 + z % 9)] 87)).drew_
    have q5 := cellOf qq 4 (x := .slice none 0 0) rfl
    have qf5 := qq.frozen 4
    have u1 : -1000 ≤ t % 50 + z % 9 := by omega
    have u2 : t % 50 + z % 9 ≤ 1000 := by omega
    clear hb1 hb2 qq
    go_region
    rw [HLO.out, HZ9.out, HHI.out]
    clear p2 p3 a2 a3 d2 d3 q4 q4' qf qf' q5 qf5 u1 u2
    have HDAY : Hid (subAt data k = ⟨(j : Int), fr, to_, dy, [⟨lo, hi_⟩]⟩) := by show _ = _; rw [HSUB.out, if_pos hz]
    have F3 : ∃ XA, X2.alloc (.cells #[.int .i64 lo, .int .i64 hi_] 87) = XA ∧ Hid (Below X2.heap.size X2 XA) ∧ Hid (Blk XA X2.heap.size 87 #[.int .i64 lo, .int .i64 hi_]) := ⟨_, rfl, below_alloc _ _, Blk.new _ _ _⟩
    obtain ⟨XA, ea, HXA, HKA⟩ := F3
    obtain ⟨h, hh⟩ : ∃ h, X2.heap.size = h := ⟨_, rfl⟩
    have hqh : q ≠ h := by have := HKX2.out.lt; omega
    rw [ea, hh]
    rw [hh] at HKA
    have HKXA : Hid (Blk XA q 42 #[.int .i64 (j : Int), .int .i64 fr, .int .i64 to_, .int .i64 dy, .slice none 0 0]) := HKX2.out.below HXA.out HKX2.out.lt
    have HSXA : Hid (SubsSt w data k us (.slice Av k cv) XA) := HSX2.out.keep (KeptBut.of_below (S := fun _ => False) HXA.out) fun _ e => e.elim
    have F4 : ∃ X3, (XA.setCell ⟨q, 4, none⟩ (.slice (some ⟨h, 0, none⟩) 1 1)).drew = X3 ∧ Hid (Blk X3 q 42 #[.int .i64 (j : Int), .int .i64 fr, .int .i64 to_, .int .i64 dy, .slice (some ⟨h, 0, none⟩) 1 1]) ∧ Hid (KeptBut (fun i => i = q) XA X3) := ⟨_, rfl, (HKXA.out.put 4 _).drew_, (KeptBut.setCell (S := fun i => i = q) (w := XA) (p := ⟨q, 4, none⟩) rfl (.slice (some ⟨h, 0, none⟩) 1 1)).trans (KeptBut.of_below (S := fun _ => False) (Below.refl _ _).drew) fun _ _ h => h.elim⟩
    obtain ⟨X3, e3, HKX3, HKB⟩ := F4
    have HSX3 : Hid (SubsSt w data k us (.slice Av k cv) X3) := HSXA.out.keep HKB.out fun i hi => by
      subst hi
      exact ⟨⟨_, _, HKXA.out, rfl⟩, hqw, fun e => HQO.out _ e.symm rfl⟩
    have HBX3 := Lib.hid HSX3.out.below
    have HUX : Hid (SubU X3 (.slice (some ⟨h, 0, none⟩) 1 1) (subAt data k)) := .inr ⟨h, ⟨lo, hi_⟩, by rw [HDAY.out], rfl, HKB.out.blk HKA.out fun e => hqh e.symm⟩
    have HDC : Hid (subCells (subAt data k, .slice (some ⟨h, 0, none⟩) 1 1) = [.int .i64 (j : Int), .int .i64 fr, .int .i64 to_, .int .i64 dy, .slice (some ⟨h, 0, none⟩) 1 1]) := by show _ = _; rw [HDAY.out]; rfl
    rw [e3]
    clear e3 ea HSXA HKXA HXA HKA HKB HSX2 HBX2 HKX2
    have d0 := cellOf HKX3.out 0 (x := .int .i64 (j : Int)) rfl
    have d1 := cellOf HKX3.out 1 (x := .int .i64 fr) rfl
    have d2 := cellOf HKX3.out 2 (x := .int .i64 to_) rfl
    have d3 := cellOf HKX3.out 3 (x := .int .i64 dy) rfl
    have d4 := cellOf HKX3.out 4 (x := .slice (some ⟨h, 0, none⟩) 1 1) rfl
    have F5 : ∃ X5, X3.alloc (.cells #[.int .i64 (j : Int), .int .i64 fr, .int .i64 to_, .int .i64 dy, .slice (some ⟨h, 0, none⟩) 1 1] 42) = X5 ∧ Hid (Below X3.heap.size X3 X5) := ⟨_, rfl, below_alloc _ _⟩
    obtain ⟨X5, e5, HX5⟩ := F5
    have HC5 := Lib.hid (cells_new X3 #[.int .i64 (j : Int), .int .i64 fr, .int .i64 to_, .int .i64 dy, .slice (some ⟨h, 0, none⟩) 1 1] 42)
    rw [e5] at HC5
    have E5 := Lib.hid e5
    have HS5 := Lib.hid (HSX3.out.keep (KeptBut.of_below (S := fun _ => False) HX5.out) fun _ e => e.elim)
    have HB5 : Hid (Below w.heap.size w X5) := HBX3.out.trans (HX5.out.mono HBX3.out.size)
    have HU5 : Hid (SubU X5 (.slice (some ⟨h, 0, none⟩) 1 1) (subAt data k)) := HUX.out.keep (KeptBut.of_below (S := fun _ => False) HX5.out) fun _ _ e => e.elim
    clear e5
    go_wp2_with (at_builtin; rw [E5.out]; refine wpList_append_own _ rfl _ _ 35 rfl w.heap.size 42 i0 _ 5 56 sliceSub hi0 hz0 hz1 hz2 rfl (by decide) (.slice Av k cv) k (((subTo data k).zip us).flatMap subCells) rfl HS5.out.row ⟨X3.heap.size, 0, none⟩ 1 1 [.int .i64 (j : Int), .int .i64 fr, .int .i64 to_, .int .i64 dy, .slice (some ⟨h, 0, none⟩) 1 1] rfl rfl HC5.out (by simp [Value.oneCell']) (by simp only [maxLen]; omega) (by omega) HB5.out.size ?_; intro v2 w2 hO4 hG4 hN4)
    refine ⟨⟨k + 1, us ++ [.slice (some ⟨h, 0, none⟩) 1 1], by omega, by congr 1; omega, ?_⟩, by simp [intOf]; omega⟩
    exact HS5.out.more HU5.out HDC.out (HB5.out) hO4 hG4
  · have HDAY : Hid (subAt data k = ⟨(j : Int), fr, to_, dy, []⟩) := by show _ = _; rw [HSUB.out, if_neg hz]
    have HUX : Hid (SubU X2 (.slice none 0 0) (subAt data k)) := .inl ⟨by rw [HDAY.out], rfl⟩
    have HDC : Hid (subCells (subAt data k, .slice none 0 0) = [.int .i64 (j : Int), .int .i64 fr, .int .i64 to_, .int .i64 dy, .slice none 0 0]) := by show _ = _; rw [HDAY.out]; rfl
    go_upto_region 9 with fail
    clear c3
    have d0 := cellOf HKX2.out 0 (x := .int .i64 (j : Int)) rfl
    have d1 := cellOf HKX2.out 1 (x := .int .i64 fr) rfl
    have d2 := cellOf HKX2.out 2 (x := .int .i64 to_) rfl
    have d3 := cellOf HKX2.out 3 (x := .int .i64 dy) rfl
    have d4 := cellOf HKX2.out 4 (x := .slice none 0 0) rfl
    have F5 : ∃ X5, X2.alloc (.cells #[.int .i64 (j : Int), .int .i64 fr, .int .i64 to_, .int .i64 dy, .slice none 0 0] 42) = X5 ∧ Hid (Below X2.heap.size X2 X5) := ⟨_, rfl, below_alloc _ _⟩
    obtain ⟨X5, e5, HX5⟩ := F5
    have HC5 := Lib.hid (cells_new X2 #[.int .i64 (j : Int), .int .i64 fr, .int .i64 to_, .int .i64 dy, .slice none 0 0] 42)
    rw [e5] at HC5
    have E5 := Lib.hid e5
    have HS5 := Lib.hid (HSX2.out.keep (KeptBut.of_below (S := fun _ => False) HX5.out) fun _ e => e.elim)
    have HB5 : Hid (Below w.heap.size w X5) := HBX2.out.trans (HX5.out.mono HBX2.out.size)
    have HU5 : Hid (SubU X5 (.slice none 0 0) (subAt data k)) := HUX.out.keep (KeptBut.of_below (S := fun _ => False) HX5.out) fun _ _ e => e.elim
    clear e5
    go_wp2_with (at_builtin; rw [E5.out]; refine wpList_append_own _ rfl _ _ 35 rfl w.heap.size 42 i0 _ 5 56 sliceSub hi0 hz0 hz1 hz2 rfl (by decide) (.slice Av k cv) k (((subTo data k).zip us).flatMap subCells) rfl HS5.out.row ⟨X2.heap.size, 0, none⟩ 1 1 [.int .i64 (j : Int), .int .i64 fr, .int .i64 to_, .int .i64 dy, .slice none 0 0] rfl rfl HC5.out (by simp [Value.oneCell']) (by simp only [maxLen]; omega) (by omega) HB5.out.size ?_; intro v2 w2 hO4 hG4 hN4)
    refine ⟨⟨k + 1, us ++ [.slice none 0 0], by omega, by congr 1; omega, ?_⟩, by simp [intOf]; omega⟩
    exact HS5.out.more HU5.out HDC.out (HB5.out) hO4 hG4
end Go.Proofs.Ytlmpbmlbllndcaa
