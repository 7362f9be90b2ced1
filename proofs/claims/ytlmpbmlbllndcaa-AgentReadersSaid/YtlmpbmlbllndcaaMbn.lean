/-
  slices.ContainsFunc and slices.EqualFunc of subscribers.
-/
import Derived.Test.YtlmpbmlbllndcaaMbg
import Derived.Test.YtlmpbmlbllndcaaMbm
namespace Go.Proofs.Ytlmpbmlbllndcaa
open Go.RowKit
attribute [local go_sem] Oper.semAt_some

/-- Whether a subscriber has more than 30 holidays. -/
def manyH (s : SubD) : Bool := decide (30 < s.hol.length)
set_option maxHeartbeats 2000000 in
theorem many_any (s : SubD) (v : Value) (w : World) (h : RSub w.heap.size w v s) : Calls Try.prog 19 #[v] w fun e w' => e = .returned (.bool (manyH s)) ∧ Below w.heap.size w w' := by
  obtain ⟨u, rfl, hsp⟩ := h
  obtain ⟨A, c, rfl, hlm, -⟩ := spans_later hsp
  obtain ⟨n, hn⟩ : ∃ n, s.hol.length = n := ⟨_, rfl⟩
  have HE : Hid (manyH s = decide ((30 : Int) < (n : Int))) := by show _ = _; unfold manyH; rw [hn]; exact decide_eq_decide.2 ⟨fun h => by omega, fun h => by omega⟩
  rw [hn] at hlm ⊢
  have F0 : ∃ W0, w.alloc (.cells #[.int .i64 s.id, .int .i64 s.from_, .int .i64 s.to_, .int .i64 s.days, .slice A n c] 42) = W0 ∧ Hid (Below w.heap.size w W0) ∧ Hid (Blk W0 w.heap.size 42 #[.int .i64 s.id, .int .i64 s.from_, .int .i64 s.to_, .int .i64 s.days, .slice A n c]) := ⟨_, rfl, below_alloc _ _, Blk.new _ _ _⟩
  obtain ⟨W0, e0, HB0, HK0⟩ := F0
  have E0 := Lib.hid e0
  obtain ⟨p, hp⟩ : ∃ p, w.heap.size = p := ⟨_, rfl⟩
  have HP := Lib.hid hp
  rw [hp] at HK0
  have z4 := cellOf HK0.out 4 (x := .slice A n c) rfl
  clear hsp hn e0 hp
  by_cases h3 : (30 : Int) < (n : Int)
  · have g3 : decide ((30 : Int) < (n : Int)) = true := by simpa using h3
    have HX : Hid (manyH s = true) := HE.out.trans g3
    clear h3
    go_enter Try.func19, Try.ntmps19
    go_upto_region 1 with fail
    rw [E0.out, HP.out]
    clear E0
    go_wp2_with fail
    go_ret
    exact ⟨rb HX.out, HB0.out⟩
  · have g3 : decide ((30 : Int) < (n : Int)) = false := by simpa using h3
    have HX : Hid (manyH s = false) := HE.out.trans g3
    clear h3
    go_enter Try.func19, Try.ntmps19
    go_upto_region 1 with fail
    rw [E0.out, HP.out]
    clear E0
    go_wp2_with fail
    go_ret
    exact ⟨rb HX.out, HB0.out⟩
set_option maxRecDepth 100000 in
set_option maxHeartbeats 4000000 in
theorem indexMany_any (l : List SubD) (v : Value) (w : World) (h : RSubs w.heap.size w v l) :
    Calls Try.prog 59 #[v, .func (.func 19) #[] #[]] w fun e w' => ∃ r : Int, e = .returned (.int .i64 r) ∧ decide (0 ≤ r) = l.any manyH ∧ Below w.heap.size w w' := by
  obtain ⟨A, c, rfl, hlm, HD⟩ := subs_later h
  obtain ⟨n, hn⟩ : ∃ n, l.length = n := ⟨_, rfl⟩
  have HN := Lib.hid hn
  rw [hn] at hlm ⊢
  obtain ⟨B, hB⟩ : ∃ z, l.any manyH = z := ⟨_, rfl⟩
  have HB := Lib.hid hB
  rw [hB]
  clear h hn hB
  go_enter Try.func59, Try.ntmps59
  go_wp2_with fail
  go_loopw [8] (fun i wr => ∃ k : Nat, k ≤ n ∧ i = .int .i64 k ∧ Hid ((l.take k).any manyH = false) ∧ Hid (Below w.heap.size w wr)) (fun i _ => n - (intOf i).toNat)
  case atStart => exact ⟨0, Nat.zero_le _, rfl, rfl, Below.refl _ _⟩
  case round =>
  obtain ⟨k, hk, rfl, hA, hB⟩ := hrel
  obtain ⟨X, rfl⟩ : ∃ X : World, X = wr := ⟨_, rfl⟩
  by_cases hlt : k < n
  · obtain ⟨x, hx⟩ : ∃ x, l[k]? = some x := ⟨_, List.getElem?_eq_getElem (by rw [HN.out]; exact hlt)⟩
    obtain ⟨g, o, u, rfl, HX⟩ := HD.out k x hx
    obtain ⟨⟨c0, c1, c2', c3, c4⟩, hrs⟩ := HX.out X hB.out
    have CM := Lib.hid (many_any x _ X hrs)
    obtain ⟨mb, hmb⟩ : ∃ z, manyH x = z := ⟨_, rfl⟩
    rw [hmb] at CM
    have HYES : Hid (mb = true → B = true) := fun h => by
      rw [← HB.out, List.any_eq_true]
      exact ⟨x, List.mem_of_getElem? hx, hmb.trans h⟩
    have HNO : Hid (mb = false → (l.take (k + 1)).any manyH = false) := fun h => any_next hA hx (hmb.trans h)
    have k0 : (0 : Int) ≤ (k : Int) := by omega
    have k1 : (k : Int) < (n : Int) := by omega
    clear hx HX hrs hmb hA
    go_wp2_with fail
    refine CM.out.mono ?_
    rintro _ X2 ⟨rfl, hb2⟩
    have HB2 : Hid (Below w.heap.size w X2) := hB.out.trans (hb2.mono hB.out.size)
    clear CM hb2 c0 c1 c2' c3 c4 hB
    cases mb with
    | true =>
      have HX := Lib.hid (HYES.out rfl)
      clear HYES HNO
      go_wp2_with fail
      go_ret
      exact ⟨_, rfl, by rw [HX.out]; exact decide_eq_true k0, HB2.out⟩
    | false =>
      have HX := Lib.hid (HNO.out rfl)
      clear HYES HNO
      go_wp2_with fail
      go_roundw
      case rel => exact ⟨k + 1, by omega, by go_num, HX, HB2⟩
      case measure => simp [intOf]; omega
  · have HX : Hid (B = false) := by
      have h1 := hA.out
      rw [List.take_of_length_le (by rw [HN.out]; omega)] at h1
      exact HB.out.symm.trans h1
    clear hA
    go_wp2_with fail
    go_ret
    exact ⟨-1, rfl, by rw [HX.out]; rfl, hB.out⟩
set_option maxHeartbeats 2000000 in
theorem containsMany_any (l : List SubD) (v : Value) (w : World) (h : RSubs w.heap.size w v l) :
    Calls Try.prog 18 #[v, .func (.func 19) #[] #[]] w fun e w' => e = .returned (.bool (l.any manyH)) ∧ Below w.heap.size w w' := by
  have C := Lib.hid (indexMany_any l v w h)
  obtain ⟨B, hB⟩ : ∃ z, l.any manyH = z := ⟨_, rfl⟩
  rw [hB] at C ⊢
  clear h hB
  go_enter Try.func18, Try.ntmps18
  go_wp2_with fail
  refine C.out.mono ?_
  rintro _ X ⟨r, rfl, hr, hb⟩
  have HBX := Lib.hid hb
  clear hb C
  go_wp2_with fail
  go_ret
  exact ⟨rb (by first | rfl | exact hr.symm), HBX.out⟩
set_option maxRecDepth 100000 in
set_option maxHeartbeats 4000000 in
theorem sameSub_any (s : SubD) (v v2 : Value) (w : World) (h : RSub w.heap.size w v s) (h2 : RSub w.heap.size w v2 s) : Calls Try.prog 69 #[v, v2] w fun e w' => e = .returned (.bool true) ∧ Below w.heap.size w w' := by
  obtain ⟨u, rfl, hsp⟩ := h
  obtain ⟨u2, rfl, hsp2⟩ := h2
  have HS1 := Lib.hid hsp
  have HS2 := Lib.hid hsp2
  obtain ⟨A, c, rfl, -, -⟩ := spans_later hsp
  obtain ⟨A2, c2, rfl, -, -⟩ := spans_later hsp2
  obtain ⟨n, hn⟩ : ∃ n, s.hol.length = n := ⟨_, rfl⟩
  rw [hn] at HS1 HS2 ⊢
  obtain ⟨i, hi⟩ : ∃ x, s.id = x := ⟨_, rfl⟩
  obtain ⟨f, hf⟩ : ∃ x, s.from_ = x := ⟨_, rfl⟩
  obtain ⟨t, ht⟩ : ∃ x, s.to_ = x := ⟨_, rfl⟩
  obtain ⟨d, hd⟩ : ∃ x, s.days = x := ⟨_, rfl⟩
  rw [hi, hf, ht, hd]
  have F0 : ∃ W0, (w.alloc (.cells #[.int .i64 i, .int .i64 f, .int .i64 t, .int .i64 d, .slice A n c] 42)).alloc (.cells #[.int .i64 i, .int .i64 f, .int .i64 t, .int .i64 d, .slice A2 n c2] 42) = W0 ∧ Hid (Below w.heap.size w W0) ∧ Hid (Blk W0 w.heap.size 42 #[.int .i64 i, .int .i64 f, .int .i64 t, .int .i64 d, .slice A n c] ∧ Blk W0 (w.heap.size + 1) 42 #[.int .i64 i, .int .i64 f, .int .i64 t, .int .i64 d, .slice A2 n c2]) :=
    ⟨_, rfl, sbelow_al (below_alloc _ _) _, (Blk.new _ _ _).alloc _, blk_new (by simp) _ _⟩
  obtain ⟨W0, e0, HB0, HK0⟩ := F0
  have E0 := Lib.hid e0
  obtain ⟨p, hp⟩ : ∃ p, w.heap.size = p := ⟨_, rfl⟩
  have HP := Lib.hid hp
  rw [hp] at HK0
  have CE : Hid (Calls Try.prog 70 #[.slice A n c, .slice A2 n c2] W0 fun e w' => e = .returned (.bool true) ∧ Below W0.heap.size W0 w') := Lib.hid (by
    have h1 := eqLSpn_any (.slice A n c) (.slice A2 n c2) s.hol s.hol W0 ((Rd.below HS1.out HB0.out).more HB0.out.size) ((Rd.below HS2.out HB0.out).more HB0.out.size)
    simpa using h1)
  have z0 := cellOf HK0.out.1 0 (x := .int .i64 i) rfl
  have z1 := cellOf HK0.out.1 1 (x := .int .i64 f) rfl
  have z2 := cellOf HK0.out.1 2 (x := .int .i64 t) rfl
  have z3 := cellOf HK0.out.1 3 (x := .int .i64 d) rfl
  have z4 := cellOf HK0.out.1 4 (x := .slice A n c) rfl
  have y0 := cellOf HK0.out.2 0 (x := .int .i64 i) rfl
  have y1 := cellOf HK0.out.2 1 (x := .int .i64 f) rfl
  have y2 := cellOf HK0.out.2 2 (x := .int .i64 t) rfl
  have y3 := cellOf HK0.out.2 3 (x := .int .i64 d) rfl
  have y4 := cellOf HK0.out.2 4 (x := .slice A2 n c2) rfl
  have gi : (i == i) = true := by simp
  have gf : (f == f) = true := by simp
  have gt : (t == t) = true := by simp
  have gd : (d == d) = true := by simp
  clear hsp hsp2 hn hi hf ht hd e0 hp
  go_enter Try.func69, Try.ntmps69
  go_upto_region 1 with fail
  rw [E0.out, HP.out]
  clear E0
  go_wp2_with fail
  refine CE.out.mono ?_
  rintro _ X ⟨rfl, hb⟩
  have HBX : Hid (Below w.heap.size w X) := HB0.out.trans (hb.mono HB0.out.size)
  clear hb CE z0 z1 z2 z3 z4 y0 y1 y2 y3 y4
  go_wp2_with fail
  go_ret
  exact ⟨rfl, HBX.out⟩
set_option maxRecDepth 100000 in
set_option maxHeartbeats 4000000 in
theorem sameSubs_any (l : List SubD) (v v2 : Value) (w : World) (h : RSubs w.heap.size w v l) (h2 : RSubs w.heap.size w v2 l) :
    Calls Try.prog 68 #[v, v2, .func (.func 69) #[] #[]] w fun e w' => e = .returned (.bool true) ∧ Below w.heap.size w w' := by
  obtain ⟨A, c, rfl, hlm, HD⟩ := subs_later h
  obtain ⟨A2, c2, rfl, -, HE⟩ := subs_later h2
  obtain ⟨n, hn⟩ : ∃ n, l.length = n := ⟨_, rfl⟩
  have HN := Lib.hid hn
  rw [hn] at hlm ⊢
  have gn : ((n : Int) != (n : Int)) = false := by simp
  clear h h2 hn
  go_enter Try.func68, Try.ntmps68
  go_wp2_with fail
  go_loopw [17] (fun i wr => ∃ k : Nat, k ≤ n ∧ i = .int .i64 k ∧ Hid (Below w.heap.size w wr)) (fun i _ => n - (intOf i).toNat)
  case atStart => exact ⟨0, Nat.zero_le _, rfl, Below.refl _ _⟩
  case round =>
  obtain ⟨k, hk, rfl, hB⟩ := hrel
  obtain ⟨X, rfl⟩ : ∃ X : World, X = wr := ⟨_, rfl⟩
  by_cases hlt : k < n
  · obtain ⟨x, hx⟩ : ∃ x, l[k]? = some x := ⟨_, List.getElem?_eq_getElem (by rw [HN.out]; exact hlt)⟩
    obtain ⟨g, o, u, rfl, HX⟩ := HD.out k x hx
    obtain ⟨g2, o2, u2, rfl, HY⟩ := HE.out k x hx
    obtain ⟨Au, nu, cu, rfl⟩ := sub_slice (w := w) (HX.out X hB.out).2
    obtain ⟨Au2, nu2, cu2, rfl⟩ := sub_slice (w := w) (HY.out X hB.out).2
    obtain ⟨i, hi⟩ : ∃ z, x.id = z := ⟨_, rfl⟩
    obtain ⟨f, hf⟩ : ∃ z, x.from_ = z := ⟨_, rfl⟩
    obtain ⟨t, ht⟩ : ∃ z, x.to_ = z := ⟨_, rfl⟩
    obtain ⟨d, hd⟩ : ∃ z, x.days = z := ⟨_, rfl⟩
    rw [hi, hf, ht, hd] at HX HY
    obtain ⟨⟨c0, c1, c2', c3, c4⟩, -⟩ := HX.out X hB.out
    have F1 : ∃ X1, X.alloc (.cells #[.int .i64 i, .int .i64 f, .int .i64 t, .int .i64 d, .slice Au nu cu] 42) = X1 ∧ Hid (Below X.heap.size X X1) ∧ Hid (Blk X1 X.heap.size 42 #[.int .i64 i, .int .i64 f, .int .i64 t, .int .i64 d, .slice Au nu cu]) := ⟨_, rfl, below_alloc _ _, Blk.new _ _ _⟩
    obtain ⟨X1, e1, HX1, HK1⟩ := F1
    have E1 := Lib.hid e1
    have HB1 : Hid (Below w.heap.size w X1) := hB.out.trans (HX1.out.mono hB.out.size)
    obtain ⟨⟨b0, b1, b2', b3, b4⟩, -⟩ := HY.out X1 HB1.out
    have F2 : ∃ X2, X1.alloc (.cells #[.int .i64 i, .int .i64 f, .int .i64 t, .int .i64 d, .slice Au2 nu2 cu2] 42) = X2 ∧ Hid (Below X1.heap.size X1 X2) ∧ Hid (Blk X2 X1.heap.size 42 #[.int .i64 i, .int .i64 f, .int .i64 t, .int .i64 d, .slice Au2 nu2 cu2]) := ⟨_, rfl, below_alloc _ _, Blk.new _ _ _⟩
    obtain ⟨X2, e2, HX2, HK2⟩ := F2
    have E2 := Lib.hid e2
    have HB2 : Hid (Below w.heap.size w X2) := HB1.out.trans (HX2.out.mono HB1.out.size)
    have HK12 : Hid (Blk X2 X.heap.size 42 #[.int .i64 i, .int .i64 f, .int .i64 t, .int .i64 d, .slice Au nu cu]) := HK1.out.below HX2.out HK1.out.lt
    have CS : Hid (Calls Try.prog 69 #[.agg #[.int .i64 i, .int .i64 f, .int .i64 t, .int .i64 d, .slice Au nu cu], .agg #[.int .i64 i, .int .i64 f, .int .i64 t, .int .i64 d, .slice Au2 nu2 cu2]] X2 fun e w' => e = .returned (.bool true) ∧ Below X2.heap.size X2 w') := Lib.hid (sameSub_any x _ _ X2 (HX.out X2 HB2.out).2 (HY.out X2 HB2.out).2)
    obtain ⟨q, hq⟩ : ∃ q, X.heap.size = q := ⟨_, rfl⟩
    obtain ⟨q2, hq2⟩ : ∃ q, X1.heap.size = q := ⟨_, rfl⟩
    rw [hq] at HK12
    rw [hq2] at HK2
    have HQ := Lib.hid hq
    have HQ2 := Lib.hid hq2
    have d0 := cellOf HK12.out 0 (x := .int .i64 i) rfl
    have d1 := cellOf HK12.out 1 (x := .int .i64 f) rfl
    have d2 := cellOf HK12.out 2 (x := .int .i64 t) rfl
    have d3 := cellOf HK12.out 3 (x := .int .i64 d) rfl
    have d4 := cellOf HK12.out 4 (x := .slice Au nu cu) rfl
    have y0 := cellOf HK2.out 0 (x := .int .i64 i) rfl
    have y1 := cellOf HK2.out 1 (x := .int .i64 f) rfl
    have y2 := cellOf HK2.out 2 (x := .int .i64 t) rfl
    have y3 := cellOf HK2.out 3 (x := .int .i64 d) rfl
    have y4 := cellOf HK2.out 4 (x := .slice Au2 nu2 cu2) rfl
    have k0 : (0 : Int) ≤ (k : Int) := by omega
    have k1 : (k : Int) < (n : Int) := by omega
    clear hx hi hf ht hd HX HY e1 e2 hq hq2 hB HX1 HX2 HB1 HK1
    go_upto_region 6 with fail
    rw [E1.out, HQ.out]
    clear E1 c0 c1 c2' c3 c4
    go_upto_region 7 with fail
    rw [E2.out, HQ2.out]
    clear E2 b0 b1 b2' b3 b4
    go_wp2_with fail
    refine CS.out.mono ?_
    rintro _ X3 ⟨rfl, hb3⟩
    have HB3 : Hid (Below w.heap.size w X3) := HB2.out.trans (hb3.mono HB2.out.size)
    clear CS hb3 d0 d1 d2 d3 d4 y0 y1 y2 y3 y4
    go_wp2_with fail
    go_roundw
    case rel => exact ⟨k + 1, by omega, by go_num, HB3⟩
    case measure => simp [intOf]; omega
  · go_wp2_with fail
    go_ret
    exact ⟨rfl, hB.out⟩
end Go.Proofs.Ytlmpbmlbllndcaa
