/-
  Schedule, Prices; the examples of the chapter.
-/
import Derived.Test.YtpkepacbondopaaMh
import Derived.Test.YtpkepacbondopaaMk
import Derived.Test.YtpkepacbondopaaMd
import Derived.Test.YtpkepacbondopaaGd
namespace Go.Proofs.Ytpkepacbondopaa
open Go.RowKit
attribute [local go_sem] Oper.semAt_some

/-- What Schedule answers. -/
def SchedRet (s : SupD) (w : World) (e : Ending) (w' : World) : Prop :=
  ∃ u, e = .returned (.tuple #[u, .int .i64 (if checkS s = 0 then cheapOf s else 0), .int .i64 (checkS s)]) ∧ OInts w.heap.size w' u (if checkS s = 0 then weeksOf s else []) ∧ Below w.heap.size w w'
/-- What Prices answers. -/
def PricesRet (s : SupD) (w : World) (e : Ending) (w' : World) : Prop :=
  ∃ u, e = .returned (.tuple #[u, .int .i64 (checkS s)]) ∧ OInts w.heap.size w' u (if checkS s = 0 then pricesTo s s.need.length else []) ∧ Below w.heap.size w w'
set_option maxRecDepth 100000 in
set_option maxHeartbeats 2000000 in
theorem Schedule_any (s : SupD) (v : Value) (w : World) (h : RSup w.heap.size w v s) :
    Calls Try.prog 33 #[v] w (SchedRet s w) := by
  obtain ⟨vn, vo, rfl, hN, hO⟩ := id h
  obtain ⟨An, cn, rfl, -, -⟩ := hN.open_
  obtain ⟨Ao, co, rfl, -, -⟩ := hO.open_
  have HP := Lib.hid h
  clear h hN hO
  have F0 : ∃ W0, w.alloc (.cells #[.slice An s.need.length cn, .slice Ao s.order.length co, .int .i64 s.keep, .int .i64 s.room] 33) = W0 ∧ Below w.heap.size w W0 ∧ Blk W0 w.heap.size 33 #[.slice An s.need.length cn, .slice Ao s.order.length co, .int .i64 s.keep, .int .i64 s.room] := ⟨_, rfl, below_alloc _ _, Blk.new _ _ _⟩
  obtain ⟨W0, e0, hb0, B0⟩ := F0
  have E0 := Lib.hid e0
  have HB0 := Lib.hid hb0
  have HK0 := Lib.hid B0
  have m0 := cellOf B0 0 (x := .slice An s.need.length cn) rfl
  have m1 := cellOf B0 1 (x := .slice Ao s.order.length co) rfl
  have m2 := cellOf B0 2 (x := .int .i64 s.keep) rfl
  have m3 := cellOf B0 3 (x := .int .i64 s.room) rfl
  clear e0 hb0 B0
  obtain ⟨ce, hce⟩ : ∃ e, checkS s = e := ⟨_, rfl⟩
  have CC := CheckSupply_any s _ W0 ((RSup.below HP.out HB0.out).more HB0.out.size)
  rw [hce] at CC
  have HCE := Lib.hid hce
  clear hce
  go_enter Try.func33, Try.ntmps33
  go_upto_region 1 with fail
  rw [E0.out]
  go_wp2_with fail
  refine CC.mono ?_
  rintro _ W1 ⟨rfl, hb1⟩
  have m0 := cellOf (HK0.out.below hb1 HK0.out.lt) 0 (x := .slice An s.need.length cn) rfl
  have m1 := cellOf (HK0.out.below hb1 HK0.out.lt) 1 (x := .slice Ao s.order.length co) rfl
  have m2 := cellOf (HK0.out.below hb1 HK0.out.lt) 2 (x := .int .i64 s.keep) rfl
  have m3 := cellOf (HK0.out.below hb1 HK0.out.lt) 3 (x := .int .i64 s.room) rfl
  have HB1 : Hid (Below w.heap.size w W1) := HB0.out.trans (hb1.mono HB0.out.size)
  clear hb1 CC
  by_cases hc : ce = 0
  case neg =>
    have hc' : (ce != 0) = true := by simpa using hc
    have HX : Hid (SchedRet s w (.returned (.tuple #[.slice none 0 0, .int .i64 0, .int .i64 ce])) W1) := ⟨.slice none 0 0, by rw [HCE.out, if_neg hc], by rw [HCE.out, if_neg hc]; exact World.ownsRow_nil _ _ _ _, HB1.out⟩
    go_wp2_with fail
    go_ret3
    exact HX.out
  subst hc
  have hok := checkS_ok HCE.out
  have CR := cheapest_any s hok _ W1 ((RSup.below HP.out HB1.out).more HB1.out.size)
  go_wp2_with fail
  refine CR.mono ?_
  rintro _ W2 ⟨u, rfl, hO, hb2⟩
  have HX : Hid (SchedRet s w (.returned (.tuple #[u, .int .i64 (cheapOf s), .int .i64 0])) W2) := ⟨u, by rw [HCE.out, if_pos rfl], by rw [HCE.out, if_pos rfl]; exact ownsRow_base hO HB1.out.size, HB1.out.trans (hb2.mono HB1.out.size)⟩
  clear hb2 CR m0 m1 m2 m3 hO
  go_wp2_with fail
  go_ret3
  exact HX.out
set_option maxRecDepth 100000 in
set_option maxHeartbeats 2000000 in
theorem Prices_any (s : SupD) (v : Value) (w : World) (h : RSup w.heap.size w v s) :
    Calls Try.prog 34 #[v] w (PricesRet s w) := by
  obtain ⟨vn, vo, rfl, hN, hO⟩ := id h
  obtain ⟨An, cn, rfl, -, -⟩ := hN.open_
  obtain ⟨Ao, co, rfl, -, -⟩ := hO.open_
  have HP := Lib.hid h
  clear h hN hO
  have F0 : ∃ W0, w.alloc (.cells #[.slice An s.need.length cn, .slice Ao s.order.length co, .int .i64 s.keep, .int .i64 s.room] 33) = W0 ∧ Below w.heap.size w W0 ∧ Blk W0 w.heap.size 33 #[.slice An s.need.length cn, .slice Ao s.order.length co, .int .i64 s.keep, .int .i64 s.room] := ⟨_, rfl, below_alloc _ _, Blk.new _ _ _⟩
  obtain ⟨W0, e0, hb0, B0⟩ := F0
  have E0 := Lib.hid e0
  have HB0 := Lib.hid hb0
  have HK0 := Lib.hid B0
  have m0 := cellOf B0 0 (x := .slice An s.need.length cn) rfl
  have m1 := cellOf B0 1 (x := .slice Ao s.order.length co) rfl
  have m2 := cellOf B0 2 (x := .int .i64 s.keep) rfl
  have m3 := cellOf B0 3 (x := .int .i64 s.room) rfl
  clear e0 hb0 B0
  obtain ⟨ce, hce⟩ : ∃ e, checkS s = e := ⟨_, rfl⟩
  have CC := CheckSupply_any s _ W0 ((RSup.below HP.out HB0.out).more HB0.out.size)
  rw [hce] at CC
  have HCE := Lib.hid hce
  clear hce
  go_enter Try.func34, Try.ntmps34
  go_upto_region 1 with fail
  rw [E0.out]
  go_wp2_with fail
  refine CC.mono ?_
  rintro _ W1 ⟨rfl, hb1⟩
  have m0 := cellOf (HK0.out.below hb1 HK0.out.lt) 0 (x := .slice An s.need.length cn) rfl
  have m1 := cellOf (HK0.out.below hb1 HK0.out.lt) 1 (x := .slice Ao s.order.length co) rfl
  have m2 := cellOf (HK0.out.below hb1 HK0.out.lt) 2 (x := .int .i64 s.keep) rfl
  have m3 := cellOf (HK0.out.below hb1 HK0.out.lt) 3 (x := .int .i64 s.room) rfl
  have HB1 : Hid (Below w.heap.size w W1) := HB0.out.trans (hb1.mono HB0.out.size)
  clear hb1 CC
  by_cases hc : ce = 0
  case neg =>
    have hc' : (ce != 0) = true := by simpa using hc
    have HX : Hid (PricesRet s w (.returned (.tuple #[.slice none 0 0, .int .i64 ce])) W1) := ⟨.slice none 0 0, by rw [HCE.out], by rw [HCE.out, if_neg hc]; exact World.ownsRow_nil _ _ _ _, HB1.out⟩
    go_wp2_with fail
    go_ret2
    exact HX.out
  subst hc
  have hok := checkS_ok HCE.out
  have CR := prices_any s hok _ W1 ((RSup.below HP.out HB1.out).more HB1.out.size)
  go_wp2_with fail
  refine CR.mono ?_
  rintro _ W2 ⟨u, rfl, hO, hb2⟩
  have HX : Hid (PricesRet s w (.returned (.tuple #[u, .int .i64 0])) W2) := ⟨u, by rw [HCE.out], by rw [HCE.out, if_pos rfl]; exact ownsRow_base hO HB1.out.size, HB1.out.trans (hb2.mono HB1.out.size)⟩
  clear hb2 CR m0 m1 m2 m3 hO
  go_wp2_with fail
  go_ret2
  exact HX.out

theorem rd_blk {w : World} {b n c k : Nat} {t : TypeId} {xs : List Value} (h : Blk w b t xs.toArray) (hl : xs.length = n * k) (hn : n ≤ 1000000) : Rd w.heap.size w k (.slice (some ⟨b, 0, none⟩) n c) n xs := by
  refine ⟨_, _, rfl, hl, by simp only [maxLen]; omega, fun _ => ⟨b, 0, rfl, h.lt, fun j u hu => ?_⟩⟩
  rw [h.cell, Nat.zero_add]
  simpa using hu
def exD : PressD := ⟨500, 1, [⟨[⟨1, 1400, 10000, 200⟩, ⟨2, 1400, 10000, 200⟩], 0, 100, 200⟩]⟩
def supD : SupD := ⟨[2, 1, 3], [10, 10, 10], 2, 5⟩
def ExRet (w : World) (e : Ending) (w' : World) : Prop := ∃ u, e = .returned u ∧ RPress w'.heap.size w' u exD ∧ Below w.heap.size w w'
def SuRet (w : World) (e : Ending) (w' : World) : Prop := ∃ u, e = .returned u ∧ RSup w'.heap.size w' u supD ∧ Below w.heap.size w w'
theorem sup_check : checkS supD = 0 := by decide +kernel
theorem sup_weeks : weeksOf supD = [0, 2] := by decide +kernel
theorem sup_cheap : cheapOf supD = 22 := by decide +kernel
theorem sup_prices : pricesTo supD 3 = [0, 10, 12, 22] := by decide +kernel
theorem ex_check : checkE exD = 0 := by decide +kernel
theorem ex_reach : exD.reach = 39 := by decide +kernel
theorem ex_copies : copiesE exD 39 = 0 := by decide +kernel
theorem ex_thrown {l : List Sp} (h : exD.ThrownIs 39 l) : l = [⟨18, 20⟩] := by
  refine PressD.ThrownIs.one h ⟨⟨fun s hs => ?_, List.pairwise_singleton _ _⟩, fun k => ?_⟩
  · rw [List.mem_singleton.1 hs]; decide
  · rw [cov_one]
    constructor
    · rintro ⟨h1, h2⟩
      simp only at h1 h2
      exact ⟨by omega, _, List.mem_singleton.2 rfl, by decide, 9800, by decide +kernel, h1, h2⟩
    · rintro ⟨-, x, hx, -, a, ha, h1, h2⟩
      rw [List.mem_singleton.1 hx] at ha h1 h2
      have ha' : a = 9800 := by
        have h9 : a ∈ ([9800] : List Int) := ha
        exact List.mem_singleton.1 h9
      subst ha'
      have e1 : (exD.span ⟨[⟨1, 1400, 10000, 200⟩, ⟨2, 1400, 10000, 200⟩], 0, 100, 200⟩ 9800) = ⟨18, 20⟩ := by decide +kernel
      rw [e1] at h1 h2
      exact ⟨h1, h2⟩
theorem ex_run : runL 19 [⟨18, 20⟩] = 22 := by decide +kernel
set_option maxHeartbeats 1000000 in
theorem supply_any (w : World) : Calls Try.prog 56 #[] w (SuRet w) := by
  have F : ∃ W, ((w.alloc (.cells #[.slice (some ⟨w.heap.size + 1, 0, none⟩) 3 3, .slice (some ⟨w.heap.size + 1 + 1, 0, none⟩) 3 3, .int .i64 2, .int .i64 5] 33)).alloc (.cells #[.int .i64 2, .int .i64 1, .int .i64 3] 3)).alloc (.cells #[.int .i64 10, .int .i64 10, .int .i64 10] 3) = W ∧ Below w.heap.size w W ∧
      Blk W w.heap.size 33 #[.slice (some ⟨w.heap.size + 1, 0, none⟩) 3 3, .slice (some ⟨w.heap.size + 1 + 1, 0, none⟩) 3 3, .int .i64 2, .int .i64 5] ∧ Blk W (w.heap.size + 1) 3 #[.int .i64 2, .int .i64 1, .int .i64 3] ∧ Blk W (w.heap.size + 1 + 1) 3 #[.int .i64 10, .int .i64 10, .int .i64 10] :=
    ⟨_, rfl, (((Below.refl _ _).alloc (Nat.le_refl _) _).alloc (by simp) _).alloc (by simp; omega) _, ((Blk.new _ _ _).alloc _).alloc _, (blk_new (by simp) _ _).alloc _, blk_new (by simp) _ _⟩
  obtain ⟨W, e, hb, k0, k1, k2⟩ := F
  have HX : Hid (SuRet w (.returned (.agg #[.slice (some ⟨w.heap.size + 1, 0, none⟩) 3 3, .slice (some ⟨w.heap.size + 1 + 1, 0, none⟩) 3 3, .int .i64 2, .int .i64 5])) W) :=
    ⟨_, rfl, ⟨_, _, rfl, rd_blk (n := 3) (k := 1) (xs := [.int .i64 2, .int .i64 1, .int .i64 3]) k1 rfl (by omega), rd_blk (n := 3) (k := 1) (xs := [.int .i64 10, .int .i64 10, .int .i64 10]) k2 rfl (by omega)⟩, hb⟩
  have c0 := cellOf k0 0 (x := .slice (some ⟨w.heap.size + 1, 0, none⟩) 3 3) rfl
  have c1 := cellOf k0 1 (x := .slice (some ⟨w.heap.size + 1 + 1, 0, none⟩) 3 3) rfl
  have c2 := cellOf k0 2 (x := .int .i64 2) rfl
  have c3 := cellOf k0 3 (x := .int .i64 5) rfl
  have E := Lib.hid e
  clear e hb k0 k1 k2
  go_enter Try.func56, Try.ntmps56
  go_wp2_with fail
  rw [E.out]
  exact bodyPost_ret (v := .agg #[.slice (some ⟨w.heap.size + 1, 0, none⟩) 3 3, .slice (some ⟨w.heap.size + 1 + 1, 0, none⟩) 3 3, .int .i64 2, .int .i64 5]) (by simp [results, Try.results56, go_sem, c0, c1, c2, c3]) rfl HX.out
set_option maxHeartbeats 1000000 in
theorem example_any (w : World) : Calls Try.prog 55 #[] w (ExRet w) := by
  have F : ∃ W, ((w.alloc (.cells #[.int .i64 500, .int .i64 1, .slice (some ⟨w.heap.size + 1 + 1, 0, none⟩) 1 1] 24)).alloc (.cells #[.int .i64 1, .int .i64 1400, .int .i64 10000, .int .i64 200, .int .i64 2, .int .i64 1400, .int .i64 10000, .int .i64 200] 58)).alloc (.cells #[.slice (some ⟨w.heap.size + 1, 0, none⟩) 2 2, .int .i64 0, .int .i64 100, .int .i64 200] 47) = W ∧ Below w.heap.size w W ∧
      Blk W w.heap.size 24 #[.int .i64 500, .int .i64 1, .slice (some ⟨w.heap.size + 1 + 1, 0, none⟩) 1 1] ∧ Blk W (w.heap.size + 1) 58 #[.int .i64 1, .int .i64 1400, .int .i64 10000, .int .i64 200, .int .i64 2, .int .i64 1400, .int .i64 10000, .int .i64 200] ∧ Blk W (w.heap.size + 1 + 1) 47 #[.slice (some ⟨w.heap.size + 1, 0, none⟩) 2 2, .int .i64 0, .int .i64 100, .int .i64 200] :=
    ⟨_, rfl, (((Below.refl _ _).alloc (Nat.le_refl _) _).alloc (by simp) _).alloc (by simp; omega) _, ((Blk.new _ _ _).alloc _).alloc _, (blk_new (by simp) _ _).alloc _, blk_new (by simp) _ _⟩
  obtain ⟨W, e, hb, k0, k1, k2⟩ := F
  have HX : Hid (ExRet w (.returned (.agg #[.int .i64 500, .int .i64 1, .slice (some ⟨w.heap.size + 1 + 1, 0, none⟩) 1 1])) W) := by
    refine ⟨_, rfl, ⟨_, rfl, [.slice (some ⟨w.heap.size + 1, 0, none⟩) 2 2], rd_blk (n := 1) (k := 4) (xs := [.slice (some ⟨w.heap.size + 1, 0, none⟩) 2 2, .int .i64 0, .int .i64 100, .int .i64 200]) k2 rfl (by omega), rfl, fun i u x hu hx => ?_⟩, hb⟩
    match i with
    | 0 =>
      simp only [List.getElem?_cons_zero, Option.some.injEq] at hu
      have hx' : (⟨[⟨1, 1400, 10000, 200⟩, ⟨2, 1400, 10000, 200⟩], 0, 100, 200⟩ : WebD) = x := by simpa [exD] using hx
      subst hu
      subst hx'
      exact rd_blk (n := 2) (k := 4) (xs := [.int .i64 1, .int .i64 1400, .int .i64 10000, .int .i64 200, .int .i64 2, .int .i64 1400, .int .i64 10000, .int .i64 200]) k1 rfl (by omega)
    | i + 1 => simp at hu
  have c0 := cellOf k0 0 (x := .int .i64 500) rfl
  have c1 := cellOf k0 1 (x := .int .i64 1) rfl
  have c2 := cellOf k0 2 (x := .slice (some ⟨w.heap.size + 1 + 1, 0, none⟩) 1 1) rfl
  have E := Lib.hid e
  clear e hb k0 k1 k2
  go_enter Try.func55, Try.ntmps55
  go_wp2_with fail
  rw [E.out]
  exact bodyPost_ret (v := .agg #[.int .i64 500, .int .i64 1, .slice (some ⟨w.heap.size + 1 + 1, 0, none⟩) 1 1]) (by simp [results, Try.results55, go_sem, c0, c1, c2]) rfl HX.out
end Go.Proofs.Ytpkepacbondopaa
