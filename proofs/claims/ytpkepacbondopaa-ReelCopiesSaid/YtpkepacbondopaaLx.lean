/-
  checkCopies, Reach, Thrown, Run.
-/
import Derived.Test.YtpkepacbondopaaLc
import Derived.Test.YtpkepacbondopaaLg
import Derived.Test.YtpkepacbondopaaLw
namespace Go.Proofs.Ytpkepacbondopaa
open Go.RowKit
attribute [local go_sem] Oper.semAt_some

def copiesE (p : PressD) (n : Int) : Int := if checkE p ≠ 0 then checkE p else if n < 0 then 6 else if p.reach < n then 70 else 0
theorem copiesE_ok {p : PressD} {n : Int} (h : copiesE p n = 0) : checkE p = 0 ∧ 0 ≤ n ∧ n ≤ p.reach := by
  unfold copiesE at h
  by_cases h1 : checkE p = 0
  · rw [if_neg (by simp [h1])] at h
    split at h
    · cases h
    split at h
    · cases h
    exact ⟨h1, by omega, by omega⟩
  · rw [if_pos h1] at h
    exact absurd h h1
theorem reachL_bound (cut : Int) (hc : 0 < cut) : ∀ l : List WebD, 0 ≤ reachL cut l ∧ reachL cut l ≤ 1000000 := by
  intro l
  obtain ⟨r, rfl⟩ : ∃ r, l = r.reverse := ⟨l.reverse, by simp⟩
  induction r with
  | nil => simp [reachL]
  | cons x r ih =>
    rw [List.reverse_cons, reachL_snoc]
    have h1 : 0 ≤ reach1 cut x := Int.ediv_nonneg (by omega) (by omega)
    omega
theorem reach_bound {p : PressD} (hp : p.Ok) : 0 ≤ p.reach ∧ p.reach ≤ 1000000 := reachL_bound p.cut (by have := hp.cut; omega) p.webs
set_option maxRecDepth 100000 in
set_option maxHeartbeats 2000000 in
theorem copies_any (p : PressD) (n : Int) (v : Value) (w : World) (h : RPress w.heap.size w v p) :
    Calls Try.prog 73 #[v, .int .i64 n] w fun e w' => e = .returned (.int .i64 (copiesE p n)) ∧ Below w.heap.size w w' := by
  obtain ⟨u, rfl, hw⟩ := id h
  obtain ⟨A, c, rfl, hlm, hr⟩ := hw.open_
  have HP := Lib.hid h
  clear h hr hw hlm
  have F0 : ∃ W0, w.alloc (.cells #[.int .i64 p.cut, .int .i64 p.margin, .slice A p.webs.length c] 24) = W0 ∧ Below w.heap.size w W0 ∧ Blk W0 w.heap.size 24 #[.int .i64 p.cut, .int .i64 p.margin, .slice A p.webs.length c] := ⟨_, rfl, below_alloc _ _, Blk.new _ _ _⟩
  obtain ⟨W0, e0, hb0, B0⟩ := F0
  have E0 := Lib.hid e0
  have HB0 := Lib.hid hb0
  have HK0 := Lib.hid B0
  have m0 := cellOf B0 0 (x := .int .i64 p.cut) rfl
  have m1 := cellOf B0 1 (x := .int .i64 p.margin) rfl
  have m2 := cellOf B0 2 (x := .slice A p.webs.length c) rfl
  clear e0 hb0 B0
  obtain ⟨cp, hcp⟩ : ∃ e, copiesE p n = e := ⟨_, rfl⟩
  rw [hcp]
  have HCP := Lib.hid hcp
  clear hcp
  obtain ⟨ce, hce⟩ : ∃ e, checkE p = e := ⟨_, rfl⟩
  have CC := Check_any p _ W0 ((HP.out.below HB0.out).more HB0.out.size)
  rw [hce] at CC
  have HCE := Lib.hid hce
  clear hce
  go_enter Try.func73, Try.ntmps73
  go_upto_region 1 with fail
  rw [E0.out]
  go_wp2_with fail
  refine CC.mono ?_
  rintro _ W1 ⟨rfl, hb1⟩
  have m0 := cellOf (HK0.out.below hb1 HK0.out.lt) 0 (x := .int .i64 p.cut) rfl
  have m1 := cellOf (HK0.out.below hb1 HK0.out.lt) 1 (x := .int .i64 p.margin) rfl
  have m2 := cellOf (HK0.out.below hb1 HK0.out.lt) 2 (x := .slice A p.webs.length c) rfl
  have HB1 : Hid (Below w.heap.size w W1) := HB0.out.trans (hb1.mono HB0.out.size)
  clear hb1 CC
  by_cases hc : ce = 0
  case neg =>
    have hc' : (ce != 0) = true := by simpa using hc
    obtain rfl : cp = ce := by rw [← HCP.out]; unfold copiesE; rw [HCE.out, if_pos hc]
    go_wp2_with fail
    go_ret
    exact ⟨rfl, HB1.out⟩
  subst hc
  have hok := checkE_ok HCE.out
  by_cases hn : n < 0
  · obtain rfl : cp = 6 := by rw [← HCP.out]; unfold copiesE; rw [HCE.out, if_neg (by simp), if_pos hn]
    go_wp2_with fail
    go_ret
    exact ⟨rfl, HB1.out⟩
  obtain ⟨re, hre⟩ : ∃ e, p.reach = e := ⟨_, rfl⟩
  have CR := reach_any p hok W1 _ ((HP.out.below HB1.out).more HB1.out.size)
  rw [hre] at CR
  have HRE := Lib.hid hre
  clear hre
  go_wp2_with fail
  refine CR.mono ?_
  rintro _ W2 ⟨rfl, hb2⟩
  have HB2 : Hid (Below w.heap.size w W2) := HB1.out.trans (hb2.mono HB1.out.size)
  clear hb2 CR m0 m1 m2
  by_cases hr : re < n
  · obtain rfl : cp = 70 := by rw [← HCP.out]; unfold copiesE; rw [HCE.out, HRE.out, if_neg (by simp), if_neg (by omega), if_pos hr]
    go_wp2_with fail
    go_ret
    exact ⟨rfl, HB2.out⟩
  · obtain rfl : cp = 0 := by rw [← HCP.out]; unfold copiesE; rw [HCE.out, HRE.out, if_neg (by simp), if_neg (by omega), if_neg hr]
    go_wp2_with fail
    go_ret
    exact ⟨rfl, HB2.out⟩
set_option maxRecDepth 100000 in
set_option maxHeartbeats 2000000 in
theorem Reach_any (p : PressD) (v : Value) (w : World) (h : RPress w.heap.size w v p) :
    Calls Try.prog 19 #[v] w fun e w' => e = .returned (.tuple #[.int .i64 (if checkE p = 0 then p.reach else 0), .int .i64 (checkE p)]) ∧ Below w.heap.size w w' := by
  obtain ⟨u, rfl, hw⟩ := id h
  obtain ⟨A, c, rfl, hlm, hr⟩ := hw.open_
  have HP := Lib.hid h
  clear h hr hw hlm
  have F0 : ∃ W0, w.alloc (.cells #[.int .i64 p.cut, .int .i64 p.margin, .slice A p.webs.length c] 24) = W0 ∧ Below w.heap.size w W0 ∧ Blk W0 w.heap.size 24 #[.int .i64 p.cut, .int .i64 p.margin, .slice A p.webs.length c] := ⟨_, rfl, below_alloc _ _, Blk.new _ _ _⟩
  obtain ⟨W0, e0, hb0, B0⟩ := F0
  have E0 := Lib.hid e0
  have HB0 := Lib.hid hb0
  have HK0 := Lib.hid B0
  have m0 := cellOf B0 0 (x := .int .i64 p.cut) rfl
  have m1 := cellOf B0 1 (x := .int .i64 p.margin) rfl
  have m2 := cellOf B0 2 (x := .slice A p.webs.length c) rfl
  clear e0 hb0 B0
  obtain ⟨rv, hrv⟩ : ∃ x, (if checkE p = 0 then p.reach else 0) = x := ⟨_, rfl⟩
  rw [hrv]
  have HRV := Lib.hid hrv
  clear hrv
  obtain ⟨ce, hce⟩ : ∃ e, checkE p = e := ⟨_, rfl⟩
  have CC := Check_any p _ W0 ((HP.out.below HB0.out).more HB0.out.size)
  rw [hce] at CC
  have HCE := Lib.hid hce
  rw [hce]
  clear hce
  go_enter Try.func19, Try.ntmps19
  go_upto_region 1 with fail
  rw [E0.out]
  go_wp2_with fail
  refine CC.mono ?_
  rintro _ W1 ⟨rfl, hb1⟩
  have m0 := cellOf (HK0.out.below hb1 HK0.out.lt) 0 (x := .int .i64 p.cut) rfl
  have m1 := cellOf (HK0.out.below hb1 HK0.out.lt) 1 (x := .int .i64 p.margin) rfl
  have m2 := cellOf (HK0.out.below hb1 HK0.out.lt) 2 (x := .slice A p.webs.length c) rfl
  have HB1 : Hid (Below w.heap.size w W1) := HB0.out.trans (hb1.mono HB0.out.size)
  clear hb1 CC
  by_cases hc : ce = 0
  case neg =>
    have hc' : (ce != 0) = true := by simpa using hc
    obtain rfl : rv = 0 := by rw [← HRV.out, HCE.out, if_neg hc]
    go_wp2_with fail
    go_ret2
    exact ⟨rfl, HB1.out⟩
  subst hc
  have hok := checkE_ok HCE.out
  have hrv : p.reach = rv := by rw [← HRV.out, HCE.out, if_pos rfl]
  have hrv' := Lib.hid hrv
  clear hrv
  have CR := reach_any p hok W1 _ ((HP.out.below HB1.out).more HB1.out.size)
  rw [hrv'.out] at CR
  go_wp2_with fail
  refine CR.mono ?_
  rintro _ W2 ⟨rfl, hb2⟩
  have HB2 : Hid (Below w.heap.size w W2) := HB1.out.trans (hb2.mono HB1.out.size)
  clear hb2 CR m0 m1 m2
  go_wp2_with fail
  go_ret2
  exact ⟨rfl, HB2.out⟩
/-- What Thrown answers. -/
def ThrownRet (w : World) (p : PressD) (n : Int) (e : Ending) (w' : World) : Prop :=
  ∃ u l, e = .returned (.tuple #[u, .int .i64 (copiesE p n)]) ∧ (copiesE p n = 0 → p.ThrownIs n l) ∧ (copiesE p n ≠ 0 → l = []) ∧ l.length ≤ 120 ∧ OSpans w.heap.size w' u l ∧ Below w.heap.size w w'
set_option maxRecDepth 100000 in
set_option maxHeartbeats 2000000 in
theorem Thrown_any (p : PressD) (n : Int) (v : Value) (w : World) (h : RPress w.heap.size w v p) :
    Calls Try.prog 20 #[v, .int .i64 n] w (ThrownRet w p n) := by
  obtain ⟨u, rfl, hw⟩ := id h
  obtain ⟨A, c, rfl, hlm, hr⟩ := hw.open_
  have HP := Lib.hid h
  clear h hr hw hlm
  have F0 : ∃ W0, w.alloc (.cells #[.int .i64 p.cut, .int .i64 p.margin, .slice A p.webs.length c] 24) = W0 ∧ Below w.heap.size w W0 ∧ Blk W0 w.heap.size 24 #[.int .i64 p.cut, .int .i64 p.margin, .slice A p.webs.length c] := ⟨_, rfl, below_alloc _ _, Blk.new _ _ _⟩
  obtain ⟨W0, e0, hb0, B0⟩ := F0
  have E0 := Lib.hid e0
  have HB0 := Lib.hid hb0
  have HK0 := Lib.hid B0
  have m0 := cellOf B0 0 (x := .int .i64 p.cut) rfl
  have m1 := cellOf B0 1 (x := .int .i64 p.margin) rfl
  have m2 := cellOf B0 2 (x := .slice A p.webs.length c) rfl
  clear e0 hb0 B0
  obtain ⟨ce, hce⟩ : ∃ e, copiesE p n = e := ⟨_, rfl⟩
  have CC := copies_any p n _ W0 ((HP.out.below HB0.out).more HB0.out.size)
  rw [hce] at CC
  have HCE := Lib.hid hce
  clear hce
  go_enter Try.func20, Try.ntmps20
  go_upto_region 1 with fail
  rw [E0.out]
  go_wp2_with fail
  refine CC.mono ?_
  rintro _ W1 ⟨rfl, hb1⟩
  have m0 := cellOf (HK0.out.below hb1 HK0.out.lt) 0 (x := .int .i64 p.cut) rfl
  have m1 := cellOf (HK0.out.below hb1 HK0.out.lt) 1 (x := .int .i64 p.margin) rfl
  have m2 := cellOf (HK0.out.below hb1 HK0.out.lt) 2 (x := .slice A p.webs.length c) rfl
  have HB1 : Hid (Below w.heap.size w W1) := HB0.out.trans (hb1.mono HB0.out.size)
  clear hb1 CC
  by_cases hc : ce = 0
  case neg =>
    have hc' : (ce != 0) = true := by simpa using hc
    go_wp2_with fail
    go_ret2
    unfold ThrownRet
    rw [HCE.out]
    exact ⟨.slice none 0 0, [], rfl, fun h => absurd h hc, fun _ => rfl, by simp, World.ownsRow_nil _ _ _ _, HB1.out⟩
  subst hc
  obtain ⟨hc0, hn1, hn2⟩ := copiesE_ok HCE.out
  have hok := checkE_ok hc0
  have hrb := reach_bound hok
  have CR := thrown_any p hok n ⟨hn1, by omega⟩ W1 _ ((HP.out.below HB1.out).more HB1.out.size)
  go_wp2_with fail
  refine CR.mono ?_
  rintro _ W2 ⟨u2, l, rfl, hl, hl2, hO, hb2⟩
  have HB2 : Hid (Below w.heap.size w W2) := HB1.out.trans (hb2.mono HB1.out.size)
  have HL := Lib.hid hl
  have HO := Lib.hid hO
  clear hb2 CR m0 m1 m2 hl hO
  go_wp2_with fail
  go_ret2
  unfold ThrownRet
  rw [HCE.out]
  exact ⟨u2, l, rfl, fun _ => HL.out, fun h => absurd rfl h, hl2, ownsRow_base HO.out HB1.out.size, HB2.out⟩
end Go.Proofs.Ytpkepacbondopaa
