/-
  Total, Loss, Best.
-/
import Derived.Test.YtlmpbmlbllndcaaMaj
namespace Go.Proofs.Ytlmpbmlbllndcaa
open Go.RowKit
attribute [local go_sem] Oper.semAt_some

theorem ret_two {a b c d : Int} (h1 : a = c) (h2 : b = d) : Ending.returned (.tuple #[.int .i64 a, .int .i64 b]) = .returned (.tuple #[.int .i64 c, .int .i64 d]) := by rw [h1, h2]
theorem ret_three {a b c d e f : Int} (h1 : a = d) (h2 : b = e) (h3 : c = f) : Ending.returned (.tuple #[.int .i64 a, .int .i64 b, .int .i64 c]) = .returned (.tuple #[.int .i64 d, .int .i64 e, .int .i64 f]) := by rw [h1, h2, h3]
/-- What Total answers: the error, and the losses. -/
def totalE (a b : Int) (l : List DayD) (q : Int) : Int := if checkH l = 0 then (if inB q 0 10000 then (if costB a b then 0 else 1) else 6) else checkH l
def totalV (a b : Int) (l : List DayD) (q : Int) : Int := if totalE a b l q = 0 then totD a b l q else 0
theorem totalE_ok {a b q : Int} {l : List DayD} (h : totalE a b l q = 0) : checkH l = 0 ∧ (0 ≤ q ∧ q ≤ 10000) ∧ costB a b = true := by
  unfold totalE at h
  by_cases h1 : checkH l = 0
  · rw [if_pos h1] at h
    by_cases h2 : inB q 0 10000 = true
    · rw [if_pos h2] at h
      by_cases h3 : costB a b = true
      · exact ⟨h1, inB_iff.1 h2, h3⟩
      · rw [if_neg h3] at h; omega
    · rw [if_neg h2] at h; omega
  · rw [if_neg h1] at h; exact absurd h h1
theorem totalE_of {a b q : Int} {l : List DayD} (h1 : checkH l = 0) (h2 : 0 ≤ q ∧ q ≤ 10000) (h3 : costB a b = true) : totalE a b l q = 0 := by
  unfold totalE
  rw [if_pos h1, if_pos (inB_iff.2 h2), if_pos h3]
set_option maxRecDepth 100000 in
set_option maxHeartbeats 2000000 in
theorem Total_any (a b : Int) (l : List DayD) (q : Int) (v : Value) (w : World) (h : RDays w.heap.size w v l) :
    Calls Try.prog 24 #[v, .int .i64 q, .int .i64 a, .int .i64 b] w fun e w' => e = .returned (.tuple #[.int .i64 (totalV a b l q), .int .i64 (totalE a b l q)]) ∧ Below w.heap.size w w' := by
  obtain ⟨A, c, rfl, hlm, -⟩ := days_later h
  have HR := Lib.hid h
  obtain ⟨n, hn⟩ : ∃ n, l.length = n := ⟨_, rfl⟩
  rw [hn] at hlm HR
  rw [hn]
  have F0 : ∃ W0, w.alloc (.cells #[.int .i64 a, .int .i64 b] 148) = W0 ∧ Hid (Below w.heap.size w W0) ∧ Hid (Blk W0 w.heap.size 148 #[.int .i64 a, .int .i64 b]) := ⟨_, rfl, below_alloc _ _, Blk.new _ _ _⟩
  obtain ⟨W0, e0, HB0, HK0⟩ := F0
  have E0 := Lib.hid e0
  obtain ⟨p, hp⟩ : ∃ p, w.heap.size = p := ⟨_, rfl⟩
  have HP := Lib.hid hp
  have CC := Lib.hid (Check_any l (.slice A n c) W0 ((Rd.below HR.out HB0.out).more HB0.out.size))
  obtain ⟨ce, hce⟩ : ∃ e, checkH l = e := ⟨_, rfl⟩
  rw [hce] at CC
  have HCE := Lib.hid hce
  obtain ⟨te, hte⟩ : ∃ e, totalE a b l q = e := ⟨_, rfl⟩
  obtain ⟨tv, htv⟩ : ∃ e, totalV a b l q = e := ⟨_, rfl⟩
  have HE : Hid (te = if ce = 0 then (if inB q 0 10000 then (if costB a b then 0 else 1) else 6) else ce) := by show _ = _; rw [← hte, ← hce]; rfl
  have HV : Hid (tv = if te = 0 then totD a b l q else 0) := by show _ = _; rw [← htv, ← hte]; rfl
  rw [hte, htv]
  have HTE := Lib.hid hte
  clear h e0 hp hce hte htv
  have z0 : Hid (∀ X, Below W0.heap.size W0 X → X.cell? ⟨p, 0, none⟩ = some (.int .i64 a) ∧ X.cell? ⟨p, 1, none⟩ = some (.int .i64 b)) := fun X hX => by
    have h1 := HK0.out.below hX HK0.out.lt
    rw [HP.out] at h1
    exact ⟨cellOf h1 0 rfl, cellOf h1 1 rfl⟩
  go_enter Try.func24, Try.ntmps24
  go_upto_region 2 with fail
  rw [E0.out]
  clear E0
  rw [HP.out]
  go_wp2_with fail
  refine CC.out.mono ?_
  rintro _ W1 ⟨rfl, hb1⟩
  have HB1 := Lib.hid hb1
  have HBW1 : Hid (Below w.heap.size w W1) := HB0.out.trans (hb1.mono HB0.out.size)
  clear CC hb1
  by_cases hc : ce = 0
  case neg =>
    have hcb : (ce != 0) = true := by simpa using hc
    have HX1 : Hid (ce = te) := by show _ = _; rw [HE.out, if_neg hc]
    have HX2 : Hid ((0 : Int) = tv) := by show _ = _; rw [HV.out, ← HX1.out, if_neg hc]
    clear hc
    go_wp2_with fail
    go_ret2
    exact ⟨ret_two HX2.out HX1.out, HBW1.out⟩
  have hcb : (ce != 0) = false := by simpa using hc
  have HE1 : Hid (te = (if inB q 0 10000 then (if costB a b then 0 else 1) else 6)) := by show _ = _; rw [HE.out, if_pos hc]
  have HOK := Lib.hid (checkH_ok (HCE.out.trans hc))
  have CI := Lib.hid (within_any q 0 10000 W1)
  obtain ⟨ib, hib⟩ : ∃ b, inB q 0 10000 = b := ⟨_, rfl⟩
  rw [hib] at CI
  have HIB := Lib.hid hib
  clear hc hib HE HCE
  go_wp2_with fail
  refine CI.out.mono ?_
  rintro _ W1' ⟨rfl, rfl⟩
  clear CI hcb
  cases ib
  · have HX1 : Hid ((6 : Int) = te) := by show _ = _; rw [HE1.out, HIB.out]; rfl
    have HX2 : Hid ((0 : Int) = tv) := by show _ = _; rw [HV.out, ← HX1.out]; rfl
    go_wp2_with fail
    go_ret2
    exact ⟨ret_two HX2.out HX1.out, HBW1.out⟩
  have HE2 : Hid (te = (if costB a b then 0 else 1)) := by show _ = _; rw [HE1.out, HIB.out]; rfl
  have hqb := inB_iff.1 HIB.out
  have HQB := Lib.hid hqb
  have CA := Lib.hid (areRight_any a b W1)
  obtain ⟨cb, hcb⟩ : ∃ z, costB a b = z := ⟨_, rfl⟩
  rw [hcb] at CA
  have HCB := Lib.hid hcb
  obtain ⟨g0, g1⟩ := z0.out W1 HB1.out
  clear hqb hcb HE1
  go_wp2_with fail
  refine CA.out.mono ?_
  rintro _ W2 ⟨rfl, hb2⟩
  have HB2 : Hid (Below W0.heap.size W0 W2) := HB1.out.trans (hb2.mono HB1.out.size)
  have HBW2 : Hid (Below w.heap.size w W2) := HB0.out.trans (HB2.out.mono HB0.out.size)
  clear CA hb2 g0 g1
  cases cb
  · have HX1 : Hid ((1 : Int) = te) := by show _ = _; rw [HE2.out, HCB.out]; rfl
    have HX2 : Hid ((0 : Int) = tv) := by show _ = _; rw [HV.out, ← HX1.out]; rfl
    go_wp2_with fail
    go_ret2
    exact ⟨ret_two HX2.out HX1.out, HBW2.out⟩
  have HX1 : Hid ((0 : Int) = te) := by show _ = _; rw [HE2.out, HCB.out]; rfl
  have hcc := costB_iff.1 HCB.out
  have CT := Lib.hid (total_any a b ⟨hcc.1, hcc.2.1⟩ l (by have := HOK.out.1; exact this) HOK.out.2 q HQB.out (.slice A n c) W2 ((Rd.below HR.out HBW2.out).more HBW2.out.size))
  obtain ⟨t, ht⟩ : ∃ t, totD a b l q = t := ⟨_, rfl⟩
  rw [ht] at CT
  have HX2 : Hid (t = tv) := by show _ = _; rw [HV.out, ← HX1.out, if_pos rfl, ht]
  obtain ⟨g0, g1⟩ := z0.out W2 HB2.out
  clear hcc ht
  go_wp2_with fail
  refine CT.out.mono ?_
  rintro _ W3 ⟨rfl, hb3⟩
  have HBW3 : Hid (Below w.heap.size w W3) := HBW2.out.trans (hb3.mono HBW2.out.size)
  clear CT hb3 g0 g1
  go_wp2_with fail
  go_ret2
  exact ⟨ret_two HX2.out HX1.out, HBW3.out⟩
/-- What Best answers: the error; the supply, its total. -/
def bestE (a b : Int) (l : List DayD) : Int := if checkH l = 0 then (if costB a b then (if l.length = 0 then 4 else 0) else 1) else checkH l
def bestV (a b : Int) (l : List DayD) : Int × Int := if bestE a b l = 0 then bestD a b l else (0, 0)
set_option maxRecDepth 100000 in
set_option maxHeartbeats 2000000 in
theorem Best_any (a b : Int) (l : List DayD) (v : Value) (w : World) (h : RDays w.heap.size w v l) :
    Calls Try.prog 23 #[v, .int .i64 a, .int .i64 b] w fun e w' => e = .returned (.tuple #[.int .i64 (bestV a b l).1, .int .i64 (bestV a b l).2, .int .i64 (bestE a b l)]) ∧ Below w.heap.size w w' := by
  obtain ⟨A, c, rfl, hlm, -⟩ := days_later h
  have HR := Lib.hid h
  obtain ⟨n, hn⟩ : ∃ n, l.length = n := ⟨_, rfl⟩
  rw [hn] at hlm HR
  rw [hn]
  have F0 : ∃ W0, w.alloc (.cells #[.int .i64 a, .int .i64 b] 148) = W0 ∧ Hid (Below w.heap.size w W0) ∧ Hid (Blk W0 w.heap.size 148 #[.int .i64 a, .int .i64 b]) := ⟨_, rfl, below_alloc _ _, Blk.new _ _ _⟩
  obtain ⟨W0, e0, HB0, HK0⟩ := F0
  have E0 := Lib.hid e0
  obtain ⟨p, hp⟩ : ∃ p, w.heap.size = p := ⟨_, rfl⟩
  have HP := Lib.hid hp
  have CC := Lib.hid (Check_any l (.slice A n c) W0 ((Rd.below HR.out HB0.out).more HB0.out.size))
  obtain ⟨ce, hce⟩ : ∃ e, checkH l = e := ⟨_, rfl⟩
  rw [hce] at CC
  have HCE := Lib.hid hce
  obtain ⟨te, hte⟩ : ∃ e, bestE a b l = e := ⟨_, rfl⟩
  obtain ⟨tv, htv⟩ : ∃ e, bestV a b l = e := ⟨_, rfl⟩
  have HE : Hid (te = if ce = 0 then (if costB a b then (if n = 0 then 4 else 0) else 1) else ce) := by show _ = _; rw [← hte, ← hce, ← hn]; rfl
  have HV : Hid (tv = if te = 0 then bestD a b l else (0, 0)) := by show _ = _; rw [← htv, ← hte]; rfl
  rw [hte, htv]
  clear h e0 hp hce hte htv
  have z0 : Hid (∀ X, Below W0.heap.size W0 X → X.cell? ⟨p, 0, none⟩ = some (.int .i64 a) ∧ X.cell? ⟨p, 1, none⟩ = some (.int .i64 b)) := fun X hX => by
    have h1 := HK0.out.below hX HK0.out.lt
    rw [HP.out] at h1
    exact ⟨cellOf h1 0 rfl, cellOf h1 1 rfl⟩
  have HFAIL : Hid (∀ (z : Int) (X : World), z = te → te ≠ 0 → Below w.heap.size w X → Ending.returned (.tuple #[.int .i64 0, .int .i64 0, .int .i64 z]) = .returned (.tuple #[.int .i64 tv.1, .int .i64 tv.2, .int .i64 te]) ∧ Below w.heap.size w X) := fun z X hz h0 hX => by
    rw [hz, HV.out, if_neg h0]
    exact ⟨rfl, hX⟩
  have HN := Lib.hid hn
  clear hn
  go_enter Try.func23, Try.ntmps23
  go_upto_region 2 with fail
  rw [E0.out]
  clear E0
  rw [HP.out]
  go_wp2_with fail
  refine CC.out.mono ?_
  rintro _ W1 ⟨rfl, hb1⟩
  have HB1 := Lib.hid hb1
  have HBW1 : Hid (Below w.heap.size w W1) := HB0.out.trans (hb1.mono HB0.out.size)
  clear CC hb1
  by_cases hc : ce = 0
  case neg =>
    have hcb : (ce != 0) = true := by simpa using hc
    have HX1 : Hid (ce = te) := by show _ = _; rw [HE.out, if_neg hc]
    have HX := Lib.hid (HFAIL.out ce W1 HX1.out (by rw [← HX1.out]; exact hc) HBW1.out)
    clear hc
    go_wp2_with fail
    go_ret3
    exact HX.out
  have hcb : (ce != 0) = false := by simpa using hc
  have HE1 : Hid (te = (if costB a b then (if n = 0 then 4 else 0) else 1)) := by show _ = _; rw [HE.out, if_pos hc]
  have HOK := Lib.hid (checkH_ok (HCE.out.trans hc))
  have CA := Lib.hid (areRight_any a b W1)
  obtain ⟨cb, hcb'⟩ : ∃ z, costB a b = z := ⟨_, rfl⟩
  rw [hcb'] at CA
  have HCB := Lib.hid hcb'
  obtain ⟨g0, g1⟩ := z0.out W1 HB1.out
  clear hc hcb' HE HCE
  go_wp2_with fail
  refine CA.out.mono ?_
  rintro _ W2 ⟨rfl, hb2⟩
  have HB2 : Hid (Below W0.heap.size W0 W2) := HB1.out.trans (hb2.mono HB1.out.size)
  have HBW2 : Hid (Below w.heap.size w W2) := HB0.out.trans (HB2.out.mono HB0.out.size)
  clear CA hb2 g0 g1 hcb
  cases cb
  · have HX1 : Hid ((1 : Int) = te) := by show _ = _; rw [HE1.out, HCB.out]; rfl
    have HX := Lib.hid (HFAIL.out 1 W2 HX1.out (by rw [← HX1.out]; decide) HBW2.out)
    go_wp2_with fail
    go_ret3
    exact HX.out
  have HE2 : Hid (te = (if n = 0 then 4 else 0)) := by show _ = _; rw [HE1.out, HCB.out]; rfl
  by_cases hn0 : n = 0
  · have hnb : ((n : Int) == 0) = true := by simpa using hn0
    have HX1 : Hid ((4 : Int) = te) := by show _ = _; rw [HE2.out, if_pos hn0]
    have HX := Lib.hid (HFAIL.out 4 W2 HX1.out (by rw [← HX1.out]; decide) HBW2.out)
    clear hn0
    go_wp2_with fail
    go_ret3
    exact HX.out
  have hnb : ((n : Int) == 0) = false := by simpa using hn0
  have HX1 : Hid ((0 : Int) = te) := by show _ = _; rw [HE2.out, if_neg hn0]
  have hcc := costB_iff.1 HCB.out
  have CT := Lib.hid (best_any a b ⟨hcc.1, hcc.2.1⟩ l HOK.out.1 HOK.out.2 (.slice A n c) W2 ((Rd.below HR.out HBW2.out).more HBW2.out.size))
  obtain ⟨t, ht⟩ : ∃ t, bestD a b l = t := ⟨_, rfl⟩
  rw [ht] at CT
  have HX2 : Hid (t = tv) := by show _ = _; rw [HV.out, ← HX1.out, if_pos rfl, ht]
  obtain ⟨g0, g1⟩ := z0.out W2 HB2.out
  clear hcc ht hn0
  go_wp2_with fail
  refine CT.out.mono ?_
  rintro _ W3 ⟨rfl, hb3⟩
  have HBW3 : Hid (Below w.heap.size w W3) := HBW2.out.trans (hb3.mono HBW2.out.size)
  have F4 : ∃ W4, W3.alloc (.cells #[.int .i64 t.1, .int .i64 t.2] 150) = W4 ∧ Hid (Below W3.heap.size W3 W4) ∧ Hid (Blk W4 W3.heap.size 150 #[.int .i64 t.1, .int .i64 t.2]) := ⟨_, rfl, below_alloc _ _, Blk.new _ _ _⟩
  obtain ⟨W4, e4, HB4, HK4⟩ := F4
  have E4 := Lib.hid e4
  have s0 := cellOf HK4.out 0 (x := .int .i64 t.1) rfl
  have s1 := cellOf HK4.out 1 (x := .int .i64 t.2) rfl
  have HBW4 : Hid (∀ nq, Below w.heap.size w (W4.drewN nq)) := fun nq => below_drewN (HBW3.out.trans (HB4.out.mono HBW3.out.size)) nq
  clear CT hb3 g0 g1 e4
  go_upto_region 10 with fail
  rw [E4.out]
  clear E4
  go_quiet (fail)
  go_wp2_with fail
  go_ret3
  exact ⟨ret_three (congrArg Prod.fst HX2.out) (congrArg Prod.snd HX2.out) HX1.out, HBW4.out _⟩
end Go.Proofs.Ytlmpbmlbllndcaa
