/-
  Says.
  The reference's Says.
  The reference's gcd.
-/
import Derived.Test.YtlmpbmlbllndcaaMar
import Derived.Test.YtlmpbmlbllndcaaMah
namespace Go.Proofs.Ytlmpbmlbllndcaa
open Go.RowKit
attribute [local go_sem] Oper.semAt_some

/-- What Says answers: the error; whether something, and what. -/
def saysE (m : MethD) (l : List DayD) (day : Int) : Int := if checkH l = 0 then (if m.okB then (if inB day 0 l.length then 0 else 6) else 1) else checkH l
def saysB (m : MethD) (l : List DayD) (day : Int) : Bool := decide (saysE m l day = 0) && m.says day
def saysV (m : MethD) (l : List DayD) (day : Int) : Int := if saysB m l day then m.said l day else 0
theorem saysE_ok {m : MethD} {l : List DayD} {day : Int} (h : saysE m l day = 0) : checkH l = 0 ∧ m.okB = true ∧ (0 ≤ day ∧ day ≤ l.length) := by
  unfold saysE at h
  by_cases h1 : checkH l = 0
  · rw [if_pos h1] at h
    by_cases h2 : m.okB = true
    · rw [if_pos h2] at h
      by_cases h3 : inB day 0 l.length = true
      · exact ⟨h1, h2, inB_iff.1 h3⟩
      · rw [if_neg h3] at h; omega
    · rw [if_neg h2] at h; omega
  · rw [if_neg h1] at h; exact absurd h h1
theorem ret_ibi {a c d f : Int} {b e : Bool} (h1 : a = d) (h2 : b = e) (h3 : c = f) : Ending.returned (.tuple #[.int .i64 a, .bool b, .int .i64 c]) = .returned (.tuple #[.int .i64 d, .bool e, .int .i64 f]) := by rw [h1, h2, h3]
set_option maxRecDepth 100000 in
set_option maxHeartbeats 2000000 in
theorem Says_any (m : MethD) (l : List DayD) (day : Int) (v : Value) (w : World) (h : RDays w.heap.size w v l) :
    Calls Try.prog 27 #[.agg #[.int .i64 m.kind, .int .i64 m.days], v, .int .i64 day] w fun e w' => e = .returned (.tuple #[.int .i64 (saysV m l day), .bool (saysB m l day), .int .i64 (saysE m l day)]) ∧ Below w.heap.size w w' := by
  obtain ⟨A, c, rfl, hlm, -⟩ := days_later h
  have HR := Lib.hid h
  obtain ⟨n, hn⟩ : ∃ n, l.length = n := ⟨_, rfl⟩
  rw [hn] at hlm HR
  rw [hn]
  have F0 : ∃ W0, w.alloc (.cells #[.int .i64 m.kind, .int .i64 m.days] 56) = W0 ∧ Hid (Below w.heap.size w W0) ∧ Hid (Blk W0 w.heap.size 56 #[.int .i64 m.kind, .int .i64 m.days]) := ⟨_, rfl, below_alloc _ _, Blk.new _ _ _⟩
  obtain ⟨W0, e0, HB0, HK0⟩ := F0
  have E0 := Lib.hid e0
  obtain ⟨p, hp⟩ : ∃ p, w.heap.size = p := ⟨_, rfl⟩
  have HP := Lib.hid hp
  have CC := Lib.hid (Check_any l (.slice A n c) W0 ((Rd.below HR.out HB0.out).more HB0.out.size))
  obtain ⟨ce, hce⟩ : ∃ e, checkH l = e := ⟨_, rfl⟩
  rw [hce] at CC
  have HCE := Lib.hid hce
  obtain ⟨te, hte⟩ : ∃ e, saysE m l day = e := ⟨_, rfl⟩
  obtain ⟨tb, htb⟩ : ∃ e, saysB m l day = e := ⟨_, rfl⟩
  obtain ⟨tv, htv⟩ : ∃ e, saysV m l day = e := ⟨_, rfl⟩
  have HE : Hid (te = if ce = 0 then (if m.okB then (if inB day 0 n then 0 else 6) else 1) else ce) := by show _ = _; rw [← hte, ← hce, ← hn]; rfl
  have HB : Hid (tb = (decide (te = 0) && m.says day)) := by show _ = _; rw [← htb, ← hte]; rfl
  have HV : Hid (tv = if tb then m.said l day else 0) := by show _ = _; rw [← htv, ← htb]; rfl
  rw [hte, htb, htv]
  have HTE := Lib.hid hte
  have HN := Lib.hid hn
  clear h e0 hp hce hte htb htv hn
  have z0 : Hid (∀ X, Below W0.heap.size W0 X → X.cell? ⟨p, 0, none⟩ = some (.int .i64 m.kind) ∧ X.cell? ⟨p, 1, none⟩ = some (.int .i64 m.days)) := fun X hX => by
    have h1 := HK0.out.below hX HK0.out.lt
    rw [HP.out] at h1
    exact ⟨cellOf h1 0 rfl, cellOf h1 1 rfl⟩
  have HNO : Hid (te ≠ 0 → (0 : Int) = tv ∧ false = tb) := fun h0 => by
    have h1 : false = tb := by rw [HB.out, decide_eq_false h0]; rfl
    exact ⟨by rw [HV.out, ← h1]; rfl, h1⟩
  go_enter Try.func27, Try.ntmps27
  go_upto_region 1 with fail
  rw [E0.out]
  clear E0
  rw [HP.out]
  go_wp2_with fail
  refine CC.out.mono ?_
  rintro _ W1 ⟨rfl, hb1⟩
  have HB1 := Lib.hid hb1
  have HBW1 : Hid (Below w.heap.size w W1) := HB0.out.trans (hb1.mono HB0.out.size)
  clear CC hb1
  by_cases hc : ce = 0
  case neg =>
    have hcb : (ce != 0) = true := by simpa using hc
    have HX1 : Hid (ce = te) := by show _ = _; rw [HE.out, if_neg hc]
    have HX2 := Lib.hid (HNO.out (by rw [← HX1.out]; exact hc))
    clear hc
    go_wp2_with fail
    go_ret3
    exact ⟨ret_ibi HX2.out.1 HX2.out.2 HX1.out, HBW1.out⟩
  have hcb : (ce != 0) = false := by simpa using hc
  have HE1 : Hid (te = (if m.okB then (if inB day 0 n then 0 else 6) else 1)) := by show _ = _; rw [HE.out, if_pos hc]
  have HOK := Lib.hid (checkH_ok (HCE.out.trans hc))
  have CM := Lib.hid (methRight_any m W1)
  obtain ⟨mb, hmb⟩ : ∃ b, m.okB = b := ⟨_, rfl⟩
  rw [hmb] at CM
  have HMB := Lib.hid hmb
  obtain ⟨g0, g1⟩ := z0.out W1 HB1.out
  clear hc hmb HE HCE
  go_wp2_with fail
  refine CM.out.mono ?_
  rintro _ W2 ⟨rfl, hb2⟩
  have HB2 : Hid (Below W0.heap.size W0 W2) := HB1.out.trans (hb2.mono HB1.out.size)
  have HBW2 : Hid (Below w.heap.size w W2) := HB0.out.trans (HB2.out.mono HB0.out.size)
  clear CM hb2 g0 g1 hcb
  cases mb
  · have HX1 : Hid ((1 : Int) = te) := by show _ = _; rw [HE1.out, HMB.out]; rfl
    have HX2 := Lib.hid (HNO.out (by rw [← HX1.out]; decide))
    go_wp2_with fail
    go_ret3
    exact ⟨ret_ibi HX2.out.1 HX2.out.2 HX1.out, HBW2.out⟩
  have HE2 : Hid (te = (if inB day 0 n then 0 else 6)) := by show _ = _; rw [HE1.out, HMB.out]; rfl
  have CI := Lib.hid (within_any day 0 n W2)
  obtain ⟨ib, hib⟩ : ∃ b, inB day 0 n = b := ⟨_, rfl⟩
  rw [hib] at CI
  have HIB := Lib.hid hib
  clear hib HE1
  go_wp2_with fail
  refine CI.out.mono ?_
  rintro _ _ ⟨rfl, rfl⟩
  clear CI
  cases ib
  · have HX1 : Hid ((6 : Int) = te) := by show _ = _; rw [HE2.out, HIB.out]; rfl
    have HX2 := Lib.hid (HNO.out (by rw [← HX1.out]; decide))
    go_wp2_with fail
    go_ret3
    exact ⟨ret_ibi HX2.out.1 HX2.out.2 HX1.out, HBW2.out⟩
  have HX1 : Hid ((0 : Int) = te) := by show _ = _; rw [HE2.out, HIB.out]; rfl
  have hdy := inB_iff.1 HIB.out
  have CS := Lib.hid (says_any m HMB.out l HOK.out.1 HOK.out.2 day (by rw [HN.out]; exact hdy) _ W2 ((Rd.below HR.out HBW2.out).more HBW2.out.size))
  have HX2 : Hid (m.says day = tb) := by show _ = _; rw [HB.out, ← HX1.out]; simp
  rw [HX2.out, ← HV.out] at CS
  obtain ⟨g0, g1⟩ := z0.out W2 HB2.out
  clear hdy
  go_wp2_with fail
  refine CS.out.mono ?_
  rintro _ W3 ⟨rfl, hb3⟩
  have HBW3 : Hid (Below w.heap.size w W3) := HBW2.out.trans (hb3.mono HBW2.out.size)
  clear CS hb3 g0 g1
  go_wp2_with fail
  go_ret3
  exact ⟨ret_ibi rfl rfl HX1.out, HBW3.out⟩
end Go.Proofs.Ytlmpbmlbllndcaa

namespace Go.Proofs.Ytlmpbmlbllndcaa
open Go.RowKit
attribute [local go_sem] Oper.semAt_some

set_option maxRecDepth 100000 in
set_option maxHeartbeats 4000000 in
theorem refSays_any (m : MethD) (l : List DayD) (day : Int) (v : Value) (w : World) (h : RDays w.heap.size w v l) :
    Calls Try.prog 50 #[.agg #[.int .i64 m.kind, .int .i64 m.days], v, .int .i64 day] w fun e w' => e = .returned (.tuple #[.int .i64 (saysV m l day), .bool (saysB m l day), .int .i64 (saysE m l day)]) ∧ Below w.heap.size w w' := by
  have HR := Lib.hid h
  obtain ⟨A, c, rfl, -, -⟩ := days_later h
  obtain ⟨n, hn⟩ : ∃ n, l.length = n := ⟨_, rfl⟩
  have HN := Lib.hid hn
  rw [hn] at HR ⊢
  obtain ⟨kd, hkd⟩ : ∃ k, m.kind = k := ⟨_, rfl⟩
  obtain ⟨dd, hdd⟩ : ∃ k, m.days = k := ⟨_, rfl⟩
  have F0 : ∃ W0, w.alloc (.cells #[.int .i64 kd, .int .i64 dd] 108) = W0 ∧ Hid (Below w.heap.size w W0) ∧ Hid (Blk W0 w.heap.size 108 #[.int .i64 kd, .int .i64 dd]) := ⟨_, rfl, below_alloc _ _, Blk.new _ _ _⟩
  obtain ⟨W0, e0, HB0, HK0⟩ := F0
  have E0 := Lib.hid e0
  obtain ⟨p, hp⟩ : ∃ p, w.heap.size = p := ⟨_, rfl⟩
  have HP := Lib.hid hp
  have HSY : Hid (∀ Y, Below W0.heap.size W0 Y → Y.cell? ⟨p, 0, none⟩ = some (.int .i64 kd) ∧ Y.cell? ⟨p, 1, none⟩ = some (.int .i64 dd)) := fun Y hY => by
    rw [← HP.out]
    have h1 := HK0.out.below hY HK0.out.lt
    exact ⟨cellOf h1 0 rfl, cellOf h1 1 rfl⟩
  have HRY : Hid (∀ Y, Below W0.heap.size W0 Y → RDays Y.heap.size Y (.slice A n c) l) := fun Y hY => (Rd.below HR.out (HB0.out.trans (hY.mono HB0.out.size))).more (Nat.le_trans HB0.out.size hY.size)
  obtain ⟨ch, hch⟩ : ∃ x, checkH l = x := ⟨_, rfl⟩
  obtain ⟨mo, hmo⟩ : ∃ x, m.okB = x := ⟨_, rfl⟩
  obtain ⟨di, hdi⟩ : ∃ x, inB day 0 n = x := ⟨_, rfl⟩
  have C1 : Hid (Calls Try.prog 40 #[.slice A n c] W0 fun e w' => e = .returned (.int .i64 ch) ∧ Below W0.heap.size W0 w') := by rw [← hch]; exact refCheck_any l _ W0 (HRY.out W0 (Below.refl _ _))
  have C2 : Hid (∀ Y, Calls Try.prog 102 #[.agg #[.int .i64 kd, .int .i64 dd]] Y fun e w' => e = .returned (.bool (!mo)) ∧ Below Y.heap.size Y w') := fun Y => by rw [← hkd, ← hdd, ← hmo]; exact refWrong_any m Y
  have C3 : Hid (∀ Y, Calls Try.prog 98 #[.int .i64 day, .int .i64 0, .int .i64 (n : Int)] Y fun e w' => e = .returned (.bool di) ∧ Y = w') := fun Y => by rw [← hdi]; exact refIn_any day 0 n Y
  obtain ⟨V1, hV1⟩ : ∃ z, (if m.says day then m.said l day else 0) = z := ⟨_, rfl⟩
  obtain ⟨S1, hS1⟩ : ∃ z, m.says day = z := ⟨_, rfl⟩
  have HV1 := Lib.hid hV1
  have HS1 := Lib.hid hS1
  have C4 : Hid (∀ Y, ch = 0 → mo = true → di = true → Below W0.heap.size W0 Y → Calls Try.prog 103 #[.agg #[.int .i64 kd, .int .i64 dd], .slice A n c, .int .i64 day] Y fun e w' => e = .returned (.tuple #[.int .i64 V1, .bool S1]) ∧ Below Y.heap.size Y w') := fun Y h1 h2 h3 hY => by
    rw [← hkd, ← hdd, ← hV1, ← hS1]
    have hc := checkH_ok (hch.trans h1)
    exact refSaysC_any m (hmo.trans h2) l hc.1 hc.2 day (by rw [hn]; exact inB_iff.1 (hdi.trans h3)) _ Y (HRY.out Y hY)
  have HE : Hid (saysE m l day = if ch = 0 then (if mo then (if di then 0 else 6) else 1) else ch) := by
    show _ = _
    unfold saysE
    rw [hch, hmo, hn, hdi]
  have HVE : Hid (¬ saysE m l day = 0 → saysV m l day = 0 ∧ saysB m l day = false) := fun h => by
    have hb : saysB m l day = false := by unfold saysB; rw [decide_eq_false h]; rfl
    exact ⟨by unfold saysV; rw [hb]; rfl, hb⟩
  obtain ⟨SV, hSV⟩ : ∃ z, saysV m l day = z := ⟨_, rfl⟩
  obtain ⟨SB, hSB⟩ : ∃ z, saysB m l day = z := ⟨_, rfl⟩
  obtain ⟨SE, hSE⟩ : ∃ z, saysE m l day = z := ⟨_, rfl⟩
  have HSV := Lib.hid hSV
  have HSB := Lib.hid hSB
  have HSE := Lib.hid hSE
  rw [hSE] at HE HVE
  rw [hSV, hSB] at HVE
  rw [hSV, hSB, hSE, hkd, hdd]
  obtain ⟨z0, z1⟩ := HSY.out W0 (Below.refl _ _)
  clear h hn hkd hdd e0 hp HK0 hch hmo hdi hSV hSB hSE hV1 hS1
  go_enter Try.func50, Try.ntmps50
  go_upto_region 1 with fail
  rw [E0.out, HP.out]
  clear E0
  go_wp2_with fail
  refine C1.out.mono ?_
  rintro _ Y1 ⟨rfl, hb1⟩
  have HB1 := Lib.hid hb1
  have HBW1 : Hid (Below w.heap.size w Y1) := HB0.out.trans (hb1.mono HB0.out.size)
  clear hb1 C1 z0 z1
  by_cases hc0 : ch = 0
  case neg =>
    have hcn : (ch != 0) = true := by simpa using hc0
    have HX : Hid (SE = ch) := by show _ = _; rw [HE.out, if_neg hc0]
    have HV := Lib.hid (HVE.out (by rw [HX.out]; exact hc0))
    clear hc0
    go_wp2_with fail
    go_ret3
    exact ⟨ret_ibi HV.out.1.symm HV.out.2.symm HX.out.symm, HBW1.out⟩
  subst hc0
  have hcn : ((0 : Int) != 0) = false := rfl
  obtain ⟨z0, z1⟩ := HSY.out Y1 HB1.out
  go_wp2_with fail
  refine (C2.out _).mono ?_
  rintro _ Y2 ⟨rfl, hb2⟩
  have HB2 : Hid (Below W0.heap.size W0 Y2) := HB1.out.trans (hb2.mono HB1.out.size)
  have HBW2 : Hid (Below w.heap.size w Y2) := HB0.out.trans (HB2.out.mono HB0.out.size)
  clear hb2 C2 z0 z1
  cases mo with
  | false =>
    have HX : Hid (SE = 1) := by show _ = _; rw [HE.out]; rfl
    have HV := Lib.hid (HVE.out (by rw [HX.out]; omega))
    go_wp2_with fail
    go_ret3
    exact ⟨ret_ibi HV.out.1.symm HV.out.2.symm HX.out.symm, HBW2.out⟩
  | true =>
  go_wp2_with fail
  refine (C3.out _).mono ?_
  rintro _ _ ⟨rfl, rfl⟩
  cases di with
  | false =>
    have HX : Hid (SE = 6) := by show _ = _; rw [HE.out]; rfl
    have HV := Lib.hid (HVE.out (by rw [HX.out]; omega))
    go_wp2_with fail
    go_ret3
    exact ⟨ret_ibi HV.out.1.symm HV.out.2.symm HX.out.symm, HBW2.out⟩
  | true =>
  have HX : Hid (SE = 0) := by show _ = _; rw [HE.out]; rfl
  have C5 := Lib.hid (C4.out Y2 (by first | rfl | trivial) (by first | rfl | trivial) (by first | rfl | trivial) HB2.out)
  have HV : Hid (V1 = SV ∧ S1 = SB) := by
    have h1 : saysB m l day = m.says day := by unfold saysB; rw [HSE.out, HX.out]; simp
    rw [← HSV.out, ← HSB.out, h1, ← HV1.out, ← HS1.out]
    exact ⟨by unfold saysV; rw [h1], rfl⟩
  obtain ⟨z0, z1⟩ := HSY.out Y2 HB2.out
  clear C4
  go_wp2_with fail
  refine C5.out.mono ?_
  rintro _ Y3 ⟨rfl, hb3⟩
  have HBW3 : Hid (Below w.heap.size w Y3) := HBW2.out.trans (hb3.mono HBW2.out.size)
  clear hb3 C5
  go_wp2_with fail
  go_ret3
  exact ⟨ret_ibi HV.out.1 HV.out.2 HX.out.symm, HBW3.out⟩
end Go.Proofs.Ytlmpbmlbllndcaa

namespace Go.Proofs.Ytlmpbmlbllndcaa
open Go.RowKit
attribute [local go_sem] Oper.semAt_some

set_option maxHeartbeats 2000000 in
theorem refGcd_any (b : Nat) : ∀ (a : Nat), a ≤ 1000000000000 → b ≤ 1000000000000 → ∀ w : World, Calls Try.prog 104 #[.int .i64 (a : Int), .int .i64 (b : Int)] w fun e w' => e = .returned (.int .i64 (Nat.gcd a b : Int)) ∧ w = w' := by
  induction b using Nat.strongRecOn with
  | ind b ih =>
  intro a ha hb w
  by_cases h0 : b = 0
  · subst h0
    have g0 : (((0 : Nat) : Int) == 0) = true := rfl
    have HG : Hid (a = Nat.gcd a 0) := (Nat.gcd_zero_right a).symm
    clear ih
    go_enter Try.func104, Try.ntmps104
    go_wp2_with fail
    go_ret
    exact ⟨by rw [← HG.out]; rfl, rfl⟩
  · have hr : a % b < b := Nat.mod_lt _ (by omega)
    obtain ⟨r, hrr⟩ : ∃ r, a % b = r := ⟨_, rfl⟩
    have HG : Hid (Nat.gcd b r = Nat.gcd a b) := by show _ = _; rw [← hrr, Nat.gcd_comm b (a % b), ← Nat.gcd_rec, Nat.gcd_comm]
    rw [hrr] at hr
    have C1 := Lib.hid (ih r hr b hb (by omega) w)
    rw [HG.out] at C1
    obtain ⟨G, hG⟩ : ∃ g, Nat.gcd a b = g := ⟨_, rfl⟩
    rw [hG] at C1 ⊢
    have g0 : ((b : Int) == 0) = false := by simp [h0]
    have b0 : ¬ (b : Int) = 0 := by omega
    have kr : IntKind.i64.wrap ((a : Int).tmod (b : Int)) = (r : Int) := by
      rw [Int.tmod_eq_emod_of_nonneg (by omega), ← hrr]
      exact IntWalk.i64_in _ ⟨by omega, by omega⟩
    have KR : Hid (wrap64 ((a : Int).tmod (b : Int)) = (r : Int)) := (IntWalk.i64_left _).symm.trans kr
    have kr2 := KR.out
    have kr3 : (a : Int) % (b : Int) = (r : Int) := by rw [← hrr]; rfl
    have a0 : (0 : Int) ≤ (a : Int) := by omega
    have r1 : (r : Int) ≤ 1000000000000 := by omega
    clear ih hrr hG h0 KR
    go_enter Try.func104, Try.ntmps104
    go_wp2_with fail
    refine C1.out.mono ?_
    rintro _ _ ⟨rfl, rfl⟩
    go_wp2_with fail
    go_ret
    exact ⟨rfl, rfl⟩
end Go.Proofs.Ytlmpbmlbllndcaa
