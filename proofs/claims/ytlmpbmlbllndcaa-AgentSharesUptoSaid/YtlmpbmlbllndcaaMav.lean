/-
  Says.
  bits.OnesCount of a number below 128.
-/
import Derived.Test.YtlmpbmlbllndcaaMau
import Derived.Test.YtlmpbmlbllndcaaMam
namespace Go.Proofs.Ytlmpbmlbllndcaa
open Go.RowKit
attribute [local go_sem] Oper.semAt_some

/-- What Says answers: the error; whether something, and what. -/
def saysE (m : MethD) (l : List DayD) (day : Int) : Int := if checkH l = 0 then (if m.okB then (if inB day 0 l.length then 0 else 6) else 1) else checkH l
def saysB (m : MethD) (l : List DayD) (day : Int) : Bool := decide (saysE m l day = 0) && m.says day
def saysV (m : MethD) (l : List DayD) (day : Int) : Int := if saysB m l day then m.said l day else 0
theorem saysE_ok {m : MethD} {l : List DayD} {day : Int} (h : saysE m l day = 0) : checkH l = 0 ∧ m.okB = true ∧ (0 ≤ day ∧ day ≤ l.length) := by
  unfold saysE at h
  by_cases h1 : checkH l = 0
  · rw [if_pos h1] at h
    by_cases h2 : m.okB = true
    · rw [if_pos h2] at h
      by_cases h3 : inB day 0 l.length = true
      · exact ⟨h1, h2, inB_iff.1 h3⟩
      · rw [if_neg h3] at h; omega
    · rw [if_neg h2] at h; omega
  · rw [if_neg h1] at h; exact absurd h h1
theorem ret_ibi {a c d f : Int} {b e : Bool} (h1 : a = d) (h2 : b = e) (h3 : c = f) : Ending.returned (.tuple #[.int .i64 a, .bool b, .int .i64 c]) = .returned (.tuple #[.int .i64 d, .bool e, .int .i64 f]) := by rw [h1, h2, h3]
set_option maxRecDepth 100000 in
set_option maxHeartbeats 2000000 in
theorem Says_any (m : MethD) (l : List DayD) (day : Int) (v : Value) (w : World) (h : RDays w.heap.size w v l) :
    Calls Try.prog 27 #[.agg #[.int .i64 m.kind, .int .i64 m.days], v, .int .i64 day] w fun e w' => e = .returned (.tuple #[.int .i64 (saysV m l day), .bool (saysB m l day), .int .i64 (saysE m l day)]) ∧ Below w.heap.size w w' := by
  obtain ⟨A, c, rfl, hlm, -⟩ := days_later h
  have HR := Lib.hid h
  obtain ⟨n, hn⟩ : ∃ n, l.length = n := ⟨_, rfl⟩
  rw [hn] at hlm HR
  rw [hn]
  have F0 : ∃ W0, w.alloc (.cells #[.int .i64 m.kind, .int .i64 m.days] 56) = W0 ∧ Hid (Below w.heap.size w W0) ∧ Hid (Blk W0 w.heap.size 56 #[.int .i64 m.kind, .int .i64 m.days]) := ⟨_, rfl, below_alloc _ _, Blk.new _ _ _⟩
  obtain ⟨W0, e0, HB0, HK0⟩ := F0
  have E0 := Lib.hid e0
  obtain ⟨p, hp⟩ : ∃ p, w.heap.size = p := ⟨_, rfl⟩
  have HP := Lib.hid hp
  have CC := Lib.hid (Check_any l (.slice A n c) W0 ((Rd.below HR.out HB0.out).more HB0.out.size))
  obtain ⟨ce, hce⟩ : ∃ e, checkH l = e := ⟨_, rfl⟩
  rw [hce] at CC
  have HCE := Lib.hid hce
  obtain ⟨te, hte⟩ : ∃ e, saysE m l day = e := ⟨_, rfl⟩
  obtain ⟨tb, htb⟩ : ∃ e, saysB m l day = e := ⟨_, rfl⟩
  obtain ⟨tv, htv⟩ : ∃ e, saysV m l day = e := ⟨_, rfl⟩
  have HE : Hid (te = if ce = 0 then (if m.okB then (if inB day 0 n then 0 else 6) else 1) else ce) := by show _ = _; rw [← hte, ← hce, ← hn]; rfl
  have HB : Hid (tb = (decide (te = 0) && m.says day)) := by show _ = _; rw [← htb, ← hte]; rfl
  have HV : Hid (tv = if tb then m.said l day else 0) := by show _ = _; rw [← htv, ← htb]; rfl
  rw [hte, htb, htv]
  have HTE := Lib.hid hte
  have HN := Lib.hid hn
  clear h e0 hp hce hte htb htv hn
  have z0 : Hid (∀ X, Below W0.heap.size W0 X → X.cell? ⟨p, 0, none⟩ = some (.int .i64 m.kind) ∧ X.cell? ⟨p, 1, none⟩ = some (.int .i64 m.days)) := fun X hX => by
    have h1 := HK0.out.below hX HK0.out.lt
    rw [HP.out] at h1
    exact ⟨cellOf h1 0 rfl, cellOf h1 1 rfl⟩
  have HNO : Hid (te ≠ 0 → (0 : Int) = tv ∧ false = tb) := fun h0 => by
    have h1 : false = tb := by rw [HB.out, decide_eq_false h0]; rfl
    exact ⟨by rw [HV.out, ← h1]; rfl, h1⟩
  go_enter Try.func27, Try.ntmps27
  go_upto_region 1 with fail
  rw [E0.out]
  clear E0
  rw [HP.out]
  go_wp2_with fail
  refine CC.out.mono ?_
  rintro _ W1 ⟨rfl, hb1⟩
  have HB1 := Lib.hid hb1
  have HBW1 : Hid (Below w.heap.size w W1) := HB0.out.trans (hb1.mono HB0.out.size)
  clear CC hb1
  by_cases hc : ce = 0
  case neg =>
    have hcb : (ce != 0) = true := by simpa using hc
    have HX1 : Hid (ce = te) := by show _ = _; rw [HE.out, if_neg hc]
    have HX2 := Lib.hid (HNO.out (by rw [← HX1.out]; exact hc))
    clear hc
    go_wp2_with fail
    go_ret3
    exact ⟨ret_ibi HX2.out.1 HX2.out.2 HX1.out, HBW1.out⟩
  have hcb : (ce != 0) = false := by simpa using hc
  have HE1 : Hid (te = (if m.okB then (if inB day 0 n then 0 else 6) else 1)) := by show _ = _; rw [HE.out, if_pos hc]
  have HOK := Lib.hid (checkH_ok (HCE.out.trans hc))
  have CM := Lib.hid (methRight_any m W1)
  obtain ⟨mb, hmb⟩ : ∃ b, m.okB = b := ⟨_, rfl⟩
  rw [hmb] at CM
  have HMB := Lib.hid hmb
  obtain ⟨g0, g1⟩ := z0.out W1 HB1.out
  clear hc hmb HE HCE
  go_wp2_with fail
  refine CM.out.mono ?_
  rintro _ W2 ⟨rfl, hb2⟩
  have HB2 : Hid (Below W0.heap.size W0 W2) := HB1.out.trans (hb2.mono HB1.out.size)
  have HBW2 : Hid (Below w.heap.size w W2) := HB0.out.trans (HB2.out.mono HB0.out.size)
  clear CM hb2 g0 g1 hcb
  cases mb
  · have HX1 : Hid ((1 : Int) = te) := by show _ = _; rw [HE1.out, HMB.out]; rfl
    have HX2 := Lib.hid (HNO.out (by rw [← HX1.out]; decide))
    go_wp2_with fail
    go_ret3
    exact ⟨ret_ibi HX2.out.1 HX2.out.2 HX1.out, HBW2.out⟩
  have HE2 : Hid (te = (if inB day 0 n then 0 else 6)) := by show _ = _; rw [HE1.out, HMB.out]; rfl
  have CI := Lib.hid (within_any day 0 n W2)
  obtain ⟨ib, hib⟩ : ∃ b, inB day 0 n = b := ⟨_, rfl⟩
  rw [hib] at CI
  have HIB := Lib.hid hib
  clear hib HE1
  go_wp2_with fail
  refine CI.out.mono ?_
  rintro _ _ ⟨rfl, rfl⟩
  clear CI
  cases ib
  · have HX1 : Hid ((6 : Int) = te) := by show _ = _; rw [HE2.out, HIB.out]; rfl
    have HX2 := Lib.hid (HNO.out (by rw [← HX1.out]; decide))
    go_wp2_with fail
    go_ret3
    exact ⟨ret_ibi HX2.out.1 HX2.out.2 HX1.out, HBW2.out⟩
  have HX1 : Hid ((0 : Int) = te) := by show _ = _; rw [HE2.out, HIB.out]; rfl
  have hdy := inB_iff.1 HIB.out
  have CS := Lib.hid (says_any m HMB.out l HOK.out.1 HOK.out.2 day (by rw [HN.out]; exact hdy) _ W2 ((Rd.below HR.out HBW2.out).more HBW2.out.size))
  have HX2 : Hid (m.says day = tb) := by show _ = _; rw [HB.out, ← HX1.out]; simp
  rw [HX2.out, ← HV.out] at CS
  obtain ⟨g0, g1⟩ := z0.out W2 HB2.out
  clear hdy
  go_wp2_with fail
  refine CS.out.mono ?_
  rintro _ W3 ⟨rfl, hb3⟩
  have HBW3 : Hid (Below w.heap.size w W3) := HBW2.out.trans (hb3.mono HBW2.out.size)
  clear CS hb3 g0 g1
  go_wp2_with fail
  go_ret3
  exact ⟨ret_ibi rfl rfl HX1.out, HBW3.out⟩
end Go.Proofs.Ytlmpbmlbllndcaa

namespace Go.Proofs.Ytlmpbmlbllndcaa
open Go.RowKit
attribute [local go_sem] Oper.semAt_some

theorem ones64_any (x : Nat) (hx : x < 128) (w : World) : Calls Try.prog 152 #[.int .u64 x] w fun e w' => e = .returned (.int .i64 (popc x)) ∧ w = w' := by
  obtain ⟨r, hr⟩ : ∃ r, popc x = r := ⟨_, rfl⟩
  rw [hr]
  have HR := Lib.hid hr
  have HX := Lib.hid hx
  clear hr
  have h1 : (0 : Int) ≤ (x : Int) := by omega
  have h2 : (x : Int) < 128 := by omega
  go_enter Try.func152, Try.ntmps152
  go_wp2
  go_ret
  refine ⟨ri ?_, rfl⟩
  rw [← HR.out]
  have h := HX.out
  clear HR HX h1 h2 hx w r
  revert x
  decide +kernel
set_option maxRecDepth 100000 in
theorem ones_any (x : Nat) (hx : x < 128) (w : World) : Calls Try.prog 150 #[.int .u64 x] w fun e w' => e = .returned (.int .i64 (popc x)) ∧ w = w' := by
  have C := Lib.hid (fun w => ones64_any x hx w)
  obtain ⟨r, hr⟩ : ∃ r, popc x = r := ⟨_, rfl⟩
  rw [hr] at C ⊢
  clear hr
  have h1 : (0 : Int) ≤ (x : Int) := by omega
  have h2 : (x : Int) < 128 := by omega
  go_enter Try.func150, Try.ntmps150
  go_wp2_with (go_at_call 152; with_reducible refine (C.out _).mono ?_; rintro e w' ⟨rfl, rfl⟩)
  go_ret
  exact ⟨rfl, rfl⟩
end Go.Proofs.Ytlmpbmlbllndcaa
