/-
  dear, demand.
-/
import Derived.Test.YtlmpbmlbllndcaaMbt
import Derived.Test.YtlmpbmlbllndcaaMbp
namespace Go.Proofs.Ytlmpbmlbllndcaa
open Go.RowKit
attribute [local go_sem] Oper.semAt_some

def DearRet (w : World) (e : Ending) (w' : World) : Prop := ∃ b, e = .returned (.bool b) ∧ Below w.heap.size w w'
set_option maxRecDepth 100000 in
set_option maxHeartbeats 4000000 in
theorem dear_any (l : List DayD) (hl : l.length ≤ 2000000) (v : Value) (w : World) (h : RDays w.heap.size w v l) :
    Calls Try.prog 13 #[v] w (DearRet w) := by
  obtain ⟨A, c, rfl, hlm, HD⟩ := days_later h
  obtain ⟨n, hn⟩ : ∃ n, l.length = n := ⟨_, rfl⟩
  have HN := Lib.hid hn
  rw [hn] at hl hlm ⊢
  clear h hn
  go_enter Try.func13, Try.ntmps13
  go_wp2_with fail
  go_loopw [3, 8] (fun s i wr => ∃ (k : Nat) (y : Int), k ≤ n ∧ i = .int .i64 k ∧ s = .int .i64 y ∧ 0 ≤ y ∧ y ≤ 10001 * (k : Int) ∧ Hid (Below w.heap.size w wr)) (fun _ i _ => n - (intOf i).toNat)
  case atStart => exact ⟨0, 0, Nat.zero_le _, rfl, rfl, by omega, by omega, Below.refl _ _⟩
  case round =>
  obtain ⟨k, y, hk, rfl, rfl, y0, y1, hB⟩ := hrel
  obtain ⟨X, rfl⟩ : ∃ X : World, X = wr := ⟨_, rfl⟩
  by_cases hlt : k < n
  · obtain ⟨d, hd⟩ : ∃ x, l[k]? = some x := ⟨_, List.getElem?_eq_getElem (by rw [HN.out]; exact hlt)⟩
    obtain ⟨g, o, rfl, HX⟩ := HD.out k d hd
    obtain ⟨c0, c1⟩ := HX.out X hB.out
    obtain ⟨s, hs⟩ : ∃ s, d.sup = s := ⟨_, rfl⟩
    obtain ⟨r, hr⟩ : ∃ s, d.ret = s := ⟨_, rfl⟩
    rw [hs] at c0
    rw [hr] at c1
    have F1 : ∃ X1, X.alloc (.cells #[.int .i64 s, .int .i64 r] 24) = X1 ∧ Hid (Below X.heap.size X X1) ∧ Hid (Blk X1 X.heap.size 24 #[.int .i64 s, .int .i64 r]) := ⟨_, rfl, below_alloc _ _, Blk.new _ _ _⟩
    obtain ⟨X1, e1, HX1, HK1⟩ := F1
    have E1 := Lib.hid e1
    have HB1 : Hid (Below w.heap.size w X1) := hB.out.trans (HX1.out.mono hB.out.size)
    have z0 := cellOf HK1.out 0 (x := .int .i64 s) rfl
    have k0 : (0 : Int) ≤ (k : Int) := by omega
    have k1 : (k : Int) < (n : Int) := by omega
    clear e1 hd hs hr
    go_upto_region 5 with fail
    rw [E1.out]
    clear E1 c0 c1
    by_cases h0 : s < 0
    · have g1 : decide (s < 0) = true := by simpa using h0
      go_wp2_with fail
      go_ret
      exact ⟨false, rfl, HB1.out⟩
    by_cases h1 : 10000 < s
    · have g1 : decide (s < 0) = false := by simpa using h0
      have g2 : decide (10000 < s) = true := by simpa using h1
      go_wp2_with fail
      go_ret
      exact ⟨false, rfl, HB1.out⟩
    have g1 : decide (s < 0) = false := by simpa using h0
    have g2 : decide (10000 < s) = false := by simpa using h1
    have u1 : -100000000000 ≤ y + (s + 1) := by omega
    have u2 : y + (s + 1) ≤ 100000000000 := by omega
    have u3 : -100000000000 ≤ s + 1 := by omega
    have u4 : s + 1 ≤ 100000000000 := by omega
    go_wp2_with fail
    go_roundw
    case rel => exact ⟨k + 1, y + (s + 1), by omega, by go_num, rfl, by omega, by push_cast; omega, HB1⟩
    case measure => simp [intOf]; omega
  · by_cases h5 : 500 < n
    · have g1 : decide ((500 : Int) < (n : Int)) = true := by simp; omega
      go_wp2_with fail
      go_ret
      exact ⟨true, rfl, hB.out⟩
    · have g1 : decide ((500 : Int) < (n : Int)) = false := by simp; omega
      go_wp2_with fail
      go_ret
      exact ⟨_, rfl, hB.out⟩
set_option maxRecDepth 1000000 in
set_option maxHeartbeats 4000000 in
theorem demand_any (l : List DayD) (hl : l.length ≤ 2000000) (d : DayD) (q a b : Int) (v : Value) (w : World) (h : RDays w.heap.size w v l) :
    Calls Try.prog 14 #[v, .agg #[.int .i64 d.sup, .int .i64 d.ret], .int .i64 q, .int .i64 a, .int .i64 b] w fun e w' => e = .returned (.bool true) ∧ Below w.heap.size w w' := by
  have HR := Lib.hid h
  obtain ⟨A, c, rfl, -, -⟩ := days_later h
  obtain ⟨n, hn⟩ : ∃ n, l.length = n := ⟨_, rfl⟩
  have HN := Lib.hid hn
  have HL := Lib.hid hl
  rw [hn] at HR ⊢
  have F0 : ∃ W0, w.alloc (.cells #[.int .i64 d.sup, .int .i64 d.ret] 24) = W0 ∧ Hid (Below w.heap.size w W0) ∧ Hid (Blk W0 w.heap.size 24 #[.int .i64 d.sup, .int .i64 d.ret]) := ⟨_, rfl, below_alloc _ _, Blk.new _ _ _⟩
  obtain ⟨W0, e0, HB0, HK0⟩ := F0
  have E0 := Lib.hid e0
  obtain ⟨p, hp⟩ : ∃ p, w.heap.size = p := ⟨_, rfl⟩
  have HP := Lib.hid hp
  have HRY : Hid (∀ Y, Below W0.heap.size W0 Y → RDays Y.heap.size Y (.slice A n c) l) := fun Y hY => (Rd.below HR.out (HB0.out.trans (hY.mono HB0.out.size))).more (Nat.le_trans HB0.out.size hY.size)
  have C1 := Lib.hid (cloneDays_any l hl (.slice A n c) W0 (HRY.out W0 (Below.refl _ _)))
  obtain ⟨ch, hch⟩ : ∃ z, checkH l = z := ⟨_, rfl⟩
  obtain ⟨LV, hLV⟩ : ∃ z, totalV a b [d] q = z := ⟨_, rfl⟩
  obtain ⟨LE, hLE⟩ : ∃ z, totalE a b [d] q = z := ⟨_, rfl⟩
  obtain ⟨TV, hTV⟩ : ∃ z, totalV a b l q = z := ⟨_, rfl⟩
  obtain ⟨TE, hTE⟩ : ∃ z, totalE a b l q = z := ⟨_, rfl⟩
  obtain ⟨B1v, hB1v⟩ : ∃ z, (bestV a b l).1 = z := ⟨_, rfl⟩
  obtain ⟨B2v, hB2v⟩ : ∃ z, (bestV a b l).2 = z := ⟨_, rfl⟩
  obtain ⟨BE, hBE⟩ : ∃ z, bestE a b l = z := ⟨_, rfl⟩
  have PC : Hid (∀ v Y, RDays Y.heap.size Y v l → Calls Try.prog 39 #[v] Y fun e w' => e = .returned (.int .i64 ch) ∧ Below Y.heap.size Y w') := fun v Y hY => by rw [← hch]; exact Check_any l v Y hY
  have RC : Hid (∀ v Y, RDays Y.heap.size Y v l → Calls Try.prog 40 #[v] Y fun e w' => e = .returned (.int .i64 ch) ∧ Below Y.heap.size Y w') := fun v Y hY => by rw [← hch]; exact refCheck_any l v Y hY
  obtain ⟨s, hs⟩ : ∃ s, d.sup = s := ⟨_, rfl⟩
  obtain ⟨r, hr⟩ : ∃ s, d.ret = s := ⟨_, rfl⟩
  have PL : Hid (∀ Y, Calls Try.prog 28 #[.agg #[.int .i64 s, .int .i64 r], .int .i64 q, .int .i64 a, .int .i64 b] Y fun e w' => e = .returned (.tuple #[.int .i64 LV, .int .i64 LE]) ∧ Below Y.heap.size Y w') := fun Y => by rw [← hLV, ← hLE, ← hs, ← hr]; exact Loss_any d q a b Y
  have RL : Hid (∀ Y, Calls Try.prog 42 #[.agg #[.int .i64 s, .int .i64 r], .int .i64 q, .int .i64 a, .int .i64 b] Y fun e w' => e = .returned (.tuple #[.int .i64 LV, .int .i64 LE]) ∧ Below Y.heap.size Y w') := fun Y => by rw [← hLV, ← hLE, ← hs, ← hr]; exact refLoss_any d q a b Y
  have PT : Hid (∀ v Y, RDays Y.heap.size Y v l → Calls Try.prog 24 #[v, .int .i64 q, .int .i64 a, .int .i64 b] Y fun e w' => e = .returned (.tuple #[.int .i64 TV, .int .i64 TE]) ∧ Below Y.heap.size Y w') := fun v Y hY => by rw [← hTV, ← hTE]; exact Total_any a b l q v Y hY
  have RT : Hid (∀ v Y, RDays Y.heap.size Y v l → Calls Try.prog 43 #[v, .int .i64 q, .int .i64 a, .int .i64 b] Y fun e w' => e = .returned (.tuple #[.int .i64 TV, .int .i64 TE]) ∧ Below Y.heap.size Y w') := fun v Y hY => by rw [← hTV, ← hTE]; exact refTotal_any a b l q v Y hY
  have PB : Hid (∀ v Y, RDays Y.heap.size Y v l → Calls Try.prog 23 #[v, .int .i64 a, .int .i64 b] Y fun e w' => e = .returned (.tuple #[.int .i64 B1v, .int .i64 B2v, .int .i64 BE]) ∧ Below Y.heap.size Y w') := fun v Y hY => by rw [← hB1v, ← hB2v, ← hBE]; exact Best_any a b l v Y hY
  have RB : Hid (∀ v Y, RDays Y.heap.size Y v l → Calls Try.prog 44 #[v, .int .i64 a, .int .i64 b] Y fun e w' => e = .returned (.tuple #[.int .i64 B1v, .int .i64 B2v, .int .i64 BE]) ∧ Below Y.heap.size Y w') := fun v Y hY => by rw [← hB1v, ← hB2v, ← hBE]; exact refBest_any a b l v Y hY
  have CD : Hid (∀ Y, Below W0.heap.size W0 Y → Calls Try.prog 41 #[.slice A n c] Y fun e w' => ∃ A' c', e = .returned (.slice A' n c') ∧ Below Y.heap.size Y w' ∧ RDays w'.heap.size w' (.slice A' n c') l) := fun Y hY => by
    refine (days_any l HL.out (.slice A n c) Y (HRY.out Y hY)).mono ?_
    rintro _ w' ⟨A', c', rfl, hO, hb⟩
    rw [HN.out] at hO ⊢
    refine ⟨A', c', rfl, hb, ?_⟩
    show Rd _ _ _ _ _ _
    rw [HN.out]
    exact Rd.own hO (own_le hO)
  rw [hs, hr] at HK0 E0 ⊢
  have HSY : Hid (∀ Y, Below W0.heap.size W0 Y → Y.cell? ⟨p, 0, none⟩ = some (.int .i64 s) ∧ Y.cell? ⟨p, 1, none⟩ = some (.int .i64 r)) := fun Y hY => by
    rw [← HP.out]
    have h1 := HK0.out.below hY HK0.out.lt
    exact ⟨cellOf h1 0 rfl, cellOf h1 1 rfl⟩
  have gch : (ch != ch) = false := by simp
  have gLV : (LV != LV) = false := by simp
  have gLE : (LE != LE) = false := by simp
  have gTV : (TV != TV) = false := by simp
  have gTE : (TE != TE) = false := by simp
  have gB1 : (B1v == B1v) = true := by simp
  have gB2 : (B2v == B2v) = true := by simp
  have gBE : (BE == BE) = true := by simp
  clear h hn hl e0 hp HK0 hch hLV hLE hTV hTE hB1v hB2v hBE hs hr
  go_enter Try.func14, Try.ntmps14
  go_upto_region 1 with fail
  rw [E0.out, HP.out]
  clear E0
  go_wp2_with fail
  refine C1.out.mono ?_
  rintro _ Y1 ⟨u, rfl, hO1, hb1⟩
  have HB1 := Lib.hid hb1
  have HO1 := Lib.hid hO1
  obtain ⟨B1, d1, rfl⟩ := ownsRow_form hO1
  rw [HN.out] at HO1 ⊢
  have HOW : Hid (∀ Y, Below Y1.heap.size Y1 Y → RDays Y.heap.size Y (.slice B1 n d1) l) := fun Y hY => by
    have h1 : RDays Y1.heap.size Y1 (.slice B1 n d1) l := by show Rd _ _ _ _ _ _; rw [HN.out]; exact Rd.own HO1.out (own_le HO1.out)
    exact (Rd.below h1 hY).more hY.size
  have HTO : Hid (∀ Y, Below Y1.heap.size Y1 Y → Below W0.heap.size W0 Y) := fun Y hY => HB1.out.trans (hY.mono HB1.out.size)
  clear C1 hO1 hb1
  go_wp2_with fail
  refine (PC.out _ Y1 (HOW.out Y1 (Below.refl _ _))).mono ?_
  rintro _ Z1 ⟨rfl, hz⟩
  have HZ1 := Lib.hid hz
  clear hz PC
  go_wp2_with fail
  refine (CD.out Z1 (HTO.out Z1 HZ1.out)).mono ?_
  rintro _ Z2 ⟨A2, c2, rfl, hz, hrd⟩
  have HZ2 : Hid (Below Y1.heap.size Y1 Z2) := HZ1.out.trans (hz.mono HZ1.out.size)
  have C4 := Lib.hid (RC.out _ Z2 hrd)
  clear hz hrd RC
  go_wp2_with fail
  refine C4.out.mono ?_
  rintro _ Z3 ⟨rfl, hz⟩
  have HZ3 : Hid (Below Y1.heap.size Y1 Z3) := HZ2.out.trans (hz.mono HZ2.out.size)
  clear hz C4
  obtain ⟨s0, s1⟩ := HSY.out Z3 (HTO.out Z3 HZ3.out)
  go_wp2_with fail
  refine (PL.out Z3).mono ?_
  rintro _ Z4 ⟨rfl, hz⟩
  have HZ4 : Hid (Below Y1.heap.size Y1 Z4) := HZ3.out.trans (hz.mono HZ3.out.size)
  clear hz PL s0 s1
  obtain ⟨s0, s1⟩ := HSY.out Z4 (HTO.out Z4 HZ4.out)
  go_wp2_with fail
  refine (RL.out Z4).mono ?_
  rintro _ Z5 ⟨rfl, hz⟩
  have HZ5 : Hid (Below Y1.heap.size Y1 Z5) := HZ4.out.trans (hz.mono HZ4.out.size)
  clear hz RL s0 s1
  go_wp2_with fail
  refine (PT.out _ Z5 (HOW.out Z5 HZ5.out)).mono ?_
  rintro _ Z6 ⟨rfl, hz⟩
  have HZ6 : Hid (Below Y1.heap.size Y1 Z6) := HZ5.out.trans (hz.mono HZ5.out.size)
  clear hz PT
  go_wp2_with fail
  refine (CD.out Z6 (HTO.out Z6 HZ6.out)).mono ?_
  rintro _ Z7 ⟨A3, c3, rfl, hz, hrd⟩
  have HZ7 : Hid (Below Y1.heap.size Y1 Z7) := HZ6.out.trans (hz.mono HZ6.out.size)
  have C9 := Lib.hid (RT.out _ Z7 hrd)
  clear hz hrd RT
  go_wp2_with fail
  refine C9.out.mono ?_
  rintro _ Z8 ⟨rfl, hz⟩
  have HZ8 : Hid (Below Y1.heap.size Y1 Z8) := HZ7.out.trans (hz.mono HZ7.out.size)
  clear hz C9
  go_wp2_with fail
  refine (PB.out _ Z8 (HOW.out Z8 HZ8.out)).mono ?_
  rintro _ Z9 ⟨rfl, hz⟩
  have HZ9 : Hid (Below Y1.heap.size Y1 Z9) := HZ8.out.trans (hz.mono HZ8.out.size)
  clear hz PB
  go_wp2_with fail
  refine (CD.out Z9 (HTO.out Z9 HZ9.out)).mono ?_
  rintro _ Za ⟨A4, c4, rfl, hz, hrd⟩
  have HZa : Hid (Below Y1.heap.size Y1 Za) := HZ9.out.trans (hz.mono HZ9.out.size)
  have C12 := Lib.hid (RB.out _ Za hrd)
  clear hz hrd RB
  go_wp2_with fail
  refine C12.out.mono ?_
  rintro _ Zb ⟨rfl, hz⟩
  have HZb : Hid (Below Y1.heap.size Y1 Zb) := HZa.out.trans (hz.mono HZa.out.size)
  have CE : Hid (Calls Try.prog 45 #[.slice B1 n d1, .slice A n c] Zb fun e w' => e = .returned (.bool true) ∧ Below Zb.heap.size Zb w') := Lib.hid (by
    have h1 := eqDays_any (.slice B1 n d1) (.slice A n c) l l Zb (HOW.out Zb HZb.out) (HRY.out Zb (HTO.out Zb HZb.out))
    simpa using h1)
  clear hz C12
  go_wp2_with fail
  refine CE.out.mono ?_
  rintro _ Zc ⟨rfl, hz⟩
  have HZc : Hid (Below Y1.heap.size Y1 Zc) := HZb.out.trans (hz.mono HZb.out.size)
  clear hz CE
  go_wp2_with fail
  go_ret
  exact ⟨rfl, HB0.out.trans ((HTO.out Zc HZc.out).mono HB0.out.size)⟩
end Go.Proofs.Ytlmpbmlbllndcaa
