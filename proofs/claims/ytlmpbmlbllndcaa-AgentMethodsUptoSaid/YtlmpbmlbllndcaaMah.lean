/-
  The reference's says.
-/
import Derived.Test.YtlmpbmlbllndcaaMag
namespace Go.Proofs.Ytlmpbmlbllndcaa
open Go.RowKit
attribute [local go_sem] Oper.semAt_some

theorem ret_ib {a c : Int} {b d : Bool} (h1 : a = c) (h2 : b = d) : Ending.returned (.tuple #[.int .i64 a, .bool b]) = .returned (.tuple #[.int .i64 c, .bool d]) := by rw [h1, h2]
theorem mean_as {s d : Int} (hd : 0 < d) : (s + d - 1) / d = if 0 < s % d then s / d + 1 else s / d := by
  have h1 := Int.mul_ediv_add_emod s d
  have h2 := Int.emod_nonneg s (show d ≠ 0 by omega)
  have h3 := Int.emod_lt_of_pos s hd
  obtain ⟨q, hq⟩ : ∃ q, s / d = q := ⟨_, rfl⟩
  obtain ⟨r, hr⟩ : ∃ q, s % d = q := ⟨_, rfl⟩
  rw [hq, hr] at h1
  rw [hr] at h2 h3
  rw [hq, hr]
  split
  · rw [show s + d - 1 = (r - 1) + d * (q + 1) by rw [Int.mul_add]; omega, Int.add_mul_ediv_left _ _ (by omega), Int.ediv_eq_zero_of_lt (by omega) (by omega)]
    omega
  · rw [show s + d - 1 = (d - 1) + d * q by omega, Int.add_mul_ediv_left _ _ (by omega), Int.ediv_eq_zero_of_lt (by omega) (by omega)]
    omega
set_option maxRecDepth 1000000 in
set_option maxHeartbeats 4000000 in
theorem refSaysC_any (m : MethD) (hm : m.okB = true) (l : List DayD) (hl : l.length ≤ 400) (hd : ∀ d ∈ l, d.ok) (day : Int) (hday : 0 ≤ day ∧ day ≤ l.length) (v : Value) (w : World) (h : RDays w.heap.size w v l) :
    Calls Try.prog 103 #[.agg #[.int .i64 m.kind, .int .i64 m.days], v, .int .i64 day] w fun e w' => e = .returned (.tuple #[.int .i64 (if m.says day then m.said l day else 0), .bool (m.says day)]) ∧ Below w.heap.size w w' := by
  obtain ⟨A, c, rfl, hlm, HD⟩ := days_later h
  obtain ⟨n, hn⟩ : ∃ n, l.length = n := ⟨_, rfl⟩
  rw [hn] at hlm hl hday ⊢
  have HN := Lib.hid hn
  have HDO := Lib.hid hd
  obtain ⟨mk, md, mc⟩ := m.ok_bd hm
  obtain ⟨day0, day1⟩ := hday
  obtain ⟨md0, md1⟩ := md
  obtain ⟨kd, hkd⟩ : ∃ k, m.kind = k := ⟨_, rfl⟩
  obtain ⟨dd, hdd⟩ : ∃ k, m.days = k := ⟨_, rfl⟩
  have HKD := Lib.hid hkd
  have HDD := Lib.hid hdd
  rw [hkd] at mk mc ⊢
  rw [hdd] at md0 md1 mc ⊢
  have F0 : ∃ W0, w.alloc (.cells #[.int .i64 kd, .int .i64 dd] 108) = W0 ∧ Hid (Below w.heap.size w W0) ∧ Hid (Blk W0 w.heap.size 108 #[.int .i64 kd, .int .i64 dd]) := ⟨_, rfl, below_alloc _ _, Blk.new _ _ _⟩
  obtain ⟨W0, e0, HB0, HK0⟩ := F0
  have E0 := Lib.hid e0
  obtain ⟨p, hp⟩ : ∃ p, w.heap.size = p := ⟨_, rfl⟩
  have HP := Lib.hid hp
  have HSY : Hid (∀ Y, Below W0.heap.size W0 Y → Y.cell? ⟨p, 0, none⟩ = some (.int .i64 kd) ∧ Y.cell? ⟨p, 1, none⟩ = some (.int .i64 dd)) := fun Y hY => by
    rw [← HP.out]
    have h1 := HK0.out.below hY HK0.out.lt
    exact ⟨cellOf h1 0 rfl, cellOf h1 1 rfl⟩
  obtain ⟨z0, z1⟩ := HSY.out W0 (Below.refl _ _)
  obtain ⟨V, hV⟩ : ∃ z, (if m.says day then m.said l day else 0) = z := ⟨_, rfl⟩
  obtain ⟨SB, hSB⟩ : ∃ z, m.says day = z := ⟨_, rfl⟩
  have HVE := Lib.hid hV
  have HSB := Lib.hid hSB
  rw [hV, hSB]
  clear h hn hd hm e0 hkd hdd hp HK0 mk mc hV hSB
  by_cases hk3 : kd = 3
  case pos =>
    have g3 : (kd == 3) = true := by simp [hk3]
    have HAP : Hid (m.apart = 7) := by show _ = _; unfold MethD.apart; rw [HKD.out]; simp [hk3]
    clear hk3
    go_enter Try.func103, Try.ntmps103
    go_upto_region 1 with fail
    rw [E0.out, HP.out]
    clear E0
    by_cases hlt : day < dd * 7
    · have HX : Hid (m.says day = false) := by show _ = _; unfold MethD.says; rw [HDD.out, HAP.out]; simpa using hlt
      have HX2 : Hid ((0 : Int) = V ∧ false = SB) := by
        have h1 := HVE.out
        have h2 := HSB.out
        rw [HX.out] at h1 h2
        exact ⟨h1, h2⟩
      go_wp2_with fail
      go_ret2
      exact ⟨ret_ib HX2.out.1 HX2.out.2, HB0.out⟩
    have HX : Hid (m.says day = true) := by show _ = _; unfold MethD.says; rw [HDD.out, HAP.out]; simpa using hlt
    have HX2 : Hid (m.said l day = V ∧ true = SB) := by
      have h1 := HVE.out
      have h2 := HSB.out
      rw [HX.out] at h1 h2
      exact ⟨h1, h2⟩
    clear HX
    go_wp2_with fail
    go_loopw [9, 10, 11] (fun s q i wr => ∃ (k : Nat) (a b : Int), (k : Int) ≤ dd ∧ i = .int .i64 ((k : Int) + 1) ∧ s = .int .i64 a ∧ q = .int .i64 b ∧ Hid (a = sumI (lookTo m l day k) ∧ b = maxL (lookTo m l day k)) ∧ 0 ≤ a ∧ a ≤ 10000 * (k : Int) ∧ 0 ≤ b ∧ b ≤ 10000 ∧ Hid (Below W0.heap.size W0 wr)) (fun _ _ i _ => (dd + 1 - intOf i).toNat)
    case atStart => exact ⟨0, 0, 0, by omega, rfl, rfl, rfl, ⟨by simp [lookTo, sumI], by simp [lookTo, maxL]⟩, by omega, by omega, by omega, by omega, Below.refl _ _⟩
    case round =>
    clear z0 z1
    obtain ⟨k, a, b, hk, rfl, rfl, rfl, hab, a0, a1, b0, b1, hB⟩ := hrel
    obtain ⟨X, rfl⟩ : ∃ X : World, X = wr := ⟨_, rfl⟩
    obtain ⟨y0, y1⟩ := HSY.out X hB.out
    by_cases hl2 : (k : Int) + 1 ≤ dd
    · obtain ⟨j, hj⟩ : ∃ j : Nat, day - ((k : Int) + 1) * 7 = (j : Int) := ⟨(day - ((k : Int) + 1) * 7).toNat, by omega⟩
      have hjn : j < n := by omega
      obtain ⟨x, hx⟩ : ∃ x, l[j]? = some x := ⟨_, List.getElem?_eq_getElem (by rw [HN.out]; exact hjn)⟩
      obtain ⟨g, o, rfl, HXX⟩ := HD.out j x hx
      obtain ⟨c0, c1⟩ := HXX.out X (HB0.out.trans (hB.out.mono HB0.out.size))
      obtain ⟨d1, d2, d3, d4⟩ := HDO.out x (List.mem_of_getElem? hx)
      have hso : soldAt l (day - ((k : Int) + 1) * m.apart) = x.sup - x.ret := by
        rw [HAP.out, hj]
        unfold soldAt
        rw [show ((j : Int)).toNat = j by omega, hx]
        rfl
      obtain ⟨s, hs⟩ : ∃ s, x.sup = s := ⟨_, rfl⟩
      obtain ⟨r, hr⟩ : ∃ s, x.ret = s := ⟨_, rfl⟩
      rw [hs] at c0 d1 d2 d4 hso
      rw [hr] at c1 d3 d4 hso
      have HNX : Hid (a + s - r = sumI (lookTo m l day (k + 1)) ∧ max b (s - r) = maxL (lookTo m l day (k + 1))) := by
        rw [lookTo_next, sumI_snoc, maxL_snoc, hso, ← hab.out.1, ← hab.out.2]
        exact ⟨by omega, rfl⟩
      have kx1 : IntKind.i64.wrap (((k : Int) + 1) * 7) = ((k : Int) + 1) * 7 := IntWalk.i64_in _ ⟨by omega, by omega⟩
      have kx2 : IntKind.i64.wrap (day - ((k : Int) + 1) * 7) = (j : Int) := by rw [hj]; exact IntWalk.i64_in _ ⟨by omega, by omega⟩
      have j0 : (0 : Int) ≤ (j : Int) := by omega
      have j1 : (j : Int) < (n : Int) := by omega
      have F1 : ∃ X1, X.alloc (.cells #[.int .i64 s, .int .i64 r] 99) = X1 ∧ Hid (Below X.heap.size X X1) ∧ Hid (Blk X1 X.heap.size 99 #[.int .i64 s, .int .i64 r]) := ⟨_, rfl, below_alloc _ _, Blk.new _ _ _⟩
      obtain ⟨X1, e1, HX1, HK1⟩ := F1
      have E1 := Lib.hid e1
      have HB1 : Hid (Below W0.heap.size W0 X1) := hB.out.trans (HX1.out.mono hB.out.size)
      have u0 := cellOf HK1.out 0 (x := .int .i64 s) rfl
      have u1 := cellOf HK1.out 1 (x := .int .i64 r) rfl
      have v1 : -100000000 ≤ a + s := by omega
      have v2 : a + s ≤ 100000000 := by omega
      have v3 : -100000000 ≤ a + s - r := by omega
      have v4 : a + s - r ≤ 100000000 := by omega
      have v5 : -100000000 ≤ s - r := by omega
      have v6 : s - r ≤ 100000000 := by omega
      have HKA : Hid ((k : Int) + 1 = ((k + 1 : Nat) : Int)) := by show _ = _; omega
      have HRR : Hid (((k + 1 : Nat) : Int) ≤ dd ∧ 0 ≤ a + s - r ∧ a + s - r ≤ 10000 * ((k + 1 : Nat) : Int) ∧ 0 ≤ max b (s - r) ∧ max b (s - r) ≤ 10000) := ⟨by omega, by omega, by push_cast; omega, by omega, by omega⟩
      have HJ := Lib.hid hj
      have HMX : Hid (Value.int .i64 (if b < s - r then s - r else b) = Value.int .i64 (max b (s - r))) := by
        show _ = _
        rw [show (if b < s - r then s - r else b) = max b (s - r) by split <;> omega]
      clear e1 hx hso hs hr d1 d2 d3 d4 hj
      go_upto_region 11 with fail
      rw [E1.out]
      clear E1 c0 c1
      go_wp2_with fail
      go_roundw
      case rel => exact ⟨k + 1, a + s - r, max b (s - r), HRR.out.1, by rw [← HKA.out], rfl, HMX.out, HNX, HRR.out.2.1, HRR.out.2.2.1, HRR.out.2.2.2.1, HRR.out.2.2.2.2, HB1⟩
      case measure => simp [intOf]; omega
    have hkd' : dd = (k : Int) := by omega
    have HLA : Hid (lookL m l day = lookTo m l day k) := by show _ = _; unfold lookL; rw [HDD.out, hkd']; rfl
    have HBW : Hid (Below w.heap.size w X) := HB0.out.trans (hB.out.mono HB0.out.size)
    by_cases hk4 : kd = 4
    · have g4 : (kd == 4) = true := by simp [hk4]
      have HR4 : Hid (b = V) := by show _ = _; rw [← HX2.out.1]; unfold MethD.said; rw [HKD.out, if_pos hk4, HLA.out]; exact hab.out.2
      clear hk4 hkd'
      go_wp2_with fail
      go_ret2
      exact ⟨ret_ib HR4.out HX2.out.2, HBW.out⟩
    have g4 : (kd == 4) = false := by simp [hk4]
    have dd0 : ¬ dd = 0 := by omega
    have ddb : (dd == 0) = false := by simp [dd0]
    have hm1 := mean_as (s := a) (d := dd) (by omega)
    have q0 : 0 ≤ a / dd := Int.ediv_nonneg a0 (by omega)
    have q1 : a / dd ≤ a := Int.ediv_le_self dd a0
    have r0 : 0 ≤ a % dd := Int.emod_nonneg a dd0
    have r1 : a % dd < dd := Int.emod_lt_of_pos a (by omega)
    obtain ⟨Q, hQ⟩ : ∃ z, a / dd = z := ⟨_, rfl⟩
    obtain ⟨R, hR⟩ : ∃ z, a % dd = z := ⟨_, rfl⟩
    have HV4 : Hid ((if 0 < R then Q + 1 else Q) = V) := by
      show _ = _
      rw [← HX2.out.1]
      unfold MethD.said
      rw [HKD.out, if_neg hk4, HLA.out]
      unfold meanL
      rw [lookTo_len, ← hab.out.1, ← hkd', hm1, hQ, hR]
    rw [hQ] at q0 q1
    rw [hR] at r0 r1
    have kq : IntKind.i64.wrap (a.tdiv dd) = Q := by rw [Int.tdiv_eq_ediv_of_nonneg a0, hQ]; exact IntWalk.i64_in _ ⟨by omega, by omega⟩
    have kr : IntKind.i64.wrap (a.tmod dd) = R := by rw [Int.tmod_eq_emod_of_nonneg a0, hR]; exact IntWalk.i64_in _ ⟨by omega, by omega⟩
    have KQ : Hid (wrap64 (a.tdiv dd) = Q) := (IntWalk.i64_left _).symm.trans kq
    have KR : Hid (wrap64 (a.tmod dd) = R) := (IntWalk.i64_left _).symm.trans kr
    have kq2 := KQ.out
    have kr2 := KR.out
    have w1 : -100000000 ≤ Q + 1 := by omega
    have w2 : Q + 1 ≤ 100000000 := by omega
    have HQ := Lib.hid hQ
    have HR := Lib.hid hR
    clear hk4 hkd' hm1 hQ hR KQ KR
    by_cases hR0 : 0 < R
    · have g5 : decide (0 < R) = true := by simpa using hR0
      have g6 : decide (0 < a % dd) = true := by rw [HR.out]; exact g5
      have HV5 : Hid (Q + 1 = V) := by show _ = _; rw [← HV4.out, if_pos hR0]
      go_wp2_with fail
      go_ret2
      exact ⟨ret_ib (by first | exact HV5.out | (rw [HQ.out]; exact HV5.out)) HX2.out.2, HBW.out⟩
    · have g5 : decide (0 < R) = false := by simpa using hR0
      have g6 : decide (0 < a % dd) = false := by rw [HR.out]; exact g5
      have HV5 : Hid (Q = V) := by show _ = _; rw [← HV4.out, if_neg hR0]
      go_wp2_with fail
      go_ret2
      exact ⟨ret_ib (by first | exact HV5.out | (rw [HQ.out]; exact HV5.out)) HX2.out.2, HBW.out⟩
  case neg =>
    have g3 : (kd == 3) = false := by simp [hk3]
    have HAP : Hid (m.apart = 1) := by show _ = _; unfold MethD.apart; rw [HKD.out]; simp [hk3]
    clear hk3
    go_enter Try.func103, Try.ntmps103
    go_upto_region 1 with fail
    rw [E0.out, HP.out]
    clear E0
    by_cases hlt : day < dd
    · have HX : Hid (m.says day = false) := by show _ = _; unfold MethD.says; rw [HDD.out, HAP.out]; simpa using hlt
      have HX2 : Hid ((0 : Int) = V ∧ false = SB) := by
        have h1 := HVE.out
        have h2 := HSB.out
        rw [HX.out] at h1 h2
        exact ⟨h1, h2⟩
      go_wp2_with fail
      go_ret2
      exact ⟨ret_ib HX2.out.1 HX2.out.2, HB0.out⟩
    have HX : Hid (m.says day = true) := by show _ = _; unfold MethD.says; rw [HDD.out, HAP.out]; simpa using hlt
    have HX2 : Hid (m.said l day = V ∧ true = SB) := by
      have h1 := HVE.out
      have h2 := HSB.out
      rw [HX.out] at h1 h2
      exact ⟨h1, h2⟩
    clear HX
    go_wp2_with fail
    go_loopw [9, 10, 11] (fun s q i wr => ∃ (k : Nat) (a b : Int), (k : Int) ≤ dd ∧ i = .int .i64 ((k : Int) + 1) ∧ s = .int .i64 a ∧ q = .int .i64 b ∧ Hid (a = sumI (lookTo m l day k) ∧ b = maxL (lookTo m l day k)) ∧ 0 ≤ a ∧ a ≤ 10000 * (k : Int) ∧ 0 ≤ b ∧ b ≤ 10000 ∧ Hid (Below W0.heap.size W0 wr)) (fun _ _ i _ => (dd + 1 - intOf i).toNat)
    case atStart => exact ⟨0, 0, 0, by omega, rfl, rfl, rfl, ⟨by simp [lookTo, sumI], by simp [lookTo, maxL]⟩, by omega, by omega, by omega, by omega, Below.refl _ _⟩
    case round =>
    clear z0 z1
    obtain ⟨k, a, b, hk, rfl, rfl, rfl, hab, a0, a1, b0, b1, hB⟩ := hrel
    obtain ⟨X, rfl⟩ : ∃ X : World, X = wr := ⟨_, rfl⟩
    obtain ⟨y0, y1⟩ := HSY.out X hB.out
    by_cases hl2 : (k : Int) + 1 ≤ dd
    · obtain ⟨j, hj⟩ : ∃ j : Nat, day - ((k : Int) + 1) = (j : Int) := ⟨(day - ((k : Int) + 1)).toNat, by omega⟩
      have hjn : j < n := by omega
      obtain ⟨x, hx⟩ : ∃ x, l[j]? = some x := ⟨_, List.getElem?_eq_getElem (by rw [HN.out]; exact hjn)⟩
      obtain ⟨g, o, rfl, HXX⟩ := HD.out j x hx
      obtain ⟨c0, c1⟩ := HXX.out X (HB0.out.trans (hB.out.mono HB0.out.size))
      obtain ⟨d1, d2, d3, d4⟩ := HDO.out x (List.mem_of_getElem? hx)
      have hso : soldAt l (day - ((k : Int) + 1) * m.apart) = x.sup - x.ret := by
        rw [HAP.out, Int.mul_one, hj]
        unfold soldAt
        rw [show ((j : Int)).toNat = j by omega, hx]
        rfl
      obtain ⟨s, hs⟩ : ∃ s, x.sup = s := ⟨_, rfl⟩
      obtain ⟨r, hr⟩ : ∃ s, x.ret = s := ⟨_, rfl⟩
      rw [hs] at c0 d1 d2 d4 hso
      rw [hr] at c1 d3 d4 hso
      have HNX : Hid (a + s - r = sumI (lookTo m l day (k + 1)) ∧ max b (s - r) = maxL (lookTo m l day (k + 1))) := by
        rw [lookTo_next, sumI_snoc, maxL_snoc, hso, ← hab.out.1, ← hab.out.2]
        exact ⟨by omega, rfl⟩
      have kx1 := trivial
      have kx2 : IntKind.i64.wrap (day - ((k : Int) + 1)) = (j : Int) := by rw [hj]; exact IntWalk.i64_in _ ⟨by omega, by omega⟩
      have j0 : (0 : Int) ≤ (j : Int) := by omega
      have j1 : (j : Int) < (n : Int) := by omega
      have F1 : ∃ X1, X.alloc (.cells #[.int .i64 s, .int .i64 r] 99) = X1 ∧ Hid (Below X.heap.size X X1) ∧ Hid (Blk X1 X.heap.size 99 #[.int .i64 s, .int .i64 r]) := ⟨_, rfl, below_alloc _ _, Blk.new _ _ _⟩
      obtain ⟨X1, e1, HX1, HK1⟩ := F1
      have E1 := Lib.hid e1
      have HB1 : Hid (Below W0.heap.size W0 X1) := hB.out.trans (HX1.out.mono hB.out.size)
      have u0 := cellOf HK1.out 0 (x := .int .i64 s) rfl
      have u1 := cellOf HK1.out 1 (x := .int .i64 r) rfl
      have v1 : -100000000 ≤ a + s := by omega
      have v2 : a + s ≤ 100000000 := by omega
      have v3 : -100000000 ≤ a + s - r := by omega
      have v4 : a + s - r ≤ 100000000 := by omega
      have v5 : -100000000 ≤ s - r := by omega
      have v6 : s - r ≤ 100000000 := by omega
      have HKA : Hid ((k : Int) + 1 = ((k + 1 : Nat) : Int)) := by show _ = _; omega
      have HRR : Hid (((k + 1 : Nat) : Int) ≤ dd ∧ 0 ≤ a + s - r ∧ a + s - r ≤ 10000 * ((k + 1 : Nat) : Int) ∧ 0 ≤ max b (s - r) ∧ max b (s - r) ≤ 10000) := ⟨by omega, by omega, by push_cast; omega, by omega, by omega⟩
      have HJ := Lib.hid hj
      have HMX : Hid (Value.int .i64 (if b < s - r then s - r else b) = Value.int .i64 (max b (s - r))) := by
        show _ = _
        rw [show (if b < s - r then s - r else b) = max b (s - r) by split <;> omega]
      clear e1 hx hso hs hr d1 d2 d3 d4 hj
      go_upto_region 11 with fail
      rw [E1.out]
      clear E1 c0 c1
      go_wp2_with fail
      go_roundw
      case rel => exact ⟨k + 1, a + s - r, max b (s - r), HRR.out.1, by rw [← HKA.out], rfl, HMX.out, HNX, HRR.out.2.1, HRR.out.2.2.1, HRR.out.2.2.2.1, HRR.out.2.2.2.2, HB1⟩
      case measure => simp [intOf]; omega
    have hkd' : dd = (k : Int) := by omega
    have HLA : Hid (lookL m l day = lookTo m l day k) := by show _ = _; unfold lookL; rw [HDD.out, hkd']; rfl
    have HBW : Hid (Below w.heap.size w X) := HB0.out.trans (hB.out.mono HB0.out.size)
    by_cases hk4 : kd = 4
    · have g4 : (kd == 4) = true := by simp [hk4]
      have HR4 : Hid (b = V) := by show _ = _; rw [← HX2.out.1]; unfold MethD.said; rw [HKD.out, if_pos hk4, HLA.out]; exact hab.out.2
      clear hk4 hkd'
      go_wp2_with fail
      go_ret2
      exact ⟨ret_ib HR4.out HX2.out.2, HBW.out⟩
    have g4 : (kd == 4) = false := by simp [hk4]
    have dd0 : ¬ dd = 0 := by omega
    have ddb : (dd == 0) = false := by simp [dd0]
    have hm1 := mean_as (s := a) (d := dd) (by omega)
    have q0 : 0 ≤ a / dd := Int.ediv_nonneg a0 (by omega)
    have q1 : a / dd ≤ a := Int.ediv_le_self dd a0
    have r0 : 0 ≤ a % dd := Int.emod_nonneg a dd0
    have r1 : a % dd < dd := Int.emod_lt_of_pos a (by omega)
    obtain ⟨Q, hQ⟩ : ∃ z, a / dd = z := ⟨_, rfl⟩
    obtain ⟨R, hR⟩ : ∃ z, a % dd = z := ⟨_, rfl⟩
    have HV4 : Hid ((if 0 < R then Q + 1 else Q) = V) := by
      show _ = _
      rw [← HX2.out.1]
      unfold MethD.said
      rw [HKD.out, if_neg hk4, HLA.out]
      unfold meanL
      rw [lookTo_len, ← hab.out.1, ← hkd', hm1, hQ, hR]
    rw [hQ] at q0 q1
    rw [hR] at r0 r1
    have kq : IntKind.i64.wrap (a.tdiv dd) = Q := by rw [Int.tdiv_eq_ediv_of_nonneg a0, hQ]; exact IntWalk.i64_in _ ⟨by omega, by omega⟩
    have kr : IntKind.i64.wrap (a.tmod dd) = R := by rw [Int.tmod_eq_emod_of_nonneg a0, hR]; exact IntWalk.i64_in _ ⟨by omega, by omega⟩
    have KQ : Hid (wrap64 (a.tdiv dd) = Q) := (IntWalk.i64_left _).symm.trans kq
    have KR : Hid (wrap64 (a.tmod dd) = R) := (IntWalk.i64_left _).symm.trans kr
    have kq2 := KQ.out
    have kr2 := KR.out
    have w1 : -100000000 ≤ Q + 1 := by omega
    have w2 : Q + 1 ≤ 100000000 := by omega
    have HQ := Lib.hid hQ
    have HR := Lib.hid hR
    clear hk4 hkd' hm1 hQ hR KQ KR
    by_cases hR0 : 0 < R
    · have g5 : decide (0 < R) = true := by simpa using hR0
      have g6 : decide (0 < a % dd) = true := by rw [HR.out]; exact g5
      have HV5 : Hid (Q + 1 = V) := by show _ = _; rw [← HV4.out, if_pos hR0]
      go_wp2_with fail
      go_ret2
      exact ⟨ret_ib (by first | exact HV5.out | (rw [HQ.out]; exact HV5.out)) HX2.out.2, HBW.out⟩
    · have g5 : decide (0 < R) = false := by simpa using hR0
      have g6 : decide (0 < a % dd) = false := by rw [HR.out]; exact g5
      have HV5 : Hid (Q = V) := by show _ = _; rw [← HV4.out, if_neg hR0]
      go_wp2_with fail
      go_ret2
      exact ⟨ret_ib (by first | exact HV5.out | (rw [HQ.out]; exact HV5.out)) HX2.out.2, HBW.out⟩
end Go.Proofs.Ytlmpbmlbllndcaa
