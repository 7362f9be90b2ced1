/-
  Fair: areEven.
-/
import Derived.Test.YtlmpbmlbllndcaaMbk
namespace Go.Proofs.Ytlmpbmlbllndcaa
open Go.RowKit
attribute [local go_sem] Oper.semAt_some

theorem cmpI_pos {a b : Int} : 0 < cmpI a b ↔ b < a := by unfold cmpI; split; omega; split <;> omega
set_option maxRecDepth 100000 in
set_option maxHeartbeats 4000000 in
theorem areEven_any (l : List OrdD) (g : List Int) (hl : l.length ≤ 40) (hd : ∀ o ∈ l, o.ok) (hg : g.length = l.length) (hok : ∀ i, i < l.length → leastAt l i ≤ g.getD i 0 ∧ g.getD i 0 ≤ copAt l i) (v vg : Value) (w : World) (h : ROrds w.heap.size w v l) (hv : RInts w.heap.size w vg g) :
    Calls Try.prog 85 #[v, vg] w fun e w' => e = .returned (.bool (evenB l g)) ∧ Below w.heap.size w w' := by
  obtain ⟨A, c, rfl, hlm, HD⟩ := ords_later h
  obtain ⟨Ag, cg, rfl, -, HI⟩ := ints_later hv
  obtain ⟨n, hn⟩ : ∃ n, l.length = n := ⟨_, rfl⟩
  rw [hn] at hg hlm hl hok
  rw [hn, hg]
  have HNN := Lib.hid hn
  have HGL := Lib.hid hg
  have HLD := Lib.hid hd
  have HOK := Lib.hid hok
  obtain ⟨r, hr⟩ : ∃ r, evenB l g = r := ⟨_, rfl⟩
  rw [hr]
  have HR := Lib.hid hr
  clear h hv hn hg hd hr hok
  go_enter Try.func85, Try.ntmps85
  go_wp2_with fail
  go_loopw [12] (fun i wr => ∃ k : Nat, k ≤ n ∧ i = .int .i64 k ∧ Hid (∀ i j, i < k → j < n → evB l g i j = false) ∧ Hid (Below w.heap.size w wr)) (fun i _ => n - (intOf i).toNat)
  case atStart => exact ⟨0, Nat.zero_le _, rfl, fun i j hi => absurd hi (Nat.not_lt_zero _), Below.refl _ _⟩
  case round =>
  obtain ⟨k, hk, rfl, hE, hB⟩ := hrel
  obtain ⟨X, rfl⟩ : ∃ X : World, X = wr := ⟨_, rfl⟩
  by_cases hlt : k < n
  case neg =>
    have HF : Hid (r = true) := by
      show _ = _
      rw [← HR.out]
      exact evenB_yes fun i j hi hj => hE.out i j (by rw [HNN.out] at hi; omega) (by rw [HNN.out] at hj; exact hj)
    clear hE
    go_wp2_with fail
    go_ret
    exact ⟨rb HF.out, hB.out⟩
  obtain ⟨x, hx⟩ : ∃ x, l[k]? = some x := ⟨_, List.getElem?_eq_getElem (by rw [HNN.out]; exact hlt)⟩
  obtain ⟨gk, hgk⟩ : ∃ x, g[k]? = some x := ⟨_, List.getElem?_eq_getElem (by rw [HGL.out]; exact hlt)⟩
  obtain ⟨b, o, rfl, -, HX⟩ := HD.out k x hx
  obtain ⟨b2, o2, rfl, HY⟩ := HI.out k gk hgk
  obtain ⟨c1, c2, c3⟩ := HX.out X hB.out
  obtain ⟨xl, hxl⟩ : ∃ z, x.least = z := ⟨_, rfl⟩
  obtain ⟨xc, hxc⟩ : ∃ z, x.cop = z := ⟨_, rfl⟩
  obtain ⟨xa, hxa⟩ : ∃ z, x.ag = z := ⟨_, rfl⟩
  obtain ⟨-, ⟨p1, p2⟩, p3, p4⟩ := HLD.out x (List.mem_of_getElem? hx)
  have hgy : g.getD k 0 = gk := by rw [List.getD_eq_getElem?_getD, hgk]; rfl
  have hlx := leastAt_of hx
  have hcx := copAt_of hx
  obtain ⟨q1, q2⟩ := HOK.out k hlt
  rw [hgy, hlx] at q1
  rw [hgy, hcx] at q2
  rw [hxa] at c1
  rw [hxc] at c2 p1 p2 p4 q2 hcx
  rw [hxl] at c3 p3 p4 q1 hlx
  have F1 : ∃ X1, X.alloc (.cells #[.int .i64 xa, .int .i64 xc, .int .i64 xl] 33) = X1 ∧ Hid (Below X.heap.size X X1) ∧ Hid (Blk X1 X.heap.size 33 #[.int .i64 xa, .int .i64 xc, .int .i64 xl]) := ⟨_, rfl, below_alloc _ _, Blk.new _ _ _⟩
  obtain ⟨X1, e1, HX1, HK1⟩ := F1
  have E1 := Lib.hid e1
  obtain ⟨q, hq⟩ : ∃ q, X.heap.size = q := ⟨_, rfl⟩
  rw [hq] at HK1
  have HQ := Lib.hid hq
  have HB1 : Hid (Below w.heap.size w X1 ∧ Blk X1 q 33 #[.int .i64 xa, .int .i64 xc, .int .i64 xl]) := ⟨hB.out.trans (HX1.out.mono hB.out.size), HK1.out⟩
  have HGY := Lib.hid hgy
  have HLX := Lib.hid hlx
  have HCX := Lib.hid hcx
  have k0 : (0 : Int) ≤ (k : Int) := by omega
  have k1 : (k : Int) < (n : Int) := by omega
  clear hx hgk HX e1 hq hgy hlx hcx hxl hxc hxa HX1 HK1 hB
  go_upto_region 4 with fail
  rw [E1.out, HQ.out]
  clear E1 c1 c2 c3 HQ
  go_wp2_with fail
  go_loopw [19] (fun j wr => ∃ m : Nat, m ≤ n ∧ j = .int .i64 m ∧ Hid (∀ j, j < m → evB l g k j = false) ∧ Hid (Below w.heap.size w wr ∧ Blk wr q 33 #[.int .i64 xa, .int .i64 xc, .int .i64 xl])) (fun j _ => n - (intOf j).toNat)
  case atStart => exact ⟨0, Nat.zero_le _, rfl, fun j hj => absurd hj (Nat.not_lt_zero _), HB1.out⟩
  case round =>
    clear HB1
    obtain ⟨m, hm, rfl, hF, hB⟩ := hrel
    obtain ⟨Y, rfl⟩ : ∃ X : World, X = wr := ⟨_, rfl⟩
    by_cases hmt : m < n
    case neg =>
      obtain rfl : m = n := by omega
      have HE2 : Hid (∀ i j, i < k + 1 → j < m → evB l g i j = false) := fun i j hi hj => by
        by_cases e : i = k
        · subst e; exact hF.out j hj
        · exact hE.out i j (by omega) hj
      have HBB : Hid (Below w.heap.size w Y) := hB.out.1
      clear hE hF hB
      go_wp2_with fail
      go_roundw
      case rel => exact ⟨k + 1, by omega, by go_num, HE2, HBB⟩
      case measure => simp [intOf]; omega
    obtain ⟨y, hy⟩ : ∃ x, l[m]? = some x := ⟨_, List.getElem?_eq_getElem (by rw [HNN.out]; exact hmt)⟩
    obtain ⟨gm, hgm⟩ : ∃ x, g[m]? = some x := ⟨_, List.getElem?_eq_getElem (by rw [HGL.out]; exact hmt)⟩
    obtain ⟨b', o', e, -, HX⟩ := HD.out m y hy
    cases e
    obtain ⟨b3, o3, e, HZ⟩ := HI.out m gm hgm
    cases e
    obtain ⟨c1, c2, c3⟩ := HX.out Y hB.out.1
    obtain ⟨yl, hyl⟩ : ∃ z, y.least = z := ⟨_, rfl⟩
    obtain ⟨yc, hyc⟩ : ∃ z, y.cop = z := ⟨_, rfl⟩
    obtain ⟨ya, hya⟩ : ∃ z, y.ag = z := ⟨_, rfl⟩
    obtain ⟨-, ⟨t1, t2⟩, t3, t4⟩ := HLD.out y (List.mem_of_getElem? hy)
    have hgy : g.getD m 0 = gm := by rw [List.getD_eq_getElem?_getD, hgm]; rfl
    have hcy := copAt_of hy
    obtain ⟨u1, u2⟩ := HOK.out m hmt
    have hly := leastAt_of hy
    rw [hgy, hly] at u1
    rw [hgy, hcy] at u2
    rw [hya] at c1
    rw [hyc] at c2 t1 t2 u2 hcy
    rw [hyl] at c3 t3 u1
    have F1 : ∃ Y1, Y.alloc (.cells #[.int .i64 ya, .int .i64 yc, .int .i64 yl] 33) = Y1 ∧ Hid (Below Y.heap.size Y Y1) ∧ Hid (Blk Y1 Y.heap.size 33 #[.int .i64 ya, .int .i64 yc, .int .i64 yl]) := ⟨_, rfl, below_alloc _ _, Blk.new _ _ _⟩
    obtain ⟨Y1, e1, HY1, HK1⟩ := F1
    have E1 := Lib.hid e1
    obtain ⟨p, hp⟩ : ∃ q, Y.heap.size = q := ⟨_, rfl⟩
    rw [hp] at HK1
    have HP := Lib.hid hp
    have HB1 : Hid (Below w.heap.size w Y1 ∧ Blk Y1 q 33 #[.int .i64 xa, .int .i64 xc, .int .i64 xl]) := ⟨hB.out.1.trans (HY1.out.mono hB.out.1.size), hB.out.2.below HY1.out hB.out.2.lt⟩
    have HC : Hid (∀ Z, Below Y1.heap.size Y1 Z → Z.cell? ⟨b2, o2 + k, none⟩ = some (.int .i64 gk) ∧ Z.cell? ⟨b2, o2 + m, none⟩ = some (.int .i64 gm) ∧ Z.cell? ⟨q, 1, none⟩ = some (.int .i64 xc) ∧ Z.cell? ⟨q, 2, none⟩ = some (.int .i64 xl) ∧ Z.cell? ⟨p, 1, none⟩ = some (.int .i64 yc)) := fun Z hz => by
      have h1 := HB1.out.1.trans (hz.mono HB1.out.1.size)
      have h2 := HB1.out.2.below hz HB1.out.2.lt
      exact ⟨HY.out Z h1, HZ.out Z h1, cellOf h2 1 rfl, cellOf h2 2 rfl, cellOf (HK1.out.below hz HK1.out.lt) 1 rfl⟩
    have HEND : Hid (∀ Z, Below Y1.heap.size Y1 Z → Below w.heap.size w Z ∧ Blk Z q 33 #[.int .i64 xa, .int .i64 xc, .int .i64 xl]) := fun Z hz => ⟨HB1.out.1.trans (hz.mono HB1.out.1.size), HB1.out.2.below hz HB1.out.2.lt⟩
    have hev : evB l g k m = ((decide (xl < gk) && decide (gm < yc)) && decide (gm * xc < (gk - 1) * yc)) := by
      unfold evB
      rw [HGY.out, hgy, HLX.out, HCX.out, hcy]
    have HNX : Hid (evB l g k m = false → ∀ j, j < m + 1 → evB l g k j = false) := fun he j hj => by
      by_cases e : j = m
      · subst e; exact he
      · exact hF.out j (by omega)
    have HNO : Hid (evB l g k m = true → r = false) := fun he => by
      rw [← HR.out]
      exact evenB_no (by rw [HNN.out]; exact hlt) (by rw [HNN.out]; exact hmt) he
    have HEV := Lib.hid hev
    have m0 : (0 : Int) ≤ (m : Int) := by omega
    have m1 : (m : Int) < (n : Int) := by omega
    clear hy hgm HX HZ e1 hp hgy hcy hly hyl hyc hya hev HY1 HK1 hB hF
    go_upto_region 7 with fail
    rw [E1.out, HP.out]
    clear E1 c1 c2 c3 HP
    obtain ⟨f1, f2, f3, f4, f5⟩ := HC.out Y1 (Below.refl _ _)
    by_cases h1 : xl < gk
    · have d1 : decide (xl < gk) = true := by simpa using h1
      by_cases h2 : gm < yc
      · have d2 : decide (gm < yc) = true := by simpa using h2
        have pm1 : 0 ≤ (gk - 1) * yc ∧ (gk - 1) * yc ≤ 1000000000000 := ⟨Int.mul_nonneg (by omega) (by omega), Int.le_trans (Int.mul_le_mul (show gk - 1 ≤ 10000 by omega) t2 t1 (by omega)) (by omega)⟩
        have pm2 : 0 ≤ gm * xc ∧ gm * xc ≤ 1000000000000 := ⟨Int.mul_nonneg (by omega) (by omega), Int.le_trans (Int.mul_le_mul (show gm ≤ 10000 by omega) p2 p1 (by omega)) (by omega)⟩
        have CP := Lib.hid (fun w => parts_any (gk - 1) xc gm yc pm1 pm2 w)
        obtain ⟨cc, hcc⟩ : ∃ cc, cmpI ((gk - 1) * yc) (gm * xc) = cc := ⟨_, rfl⟩
        rw [hcc] at CP
        have hcp : (0 < cc) ↔ gm * xc < (gk - 1) * yc := by rw [← hcc]; exact cmpI_pos
        have v1 : -10000 ≤ gk - 1 := by omega
        have v2 : gk - 1 ≤ 10000 := by omega
        by_cases h3 : 0 < cc
        · have d3 : decide (0 < cc) = true := by simpa using h3
          have HF2 : Hid (r = false) := HNO.out (by rw [HEV.out, d1, d2, decide_eq_true (hcp.1 h3)]; rfl)
          clear hcc pm1 pm2 hcp h1 h2 h3 HEV HNX HNO hE
          go_quiet (fail)
          obtain ⟨Z, hZ, hbZ⟩ : ∃ Z, Y1.drewN nq = Z ∧ Below Y1.heap.size Y1 Z := ⟨_, rfl, below_drewN (Below.refl _ _) _⟩
          have HZZ := Lib.hid hZ
          have HBZ := Lib.hid hbZ
          clear f1 f2 f3 f4 f5 hZ hbZ
          obtain ⟨f1, f2, f3, f4, f5⟩ := HC.out Z HBZ.out
          go_upto_region 8 with fail
          rw [HZZ.out]
          go_quiet ((go_at_call 120; exact Calls.quiet_of_same (CP.out _)))
          go_wp2_with fail
          go_ret
          exact ⟨rb HF2.out, (HEND.out _ (below_drewN HBZ.out _)).1⟩
        · have d3 : decide (0 < cc) = false := by simpa using h3
          have HN2 := Lib.hid (HNX.out (by rw [HEV.out, decide_eq_false (fun hx => h3 (hcp.2 hx))]; simp))
          clear hcc pm1 pm2 hcp h1 h2 h3 HEV HNX HNO
          go_quiet (fail)
          obtain ⟨Z, hZ, hbZ⟩ : ∃ Z, Y1.drewN nq = Z ∧ Below Y1.heap.size Y1 Z := ⟨_, rfl, below_drewN (Below.refl _ _) _⟩
          have HZZ := Lib.hid hZ
          have HBZ := Lib.hid hbZ
          clear f1 f2 f3 f4 f5 hZ hbZ
          obtain ⟨f1, f2, f3, f4, f5⟩ := HC.out Z HBZ.out
          go_upto_region 8 with fail
          rw [HZZ.out]
          go_quiet ((go_at_call 120; exact Calls.quiet_of_same (CP.out _)))
          go_wp2_with fail
          go_roundw
          case rel => exact ⟨m + 1, by omega, by go_num, HN2, HEND.out _ (below_drewN HBZ.out _)⟩
          case measure => simp [intOf]; omega
      · have d2 : decide (gm < yc) = false := by simpa using h2
        have HN2 := Lib.hid (HNX.out (by rw [HEV.out, d2]; simp))
        clear h1 h2 HEV HNX HNO
        go_quiet (fail)
        obtain ⟨Z, hZ, hbZ⟩ : ∃ Z, Y1.drewN nq = Z ∧ Below Y1.heap.size Y1 Z := ⟨_, rfl, below_drewN (Below.refl _ _) _⟩
        have HZZ := Lib.hid hZ
        have HBZ := Lib.hid hbZ
        clear f1 f2 f3 f4 f5 hZ hbZ
        go_upto_region 8 with fail
        rw [HZZ.out]
        go_quiet (fail)
        go_wp2_with fail
        go_roundw
        case rel => exact ⟨m + 1, by omega, by go_num, HN2, HEND.out _ (below_drewN HBZ.out _)⟩
        case measure => simp [intOf]; omega
    · have d1 : decide (xl < gk) = false := by simpa using h1
      have HN2 := Lib.hid (HNX.out (by rw [HEV.out, d1]; simp))
      clear h1 HEV HNX HNO
      go_quiet (fail)
      obtain ⟨Z, hZ, hbZ⟩ : ∃ Z, Y1.drewN nq = Z ∧ Below Y1.heap.size Y1 Z := ⟨_, rfl, below_drewN (Below.refl _ _) _⟩
      have HZZ := Lib.hid hZ
      have HBZ := Lib.hid hbZ
      clear f1 f2 f3 f4 f5 hZ hbZ
      go_upto_region 8 with fail
      rw [HZZ.out]
      go_quiet (fail)
      go_wp2_with fail
      go_roundw
      case rel => exact ⟨m + 1, by omega, by go_num, HN2, HEND.out _ (below_drewN HBZ.out _)⟩
      case measure => simp [intOf]; omega
end Go.Proofs.Ytlmpbmlbllndcaa
