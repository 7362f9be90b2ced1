/-
  The reference's Fair.
-/
import Derived.Test.YtlmpbmlbllndcaaMbq
import Derived.Test.YtlmpbmlbllndcaaMbm
namespace Go.Proofs.Ytlmpbmlbllndcaa
open Go.RowKit
attribute [local go_sem] Oper.semAt_some

theorem evB_same {l : List OrdD} {g : List Int} {i : Nat} (hc : 0 ≤ copAt l i) : evB l g i i = false := by
  have h : (g.getD i 0 - 1) * copAt l i ≤ g.getD i 0 * copAt l i := Int.mul_le_mul_of_nonneg_right (by omega) hc
  unfold evB
  rw [decide_eq_false (show ¬ g.getD i 0 * copAt l i < (g.getD i 0 - 1) * copAt l i by omega), Bool.and_false]
theorem evB_least {l : List OrdD} {g : List Int} {i j : Nat} (h : g.getD i 0 = leastAt l i) : evB l g i j = false := by
  unfold evB
  rw [decide_eq_false (show ¬ leastAt l i < g.getD i 0 by omega), Bool.false_and, Bool.false_and]
theorem evB_want {l : List OrdD} {g : List Int} {i j : Nat} (h : ¬ g.getD j 0 < copAt l j) : evB l g i j = false := by
  unfold evB
  rw [decide_eq_false h, Bool.and_false, Bool.false_and]
theorem evB_mul {l : List OrdD} {g : List Int} {i j : Nat} (h1 : leastAt l i < g.getD i 0) (h2 : g.getD j 0 < copAt l j) : evB l g i j = decide (g.getD j 0 * copAt l i < (g.getD i 0 - 1) * copAt l j) := by
  unfold evB
  rw [decide_eq_true h1, decide_eq_true h2, Bool.true_and, Bool.true_and]
set_option maxRecDepth 100000 in
set_option maxHeartbeats 4000000 in
theorem refFair_any (l : List OrdD) (c0 : Int) (g : List Int) (v vg : Value) (w : World) (h : ROrds w.heap.size w v l) (hv : RInts w.heap.size w vg g) :
    Calls Try.prog 57 #[v, .int .i64 c0, vg] w fun e w' => e = .returned (.tuple #[.bool (fairB l c0 g), .int .i64 (fairE l c0 g)]) ∧ Below w.heap.size w w' := by
  have C1 := Lib.hid (refAsked_any l c0 v w h)
  obtain ⟨A, c, rfl, hlm, HD⟩ := ords_later h
  obtain ⟨Ag, cg, rfl, hgm, HI⟩ := ints_later hv
  obtain ⟨n, hn⟩ : ∃ n, l.length = n := ⟨_, rfl⟩
  obtain ⟨n2, hn2⟩ : ∃ n, g.length = n := ⟨_, rfl⟩
  obtain ⟨r, hr⟩ : ∃ r, ordE l c0 = r := ⟨_, rfl⟩
  obtain ⟨fe, hfe⟩ : ∃ r, fairE l c0 g = r := ⟨_, rfl⟩
  obtain ⟨fb, hfb⟩ : ∃ r, fairB l c0 g = r := ⟨_, rfl⟩
  have HFE : Hid (fe = if r = 0 then (if n2 = n then 0 else 1) else r) := by show _ = _; rw [← hfe]; unfold fairE; rw [hr, hn, hn2]
  have HFB : Hid (fb = (decide (fe = 0) && (allowB l g c0 && evenB l g))) := by show _ = _; rw [← hfb]; unfold fairB; rw [hfe]
  rw [hr] at C1
  rw [hn] at C1 hlm ⊢
  rw [hn2] at hgm ⊢
  rw [hfe, hfb]
  have HR := Lib.hid hr
  have HN := Lib.hid hn
  have HN2 := Lib.hid hn2
  clear h hv hr hn hn2 hfe hfb
  by_cases h0 : r = 0
  case neg =>
    have hrb : (r != 0) = true := by simpa using h0
    have HE : Hid (r = fe) := by show _ = _; rw [HFE.out, if_neg h0]
    have HB : Hid (false = fb) := by show _ = _; rw [HFB.out, ← HE.out, decide_eq_false h0]; rfl
    clear h0
    go_enter Try.func57, Try.ntmps57
    go_wp2_with fail
    refine C1.out.mono ?_
    rintro _ W1 ⟨rfl, hb1⟩
    have HB1 := Lib.hid hb1
    clear hb1
    go_wp2_with fail
    go_ret2
    exact ⟨ret_bi HB.out HE.out, HB1.out⟩
  have hrb : (r != 0) = false := by simpa using h0
  obtain ⟨hl, hd, -⟩ := ordE_ok (HR.out.trans h0)
  rw [HN.out] at hl
  have HLD : Hid (∀ o ∈ l, o.ok) := hd
  have HFE2 : Hid (fe = if n2 = n then 0 else 1) := by show _ = _; rw [HFE.out, if_pos h0]
  clear hd h0 HFE HR
  by_cases hnn : n2 = n
  case neg =>
    have hne : ((n2 : Int) != (n : Int)) = true := by simp; omega
    have HE : Hid (1 = fe) := by show _ = _; rw [HFE2.out, if_neg hnn]
    have HB : Hid (false = fb) := by show _ = _; rw [HFB.out, ← HE.out]; rfl
    clear hnn
    go_enter Try.func57, Try.ntmps57
    go_wp2_with fail
    refine C1.out.mono ?_
    rintro _ W1 ⟨rfl, hb1⟩
    have HB1 := Lib.hid hb1
    clear hb1
    go_wp2_with fail
    go_ret2
    exact ⟨ret_bi HB.out HE.out, HB1.out⟩
  subst hnn
  have hne : ((n2 : Int) != (n2 : Int)) = false := by simp
  have HE : Hid (0 = fe) := by show _ = _; rw [HFE2.out, if_pos rfl]
  have HB : Hid ((allowB l g c0 && evenB l g) = fb) := by show _ = _; rw [HFB.out, ← HE.out]; rfl
  have HNO : Hid (allowB l g c0 = false → false = fb) := fun h1 => by rw [← HB.out, h1]; rfl
  have HOK : Hid (okTo l g n2 = true → allowB l g c0 = !(!(sumI g == c0) && !(sumI g == allC l) || decide (c0 < sumI g))) := fun h1 => allowB_ref (by rw [HN.out, HN2.out]) (by rw [HN.out]; exact h1)
  have HCI := Lib.hid (fun (x lo hi : Int) (Y : World) => refIn_any x lo hi Y)
  clear HFE2 HFB
  go_enter Try.func57, Try.ntmps57
  go_wp2_with fail
  refine C1.out.mono ?_
  rintro _ W1 ⟨rfl, hb1⟩
  have HB1 := Lib.hid hb1
  clear C1 hb1
  go_wp2_with fail
  go_loopw [9, 10, 11] (fun t s i wr => ∃ k : Nat, k ≤ n2 ∧ i = .int .i64 k ∧ ∃ S T : Int, s = .int .i64 S ∧ t = .int .i64 T ∧ Hid (S = gK g k) ∧ Hid (T = aK l k) ∧ Hid (okTo l g k = true) ∧ (0 ≤ S ∧ S ≤ 10000 * (k : Int) ∧ 0 ≤ T ∧ T ≤ 10000 * (k : Int)) ∧ Hid (Below w.heap.size w wr)) (fun _ _ i _ => n2 - (intOf i).toNat)
  case atStart => exact ⟨0, Nat.zero_le _, rfl, 0, 0, rfl, rfl, rfl, rfl, rfl, ⟨by omega, by omega, by omega, by omega⟩, HB1.out⟩
  case round =>
  clear HB1
  obtain ⟨k, hk, rfl, S, T, rfl, rfl, hS, hT, hO, ⟨s0, s1, t0, t1⟩, hB⟩ := hrel
  obtain ⟨X, rfl⟩ : ∃ X : World, X = wr := ⟨_, rfl⟩
  by_cases hlt : k < n2
  · obtain ⟨x, hx⟩ : ∃ x, l[k]? = some x := ⟨_, List.getElem?_eq_getElem (by rw [HN.out]; exact hlt)⟩
    obtain ⟨y, hy⟩ : ∃ x, g[k]? = some x := ⟨_, List.getElem?_eq_getElem (by rw [HN2.out]; exact hlt)⟩
    obtain ⟨b, o, rfl, -, HX⟩ := HD.out k x hx
    obtain ⟨b2, o2, rfl, HY⟩ := HI.out k y hy
    have hgy : g.getD k 0 = y := by rw [List.getD_eq_getElem?_getD, hy]; rfl
    have hon := okTo_next l g k
    rw [hO.out, Bool.true_and, hgy, leastAt_of hx, copAt_of hx] at hon
    obtain ⟨-, ⟨p1, p2⟩, p3, p4⟩ := HLD.out x (List.mem_of_getElem? hx)
    obtain ⟨xl, hxl⟩ : ∃ z, x.least = z := ⟨_, rfl⟩
    obtain ⟨xc, hxc⟩ : ∃ z, x.cop = z := ⟨_, rfl⟩
    have HXC : Hid (∀ Y, Below w.heap.size w Y → Y.cell? ⟨b2, o2 + k, none⟩ = some (.int .i64 y) ∧ Y.cell? ⟨b, o + k * 3 + 1, none⟩ = some (.int .i64 xc) ∧ Y.cell? ⟨b, o + k * 3 + 2, none⟩ = some (.int .i64 xl)) := fun Y hY => by
      rw [← hxl, ← hxc]
      exact ⟨HY.out Y hY, (HX.out Y hY).2.1, (HX.out Y hY).2.2⟩
    have hgn := gK_next hy
    have han := aK_next hx
    rw [hxc] at han hon p1 p2 p4
    rw [hxl] at hon p3 p4
    obtain ⟨bi, hbi⟩ : ∃ z, inB y xl xc = z := ⟨_, rfl⟩
    rw [hbi] at hon
    have CI : Hid (∀ w : World, Calls Try.prog 98 #[.int .i64 y, .int .i64 xl, .int .i64 xc] w fun e w' => e = .returned (.bool bi) ∧ w' = w) := fun w => by rw [← hbi]; exact (HCI.out y xl xc w).mono fun e w' h => ⟨h.1, h.2.symm⟩
    have k0 : (0 : Int) ≤ (k : Int) := by omega
    have k1 : (k : Int) < (n2 : Int) := by omega
    obtain ⟨d0, d1, d2⟩ := HXC.out X hB.out
    have HXD : Hid (∀ q, Below w.heap.size w (X.drewN q)) := fun q => below_drewN hB.out q
    cases bi with
    | false =>
      have HF : Hid (false = fb) := HNO.out (by unfold allowB; rw [HN.out, okTo_no hon n2 (by omega)]; rfl)
      clear hx hy HX HY hgy hon hbi hgn han hS hT hO hxl hxc HCI
      go_wp2_with fail
      go_quiet ((go_at_call 98; exact Calls.quiet_of_same (CI.out _)))
      go_wp2_with fail
      go_ret2
      exact ⟨ret_bi HF.out HE.out, HXD.out _⟩
    | true =>
      obtain ⟨y1, y2⟩ := inB_iff.1 hbi
      have HON := Lib.hid hon
      have HS2 : Hid (S + y = gK g (k + 1)) := by show _ = _; rw [hgn, hS.out]
      have HT2 : Hid (T + xc = aK l (k + 1)) := by show _ = _; rw [han, hT.out]
      clear hx hy HX HY hgy hon hbi hgn han hS hT hO hxl hxc
      go_wp2_with fail
      go_quiet ((go_at_call 98; exact Calls.quiet_of_same (CI.out _)))
      clear d0 d1 d2
      obtain ⟨d0, d1, d2⟩ := HXC.out _ (HXD.out nq)
      go_wp2_with fail
      go_roundw
      case rel => exact ⟨k + 1, by omega, by go_num, _, _, rfl, rfl, HS2, HT2, HON, ⟨by omega, by omega, by omega, by omega⟩, HXD.out _⟩
      case measure => simp [intOf]; omega
  obtain rfl : k = n2 := by omega
  have hsg : sumI g = S := by rw [hS.out]; unfold gK; rw [List.take_of_length_le (by rw [HN2.out]; exact Nat.le_refl _)]
  have hsa : allC l = T := by rw [hT.out]; unfold aK allC; rw [List.take_of_length_le (by rw [List.length_map, HN.out]; exact Nat.le_refl _)]
  have HAL : Hid (allowB l g c0 = !(!(S == c0) && !(S == T) || decide (c0 < S))) := by
    have h1 := HOK.out hO.out
    rw [hsg, hsa] at h1
    exact h1
  have HOT := Lib.hid (okTo_at hO.out)
  clear hsg hsa hS hT hO HOK HCI
  by_cases hbad : (!(S == c0) && !(S == T) || decide (c0 < S)) = true
  · have HF : Hid (false = fb) := HNO.out (by rw [HAL.out, hbad]; rfl)
    by_cases e1 : S = c0
    · have g1 : (S != c0) = false := by simp [e1]
      have g3 : decide (c0 < S) = false := by simp [e1]
      rw [show (S == c0) = true by simpa using e1, g3] at hbad
      simp at hbad
    · have g1 : (S != c0) = true := by simpa using e1
      by_cases e2 : S = T
      · have g2 : (S != T) = false := by simp [e2]
        have e3 : c0 < S := by
          rw [show (S == T) = true by simpa using e2] at hbad
          simpa using hbad
        have g3 : decide (c0 < S) = true := by simpa using e3
        clear hbad e1 e2
        go_wp2_with fail
        go_ret2
        exact ⟨ret_bi HF.out HE.out, hB.out⟩
      · have g2 : (S != T) = true := by simpa using e2
        clear hbad e1 e2
        go_wp2_with fail
        go_ret2
        exact ⟨ret_bi HF.out HE.out, hB.out⟩
  have hgd : (!(S == c0) && !(S == T) || decide (c0 < S)) = false := by simpa using hbad
  have HFB : Hid (evenB l g = fb) := by
    have h1 := HB.out
    rw [HAL.out, hgd] at h1
    exact h1
  have hgd2 : (S = c0 ∨ S = T) ∧ ¬ c0 < S := by
    rw [Bool.or_eq_false_iff, Bool.and_eq_false_iff] at hgd
    obtain ⟨h1, h2⟩ := hgd
    refine ⟨?_, by simpa using h2⟩
    rcases h1 with h1 | h1
    · exact .inl (by simpa using h1)
    · exact .inr (by simpa using h1)
  obtain ⟨hst, hcs⟩ := hgd2
  have g3 : decide (c0 < S) = false := by simpa using hcs
  have HBD : Hid (∀ i, i < k → leastAt l i ≤ g.getD i 0 ∧ g.getD i 0 ≤ 10000 ∧ 0 ≤ g.getD i 0 ∧ 0 ≤ copAt l i ∧ copAt l i ≤ 10000) := fun i hi => by
    have h1 := HOT.out i hi
    have h2 := least_nonneg HLD.out i
    have h3 : 0 ≤ copAt l i ∧ copAt l i ≤ 10000 := by
      unfold copAt
      cases e : l[i]? with
      | none => simp
      | some x =>
        have := (HLD.out x (List.mem_of_getElem? e)).2.1
        simpa using this
    omega
  have HCE : Hid (∀ i, i < k → ∃ b o b2 o2, A = some ⟨b, o, none⟩ ∧ Ag = some ⟨b2, o2, none⟩ ∧ Hid (∀ Y, Below w.heap.size w Y → Y.cell? ⟨b2, o2 + i, none⟩ = some (.int .i64 (g.getD i 0)) ∧ Y.cell? ⟨b, o + i * 3 + 1, none⟩ = some (.int .i64 (copAt l i)) ∧ Y.cell? ⟨b, o + i * 3 + 2, none⟩ = some (.int .i64 (leastAt l i)))) := fun i hi => by
    obtain ⟨x, hx⟩ : ∃ x, l[i]? = some x := ⟨_, List.getElem?_eq_getElem (by rw [HN.out]; exact hi)⟩
    obtain ⟨y, hy⟩ : ∃ x, g[i]? = some x := ⟨_, List.getElem?_eq_getElem (by rw [HN2.out]; exact hi)⟩
    obtain ⟨b, o, e1, -, HX⟩ := HD.out i x hx
    obtain ⟨b2, o2, e2, HY⟩ := HI.out i y hy
    refine ⟨b, o, b2, o2, e1, e2, fun Y hY => ?_⟩
    rw [copAt_of hx, leastAt_of hx, show g.getD i 0 = y by rw [List.getD_eq_getElem?_getD, hy]; rfl]
    exact ⟨HY.out Y hY, (HX.out Y hY).2.1, (HX.out Y hY).2.2⟩
  have HEN : Hid (∀ i j, i < k → j < k → evB l g i j = true → false = fb) := fun i j hi hj h1 => by
    rw [← HFB.out, evenB_no (by rw [HN.out]; exact hi) (by rw [HN.out]; exact hj) h1]
  have HEY : Hid ((∀ i j, i < k → j < k → evB l g i j = false) → true = fb) := fun h1 => by
    rw [← HFB.out, evenB_yes (by rw [HN.out]; exact h1)]
  have HCN : Hid (∀ i, 0 ≤ copAt l i → ∀ j, i = j → evB l g i j = false) := fun i h1 j h2 => by subst h2; exact evB_same h1
  clear HAL HNO HB HOT hbad hgd hcs HFB HD HI
  clear hl
  go_upto_region 14 with fail
  go_cut [72] from 60 to 72 (fun s72 wx => s72 = .bool false ∧ wx = X)
  case first =>
    by_cases e1 : S = c0
    · have g1 : (S != c0) = false := by simp [e1]
      clear hst e1
      go_wp2_with fail
      go_meet
      exact ⟨rfl, rfl⟩
    · have g1 : (S != c0) = true := by simpa using e1
      have g2 : (S != T) = false := by
        rcases hst with e | e
        · exact absurd e e1
        · simp [e]
      clear hst e1
      go_wp2_with fail
      go_meet
      exact ⟨rfl, rfl⟩
  case rest =>
  obtain ⟨rfl, hwx⟩ := hcut
  obtain ⟨X2, rfl⟩ : ∃ V : World, V = wc := ⟨_, rfl⟩
  have hBX2 : Hid (Below w.heap.size w X2) := by rw [hwx]; exact hB
  clear hst hwx hB
  go_wp2_with fail
  go_loopw [12] (fun i wr => ∃ j : Nat, j ≤ k ∧ i = .int .i64 j ∧ Hid (∀ i', i' < j → ∀ j', j' < k → evB l g i' j' = false) ∧ Hid (Below w.heap.size w wr)) (fun i _ => k - (intOf i).toNat)
  case atStart => exact ⟨0, Nat.zero_le _, rfl, fun i' hi => absurd hi (Nat.not_lt_zero _), hBX2⟩
  case round =>
  clear hBX2
  obtain ⟨i, hi, rfl, hE, hB⟩ := hrel
  obtain ⟨U, rfl⟩ : ∃ X : World, X = wr := ⟨_, rfl⟩
  by_cases hik : i < k
  case neg =>
    obtain rfl : i = k := by omega
    have HF := Lib.hid (HEY.out fun i' j' h1 h2 => hE.out i' h1 j' h2)
    clear hE
    go_wp2_with fail
    go_ret2
    exact ⟨ret_bi HF.out HE.out, hB.out⟩
  obtain ⟨b, o, b2, o2, rfl, rfl, HC1⟩ := HCE.out i hik
  obtain ⟨gi, hgi⟩ : ∃ z, g.getD i 0 = z := ⟨_, rfl⟩
  obtain ⟨ci, hci⟩ : ∃ z, copAt l i = z := ⟨_, rfl⟩
  obtain ⟨li, hli⟩ : ∃ z, leastAt l i = z := ⟨_, rfl⟩
  have hbi := HBD.out i hik
  rw [hgi, hci, hli] at HC1 hbi
  obtain ⟨i1, i2, i3, i4, i5⟩ := hbi
  have HGI := Lib.hid hgi
  have HCI := Lib.hid hci
  have HLI := Lib.hid hli
  obtain ⟨d0, d1, d2⟩ := HC1.out U hB.out
  have HUD : Hid (∀ q, Below w.heap.size w (U.drewN q)) := fun q => below_drewN hB.out q
  have i0 : (0 : Int) ≤ (i : Int) := by omega
  have ik : (i : Int) < (k : Int) := by omega
  clear hgi hci hli hB
  by_cases hgl : gi = li
  · have g5 : (gi == li) = true := by simpa using hgl
    have HE2 : Hid (∀ i', i' < i + 1 → ∀ j', j' < k → evB l g i' j' = false) := fun i' h1 j' h2 => by
      by_cases e : i' = i
      · subst e
        exact evB_least (by rw [HGI.out, HLI.out]; exact hgl)
      · exact hE.out i' (by omega) j' h2
    clear hgl hE
    go_wp2_with fail
    go_quiet (fail)
    go_wp2_with fail
    go_roundw
    case rel => exact ⟨i + 1, by omega, by go_num, HE2, HUD.out _⟩
    case measure => simp [intOf]; omega
  have g5 : (gi == li) = false := by simpa using hgl
  have hgl2 : li < gi := by omega
  clear hgl
  go_wp2_with fail
  go_quiet (fail)
  obtain ⟨U2, hU2⟩ : ∃ Z, U.drewN nq = Z := ⟨_, rfl⟩
  have HU2 : Hid (Below w.heap.size w U2) := by show Below _ _ _; rw [← hU2]; exact HUD.out nq
  rw [hU2]
  clear hU2 d0 d1 d2 HUD g5
  go_wp2_with fail
  go_loopw [13] (fun q wr => ∃ j : Nat, j ≤ k ∧ q = .int .i64 j ∧ Hid (∀ j', j' < j → evB l g i j' = false) ∧ Hid (Below w.heap.size w wr)) (fun q _ => k - (intOf q).toNat)
  case atStart => exact ⟨0, Nat.zero_le _, rfl, fun j' hj => absurd hj (Nat.not_lt_zero _), HU2⟩
  case round =>
  clear HU2
  obtain ⟨j, hj, rfl, hEj, hB⟩ := hrel
  obtain ⟨V, rfl⟩ : ∃ X : World, X = wr := ⟨_, rfl⟩
  by_cases hjk : j < k
  case neg =>
    obtain rfl : j = k := by omega
    have HE2 : Hid (∀ i', i' < i + 1 → ∀ j', j' < j → evB l g i' j' = false) := fun i' h1 j' h2 => by
      by_cases e : i' = i
      · subst e
        exact hEj.out j' h2
      · exact hE.out i' (by omega) j' h2
    clear hE hEj
    go_wp2_with fail
    go_roundw
    case rel => exact ⟨i + 1, by omega, by go_num, HE2, hB⟩
    case measure => simp [intOf]; omega
  obtain ⟨b', o', b2', o2', e1, e2, HC2⟩ := HCE.out j hjk
  cases e1
  cases e2
  obtain ⟨gj, hgj⟩ : ∃ z, g.getD j 0 = z := ⟨_, rfl⟩
  obtain ⟨cj, hcj⟩ : ∃ z, copAt l j = z := ⟨_, rfl⟩
  have hbj := HBD.out j hjk
  rw [hgj, hcj] at HC2 hbj
  obtain ⟨-, j2, j3, j4, j5⟩ := hbj
  have HGJ := Lib.hid hgj
  have HCJ := Lib.hid hcj
  obtain ⟨d0, d1, -⟩ := HC1.out V hB.out
  obtain ⟨f0, f1, -⟩ := HC2.out V hB.out
  have HVD : Hid (∀ q, Below w.heap.size w (V.drewN q)) := fun q => below_drewN hB.out q
  have j0 : (0 : Int) ≤ (j : Int) := by omega
  have jk : (j : Int) < (k : Int) := by omega
  have HNX : Hid (evB l g i j = false → ∀ j', j' < j + 1 → evB l g i j' = false) := fun h1 j' h2 => by
    by_cases e : j' = j
    · subst e; exact h1
    · exact hEj.out j' (by omega)
  clear hgj hcj hEj hB
  by_cases hij : i = j
  · have HN2 := Lib.hid (HNX.out (HCN.out i (by rw [HCI.out]; exact i4) j hij))
    have g6 : ((j : Int) != (i : Int)) = false := by simp [hij]
    clear hij
    go_wp2_with fail
    go_quiet (fail)
    go_wp2_with fail
    go_roundw
    case rel => exact ⟨j + 1, by omega, by go_num, HN2, HVD.out _⟩
    case measure => simp [intOf]; omega
  have g6 : ((j : Int) != (i : Int)) = true := by simp; omega
  clear hij
  by_cases hw : gj < cj
  case neg =>
    have g7 : decide (gj < cj) = false := by simpa using hw
    have HN2 := Lib.hid (HNX.out (evB_want (by rw [HGJ.out, HCJ.out]; exact hw)))
    clear hw
    go_wp2_with fail
    go_quiet (fail)
    go_wp2_with fail
    go_roundw
    case rel => exact ⟨j + 1, by omega, by go_num, HN2, HVD.out _⟩
    case measure => simp [intOf]; omega
  have g7 : decide (gj < cj) = true := by simpa using hw
  have HEV : Hid (evB l g i j = decide (gj * ci < (gi - 1) * cj)) := by
    have h1 := evB_mul (l := l) (g := g) (i := i) (j := j) (by rw [HGI.out, HLI.out]; exact hgl2) (by rw [HGJ.out, HCJ.out]; exact hw)
    rw [HGI.out, HGJ.out, HCI.out, HCJ.out] at h1
    exact h1
  obtain ⟨gm, hgm⟩ : ∃ z, gi - 1 = z := ⟨_, rfl⟩
  have hl0 := least_nonneg HLD.out i
  rw [HLI.out] at hl0
  have hgm1 : 0 ≤ gm ∧ gm ≤ 10000 := by omega
  obtain ⟨m0, m1⟩ := hgm1
  have hP : 0 ≤ gm * cj ∧ gm * cj ≤ 10000 * 10000 := ⟨Int.mul_nonneg m0 j4, Int.mul_le_mul m1 j5 j4 (by omega)⟩
  have hQ : 0 ≤ gj * ci ∧ gj * ci ≤ 10000 * 10000 := ⟨Int.mul_nonneg j3 i4, Int.mul_le_mul j2 i5 i4 (by omega)⟩
  rw [hgm] at HEV
  obtain ⟨P, hPe⟩ : ∃ z, gm * cj = z := ⟨_, rfl⟩
  obtain ⟨Q, hQe⟩ : ∃ z, gj * ci = z := ⟨_, rfl⟩
  rw [hPe] at hP HEV
  rw [hQe] at hQ HEV
  obtain ⟨P0, P1⟩ := hP
  obtain ⟨Q0, Q1⟩ := hQ
  clear hw
  by_cases hPQ : Q < P
  · have g8 : decide (Q < P) = true := by simpa using hPQ
    have HF := Lib.hid (HEN.out i j hik hjk (by rw [HEV.out]; exact g8))
    go_wp2_with fail
    go_quiet (fail)
    go_wp2_with fail
    go_ret2
    exact ⟨ret_bi HF.out HE.out, HVD.out _⟩
  · have g8 : decide (Q < P) = false := by simpa using hPQ
    have HN2 := Lib.hid (HNX.out (by rw [HEV.out]; exact g8))
    go_wp2_with fail
    go_quiet (fail)
    go_wp2_with fail
    go_roundw
    case rel => exact ⟨j + 1, by omega, by go_num, HN2, HVD.out _⟩
    case measure => simp [intOf]; omega
end Go.Proofs.Ytlmpbmlbllndcaa
