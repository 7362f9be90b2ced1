/-
  The reference's Share: copy by copy.
-/
import Derived.Test.YtlmpbmlbllndcaaMbq
namespace Go.Proofs.Ytlmpbmlbllndcaa
open Go.RowKit
attribute [local go_sem] Oper.semAt_some

/-- A row of what is given. -/
structure GvW (w : World) (gr : Nat) (n : Nat) (g : List Int) (X : World) : Prop where
  low : Below w.heap.size w X
  row : Blk X gr 3 (g.map (Value.int .i64)).toArray
  len : g.length = n
  new : w.heap.size ≤ gr
theorem GvW.below {w X Y : World} {gr n : Nat} {g : List Int} (h : GvW w gr n g X) (hb : Below X.heap.size X Y) : GvW w gr n g Y := ⟨h.low.trans (hb.mono h.low.size), h.row.below hb h.row.lt, h.len, h.new⟩
theorem GvW.set {w X : World} {gr n : Nat} {g : List Int} (h : GvW w gr n g X) (i : Nat) (x : Int) : GvW w gr n (g.set i x) (X.setCell ⟨gr, i, none⟩ (.int .i64 x)) := by
  have hk : KeptBut (fun k => k = gr) X (X.setCell ⟨gr, i, none⟩ (.int .i64 x)) := KeptBut.setCell (S := fun g => g = gr) rfl _
  refine ⟨h.low.trans (hk.below (fun k hk => by subst hk; exact h.new) h.low.size), ?_, by rw [List.length_set]; exact h.len, h.new⟩
  have := h.row.put i (.int .i64 x)
  rw [List.map_set]
  simpa using this
theorem GvW.cell {w X : World} {gr n : Nat} {g : List Int} (h : GvW w gr n g X) {i : Nat} (hi : i < n) : X.cell? ⟨gr, i, none⟩ = some (.int .i64 (g.getD i 0)) :=
  cellOf h.row i (by rw [List.getElem?_toArray, List.getElem?_map, List.getD_eq_getElem?_getD, List.getElem?_eq_getElem (by rw [h.len]; exact hi)]; rfl)
theorem GvW.drew {w X : World} {gr n : Nat} {g : List Int} (h : GvW w gr n g X) (q : Nat) : GvW w gr n g (X.drewN q) := h.below (below_drewN (Below.refl _ _) q)
theorem GvW.out {w X : World} {gr n : Nat} {g : List Int} (h : GvW w gr n g X) (hn : n ≤ 1000) : OInts w.heap.size X (.slice (some ⟨gr, 0, none⟩) n n) g := by
  unfold OInts
  rw [h.len]
  exact ⟨by simp [h.len], .inr ⟨gr, _, _, rfl, h.new, h.row, Nat.le_refl _, by simp only [maxLen]; omega, by simp [h.len], List.take_of_length_le (by simp [h.len])⟩⟩
theorem copAt_bd {l : List OrdD} (hd : ∀ o ∈ l, o.ok) (i : Nat) : 0 ≤ copAt l i ∧ copAt l i ≤ 10000 := by
  unfold copAt
  cases e : l[i]? with
  | none => simp
  | some x =>
    have := (hd x (List.mem_of_getElem? e)).2.1
    simpa using this
set_option maxRecDepth 100000 in
set_option maxHeartbeats 4000000 in
theorem refShare_any (l : List OrdD) (c0 : Int) (hc1 : c0 ≤ 9223372036854775807) (v : Value) (w : World) (h : ROrds w.heap.size w v l) :
    Calls Try.prog 55 #[v, .int .i64 c0] w (ShRet l c0 w) := by
  have C1 := Lib.hid (refAsked_any l c0 v w h)
  obtain ⟨A, c, rfl, hlm, HD⟩ := ords_later h
  obtain ⟨n, hn⟩ : ∃ n, l.length = n := ⟨_, rfl⟩
  have HN := Lib.hid hn
  rw [hn] at C1 hlm ⊢
  obtain ⟨r, hr⟩ : ∃ r, ordE l c0 = r := ⟨_, rfl⟩
  rw [hr] at C1
  have HR := Lib.hid hr
  clear h hn hr
  by_cases h0 : r = 0
  case neg =>
    have hrb : (r != 0) = true := by simpa using h0
    go_enter Try.func55, Try.ntmps55
    go_wp2_with fail
    refine C1.out.mono ?_
    rintro _ W1 ⟨rfl, hb1⟩
    have HB1 := Lib.hid hb1
    clear C1 hb1
    go_wp2_with fail
    go_ret2
    exact ⟨_, by rw [HR.out]; rfl, fun _ => rfl, fun hz => absurd (HR.out.symm.trans hz) h0, HB1.out⟩
  obtain ⟨hl, hd, hc0⟩ := ordE_ok (HR.out.trans h0)
  rw [HN.out] at hl hc0
  have hrb : (r != 0) = false := by simpa using h0
  have HLD := Lib.hid hd
  have HFIN : Hid (∀ (gr : Nat) X, GvW w gr n (sharesD l c0) X → ShRet l c0 w (.returned (.tuple #[.slice (some ⟨gr, 0, none⟩) n n, .int .i64 0])) X) := fun gr X hX =>
    ⟨_, by rw [HR.out, h0], fun hn => absurd (HR.out.trans h0) hn, fun _ => hX.out (by omega), hX.low⟩
  obtain ⟨M, hM⟩ : ∃ M, leftC l c0 = M := ⟨_, rfl⟩
  have HM : Hid ((M : Int) = c0 - lstK l n) := by
    show _ = _
    rw [← hM, ← HN.out]
    unfold leftC
    rw [HN.out]
    omega
  have hMb : (M : Int) ≤ 9223372036854775807 := by
    have h1 := HM.out
    have h2 := lstK_bd (by rw [HN.out]; exact hl) hd n
    omega
  have HSD : Hid (sharesD l c0 = stepsS l M (least0 l)) := by show _ = _; unfold sharesD; rw [hM]
  have HLB : Hid (∀ k, 0 ≤ lstK l k ∧ lstK l k ≤ 400000) := fun k => lstK_bd (by rw [HN.out]; exact hl) hd k
  have hmk := makeInts n (by omega)
  clear hd hc0 hM h0
  go_enter Try.func55, Try.ntmps55
  go_wp2_with fail
  refine C1.out.mono ?_
  rintro _ W1 ⟨rfl, hb1⟩
  have F2 : ∃ S, W1.alloc (.cells (Array.replicate n (.int .i64 0)) 3) = S ∧ Hid (GvW w W1.heap.size n (List.replicate n 0) S) := by
    refine ⟨_, rfl, sbelow_al hb1 _, ?_, by simp, hb1.size⟩
    have h1 := Blk.new W1 3 (Array.replicate n (.int .i64 0))
    simpa using h1
  obtain ⟨S, e2, HG0⟩ := F2
  have E2 := Lib.hid e2
  obtain ⟨gr, hgr⟩ : ∃ q, W1.heap.size = q := ⟨_, rfl⟩
  rw [hgr] at HG0
  have HGR := Lib.hid hgr
  clear C1 hb1 e2 hgr
  go_upto_region 5 with fail
  rw [E2.out, HGR.out]
  clear E2 hmk
  go_wp2_with fail
  go_loopw [1, 8] (fun q i wr => ∃ k : Nat, k ≤ n ∧ i = .int .i64 k ∧ ∃ t : Int, q = .int .i64 t ∧ Hid (t = c0 - lstK l k) ∧ Hid (∃ g, GvW w gr n g wr ∧ ∀ j, j < k → g.getD j 0 = leastAt l j)) (fun _ i _ => n - (intOf i).toNat)
  case atStart => exact ⟨0, Nat.zero_le _, rfl, c0, rfl, by show _ = _; simp [lstK, sumI], ⟨_, HG0.out, fun j hj => absurd hj (Nat.not_lt_zero _)⟩⟩
  case round =>
  clear HG0
  obtain ⟨k, hk, rfl, t, rfl, ht, hS⟩ := hrel
  obtain ⟨X, rfl⟩ : ∃ X : World, X = wr := ⟨_, rfl⟩
  obtain ⟨g, HS, hg⟩ := hS.out
  have HSG := Lib.hid HS
  have HGK := Lib.hid hg
  have htb : -400000 ≤ t ∧ t ≤ 9223372036854775807 := by
    have h1 := HLB.out k
    have h2 := ht.out
    have h3 := HM.out
    have h4 := HLB.out n
    omega
  obtain ⟨t1, t2⟩ := htb
  clear hS HS hg
  by_cases hlt : k < n
  · obtain ⟨x, hx⟩ : ∃ x, l[k]? = some x := ⟨_, List.getElem?_eq_getElem (by rw [HN.out]; exact hlt)⟩
    obtain ⟨g', o, rfl, -, HX⟩ := HD.out k x hx
    obtain ⟨z, hz⟩ : ∃ z, x.least = z := ⟨_, rfl⟩
    have HS2 := Lib.hid (HSG.out.set k z)
    have HXC : Hid (∀ Y, Below w.heap.size w Y → Y.cell? ⟨g', o + k * 3 + 2, none⟩ = some (.int .i64 z)) := fun Y hY => by rw [← hz]; exact (HX.out Y hY).2.2
    have c1 := HXC.out X HSG.out.low
    have c2' := HXC.out _ HS2.out.low
    have HG2 : Hid (∃ g, GvW w gr n g (X.setCell ⟨gr, k, none⟩ (.int .i64 z)) ∧ ∀ j, j < k + 1 → g.getD j 0 = leastAt l j) := ⟨_, HS2.out, fun j hj => by
      rw [getD_set (by rw [HSG.out.len]; exact hlt)]
      by_cases e : j = k
      · rw [if_pos e, e, leastAt_of hx, hz]
      · rw [if_neg e]
        exact HGK.out j (by omega)⟩
    have d6 := HSG.out.row.frozen k
    have d7 := HSG.out.cell hlt
    obtain ⟨gk, hgk⟩ : ∃ z, g.getD k 0 = z := ⟨_, rfl⟩
    rw [hgk] at d7
    have hnx := lstK_next hx
    have HNX : Hid (t - z = c0 - lstK l (k + 1)) := by show _ = _; rw [hnx, ht.out, hz]; omega
    have u1 : -400000 ≤ t - z ∧ t - z ≤ 9223372036854775807 := by
      have h1 := HLB.out (k + 1)
      have h2 := HNX.out
      have h3 := HM.out
      have h4 := HLB.out n
      omega
    obtain ⟨u1, u2⟩ := u1
    have k0 : (0 : Int) ≤ (k : Int) := by omega
    have k1 : (k : Int) < (n : Int) := by omega
    clear hx hnx HX ht hz hgk HS2 HSG HGK HXC hMb
    go_wp2_with fail
    go_roundw
    case rel => exact ⟨k + 1, by omega, by go_num, _, rfl, HNX, HG2⟩
    case measure => simp [intOf]; omega
  obtain rfl : k = n := by omega
  have HG1 : Hid (GvW w gr k (stepsS l 0 (least0 l)) X) := by
    have h1 : g = least0 l := given_ext (by rw [HSG.out.len, HN.out]) (by rw [HN.out]; exact HGK.out)
    show GvW _ _ _ (least0 l) _
    rw [← h1]
    exact HSG.out
  have htM : t = (M : Int) := by rw [HM.out]; exact ht.out
  subst htM
  clear ht HSG HGK HLB
  go_wp2_with fail
  go_loopw [1] (fun q wr => ∃ (m : Nat) (u : Int), q = .int .i64 u ∧ m ≤ M ∧ Hid (u = (M : Int) - m) ∧ u ≤ (M : Int) ∧ 0 ≤ u ∧ Hid (GvW w gr k (stepsS l m (least0 l)) wr)) (fun q _ => (intOf q).toNat)
  case atStart => exact ⟨0, (M : Int), rfl, Nat.zero_le _, by show _ = _; simp, by omega, by omega, HG1.out⟩
  case round =>
  clear HG1
  obtain ⟨m, u, rfl, hm, hu, hu1, hu0, hG⟩ := hrel
  obtain ⟨U, rfl⟩ : ∃ X : World, X = wr := ⟨_, rfl⟩
  obtain ⟨G, hGe⟩ : ∃ G, stepsS l m (least0 l) = G := ⟨_, rfl⟩
  have HGE := Lib.hid hGe
  rw [hGe] at hG
  have HGV : Hid (Given l G) := by show Given _ _; rw [← hGe]; exact (given0 HLD.out).steps m
  clear hGe
  by_cases hu2 : 0 < u
  case neg =>
    have HEND : Hid (GvW w gr k (sharesD l c0) U) := by
      have h1 : m = M := by have := hu.out; omega
      show GvW _ _ _ _ _
      rw [HSD.out, ← h1, HGE.out]
      exact hG.out
    clear hG hu
    go_wp2_with fail
    go_ret2
    exact HFIN.out gr U HEND.out
  have hmM : m < M := by have := hu.out; omega
  have HBD : Hid (∀ i, i < k → 0 ≤ G.getD i 0 ∧ G.getD i 0 ≤ 10000 ∧ 0 ≤ copAt l i ∧ copAt l i ≤ 10000) := fun i hi => by
    have h1 := HGV.out.at_ i (by rw [HN.out]; exact hi)
    have h2 := copAt_bd HLD.out i
    have h3 := least_nonneg HLD.out i
    omega
  have k00 : (0 : Int) ≤ (k : Int) := by omega
  go_wp2_with fail
  go_loopw [9, 10] (fun s i wr => ∃ (j : Nat) (bi : Int), j ≤ k ∧ i = .int .i64 j ∧ s = .int .i64 bi ∧ Hid (bi = bestI (pickTo l G j)) ∧ Hid (GvW w gr k G wr)) (fun _ i _ => k - (intOf i).toNat)
  case atStart => exact ⟨0, -1, Nat.zero_le _, rfl, rfl, rfl, hG.out⟩
  case round =>
  clear hG
  obtain ⟨j, bi, hj, rfl, rfl, hbi, hG⟩ := hrel
  obtain ⟨V, rfl⟩ : ∃ X : World, X = wr := ⟨_, rfl⟩
  by_cases hlt : j < k
  · obtain ⟨x, hx⟩ : ∃ x, l[j]? = some x := ⟨_, List.getElem?_eq_getElem (by rw [HN.out]; exact hlt)⟩
    obtain ⟨g', o, rfl, -, HX⟩ := HD.out j x hx
    have HCO : Hid (copAt l j = x.cop) := copAt_of hx
    obtain ⟨xc, hxc⟩ : ∃ z, x.cop = z := ⟨_, rfl⟩
    rw [hxc] at HCO
    have c1 : V.cell? ⟨g', o + j * 3 + 1, none⟩ = some (.int .i64 xc) := by rw [← hxc]; exact (HX.out V hG.out.low).2.1
    obtain ⟨gj, hgj⟩ : ∃ z, G.getD j 0 = z := ⟨_, rfl⟩
    have d1 := hG.out.cell hlt
    rw [hgj] at d1
    have hb1 := HBD.out j hlt
    rw [hgj, HCO.out] at hb1
    obtain ⟨g0, g1, x0, x1⟩ := hb1
    have HGJ := Lib.hid hgj
    have j0 : (0 : Int) ≤ (j : Int) := by omega
    have j1 : (j : Int) < (k : Int) := by omega
    clear hx HX hxc hgj
    by_cases hw : gj < xc
    case neg =>
      have a1 : decide (gj < xc) = false := by simpa using hw
      have HN2 : Hid (bi = bestI (pickTo l G (j + 1))) := by show _ = _; rw [pickTo_skip (by rw [HGJ.out, HCO.out]; exact hw)]; exact hbi.out
      clear hw hbi
      go_wp2_with fail
      go_quiet (fail)
      go_wp2_with fail
      go_roundw
      case rel => exact ⟨j + 1, bi, by omega, by go_num, rfl, HN2, hG.out.drew _⟩
      case measure => simp [intOf]; omega
    have a1 : decide (gj < xc) = true := by simpa using hw
    have HTK := Lib.hid (pickTo_take (l := l) (g := G) (k := j) (by rw [HGJ.out, HCO.out]; exact hw))
    clear hw
    cases hp : pickTo l G j with
    | none =>
      have hb : bi = -1 := by rw [hbi.out, hp]; rfl
      have a2 : decide (bi < 0) = true := by rw [hb]; rfl
      have HN2 : Hid ((j : Int) = bestI (pickTo l G (j + 1))) := by show _ = _; rw [HTK.out, hp]; rfl
      clear hbi hb hp HTK
      go_wp2_with fail
      go_quiet (fail)
      go_wp2_with fail
      go_roundw
      case rel => exact ⟨j + 1, (j : Int), by omega, by go_num, rfl, HN2, hG.out.drew _⟩
      case measure => simp [intOf]; omega
    | some y =>
      have hb : bi = (y : Int) := by rw [hbi.out, hp]; rfl
      subst hb
      obtain ⟨hyj, -⟩ := pickTo_mem hp
      have hyk : y < k := by omega
      obtain ⟨x', hx'⟩ : ∃ x, l[y]? = some x := ⟨_, List.getElem?_eq_getElem (by rw [HN.out]; exact hyk)⟩
      obtain ⟨g2, o2, e', -, HX'⟩ := HD.out y x' hx'
      cases e'
      have HCO' : Hid (copAt l y = x'.cop) := copAt_of hx'
      obtain ⟨yc, hyc⟩ : ∃ z, x'.cop = z := ⟨_, rfl⟩
      rw [hyc] at HCO'
      have c2' : V.cell? ⟨g', o + y * 3 + 1, none⟩ = some (.int .i64 yc) := by rw [← hyc]; exact (HX'.out V hG.out.low).2.1
      obtain ⟨gy, hgy⟩ : ∃ z, G.getD y 0 = z := ⟨_, rfl⟩
      have d2 := hG.out.cell hyk
      rw [hgy] at d2
      have hb2 := HBD.out y hyk
      rw [hgy, HCO'.out] at hb2
      obtain ⟨p0, p1, y0, y1⟩ := hb2
      have a2 : decide ((y : Int) < 0) = false := by simp
      have a3 : ¬ (y : Int) < 0 := by omega
      have q0 : (0 : Int) ≤ (y : Int) := by omega
      have q1 : (y : Int) < (k : Int) := by omega
      have hP : 0 ≤ gj * yc ∧ gj * yc ≤ 10000 * 10000 := ⟨Int.mul_nonneg g0 y0, Int.mul_le_mul g1 y1 y0 (by omega)⟩
      have hQ : 0 ≤ gy * xc ∧ gy * xc ≤ 10000 * 10000 := ⟨Int.mul_nonneg p0 x0, Int.mul_le_mul p1 x1 x0 (by omega)⟩
      have HLE : Hid (lessP l G j y = decide (gj * yc < gy * xc)) := by show _ = _; unfold lessP; rw [HGJ.out, hgy, HCO.out, HCO'.out]
      obtain ⟨P, hPe⟩ : ∃ z, gj * yc = z := ⟨_, rfl⟩
      obtain ⟨Q, hQe⟩ : ∃ z, gy * xc = z := ⟨_, rfl⟩
      rw [hPe] at hP HLE
      rw [hQe] at hQ HLE
      obtain ⟨P0, P1⟩ := hP
      obtain ⟨Q0, Q1⟩ := hQ
      have HTP : Hid (pickTo l G (j + 1) = some (if lessP l G j y then j else y)) := by show _ = _; rw [HTK.out, hp]
      clear hbi hp HTK hx' HX' hyc hgy HCO' 
      by_cases hPQ : P < Q
      · have a4 : decide (P < Q) = true := by simpa using hPQ
        have HN2 : Hid ((j : Int) = bestI (pickTo l G (j + 1))) := by show _ = _; rw [HTP.out, HLE.out, a4]; rfl
        clear HTP HLE
        go_wp2_with fail
        go_quiet (fail)
        go_wp2_with fail
        go_roundw
        case rel => exact ⟨j + 1, (j : Int), by omega, by go_num, rfl, HN2, hG.out.drew _⟩
        case measure => simp [intOf]; omega
      · have a4 : decide (P < Q) = false := by simpa using hPQ
        have HN2 : Hid ((y : Int) = bestI (pickTo l G (j + 1))) := by show _ = _; rw [HTP.out, HLE.out, a4]; rfl
        clear HTP HLE
        go_wp2_with fail
        go_quiet (fail)
        go_wp2_with fail
        go_roundw
        case rel => exact ⟨j + 1, (y : Int), by omega, by go_num, rfl, HN2, hG.out.drew _⟩
        case measure => simp [intOf]; omega
  obtain rfl : j = k := by omega
  have HPK : Hid (bi = bestI (pickS l G)) := by
    have h1 := hbi.out
    rw [← HN.out, pickTo_all] at h1
    exact h1
  clear hbi
  cases hp : pickS l G with
  | none =>
    have hb : bi = -1 := by rw [HPK.out, hp]; rfl
    have a2 : decide (bi < 0) = true := by rw [hb]; rfl
    have HEND : Hid (GvW w gr j (sharesD l c0) V) := by
      have h1 := steps_stop (l := l) (g := least0 l) (t := m) (by rw [HGE.out]; exact hp) (M - m)
      rw [show m + (M - m) = M by omega, HGE.out] at h1
      show GvW _ _ _ _ _
      rw [HSD.out, h1]
      exact hG.out
    clear hG hu hp HPK hb
    go_wp2_with fail
    go_ret2
    exact HFIN.out gr V HEND.out
  | some b =>
    have hb : bi = (b : Int) := by rw [HPK.out, hp]; rfl
    subst hb
    have hbm := want_mem.1 (leastTo_mem hp)
    rw [HN.out] at hbm
    obtain ⟨hbk, hbw⟩ := hbm
    obtain ⟨gb, hgb⟩ : ∃ z, G.getD b 0 = z := ⟨_, rfl⟩
    have d1 := hG.out.cell hbk
    rw [hgb] at d1
    have d2 := hG.out.row.frozen b
    have hb1 := HBD.out b hbk
    rw [hgb] at hb1
    obtain ⟨p0, p1, -, -⟩ := hb1
    have HG2 : Hid (GvW w gr j (stepsS l (m + 1) (least0 l)) (V.setCell ⟨gr, b, none⟩ (.int .i64 (gb + 1)))) := by
      have h1 : stepsS l (m + 1) (least0 l) = G.set b (gb + 1) := by
        show stepS l (stepsS l m (least0 l)) = _
        rw [HGE.out, step_pick hp, hgb]
      show GvW _ _ _ _ _
      rw [h1]
      exact hG.out.set b (gb + 1)
    have HU2 : Hid (u - 1 = (M : Int) - ((m + 1 : Nat) : Int)) := by show _ = _; rw [hu.out]; push_cast; omega
    have a2 : decide ((b : Int) < 0) = false := by simp
    have a3 : ¬ (b : Int) < 0 := by omega
    have q0 : (0 : Int) ≤ (b : Int) := by omega
    have q1 : (b : Int) < (j : Int) := by omega
    clear hG hu hp HPK hbw hgb HBD
    go_wp2_with fail
    go_roundw
    case rel => exact ⟨m + 1, u - 1, rfl, by omega, HU2, by omega, by omega, HG2⟩
    case measure => simp [intOf]; omega
end Go.Proofs.Ytlmpbmlbllndcaa
