/-
  AgentScores.
-/
import Derived.Test.YtlmpbmlbllndcaaHa
import Derived.Test.YtlmpbmlbllndcaaEd
import Derived.Test.YtlmpbmlbllndcaaKg
namespace Go.Proofs.Ytlmpbmlbllndcaa
open Go.RowKit
attribute [local go_sem] Oper.semAt_some

theorem sliceMeth : Try.prog.underlying 28 = some (.slice 56) := by kernel_rfl
theorem infoMeth : (Try.prog.info? 56).map (fun i => (i.zero, i.size, i.bytes)) = some (some (.agg #[.int .i64 0, .int .i64 0]), 2, 16) := by kernel_rfl
theorem fieldsSc : Try.prog.underlying 60 = some (.struct (Try.prog.fieldsOf 60)) := by kernel_rfl
theorem heldSc : Try.prog.stoodInHeld 60 = false := by kernel_rfl
theorem flSc : (Try.prog.fieldsOf 60).toList.map (fun f => (f.name != "_", f.type, f.offset)) = [(true, 3, 0), (true, 58, 1)] := by kernel_rfl
theorem eqScore (a b c : Int) (w : World) : (Op.equalIn 10000 60 (.agg #[.int .i64 a, .int .i64 b, .int .i64 c]) (.agg #[.int .i64 a, .int .i64 b, .int .i64 c])).run Try.prog w = .ok true w := by
  rw [run_equalIn_agg w 9999 _ _ _ fieldsSc heldSc]
  have hl := flSc
  generalize (Try.prog.fieldsOf 60).toList = fs at hl ⊢
  obtain ⟨f0, r0, rfl, h0, hl⟩ := List.map_eq_cons_iff.1 hl
  obtain ⟨f1, r1, rfl, h1, hl⟩ := List.map_eq_cons_iff.1 hl
  obtain rfl := List.map_eq_nil_iff.1 hl
  simp only [Prod.mk.injEq, bne_iff_ne, ne_eq] at h0 h1
  obtain ⟨n0, t0, o0⟩ := h0
  obtain ⟨n1, t1, o1⟩ := h1
  clear hl
  have hi : Try.prog.underlying 3 = some (.int .i64) := by kernel_rfl
  simp [Op.eqFields, n0, n1, t0, t1, o0, o1, go_sem]
set_option maxRecDepth 1000000 in
set_option maxHeartbeats 4000000 in
theorem agentScores_any (dl ml : List Int) (hl : Bytes dl) (hml : Bytes ml) (x y : Int) (hx : 0 ≤ x ∧ x ≤ 255) (hy : 0 ≤ y ∧ y ≤ 255) (v v1 : Value) (w : World) (h : RBytes w.heap.size w v dl) (h1 : RBytes w.heap.size w v1 ml) :
    Calls Try.prog 9 #[v, v1, .int .u8 x, .int .u8 y] w fun e w' => e = .returned (.bool true) ∧ Below w.heap.size w w' := by
  obtain ⟨x0, x1⟩ := hx
  obtain ⟨y0, y1⟩ := hy
  have C1 := Lib.hid (history_any dl hl v w h)
  obtain ⟨Hs, hHs⟩ : ∃ L, histD dl = L := ⟨_, rfl⟩
  obtain ⟨n, hN⟩ : ∃ N, nDays dl = N := ⟨_, rfl⟩
  have hlen : Hs.length = n := by rw [← hHs, ← hN]; exact histTo_len _ _
  have hn60 : n ≤ 60 := by rw [← hN]; unfold nDays; omega
  have HOK : Hid (∀ d ∈ Hs, d.ok ∧ d.sup ≤ 59) := by rw [← hHs]; exact hist_ok _ _
  have HCH : Hid (checkH Hs = 0) := checkH_of (by rw [hlen]; omega) (fun d hd => (HOK.out d hd).1)
  have HLEN := Lib.hid hlen
  have HHS := Lib.hid hHs
  have HN := Lib.hid hN
  obtain ⟨A1, c1, rfl, hlm1, hrr⟩ := h1.open_
  have HLR := Lib.hid hrr
  obtain ⟨n1, hn1⟩ : ∃ n, ml.length = n := ⟨_, rfl⟩
  rw [hn1] at hlm1 HLR
  rw [hn1]
  have HLN := Lib.hid hn1
  have HLY := Lib.hid hml
  obtain ⟨M, hM⟩ : ∃ M, nMeths ml = M := ⟨_, rfl⟩
  have hMd : M = min 10 (n1 / 2) := by rw [← hM, ← hn1]; rfl
  have HM := Lib.hid hM
  obtain ⟨xa, hxa⟩ : ∃ p, x % 99 = p := ⟨_, rfl⟩
  obtain ⟨ca, hca⟩ : ∃ p, 1 + xa = p := ⟨_, rfl⟩
  obtain ⟨cb, hcb⟩ : ∃ p, y % 100 = p := ⟨_, rfl⟩
  have ca0 : 1 ≤ ca := by omega
  have ca1 : ca ≤ 99 := by omega
  have cb0 : 0 ≤ cb := by omega
  have cb1 : cb ≤ 99 := by omega
  have HXA := Lib.hid hxa
  have HCA := Lib.hid hca
  have HCB := Lib.hid hcb
  have u1 : -1000 ≤ 1 + x % 99 := by omega
  have u2 : 1 + x % 99 ≤ 1000 := by omega
  clear h h1 hHs hN hlen hl hml hn1 hrr hM hxa hca hcb
  go_enter Try.func9, Try.ntmps9
  go_wp2_with fail
  refine C1.out.mono ?_
  rintro _ W1 ⟨A, cc, rfl, hO, hb1⟩
  rw [HN.out] at hO ⊢
  rw [HHS.out] at hO
  have HR1 : Hid (RDays W1.heap.size W1 (.slice A n cc) Hs) := by
    have := Rd.own hO (own_le hO)
    show Rd _ _ _ _ _ _
    rw [HLEN.out]
    exact this
  have HB1 := Lib.hid hb1
  clear C1 hO hb1
  go_upto_region 3 with fail
  rw [HXA.out, HCA.out, HCB.out]
  clear u1 u2
  obtain ⟨i0, hi0, hz0, hz1, hz2⟩ := info_parts infoMeth
  have HO0 : Hid (W1.ownsRow W1.heap.size 56 2 (.slice none 0 0) 0 ((methTo ml 0).flatMap MethD.cells)) := World.ownsRow_nil W1 _ _ _
  go_wp2_with fail
  go_loopw [12, 13] (fun dv i wr => ∃ k : Nat, k ≤ M ∧ i = .int .i64 ((2 * k : Nat) : Int) ∧ Hid (wr.ownsRow W1.heap.size 56 2 dv k ((methTo ml k).flatMap MethD.cells)) ∧ Hid (Below W1.heap.size W1 wr)) (fun _ i _ => 1000 - (intOf i).toNat)
  case atStart => exact ⟨0, Nat.zero_le _, rfl, HO0, Below.refl _ _⟩
  case round =>
  clear HO0
  obtain ⟨k, hk, rfl, hO, hB⟩ := hrel
  obtain ⟨X, rfl⟩ : ∃ X : World, X = wr := ⟨_, rfl⟩
  obtain ⟨Av, cv, rfl⟩ := ownsRow_form hO.out
  obtain ⟨j, hj⟩ : ∃ j, 2 * k = j := ⟨_, rfl⟩
  obtain ⟨j1, hj1⟩ : ∃ j1, j + 1 = j1 := ⟨_, rfl⟩
  have kj1 : (j : Int) + 1 = (j1 : Int) := by omega
  have HJ := Lib.hid hj
  rw [hj]
  have j00 : (0 : Int) ≤ (j : Int) := by omega
  have j10 : (0 : Int) ≤ (j1 : Int) := by omega
  have kw : IntKind.i64.wrap ((j : Int) + 1) = (j1 : Int) := by rw [kj1]; exact IntWalk.i64_in _ ⟨by omega, by omega⟩
  by_cases hk1 : k < M
  case pos =>
    have hc1 : (j1 : Int) < (n1 : Int) := by omega
    have hc2 : (j : Int) < 20 := by omega
    have hc3 : (j : Int) < (n1 : Int) := by omega
    obtain ⟨g, o, rfl, hgl, cx⟩ := HLR.out j (by omega)
    obtain ⟨g2, o2, e, -, cy⟩ := HLR.out j1 (by omega)
    cases e
    obtain ⟨p, hp⟩ : ∃ x, ml.getD j 0 = x := ⟨_, rfl⟩
    obtain ⟨q, hq⟩ : ∃ x, ml.getD j1 0 = x := ⟨_, rfl⟩
    obtain ⟨p0, p1⟩ : 0 ≤ p ∧ p ≤ 255 := by
      have := HLY.out (ml.getD j 0) (by rw [List.getD_eq_getElem?_getD, List.getElem?_eq_getElem (by rw [HLN.out]; omega)]; exact List.getElem_mem _)
      rw [hp] at this
      omega
    obtain ⟨q0, q1⟩ : 0 ≤ q ∧ q ≤ 255 := by
      have := HLY.out (ml.getD j1 0) (by rw [List.getD_eq_getElem?_getD, List.getElem?_eq_getElem (by rw [HLN.out]; omega)]; exact List.getElem_mem _)
      rw [hq] at this
      omega
    rw [hp] at cx
    rw [hq] at cy
    have HCX : Hid (∀ Y, Below w.heap.size w Y → Y.cell? ⟨g, o + j, none⟩ = some (.int .u8 p) ∧ Y.cell? ⟨g, o + j1, none⟩ = some (.int .u8 q)) := fun Y hY => ⟨(hY.cell (p := ⟨g, o + j, none⟩) hgl).trans cx, (hY.cell (p := ⟨g, o + j1, none⟩) hgl).trans cy⟩
    clear cx cy
    obtain ⟨p4, hp4⟩ : ∃ z, p % 4 = z := ⟨_, rfl⟩
    obtain ⟨q8, hq8⟩ : ∃ z, q % 8 = z := ⟨_, rfl⟩
    obtain ⟨kd, hkd⟩ : ∃ z, 1 + p4 = z := ⟨_, rfl⟩
    obtain ⟨ds, hds⟩ : ∃ z, 1 + q8 = z := ⟨_, rfl⟩
    have HMA : Hid (methAt ml k = ⟨kd, if kd = 1 then 1 else ds⟩) := by
      show _ = _
      unfold methAt methOf
      rw [HJ.out, hj1, hp, hq, hp4, hq8, hkd, hds]
      congr 1
      by_cases hz : p4 = 0
      · rw [if_pos hz, if_pos (by omega)]
      · rw [if_neg hz, if_neg (by omega)]
    have HBXw : Hid (Below w.heap.size w X) := HB1.out.trans (hB.out.mono HB1.out.size)
    obtain ⟨c0, c1'⟩ := HCX.out X HBXw.out
    have F1 : ∃ X1, (X.alloc (.cells #[.int .i64 kd, .int .i64 ds] 56)).drew = X1 ∧ Hid (Below X.heap.size X X1) ∧ Hid (Blk X1 X.heap.size 56 #[.int .i64 kd, .int .i64 ds]) := ⟨_, rfl, (below_alloc _ _).drew, (Blk.new _ _ _).drew_⟩
    obtain ⟨X1, e1, HX1, HKM⟩ := F1
    have E1 := Lib.hid e1
    have HQO : Hid (∀ gg, (Value.slice Av k cv).ownBlock = some gg → gg ≠ X.heap.size) := fun gg hg => by
      have := (hO.out.lt gg hg).2
      omega
    have HO1 : Hid (X1.ownsRow W1.heap.size 56 2 (.slice Av k cv) k ((methTo ml k).flatMap MethD.cells)) := ownsRow_below hO.out HX1.out
    have HBX1 : Hid (Below W1.heap.size W1 X1) := hB.out.trans (HX1.out.mono hB.out.size)
    have hqw : W1.heap.size ≤ X.heap.size := hB.out.size
    obtain ⟨mb, hmb⟩ : ∃ q, X.heap.size = q := ⟨_, rfl⟩
    rw [hmb] at HKM HQO hqw
    have HMB := Lib.hid hmb
    have HP4 := Lib.hid hp4
    have HQ8 := Lib.hid hq8
    have HKD := Lib.hid hkd
    have HDS := Lib.hid hds
    have u1 : -1000 ≤ 1 + p % 4 := by omega
    have u2 : 1 + p % 4 ≤ 1000 := by omega
    have u3 : -1000 ≤ 1 + q % 8 := by omega
    have u4 : 1 + q % 8 ≤ 1000 := by omega
    have HBB := Lib.hid hB.out
    clear hp hq hp4 hq8 hkd hds e1 hmb hO hB HX1
    go_upto_region 7 with fail
    have hbel : Below w.heap.size w (X.alloc (.cells #[.int .i64 0, .int .i64 0] 56)).drew := (HBXw.out.trans ((below_alloc X _).mono HBXw.out.size)).drew
    obtain ⟨a0, a2⟩ := HCX.out _ hbel
    obtain ⟨b0, b2⟩ := HCX.out _ HBXw.out.drew
    clear hbel
    go_region
    rw [HP4.out, HKD.out, HQ8.out, HDS.out, E1.out, HMB.out]
    clear E1 c0 c1' a0 a2 b0 b2 u1 u2 u3 u4
    have d0 := cellOf HKM.out 0 (x := .int .i64 kd) rfl
    have d1 := cellOf HKM.out 1 (x := .int .i64 ds) rfl
    have f1 := HKM.out.frozen 1
    by_cases hz : kd = 1
    · have hz' : (kd == 1) = true := by simp [hz]
      have HMB2 : Hid (methAt ml k = ⟨kd, 1⟩) := by show _ = _; rw [HMA.out, if_pos hz]
      clear hz
      have F2 : ∃ X2, X1.setCell ⟨mb, 1, none⟩ (.int .i64 1) = X2 ∧ Hid (Blk X2 mb 56 #[.int .i64 kd, .int .i64 1]) ∧ Hid (KeptBut (fun i => i = mb) X1 X2) := ⟨_, rfl, HKM.out.put 1 _, KeptBut.setCell (S := fun i => i = mb) (w := X1) (p := ⟨mb, 1, none⟩) rfl (.int .i64 1)⟩
      obtain ⟨X2, e2, HKX2, HKB⟩ := F2
      have HOX2 : Hid (X2.ownsRow W1.heap.size 56 2 (.slice Av k cv) k ((methTo ml k).flatMap MethD.cells)) := ownsRow_keptBut HO1.out HKB.out fun i cs hv _ e => HQO.out i hv e
      have HBX2 : Hid (Below W1.heap.size W1 X2) := HBX1.out.trans (HKB.out.below (fun i hi => by rw [hi]; exact hqw) HBX1.out.size)
      go_upto_region 10 with fail
      clear e2 d0 d1 f1
      have e0 := cellOf HKX2.out 0 (x := .int .i64 kd) rfl
      have e1 := cellOf HKX2.out 1 (x := .int .i64 1) rfl
      have F5 : ∃ X5, X2.alloc (.cells #[.int .i64 kd, .int .i64 1] 56) = X5 ∧ Hid (Below X2.heap.size X2 X5) := ⟨_, rfl, below_alloc _ _⟩
      obtain ⟨X5, e5, HX5⟩ := F5
      have HC5 := Lib.hid (cells_new X2 #[.int .i64 kd, .int .i64 1] 56)
      rw [e5] at HC5
      have E5 := Lib.hid e5
      have HO5 : Hid (X5.ownsRow W1.heap.size 56 2 (.slice Av k cv) k ((methTo ml k).flatMap MethD.cells)) := ownsRow_below HOX2.out HX5.out
      have HB5 : Hid (Below W1.heap.size W1 X5) := HBX2.out.trans (HX5.out.mono HBX2.out.size)
      clear e5
      go_wp2_with (at_builtin; rw [E5.out]; refine wpList_append_own _ rfl _ _ 28 rfl W1.heap.size 56 i0 _ 2 16 sliceMeth hi0 hz0 hz1 hz2 rfl (by decide) (.slice Av k cv) k ((methTo ml k).flatMap MethD.cells) rfl HO5.out ⟨X2.heap.size, 0, none⟩ 1 1 [.int .i64 kd, .int .i64 1] rfl rfl HC5.out (by simp [Value.oneCell']) (by simp only [maxLen]; omega) (by omega) HB5.out.size ?_; intro v2 w2 hO4 hG4 hN4)
      have hB4 : Below W1.heap.size W1 w2 := HB5.out.trans ((KeptBut.grown (S := fun j => some j = (Value.slice Av k cv).ownBlock) hG4 fun j hj => hj).below (fun i hi => (ownsRow_own HO5.out hi.symm).1) HB5.out.size)
      refine ⟨⟨k + 1, by omega, by congr 1; omega, ?_, hB4⟩, by simp [intOf]; omega⟩
      show World.ownsRow _ _ _ _ _ _ _
      rw [methTo_next, List.flatMap_append, HMB2.out]
      exact hO4
    · have hz' : (kd == 1) = false := by simp [hz]
      have HMB2 : Hid (methAt ml k = ⟨kd, ds⟩) := by show _ = _; rw [HMA.out, if_neg hz]
      have HKX1 := HKM
      have HOX1 := HO1
      go_upto_region 10 with fail
      clear d0 d1 f1
      have e0 := cellOf HKX1.out 0 (x := .int .i64 kd) rfl
      have e1 := cellOf HKX1.out 1 (x := .int .i64 ds) rfl
      have F5 : ∃ X5, X1.alloc (.cells #[.int .i64 kd, .int .i64 ds] 56) = X5 ∧ Hid (Below X1.heap.size X1 X5) := ⟨_, rfl, below_alloc _ _⟩
      obtain ⟨X5, e5, HX5⟩ := F5
      have HC5 := Lib.hid (cells_new X1 #[.int .i64 kd, .int .i64 ds] 56)
      rw [e5] at HC5
      have E5 := Lib.hid e5
      have HO5 : Hid (X5.ownsRow W1.heap.size 56 2 (.slice Av k cv) k ((methTo ml k).flatMap MethD.cells)) := ownsRow_below HOX1.out HX5.out
      have HB5 : Hid (Below W1.heap.size W1 X5) := HBX1.out.trans (HX5.out.mono HBX1.out.size)
      clear e5
      go_wp2_with (at_builtin; rw [E5.out]; refine wpList_append_own _ rfl _ _ 28 rfl W1.heap.size 56 i0 _ 2 16 sliceMeth hi0 hz0 hz1 hz2 rfl (by decide) (.slice Av k cv) k ((methTo ml k).flatMap MethD.cells) rfl HO5.out ⟨X1.heap.size, 0, none⟩ 1 1 [.int .i64 kd, .int .i64 ds] rfl rfl HC5.out (by simp [Value.oneCell']) (by simp only [maxLen]; omega) (by omega) HB5.out.size ?_; intro v2 w2 hO4 hG4 hN4)
      have hB4 : Below W1.heap.size W1 w2 := HB5.out.trans ((KeptBut.grown (S := fun j => some j = (Value.slice Av k cv).ownBlock) hG4 fun j hj => hj).below (fun i hi => (ownsRow_own HO5.out hi.symm).1) HB5.out.size)
      refine ⟨⟨k + 1, by omega, by congr 1; omega, ?_, hB4⟩, by simp [intOf]; omega⟩
      show World.ownsRow _ _ _ _ _ _ _
      rw [methTo_next, List.flatMap_append, HMB2.out]
      exact hO4
  go_upto_region 5 with fail
  go_cut [51] from 43 to 51 (fun s wx => s = .bool false ∧ wx = X)
  case first =>
    by_cases hc1 : (j1 : Int) < (n1 : Int)
    · have hc2 : ¬ (j : Int) < 20 := by omega
      go_wp2_with fail
      go_meet
      exact ⟨rfl, rfl⟩
    · go_wp2_with fail
      go_meet
      exact ⟨rfl, rfl⟩
  case rest =>
  obtain ⟨rfl, rfl⟩ := hcut
  obtain ⟨X, rfl⟩ : ∃ X : World, X = wc := ⟨_, rfl⟩
  obtain rfl : k = M := by omega
  obtain ⟨L, hL⟩ : ∃ L, methsOf ml = L := ⟨_, rfl⟩
  have hlenL : L.length = k := by rw [← hL]; unfold methsOf; rw [methTo_len, HM.out]
  have HLL := Lib.hid hlenL
  have HMO : Hid (∀ m ∈ L, m.okB = true) := by rw [← hL]; exact meths_ok ml
  have HBX : Hid (Below w.heap.size w X) := HB1.out.trans (hB.out.mono HB1.out.size)
  have HRM : Hid (RMeths X.heap.size X (.slice Av k cv) L) := by
    have h1 := Rd.own hO.out (own_le hO.out)
    show Rd _ _ _ _ _ _
    rw [hlenL, ← hL]
    unfold methsOf
    rw [HM.out]
    exact h1
  have HRH : Hid (∀ Y, Below W1.heap.size W1 Y → RDays Y.heap.size Y (.slice A n cc) Hs) := fun Y hY => (Rd.below HR1.out hY).more hY.size
  have hco : costB ca cb = true := costB_iff.2 ⟨by omega, by omega, by omega⟩
  have hco2 : costB (2 * ca) (2 * cb) = true := costB_iff.2 ⟨by omega, by omega, by omega⟩
  have HBD : Hid (∀ a b : Int, (0 ≤ a ∧ a ≤ 1000) → (0 ≤ b ∧ b ≤ 1000) → ∀ m ∈ L, 0 ≤ scLoss m Hs a b Hs.length ∧ scLoss m Hs a b Hs.length ≤ 2000000000) := fun a b ha hb m hm => by
    have h1 := scLoss_bd (HMO.out m hm) (fun d hd => (HOK.out d hd).1) ha hb Hs.length (Nat.le_refl _)
    rw [HLEN.out] at h1 ⊢
    omega
  have HRO : Hid (∀ k, ∀ x ∈ ratTo L Hs ca cb k, x.ok) := fun k => ratTo_ok (by rw [HLEN.out]; omega) (HBD.out ca cb (by omega) (by omega)) k
  have CCH := Lib.hid (Choose_ok L (by rw [hlenL]; omega) HMO.out Hs HCH.out ca cb hco (HBD.out ca cb (by omega) (by omega)) _ _ X HRM.out (HRH.out X hB.out))
  have CRA : Hid (∀ (m : MethD) (_ : m ∈ L) (Y : World), Below W1.heap.size W1 Y → Calls Try.prog 26 #[.agg #[.int .i64 m.kind, .int .i64 m.days], .slice A n cc, .int .i64 ca, .int .i64 cb] Y fun e w' => e = .returned (.tuple #[.agg #[.int .i64 (choR [m] Hs ca cb).days, .int .i64 (choR [m] Hs ca cb).n, .int .i64 (choR [m] Hs ca cb).d], .int .i64 (choE [m] Hs ca cb)]) ∧ Below Y.heap.size Y w') := fun m hm Y hY => Rate_ok m (HMO.out m hm) Hs HCH.out ca cb hco (HBD.out ca cb (by omega) (by omega) m hm) _ Y (HRH.out Y hY)
  have CRB : Hid (∀ (m : MethD) (_ : m ∈ L) (Y : World), Below W1.heap.size W1 Y → Calls Try.prog 26 #[.agg #[.int .i64 m.kind, .int .i64 m.days], .slice A n cc, .int .i64 (2 * ca), .int .i64 (2 * cb)] Y fun e w' => e = .returned (.tuple #[.agg #[.int .i64 (choR [m] Hs (2 * ca) (2 * cb)).days, .int .i64 (choR [m] Hs (2 * ca) (2 * cb)).n, .int .i64 (choR [m] Hs (2 * ca) (2 * cb)).d], .int .i64 (choE [m] Hs (2 * ca) (2 * cb))]) ∧ Below Y.heap.size Y w') := fun m hm Y hY => Rate_ok m (HMO.out m hm) Hs HCH.out (2 * ca) (2 * cb) hco2 (HBD.out (2 * ca) (2 * cb) (by omega) (by omega) m hm) _ Y (HRH.out Y hY)
  have CLO : Hid (∀ (d : DayD) (_ : d ∈ Hs) (q : Int), (0 ≤ q ∧ q ≤ 10000) → ∀ Y : World, Calls Try.prog 28 #[.agg #[.int .i64 d.sup, .int .i64 d.ret], .int .i64 q, .int .i64 ca, .int .i64 cb] Y fun e w' => e = .returned (.tuple #[.int .i64 (lossD ca cb d q), .int .i64 0]) ∧ Below Y.heap.size Y w') := fun d hd q hq Y => Loss_ok d (HOK.out d hd).1 q hq ca cb hco Y
  obtain ⟨R, hR⟩ : ∃ R, choR L Hs ca cb = R := ⟨_, rfl⟩
  obtain ⟨E, hE⟩ : ∃ R, choE L Hs ca cb = R := ⟨_, rfl⟩
  rw [hR, hE] at CCH
  have HCF : Hid (∀ (i : Nat) (m : MethD), L[i]? = some m → ¬ scDays m n = 0 → E = 0 ∧ R.n * scDays m n ≤ scLoss m Hs ca cb n * R.d ∧ ((i : Int) < R.m → R.n * scDays m n < scLoss m Hs ca cb n * R.d) ∧ ((i : Int) = R.m → R.days = scDays m n ∧ R.n = lowN (scLoss m Hs ca cb n) (scDays m n) ∧ R.d = lowD (scLoss m Hs ca cb n) (scDays m n)) ∧ R.ok) := fun i m hi hs => by
    have := choose_facts (a := ca) (b := cb) HRO.out hi (by rw [HLEN.out]; exact hs) (HBD.out ca cb (by omega) (by omega) m (List.mem_of_getElem? hi)).1
    rw [hR, hE, HLEN.out] at this
    exact this
  have HEE : Hid (E = if 0 < (ratTo L Hs ca cb k).length then 0 else 4) := by show _ = _; rw [← hE]; unfold choE; rw [hlenL]
  have hBX1 := hB
  have hk10 : k ≤ 10 := by omega
  clear hL hlenL hO hR hE hco hco2 hk hk1 hB hMd
  go_wp2_with fail
  with_reducible refine CCH.out.mono ?_
  rintro _ X6 ⟨rfl, hb6⟩
  have F7 : ∃ X7, X6.alloc (.cells #[.int .i64 R.days, .int .i64 R.n, .int .i64 R.d] 60) = X7 ∧ Hid (Below X6.heap.size X6 X7) ∧ Hid (Blk X7 X6.heap.size 60 #[.int .i64 R.days, .int .i64 R.n, .int .i64 R.d]) := ⟨_, rfl, below_alloc _ _, Blk.new _ _ _⟩
  obtain ⟨X7, e7, HX7, HKR⟩ := F7
  have E7 := Lib.hid e7
  have HB67 : Hid (Below X.heap.size X X7) := hb6.trans (HX7.out.mono hb6.size)
  have HB7 : Hid (Below W1.heap.size W1 X7) := hBX1.out.trans (HB67.out.mono hBX1.out.size)
  have HBw7 : Hid (Below w.heap.size w X7) := HB1.out.trans (HB7.out.mono HB1.out.size)
  obtain ⟨rb, hrb⟩ : ∃ q, X6.heap.size = q := ⟨_, rfl⟩
  rw [hrb] at HKR
  have HRB := Lib.hid hrb
  have HD : Hid (∀ i m, L[i]? = some m → ∃ g o, Av = some ⟨g, o, none⟩ ∧ Hid (∀ Y, Below X7.heap.size X7 Y → Y.cell? ⟨g, o + i * 2, none⟩ = some (.int .i64 m.kind) ∧ Y.cell? ⟨g, o + i * 2 + 1, none⟩ = some (.int .i64 m.days))) := fun i m hi => by
    obtain ⟨A', c', hsl, -, HDD⟩ := meths_later HRM.out
    injection hsl with e1 e2 e3
    subst e1
    obtain ⟨g, o, h1, h2⟩ := HDD.out i m hi
    exact ⟨g, o, h1, fun Y hY => h2.out Y (HB67.out.trans (hY.mono HB67.out.size))⟩
  have HDY : Hid (∀ i d, Hs[i]? = some d → ∃ g o, A = some ⟨g, o, none⟩ ∧ Hid (∀ Y, Below X7.heap.size X7 Y → Y.cell? ⟨g, o + i * 2, none⟩ = some (.int .i64 d.sup) ∧ Y.cell? ⟨g, o + i * 2 + 1, none⟩ = some (.int .i64 d.ret))) := fun i d hi => by
    obtain ⟨A', c', hsl, -, HDD⟩ := days_later HR1.out
    injection hsl with e1 e2 e3
    subst e1
    obtain ⟨g, o, h1, h2⟩ := HDD.out i d hi
    exact ⟨g, o, h1, fun Y hY => h2.out Y (HB7.out.trans (hY.mono HB7.out.size))⟩
  have HSAY : Hid (∀ (m : MethD) (_ : m ∈ L) (i : Nat), i ≤ n → ∀ Y, Below X7.heap.size X7 Y → Calls Try.prog 27 #[.agg #[.int .i64 m.kind, .int .i64 m.days], .slice A n cc, .int .i64 (i : Int)] Y fun e w' => e = .returned (.tuple #[.int .i64 (if m.says (i : Int) then m.said Hs (i : Int) else 0), .bool (m.says (i : Int)), .int .i64 0]) ∧ Below Y.heap.size Y w') := fun m hm i hi Y hY => by
    have h1 := Says_any m Hs (i : Int) _ Y (HRH.out Y (HB7.out.trans (hY.mono HB7.out.size)))
    have h2 : saysE m Hs (i : Int) = 0 := by unfold saysE; rw [if_pos HCH.out, if_pos (HMO.out m hm), inB_iff.2 ⟨by omega, by rw [HLEN.out]; omega⟩]; rfl
    have h3 : saysB m Hs (i : Int) = m.says (i : Int) := by unfold saysB; rw [h2]; simp
    unfold saysV at h1
    rw [h2, h3] at h1
    exact h1
  have HSB0 : Hid (∀ (m : MethD) (_ : m ∈ L) (i : Nat), i ≤ n → 0 ≤ scLoss m Hs ca cb i ∧ scLoss m Hs ca cb i ≤ 600000000) := fun m hm i hi => by
    have h1 := scLoss_bd (HMO.out m hm) (fun d hd => (HOK.out d hd).1) (show 0 ≤ ca ∧ ca ≤ 1000 by omega) (show 0 ≤ cb ∧ cb ≤ 1000 by omega) i (by rw [HLEN.out]; exact hi)
    omega
  have HSD0 : Hid (∀ (m : MethD) (_ : m ∈ L) (i : Int), 0 ≤ m.said Hs i ∧ m.said Hs i ≤ 10000) := fun m hm i => said_bd (HMO.out m hm) (fun d hd => (HOK.out d hd).1) i
  clear CCH hb6 e7 hrb HX7 HB67
  go_upto_region 12 with fail
  rw [E7.out, HRB.out]
  clear E7
  have HRT0 : Hid (decide (0 < (ratTo L Hs ca cb 0).length) = false) := rfl
  go_wp2_with fail
  go_loopw [18, 89] (fun f q wr => ∃ (i : Nat) (F : Bool), i ≤ k ∧ q = .int .i64 i ∧ f = .bool F ∧ Hid (decide (0 < (ratTo L Hs ca cb i).length) = F) ∧ Hid (Below X7.heap.size X7 wr)) (fun _ q _ => k - (intOf q).toNat)
  case atStart => exact ⟨0, false, Nat.zero_le _, rfl, rfl, HRT0.out, Below.refl _ _⟩
  case round =>
  clear HRT0
  obtain ⟨i, F, hik, rfl, rfl, hF, hB⟩ := hrel
  obtain ⟨X, rfl⟩ : ∃ X : World, X = wr := ⟨_, rfl⟩
  by_cases hi : i < k
  case neg =>
    obtain rfl : i = k := by omega
    have HBw : Hid (Below w.heap.size w X) := HBw7.out.trans (hB.out.mono HBw7.out.size)
    clear hB hik
    by_cases hp : 0 < (ratTo L Hs ca cb i).length
    · obtain rfl : F = true := by rw [← hF.out, decide_eq_true hp]
      obtain rfl : E = 0 := by rw [HEE.out, if_pos hp]
      have h00 : ((0 : Int) == 0) = true := rfl
      clear hF hp
      go_wp2_with fail
      refine (awake_any _).mono ?_
      rintro _ w9 ⟨rfl, b9⟩
      have HB9 : Hid (Below w.heap.size w w9) := HBw.out.trans (b9.mono HBw.out.size)
      clear b9
      go_wp2
      go_ret
      exact ⟨rfl, HB9.out⟩
    · obtain rfl : F = false := by rw [← hF.out, decide_eq_false hp]
      obtain rfl : E = 4 := by rw [HEE.out, if_neg hp]
      have h40 : ((4 : Int) == 0) = false := rfl
      have h44 : ((4 : Int) == 4) = true := rfl
      clear hF hp
      go_wp2_with fail
      refine (awake_any _).mono ?_
      rintro _ w9 ⟨rfl, b9⟩
      have HB9 : Hid (Below w.heap.size w w9) := HBw.out.trans (b9.mono HBw.out.size)
      clear b9
      go_wp2
      go_ret
      exact ⟨rfl, HB9.out⟩
  obtain ⟨m, hm⟩ : ∃ x, L[i]? = some x := ⟨_, List.getElem?_eq_getElem (by rw [HLL.out]; exact hi)⟩
  have HMI := Lib.hid hm
  have HMM := Lib.hid (List.mem_of_getElem? hm)
  obtain ⟨g, o, rfl, HX⟩ := HD.out i m hm
  obtain ⟨c0, c1'⟩ := HX.out X hB.out
  have F8 : ∃ X8, X.alloc (.cells #[.int .i64 m.kind, .int .i64 m.days] 56) = X8 ∧ Hid (Below X.heap.size X X8) ∧ Hid (Blk X8 X.heap.size 56 #[.int .i64 m.kind, .int .i64 m.days]) := ⟨_, rfl, below_alloc _ _, Blk.new _ _ _⟩
  obtain ⟨X8, e8, HX8, HK8⟩ := F8
  have E8 := Lib.hid e8
  have HB8 : Hid (Below X7.heap.size X7 X8) := hB.out.trans (HX8.out.mono hB.out.size)
  obtain ⟨mb, hmb⟩ : ∃ q, X.heap.size = q := ⟨_, rfl⟩
  rw [hmb] at HK8
  have HMB := Lib.hid hmb
  have CR1 := Lib.hid (CRA.out m HMM.out X8 (HB7.out.trans (HB8.out.mono HB7.out.size)))
  obtain ⟨R1, hR1⟩ : ∃ R, choR [m] Hs ca cb = R := ⟨_, rfl⟩
  obtain ⟨E1', hE1'⟩ : ∃ R, choE [m] Hs ca cb = R := ⟨_, rfl⟩
  obtain ⟨R2, hR2⟩ : ∃ R, choR [m] Hs (2 * ca) (2 * cb) = R := ⟨_, rfl⟩
  obtain ⟨E2', hE2'⟩ : ∃ R, choE [m] Hs (2 * ca) (2 * cb) = R := ⟨_, rfl⟩
  rw [hR1, hE1'] at CR1
  have CR2 := Lib.hid (CRB.out m HMM.out)
  rw [hR2, hE2'] at CR2
  obtain ⟨dy, hdy⟩ : ∃ z, scDays m n = z := ⟨_, rfl⟩
  obtain ⟨ls, hls⟩ : ∃ z, scLoss m Hs ca cb n = z := ⟨_, rfl⟩
  have hdyb := scDays_bd m n
  rw [hdy] at hdyb
  have hlsb := HSB0.out m HMM.out n (Nat.le_refl _)
  rw [hls] at hlsb
  obtain ⟨dy0, dy1⟩ := hdyb
  obtain ⟨ls0, ls1⟩ := hlsb
  have HNO : Hid (dy = 0 → E1' = 4 ∧ decide (0 < (ratTo L Hs ca cb (i + 1)).length) = F) := fun hz => by
    have hs : scDays m Hs.length = 0 := by rw [HLEN.out, hdy]; exact hz
    refine ⟨by rw [← hE1']; exact rate_no hs, ?_⟩
    have e1 : ratTo L Hs ca cb (i + 1) = ratTo L Hs ca cb i := by
      show ratTo L Hs ca cb i ++ ratOf L Hs ca cb i = _
      have e2 : ratOf L Hs ca cb i = [] := by
        unfold ratOf
        rw [HMI.out]
        simp only
        rw [if_neg (by simp [MethD.scored, hs])]
      rw [e2, List.append_nil]
    rw [e1]
    exact hF.out
  have HYES : Hid (¬ dy = 0 → (E1' = 0 ∧ R1.days = dy ∧ R1.n = lowN ls dy ∧ R1.d = lowD ls dy) ∧ (E2' = 0 ∧ R2.n = lowN (2 * ls) dy ∧ R2.d = lowD (2 * ls) dy) ∧ decide (0 < (ratTo L Hs ca cb (i + 1)).length) = true ∧
      (E = 0 ∧ R.n * dy ≤ ls * R.d ∧ ((i : Int) < R.m → R.n * dy < ls * R.d) ∧ ((i : Int) = R.m → R.days = dy ∧ R.n = lowN ls dy ∧ R.d = lowD ls dy) ∧ R.ok)) := fun hz => by
    have hs : ¬ scDays m Hs.length = 0 := by rw [HLEN.out, hdy]; exact hz
    have r1 := rate_yes (a := ca) (b := cb) hs
    have r2 := rate_yes (a := 2 * ca) (b := 2 * cb) hs
    rw [hR1, hE1', HLEN.out, hdy, hls] at r1
    rw [hR2, hE2', HLEN.out, hdy, scLoss_twice, hls] at r2
    have r3 := HCF.out i m HMI.out (by rw [hdy]; exact hz)
    rw [hdy, hls] at r3
    exact ⟨r1, ⟨r2.1, r2.2.2.1, r2.2.2.2⟩, decide_eq_true (ratTo_pos HMI.out (Nat.lt_succ_self i) hs), r3⟩
  have d0 := cellOf HK8.out 0 (x := .int .i64 m.kind) rfl
  have d1 := cellOf HK8.out 1 (x := .int .i64 m.days) rfl
  have i0' : (0 : Int) ≤ (i : Int) := by omega
  have i1' : (i : Int) < (k : Int) := by omega
  have HDYE := Lib.hid hdy
  have HLSE := Lib.hid hls
  clear hm HX e8 hmb hR1 hE1' hR2 hE2' hdy hls hB HX8 hF
  go_upto_region 16 with fail
  rw [E8.out, HMB.out]
  clear E8 c0 c1'
  go_wp2_with fail
  with_reducible refine CR1.out.mono ?_
  rintro _ X9 ⟨rfl, hb9⟩
  have F10 : ∃ Xa, X9.alloc (.cells #[.int .i64 R1.days, .int .i64 R1.n, .int .i64 R1.d] 60) = Xa ∧ Hid (Below X9.heap.size X9 Xa) ∧ Hid (Blk Xa X9.heap.size 60 #[.int .i64 R1.days, .int .i64 R1.n, .int .i64 R1.d]) := ⟨_, rfl, below_alloc _ _, Blk.new _ _ _⟩
  obtain ⟨Xa, ea, HXa, HKS⟩ := F10
  have EA := Lib.hid ea
  have HB8a : Hid (Below X8.heap.size X8 Xa) := hb9.trans (HXa.out.mono hb9.size)
  have HBa : Hid (Below X7.heap.size X7 Xa) := HB8.out.trans (HB8a.out.mono HB8.out.size)
  have HKMa := Lib.hid (HK8.out.below HB8a.out HK8.out.lt)
  obtain ⟨sb, hsb⟩ : ∃ q, X9.heap.size = q := ⟨_, rfl⟩
  rw [hsb] at HKS
  have HSBE := Lib.hid hsb
  clear CR1 hb9 ea hsb d0 d1 HXa HK8 HB8a
  go_upto_region 17 with fail
  rw [EA.out, HSBE.out]
  clear EA
  have HBDD : Hid (∀ j, j ≤ n → (0 ≤ scDays m j ∧ scDays m j ≤ j) ∧ (0 ≤ scLoss m Hs ca cb j ∧ scLoss m Hs ca cb j ≤ 600000000)) := fun j hj => ⟨scDays_bd m j, HSB0.out m HMM.out j hj⟩
  go_wp2_with fail
  go_loopw [23, 24, 104] (fun s t q wr => ∃ (j : Nat) (a b : Int), j ≤ n ∧ q = .int .i64 j ∧ s = .int .i64 a ∧ t = .int .i64 b ∧ Hid (a = scDays m j ∧ b = scLoss m Hs ca cb j) ∧ Hid (Below Xa.heap.size Xa wr)) (fun _ _ q _ => n - (intOf q).toNat)
  case atStart => exact ⟨0, 0, 0, Nat.zero_le _, rfl, rfl, rfl, ⟨rfl, rfl⟩, Below.refl _ _⟩
  case round =>
  obtain ⟨j', a, b, hj', rfl, rfl, rfl, hab, hB⟩ := hrel
  obtain ⟨X, rfl⟩ : ∃ X : World, X = wr := ⟨_, rfl⟩
  obtain ⟨⟨a0, a1⟩, b0, b1⟩ := HBDD.out j' hj'
  rw [← hab.out.1] at a0 a1
  rw [← hab.out.2] at b0 b1
  by_cases hlt : j' < n
  · obtain ⟨d, hd⟩ : ∃ x, Hs[j']? = some x := ⟨_, List.getElem?_eq_getElem (by rw [HLEN.out]; exact hlt)⟩
    obtain ⟨g9, o9, rfl, HX⟩ := HDY.out j' d hd
    have HBX : Hid (Below X7.heap.size X7 X) := HBa.out.trans (hB.out.mono HBa.out.size)
    obtain ⟨c0, c1'⟩ := HX.out X HBX.out
    have F11 : ∃ Xb, X.alloc (.cells #[.int .i64 d.sup, .int .i64 d.ret] 24) = Xb ∧ Hid (Below X.heap.size X Xb) ∧ Hid (Blk Xb X.heap.size 24 #[.int .i64 d.sup, .int .i64 d.ret]) := ⟨_, rfl, below_alloc _ _, Blk.new _ _ _⟩
    obtain ⟨Xb, eb, HXb, HKb⟩ := F11
    have EB := Lib.hid eb
    have HBb : Hid (Below Xa.heap.size Xa Xb) := hB.out.trans (HXb.out.mono hB.out.size)
    have HBXb : Hid (Below X7.heap.size X7 Xb) := HBX.out.trans (HXb.out.mono HBX.out.size)
    obtain ⟨q9, hq9⟩ : ∃ q, X.heap.size = q := ⟨_, rfl⟩
    rw [hq9] at HKb
    have HQ9 := Lib.hid hq9
    have CS := Lib.hid (HSAY.out m HMM.out j' hj' Xb HBXb.out)
    obtain ⟨sy, hsy⟩ : ∃ s, m.says (j' : Int) = s := ⟨_, rfl⟩
    obtain ⟨sd, hsd⟩ : ∃ s, m.said Hs (j' : Int) = s := ⟨_, rfl⟩
    rw [hsy, hsd] at CS
    have hsdb := HSD0.out m HMM.out (j' : Int)
    rw [hsd] at hsdb
    obtain ⟨sd0, sd1⟩ := hsdb
    have HDM := Lib.hid (List.mem_of_getElem? hd)
    have HNX : Hid (scDays m (j' + 1) = a + (if sy then 1 else 0) ∧ scLoss m Hs ca cb (j' + 1) = b + if sy then lossD ca cb d sd else 0) := by
      constructor
      · show scDays m j' + _ = _
        rw [hsy, hab.out.1]
      · show scLoss m Hs ca cb j' + _ = _
        rw [hd, hsy, hsd, hab.out.2]
        rfl
    have hnb := (HBDD.out (j' + 1) (by omega)).2
    rw [HNX.out.2] at hnb
    have k0 : (0 : Int) ≤ (j' : Int) := by omega
    have k1 : (j' : Int) < (n : Int) := by omega
    have HKMb := HKMa.out.below HBb.out HKMa.out.lt
    have y0' := cellOf HKMb 0 (x := .int .i64 m.kind) rfl
    have y1' := cellOf HKMb 1 (x := .int .i64 m.days) rfl
    clear hd HX eb hq9 hsy hsd hB HXb hab HKMb
    go_upto_region 21 with fail
    rw [EB.out, HQ9.out]
    clear EB c0 c1'
    go_wp2_with fail
    with_reducible refine CS.out.mono ?_
    rintro _ Xc ⟨rfl, hbc⟩
    have HBc : Hid (Below Xa.heap.size Xa Xc) := HBb.out.trans (hbc.mono HBb.out.size)
    have HKc := Lib.hid (HKb.out.below hbc HKb.out.lt)
    clear CS hbc y0' y1'
    cases sy with
    | false =>
      have HN2 : Hid (a = scDays m (j' + 1) ∧ b = scLoss m Hs ca cb (j' + 1)) := by
        rw [HNX.out.1, HNX.out.2]
        exact ⟨by simp, by simp⟩
      clear hnb
      go_wp2_with fail
      go_roundw
      case rel => exact ⟨j' + 1, a, b, by omega, by go_num, rfl, rfl, HN2, HBc⟩
      case measure => simp [intOf]; omega
    | true =>
      obtain ⟨lo, hlo⟩ : ∃ z, lossD ca cb d sd = z := ⟨_, rfl⟩
      have CL := Lib.hid (CLO.out d HDM.out sd ⟨sd0, sd1⟩ Xc)
      rw [hlo] at CL hnb
      have HN2 : Hid (a + 1 = scDays m (j' + 1) ∧ b + lo = scLoss m Hs ca cb (j' + 1)) := by
        rw [HNX.out.1, HNX.out.2, hlo]
        exact ⟨by simp, by simp⟩
      rw [if_pos rfl] at hnb
      have u1 : -1000 ≤ a + 1 := by omega
      have u2 : a + 1 ≤ 1000 := by omega
      have u3 : -10000000000 ≤ b + lo := by omega
      have u4 : b + lo ≤ 10000000000 := by omega
      have e0 := cellOf HKc.out 0 (x := .int .i64 d.sup) rfl
      have e1 := cellOf HKc.out 1 (x := .int .i64 d.ret) rfl
      clear hlo hnb
      go_wp2_with fail
      with_reducible refine CL.out.mono ?_
      rintro _ Xd ⟨rfl, hbd⟩
      have HBd : Hid (Below Xa.heap.size Xa Xd) := HBc.out.trans (hbd.mono HBc.out.size)
      clear CL hbd e0 e1
      go_wp2_with fail
      go_roundw
      case rel => exact ⟨j' + 1, a + 1, b + lo, by omega, by go_num, rfl, rfl, HN2, HBd⟩
      case measure => simp [intOf]; omega
  obtain rfl : j' = n := by omega
  obtain rfl : a = dy := by rw [hab.out.1, HDYE.out]
  obtain rfl : b = ls := by rw [hab.out.2, HLSE.out]
  have HBX : Hid (Below X7.heap.size X7 X) := HBa.out.trans (hB.out.mono HBa.out.size)
  by_cases hz : a = 0
  · have hz' : (a == 0) = true := by simp [hz]
    have h44 : ((4 : Int) != 4) = false := rfl
    obtain ⟨hE4, hRT⟩ := HNO.out hz
    have HRT := Lib.hid hRT
    rw [hE4]
    clear hE4 hRT hz hB hab
    go_wp2_with fail
    go_roundw
    case rel => exact ⟨i + 1, F, by omega, by go_num, rfl, HRT, HBX⟩
    case measure => simp [intOf]; omega
  have hz' : (a == 0) = false := by simp [hz]
  obtain ⟨⟨hE1, hd1, hN1, hD1⟩, ⟨hE2, hN2, hD2⟩, hRT, hE0, hle, hlt', heq', hRok⟩ := HYES.out hz
  have HRT := Lib.hid hRT
  have hb0 : 0 ≤ b := ls0
  have ha0 : 0 < a := by omega
  have lb1 := low_bd hb0 ha0
  have lb2 := low_bd (n := 2 * b) (by omega) ha0
  have hc1 := low_cross hb0 ha0
  have hc2 := low_twice hb0 ha0
  obtain ⟨N1, hN1e⟩ : ∃ z, lowN b a = z := ⟨_, rfl⟩
  obtain ⟨D1, hD1e⟩ : ∃ z, lowD b a = z := ⟨_, rfl⟩
  obtain ⟨N2, hN2e⟩ : ∃ z, lowN (2 * b) a = z := ⟨_, rfl⟩
  obtain ⟨D2, hD2e⟩ : ∃ z, lowD (2 * b) a = z := ⟨_, rfl⟩
  rw [hN1e, hD1e] at hc1 lb1
  rw [hN2e, hD1e, hN1e, hD2e] at hc2
  rw [hN2e, hD2e] at lb2
  rw [hN1e] at hN1
  rw [hD1e] at hD1
  rw [hN2e] at hN2
  rw [hD2e] at hD2
  rw [hN1e, hD1e] at heq'
  rw [hd1, hN1, hD1] at HKS
  rw [hE1]
  rw [hE2, hN2, hD2] at CR2
  obtain ⟨⟨n10, n11⟩, d10, d11⟩ := lb1
  obtain ⟨⟨n20, n21⟩, d20, d21⟩ := lb2
  obtain ⟨⟨rn0, rn1⟩, rd0, rd1⟩ := hRok
  have p1b : 0 ≤ N1 * a ∧ N1 * a ≤ 600000000 * 60 := ⟨Int.mul_nonneg n10 (by omega), Int.mul_le_mul (by omega) (by omega) (by omega) (by omega)⟩
  have p2b : 0 ≤ N2 * D1 ∧ N2 * D1 ≤ 1200000000 * 60 := ⟨Int.mul_nonneg n20 (by omega), Int.mul_le_mul (by omega) (by omega) (by omega) (by omega)⟩
  have q1b : 0 ≤ b * R.d ∧ b * R.d ≤ 600000000 * 400 := ⟨Int.mul_nonneg hb0 (by omega), Int.mul_le_mul (by omega) (by omega) (by omega) (by omega)⟩
  have q2b : 0 ≤ R.n * a ∧ R.n * a ≤ 2000000000 * 60 := ⟨Int.mul_nonneg rn0 (by omega), Int.mul_le_mul (by omega) (by omega) (by omega) (by omega)⟩
  obtain ⟨p1, hp1⟩ : ∃ z, N1 * a = z := ⟨_, rfl⟩
  obtain ⟨p2, hp2⟩ : ∃ z, N2 * D1 = z := ⟨_, rfl⟩
  obtain ⟨q1, hq1⟩ : ∃ z, b * R.d = z := ⟨_, rfl⟩
  obtain ⟨q2, hq2⟩ : ∃ z, R.n * a = z := ⟨_, rfl⟩
  obtain ⟨nn, hnn⟩ : ∃ z, 2 * N1 = z := ⟨_, rfl⟩
  rw [hp1] at hc1 p1b
  rw [hp2, hnn] at hc2
  rw [hp2] at p2b
  rw [hq1] at hle hlt' q1b
  rw [hq2] at hle hlt' q2b
  have nn0 : 0 ≤ nn := by omega
  have nn1 : nn ≤ 1200000000 := by omega
  have HF := Lib.hid (And.intro hp1 (And.intro hc1 (And.intro hp2 (And.intro hnn hc2))))
  have HG := Lib.hid (And.intro hq1 (And.intro hq2 (And.intro hle (And.intro hlt' heq'))))
  obtain ⟨p1c, p1d⟩ := p1b
  obtain ⟨p2c, p2d⟩ := p2b
  obtain ⟨q1c, q1d⟩ := q1b
  obtain ⟨q2c, q2d⟩ := q2b
  have HBW1 : Hid (Below W1.heap.size W1 X) := HB7.out.trans (HBX.out.mono HB7.out.size)
  have CR3 := Lib.hid (CR2.out X HBW1.out)
  have HKMX := HKMa.out.below hB.out HKMa.out.lt
  have y0' := cellOf HKMX 0 (x := .int .i64 m.kind) rfl
  have y1' := cellOf HKMX 1 (x := .int .i64 m.days) rfl
  have HKSX := Lib.hid (HKS.out.below hB.out HKS.out.lt)
  have u1 : -1000 ≤ 2 * ca := by omega
  have u2 : 2 * ca ≤ 1000 := by omega
  have u3 : -1000 ≤ 2 * cb := by omega
  have u4 : 2 * cb ≤ 1000 := by omega
  have HE0 := Lib.hid hE0
  clear hRT hE1 hd1 hN1 hD1 hE2 hN2 hD2 hN1e hD1e hN2e hD2e hp1 hp2 hq1 hq2 hnn hc1 hc2 hle hlt' heq' hB hab HKMX hE0 CR2 HYES HNO
  try clear HLR
  try clear HLY
  try clear HXA
  try clear HCA
  try clear HCB
  try clear HR1
  try clear HRM
  try clear HRO
  try clear CRA
  try clear CRB
  try clear CLO
  try clear HD
  try clear HDY
  try clear HSAY
  try clear HSB0
  try clear HSD0
  try clear HCF
  try clear HEE
  try clear HBDD
  try clear HM
  try clear HLN
  try clear hlm1
  try clear hlm
  try clear hj
  try clear hj1
  try clear kj1
  try clear kw
  try clear HJ
  try clear HMM
  try clear HMI
  try clear x0
  try clear x1
  try clear y0
  try clear y1
  try clear j00
  try clear j10
  try clear hi0
  try clear hz0
  try clear hz1
  try clear hz2
  try clear HMO
  try clear HRH
  try clear HBD
  try clear HDYE
  try clear HLSE
  try clear HOK
  try clear HCH
  try clear HN
  try clear HHS
  go_upto_region 33 with fail
  go_wp2_with fail
  with_reducible refine CR3.out.mono ?_
  rintro _ Xe ⟨rfl, hbe⟩
  have F12 : ∃ Xf, Xe.alloc (.cells #[.int .i64 R2.days, .int .i64 N2, .int .i64 D2] 60) = Xf ∧ Hid (Below Xe.heap.size Xe Xf) ∧ Hid (Blk Xf Xe.heap.size 60 #[.int .i64 R2.days, .int .i64 N2, .int .i64 D2]) := ⟨_, rfl, below_alloc _ _, Blk.new _ _ _⟩
  obtain ⟨Xf, ef, HXf, HKT⟩ := F12
  have EF := Lib.hid ef
  have HBXf : Hid (Below X.heap.size X Xf) := hbe.trans (HXf.out.mono hbe.size)
  have HBf : Hid (Below X7.heap.size X7 Xf) := HBX.out.trans (HBXf.out.mono HBX.out.size)
  have HKSf := Lib.hid (HKSX.out.below HBXf.out HKSX.out.lt)
  obtain ⟨tb, htb⟩ : ∃ q, Xe.heap.size = q := ⟨_, rfl⟩
  rw [htb] at HKT
  have HTB := Lib.hid htb
  clear CR3 hbe ef htb y0' y1' u1 u2 u3 u4 HXf HKSX HBXf
  go_upto_region 34 with fail
  rw [EF.out, HTB.out]
  clear EF
  go_cut [198] from 150 to 198 (fun s wx => s = .bool false ∧ wx = Xf)
  case first =>
    have hp1 := HF.out.1
    have hc1 := HF.out.2.1.symm
    have hp2 := HF.out.2.2.1
    have hnn := HF.out.2.2.2.1
    have hc2 := HF.out.2.2.2.2.symm
    have s0 := cellOf HKSf.out 0 (x := .int .i64 a) rfl
    have s1 := cellOf HKSf.out 1 (x := .int .i64 N1) rfl
    have s2 := cellOf HKSf.out 2 (x := .int .i64 D1) rfl
    have t1 := cellOf HKT.out 1 (x := .int .i64 N2) rfl
    have t2 := cellOf HKT.out 2 (x := .int .i64 D2) rfl
    have h00 : ((0 : Int) != 0) = false := rfl
    have haa : (a != a) = false := by simp
    have hpp : (p1 != p1) = false := by simp
    have hpp2 : (p2 != p2) = false := by simp
    have hd1 : ¬ D1 < 1 := by omega
    go_wp2_with fail
    go_meet
    exact ⟨rfl, rfl⟩
  case rest =>
  obtain ⟨rfl, rfl⟩ := hcut
  obtain ⟨Xf, rfl⟩ : ∃ X : World, X = wc := ⟨_, rfl⟩
  go_upto_region 37 with fail
  go_cut [241] from 199 to 241 (fun s wx => s = .bool false ∧ wx = Xf)
  case first =>
    have hEb : (E != 0) = false := by rw [HE0.out]; rfl
    have hq1 := HG.out.1
    have hq2 := HG.out.2.1
    have hle := HG.out.2.2.1
    have h00 : ((0 : Int) != 0) = false := rfl
    have hnl : ¬ q1 < q2 := by omega
    have HRf := Lib.hid (HKR.out.below HBf.out HKR.out.lt)
    by_cases he : (i : Int) = R.m
    · have he' : ((i : Int) == R.m) = true := by simp [he]
      obtain ⟨e1, e2, e3⟩ := HG.out.2.2.2.2 he
      have hil : ¬ (i : Int) < R.m := by omega
      have r0 := cellOf HRf.out 0 (x := .int .i64 R.days) rfl
      have r1 := cellOf HRf.out 1 (x := .int .i64 R.n) rfl
      have r2 := cellOf HRf.out 2 (x := .int .i64 R.d) rfl
      rw [e1] at r0
      have s0 := cellOf HKSf.out 0 (x := .int .i64 a) rfl
      have s1 : Xf.cell? ⟨sb, 1, none⟩ = some (.int .i64 R.n) := (cellOf HKSf.out 1 (x := .int .i64 N1) rfl).trans (by rw [e2])
      have s2 : Xf.cell? ⟨sb, 2, none⟩ = some (.int .i64 R.d) := (cellOf HKSf.out 2 (x := .int .i64 D1) rfl).trans (by rw [e3])
      have heq : ∀ W, (Op.equalIn 10000 60 (.agg #[.int .i64 a, .int .i64 R.n, .int .i64 R.d]) (.agg #[.int .i64 a, .int .i64 R.n, .int .i64 R.d])).run Try.prog W = .ok true W := fun W => eqScore _ _ _ W
      clear he e1 e2 e3
      go_wp2_with fail
      go_meet
      exact ⟨rfl, rfl⟩
    · have he' : ((i : Int) == R.m) = false := by simp [he]
      have r1 := cellOf HRf.out 1 (x := .int .i64 R.n) rfl
      have r2 := cellOf HRf.out 2 (x := .int .i64 R.d) rfl
      by_cases hil : (i : Int) < R.m
      · have hqq := HG.out.2.2.2.1 hil
        have hqe : (q1 == q2) = false := by simp; omega
        go_wp2_with fail
        go_meet
        exact ⟨rfl, rfl⟩
      · go_wp2_with fail
        go_meet
        exact ⟨rfl, rfl⟩
  case rest =>
  obtain ⟨rfl, rfl⟩ := hcut
  go_wp2_with fail
  go_roundw
  case rel => exact ⟨i + 1, true, by omega, by go_num, rfl, HRT, HBf⟩
  case measure => simp [intOf]; omega
end Go.Proofs.Ytlmpbmlbllndcaa
