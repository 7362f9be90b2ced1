/-
  The generator of days.
-/
import Derived.Maps.AppendAt
import Derived.Test.YtlmpbmlbllndcaaMbd
import Derived.Test.YtlmpbmlbllndcaaMaf
namespace Go.Proofs.Ytlmpbmlbllndcaa
open Go.RowKit
attribute [local go_sem] Oper.semAt_some

theorem sliceDay : Try.prog.underlying 22 = some (.slice 24) := by kernel_rfl
theorem infoDay : (Try.prog.info? 24).map (fun i => (i.zero, i.size, i.bytes)) = some (some (.agg #[.int .i64 0, .int .i64 0]), 2, 16) := by kernel_rfl
def ODays (base : Nat) (w : World) (v : Value) (l : List DayD) : Prop := w.ownsRow base 24 2 v l.length (l.flatMap DayD.cells)
def HiRet (data : List Int) (w : World) (e : Ending) (w' : World) : Prop := ∃ A c, e = .returned (.slice A (nDays data) c) ∧ w'.ownsRow w.heap.size 24 2 (.slice A (nDays data) c) (nDays data) ((histD data).flatMap DayD.cells) ∧ Below w.heap.size w w'
set_option maxRecDepth 1000000 in
set_option maxHeartbeats 4000000 in
theorem history_any (data : List Int) (hby : Bytes data) (v : Value) (w : World) (h : RBytes w.heap.size w v data) :
    Calls Try.prog 22 #[v] w (HiRet data w) := by
  obtain ⟨A, c, rfl, hlm, hr⟩ := h.open_
  obtain ⟨n, hn⟩ : ∃ n, data.length = n := ⟨_, rfl⟩
  rw [hn] at hlm hr
  rw [hn]
  obtain ⟨N, hN⟩ : ∃ N, nDays data = N := ⟨_, rfl⟩
  have hNd : N = min 60 (n / 2) := by rw [← hN, ← hn]; rfl
  have HR := Lib.hid hr
  have HBY := Lib.hid hby
  have HN := Lib.hid hN
  have HNN := Lib.hid hn
  obtain ⟨i0, hi0, hz0, hz1, hz2⟩ := info_parts infoDay
  have HO0 : Hid (w.ownsRow w.heap.size 24 2 (.slice none 0 0) 0 ((histTo data 0).flatMap DayD.cells)) := World.ownsRow_nil w _ _ _
  clear h hr hby hN hn
  go_enter Try.func22, Try.ntmps22
  go_wp2_with fail
  go_loopw [3, 4] (fun dv i wr => ∃ k : Nat, k ≤ N ∧ i = .int .i64 ((2 * k : Nat) : Int) ∧ Hid (wr.ownsRow w.heap.size 24 2 dv k ((histTo data k).flatMap DayD.cells)) ∧ Hid (Below w.heap.size w wr)) (fun _ i _ => 1000 - (intOf i).toNat)
  case atStart => exact ⟨0, Nat.zero_le _, rfl, HO0, Below.refl _ _⟩
  case round =>
  clear HO0
  obtain ⟨k, hk, rfl, hO, hB⟩ := hrel
  obtain ⟨X, rfl⟩ : ∃ X : World, X = wr := ⟨_, rfl⟩
  obtain ⟨Av, cv, rfl⟩ := ownsRow_form hO.out
  obtain ⟨j, hj⟩ : ∃ j, 2 * k = j := ⟨_, rfl⟩
  obtain ⟨j1, hj1⟩ : ∃ j1, j + 1 = j1 := ⟨_, rfl⟩
  have kj : (j : Int) + 1 = (j1 : Int) := by omega
  have HJ := Lib.hid hj
  rw [hj]
  have j0 : (0 : Int) ≤ (j : Int) := by omega
  have j10 : (0 : Int) ≤ (j1 : Int) := by omega
  have kw : IntKind.i64.wrap ((j : Int) + 1) = (j1 : Int) := by rw [kj]; exact IntWalk.i64_in _ ⟨by omega, by omega⟩
  by_cases hk1 : k < N
  case neg =>
    have hX : Hid (HiRet data w (.returned (.slice Av k cv)) X) := by
      obtain rfl : k = N := by omega
      refine ⟨Av, cv, by rw [HN.out], ?_, hB.out⟩
      rw [HN.out]
      unfold histD
      rw [HN.out]
      exact hO.out
    by_cases hc1 : (j1 : Int) < (n : Int)
    · have hc2 : ¬ (j : Int) < 120 := by omega
      clear hO hB
      go_wp2_with fail
      go_ret
      exact hX.out
    · clear hO hB
      go_wp2_with fail
      go_ret
      exact hX.out
  have hc1 : (j1 : Int) < (n : Int) := by omega
  have hc2 : (j : Int) < 120 := by omega
  have hc3 : (j : Int) < (n : Int) := by omega
  obtain ⟨g, o, rfl, hgl, cx⟩ := HR.out j (by omega)
  obtain ⟨g2, o2, e, -, cy⟩ := HR.out j1 (by omega)
  cases e
  obtain ⟨x, hx⟩ : ∃ x, data.getD j 0 = x := ⟨_, rfl⟩
  obtain ⟨y, hy⟩ : ∃ x, data.getD j1 0 = x := ⟨_, rfl⟩
  have hxb := HBY.out (data.getD j 0) (by rw [List.getD_eq_getElem?_getD, List.getElem?_eq_getElem (by rw [HNN.out]; omega)]; exact List.getElem_mem _)
  have hyb := HBY.out (data.getD j1 0) (by rw [List.getD_eq_getElem?_getD, List.getElem?_eq_getElem (by rw [HNN.out]; omega)]; exact List.getElem_mem _)
  rw [hx] at cx hxb
  rw [hy] at cy hyb
  rw [← hB.out.cell (p := ⟨g, o + j, none⟩) hgl] at cx
  rw [← hB.out.cell (p := ⟨g, o + j1, none⟩) hgl] at cy
  obtain ⟨x0, x1⟩ := hxb
  obtain ⟨y0, y1⟩ := hyb
  obtain ⟨sp, hsp⟩ : ∃ s, x % 60 = s := ⟨_, rfl⟩
  have s0 : 0 ≤ sp := by omega
  have s1 : sp ≤ 59 := by omega
  obtain ⟨r, hrr⟩ : ∃ r, y % (sp + 1) = r := ⟨_, rfl⟩
  have r0 : 0 ≤ r := by rw [← hrr]; exact Int.emod_nonneg _ (by omega)
  have r1 : r < sp + 1 := by rw [← hrr]; exact Int.emod_lt_of_pos _ (by omega)
  have HDAY0 : Hid (dayOf (data.getD (2 * k) 0) (data.getD (2 * k + 1) 0) = ⟨sp, if 0 < y % 3 then r else 0⟩) := by
    show _ = _
    rw [HJ.out, hj1, hx, hy]
    unfold dayOf
    rw [hsp, hrr]
  have F1 : ∃ X1, X.alloc (.cells #[.int .i64 sp, .int .i64 0] 24) = X1 ∧ Hid (Below X.heap.size X X1) ∧ Hid (Blk X1 X.heap.size 24 #[.int .i64 sp, .int .i64 0]) := ⟨_, rfl, below_alloc _ _, Blk.new _ _ _⟩
  obtain ⟨X1, e1, HX1, HK1⟩ := F1
  have E1 := Lib.hid e1
  have HQO : Hid (∀ gg, (Value.slice Av k cv).ownBlock = some gg → gg ≠ X.heap.size) := fun gg hg => by
    have := (hO.out.lt gg hg).2
    omega
  have HOX1 : Hid (X1.ownsRow w.heap.size 24 2 (.slice Av k cv) k ((histTo data k).flatMap DayD.cells)) := ownsRow_keptBut hO.out (KeptBut.of_below (S := fun _ => False) HX1.out) fun _ _ _ _ e => e.elim
  have HBX1 : Hid (Below w.heap.size w X1) := hB.out.trans (HX1.out.mono hB.out.size)
  have hqw : w.heap.size ≤ X.heap.size := hB.out.size
  obtain ⟨q, hq⟩ : ∃ q, X.heap.size = q := ⟨_, rfl⟩
  rw [hq] at HK1 HQO hqw
  have HQ := Lib.hid hq
  have HKX1 := Lib.hid HK1.out
  have cy1 : X1.cell? ⟨g, o + j1, none⟩ = some (.int .u8 y) := (HX1.out.cell (p := ⟨g, o + j1, none⟩) (by have := hB.out.size; show g < _; omega)).trans cy
  have HSP := Lib.hid hsp
  have HRR := Lib.hid hrr
  have ks : IntKind.i64.wrap (sp + 1) = sp + 1 := IntWalk.i64_in _ ⟨by omega, by omega⟩
  have ky : IntKind.i64.wrap y = y := IntWalk.i64_in _ ⟨by omega, by omega⟩
  have kr : IntKind.i64.wrap (y.tmod (sp + 1)) = r := by rw [Int.tmod_eq_emod_of_nonneg y0, hrr]; exact IntWalk.i64_in _ ⟨by omega, by omega⟩
  have ke : (sp + 1 == 0) = false := by simp; omega
  have ke' : ¬ sp + 1 = 0 := by omega
  have KS := Lib.hid ks
  have KY := Lib.hid ky
  have KR := Lib.hid kr
  have kw2 : IntKind.i64.wrap (j1 : Int) = (j1 : Int) := IntWalk.i64_in _ ⟨by omega, by omega⟩
  have KW := Lib.hid kw2
  have KE : Hid ((sp + 1 == 0) = false ∧ ¬ sp + 1 = 0) := ⟨ke, ke'⟩
  clear e1 hq hx hy hO hB hrr hsp ks ky kr ke ke' kw
  go_upto_region 6 with fail
  rw [HSP.out, E1.out, HQ.out]
  by_cases hz : 0 < y % 3
  · have HDAY : Hid (dayOf (data.getD (2 * k) 0) (data.getD (2 * k + 1) 0) = ⟨sp, r⟩) := by show _ = _; rw [HDAY0.out, if_pos hz]
    have hz' : ¬ y % 3 ≤ 0 := by omega
    go_upto_region 7 with fail
    have ks := KS.out
    have ky := KY.out
    have kr := KR.out
    have kw := KW.out
    obtain ⟨ke, ke'⟩ := KE.out
    have c0 := cellOf HK1.out 0 (x := .int .i64 sp) rfl
    have hp1 : (0 : Int) ≤ (j1 : Int) := j10
    clear cx cy hz hz'
    refine wp_region_noPanic ?_
    refine wp_region_T 11 (fun X => (X.cell? ⟨g, o + j1, none⟩ = some (.int .u8 y) ∧ X.cell? ⟨q, 0, none⟩ = some (.int .i64 sp))) (by kernel_rfl) (by exact ⟨cy1, c0⟩) (fun hHeld => ?_)
    clear cy1 c0
    refine wpAnyT_take (i := 0) (v := ?v0n1) (by kernel_rfl) (by kernel_rfl) rfl (by kernel_rfl) (by kernel_rfl) (by kernel_rfl) (by decide) (fun _ _ _ h => h) (Or.inl ⟨by rfl, ?y0n1⟩) hHeld ?r0n1
    case y0n1 =>
      intro W hSw
      try dsimp only at hSw
      go_simp
      try with_reducible rfl
    simp only [Act.put, List.setIfInBounds_toArray, List.set_cons_zero, List.set_cons_succ]
    refine wpAnyT_take (i := 1) (v := ?v1n2) (by kernel_rfl) (by kernel_rfl) rfl (by kernel_rfl) (by kernel_rfl) (by kernel_rfl) (by decide) (fun _ _ _ h => h) (Or.inl ⟨by rfl, ?y1n2⟩) hHeld ?r1n2
    case y1n2 =>
      intro W hSw
      try dsimp only at hSw
      go_simp
      try with_reducible rfl
    simp only [Act.put, List.setIfInBounds_toArray, List.set_cons_zero, List.set_cons_succ]
    refine wpAnyT_take (i := 2) (v := ?v2n3) (by kernel_rfl) (by kernel_rfl) rfl (by kernel_rfl) (by kernel_rfl) (by kernel_rfl) (by decide) (fun _ _ _ h => h) (Or.inl ⟨by rfl, ?y2n3⟩) hHeld ?r2n3
    case y2n3 =>
      intro W hSw
      try dsimp only at hSw
      go_simp
      try with_reducible rfl
    simp only [Act.put, List.setIfInBounds_toArray, List.set_cons_zero, List.set_cons_succ]
    refine wpAnyT_take (i := 3) (v := ?v3n4) (by kernel_rfl) (by kernel_rfl) rfl (by kernel_rfl) (by kernel_rfl) (by kernel_rfl) (by decide) (fun _ _ _ h => h) (Or.inl ⟨by rfl, ?y3n4⟩) hHeld ?r3n4
    case y3n4 =>
      intro W hSw
      try dsimp only at hSw
      go_simp
      try with_reducible rfl
    simp only [Act.put, List.setIfInBounds_toArray, List.set_cons_zero, List.set_cons_succ]
    refine wpAnyT_take (i := 4) (v := ?v4n5) (by kernel_rfl) (by kernel_rfl) rfl (by kernel_rfl) (by kernel_rfl) (by kernel_rfl) (by decide) (fun _ _ _ h => h) (Or.inl ⟨by rfl, ?y4n5⟩) hHeld ?r4n5
    case y4n5 =>
      intro W hSw
      try dsimp only at hSw
      go_simp
      try with_reducible rfl
    simp only [Act.put, List.setIfInBounds_toArray, List.set_cons_zero, List.set_cons_succ]
    refine wpAnyT_take (i := 5) (v := ?v5n6) (by kernel_rfl) (by kernel_rfl) rfl (by kernel_rfl) (by kernel_rfl) (by kernel_rfl) (by decide) (fun _ _ _ h => h) (Or.inl ⟨by rfl, ?y5n6⟩) hHeld ?r5n6
    case y5n6 =>
      intro W hSw
      try dsimp only at hSw
      go_simp
      try with_reducible rfl
    simp only [Act.put, List.setIfInBounds_toArray, List.set_cons_zero, List.set_cons_succ]
    refine wpAnyT_take (i := 6) (v := ?v6n7) (by kernel_rfl) (by kernel_rfl) rfl (by kernel_rfl) (by kernel_rfl) (by kernel_rfl) (by decide) (fun _ _ _ h => h) (Or.inl ⟨by rfl, ?y6n7⟩) hHeld ?r6n7
    case y6n7 =>
      intro W hSw
      try dsimp only at hSw
      go_simp
      try with_reducible rfl
    simp only [Act.put, List.setIfInBounds_toArray, List.set_cons_zero, List.set_cons_succ]
    refine wpAnyT_take (i := 7) (v := ?v7n8) (by kernel_rfl) (by kernel_rfl) rfl (by kernel_rfl) (by kernel_rfl) (by kernel_rfl) (by decide) (fun _ _ _ h => h) (Or.inl ⟨by rfl, ?y7n8⟩) hHeld ?r7n8
    case y7n8 =>
      intro W hSw
      try dsimp only at hSw
      go_simp
      try with_reducible rfl
    simp only [Act.put, List.setIfInBounds_toArray, List.set_cons_zero, List.set_cons_succ]
    refine wpAnyT_take (i := 8) (v := ?v8n9) (by kernel_rfl) (by kernel_rfl) rfl (by kernel_rfl) (by kernel_rfl) (by kernel_rfl) (by decide) (fun _ _ _ h => h) (Or.inl ⟨by rfl, ?y8n9⟩) hHeld ?r8n9
    case y8n9 =>
      intro W hSw
      try dsimp only at hSw
      go_simp
      try with_reducible rfl
    simp only [Act.put, List.setIfInBounds_toArray, List.set_cons_zero, List.set_cons_succ]
    refine wpAnyT_take (i := 9) (v := ?v9n10) (by kernel_rfl) (by kernel_rfl) rfl (by kernel_rfl) (by kernel_rfl) (by kernel_rfl) (by decide) (fun _ _ _ h => h) (Or.inl ⟨by rfl, ?y9n10⟩) hHeld ?r9n10
    case y9n10 =>
      intro W hSw
      try dsimp only at hSw
      go_simp
      try with_reducible rfl
    simp only [Act.put, List.setIfInBounds_toArray, List.set_cons_zero, List.set_cons_succ]
    refine wpAnyT_take (i := 10) (v := ?v10n11) (by kernel_rfl) (by kernel_rfl) rfl (by kernel_rfl) (by kernel_rfl) (by kernel_rfl) (by decide) (fun _ _ _ h => h) (Or.inl ⟨by rfl, ?y10n11⟩) hHeld ?r10n11
    case y10n11 =>
      intro W hSw
      try dsimp only at hSw
      go_simp
      try with_reducible rfl
    simp only [Act.put, List.setIfInBounds_toArray, List.set_cons_zero, List.set_cons_succ]
    have hk2 := HK1.out.drew_
    have f0 := cellOf hk2 1 (x := .int .i64 0) rfl
    have f1 := hk2.frozen 1
    clear kw ks ky kr ke ke'
    refine wpAnyT_seq (k := 11) (by kernel_rfl) rfl (by kernel_rfl) ?_
    go_wp2_with fail
    refine NoPanic.normal ?_
    rw [HRR.out]
    have F2 : ∃ X2, (X1.setCell ⟨q, 1, none⟩ (.int .i64 r)).drew = X2 ∧ Hid (Blk X2 q 24 #[.int .i64 sp, .int .i64 r]) ∧ Hid (KeptBut (fun i => i = q) X1 X2) := ⟨_, rfl, (HK1.out.put 1 _).drew_, (KeptBut.setCell (S := fun i => i = q) (w := X1) (p := ⟨q, 1, none⟩) rfl (.int .i64 r)).trans (KeptBut.of_below (S := fun _ => False) (Below.refl _ _).drew) fun _ _ h => h.elim⟩
    obtain ⟨X2, e2, HKX2, HKB⟩ := F2
    have HOX2 : Hid (X2.ownsRow w.heap.size 24 2 (.slice Av k cv) k ((histTo data k).flatMap DayD.cells)) := ownsRow_keptBut HOX1.out HKB.out fun i cs hv _ e => HQO.out i hv e
    have HBX2 : Hid (Below w.heap.size w X2) := HBX1.out.trans (HKB.out.below (fun i hi => by subst hi; exact hqw) HBX1.out.size)
    rw [e2]
    clear e2 hk2 f0 f1 hHeld
    have d0 := cellOf HKX2.out 0 (x := .int .i64 sp) rfl
    have d1 := cellOf HKX2.out 1 (x := .int .i64 r) rfl
    have F5 : ∃ X5, X2.alloc (.cells #[.int .i64 sp, .int .i64 r] 24) = X5 ∧ Hid (Below X2.heap.size X2 X5) := ⟨_, rfl, below_alloc _ _⟩
    obtain ⟨X5, e5, HX5⟩ := F5
    have HC5 := Lib.hid (cells_new X2 #[.int .i64 sp, .int .i64 r] 24)
    rw [e5] at HC5
    have E5 := Lib.hid e5
    have HO5 : Hid (X5.ownsRow w.heap.size 24 2 (.slice Av k cv) k ((histTo data k).flatMap DayD.cells)) := ownsRow_keptBut HOX2.out (KeptBut.of_below (S := fun _ => False) HX5.out) fun _ _ _ _ e => e.elim
    have HB5 : Hid (Below w.heap.size w X5) := HBX2.out.trans (HX5.out.mono HBX2.out.size)
    clear e5
    go_wp2_with (at_builtin; rw [E5.out]; refine wpList_append_own _ rfl _ _ 22 rfl w.heap.size 24 i0 _ 2 16 sliceDay hi0 hz0 hz1 hz2 rfl (by decide) (.slice Av k cv) k ((histTo data k).flatMap DayD.cells) rfl HO5.out ⟨X2.heap.size, 0, none⟩ 1 1 [.int .i64 sp, .int .i64 r] rfl rfl HC5.out (by simp [Value.oneCell']) (by simp only [maxLen]; omega) (by omega) HB5.out.size ?_; intro v2 w2 hO4 hG4 hN4)
    have hB4 : Below w.heap.size w w2 := HB5.out.trans ((KeptBut.grown (S := fun j => some j = (Value.slice Av k cv).ownBlock) hG4 fun j hj => hj).below (fun i hi => (ownsRow_own HO5.out hi.symm).1) HB5.out.size)
    refine ⟨⟨k + 1, by omega, by congr 1; omega, ?_, hB4⟩, by simp [intOf]; omega⟩
    show World.ownsRow _ _ _ _ _ _ _
    rw [histTo_next, List.flatMap_append, HDAY.out]
    exact hO4
  · have HDAY : Hid (dayOf (data.getD (2 * k) 0) (data.getD (2 * k + 1) 0) = ⟨sp, 0⟩) := by show _ = _; rw [HDAY0.out, if_neg hz]
    go_upto_region 8 with fail
    clear cx cy cy1 hz
    have HOX1' := HOX1
    have d0 := cellOf HKX1.out 0 (x := .int .i64 sp) rfl
    have d1 := cellOf HKX1.out 1 (x := .int .i64 0) rfl
    have F5 : ∃ X5, X1.alloc (.cells #[.int .i64 sp, .int .i64 0] 24) = X5 ∧ Hid (Below X1.heap.size X1 X5) := ⟨_, rfl, below_alloc _ _⟩
    obtain ⟨X5, e5, HX5⟩ := F5
    have HC5 := Lib.hid (cells_new X1 #[.int .i64 sp, .int .i64 0] 24)
    rw [e5] at HC5
    have E5 := Lib.hid e5
    have HO5 : Hid (X5.ownsRow w.heap.size 24 2 (.slice Av k cv) k ((histTo data k).flatMap DayD.cells)) := ownsRow_keptBut HOX1.out (KeptBut.of_below (S := fun _ => False) HX5.out) fun _ _ _ _ e => e.elim
    have HB5 : Hid (Below w.heap.size w X5) := HBX1.out.trans (HX5.out.mono HBX1.out.size)
    clear e5
    go_wp2_with (at_builtin; rw [E5.out]; refine wpList_append_own _ rfl _ _ 22 rfl w.heap.size 24 i0 _ 2 16 sliceDay hi0 hz0 hz1 hz2 rfl (by decide) (.slice Av k cv) k ((histTo data k).flatMap DayD.cells) rfl HO5.out ⟨X1.heap.size, 0, none⟩ 1 1 [.int .i64 sp, .int .i64 0] rfl rfl HC5.out (by simp [Value.oneCell']) (by simp only [maxLen]; omega) (by omega) HB5.out.size ?_; intro v2 w2 hO4 hG4 hN4)
    have hB4 : Below w.heap.size w w2 := HB5.out.trans ((KeptBut.grown (S := fun j => some j = (Value.slice Av k cv).ownBlock) hG4 fun j hj => hj).below (fun i hi => (ownsRow_own HO5.out hi.symm).1) HB5.out.size)
    refine ⟨⟨k + 1, by omega, by congr 1; omega, ?_, hB4⟩, by simp [intOf]; omega⟩
    show World.ownsRow _ _ _ _ _ _ _
    rw [histTo_next, List.flatMap_append, HDAY.out]
    exact hO4
end Go.Proofs.Ytlmpbmlbllndcaa
