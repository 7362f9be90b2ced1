/-
  least of rated methods.
-/
import Derived.Test.YtlmpbmlbllndcaaMbh
namespace Go.Proofs.Ytlmpbmlbllndcaa
open Go.RowKit
attribute [local go_sem] Oper.semAt_some

set_option maxRecDepth 100000 in
set_option maxHeartbeats 4000000 in
theorem leastR_any (l : List RatD) (hok : ∀ x ∈ l, x.ok) (v : Value) (w : World) (h : RRats w.heap.size w v l) :
    Calls Try.prog 78 #[v, .func (.func 79) #[] #[]] w fun e w' => e = .returned (.tuple #[.agg #[.int .i64 (lstR l l.length).m, .int .i64 (lstR l l.length).days, .int .i64 (lstR l l.length).n, .int .i64 (lstR l l.length).d], .bool (decide (0 < l.length))]) ∧ Below w.heap.size w w' := by
  have HOK := Lib.hid hok
  obtain ⟨A, c, rfl, hlm, HD⟩ := rats_later h
  obtain ⟨n, hn⟩ : ∃ n, l.length = n := ⟨_, rfl⟩
  rw [hn] at hlm ⊢
  have HN := Lib.hid hn
  have F0 : ∃ W0, (w.alloc (.cells #[.int .i64 0, .int .i64 0, .int .i64 0, .int .i64 0] 159)).alloc (.cells #[.int .i64 0, .int .i64 0, .int .i64 0, .int .i64 0] 159) = W0 ∧ Hid (LrSt w (lstR l 0) W0) := by
    refine ⟨_, rfl, sbelow_al (below_alloc _ _) _, (Blk.new _ _ _).alloc _, ?_⟩
    rw [lstR_zero]
    exact blk_new (by simp) _ _
  obtain ⟨W0, e0, HS0⟩ := F0
  have E0 := Lib.hid e0
  obtain ⟨p, hp⟩ : ∃ p, w.heap.size = p := ⟨_, rfl⟩
  have HP := Lib.hid hp
  clear h hn e0 hp hok
  go_enter Try.func78, Try.ntmps78
  go_upto_region 2 with fail
  rw [E0.out]
  clear E0
  rw [HP.out]
  go_wp2_with fail
  go_loopw [11] (fun i wr => ∃ k : Nat, k ≤ n ∧ i = .int .i64 k ∧ Hid (LrSt w (lstR l k) wr)) (fun i _ => n - (intOf i).toNat)
  case atStart => exact ⟨0, Nat.zero_le _, rfl, HS0.out⟩
  case round =>
  obtain ⟨k, hk, rfl, hst⟩ := hrel
  obtain ⟨X, rfl⟩ : ∃ X : World, X = wr := ⟨_, rfl⟩
  obtain ⟨b, hb⟩ : ∃ b, lstR l k = b := ⟨_, rfl⟩
  rw [hb] at hst
  have HBK := Lib.hid hb
  clear hb
  have HBC : Hid (∀ Y, LrSt w b Y → Y.cell? ⟨p + 1, 0, none⟩ = some (.int .i64 b.m) ∧ Y.cell? ⟨p + 1, 1, none⟩ = some (.int .i64 b.days) ∧ Y.cell? ⟨p + 1, 2, none⟩ = some (.int .i64 b.n) ∧ Y.cell? ⟨p + 1, 3, none⟩ = some (.int .i64 b.d) ∧ Y.frozen? ⟨p + 1, 0, none⟩ = false ∧ Y.frozen? ⟨p + 1, 1, none⟩ = false ∧ Y.frozen? ⟨p + 1, 2, none⟩ = false ∧ Y.frozen? ⟨p + 1, 3, none⟩ = false) := fun Y hY => by
    rw [← HP.out]
    exact ⟨cellOf hY.best 0 rfl, cellOf hY.best 1 rfl, cellOf hY.best 2 rfl, cellOf hY.best 3 rfl, hY.best.frozen 0, hY.best.frozen 1, hY.best.frozen 2, hY.best.frozen 3⟩
  by_cases hlt : k < n
  · obtain ⟨x, hx⟩ : ∃ x, l[k]? = some x := ⟨_, List.getElem?_eq_getElem (by rw [HN.out]; exact hlt)⟩
    obtain ⟨g, o, rfl, HX⟩ := HD.out k x hx
    obtain ⟨c0, c1, c2, c3⟩ := HX.out X hst.out.low
    have F1 : ∃ X1, X.alloc (.cells #[.int .i64 x.m, .int .i64 x.days, .int .i64 x.n, .int .i64 x.d] 159) = X1 ∧ Hid (Below X.heap.size X X1) ∧ Hid (Blk X1 X.heap.size 159 #[.int .i64 x.m, .int .i64 x.days, .int .i64 x.n, .int .i64 x.d]) := ⟨_, rfl, below_alloc _ _, Blk.new _ _ _⟩
    obtain ⟨X1, e1, HX1, HK1⟩ := F1
    have E1 := Lib.hid e1
    have HS1 := Lib.hid (hst.out.below HX1.out)
    have HXX := Lib.hid hx
    have k0 : (0 : Int) ≤ (k : Int) := by omega
    have k1 : (k : Int) < (n : Int) := by omega
    obtain ⟨q, hq⟩ : ∃ q, X.heap.size = q := ⟨_, rfl⟩
    have HQ := Lib.hid hq
    rw [hq] at HK1
    have d0 := cellOf HK1.out 0 (x := .int .i64 x.m) rfl
    have d1 := cellOf HK1.out 1 (x := .int .i64 x.days) rfl
    have d2 := cellOf HK1.out 2 (x := .int .i64 x.n) rfl
    have d3 := cellOf HK1.out 3 (x := .int .i64 x.d) rfl
    have HPUT : Hid (∀ Y, LrSt w b Y → LrSt w x ((((Y.setCell ⟨p + 1, 0, none⟩ (.int .i64 x.m)).setCell ⟨p + 1, 1, none⟩ (.int .i64 x.days)).setCell ⟨p + 1, 2, none⟩ (.int .i64 x.n)).setCell ⟨p + 1, 3, none⟩ (.int .i64 x.d))) := fun Y hY => by
      rw [← HP.out]
      exact hY.put x
    clear hx e1 hq HX
    by_cases hk0 : k = 0
    · have hkz : ((k : Int) == 0) = true := by simp [hk0]
      have HFIN : Hid (lstR l (k + 1) = x) := by
        show _ = _
        rw [hk0]
        exact lstR_first (by rw [← hk0]; exact HXX.out)
      obtain ⟨b0, b1, b2, b3, f0, f1, f2, f3⟩ := HBC.out X1 HS1.out
      have HS2 := Lib.hid (HPUT.out X1 HS1.out)
      clear hk0
      go_upto_region 5 with fail
      rw [E1.out, HQ.out]
      clear E1 c0 c1 c2 c3
      go_wp2_with fail
      go_roundw
      case rel => exact ⟨k + 1, by omega, by go_num, by show LrSt _ _ _; rw [HFIN.out]; exact HS2.out⟩
      case measure => simp [intOf]; omega
    · have hkz : ((k : Int) == 0) = false := by simp; omega
      have hbok : b.ok := by rw [← HBK.out]; exact lstR_ok HOK.out (by omega) (by rw [HN.out]; omega)
      have CC := Lib.hid (rated_any x b (HOK.out x (List.mem_of_getElem? HXX.out)) hbok X1)
      obtain ⟨cc, hcc⟩ : ∃ cc, cmpI (x.n * b.d) (b.n * x.d) = cc := ⟨_, rfl⟩
      rw [hcc] at CC
      have HFIN : Hid (lstR l (k + 1) = if decide (cc < 0) then x else b) := by
        show _ = _
        rw [lstR_next HXX.out (by omega), HBK.out]
        unfold ltR
        rw [hcc]
      obtain ⟨b0, b1, b2, b3, f0, f1, f2, f3⟩ := HBC.out X1 HS1.out
      clear hcc hk0 hbok
      go_upto_region 5 with fail
      rw [E1.out, HQ.out]
      clear E1 c0 c1 c2 c3
      go_wp2_with fail
      refine CC.out.mono ?_
      rintro _ Y ⟨rfl, hb2⟩
      have HSY := Lib.hid (HS1.out.below hb2)
      have HKY := Lib.hid (HK1.out.below hb2 HK1.out.lt)
      have d0' := cellOf HKY.out 0 (x := .int .i64 x.m) rfl
      have d1' := cellOf HKY.out 1 (x := .int .i64 x.days) rfl
      have d2' := cellOf HKY.out 2 (x := .int .i64 x.n) rfl
      have d3' := cellOf HKY.out 3 (x := .int .i64 x.d) rfl
      obtain ⟨b0', b1', b2', b3', f0', f1', f2', f3'⟩ := HBC.out Y HSY.out
      have HS2 := Lib.hid (HPUT.out Y HSY.out)
      clear CC hb2 d0 d1 d2 d3 b0 b1 b2 b3 f0 f1 f2 f3
      by_cases hc : cc < 0
      · have HF2 : Hid (lstR l (k + 1) = x) := by show _ = _; rw [HFIN.out, decide_eq_true hc]; rfl
        go_wp2_with fail
        go_roundw
        case rel => exact ⟨k + 1, by omega, by go_num, by show LrSt _ _ _; rw [HF2.out]; exact HS2.out⟩
        case measure => simp [intOf]; omega
      · have HF2 : Hid (lstR l (k + 1) = b) := by show _ = _; rw [HFIN.out, decide_eq_false hc]; rfl
        go_wp2_with fail
        go_roundw
        case rel => exact ⟨k + 1, by omega, by go_num, by show LrSt _ _ _; rw [HF2.out]; exact HSY.out⟩
        case measure => simp [intOf]; omega
  · have hkn : k = n := by omega
    have HBE : Hid (lstR l n = b) := by show _ = _; rw [← hkn]; exact HBK.out
    obtain ⟨b0, b1, b2, b3, -, -, -, -⟩ := HBC.out X hst.out
    have HRES : Hid (Blk X p 159 #[.int .i64 0, .int .i64 0, .int .i64 0, .int .i64 0]) := by rw [← HP.out]; exact hst.out.res
    have r0 := cellOf HRES.out 0 (x := .int .i64 0) rfl
    have r1 := cellOf HRES.out 1 (x := .int .i64 0) rfl
    have r2 := cellOf HRES.out 2 (x := .int .i64 0) rfl
    have r3 := cellOf HRES.out 3 (x := .int .i64 0) rfl
    have f0 := HRES.out.frozen 0
    have f1 := HRES.out.frozen 1
    have f2 := HRES.out.frozen 2
    have f3 := HRES.out.frozen 3
    have R : Blk ((((X.setCell ⟨p, 0, none⟩ (.int .i64 b.m)).setCell ⟨p, 1, none⟩ (.int .i64 b.days)).setCell ⟨p, 2, none⟩ (.int .i64 b.n)).setCell ⟨p, 3, none⟩ (.int .i64 b.d)) p 159 #[.int .i64 b.m, .int .i64 b.days, .int .i64 b.n, .int .i64 b.d] := put4_blk HRES.out _ _ _ _
    have e0 := cellOf R 0 (x := .int .i64 b.m) rfl
    have e1 := cellOf R 1 (x := .int .i64 b.days) rfl
    have e2 := cellOf R 2 (x := .int .i64 b.n) rfl
    have e3 := cellOf R 3 (x := .int .i64 b.d) rfl
    have HFIN : Hid (Below w.heap.size w ((((X.setCell ⟨p, 0, none⟩ (.int .i64 b.m)).setCell ⟨p, 1, none⟩ (.int .i64 b.days)).setCell ⟨p, 2, none⟩ (.int .i64 b.n)).setCell ⟨p, 3, none⟩ (.int .i64 b.d))) :=
      hst.out.low.trans ((put4_kept X p (.int .i64 b.m) (.int .i64 b.days) (.int .i64 b.n) (.int .i64 b.d)).below (fun i hi => by rw [hi, HP.out]; exact Nat.le_refl _) hst.out.low.size)
    clear R hst HBK
    by_cases hn0 : 0 < n
    · have hn0' : (0 : Int) < (n : Int) := by omega
      go_wp2_with fail
      exact bodyPost_ret (v := .tuple #[.agg #[.int .i64 b.m, .int .i64 b.days, .int .i64 b.n, .int .i64 b.d], .bool true]) (by simp [results, Try.results78, go_sem, e0, e1, e2, e3]) rfl ⟨by rw [HBE.out, decide_eq_true hn0], HFIN.out⟩
    · have hn0' : ¬ (0 : Int) < (n : Int) := by omega
      go_wp2_with fail
      exact bodyPost_ret (v := .tuple #[.agg #[.int .i64 b.m, .int .i64 b.days, .int .i64 b.n, .int .i64 b.d], .bool false]) (by simp [results, Try.results78, go_sem, e0, e1, e2, e3]) rfl ⟨by rw [HBE.out], HFIN.out⟩
end Go.Proofs.Ytlmpbmlbllndcaa
