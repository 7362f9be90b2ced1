/-
  carry.
  Carrier, with at most one complaint.
-/
import Derived.Test.YtlmpbmlbllndcaaMar
import Derived.Test.YtlmpbmlbllndcaaMay
namespace Go.Proofs.Ytlmpbmlbllndcaa
open Go.RowKit
attribute [local go_sem] Oper.semAt_some

/-- The lines of an account of a carrier, and their sum. -/
def carL (t : TarD) (c n : Int) : List LineD := [⟨4, c, c * t.carry⟩, ⟨5, n, n * -t.credit⟩]
def carS (t : TarD) (c n : Int) : Int := c * t.carry + n * -t.credit
def CarRet (t : TarD) (c n : Int) (w : World) (e : Ending) (w' : World) : Prop := ∃ A d, e = .returned (.agg #[.slice A 2 d, .int .i64 (carS t c n)]) ∧ Hid (OLines w.heap.size w' (.slice A 2 d) (carL t c n)) ∧ Hid (Below w.heap.size w w')
set_option maxRecDepth 1000000 in
set_option maxHeartbeats 4000000 in
theorem carry_any (t : TarD) (ht : t.okB = true) (s1 s2 : Int) (h1 : 0 ≤ s1 ∧ s1 ≤ 12000000) (h2 : 0 ≤ s2 ∧ s2 ≤ 12000000) (w : World) :
    Calls Try.prog 93 #[.agg #[.int .i64 t.price, .int .i64 t.back, .int .i64 t.late, .int .i64 t.carry, .int .i64 t.credit], .int .i64 s1, .int .i64 s2] w (CarRet t s1 s2 w) := by
  have HT := TarD.okB_iff.1 ht
  have F0 : ∃ W0, (w.alloc (.cells #[.int .i64 t.price, .int .i64 t.back, .int .i64 t.late, .int .i64 t.carry, .int .i64 t.credit] 37)).alloc (.cells #[.slice none 0 0, .int .i64 0] 80) = W0 ∧ Hid (Below w.heap.size w W0) ∧ Hid (Blk W0 w.heap.size 37 #[.int .i64 t.price, .int .i64 t.back, .int .i64 t.late, .int .i64 t.carry, .int .i64 t.credit] ∧ Blk W0 (w.heap.size + 1) 80 #[.slice none 0 0, .int .i64 0]) :=
    ⟨_, rfl, sbelow_al (below_alloc _ _) _, (Blk.new _ _ _).alloc _, blk_new (by simp) _ _⟩
  obtain ⟨X, e0, HBX, HK0⟩ := F0
  have E0 := Lib.hid e0
  obtain ⟨p, hp⟩ : ∃ p, w.heap.size = p := ⟨_, rfl⟩
  have HP := Lib.hid hp
  obtain ⟨u1, u2⟩ := h1
  obtain ⟨u3, u4⟩ := h2
  obtain ⟨-, -, -, ⟨t1, t2⟩, t3, t4⟩ := HT
  have a1 : 0 ≤ s1 * t.carry ∧ s1 * t.carry ≤ 120000000000 := ⟨Int.mul_nonneg (by omega) (by omega), Int.le_trans (Int.mul_le_mul u2 t2 (by omega) (by omega)) (by omega)⟩
  have a2 : 0 ≤ s2 * t.credit ∧ s2 * t.credit ≤ 120000000000 := ⟨Int.mul_nonneg (by omega) (by omega), Int.le_trans (Int.mul_le_mul u4 t4 (by omega) (by omega)) (by omega)⟩
  have a2' : s2 * -t.credit = -(s2 * t.credit) := by rw [Int.mul_neg]
  have HA1 := Lib.hid a1
  have HA2 : Hid (-120000000000 ≤ s2 * -t.credit ∧ s2 * -t.credit ≤ 0) := by rw [a2']; exact ⟨by omega, by omega⟩
  clear a1 a2 a2' ht
  have F2 : ∃ XA, X.alloc (.cells #[.slice none 0 0, .int .i64 0] 80) = XA ∧ Hid (Below X.heap.size X XA) ∧ Hid (Blk XA X.heap.size 80 #[.slice none 0 0, .int .i64 0]) ∧ XA.heap.size = X.heap.size + 1 := ⟨_, rfl, below_alloc _ _, Blk.new _ _ _, by simp⟩
  obtain ⟨XA, e2, HXA, HKA, hza⟩ := F2
  have E2 := Lib.hid e2
  have CA := Lib.hid (adder_any X.heap.size XA)
  obtain ⟨q, hq⟩ : ∃ q, X.heap.size = q := ⟨_, rfl⟩
  obtain ⟨pb, hpb⟩ : ∃ pb, XA.heap.size = pb := ⟨_, rfl⟩
  have F3 : ∃ X2, XA.alloc (.cells #[.pointer (some ⟨q, 0, none⟩)] 228) = X2 ∧ Hid (Below X.heap.size X X2) ∧ Hid (AcSt q q pb [] 0 (.slice none 0 0) X2) := by
    refine ⟨_, rfl, sbelow_al HXA.out _, ?_, blk_new hpb _ _, World.ownsRow_nil _ _ _ _⟩
    rw [← hq]
    exact HKA.out.alloc _
  obtain ⟨X2, e3, HX2, HS2⟩ := F3
  rw [hq, hpb, e3] at CA
  have HQ := Lib.hid hq
  have HQ2 : Hid (w.heap.size ≤ q ∧ p + 1 < q ∧ q ≤ X2.heap.size) := by
    have h1 := HK0.out.2.lt
    rw [HP.out] at h1
    exact ⟨by rw [← hq]; exact HBX.out.size, by rw [← hq]; omega, by rw [← hq]; exact HX2.out.size⟩
  have HBX2 : Hid (Below w.heap.size w X2) := HBX.out.trans (HX2.out.mono HBX.out.size)
  have HTB2 : Hid (Blk X2 p 37 #[.int .i64 t.price, .int .i64 t.back, .int .i64 t.late, .int .i64 t.carry, .int .i64 t.credit] ∧ Blk X2 (p + 1) 80 #[.slice none 0 0, .int .i64 0]) := by
    rw [← HP.out]
    exact ⟨HK0.out.1.below HX2.out HK0.out.1.lt, HK0.out.2.below HX2.out HK0.out.2.lt⟩
  clear e0 e2 e3 hq hp hpb hza HXA HKA HX2 HBX HK0
  go_enter Try.func93, Try.ntmps93
  go_upto_region 1 with fail
  rw [E0.out]
  clear E0
  rw [HP.out]
  go_upto_region 2 with fail
  rw [E2.out, HQ.out]
  clear E2
  go_wp2_with fail
  refine CA.out.mono ?_
  rintro _ _ ⟨rfl, rfl⟩
  clear CA
  have C1 := Lib.hid (add_any (base := q) (Ab := q) (Pb := pb) (k := 0) (l := []) 4 s1 t.carry (by simp) (by omega) (by omega) (by have h := HA1.out; omega) X2 HQ2.out.2.2 HS2.out)
  have g0 := cellOf HTB2.out.1 3 (x := .int .i64 t.carry) rfl
  go_wp2_with fail
  refine C1.out.mono ?_
  rintro _ Y1 ⟨⟨z1, rfl⟩, b1, d1, HS3, HK3⟩
  have HTB3 : Hid (Blk Y1 p 37 #[.int .i64 t.price, .int .i64 t.back, .int .i64 t.late, .int .i64 t.carry, .int .i64 t.credit] ∧ Blk Y1 (p + 1) 80 #[.slice none 0 0, .int .i64 0]) := ⟨HS2.out.far HK3.out HTB2.out.1 (by have := HQ2.out; omega) (by decide), HS2.out.far HK3.out HTB2.out.2 (by have := HQ2.out; omega) (by decide)⟩
  have HBX3 : Hid (Below w.heap.size w Y1) := HBX2.out.trans (HS2.out.belowK HK3.out HQ2.out.1 HQ2.out.1 HBX2.out.size)
  have HZ2 : Hid (q ≤ Y1.heap.size) := Nat.le_trans HQ2.out.2.2 HK3.out.size
  clear C1 g0 HTB2 HS2 HK3 HBX2
  have C2 := Lib.hid (add_any (base := q) (Ab := q) (Pb := pb) (k := 1) (l := ([] ++ [⟨4, s1, s1 * t.carry⟩])) 5 s2 (-t.credit) (by simp) (by omega) (by obtain ⟨h1, h2⟩ := HA1.out; first | omega | (simp only; omega)) (by have h := HA2.out; omega) Y1 HZ2.out HS3.out)
  have g0 := cellOf HTB3.out.1 4 (x := .int .i64 t.credit) rfl
  go_wp2_with fail
  refine C2.out.mono ?_
  rintro _ Y3 ⟨⟨z2, rfl⟩, b3, d3, HS5, HK5⟩
  have HTB5 : Hid (Blk Y3 p 37 #[.int .i64 t.price, .int .i64 t.back, .int .i64 t.late, .int .i64 t.carry, .int .i64 t.credit] ∧ Blk Y3 (p + 1) 80 #[.slice none 0 0, .int .i64 0]) := ⟨HS3.out.far HK5.out HTB3.out.1 (by have := HQ2.out; omega) (by decide), HS3.out.far HK5.out HTB3.out.2 (by have := HQ2.out; omega) (by decide)⟩
  have HBX5 : Hid (Below w.heap.size w Y3) := HBX3.out.trans (HS3.out.belowK HK5.out HQ2.out.1 HQ2.out.1 HBX3.out.size)
  clear C2 g0 HTB3 HS3 HK5 HBX3
  have HLF : Hid (OLines w.heap.size Y3 (.slice (some ⟨b3, 0, none⟩) 2 d3) (carL t s1 s2)) := ownsRow_base HS5.out.row HQ2.out.1
  have HAC : Hid (Blk Y3 q 80 #[.slice (some ⟨b3, 0, none⟩) 2 d3, .int .i64 (carS t s1 s2)]) := by
    have h1 := HS5.out.acc
    simp only [Int.zero_add] at h1
    exact h1
  obtain ⟨S, hS⟩ : ∃ S, carS t s1 s2 = S := ⟨_, rfl⟩
  rw [hS] at HAC
  have HSS := Lib.hid hS
  have k0 := cellOf HAC.out 0 (x := .slice (some ⟨b3, 0, none⟩) 2 d3) rfl
  have k1 := cellOf HAC.out 1 (x := .int .i64 S) rfl
  have r0 := cellOf HTB5.out.2 0 (x := .slice none 0 0) rfl
  have r1 := cellOf HTB5.out.2 1 (x := .int .i64 0) rfl
  have f0 := HTB5.out.2.frozen 0
  have f1 := HTB5.out.2.frozen 1
  have hK : KeptBut (fun g => g = p + 1) Y3 ((Y3.setCell ⟨p + 1, 0, none⟩ (.slice (some ⟨b3, 0, none⟩) 2 d3)).setCell ⟨p + 1, 1, none⟩ (.int .i64 S)) := (KeptBut.setCell (S := fun g => g = p + 1) rfl _).trans (KeptBut.setCell (S := fun g => g = p + 1) rfl _) fun _ _ h => h
  have HFIN : Hid (CarRet t s1 s2 w (.returned (.agg #[.slice (some ⟨b3, 0, none⟩) 2 d3, .int .i64 S])) ((Y3.setCell ⟨p + 1, 0, none⟩ (.slice (some ⟨b3, 0, none⟩) 2 d3)).setCell ⟨p + 1, 1, none⟩ (.int .i64 S))) := by
    refine ⟨_, _, by rw [HSS.out], ownsRow_keptBut HLF.out hK fun g cs _ hB e => by subst e; exact Blk.ne hB HTB5.out.2 (by decide) rfl, HBX5.out.trans (hK.below (fun g hg => by rw [hg, HP.out]; omega) HBX5.out.size)⟩
  have R := (HTB5.out.2.put 0 (.slice (some ⟨b3, 0, none⟩) 2 d3)).put 1 (.int .i64 S)
  have e0 := cellOf R 0 (x := .slice (some ⟨b3, 0, none⟩) 2 d3) rfl
  have e1 := cellOf R 1 (x := .int .i64 S) rfl
  clear hS hK R HAC HLF HS5 HBX5 HTB5
  go_wp2_with fail
  exact bodyPost_ret (v := .agg #[.slice (some ⟨b3, 0, none⟩) 2 d3, .int .i64 S]) (by simp [results, Try.results93, go_sem, e0, e1]) rfl HFIN.out
end Go.Proofs.Ytlmpbmlbllndcaa

namespace Go.Proofs.Ytlmpbmlbllndcaa
open Go.RowKit
attribute [local go_sem] Oper.semAt_some

theorem copK_bd {l : List SubD} (hl : ∀ s ∈ l, s.Ok) {a b : Int} (ha : 0 ≤ a) (hb : b ≤ 20000) : ∀ k, k ≤ l.length → 0 ≤ copK l a b k ∧ copK l a b k ≤ 20001 * k
  | 0, _ => by simp [copK, sumI]
  | k + 1, h => by
    have ih := copK_bd hl ha hb k (by omega)
    have hx : l[k]? = some l[k] := List.getElem?_eq_getElem (by omega)
    have h2 := copies_nonneg (hl l[k] (List.getElem_mem _)) (b := b) ha
    rw [copK_next hx]
    push_cast
    omega
/-- The sum, the lines that Carrier answers. -/
def caS (t : TarD) (l : List SubD) (a b : Int) (c : List CmpD) : Int := if cmpE l a b c = 0 then carS t (copK l a b l.length) c.length else 0
def caL (t : TarD) (l : List SubD) (a b : Int) (c : List CmpD) : List LineD := if cmpE l a b c = 0 then carL t (copK l a b l.length) c.length else []
def CarrRet (t : TarD) (l : List SubD) (a b : Int) (c : List CmpD) (w : World) (e : Ending) (w' : World) : Prop := ∃ u, e = .returned (.tuple #[.agg #[u, .int .i64 (caS t l a b c)], .int .i64 (cmpE l a b c)]) ∧ Hid (OLines w.heap.size w' u (caL t l a b c)) ∧ Hid (Below w.heap.size w w')
set_option maxRecDepth 1000000 in
set_option maxHeartbeats 4000000 in
theorem Carrier_any (t : TarD) (ht : t.okB = true) (l : List SubD) (hok : subsE l = 0) (hid : (l.map SubD.id).Nodup) (a b : Int) (hab : dayB a b = true) (c : List CmpD) (hc : c.length ≤ 1) (v vl : Value) (w : World) (hv : RCmps w.heap.size w v c) (hl : RSubs w.heap.size w vl l) :
    Calls Try.prog 35 #[.agg #[.int .i64 t.price, .int .i64 t.back, .int .i64 t.late, .int .i64 t.carry, .int .i64 t.credit], vl, v, .int .i64 a, .int .i64 b] w (CarrRet t l a b c w) := by
  have HR := Lib.hid hl
  have HV := Lib.hid hv
  obtain ⟨A, cc, rfl, hlm, -⟩ := subs_later hl
  obtain ⟨A2, c2, rfl, -, -⟩ := cmps_later hv
  obtain ⟨n, hn⟩ : ∃ n, l.length = n := ⟨_, rfl⟩
  obtain ⟨m, hm⟩ : ∃ n, c.length = n := ⟨_, rfl⟩
  rw [hn] at HR hlm ⊢
  rw [hm] at HV hc ⊢
  have HN := Lib.hid hn
  have HM := Lib.hid hm
  have hn5 : n ≤ 500 := by rw [← hn]; exact (subsE_ok hok).1
  have HLO : Hid (∀ s ∈ l, s.Ok) := fun s hs => subB_ok ((subsE_ok hok).2 s hs)
  have HAB := dayB_iff.1 hab
  have HBD : Hid (∀ k, k ≤ n → 0 ≤ copK l a b k ∧ copK l a b k ≤ 20001 * k) := fun k hk => copK_bd HLO.out HAB.1 HAB.2.2 k (by rw [hn]; exact hk)
  have F0 : ∃ W0, (w.alloc (.cells #[.int .i64 t.price, .int .i64 t.back, .int .i64 t.late, .int .i64 t.carry, .int .i64 t.credit] 37)).alloc (.cells #[.slice none 0 0, .int .i64 0] 80) = W0 ∧ Hid (Below w.heap.size w W0) ∧ Hid (Blk W0 w.heap.size 37 #[.int .i64 t.price, .int .i64 t.back, .int .i64 t.late, .int .i64 t.carry, .int .i64 t.credit] ∧ Blk W0 (w.heap.size + 1) 80 #[.slice none 0 0, .int .i64 0]) :=
    ⟨_, rfl, sbelow_al (below_alloc _ _) _, (Blk.new _ _ _).alloc _, blk_new (by simp) _ _⟩
  obtain ⟨W0, e0, HB0, HK0⟩ := F0
  have E0 := Lib.hid e0
  have z0 := cellOf HK0.out.1 0 (x := .int .i64 t.price) rfl
  have z1 := cellOf HK0.out.1 1 (x := .int .i64 t.back) rfl
  have z2 := cellOf HK0.out.1 2 (x := .int .i64 t.late) rfl
  have z3 := cellOf HK0.out.1 3 (x := .int .i64 t.carry) rfl
  have z4 := cellOf HK0.out.1 4 (x := .int .i64 t.credit) rfl
  have C1 := Lib.hid (tarRight_any t W0)
  rw [ht] at C1
  have C2 := Lib.hid (fun w v h => checkSubs_any l v w h)
  rw [hok] at C2
  have C3 := Lib.hid (fun w => areDays_any a b w)
  rw [hab] at C3
  have C4 := Lib.hid (fun v vl w hv hl => checkCmps_any l hok hid a b hab c (by rw [hm]; exact hc) v vl w hv hl)
  obtain ⟨ce, hce⟩ : ∃ x, cmpE l a b c = x := ⟨_, rfl⟩
  rw [hce] at C4
  have HCE := Lib.hid hce
  have HTO := Lib.hid ht
  obtain ⟨p, hp⟩ : ∃ p, w.heap.size = p := ⟨_, rfl⟩
  have HP := Lib.hid hp
  have HK : Hid (∀ Y, Below W0.heap.size W0 Y → Blk Y p 37 #[.int .i64 t.price, .int .i64 t.back, .int .i64 t.late, .int .i64 t.carry, .int .i64 t.credit] ∧ Blk Y (p + 1) 80 #[.slice none 0 0, .int .i64 0]) := fun Y hY => by
    rw [← HP.out]
    exact ⟨HK0.out.1.below hY HK0.out.1.lt, HK0.out.2.below hY HK0.out.2.lt⟩
  rw [hp] at z0 z1 z2 z3 z4
  clear hl hv hn hm e0 hce hp HK0 ht hok hid hab
  go_enter Try.func35, Try.ntmps35
  go_upto_region 1 with fail
  rw [E0.out]
  clear E0
  rw [HP.out]
  go_wp2_with fail
  refine C1.out.mono ?_
  rintro _ Y1 ⟨rfl, hb1⟩
  have HB1 := Lib.hid hb1
  have HBY1 : Hid (Below w.heap.size w Y1) := HB0.out.trans (hb1.mono HB0.out.size)
  have CA := Lib.hid (C2.out Y1 _ ((RSubs.below HR.out HBY1.out).more HBY1.out.size))
  clear C1 hb1 z0 z1 z2 z3 z4 C2
  go_wp2_with fail
  refine CA.out.mono ?_
  rintro _ Y2 ⟨rfl, hb2⟩
  have HB2 : Hid (Below W0.heap.size W0 Y2) := HB1.out.trans (hb2.mono HB1.out.size)
  have HBY2 : Hid (Below w.heap.size w Y2) := HBY1.out.trans (hb2.mono HBY1.out.size)
  clear CA hb2
  go_wp2_with fail
  refine (C3.out _).mono ?_
  rintro _ _ ⟨rfl, rfl⟩
  have CB := Lib.hid (C4.out _ _ Y2 ((Rd.below HV.out HBY2.out).more HBY2.out.size) ((RSubs.below HR.out HBY2.out).more HBY2.out.size))
  clear C3 C4
  go_wp2_with fail
  refine CB.out.mono ?_
  rintro _ Y ⟨rfl, hb3⟩
  have HB3 : Hid (Below W0.heap.size W0 Y) := HB2.out.trans (hb3.mono HB2.out.size)
  have HBY : Hid (Below w.heap.size w Y) := HBY2.out.trans (hb3.mono HBY2.out.size)
  have HRY := Lib.hid (HK.out Y HB3.out).2
  clear CB hb3 HB1 HBY1 HB2 HBY2
  by_cases hc0 : ce = 0
  case neg =>
    have hcb : (ce != 0) = true := by simpa using hc0
    have HNC : Hid (¬ cmpE l a b c = 0) := by rw [HCE.out]; exact hc0
    clear hc0
    have r0 := cellOf HRY.out 0 (x := .slice none 0 0) rfl
    have r1 := cellOf HRY.out 1 (x := .int .i64 0) rfl
    have f0 := HRY.out.frozen 0
    have f1 := HRY.out.frozen 1
    have hK : KeptBut (fun g => g = p + 1) Y ((Y.setCell ⟨p + 1, 0, none⟩ (.slice none 0 0)).setCell ⟨p + 1, 1, none⟩ (.int .i64 0)) := (KeptBut.setCell (S := fun g => g = p + 1) rfl _).trans (KeptBut.setCell (S := fun g => g = p + 1) rfl _) fun _ _ h => h
    have HFIN : Hid (CarrRet t l a b c w (.returned (.tuple #[.agg #[(.slice none 0 0), (.int .i64 0)], .int .i64 ce])) ((Y.setCell ⟨p + 1, 0, none⟩ (.slice none 0 0)).setCell ⟨p + 1, 1, none⟩ (.int .i64 0))) := ⟨_, by rw [HCE.out]; unfold caS; rw [if_neg HNC.out], by unfold caL; rw [if_neg HNC.out]; exact World.ownsRow_nil _ _ _ _, (HBY.out.trans (hK.below (fun g hg => by rw [hg, ← HP.out]; omega) HBY.out.size))⟩
    have R := (HRY.out.put 0 (.slice none 0 0)).put 1 (.int .i64 0)
    have e0 := cellOf R 0 (x := (.slice none 0 0)) rfl
    have e1 := cellOf R 1 (x := (.int .i64 0)) rfl
    clear hK R HRY
    go_wp2_with fail
    exact bodyPost_ret (v := .tuple #[.agg #[(.slice none 0 0), (.int .i64 0)], .int .i64 ce]) (by simp [results, Try.results35, go_sem, e0, e1]) rfl HFIN.out
  subst hc0
  have hcb : ((0 : Int) != 0) = false := rfl
  have HRS : Hid (RSubs Y.heap.size Y (.slice A n cc) l) := (RSubs.below HR.out HBY.out).more HBY.out.size
  obtain ⟨A', c', hsl, -, HD⟩ := subs_later HRS.out
  injection hsl with e1 e2 e3
  subst e1 e3
  clear e2 HRY HRS
  go_wp2_with fail
  go_loopw [14, 43] (fun s i wr => ∃ k : Nat, k ≤ n ∧ i = .int .i64 k ∧ ∃ S : Int, s = .int .i64 S ∧ Hid (S = copK l a b k) ∧ Hid (Below Y.heap.size Y wr)) (fun _ i _ => n - (intOf i).toNat)
  case atStart => exact ⟨0, Nat.zero_le _, rfl, 0, rfl, by show _ = _; simp [copK, sumI], Below.refl _ _⟩
  case round =>
  obtain ⟨k, hk, rfl, S, rfl, hS, hB⟩ := hrel
  obtain ⟨X, rfl⟩ : ∃ X : World, X = wr := ⟨_, rfl⟩
  obtain ⟨s1, s2⟩ : 0 ≤ S ∧ S ≤ 20001 * k := by rw [hS.out]; exact HBD.out k hk
  by_cases hlt : k < n
  · obtain ⟨x, hx⟩ : ∃ x, l[k]? = some x := ⟨_, List.getElem?_eq_getElem (by rw [HN.out]; exact hlt)⟩
    obtain ⟨g, o, u, rfl, HX⟩ := HD.out k x hx
    obtain ⟨Au, nu, cu, rfl⟩ : ∃ Au nu cu, u = .slice Au nu cu := by
      obtain ⟨-, u', hu', hsp⟩ := HX.out X hB.out
      obtain ⟨Au, cu, e, -⟩ := spans_later hsp
      have e9 : u = u' := by simpa using hu'
      exact ⟨Au, _, cu, e9.trans e⟩
    obtain ⟨⟨c0, c1, c2', c3', c4'⟩, -⟩ := HX.out X hB.out
    have F1 : ∃ X1, X.alloc (.cells #[.int .i64 x.id, .int .i64 x.from_, .int .i64 x.to_, .int .i64 x.days, .slice Au nu cu] 42) = X1 ∧ Hid (Below X.heap.size X X1) ∧ Hid (Blk X1 X.heap.size 42 #[.int .i64 x.id, .int .i64 x.from_, .int .i64 x.to_, .int .i64 x.days, .slice Au nu cu]) := ⟨_, rfl, below_alloc _ _, Blk.new _ _ _⟩
    obtain ⟨X1, e1, HX1, HK1⟩ := F1
    have E1 := Lib.hid e1
    have HB1X : Hid (Below Y.heap.size Y X1) := hB.out.trans (HX1.out.mono hB.out.size)
    have CG := Lib.hid (subCopies_any x (HLO.out x (List.mem_of_getElem? hx)) a b (by omega) (by omega) _ X1 (HX.out X1 HB1X.out).2)
    obtain ⟨gc, hgc⟩ : ∃ b', x.copies a b = b' := ⟨_, rfl⟩
    rw [hgc] at CG
    have hnx := copK_next (a := a) (b := b) hx
    rw [hgc] at hnx
    have HNX : Hid (S + gc = copK l a b (k + 1)) := by show _ = _; rw [hnx, hS.out]
    have u1 : -20000000 ≤ S + gc := by have := HBD.out (k + 1) (by omega); have := HNX.out; omega
    have u2 : S + gc ≤ 20000000 := by have := HBD.out (k + 1) (by omega); have := HNX.out; omega
    obtain ⟨q, hq⟩ : ∃ q, X.heap.size = q := ⟨_, rfl⟩
    rw [hq] at HK1
    have HQ := Lib.hid hq
    have d0 := cellOf HK1.out 0 (x := .int .i64 x.id) rfl
    have d1 := cellOf HK1.out 1 (x := .int .i64 x.from_) rfl
    have d2 := cellOf HK1.out 2 (x := .int .i64 x.to_) rfl
    have d3 := cellOf HK1.out 3 (x := .int .i64 x.days) rfl
    have d4 := cellOf HK1.out 4 (x := .slice Au nu cu) rfl
    have k0 : (0 : Int) ≤ (k : Int) := by omega
    have k1 : (k : Int) < (n : Int) := by omega
    clear hx HX e1 hq hgc hnx hB hS HX1 HK1
    go_upto_region 15 with fail
    rw [E1.out, HQ.out]
    clear E1 c0 c1 c2' c3' c4'
    go_wp2_with fail
    refine CG.out.mono ?_
    rintro _ X2 ⟨rfl, hb2⟩
    have HB2 : Hid (Below Y.heap.size Y X2) := HB1X.out.trans (hb2.mono HB1X.out.size)
    clear CG hb2 d0 d1 d2 d3 d4 HB1X
    go_wp2_with fail
    go_roundw
    case rel => exact ⟨k + 1, by omega, by go_num, _, rfl, HNX, HB2⟩
    case measure => simp [intOf]; omega
  · obtain rfl : k = n := by omega
    have HSL : Hid (S = copK l a b l.length) := by show _ = _; rw [hS.out, HN.out]
    have HB4 : Hid (Below W0.heap.size W0 X) := HB3.out.trans (hB.out.mono HB3.out.size)
    have HBX : Hid (Below w.heap.size w X) := HBY.out.trans (hB.out.mono HBY.out.size)
    have CC := Lib.hid (carry_any t HTO.out S (m : Int) (by omega) (by omega) X)
    have HTY := Lib.hid (HK.out X HB4.out).1
    have z0 := cellOf HTY.out 0 (x := .int .i64 t.price) rfl
    have z1 := cellOf HTY.out 1 (x := .int .i64 t.back) rfl
    have z2 := cellOf HTY.out 2 (x := .int .i64 t.late) rfl
    have z3 := cellOf HTY.out 3 (x := .int .i64 t.carry) rfl
    have z4 := cellOf HTY.out 4 (x := .int .i64 t.credit) rfl
    clear hS hB s1 s2
    go_wp2_with fail
    refine CC.out.mono ?_
    rintro _ Z ⟨A3, c3, rfl, HL, HB5⟩
    have HRY := Lib.hid (HK.out Z (HB4.out.trans (HB5.out.mono HB4.out.size))).2
    have HLW : Hid (OLines w.heap.size Z (.slice A3 2 c3) (caL t l a b c)) := by
      unfold caL
      rw [if_pos HCE.out, ← HSL.out, HM.out]
      exact ownsRow_base HL.out HBX.out.size
    have HBZ : Hid (Below w.heap.size w Z) := HBX.out.trans (HB5.out.mono HBX.out.size)
    obtain ⟨G, hG⟩ : ∃ G, carS t S (m : Int) = G := ⟨_, rfl⟩
    rw [hG]
    have HGG : Hid (caS t l a b c = G) := by show _ = _; unfold caS; rw [if_pos HCE.out, ← HSL.out, HM.out, hG]
    clear CC HL HB5 hG z0 z1 z2 z3 z4 HTY
    have r0 := cellOf HRY.out 0 (x := .slice none 0 0) rfl
    have r1 := cellOf HRY.out 1 (x := .int .i64 0) rfl
    have f0 := HRY.out.frozen 0
    have f1 := HRY.out.frozen 1
    have hK : KeptBut (fun g => g = p + 1) Z ((Z.setCell ⟨p + 1, 0, none⟩ (.slice A3 2 c3)).setCell ⟨p + 1, 1, none⟩ (.int .i64 G)) := (KeptBut.setCell (S := fun g => g = p + 1) rfl _).trans (KeptBut.setCell (S := fun g => g = p + 1) rfl _) fun _ _ h => h
    have HFIN : Hid (CarrRet t l a b c w (.returned (.tuple #[.agg #[(.slice A3 2 c3), (.int .i64 G)], .int .i64 0])) ((Z.setCell ⟨p + 1, 0, none⟩ (.slice A3 2 c3)).setCell ⟨p + 1, 1, none⟩ (.int .i64 G))) := ⟨_, by rw [HCE.out, HGG.out], ownsRow_keptBut HLW.out hK fun g cs _ hB e => by subst e; exact Blk.ne hB HRY.out (by decide) rfl, (HBZ.out.trans (hK.below (fun g hg => by rw [hg, ← HP.out]; omega) HBZ.out.size))⟩
    have R := (HRY.out.put 0 (.slice A3 2 c3)).put 1 (.int .i64 G)
    have e0 := cellOf R 0 (x := (.slice A3 2 c3)) rfl
    have e1 := cellOf R 1 (x := (.int .i64 G)) rfl
    clear hK R HRY
    go_wp2_with fail
    exact bodyPost_ret (v := .tuple #[.agg #[(.slice A3 2 c3), (.int .i64 G)], .int .i64 0]) (by simp [results, Try.results35, go_sem, e0, e1]) rfl HFIN.out
end Go.Proofs.Ytlmpbmlbllndcaa
