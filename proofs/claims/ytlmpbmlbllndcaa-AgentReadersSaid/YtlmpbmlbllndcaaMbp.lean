/-
  Carrier, whatever it is given.
-/
import Derived.Test.YtlmpbmlbllndcaaMbo
namespace Go.Proofs.Ytlmpbmlbllndcaa
open Go.RowKit
attribute [local go_sem] Oper.semAt_some

/-- What Carrier answers to anything. -/
def carrE (t : TarD) (l : List SubD) (a b : Int) (c : List CmpD) : Int := if t.okB then (if subsE l = 0 then (if dayB a b then cmpsE l a b c else 6) else subsE l) else 1
def carrS (t : TarD) (l : List SubD) (a b : Int) (c : List CmpD) : Int := if carrE t l a b c = 0 then carS t (copK l a b l.length) c.length else 0
def carrL (t : TarD) (l : List SubD) (a b : Int) (c : List CmpD) : List LineD := if carrE t l a b c = 0 then carL t (copK l a b l.length) c.length else []
def CarRt (t : TarD) (l : List SubD) (a b : Int) (c : List CmpD) (w : World) (e : Ending) (w' : World) : Prop := ∃ u, e = .returned (.tuple #[.agg #[u, .int .i64 (carrS t l a b c)], .int .i64 (carrE t l a b c)]) ∧ Hid (OLines w.heap.size w' u (carrL t l a b c)) ∧ Hid (Below w.heap.size w w')
set_option maxRecDepth 1000000 in
set_option maxHeartbeats 4000000 in
theorem CarrierAll_any (t : TarD) (l : List SubD) (a b : Int) (c : List CmpD) (v vl : Value) (w : World) (hv : RCmps w.heap.size w v c) (hl : RSubs w.heap.size w vl l) :
    Calls Try.prog 35 #[.agg #[.int .i64 t.price, .int .i64 t.back, .int .i64 t.late, .int .i64 t.carry, .int .i64 t.credit], vl, v, .int .i64 a, .int .i64 b] w (CarRt t l a b c w) := by
  have HR := Lib.hid hl
  have HV := Lib.hid hv
  obtain ⟨A, cc, rfl, hlm, -⟩ := subs_later hl
  obtain ⟨A2, c2, rfl, -, -⟩ := cmps_later hv
  obtain ⟨n, hn⟩ : ∃ n, l.length = n := ⟨_, rfl⟩
  obtain ⟨m, hm⟩ : ∃ n, c.length = n := ⟨_, rfl⟩
  rw [hn] at HR hlm ⊢
  rw [hm] at HV ⊢
  have HN := Lib.hid hn
  have HM := Lib.hid hm
  have F0 : ∃ W0, (w.alloc (.cells #[.int .i64 t.price, .int .i64 t.back, .int .i64 t.late, .int .i64 t.carry, .int .i64 t.credit] 37)).alloc (.cells #[.slice none 0 0, .int .i64 0] 80) = W0 ∧ Hid (Below w.heap.size w W0) ∧ Hid (Blk W0 w.heap.size 37 #[.int .i64 t.price, .int .i64 t.back, .int .i64 t.late, .int .i64 t.carry, .int .i64 t.credit] ∧ Blk W0 (w.heap.size + 1) 80 #[.slice none 0 0, .int .i64 0]) :=
    ⟨_, rfl, sbelow_al (below_alloc _ _) _, (Blk.new _ _ _).alloc _, blk_new (by simp) _ _⟩
  obtain ⟨W0, e0, HB0, HK0⟩ := F0
  have E0 := Lib.hid e0
  have z0 := cellOf HK0.out.1 0 (x := .int .i64 t.price) rfl
  have z1 := cellOf HK0.out.1 1 (x := .int .i64 t.back) rfl
  have z2 := cellOf HK0.out.1 2 (x := .int .i64 t.late) rfl
  have z3 := cellOf HK0.out.1 3 (x := .int .i64 t.carry) rfl
  have z4 := cellOf HK0.out.1 4 (x := .int .i64 t.credit) rfl
  have HERR : Hid (∀ (E : Int) W, carrE t l a b c = E → ¬ E = 0 → Below w.heap.size w W → CarRt t l a b c w (.returned (.tuple #[.agg #[.slice none 0 0, .int .i64 0], .int .i64 E])) W) := fun E W h1 h2 h3 =>
    ⟨_, by unfold carrS; rw [h1, if_neg h2], by unfold carrL; rw [h1, if_neg h2]; exact World.ownsRow_nil _ _ _ _, h3⟩
  have C1 := Lib.hid (tarRight_any t W0)
  have C2 := Lib.hid (fun w v h => checkSubs_any l v w h)
  have C3 := Lib.hid (fun w => areDays_any a b w)
  obtain ⟨p, hp⟩ : ∃ p, w.heap.size = p := ⟨_, rfl⟩
  have HP := Lib.hid hp
  have HK : Hid (∀ Y, Below W0.heap.size W0 Y → Blk Y p 37 #[.int .i64 t.price, .int .i64 t.back, .int .i64 t.late, .int .i64 t.carry, .int .i64 t.credit] ∧ Blk Y (p + 1) 80 #[.slice none 0 0, .int .i64 0]) := fun Y hY => by
    rw [← HP.out]
    exact ⟨HK0.out.1.below hY HK0.out.1.lt, HK0.out.2.below hY HK0.out.2.lt⟩
  rw [hp] at z0 z1 z2 z3 z4
  clear hl hv hn hm e0 hp HK0
  by_cases ht : t.okB = true
  case neg =>
    have ht' : t.okB = false := by simpa using ht
    have HCE : Hid (carrE t l a b c = 1) := by show _ = _; unfold carrE; rw [if_neg ht]
    rw [ht'] at C1
    clear ht ht'
    go_enter Try.func35, Try.ntmps35
    go_upto_region 1 with fail
    rw [E0.out]
    clear E0
    rw [HP.out]
    go_wp2_with fail
    refine C1.out.mono ?_
    rintro _ Y1 ⟨rfl, hb1⟩
    have HB1 := Lib.hid hb1
    have HBY1 : Hid (Below w.heap.size w Y1) := HB0.out.trans (hb1.mono HB0.out.size)
    have HRY1 := Lib.hid (HK.out Y1 HB1.out).2
    clear C1 hb1 z0 z1 z2 z3 z4
    have r0 := cellOf HRY1.out 0 (x := .slice none 0 0) rfl
    have r1 := cellOf HRY1.out 1 (x := .int .i64 0) rfl
    have f0 := HRY1.out.frozen 0
    have f1 := HRY1.out.frozen 1
    have hK : KeptBut (fun g => g = p + 1) Y1 ((Y1.setCell ⟨p + 1, 0, none⟩ (.slice none 0 0)).setCell ⟨p + 1, 1, none⟩ (.int .i64 0)) := (KeptBut.setCell (S := fun g => g = p + 1) rfl _).trans (KeptBut.setCell (S := fun g => g = p + 1) rfl _) fun _ _ h => h
    have HFIN := Lib.hid (HERR.out 1 ((Y1.setCell ⟨p + 1, 0, none⟩ (.slice none 0 0)).setCell ⟨p + 1, 1, none⟩ (.int .i64 0)) HCE.out (by omega) (HBY1.out.trans (hK.below (fun g hg => by rw [hg, HP.out]; omega) HBY1.out.size)))
    have R := (HRY1.out.put 0 (.slice none 0 0)).put 1 (.int .i64 0)
    have e0 := cellOf R 0 (x := (.slice none 0 0)) rfl
    have e1 := cellOf R 1 (x := (.int .i64 0)) rfl
    clear hK R
    go_wp2_with fail
    exact bodyPost_ret (v := .tuple #[.agg #[(.slice none 0 0), (.int .i64 0)], .int .i64 1]) (by simp [results, Try.results35, go_sem, e0, e1]) rfl HFIN.out
  rw [ht] at C1
  by_cases hok : subsE l = 0
  case neg =>
    obtain ⟨se, hse⟩ : ∃ x, subsE l = x := ⟨_, rfl⟩
    have HCE : Hid (carrE t l a b c = se) := by show _ = _; unfold carrE; rw [if_pos ht, if_neg hok, hse]
    rw [hse] at C2 hok
    have hsb : (se != 0) = true := by simpa using hok
    have HSE := Lib.hid hok
    clear ht hok hse
    go_enter Try.func35, Try.ntmps35
    go_upto_region 1 with fail
    rw [E0.out]
    clear E0
    rw [HP.out]
    go_wp2_with fail
    refine C1.out.mono ?_
    rintro _ Y1 ⟨rfl, hb1⟩
    have HB1 := Lib.hid hb1
    have HBY1 : Hid (Below w.heap.size w Y1) := HB0.out.trans (hb1.mono HB0.out.size)
    have HRY1 := Lib.hid (HK.out Y1 HB1.out).2
    clear C1 hb1 z0 z1 z2 z3 z4
    have CA := Lib.hid (C2.out Y1 _ ((RSubs.below HR.out HBY1.out).more HBY1.out.size))
    clear C2
    go_wp2_with fail
    refine CA.out.mono ?_
    rintro _ Y2 ⟨rfl, hb2⟩
    have HB2 : Hid (Below W0.heap.size W0 Y2) := HB1.out.trans (hb2.mono HB1.out.size)
    have HBY2 : Hid (Below w.heap.size w Y2) := HBY1.out.trans (hb2.mono HBY1.out.size)
    have HRY2 := Lib.hid (HK.out Y2 HB2.out).2
    clear CA hb2
    have r0 := cellOf HRY2.out 0 (x := .slice none 0 0) rfl
    have r1 := cellOf HRY2.out 1 (x := .int .i64 0) rfl
    have f0 := HRY2.out.frozen 0
    have f1 := HRY2.out.frozen 1
    have hK : KeptBut (fun g => g = p + 1) Y2 ((Y2.setCell ⟨p + 1, 0, none⟩ (.slice none 0 0)).setCell ⟨p + 1, 1, none⟩ (.int .i64 0)) := (KeptBut.setCell (S := fun g => g = p + 1) rfl _).trans (KeptBut.setCell (S := fun g => g = p + 1) rfl _) fun _ _ h => h
    have HFIN := Lib.hid (HERR.out se ((Y2.setCell ⟨p + 1, 0, none⟩ (.slice none 0 0)).setCell ⟨p + 1, 1, none⟩ (.int .i64 0)) HCE.out HSE.out (HBY2.out.trans (hK.below (fun g hg => by rw [hg, HP.out]; omega) HBY2.out.size)))
    have R := (HRY2.out.put 0 (.slice none 0 0)).put 1 (.int .i64 0)
    have e0 := cellOf R 0 (x := (.slice none 0 0)) rfl
    have e1 := cellOf R 1 (x := (.int .i64 0)) rfl
    clear hK R
    go_wp2_with fail
    exact bodyPost_ret (v := .tuple #[.agg #[(.slice none 0 0), (.int .i64 0)], .int .i64 se]) (by simp [results, Try.results35, go_sem, e0, e1]) rfl HFIN.out
  rw [hok] at C2
  have h00 : ((0 : Int) != 0) = false := rfl
  by_cases hab : dayB a b = true
  case neg =>
    have hab' : dayB a b = false := by simpa using hab
    have HCE : Hid (carrE t l a b c = 6) := by show _ = _; unfold carrE; rw [if_pos ht, if_pos hok, if_neg hab]
    rw [hab'] at C3
    clear ht hok hab hab'
    go_enter Try.func35, Try.ntmps35
    go_upto_region 1 with fail
    rw [E0.out]
    clear E0
    rw [HP.out]
    go_wp2_with fail
    refine C1.out.mono ?_
    rintro _ Y1 ⟨rfl, hb1⟩
    have HB1 := Lib.hid hb1
    have HBY1 : Hid (Below w.heap.size w Y1) := HB0.out.trans (hb1.mono HB0.out.size)
    have HRY1 := Lib.hid (HK.out Y1 HB1.out).2
    clear C1 hb1 z0 z1 z2 z3 z4
    have CA := Lib.hid (C2.out Y1 _ ((RSubs.below HR.out HBY1.out).more HBY1.out.size))
    clear C2
    go_wp2_with fail
    refine CA.out.mono ?_
    rintro _ Y2 ⟨rfl, hb2⟩
    have HB2 : Hid (Below W0.heap.size W0 Y2) := HB1.out.trans (hb2.mono HB1.out.size)
    have HBY2 : Hid (Below w.heap.size w Y2) := HBY1.out.trans (hb2.mono HBY1.out.size)
    have HRY2 := Lib.hid (HK.out Y2 HB2.out).2
    clear CA hb2
    go_wp2_with fail
    refine (C3.out _).mono ?_
    rintro _ _ ⟨rfl, rfl⟩
    have r0 := cellOf HRY2.out 0 (x := .slice none 0 0) rfl
    have r1 := cellOf HRY2.out 1 (x := .int .i64 0) rfl
    have f0 := HRY2.out.frozen 0
    have f1 := HRY2.out.frozen 1
    have hK : KeptBut (fun g => g = p + 1) Y2 ((Y2.setCell ⟨p + 1, 0, none⟩ (.slice none 0 0)).setCell ⟨p + 1, 1, none⟩ (.int .i64 0)) := (KeptBut.setCell (S := fun g => g = p + 1) rfl _).trans (KeptBut.setCell (S := fun g => g = p + 1) rfl _) fun _ _ h => h
    have HFIN := Lib.hid (HERR.out 6 ((Y2.setCell ⟨p + 1, 0, none⟩ (.slice none 0 0)).setCell ⟨p + 1, 1, none⟩ (.int .i64 0)) HCE.out (by omega) (HBY2.out.trans (hK.below (fun g hg => by rw [hg, HP.out]; omega) HBY2.out.size)))
    have R := (HRY2.out.put 0 (.slice none 0 0)).put 1 (.int .i64 0)
    have e0 := cellOf R 0 (x := (.slice none 0 0)) rfl
    have e1 := cellOf R 1 (x := (.int .i64 0)) rfl
    clear hK R
    go_wp2_with fail
    exact bodyPost_ret (v := .tuple #[.agg #[(.slice none 0 0), (.int .i64 0)], .int .i64 6]) (by simp [results, Try.results35, go_sem, e0, e1]) rfl HFIN.out
  rw [hab] at C3
  have HCX : Hid (carrE t l a b c = cmpsE l a b c) := by show _ = _; unfold carrE; rw [if_pos ht, if_pos hok, if_pos hab]
  have hn5 : n ≤ 500 := by rw [← HN.out]; exact (subsE_ok hok).1
  have HLO : Hid (∀ s ∈ l, s.Ok) := fun s hs => subB_ok ((subsE_ok hok).2 s hs)
  have HAB := dayB_iff.1 hab
  have HBD : Hid (∀ k, k ≤ n → 0 ≤ copK l a b k ∧ copK l a b k ≤ 20001 * k) := fun k hk => copK_bd HLO.out HAB.1 HAB.2.2 k (by rw [HN.out]; exact hk)
  have C4 := Lib.hid (fun v vl w hv hl => checkCmpsAll_any l hok a b hab c v vl w hv hl)
  obtain ⟨ce, hce⟩ : ∃ x, cmpsE l a b c = x := ⟨_, rfl⟩
  have HM5 : Hid (ce = 0 → m ≤ 500) := fun h => by
    rw [← hce] at h
    unfold cmpsE at h
    by_cases h5 : 500 < c.length
    · rw [if_pos h5] at h; omega
    · rw [← HM.out]; omega
  rw [hce] at C4 HCX
  have HCE := HCX
  have HTO := Lib.hid ht
  clear ht hok hab hce h00
  go_enter Try.func35, Try.ntmps35
  go_upto_region 1 with fail
  rw [E0.out]
  clear E0
  rw [HP.out]
  go_wp2_with fail
  refine C1.out.mono ?_
  rintro _ Y1 ⟨rfl, hb1⟩
  have HB1 := Lib.hid hb1
  have HBY1 : Hid (Below w.heap.size w Y1) := HB0.out.trans (hb1.mono HB0.out.size)
  have CA := Lib.hid (C2.out Y1 _ ((RSubs.below HR.out HBY1.out).more HBY1.out.size))
  clear C1 hb1 z0 z1 z2 z3 z4 C2
  go_wp2_with fail
  refine CA.out.mono ?_
  rintro _ Y2 ⟨rfl, hb2⟩
  have HB2 : Hid (Below W0.heap.size W0 Y2) := HB1.out.trans (hb2.mono HB1.out.size)
  have HBY2 : Hid (Below w.heap.size w Y2) := HBY1.out.trans (hb2.mono HBY1.out.size)
  clear CA hb2
  go_wp2_with fail
  refine (C3.out _).mono ?_
  rintro _ _ ⟨rfl, rfl⟩
  have CB := Lib.hid (C4.out _ _ Y2 ((Rd.below HV.out HBY2.out).more HBY2.out.size) ((RSubs.below HR.out HBY2.out).more HBY2.out.size))
  clear C3 C4
  go_wp2_with fail
  refine CB.out.mono ?_
  rintro _ Y ⟨rfl, hb3⟩
  have HB3 : Hid (Below W0.heap.size W0 Y) := HB2.out.trans (hb3.mono HB2.out.size)
  have HBY : Hid (Below w.heap.size w Y) := HBY2.out.trans (hb3.mono HBY2.out.size)
  have HRY := Lib.hid (HK.out Y HB3.out).2
  clear CB hb3 HB1 HBY1 HB2 HBY2
  by_cases hc0 : ce = 0
  case neg =>
    have hcb : (ce != 0) = true := by simpa using hc0
    have HNC : Hid (¬ carrE t l a b c = 0) := by rw [HCE.out]; exact hc0
    clear hc0
    have r0 := cellOf HRY.out 0 (x := .slice none 0 0) rfl
    have r1 := cellOf HRY.out 1 (x := .int .i64 0) rfl
    have f0 := HRY.out.frozen 0
    have f1 := HRY.out.frozen 1
    have hK : KeptBut (fun g => g = p + 1) Y ((Y.setCell ⟨p + 1, 0, none⟩ (.slice none 0 0)).setCell ⟨p + 1, 1, none⟩ (.int .i64 0)) := (KeptBut.setCell (S := fun g => g = p + 1) rfl _).trans (KeptBut.setCell (S := fun g => g = p + 1) rfl _) fun _ _ h => h
    have HFIN : Hid (CarRt t l a b c w (.returned (.tuple #[.agg #[(.slice none 0 0), (.int .i64 0)], .int .i64 ce])) ((Y.setCell ⟨p + 1, 0, none⟩ (.slice none 0 0)).setCell ⟨p + 1, 1, none⟩ (.int .i64 0))) := ⟨_, by rw [HCE.out]; unfold carrS; rw [if_neg HNC.out], by unfold carrL; rw [if_neg HNC.out]; exact World.ownsRow_nil _ _ _ _, (HBY.out.trans (hK.below (fun g hg => by rw [hg, ← HP.out]; omega) HBY.out.size))⟩
    have R := (HRY.out.put 0 (.slice none 0 0)).put 1 (.int .i64 0)
    have e0 := cellOf R 0 (x := (.slice none 0 0)) rfl
    have e1 := cellOf R 1 (x := (.int .i64 0)) rfl
    clear hK R HRY
    go_wp2_with fail
    exact bodyPost_ret (v := .tuple #[.agg #[(.slice none 0 0), (.int .i64 0)], .int .i64 ce]) (by simp [results, Try.results35, go_sem, e0, e1]) rfl HFIN.out
  subst hc0
  have hcb : ((0 : Int) != 0) = false := rfl
  have HRS : Hid (RSubs Y.heap.size Y (.slice A n cc) l) := (RSubs.below HR.out HBY.out).more HBY.out.size
  obtain ⟨A', c', hsl, -, HD⟩ := subs_later HRS.out
  injection hsl with e1 e2 e3
  subst e1 e3
  clear e2 HRY HRS
  go_wp2_with fail
  go_loopw [14, 43] (fun s i wr => ∃ k : Nat, k ≤ n ∧ i = .int .i64 k ∧ ∃ S : Int, s = .int .i64 S ∧ Hid (S = copK l a b k) ∧ Hid (Below Y.heap.size Y wr)) (fun _ i _ => n - (intOf i).toNat)
  case atStart => exact ⟨0, Nat.zero_le _, rfl, 0, rfl, by show _ = _; simp [copK, sumI], Below.refl _ _⟩
  case round =>
  obtain ⟨k, hk, rfl, S, rfl, hS, hB⟩ := hrel
  obtain ⟨X, rfl⟩ : ∃ X : World, X = wr := ⟨_, rfl⟩
  obtain ⟨s1, s2⟩ : 0 ≤ S ∧ S ≤ 20001 * k := by rw [hS.out]; exact HBD.out k hk
  by_cases hlt : k < n
  · obtain ⟨x, hx⟩ : ∃ x, l[k]? = some x := ⟨_, List.getElem?_eq_getElem (by rw [HN.out]; exact hlt)⟩
    obtain ⟨g, o, u, rfl, HX⟩ := HD.out k x hx
    obtain ⟨Au, nu, cu, rfl⟩ : ∃ Au nu cu, u = .slice Au nu cu := by
      obtain ⟨-, u', hu', hsp⟩ := HX.out X hB.out
      obtain ⟨Au, cu, e, -⟩ := spans_later hsp
      have e9 : u = u' := by simpa using hu'
      exact ⟨Au, _, cu, e9.trans e⟩
    obtain ⟨⟨c0, c1, c2', c3', c4'⟩, -⟩ := HX.out X hB.out
    have F1 : ∃ X1, X.alloc (.cells #[.int .i64 x.id, .int .i64 x.from_, .int .i64 x.to_, .int .i64 x.days, .slice Au nu cu] 42) = X1 ∧ Hid (Below X.heap.size X X1) ∧ Hid (Blk X1 X.heap.size 42 #[.int .i64 x.id, .int .i64 x.from_, .int .i64 x.to_, .int .i64 x.days, .slice Au nu cu]) := ⟨_, rfl, below_alloc _ _, Blk.new _ _ _⟩
    obtain ⟨X1, e1, HX1, HK1⟩ := F1
    have E1 := Lib.hid e1
    have HB1X : Hid (Below Y.heap.size Y X1) := hB.out.trans (HX1.out.mono hB.out.size)
    have CG := Lib.hid (subCopies_any x (HLO.out x (List.mem_of_getElem? hx)) a b (by omega) (by omega) _ X1 (HX.out X1 HB1X.out).2)
    obtain ⟨gc, hgc⟩ : ∃ b', x.copies a b = b' := ⟨_, rfl⟩
    rw [hgc] at CG
    have hnx := copK_next (a := a) (b := b) hx
    rw [hgc] at hnx
    have HNX : Hid (S + gc = copK l a b (k + 1)) := by show _ = _; rw [hnx, hS.out]
    have u1 : -20000000 ≤ S + gc := by have := HBD.out (k + 1) (by omega); have := HNX.out; omega
    have u2 : S + gc ≤ 20000000 := by have := HBD.out (k + 1) (by omega); have := HNX.out; omega
    obtain ⟨q, hq⟩ : ∃ q, X.heap.size = q := ⟨_, rfl⟩
    rw [hq] at HK1
    have HQ := Lib.hid hq
    have d0 := cellOf HK1.out 0 (x := .int .i64 x.id) rfl
    have d1 := cellOf HK1.out 1 (x := .int .i64 x.from_) rfl
    have d2 := cellOf HK1.out 2 (x := .int .i64 x.to_) rfl
    have d3 := cellOf HK1.out 3 (x := .int .i64 x.days) rfl
    have d4 := cellOf HK1.out 4 (x := .slice Au nu cu) rfl
    have k0 : (0 : Int) ≤ (k : Int) := by omega
    have k1 : (k : Int) < (n : Int) := by omega
    clear hx HX e1 hq hgc hnx hB hS HX1 HK1
    go_upto_region 15 with fail
    rw [E1.out, HQ.out]
    clear E1 c0 c1 c2' c3' c4'
    go_wp2_with fail
    refine CG.out.mono ?_
    rintro _ X2 ⟨rfl, hb2⟩
    have HB2 : Hid (Below Y.heap.size Y X2) := HB1X.out.trans (hb2.mono HB1X.out.size)
    clear CG hb2 d0 d1 d2 d3 d4 HB1X
    go_wp2_with fail
    go_roundw
    case rel => exact ⟨k + 1, by omega, by go_num, _, rfl, HNX, HB2⟩
    case measure => simp [intOf]; omega
  · obtain rfl : k = n := by omega
    have HSL : Hid (S = copK l a b l.length) := by show _ = _; rw [hS.out, HN.out]
    have HB4 : Hid (Below W0.heap.size W0 X) := HB3.out.trans (hB.out.mono HB3.out.size)
    have HBX : Hid (Below w.heap.size w X) := HBY.out.trans (hB.out.mono HBY.out.size)
    have hm5 : m ≤ 500 := by first | exact HM5.out rfl | exact HM5.out trivial | exact HM5.out
    have CC := Lib.hid (carry_any t HTO.out S (m : Int) (by omega) (by omega) X)
    have HTY := Lib.hid (HK.out X HB4.out).1
    have z0 := cellOf HTY.out 0 (x := .int .i64 t.price) rfl
    have z1 := cellOf HTY.out 1 (x := .int .i64 t.back) rfl
    have z2 := cellOf HTY.out 2 (x := .int .i64 t.late) rfl
    have z3 := cellOf HTY.out 3 (x := .int .i64 t.carry) rfl
    have z4 := cellOf HTY.out 4 (x := .int .i64 t.credit) rfl
    clear hS hB s1 s2
    go_wp2_with fail
    refine CC.out.mono ?_
    rintro _ Z ⟨A3, c3, rfl, HL, HB5⟩
    have HRY := Lib.hid (HK.out Z (HB4.out.trans (HB5.out.mono HB4.out.size))).2
    have HLW : Hid (OLines w.heap.size Z (.slice A3 2 c3) (carrL t l a b c)) := by
      unfold carrL
      rw [if_pos HCE.out, ← HSL.out, HM.out]
      exact ownsRow_base HL.out HBX.out.size
    have HBZ : Hid (Below w.heap.size w Z) := HBX.out.trans (HB5.out.mono HBX.out.size)
    obtain ⟨G, hG⟩ : ∃ G, carS t S (m : Int) = G := ⟨_, rfl⟩
    rw [hG]
    have HGG : Hid (carrS t l a b c = G) := by show _ = _; unfold carrS; rw [if_pos HCE.out, ← HSL.out, HM.out, hG]
    clear CC HL HB5 hG z0 z1 z2 z3 z4 HTY
    have r0 := cellOf HRY.out 0 (x := .slice none 0 0) rfl
    have r1 := cellOf HRY.out 1 (x := .int .i64 0) rfl
    have f0 := HRY.out.frozen 0
    have f1 := HRY.out.frozen 1
    have hK : KeptBut (fun g => g = p + 1) Z ((Z.setCell ⟨p + 1, 0, none⟩ (.slice A3 2 c3)).setCell ⟨p + 1, 1, none⟩ (.int .i64 G)) := (KeptBut.setCell (S := fun g => g = p + 1) rfl _).trans (KeptBut.setCell (S := fun g => g = p + 1) rfl _) fun _ _ h => h
    have HFIN : Hid (CarRt t l a b c w (.returned (.tuple #[.agg #[(.slice A3 2 c3), (.int .i64 G)], .int .i64 0])) ((Z.setCell ⟨p + 1, 0, none⟩ (.slice A3 2 c3)).setCell ⟨p + 1, 1, none⟩ (.int .i64 G))) := ⟨_, by rw [HCE.out, HGG.out], ownsRow_keptBut HLW.out hK fun g cs _ hB e => by subst e; exact Blk.ne hB HRY.out (by decide) rfl, (HBZ.out.trans (hK.below (fun g hg => by rw [hg, ← HP.out]; omega) HBZ.out.size))⟩
    have R := (HRY.out.put 0 (.slice A3 2 c3)).put 1 (.int .i64 G)
    have e0 := cellOf R 0 (x := (.slice A3 2 c3)) rfl
    have e1 := cellOf R 1 (x := (.int .i64 G)) rfl
    clear hK R HRY
    go_wp2_with fail
    exact bodyPost_ret (v := .tuple #[.agg #[(.slice A3 2 c3), (.int .i64 G)], .int .i64 0]) (by simp [results, Try.results35, go_sem, e0, e1]) rfl HFIN.out
end Go.Proofs.Ytlmpbmlbllndcaa
