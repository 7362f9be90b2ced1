/-
  Settle.
-/
import Derived.Test.YtlmpbmlbllndcaaMaq
namespace Go.Proofs.Ytlmpbmlbllndcaa
open Go.RowKit
attribute [local go_sem] Oper.semAt_some

/-- The lines and the sum that Settle answers. -/
def accL (t : TarD) (l : List DayD) (m : List Int) : List LineD := if setE t l m = 0 then setL t l m else []
def accS (t : TarD) (l : List DayD) (m : List Int) : Int := if setE t l m = 0 then setS t l m else 0
/-- What Settle answers. -/
def SettleRet (t : TarD) (l : List DayD) (m : List Int) (w : World) (e : Ending) (w' : World) : Prop := ∃ u, e = .returned (.tuple #[.agg #[u, .int .i64 (accS t l m)], .int .i64 (setE t l m)]) ∧ Hid (OLines w.heap.size w' u (accL t l m)) ∧ Hid (Below w.heap.size w w')
set_option maxRecDepth 1000000 in
set_option maxHeartbeats 4000000 in
theorem Settle_any (t : TarD) (l : List DayD) (m : List Int) (v vm : Value) (w : World) (h : RDays w.heap.size w v l) (hm : RInts w.heap.size w vm m) :
    Calls Try.prog 37 #[.agg #[.int .i64 t.price, .int .i64 t.back, .int .i64 t.late, .int .i64 t.carry, .int .i64 t.credit], v, vm] w (SettleRet t l m w) := by
  have HR := Lib.hid h
  have HM := Lib.hid hm
  obtain ⟨A, c, rfl, -, -⟩ := days_later h
  obtain ⟨A2, c2, rfl, -, -⟩ := ints_later hm
  obtain ⟨n, hn⟩ : ∃ n, l.length = n := ⟨_, rfl⟩
  obtain ⟨n2, hn2⟩ : ∃ n, m.length = n := ⟨_, rfl⟩
  rw [hn] at HR ⊢
  rw [hn2] at HM ⊢
  have F0 : ∃ W0, (w.alloc (.cells #[.int .i64 t.price, .int .i64 t.back, .int .i64 t.late, .int .i64 t.carry, .int .i64 t.credit] 37)).alloc (.cells #[.slice none 0 0, .int .i64 0] 80) = W0 ∧ Hid (Below w.heap.size w W0) ∧ Hid (Blk W0 w.heap.size 37 #[.int .i64 t.price, .int .i64 t.back, .int .i64 t.late, .int .i64 t.carry, .int .i64 t.credit] ∧ Blk W0 (w.heap.size + 1) 80 #[.slice none 0 0, .int .i64 0]) :=
    ⟨_, rfl, sbelow_al (below_alloc _ _) _, (Blk.new _ _ _).alloc _, blk_new (by simp) _ _⟩
  obtain ⟨W0, e0, HB0, HK0⟩ := F0
  have E0 := Lib.hid e0
  have z0 := cellOf HK0.out.1 0 (x := .int .i64 t.price) rfl
  have z1 := cellOf HK0.out.1 1 (x := .int .i64 t.back) rfl
  have z2 := cellOf HK0.out.1 2 (x := .int .i64 t.late) rfl
  have z3 := cellOf HK0.out.1 3 (x := .int .i64 t.carry) rfl
  have z4 := cellOf HK0.out.1 4 (x := .int .i64 t.credit) rfl
  have C1 := Lib.hid (checkSet_any t l m _ _ W0 ((Rd.below HR.out HB0.out).more HB0.out.size) ((Rd.below HM.out HB0.out).more HB0.out.size))
  obtain ⟨ce, hce⟩ : ∃ x, setE t l m = x := ⟨_, rfl⟩
  rw [hce] at C1
  have HCE := Lib.hid hce
  obtain ⟨p, hp⟩ : ∃ p, w.heap.size = p := ⟨_, rfl⟩
  have HP := Lib.hid hp
  have HK : Hid (∀ Y, Below W0.heap.size W0 Y → Blk Y p 37 #[.int .i64 t.price, .int .i64 t.back, .int .i64 t.late, .int .i64 t.carry, .int .i64 t.credit] ∧ Blk Y (p + 1) 80 #[.slice none 0 0, .int .i64 0]) := fun Y hY => by
    rw [← HP.out]
    exact ⟨HK0.out.1.below hY HK0.out.1.lt, HK0.out.2.below hY HK0.out.2.lt⟩
  rw [hp] at z0 z1 z2 z3 z4
  clear h hm hn hn2 e0 hce hp HK0
  go_enter Try.func37, Try.ntmps37
  go_upto_region 1 with fail
  rw [E0.out]
  clear E0
  rw [HP.out]
  go_wp2_with fail
  refine C1.out.mono ?_
  rintro _ Y ⟨rfl, hb1⟩
  have HB1 := Lib.hid hb1
  have HBY : Hid (Below w.heap.size w Y) := HB0.out.trans (hb1.mono HB0.out.size)
  have HRY := Lib.hid (HK.out Y hb1).2
  have HTY := Lib.hid (HK.out Y hb1).1
  clear C1 hb1 z0 z1 z2 z3 z4
  by_cases hc : ce = 0
  case neg =>
    have hcb : (ce != 0) = true := by simpa using hc
    have HNC : Hid (¬ setE t l m = 0) := by rw [HCE.out]; exact hc
    clear hc
    have r0 := cellOf HRY.out 0 (x := .slice none 0 0) rfl
    have r1 := cellOf HRY.out 1 (x := .int .i64 0) rfl
    have f0 := HRY.out.frozen 0
    have f1 := HRY.out.frozen 1
    have hK : KeptBut (fun g => g = p + 1) Y ((Y.setCell ⟨p + 1, 0, none⟩ (.slice none 0 0)).setCell ⟨p + 1, 1, none⟩ (.int .i64 0)) := (KeptBut.setCell (S := fun g => g = p + 1) rfl _).trans (KeptBut.setCell (S := fun g => g = p + 1) rfl _) fun _ _ h => h
    have HFIN : Hid (SettleRet t l m w (.returned (.tuple #[.agg #[(.slice none 0 0), (.int .i64 0)], .int .i64 ce])) ((Y.setCell ⟨p + 1, 0, none⟩ (.slice none 0 0)).setCell ⟨p + 1, 1, none⟩ (.int .i64 0))) := ⟨_, by rw [HCE.out]; unfold accS; rw [if_neg HNC.out], by unfold accL; rw [if_neg HNC.out]; exact World.ownsRow_nil _ _ _ _, (HBY.out.trans (hK.below (fun g hg => by rw [hg, ← HP.out]; omega) HBY.out.size))⟩
    have R := (HRY.out.put 0 (.slice none 0 0)).put 1 (.int .i64 0)
    have e0 := cellOf R 0 (x := (.slice none 0 0)) rfl
    have e1 := cellOf R 1 (x := (.int .i64 0)) rfl
    clear hK R HRY
    go_wp2_with fail
    exact bodyPost_ret (v := .tuple #[.agg #[(.slice none 0 0), (.int .i64 0)], .int .i64 ce]) (by simp [results, Try.results37, go_sem, e0, e1]) rfl HFIN.out
  have hcb : (ce != 0) = false := by simpa using hc
  have HOK := Lib.hid (setE_ok (HCE.out.trans hc))
  have HC0 : Hid (setE t l m = 0) := HCE.out.trans hc
  have hco := checkH_ok HOK.out.2.1
  have C2 := Lib.hid (settle_any t HOK.out.1 l m hco.1 hco.2 HOK.out.2.2.1 HOK.out.2.2.2 _ _ Y ((Rd.below HR.out HBY.out).more HBY.out.size) ((Rd.below HM.out HBY.out).more HBY.out.size))
  have z0 := cellOf HTY.out 0 (x := .int .i64 t.price) rfl
  have z1 := cellOf HTY.out 1 (x := .int .i64 t.back) rfl
  have z2 := cellOf HTY.out 2 (x := .int .i64 t.late) rfl
  have z3 := cellOf HTY.out 3 (x := .int .i64 t.carry) rfl
  have z4 := cellOf HTY.out 4 (x := .int .i64 t.credit) rfl
  clear hc hco HRY
  go_wp2_with fail
  refine C2.out.mono ?_
  obtain ⟨Y0, rfl⟩ : ∃ X : World, X = Y := ⟨_, rfl⟩
  rintro _ Y ⟨A3, c3, rfl, HL, HB2⟩
  have HRY := Lib.hid (HK.out Y (HB1.out.trans (HB2.out.mono HB1.out.size))).2
  have HLW : Hid (OLines w.heap.size Y (.slice A3 3 c3) (setL t l m)) := ownsRow_base HL.out HBY.out.size
  have HBY : Hid (Below w.heap.size w Y) := HBY.out.trans (HB2.out.mono HBY.out.size)
  obtain ⟨S, hS⟩ : ∃ S, setS t l m = S := ⟨_, rfl⟩
  rw [hS]
  have HSS := Lib.hid hS
  clear C2 HL HB2 hS z0 z1 z2 z3 z4 HTY HB1
  have r0 := cellOf HRY.out 0 (x := .slice none 0 0) rfl
  have r1 := cellOf HRY.out 1 (x := .int .i64 0) rfl
  have f0 := HRY.out.frozen 0
  have f1 := HRY.out.frozen 1
  have hK : KeptBut (fun g => g = p + 1) Y ((Y.setCell ⟨p + 1, 0, none⟩ (.slice A3 3 c3)).setCell ⟨p + 1, 1, none⟩ (.int .i64 S)) := (KeptBut.setCell (S := fun g => g = p + 1) rfl _).trans (KeptBut.setCell (S := fun g => g = p + 1) rfl _) fun _ _ h => h
  have HFIN : Hid (SettleRet t l m w (.returned (.tuple #[.agg #[(.slice A3 3 c3), (.int .i64 S)], .int .i64 0])) ((Y.setCell ⟨p + 1, 0, none⟩ (.slice A3 3 c3)).setCell ⟨p + 1, 1, none⟩ (.int .i64 S))) := ⟨_, by rw [HC0.out]; unfold accS; rw [if_pos HC0.out, HSS.out], by unfold accL; rw [if_pos HC0.out]; exact ownsRow_keptBut HLW.out hK fun g cs _ hB e => by subst e; exact Blk.ne hB HRY.out (by decide) rfl, (HBY.out.trans (hK.below (fun g hg => by rw [hg, ← HP.out]; omega) HBY.out.size))⟩
  have R := (HRY.out.put 0 (.slice A3 3 c3)).put 1 (.int .i64 S)
  have e0 := cellOf R 0 (x := (.slice A3 3 c3)) rfl
  have e1 := cellOf R 1 (x := (.int .i64 S)) rfl
  clear hK R HRY
  go_wp2_with fail
  exact bodyPost_ret (v := .tuple #[.agg #[(.slice A3 3 c3), (.int .i64 S)], .int .i64 0]) (by simp [results, Try.results37, go_sem, e0, e1]) rfl HFIN.out
end Go.Proofs.Ytlmpbmlbllndcaa
