/-
  Settle.
  Methods: isRight, apart, last, mean, greatest.
-/
import Derived.Test.YtlmpbmlbllndcaaMaq
namespace Go.Proofs.Ytlmpbmlbllndcaa
open Go.RowKit
attribute [local go_sem] Oper.semAt_some

/-- The lines and the sum that Settle answers. -/
def accL (t : TarD) (l : List DayD) (m : List Int) : List LineD := if setE t l m = 0 then setL t l m else []
def accS (t : TarD) (l : List DayD) (m : List Int) : Int := if setE t l m = 0 then setS t l m else 0
/-- What Settle answers. -/
def SettleRet (t : TarD) (l : List DayD) (m : List Int) (w : World) (e : Ending) (w' : World) : Prop := ∃ u, e = .returned (.tuple #[.agg #[u, .int .i64 (accS t l m)], .int .i64 (setE t l m)]) ∧ Hid (OLines w.heap.size w' u (accL t l m)) ∧ Hid (Below w.heap.size w w')
set_option maxRecDepth 1000000 in
set_option maxHeartbeats 4000000 in
theorem Settle_any (t : TarD) (l : List DayD) (m : List Int) (v vm : Value) (w : World) (h : RDays w.heap.size w v l) (hm : RInts w.heap.size w vm m) :
    Calls Try.prog 37 #[.agg #[.int .i64 t.price, .int .i64 t.back, .int .i64 t.late, .int .i64 t.carry, .int .i64 t.credit], v, vm] w (SettleRet t l m w) := by
  have HR := Lib.hid h
  have HM := Lib.hid hm
  obtain ⟨A, c, rfl, -, -⟩ := days_later h
  obtain ⟨A2, c2, rfl, -, -⟩ := ints_later hm
  obtain ⟨n, hn⟩ : ∃ n, l.length = n := ⟨_, rfl⟩
  obtain ⟨n2, hn2⟩ : ∃ n, m.length = n := ⟨_, rfl⟩
  rw [hn] at HR ⊢
  rw [hn2] at HM ⊢
  have F0 : ∃ W0, (w.alloc (.cells #[.int .i64 t.price, .int .i64 t.back, .int .i64 t.late, .int .i64 t.carry, .int .i64 t.credit] 37)).alloc (.cells #[.slice none 0 0, .int .i64 0] 80) = W0 ∧ Hid (Below w.heap.size w W0) ∧ Hid (Blk W0 w.heap.size 37 #[.int .i64 t.price, .int .i64 t.back, .int .i64 t.late, .int .i64 t.carry, .int .i64 t.credit] ∧ Blk W0 (w.heap.size + 1) 80 #[.slice none 0 0, .int .i64 0]) :=
    ⟨_, rfl, sbelow_al (below_alloc _ _) _, (Blk.new _ _ _).alloc _, blk_new (by simp) _ _⟩
  obtain ⟨W0, e0, HB0, HK0⟩ := F0
  have E0 := Lib.hid e0
  have z0 := cellOf HK0.out.1 0 (x := .int .i64 t.price) rfl
  have z1 := cellOf HK0.out.1 1 (x := .int .i64 t.back) rfl
  have z2 := cellOf HK0.out.1 2 (x := .int .i64 t.late) rfl
  have z3 := cellOf HK0.out.1 3 (x := .int .i64 t.carry) rfl
  have z4 := cellOf HK0.out.1 4 (x := .int .i64 t.credit) rfl
  have C1 := Lib.hid (checkSet_any t l m _ _ W0 ((Rd.below HR.out HB0.out).more HB0.out.size) ((Rd.below HM.out HB0.out).more HB0.out.size))
  obtain ⟨ce, hce⟩ : ∃ x, setE t l m = x := ⟨_, rfl⟩
  rw [hce] at C1
  have HCE := Lib.hid hce
  obtain ⟨p, hp⟩ : ∃ p, w.heap.size = p := ⟨_, rfl⟩
  have HP := Lib.hid hp
  have HK : Hid (∀ Y, Below W0.heap.size W0 Y → Blk Y p 37 #[.int .i64 t.price, .int .i64 t.back, .int .i64 t.late, .int .i64 t.carry, .int .i64 t.credit] ∧ Blk Y (p + 1) 80 #[.slice none 0 0, .int .i64 0]) := fun Y hY => by
    rw [← HP.out]
    exact ⟨HK0.out.1.below hY HK0.out.1.lt, HK0.out.2.below hY HK0.out.2.lt⟩
  rw [hp] at z0 z1 z2 z3 z4
  clear h hm hn hn2 e0 hce hp HK0
  go_enter Try.func37, Try.ntmps37
  go_upto_region 1 with fail
  rw [E0.out]
  clear E0
  rw [HP.out]
  go_wp2_with fail
  refine C1.out.mono ?_
  rintro _ Y ⟨rfl, hb1⟩
  have HB1 := Lib.hid hb1
  have HBY : Hid (Below w.heap.size w Y) := HB0.out.trans (hb1.mono HB0.out.size)
  have HRY := Lib.hid (HK.out Y hb1).2
  have HTY := Lib.hid (HK.out Y hb1).1
  clear C1 hb1 z0 z1 z2 z3 z4
  by_cases hc : ce = 0
  case neg =>
    have hcb : (ce != 0) = true := by simpa using hc
    have HNC : Hid (¬ setE t l m = 0) := by rw [HCE.out]; exact hc
    clear hc
    have r0 := cellOf HRY.out 0 (x := .slice none 0 0) rfl
    have r1 := cellOf HRY.out 1 (x := .int .i64 0) rfl
    have f0 := HRY.out.frozen 0
    have f1 := HRY.out.frozen 1
    have hK : KeptBut (fun g => g = p + 1) Y ((Y.setCell ⟨p + 1, 0, none⟩ (.slice none 0 0)).setCell ⟨p + 1, 1, none⟩ (.int .i64 0)) := (KeptBut.setCell (S := fun g => g = p + 1) rfl _).trans (KeptBut.setCell (S := fun g => g = p + 1) rfl _) fun _ _ h => h
    have HFIN : Hid (SettleRet t l m w (.returned (.tuple #[.agg #[(.slice none 0 0), (.int .i64 0)], .int .i64 ce])) ((Y.setCell ⟨p + 1, 0, none⟩ (.slice none 0 0)).setCell ⟨p + 1, 1, none⟩ (.int .i64 0))) := ⟨_, by rw [HCE.out]; unfold accS; rw [if_neg HNC.out], by unfold accL; rw [if_neg HNC.out]; exact World.ownsRow_nil _ _ _ _, (HBY.out.trans (hK.below (fun g hg => by rw [hg, ← HP.out]; omega) HBY.out.size))⟩
    have R := (HRY.out.put 0 (.slice none 0 0)).put 1 (.int .i64 0)
    have e0 := cellOf R 0 (x := (.slice none 0 0)) rfl
    have e1 := cellOf R 1 (x := (.int .i64 0)) rfl
    clear hK R HRY
    go_wp2_with fail
    exact bodyPost_ret (v := .tuple #[.agg #[(.slice none 0 0), (.int .i64 0)], .int .i64 ce]) (by simp [results, Try.results37, go_sem, e0, e1]) rfl HFIN.out
  have hcb : (ce != 0) = false := by simpa using hc
  have HOK := Lib.hid (setE_ok (HCE.out.trans hc))
  have HC0 : Hid (setE t l m = 0) := HCE.out.trans hc
  have hco := checkH_ok HOK.out.2.1
  have C2 := Lib.hid (settle_any t HOK.out.1 l m hco.1 hco.2 HOK.out.2.2.1 HOK.out.2.2.2 _ _ Y ((Rd.below HR.out HBY.out).more HBY.out.size) ((Rd.below HM.out HBY.out).more HBY.out.size))
  have z0 := cellOf HTY.out 0 (x := .int .i64 t.price) rfl
  have z1 := cellOf HTY.out 1 (x := .int .i64 t.back) rfl
  have z2 := cellOf HTY.out 2 (x := .int .i64 t.late) rfl
  have z3 := cellOf HTY.out 3 (x := .int .i64 t.carry) rfl
  have z4 := cellOf HTY.out 4 (x := .int .i64 t.credit) rfl
  clear hc hco HRY
  go_wp2_with fail
  refine C2.out.mono ?_
  obtain ⟨Y0, rfl⟩ : ∃ X : World, X = Y := ⟨_, rfl⟩
  rintro _ Y ⟨A3, c3, rfl, HL, HB2⟩
  have HRY := Lib.hid (HK.out Y (HB1.out.trans (HB2.out.mono HB1.out.size))).2
  have HLW : Hid (OLines w.heap.size Y (.slice A3 3 c3) (setL t l m)) := ownsRow_base HL.out HBY.out.size
  have HBY : Hid (Below w.heap.size w Y) := HBY.out.trans (HB2.out.mono HBY.out.size)
  obtain ⟨S, hS⟩ : ∃ S, setS t l m = S := ⟨_, rfl⟩
  rw [hS]
  have HSS := Lib.hid hS
  clear C2 HL HB2 hS z0 z1 z2 z3 z4 HTY HB1
  have r0 := cellOf HRY.out 0 (x := .slice none 0 0) rfl
  have r1 := cellOf HRY.out 1 (x := .int .i64 0) rfl
  have f0 := HRY.out.frozen 0
  have f1 := HRY.out.frozen 1
  have hK : KeptBut (fun g => g = p + 1) Y ((Y.setCell ⟨p + 1, 0, none⟩ (.slice A3 3 c3)).setCell ⟨p + 1, 1, none⟩ (.int .i64 S)) := (KeptBut.setCell (S := fun g => g = p + 1) rfl _).trans (KeptBut.setCell (S := fun g => g = p + 1) rfl _) fun _ _ h => h
  have HFIN : Hid (SettleRet t l m w (.returned (.tuple #[.agg #[(.slice A3 3 c3), (.int .i64 S)], .int .i64 0])) ((Y.setCell ⟨p + 1, 0, none⟩ (.slice A3 3 c3)).setCell ⟨p + 1, 1, none⟩ (.int .i64 S))) := ⟨_, by rw [HC0.out]; unfold accS; rw [if_pos HC0.out, HSS.out], by unfold accL; rw [if_pos HC0.out]; exact ownsRow_keptBut HLW.out hK fun g cs _ hB e => by subst e; exact Blk.ne hB HRY.out (by decide) rfl, (HBY.out.trans (hK.below (fun g hg => by rw [hg, ← HP.out]; omega) HBY.out.size))⟩
  have R := (HRY.out.put 0 (.slice A3 3 c3)).put 1 (.int .i64 S)
  have e0 := cellOf R 0 (x := (.slice A3 3 c3)) rfl
  have e1 := cellOf R 1 (x := (.int .i64 S)) rfl
  clear hK R HRY
  go_wp2_with fail
  exact bodyPost_ret (v := .tuple #[.agg #[(.slice A3 3 c3), (.int .i64 S)], .int .i64 0]) (by simp [results, Try.results37, go_sem, e0, e1]) rfl HFIN.out
end Go.Proofs.Ytlmpbmlbllndcaa

namespace Go.Proofs.Ytlmpbmlbllndcaa
open Go.RowKit
attribute [local go_sem] Oper.semAt_some

set_option maxHeartbeats 1000000 in
theorem methRight_any (m : MethD) (w : World) : Calls Try.prog 80 #[.agg #[.int .i64 m.kind, .int .i64 m.days]] w fun e w' => e = .returned (.bool m.okB) ∧ Below w.heap.size w w' := by
  obtain ⟨k, d⟩ := m
  simp only
  obtain ⟨b1, h1⟩ : ∃ b, inB k 1 4 = b := ⟨_, rfl⟩
  obtain ⟨b2, h2⟩ : ∃ b, inB d 1 60 = b := ⟨_, rfl⟩
  have HE : Hid (MethD.okB ⟨k, d⟩ = if k = 1 then decide (d = 1) else (b1 && b2)) := by show _ = _; rw [← h1, ← h2]; rfl
  have C1 := Lib.hid (fun w => within_any k 1 4 w)
  have C2 := Lib.hid (fun w => within_any d 1 60 w)
  rw [h1] at C1
  rw [h2] at C2
  clear h1 h2
  have F := Try.func80
  by_cases hk : k = 1
  · have hkb : (k == 1) = true := by simpa using hk
    have HE1 : Hid (MethD.okB ⟨k, d⟩ = decide (d = 1)) := by show _ = _; rw [HE.out, if_pos hk]
    obtain ⟨db, hdb⟩ : ∃ b, decide (d = 1) = b := ⟨_, rfl⟩
    have hde : (d == 1) = db := by rw [← hdb]; rfl
    rw [hdb] at HE1
    clear hk hdb F HE
    go_enter Try.func80, Try.ntmps80
    go_wp2
    go_ret
    exact ⟨rb HE1.out, below_alloc _ _⟩
  · have hkb : (k == 1) = false := by simpa using hk
    have HE1 : Hid (MethD.okB ⟨k, d⟩ = (b1 && b2)) := by show _ = _; rw [HE.out, if_neg hk]
    clear hk F HE
    cases b1
    · go_enter Try.func80, Try.ntmps80
      go_wp2_with fail
      refine (C1.out _).mono ?_
      rintro _ _ ⟨rfl, rfl⟩
      go_wp2_with fail
      go_ret
      exact ⟨rb (HE1.out.trans (by rfl)), below_alloc _ _⟩
    · go_enter Try.func80, Try.ntmps80
      go_wp2_with fail
      refine (C1.out _).mono ?_
      rintro _ _ ⟨rfl, rfl⟩
      go_wp2_with fail
      refine (C2.out _).mono ?_
      rintro _ _ ⟨rfl, rfl⟩
      go_wp2_with fail
      go_ret
      exact ⟨rb (HE1.out.trans (by simp)), below_alloc _ _⟩
theorem apart_any (m : MethD) (w : World) : Calls Try.prog 121 #[.agg #[.int .i64 m.kind, .int .i64 m.days]] w fun e w' => e = .returned (.int .i64 m.apart) ∧ Below w.heap.size w w' := by
  obtain ⟨a, ha⟩ : ∃ a, m.apart = a := ⟨_, rfl⟩
  rw [ha]
  by_cases hk : m.kind = 3
  · have HX : Hid ((7 : Int) = a) := by show _ = _; rw [← ha]; unfold MethD.apart; rw [if_pos hk]
    have hkb : (m.kind == 3) = true := by simpa using hk
    clear ha hk
    go_enter Try.func121, Try.ntmps121
    go_wp2
    go_ret
    exact ⟨ri HX.out.symm, below_alloc _ _⟩
  · have HX : Hid ((1 : Int) = a) := by show _ = _; rw [← ha]; unfold MethD.apart; rw [if_neg hk]
    have hkb : (m.kind == 3) = false := by simpa using hk
    clear ha hk
    go_enter Try.func121, Try.ntmps121
    go_wp2
    go_ret
    exact ⟨ri HX.out.symm, below_alloc _ _⟩
theorem last_any (l : List Int) (x : Int) (hx : l[0]? = some x) (v : Value) (w : World) (h : RInts w.heap.size w v l) : Calls Try.prog 123 #[v] w fun e w' => e = .returned (.int .i64 x) ∧ w = w' := by
  obtain ⟨A, c, rfl, hlm, HI⟩ := ints_later h
  obtain ⟨g, o, rfl, HX⟩ := HI.out 0 x hx
  have c0 := HX.out w (Below.refl _ _)
  have hn : 0 < l.length := (List.getElem?_eq_some_iff.1 hx).1
  obtain ⟨n, hnn⟩ : ∃ n, l.length = n := ⟨_, rfl⟩
  rw [hnn] at hn hlm ⊢
  rw [Nat.add_zero] at c0
  have h1 : (0 : Int) < (n : Int) := by omega
  clear hnn hx h
  go_enter Try.func123, Try.ntmps123
  go_wp2
  go_ret
  exact ⟨rfl, rfl⟩
theorem sumI_next {l : List Int} {k : Nat} {x : Int} (h : l[k]? = some x) : sumI (l.take (k + 1)) = sumI (l.take k) + x := by
  rw [List.take_add_one, h, Option.toList_some, sumI_snoc]
theorem sumI_take_bd {l : List Int} (hb : ∀ x ∈ l, 0 ≤ x ∧ x ≤ 10000) (hl : l.length ≤ 60) (k : Nat) : 0 ≤ sumI (l.take k) ∧ sumI (l.take k) ≤ 600000 := by
  have h1 := sumI_bd (l := l.take k) (B := 10000) fun x hx => hb x (List.mem_of_mem_take hx)
  have h2 : (l.take k).length ≤ 60 := Nat.le_trans (List.length_take_le' _ _) hl
  omega
set_option maxHeartbeats 1000000 in
theorem mean_any (l : List Int) (h0 : 0 < l.length) (hl : l.length ≤ 60) (hb : ∀ x ∈ l, 0 ≤ x ∧ x ≤ 10000) (v : Value) (w : World) (h : RInts w.heap.size w v l) : Calls Try.prog 124 #[v] w fun e w' => e = .returned (.int .i64 (meanL l)) ∧ w = w' := by
  obtain ⟨A, c, rfl, hlm, HI⟩ := ints_later h
  have HSB : Hid (∀ k, 0 ≤ sumI (l.take k) ∧ sumI (l.take k) ≤ 600000) := fun k => sumI_take_bd hb hl k
  obtain ⟨n, hn⟩ : ∃ n, l.length = n := ⟨_, rfl⟩
  obtain ⟨r, hr⟩ : ∃ r, meanL l = r := ⟨_, rfl⟩
  have HR : Hid (r = (sumI l + n - 1) / n) := by show _ = _; rw [← hr, ← hn]; rfl
  rw [hn] at h0 hl hlm ⊢
  rw [hr]
  have HN := Lib.hid hn
  clear hn hr hb h
  go_enter Try.func124, Try.ntmps124
  go_wp2_with fail
  go_loop [3, 8] (fun s i => ∃ k : Nat, k ≤ n ∧ i = .int .i64 k ∧ ∃ t : Int, s = .int .i64 t ∧ Hid (t = sumI (l.take k))) (fun _ i => n - (intOf i).toNat)
  case atStart => exact ⟨0, Nat.zero_le _, rfl, 0, rfl, rfl⟩
  case round =>
  obtain ⟨k, hk, rfl, t, rfl, ht⟩ := hrel
  obtain ⟨t1, t2⟩ := HSB.out k
  rw [← ht.out] at t1 t2
  by_cases hlt : k < n
  · obtain ⟨x, hx⟩ : ∃ x, l[k]? = some x := ⟨_, List.getElem?_eq_getElem (by rw [HN.out]; exact hlt)⟩
    obtain ⟨g, o, rfl, HX⟩ := HI.out k x hx
    have c0 := HX.out w (Below.refl _ _)
    obtain ⟨u1, u2⟩ := HSB.out (k + 1)
    have hnx := sumI_next hx
    rw [← ht.out] at hnx
    rw [hnx] at u1 u2
    have HNX := Lib.hid hnx
    have k0 : (0 : Int) ≤ (k : Int) := by omega
    have k1 : (k : Int) < (n : Int) := by omega
    clear hx hnx HX
    go_wp2_with fail
    go_round
    case rel => exact ⟨k + 1, by omega, by go_num, _, rfl, HNX.out.symm⟩
    case measure => simp [intOf]; omega
  · have HX : Hid ((t + n - 1) / n = r) := by
      show _ = _
      rw [HR.out, ht.out, List.take_of_length_le (by rw [HN.out]; omega)]
    have n0 : (0 : Int) < (n : Int) := by omega
    have n1 : (n : Int) ≤ 60 := by omega
    have nb : ((n : Int) == 0) = false := by simp; omega
    clear ht
    go_wp2_with fail
    go_ret
    exact ⟨ri HX.out.symm, rfl⟩
theorem maxL_next {l : List Int} {k : Nat} {x : Int} (h : l[k]? = some x) : maxL (l.take (k + 1)) = max (maxL (l.take k)) x := by
  rw [List.take_add_one, h, Option.toList_some, maxL_snoc]
set_option maxHeartbeats 1000000 in
theorem max_any (l : List Int) (h0 : 0 < l.length) (hl : l.length ≤ 60) (hb : ∀ x ∈ l, 0 ≤ x ∧ x ≤ 10000) (v : Value) (w : World) (h : RInts w.heap.size w v l) : Calls Try.prog 145 #[v] w fun e w' => e = .returned (.int .i64 (maxL l)) ∧ w = w' := by
  obtain ⟨A, c, rfl, hlm, HI⟩ := ints_later h
  obtain ⟨n, hn⟩ : ∃ n, l.length = n := ⟨_, rfl⟩
  obtain ⟨r, hr⟩ : ∃ r, maxL l = r := ⟨_, rfl⟩
  have HR : Hid (maxL l = r) := hr
  have HB := Lib.hid hb
  rw [hn] at h0 hl hlm ⊢
  rw [hr]
  have HN := Lib.hid hn
  obtain ⟨x0, hx0⟩ : ∃ x, l[0]? = some x := ⟨_, List.getElem?_eq_getElem (by rw [HN.out]; exact h0)⟩
  obtain ⟨g, o, rfl, HX0⟩ := HI.out 0 x0 hx0
  have c0 := HX0.out w (Below.refl _ _)
  rw [Nat.add_zero] at c0
  have H1 : Hid (x0 = maxL (l.take 1)) := by
    show _ = _
    have := maxL_next hx0
    have hb0 := hb x0 (List.mem_of_getElem? hx0)
    rw [Nat.zero_add] at this
    rw [this]
    simp [maxL]
    omega
  have hn1 : (0 : Int) < (n : Int) := by omega
  have hn2 : decide ((n : Int) < 1) = false := by simp; omega
  clear hn hr hb h hx0 HX0
  go_enter Try.func145, Try.ntmps145
  go_wp2_with fail
  clear c0
  go_loop [3, 4] (fun s i => ∃ k : Nat, 1 ≤ k ∧ k ≤ n ∧ i = .int .i64 k ∧ ∃ t : Int, s = .int .i64 t ∧ Hid (t = maxL (l.take k))) (fun _ i => n - (intOf i).toNat)
  case atStart => exact ⟨1, by omega, by omega, rfl, _, rfl, H1.out⟩
  case round =>
  clear H1
  obtain ⟨k, hk1, hk, rfl, t, rfl, ht⟩ := hrel
  by_cases hlt : k < n
  · obtain ⟨x, hx⟩ : ∃ x, l[k]? = some x := ⟨_, List.getElem?_eq_getElem (by rw [HN.out]; exact hlt)⟩
    obtain ⟨g', o', e, HX⟩ := HI.out k x hx
    have HNX : Hid (maxL (l.take (k + 1)) = max t x) := by show _ = _; rw [maxL_next hx, ht.out]
    cases e
    have c0 := HX.out w (Below.refl _ _)
    have k0 : (0 : Int) ≤ (k : Int) := by omega
    have k1 : (k : Int) < (n : Int) := by omega
    clear hx HX
    by_cases htx : t < x
    · have HF : Hid (x = maxL (l.take (k + 1))) := by show _ = _; rw [HNX.out]; omega
      go_wp2_with fail
      go_round
      case rel => exact ⟨k + 1, by omega, by omega, by go_num, _, rfl, HF⟩
      case measure => simp [intOf]; omega
    · have HF : Hid (t = maxL (l.take (k + 1))) := by show _ = _; rw [HNX.out]; omega
      go_wp2_with fail
      go_round
      case rel => exact ⟨k + 1, by omega, by omega, by go_num, _, rfl, HF⟩
      case measure => simp [intOf]; omega
  · have HX : Hid (t = r) := by
      show _ = _
      rw [← HR.out, ht.out, List.take_of_length_le (by rw [HN.out]; omega)]
    clear ht
    go_wp2_with fail
    go_ret
    exact ⟨ri HX.out.symm, rfl⟩
theorem greatest_any (l : List Int) (h0 : 0 < l.length) (hl : l.length ≤ 60) (hb : ∀ x ∈ l, 0 ≤ x ∧ x ≤ 10000) (v : Value) (w : World) (h : RInts w.heap.size w v l) : Calls Try.prog 125 #[v] w fun e w' => e = .returned (.int .i64 (maxL l)) ∧ w = w' := by
  have C := Lib.hid (max_any l h0 hl hb v w h)
  obtain ⟨A, c, rfl, hlm, -⟩ := ints_later h
  obtain ⟨n, hn⟩ : ∃ n, l.length = n := ⟨_, rfl⟩
  obtain ⟨r, hr⟩ : ∃ r, maxL l = r := ⟨_, rfl⟩
  rw [hn, hr] at C ⊢
  clear hn hr h hb
  go_enter Try.func125, Try.ntmps125
  go_wp2_with fail
  refine C.out.mono ?_
  rintro _ _ ⟨rfl, rfl⟩
  go_wp2_with fail
  go_ret
  exact ⟨rfl, rfl⟩
end Go.Proofs.Ytlmpbmlbllndcaa
