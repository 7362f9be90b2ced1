/-
  The reference's Settle.
-/
import Derived.Test.YtlmpbmlbllndcaaMbq
import Derived.Test.YtlmpbmlbllndcaaMar
namespace Go.Proofs.Ytlmpbmlbllndcaa
open Go.RowKit
attribute [local go_sem] Oper.semAt_some

/-- A row of lines of the reference of one's own. -/
def ORLns (base : Nat) (w : World) (v : Value) (l : List LineD) : Prop := w.ownsRow base 190 3 v l.length (l.flatMap LineD.cells)
theorem row_of_blk' {W : World} {b base n size : Nat} {t : TypeId} {cs : Array Value} (h : Blk W b t cs) (hb : base ≤ b) (hs : cs.size = n * size) (hm : n ≤ maxLen) : W.ownsRow base t size (.slice (some ⟨b, 0, none⟩) n n) n cs.toList :=
  ⟨by simpa using hs, .inr ⟨b, n, cs, rfl, hb, h, Nat.le_refl _, hm, hs, List.take_of_length_le (by rw [Array.length_toList, hs]; exact Nat.le_refl _)⟩⟩
/-- What the reference's Settle answers. -/
def RSetRet (t : TarD) (l : List DayD) (m : List Int) (w : World) (e : Ending) (w' : World) : Prop := ∃ u, e = .returned (.tuple #[.agg #[u, .int .i64 (accS t l m)], .int .i64 (setE t l m)]) ∧ Hid (ORLns w.heap.size w' u (accL t l m)) ∧ Hid (Below w.heap.size w w')
theorem late_not {l : List DayD} {m : List Int} {k : Nat} {d : DayD} {y : Int} (h1 : l[k]? = some d) (h2 : m[k]? = some y) (h : ¬ (0 ≤ y ∧ y ≤ d.ret)) : lateB l m = false := by
  rw [Bool.eq_false_iff]
  intro hb
  have h3 := List.all_eq_true.1 hb (d, y) (List.mem_of_getElem? (List.getElem?_zip_eq_some.2 ⟨h1, h2⟩))
  exact h (inB_iff.1 h3)
theorem rlns_nil (B : Nat) (w : World) : RLns B w (.slice none 0 0) [] := ⟨none, 0, rfl, rfl, by simp [maxLen], fun h => absurd h (by simp)⟩
set_option maxRecDepth 1000000 in
set_option maxHeartbeats 4000000 in
theorem refSettle_any (t : TarD) (l : List DayD) (m : List Int) (v vm : Value) (w : World) (h : RDays w.heap.size w v l) (hm : RInts w.heap.size w vm m) :
    Calls Try.prog 71 #[.agg #[.int .i64 t.price, .int .i64 t.back, .int .i64 t.late, .int .i64 t.carry, .int .i64 t.credit], v, vm] w (RSetRet t l m w) := by
  have HR := Lib.hid h
  obtain ⟨A, c, rfl, hlm, HD⟩ := days_later h
  obtain ⟨A2, c2, rfl, hmm, HI⟩ := ints_later hm
  obtain ⟨n, hn⟩ : ∃ n, l.length = n := ⟨_, rfl⟩
  obtain ⟨n2, hn2⟩ : ∃ n, m.length = n := ⟨_, rfl⟩
  have HN := Lib.hid hn
  have HN2 := Lib.hid hn2
  rw [hn] at HR hlm ⊢
  rw [hn2] at hmm ⊢
  have F0 : ∃ W0, (w.alloc (.cells #[.int .i64 t.price, .int .i64 t.back, .int .i64 t.late, .int .i64 t.carry, .int .i64 t.credit] 140)).alloc (.cells #[.slice none 0 0, .int .i64 0] 137) = W0 ∧ Hid (Below w.heap.size w W0) ∧ Hid (Blk W0 w.heap.size 140 #[.int .i64 t.price, .int .i64 t.back, .int .i64 t.late, .int .i64 t.carry, .int .i64 t.credit] ∧ Blk W0 (w.heap.size + 1) 137 #[.slice none 0 0, .int .i64 0]) :=
    ⟨_, rfl, sbelow_al (below_alloc _ _) _, (Blk.new _ _ _).alloc _, blk_new (by simp) _ _⟩
  obtain ⟨W0, e0, HB0, HK0⟩ := F0
  have E0 := Lib.hid e0
  have z0 := cellOf HK0.out.1 0 (x := .int .i64 t.price) rfl
  have z1 := cellOf HK0.out.1 1 (x := .int .i64 t.back) rfl
  have z2 := cellOf HK0.out.1 2 (x := .int .i64 t.late) rfl
  have z3 := cellOf HK0.out.1 3 (x := .int .i64 t.carry) rfl
  have z4 := cellOf HK0.out.1 4 (x := .int .i64 t.credit) rfl
  have C1 := Lib.hid (priced_any t W0)
  have C2 := Lib.hid (fun Y (hY : Below w.heap.size w Y) => refCheck_any l (.slice A n c) Y ((Rd.below HR.out hY).more hY.size))
  obtain ⟨tb, htb⟩ : ∃ b, t.okB = b := ⟨_, rfl⟩
  obtain ⟨ch, hch⟩ : ∃ b, checkH l = b := ⟨_, rfl⟩
  rw [htb] at C1
  rw [hch] at C2
  have HTB := Lib.hid htb
  have HCH := Lib.hid hch
  have HSE : Hid (setE t l m = if tb then (if ch = 0 then (if n2 = n then (if lateB l m then 0 else 120) else 120) else ch) else 1) := by show _ = _; unfold setE; rw [htb, hch, hn, hn2]
  obtain ⟨p, hp⟩ : ∃ p, w.heap.size = p := ⟨_, rfl⟩
  have HP := Lib.hid hp
  have HK : Hid (∀ Y, Below W0.heap.size W0 Y → (Y.cell? ⟨p, 0, none⟩ = some (.int .i64 t.price) ∧ Y.cell? ⟨p, 1, none⟩ = some (.int .i64 t.back) ∧ Y.cell? ⟨p, 2, none⟩ = some (.int .i64 t.late)) ∧ Blk Y (p + 1) 137 #[.slice none 0 0, .int .i64 0]) := fun Y hY => by
    rw [← HP.out]
    have h1 := HK0.out.1.below hY HK0.out.1.lt
    exact ⟨⟨cellOf h1 0 rfl, cellOf h1 1 rfl, cellOf h1 2 rfl⟩, HK0.out.2.below hY HK0.out.2.lt⟩
  -- how it ends with an error
  have HERR : Hid (∀ Y (E : Int), Below W0.heap.size W0 Y → setE t l m = E → ¬ E = 0 → RSetRet t l m w (.returned (.tuple #[.agg #[.slice none 0 0, .int .i64 0], .int .i64 E])) ((Y.setCell ⟨p + 1, 0, none⟩ (.slice none 0 0)).setCell ⟨p + 1, 1, none⟩ (.int .i64 0))) := fun Y E hY hE hne => by
    have hnz : ¬ setE t l m = 0 := by rw [hE]; exact hne
    have hbw : Below w.heap.size w Y := HB0.out.trans (hY.mono HB0.out.size)
    refine ⟨_, by rw [hE]; unfold accS; rw [if_neg hnz], by unfold accL; rw [if_neg hnz]; exact World.ownsRow_nil _ _ _ _, ?_⟩
    exact (hbw.setCell (p := ⟨p + 1, 0, none⟩) (by rw [HP.out]; show p ≤ p + 1; omega) _).setCell (p := ⟨p + 1, 1, none⟩) (by rw [HP.out]; show p ≤ p + 1; omega) _
  rw [hp] at z0 z1 z2 z3 z4
  clear h hm hn hn2 e0 hp HK0 htb hch
  go_enter Try.func71, Try.ntmps71
  go_upto_region 1 with fail
  rw [E0.out]
  clear E0
  rw [HP.out]
  go_wp2_with fail
  refine C1.out.mono ?_
  rintro _ Y1 ⟨rfl, hb1⟩
  have HB1 := Lib.hid hb1
  clear C1 hb1 z0 z1 z2 z3 z4
  cases tb with
  | false =>
    have HX := Lib.hid (HERR.out Y1 1 HB1.out (by rw [HSE.out]; rfl) (by omega))
    have HRY := Lib.hid (HK.out Y1 HB1.out).2
    have r0 := cellOf HRY.out 0 (x := .slice none 0 0) rfl
    have r1 := cellOf HRY.out 1 (x := .int .i64 0) rfl
    have f0 := HRY.out.frozen 0
    have f1 := HRY.out.frozen 1
    have R := (HRY.out.put 0 (.slice none 0 0)).put 1 (.int .i64 0)
    have e0 := cellOf R 0 (x := .slice none 0 0) rfl
    have e1 := cellOf R 1 (x := .int .i64 0) rfl
    clear R HERR
    go_wp2_with fail
    exact bodyPost_ret (v := .tuple #[.agg #[.slice none 0 0, .int .i64 0], .int .i64 1]) (by simp [results, Try.results71, go_sem, e0, e1]) rfl HX.out
  | true =>
  have HSE2 : Hid (setE t l m = if ch = 0 then (if n2 = n then (if lateB l m then 0 else 120) else 120) else ch) := by show _ = _; rw [HSE.out]; rfl
  have C3 := Lib.hid (C2.out Y1 (HB0.out.trans (HB1.out.mono HB0.out.size)))
  clear C2 HSE
  go_wp2_with fail
  refine C3.out.mono ?_
  rintro _ Y2 ⟨rfl, hb2⟩
  have HB2 : Hid (Below W0.heap.size W0 Y2) := HB1.out.trans (hb2.mono HB1.out.size)
  clear C3 hb2 HB1
  by_cases hc0 : ch = 0
  case neg =>
    have hcb : (ch != 0) = true := by simpa using hc0
    have HX := Lib.hid (HERR.out Y2 ch HB2.out (by rw [HSE2.out, if_neg hc0]) hc0)
    have HRY := Lib.hid (HK.out Y2 HB2.out).2
    have r0 := cellOf HRY.out 0 (x := .slice none 0 0) rfl
    have r1 := cellOf HRY.out 1 (x := .int .i64 0) rfl
    have f0 := HRY.out.frozen 0
    have f1 := HRY.out.frozen 1
    have R := (HRY.out.put 0 (.slice none 0 0)).put 1 (.int .i64 0)
    have e0 := cellOf R 0 (x := .slice none 0 0) rfl
    have e1 := cellOf R 1 (x := .int .i64 0) rfl
    clear R HERR hc0
    go_wp2_with fail
    exact bodyPost_ret (v := .tuple #[.agg #[.slice none 0 0, .int .i64 0], .int .i64 ch]) (by simp [results, Try.results71, go_sem, e0, e1]) rfl HX.out
  subst hc0
  have hcb : ((0 : Int) != 0) = false := rfl
  have HSE3 : Hid (setE t l m = if n2 = n then (if lateB l m then 0 else 120) else 120) := by show _ = _; rw [HSE2.out, if_pos rfl]
  by_cases hnn : n2 = n
  case neg =>
    have hnb : ((n2 : Int) != (n : Int)) = true := by simp; omega
    have HX := Lib.hid (HERR.out Y2 120 HB2.out (by rw [HSE3.out, if_neg hnn]) (by omega))
    have HRY := Lib.hid (HK.out Y2 HB2.out).2
    have r0 := cellOf HRY.out 0 (x := .slice none 0 0) rfl
    have r1 := cellOf HRY.out 1 (x := .int .i64 0) rfl
    have f0 := HRY.out.frozen 0
    have f1 := HRY.out.frozen 1
    have R := (HRY.out.put 0 (.slice none 0 0)).put 1 (.int .i64 0)
    have e0 := cellOf R 0 (x := .slice none 0 0) rfl
    have e1 := cellOf R 1 (x := .int .i64 0) rfl
    clear R HERR hnn
    go_wp2_with fail
    exact bodyPost_ret (v := .tuple #[.agg #[.slice none 0 0, .int .i64 0], .int .i64 120]) (by simp [results, Try.results71, go_sem, e0, e1]) rfl HX.out
  subst hnn
  have hnb : ((n2 : Int) != (n2 : Int)) = false := by simp
  have HSE4 : Hid (setE t l m = if lateB l m then 0 else 120) := by show _ = _; rw [HSE3.out, if_pos rfl]
  have HCO := Lib.hid (checkH_ok HCH.out)
  have hn4 : n2 ≤ 400 := by have := HCO.out.1; rw [HN.out] at this; exact this
  clear HSE2 HSE3
  have HIN : Hid (∀ k (_ : k < n2), ∃ d y, l[k]? = some d ∧ m[k]? = some y) := fun k hk => ⟨_, _, List.getElem?_eq_getElem (by rw [HN.out]; exact hk), List.getElem?_eq_getElem (by rw [HN2.out]; exact hk)⟩
  go_wp2_with fail
  go_loopw [9, 10, 11, 12] (fun s1 s2 s3 i wr => ∃ (k : Nat) (a b e : Int), k ≤ n2 ∧ i = .int .i64 k ∧ s1 = .int .i64 a ∧ s2 = .int .i64 b ∧ s3 = .int .i64 e ∧ Hid (a = supK l k ∧ b = inK l m k ∧ e = latK m k) ∧ (0 ≤ a ∧ a ≤ 10000 * k) ∧ (0 ≤ b ∧ b ≤ 10000 * k) ∧ (0 ≤ e ∧ e ≤ 10000 * k) ∧ Hid (∀ j d y, j < k → l[j]? = some d → m[j]? = some y → 0 ≤ y ∧ y ≤ d.ret) ∧ Hid (Below W0.heap.size W0 wr)) (fun _ _ _ i _ => n2 - (intOf i).toNat)
  case atStart => exact ⟨0, 0, 0, 0, Nat.zero_le _, rfl, rfl, rfl, rfl, ⟨by simp [supK, supTo, sumI], by simp [inK, retTo, sumI], by simp [latK, sumI]⟩, by omega, by omega, by omega, fun j d y hj => by omega, HB2.out⟩
  case round =>
  clear HB2
  obtain ⟨k, a, b, e, hk, rfl, rfl, rfl, rfl, hab, ⟨a0, a1⟩, ⟨b0, b1⟩, ⟨e0', e1'⟩, hall, hB⟩ := hrel
  obtain ⟨X, rfl⟩ : ∃ X : World, X = wr := ⟨_, rfl⟩
  have HBX : Hid (Below w.heap.size w X) := HB0.out.trans (hB.out.mono HB0.out.size)
  by_cases hlt : k < n2
  case pos =>
    obtain ⟨d, y, hd, hy⟩ := HIN.out k hlt
    obtain ⟨g, o, rfl, HX⟩ := HD.out k d hd
    obtain ⟨g2, o2, rfl, HY⟩ := HI.out k y hy
    obtain ⟨-, c1⟩ := HX.out X HBX.out
    have c2' := HY.out X HBX.out
    have HDK := Lib.hid hd
    have HYK := Lib.hid hy
    obtain ⟨d1, d2, d3, d4⟩ := HCO.out.2 d (List.mem_of_getElem? hd)
    have k0 : (0 : Int) ≤ (k : Int) := by omega
    have k1 : (k : Int) < (n2 : Int) := by omega
    clear hd hy
    by_cases hy0 : y < 0
    · have HLF : Hid (lateB l m = false) := late_not HDK.out HYK.out (by omega)
      go_upto_region 12 with fail
      go_quiet (fail)
      have FZ : ∃ Z, X.drewN nq = Z ∧ Hid (Below X.heap.size X Z) := ⟨_, rfl, below_drewN (Below.refl _ _) nq⟩
      obtain ⟨Z, eZ, HZ⟩ := FZ
      rw [eZ]
      clear eZ
      have HBZ : Hid (Below W0.heap.size W0 Z) := hB.out.trans (HZ.out.mono hB.out.size)
      clear c1 c2' hB hy0
      have HX' := Lib.hid (HERR.out Z 120 HBZ.out (by rw [HSE4.out, HLF.out]; rfl) (by omega))
      have HRY := Lib.hid (HK.out Z HBZ.out).2
      have r0 := cellOf HRY.out 0 (x := .slice none 0 0) rfl
      have r1 := cellOf HRY.out 1 (x := .int .i64 0) rfl
      have f0 := HRY.out.frozen 0
      have f1 := HRY.out.frozen 1
      have R := (HRY.out.put 0 (.slice none 0 0)).put 1 (.int .i64 0)
      have e0 := cellOf R 0 (x := .slice none 0 0) rfl
      have e1 := cellOf R 1 (x := .int .i64 0) rfl
      clear R HERR
      go_wp2_with fail
      exact bodyPost_ret (v := .tuple #[.agg #[.slice none 0 0, .int .i64 0], .int .i64 120]) (by simp [results, Try.results71, go_sem, e0, e1]) rfl HX'.out
    by_cases hyr : d.ret < y
    · have HLF : Hid (lateB l m = false) := late_not HDK.out HYK.out (by omega)
      go_upto_region 12 with fail
      go_quiet (fail)
      have FZ : ∃ Z, X.drewN nq = Z ∧ Hid (Below X.heap.size X Z) := ⟨_, rfl, below_drewN (Below.refl _ _) nq⟩
      obtain ⟨Z, eZ, HZ⟩ := FZ
      rw [eZ]
      clear eZ
      have HBZ : Hid (Below W0.heap.size W0 Z) := hB.out.trans (HZ.out.mono hB.out.size)
      clear c1 c2' hB hy0 hyr
      have HX' := Lib.hid (HERR.out Z 120 HBZ.out (by rw [HSE4.out, HLF.out]; rfl) (by omega))
      have HRY := Lib.hid (HK.out Z HBZ.out).2
      have r0 := cellOf HRY.out 0 (x := .slice none 0 0) rfl
      have r1 := cellOf HRY.out 1 (x := .int .i64 0) rfl
      have f0 := HRY.out.frozen 0
      have f1 := HRY.out.frozen 1
      have R := (HRY.out.put 0 (.slice none 0 0)).put 1 (.int .i64 0)
      have e0 := cellOf R 0 (x := .slice none 0 0) rfl
      have e1 := cellOf R 1 (x := .int .i64 0) rfl
      clear R HERR
      go_wp2_with fail
      exact bodyPost_ret (v := .tuple #[.agg #[.slice none 0 0, .int .i64 0], .int .i64 120]) (by simp [results, Try.results71, go_sem, e0, e1]) rfl HX'.out
    have HNX : Hid (a + d.sup = supK l (k + 1) ∧ b + d.ret - y = inK l m (k + 1) ∧ e + y = latK m (k + 1)) := by
      obtain ⟨h1, h2, h3⟩ := sums_next HDK.out HYK.out
      obtain ⟨g1, g2, g3⟩ := hab.out
      exact ⟨by omega, by omega, by omega⟩
    have HAL : Hid (∀ j d' y', j < k + 1 → l[j]? = some d' → m[j]? = some y' → 0 ≤ y' ∧ y' ≤ d'.ret) := fun j d' y' hj h1 h2 => by
      by_cases ej : j = k
      · rw [ej, HDK.out] at h1
        rw [ej, HYK.out] at h2
        cases h1
        cases h2
        omega
      · exact hall.out j d' y' (by omega) h1 h2
    have HBB := hB
    go_upto_region 12 with fail
    go_quiet (fail)
    have FZ : ∃ Z, X.drewN nq = Z ∧ Hid (Below X.heap.size X Z) := ⟨_, rfl, below_drewN (Below.refl _ _) nq⟩
    obtain ⟨Z1, eZ, HZ1⟩ := FZ
    rw [eZ]
    clear eZ
    have HBZ1 : Hid (Below W0.heap.size W0 Z1) := HBB.out.trans (HZ1.out.mono HBB.out.size)
    have HBw1 : Hid (Below w.heap.size w Z1) := HB0.out.trans (HBZ1.out.mono HB0.out.size)
    clear c1 c2'
    obtain ⟨c0, c1⟩ := HX.out Z1 HBw1.out
    have c2' := HY.out Z1 HBw1.out
    have u1 : -100000000 ≤ a + d.sup := by omega
    have u2 : a + d.sup ≤ 100000000 := by omega
    have u3 : -100000000 ≤ b + d.ret := by omega
    have u4 : b + d.ret ≤ 100000000 := by omega
    have u5 : -100000000 ≤ b + d.ret - y := by omega
    have u6 : b + d.ret - y ≤ 100000000 := by omega
    have u7 : -100000000 ≤ e + y := by omega
    have u8 : e + y ≤ 100000000 := by omega
    go_upto_region 15 with fail
    go_quiet (fail)
    have FZ : ∃ Z, Z1.drewN nq = Z ∧ Hid (Below Z1.heap.size Z1 Z) := ⟨_, rfl, below_drewN (Below.refl _ _) nq⟩
    obtain ⟨Z2, eZ, HZ2⟩ := FZ
    rw [eZ]
    clear eZ
    have HBZ2 : Hid (Below W0.heap.size W0 Z2) := HBZ1.out.trans (HZ2.out.mono HBZ1.out.size)
    clear c0 c1 c2'
    have c2' := HY.out Z2 (HB0.out.trans (HBZ2.out.mono HB0.out.size))
    go_wp2_with fail
    go_roundw
    case rel => exact ⟨k + 1, a + d.sup, b + d.ret - y, e + y, by omega, by go_num, rfl, rfl, rfl, HNX, by omega, by omega, by omega, HAL, HBZ2⟩
    case measure => simp [intOf]; omega
  obtain rfl : k = n2 := by omega
  have HLT : Hid (lateB l m = true) := List.all_eq_true.2 fun x hx => by
    obtain ⟨i, hi⟩ := List.mem_iff_getElem?.1 hx
    obtain ⟨h1, h2⟩ := List.getElem?_zip_eq_some.1 hi
    exact inB_iff.2 (hall.out i x.1 x.2 (by have := (List.getElem?_eq_some_iff.1 h1).1; rw [HN.out] at this; exact this) h1 h2)
  have HSE5 : Hid (setE t l m = 0) := by show _ = _; rw [HSE4.out, HLT.out]; rfl
  have HSUM : Hid (a = supTo l ∧ b = retTo l - sumI m ∧ e = sumI m) := by
    obtain ⟨g1, g2, g3⟩ := hab.out
    rw [g1, g2, g3]
    unfold supK inK latK
    rw [List.take_of_length_le (by rw [HN.out]; omega), List.take_of_length_le (by rw [HN2.out]; omega)]
    exact ⟨rfl, rfl, rfl⟩
  obtain ⟨⟨tp0, tp1⟩, ⟨tk0, tk1⟩, ⟨tl0, tl1⟩, -, -⟩ := TarD.okB_iff.1 HTB.out
  have m1 : 0 ≤ a * t.price ∧ a * t.price ≤ 4000000 * 10000 := ⟨Int.mul_nonneg a0 tp0, Int.mul_le_mul (by omega) tp1 tp0 (by omega)⟩
  have m2 : 0 ≤ b * t.back ∧ b * t.back ≤ 4000000 * 10000 := ⟨Int.mul_nonneg b0 tk0, Int.mul_le_mul (by omega) (by omega) tk0 (by omega)⟩
  have m3 : 0 ≤ e * t.late ∧ e * t.late ≤ 4000000 * 10000 := ⟨Int.mul_nonneg e0' tl0, Int.mul_le_mul (by omega) (by omega) tl0 (by omega)⟩
  obtain ⟨p1, hp1⟩ : ∃ z, a * t.price = z := ⟨_, rfl⟩
  obtain ⟨p2, hp2⟩ : ∃ z, -b * t.back = z := ⟨_, rfl⟩
  obtain ⟨p3, hp3⟩ : ∃ z, -e * t.late = z := ⟨_, rfl⟩
  have hp2' : p2 = -(b * t.back) := by rw [← hp2, Int.neg_mul]
  have hp3' : p3 = -(e * t.late) := by rw [← hp3, Int.neg_mul]
  rw [hp1] at m1
  obtain ⟨m1a, m1b⟩ := m1
  have m2a : -40000000000 ≤ p2 := by omega
  have m2b : p2 ≤ 0 := by omega
  have m3a : -40000000000 ≤ p3 := by omega
  have m3b : p3 ≤ 0 := by omega
  have HL3 : Hid (accL t l m = [⟨1, a, p1⟩, ⟨2, b, p2⟩, ⟨3, e, p3⟩]) := by
    show _ = _
    unfold accL
    rw [if_pos HSE5.out]
    unfold setL
    obtain ⟨g1, g2, g3⟩ := HSUM.out
    rw [← g2, ← g3, ← g1, hp1, Int.mul_neg, Int.mul_neg, hp2', hp3']
  have HS3 : Hid (accS t l m = p1 + p2 + p3) := by
    show _ = _
    unfold accS
    rw [if_pos HSE5.out]
    unfold setS
    obtain ⟨g1, g2, g3⟩ := HSUM.out
    rw [← g2, ← g3, ← g1, hp1, Int.mul_neg, Int.mul_neg, hp2', hp3']
  have F8 : ∃ X1, X.alloc (.cells #[.int .i64 1, .int .i64 a, .int .i64 p1, .int .i64 2, .int .i64 b, .int .i64 p2, .int .i64 3, .int .i64 e, .int .i64 p3] 190) = X1 ∧ Hid (Below X.heap.size X X1) ∧ Hid (Blk X1 X.heap.size 190 #[.int .i64 1, .int .i64 a, .int .i64 p1, .int .i64 2, .int .i64 b, .int .i64 p2, .int .i64 3, .int .i64 e, .int .i64 p3]) := ⟨_, rfl, below_alloc _ _, Blk.new _ _ _⟩
  obtain ⟨X1, e8, HX1, HK8⟩ := F8
  have E8 := Lib.hid e8
  have HB8 : Hid (Below W0.heap.size W0 X1) := hB.out.trans (HX1.out.mono hB.out.size)
  obtain ⟨q, hq⟩ : ∃ q, X.heap.size = q := ⟨_, rfl⟩
  rw [hq] at HK8
  have HQ := Lib.hid hq
  obtain ⟨LL, hLL⟩ : ∃ LL : List LineD, LL = [⟨1, a, p1⟩, ⟨2, b, p2⟩, ⟨3, e, p3⟩] := ⟨_, rfl⟩
  have hLn : LL.length = 3 := by rw [hLL]; rfl
  have hRL : RLns X1.heap.size X1 (.slice (some ⟨q, 0, none⟩) 3 3) LL := by
    rw [hLL]
    exact ⟨_, _, rfl, rfl, by simp [maxLen], fun _ => ⟨q, 0, rfl, HK8.out.lt, fun j u hj => by rw [Nat.zero_add, HK8.out.cell]; simpa [LineD.cells] using hj⟩⟩
  have hAM : amK LL 0 = 0 ∧ amK LL 1 = p1 ∧ amK LL 2 = p1 + p2 ∧ amK LL 3 = p1 + p2 + p3 := by
    rw [hLL]
    simp only [amK, sumI, List.take, List.map, List.foldr]
    exact ⟨by first | trivial | rfl, by omega, by omega, by omega⟩
  have CSU := Lib.hid (refSum_any LL (fun j hj => by
    rw [hLn] at hj
    have : j = 0 ∨ j = 1 ∨ j = 2 ∨ j = 3 := by omega
    rcases this with e | e | e | e <;> subst e
    · rw [hAM.1]; omega
    · rw [hAM.2.1]; omega
    · rw [hAM.2.2.1]; omega
    · rw [hAM.2.2.2]; omega) _ X1 hRL)
  rw [hLn, hAM.2.2.2, ← HS3.out] at CSU
  have HQP' : Hid (p + 1 < q) := by
    have h1 := (HK.out X hB.out).2.lt
    rw [HQ.out] at h1
    exact h1
  have HRLL : Hid (∀ Y, Blk Y q 190 #[.int .i64 1, .int .i64 a, .int .i64 p1, .int .i64 2, .int .i64 b, .int .i64 p2, .int .i64 3, .int .i64 e, .int .i64 p3] → ORLns w.heap.size Y (.slice (some ⟨q, 0, none⟩) 3 3) (accL t l m)) := fun Y hY => by
    rw [HL3.out]
    exact row_of_blk' hY (by rw [HP.out]; have := HQP'.out; omega) rfl (by simp [maxLen])
  have HQP : Hid (p + 1 < q) := by
    have h1 := (HK.out X hB.out).2.lt
    rw [HQ.out] at h1
    exact h1
  obtain ⟨SS, hSS⟩ : ∃ z, accS t l m = z := ⟨_, rfl⟩
  rw [hSS] at CSU
  have HSSE := Lib.hid hSS
  obtain ⟨⟨w0, w1, w2⟩, -⟩ := HK.out X hB.out
  have nb0 : -100000000 ≤ -b := by omega
  have nb1 : -b ≤ 100000000 := by omega
  have ne0 : -100000000 ≤ -e := by omega
  have ne1 : -e ≤ 100000000 := by omega
  clear hp2' hp3' m2 m3 e8 hq hLL hLn hRL hAM hSS hB hall hab
  go_upto_region 17 with fail
  go_wp2_with (go_at_call 112; rw [E8.out, HQ.out]; refine CSU.out.mono ?_; rintro _ Y ⟨rfl, hb9⟩; have HBY := Lib.hid (HB8.out.trans (hb9.mono HB8.out.size)); have HRY := Lib.hid (HK.out Y HBY.out).2; have r0 := cellOf HRY.out 0 (x := .slice none 0 0) rfl; have r1 := cellOf HRY.out 1 (x := .int .i64 0) rfl; have f0 := HRY.out.frozen 0; have f1 := HRY.out.frozen 1)
  have R := (HRY.out.put 0 (.slice (some ⟨q, 0, none⟩) 3 3)).put 1 (.int .i64 SS)
  have e0 := cellOf R 0 (x := .slice (some ⟨q, 0, none⟩) 3 3) rfl
  have e1 := cellOf R 1 (x := .int .i64 SS) rfl
  have hKK : KeptBut (fun i => i = p + 1) Y ((Y.setCell ⟨p + 1, 0, none⟩ (.slice (some ⟨q, 0, none⟩) 3 3)).setCell ⟨p + 1, 1, none⟩ (.int .i64 SS)) := (KeptBut.setCell (S := fun i => i = p + 1) rfl _).trans (KeptBut.setCell (S := fun i => i = p + 1) rfl _) fun _ _ h => h
  have HFIN : Hid (RSetRet t l m w (.returned (.tuple #[.agg #[.slice (some ⟨q, 0, none⟩) 3 3, .int .i64 SS], .int .i64 0])) ((Y.setCell ⟨p + 1, 0, none⟩ (.slice (some ⟨q, 0, none⟩) 3 3)).setCell ⟨p + 1, 1, none⟩ (.int .i64 SS))) := by
    refine ⟨_, by rw [HSSE.out, HSE5.out], HRLL.out _ (hKK.blk (HK8.out.below hb9 HK8.out.lt) (by have := HQP.out; omega)), ?_⟩
    have h1 := HB0.out.trans (HBY.out.mono HB0.out.size)
    exact h1.trans (hKK.below (fun i hi => by rw [hi, HP.out]; omega) h1.size)
  clear hKK R
  exact bodyPost_ret (v := .tuple #[.agg #[.slice (some ⟨q, 0, none⟩) 3 3, .int .i64 SS], .int .i64 0]) (by simp [results, Try.results71, go_sem, e0, e1]) rfl HFIN.out
end Go.Proofs.Ytlmpbmlbllndcaa
