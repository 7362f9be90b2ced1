/-
  Tariff.isRight, checkSettlement.
-/
import Derived.Test.YtlmpbmlbllndcaaMao
namespace Go.Proofs.Ytlmpbmlbllndcaa
open Go.RowKit
attribute [local go_sem] Oper.semAt_some

structure TarD where
  price : Int
  back : Int
  late : Int
  carry : Int
  credit : Int
/-- Whether a tariff is allowed. -/
def TarD.okB (t : TarD) : Bool := (((inB t.price 0 10000 && inB t.back 0 t.price) && inB t.late 0 t.price) && inB t.carry 0 10000) && inB t.credit 0 10000
theorem TarD.okB_iff {t : TarD} : t.okB = true ↔ (0 ≤ t.price ∧ t.price ≤ 10000) ∧ (0 ≤ t.back ∧ t.back ≤ t.price) ∧ (0 ≤ t.late ∧ t.late ≤ t.price) ∧ (0 ≤ t.carry ∧ t.carry ≤ 10000) ∧ (0 ≤ t.credit ∧ t.credit ≤ 10000) := by
  unfold TarD.okB
  simp only [Bool.and_eq_true, inB_iff, and_assoc]
def TarD.cells (t : TarD) : List Value := [.int .i64 t.price, .int .i64 t.back, .int .i64 t.late, .int .i64 t.carry, .int .i64 t.credit]

set_option maxRecDepth 100000 in
set_option maxHeartbeats 4000000 in
theorem tarRight_any (t : TarD) (w : World) : Calls Try.prog 91 #[.agg #[.int .i64 t.price, .int .i64 t.back, .int .i64 t.late, .int .i64 t.carry, .int .i64 t.credit]] w fun e w' => e = .returned (.bool t.okB) ∧ Below w.heap.size w w' := by
  obtain ⟨b1, hb1⟩ : ∃ b, inB t.price 0 10000 = b := ⟨_, rfl⟩
  obtain ⟨b2, hb2⟩ : ∃ b, inB t.back 0 t.price = b := ⟨_, rfl⟩
  obtain ⟨b3, hb3⟩ : ∃ b, inB t.late 0 t.price = b := ⟨_, rfl⟩
  obtain ⟨b4, hb4⟩ : ∃ b, inB t.carry 0 10000 = b := ⟨_, rfl⟩
  obtain ⟨b5, hb5⟩ : ∃ b, inB t.credit 0 10000 = b := ⟨_, rfl⟩
  have HE : Hid (t.okB = ((((b1 && b2) && b3) && b4) && b5)) := by show _ = _; rw [← hb1, ← hb2, ← hb3, ← hb4, ← hb5]; rfl
  have C1 := Lib.hid (fun w => within_any t.price 0 10000 w)
  rw [hb1] at C1
  have C2 := Lib.hid (fun w => within_any t.back 0 t.price w)
  rw [hb2] at C2
  have C3 := Lib.hid (fun w => within_any t.late 0 t.price w)
  rw [hb3] at C3
  have C4 := Lib.hid (fun w => within_any t.carry 0 10000 w)
  rw [hb4] at C4
  have C5 := Lib.hid (fun w => within_any t.credit 0 10000 w)
  rw [hb5] at C5
  have F0 : ∃ W0, w.alloc (.cells #[.int .i64 t.price, .int .i64 t.back, .int .i64 t.late, .int .i64 t.carry, .int .i64 t.credit] 37) = W0 ∧ Hid (Below w.heap.size w W0) ∧ Hid (Blk W0 w.heap.size 37 #[.int .i64 t.price, .int .i64 t.back, .int .i64 t.late, .int .i64 t.carry, .int .i64 t.credit]) := ⟨_, rfl, below_alloc _ _, Blk.new _ _ _⟩
  obtain ⟨W0, e0, HB0, HK0⟩ := F0
  have E0 := Lib.hid e0
  have z0 := cellOf HK0.out 0 (x := .int .i64 t.price) rfl
  have z1 := cellOf HK0.out 1 (x := .int .i64 t.back) rfl
  have z2 := cellOf HK0.out 2 (x := .int .i64 t.late) rfl
  have z3 := cellOf HK0.out 3 (x := .int .i64 t.carry) rfl
  have z4 := cellOf HK0.out 4 (x := .int .i64 t.credit) rfl
  clear e0 hb1 hb2 hb3 hb4 hb5
  cases b1
  · go_enter Try.func91, Try.ntmps91
    go_upto_region 1 with fail
    rw [E0.out]
    go_wp2_with fail
    refine (C1.out _).mono ?_
    rintro _ _ ⟨rfl, rfl⟩
    go_wp2_with fail
    go_ret
    exact ⟨rb (HE.out.trans (by rfl)), HB0.out⟩
  cases b2
  · go_enter Try.func91, Try.ntmps91
    go_upto_region 1 with fail
    rw [E0.out]
    go_wp2_with fail
    refine (C1.out _).mono ?_
    rintro _ _ ⟨rfl, rfl⟩
    go_wp2_with fail
    refine (C2.out _).mono ?_
    rintro _ _ ⟨rfl, rfl⟩
    go_wp2_with fail
    go_ret
    exact ⟨rb (HE.out.trans (by rfl)), HB0.out⟩
  cases b3
  · go_enter Try.func91, Try.ntmps91
    go_upto_region 1 with fail
    rw [E0.out]
    go_wp2_with fail
    refine (C1.out _).mono ?_
    rintro _ _ ⟨rfl, rfl⟩
    go_wp2_with fail
    refine (C2.out _).mono ?_
    rintro _ _ ⟨rfl, rfl⟩
    go_wp2_with fail
    refine (C3.out _).mono ?_
    rintro _ _ ⟨rfl, rfl⟩
    go_wp2_with fail
    go_ret
    exact ⟨rb (HE.out.trans (by rfl)), HB0.out⟩
  cases b4
  · go_enter Try.func91, Try.ntmps91
    go_upto_region 1 with fail
    rw [E0.out]
    go_wp2_with fail
    refine (C1.out _).mono ?_
    rintro _ _ ⟨rfl, rfl⟩
    go_wp2_with fail
    refine (C2.out _).mono ?_
    rintro _ _ ⟨rfl, rfl⟩
    go_wp2_with fail
    refine (C3.out _).mono ?_
    rintro _ _ ⟨rfl, rfl⟩
    go_wp2_with fail
    refine (C4.out _).mono ?_
    rintro _ _ ⟨rfl, rfl⟩
    go_wp2_with fail
    go_ret
    exact ⟨rb (HE.out.trans (by rfl)), HB0.out⟩
  cases b5
  · go_enter Try.func91, Try.ntmps91
    go_upto_region 1 with fail
    rw [E0.out]
    go_wp2_with fail
    refine (C1.out _).mono ?_
    rintro _ _ ⟨rfl, rfl⟩
    go_wp2_with fail
    refine (C2.out _).mono ?_
    rintro _ _ ⟨rfl, rfl⟩
    go_wp2_with fail
    refine (C3.out _).mono ?_
    rintro _ _ ⟨rfl, rfl⟩
    go_wp2_with fail
    refine (C4.out _).mono ?_
    rintro _ _ ⟨rfl, rfl⟩
    go_wp2_with fail
    refine (C5.out _).mono ?_
    rintro _ _ ⟨rfl, rfl⟩
    go_wp2_with fail
    go_ret
    exact ⟨rb (HE.out.trans (by rfl)), HB0.out⟩
  go_enter Try.func91, Try.ntmps91
  go_upto_region 1 with fail
  rw [E0.out]
  go_wp2_with fail
  refine (C1.out _).mono ?_
  rintro _ _ ⟨rfl, rfl⟩
  go_wp2_with fail
  refine (C2.out _).mono ?_
  rintro _ _ ⟨rfl, rfl⟩
  go_wp2_with fail
  refine (C3.out _).mono ?_
  rintro _ _ ⟨rfl, rfl⟩
  go_wp2_with fail
  refine (C4.out _).mono ?_
  rintro _ _ ⟨rfl, rfl⟩
  go_wp2_with fail
  refine (C5.out _).mono ?_
  rintro _ _ ⟨rfl, rfl⟩
  go_wp2_with fail
  go_ret
  exact ⟨rb (HE.out.trans (by rfl)), HB0.out⟩
/-- Whether as many were late as may be, day by day. -/
def lateB (l : List DayD) (m : List Int) : Bool := (l.zip m).all fun x => inB x.2 0 x.1.ret
/-- What checkSettlement answers. -/
def setE (t : TarD) (l : List DayD) (m : List Int) : Int := if t.okB then (if checkH l = 0 then (if m.length = l.length then (if lateB l m then 0 else 120) else 120) else checkH l) else 1
theorem setE_ok {t : TarD} {l : List DayD} {m : List Int} (h : setE t l m = 0) : t.okB = true ∧ checkH l = 0 ∧ m.length = l.length ∧ lateB l m = true := by
  unfold setE at h
  by_cases h1 : t.okB = true
  · rw [if_pos h1] at h
    by_cases h2 : checkH l = 0
    · rw [if_pos h2] at h
      by_cases h3 : m.length = l.length
      · rw [if_pos h3] at h
        by_cases h4 : lateB l m = true
        · exact ⟨h1, h2, h3, h4⟩
        · rw [if_neg h4] at h; omega
      · rw [if_neg h3] at h; omega
    · rw [if_neg h2] at h; exact absurd h h2
  · rw [if_neg h1] at h; omega
theorem setE_of {t : TarD} {l : List DayD} {m : List Int} (h1 : t.okB = true) (h2 : checkH l = 0) (h3 : m.length = l.length) (h4 : lateB l m = true) : setE t l m = 0 := by
  unfold setE
  rw [if_pos h1, if_pos h2, if_pos h3, if_pos h4]
theorem ints_later {w : World} {v : Value} {l : List Int} (h : RInts w.heap.size w v l) : ∃ A c, v = .slice A l.length c ∧ l.length ≤ 9223372036854775807 ∧ Hid (∀ (k : Nat) (x : Int), l[k]? = some x → ∃ g o, A = some ⟨g, o, none⟩ ∧ Hid (∀ X, Below w.heap.size w X → X.cell? ⟨g, o + k, none⟩ = some (.int .i64 x))) := by
  obtain ⟨A, c, rfl, -, hm, hr⟩ := h
  refine ⟨A, c, rfl, by simpa [maxLen] using hm, fun k x hx => ?_⟩
  have hk : k < l.length := (List.getElem?_eq_some_iff.1 hx).1
  obtain ⟨g, o, hA, hb, hc⟩ := hr (by omega)
  exact ⟨g, o, hA, fun X hX => (hX.cell (p := ⟨g, o + k, none⟩) hb).trans (hc k _ (by rw [List.getElem?_map, hx]; rfl))⟩
theorem zip_get {l : List DayD} {m : List Int} {k : Nat} {x : DayD} {y : Int} (h1 : l[k]? = some x) (h2 : m[k]? = some y) : (l.zip m)[k]? = some (x, y) := by
  rw [List.getElem?_zip_eq_some]
  exact ⟨h1, h2⟩
set_option maxRecDepth 100000 in
set_option maxHeartbeats 4000000 in
theorem checkSet_any (t : TarD) (l : List DayD) (m : List Int) (v vm : Value) (w : World) (h : RDays w.heap.size w v l) (hm : RInts w.heap.size w vm m) :
    Calls Try.prog 94 #[.agg #[.int .i64 t.price, .int .i64 t.back, .int .i64 t.late, .int .i64 t.carry, .int .i64 t.credit], v, vm] w fun e w' => e = .returned (.int .i64 (setE t l m)) ∧ Below w.heap.size w w' := by
  have HR := Lib.hid h
  obtain ⟨A, c, rfl, hlm, HD⟩ := days_later h
  obtain ⟨A2, c2, rfl, hmm, HI⟩ := ints_later hm
  obtain ⟨n, hn⟩ : ∃ n, l.length = n := ⟨_, rfl⟩
  obtain ⟨n2, hn2⟩ : ∃ n, m.length = n := ⟨_, rfl⟩
  rw [hn] at hlm HR ⊢
  rw [hn2] at hmm ⊢
  obtain ⟨tb, htb⟩ : ∃ x, t.okB = x := ⟨_, rfl⟩
  obtain ⟨ce, hce⟩ : ∃ x, checkH l = x := ⟨_, rfl⟩
  obtain ⟨r, hr⟩ : ∃ x, setE t l m = x := ⟨_, rfl⟩
  have HRR : Hid (r = if tb then (if ce = 0 then (if n2 = n then (if lateB l m then 0 else 120) else 120) else ce) else 1) := by show _ = _; rw [← hr, ← htb, ← hce, ← hn, ← hn2]; rfl
  rw [hr]
  have HN := Lib.hid hn
  have HN2 := Lib.hid hn2
  have F0 : ∃ W0, w.alloc (.cells #[.int .i64 t.price, .int .i64 t.back, .int .i64 t.late, .int .i64 t.carry, .int .i64 t.credit] 37) = W0 ∧ Hid (Below w.heap.size w W0) ∧ Hid (Blk W0 w.heap.size 37 #[.int .i64 t.price, .int .i64 t.back, .int .i64 t.late, .int .i64 t.carry, .int .i64 t.credit]) := ⟨_, rfl, below_alloc _ _, Blk.new _ _ _⟩
  obtain ⟨W0, e0, HB0, HK0⟩ := F0
  have E0 := Lib.hid e0
  have z0 := cellOf HK0.out 0 (x := .int .i64 t.price) rfl
  have z1 := cellOf HK0.out 1 (x := .int .i64 t.back) rfl
  have z2 := cellOf HK0.out 2 (x := .int .i64 t.late) rfl
  have z3 := cellOf HK0.out 3 (x := .int .i64 t.carry) rfl
  have z4 := cellOf HK0.out 4 (x := .int .i64 t.credit) rfl
  have C1 := Lib.hid (tarRight_any t W0)
  rw [htb] at C1
  have HCE := Lib.hid hce
  clear h hm hn hn2 htb hce hr e0
  go_enter Try.func94, Try.ntmps94
  go_upto_region 1 with fail
  rw [E0.out]
  clear E0
  go_wp2_with fail
  refine C1.out.mono ?_
  rintro _ W1 ⟨rfl, hb1⟩
  have HB1 : Hid (Below w.heap.size w W1) := HB0.out.trans (hb1.mono HB0.out.size)
  clear C1 hb1 z0 z1 z2 z3 z4 HB0 HK0
  cases tb
  · have HX : Hid ((1 : Int) = r) := by show _ = _; rw [HRR.out]; rfl
    go_wp2_with fail
    go_ret
    exact ⟨ri HX.out.symm, HB1.out⟩
  have HR2 : Hid (r = (if ce = 0 then (if n2 = n then (if lateB l m then 0 else 120) else 120) else ce)) := by show _ = _; rw [HRR.out]; rfl
  have C2 := Lib.hid (Check_any l _ W1 ((Rd.below HR.out HB1.out).more HB1.out.size))
  rw [HCE.out] at C2
  clear HRR
  go_wp2_with fail
  refine C2.out.mono ?_
  rintro _ W2 ⟨rfl, hb2⟩
  have HB2 : Hid (Below w.heap.size w W2) := HB1.out.trans (hb2.mono HB1.out.size)
  clear C2 hb2 HB1
  by_cases hc : ce = 0
  case neg =>
    have hcb : (ce != 0) = true := by simpa using hc
    have HX : Hid (ce = r) := by show _ = _; rw [HR2.out, if_neg hc]
    clear hc
    go_wp2_with fail
    go_ret
    exact ⟨ri HX.out.symm, HB2.out⟩
  have hcb : (ce != 0) = false := by simpa using hc
  have HR3 : Hid (r = (if n2 = n then (if lateB l m then 0 else 120) else 120)) := by show _ = _; rw [HR2.out, if_pos hc]
  have hn4 : n ≤ 400 := by rw [← HN.out]; exact (checkH_ok (HCE.out.trans hc)).1
  clear hc HR2 HCE
  by_cases hnn : n2 = n
  case neg =>
    have hnb : ((n2 : Int) != (n : Int)) = true := by simp; omega
    have HX : Hid ((120 : Int) = r) := by show _ = _; rw [HR3.out, if_neg hnn]
    clear hnn
    go_wp2_with fail
    go_ret
    exact ⟨ri HX.out.symm, HB2.out⟩
  subst hnn
  have hnb : ((n2 : Int) != (n2 : Int)) = false := by simp
  have HR4 : Hid (r = (if lateB l m then 0 else 120)) := by show _ = _; rw [HR3.out, if_pos rfl]
  clear HR3
  go_wp2_with fail
  go_loopw [25] (fun i wr => ∃ k : Nat, k ≤ n2 ∧ i = .int .i64 k ∧ Hid (((l.zip m).take k).all (fun x => inB x.2 0 x.1.ret) = true) ∧ Hid (Below w.heap.size w wr)) (fun i _ => n2 - (intOf i).toNat)
  case atStart => exact ⟨0, Nat.zero_le _, rfl, by show _ = _; simp, HB2.out⟩
  case round =>
  clear HB2
  obtain ⟨k, hk, rfl, hall, hB⟩ := hrel
  obtain ⟨X, rfl⟩ : ∃ X : World, X = wr := ⟨_, rfl⟩
  by_cases hlt : k < n2
  · obtain ⟨x, hx⟩ : ∃ x, l[k]? = some x := ⟨_, List.getElem?_eq_getElem (by rw [HN.out]; exact hlt)⟩
    obtain ⟨y, hy⟩ : ∃ y, m[k]? = some y := ⟨_, List.getElem?_eq_getElem (by rw [HN2.out]; exact hlt)⟩
    obtain ⟨g, o, rfl, HX⟩ := HD.out k x hx
    obtain ⟨g2, o2, rfl, HY⟩ := HI.out k y hy
    obtain ⟨c0, c1⟩ := HX.out X hB.out
    have F1 : ∃ X1, X.alloc (.cells #[.int .i64 x.sup, .int .i64 x.ret] 24) = X1 ∧ Hid (Below X.heap.size X X1) ∧ Hid (Blk X1 X.heap.size 24 #[.int .i64 x.sup, .int .i64 x.ret]) := ⟨_, rfl, below_alloc _ _, Blk.new _ _ _⟩
    obtain ⟨X1, e1, HX1, HK1⟩ := F1
    have E1 := Lib.hid e1
    have HB1 : Hid (Below w.heap.size w X1) := hB.out.trans (HX1.out.mono hB.out.size)
    have d1 := cellOf HK1.out 1 (x := .int .i64 x.ret) rfl
    have y0 := HY.out X1 HB1.out
    obtain ⟨ib, hib⟩ : ∃ b, inB y 0 x.ret = b := ⟨_, rfl⟩
    have CI : Hid (∀ w : World, Calls Try.prog 74 #[.int .i64 y, .int .i64 0, .int .i64 x.ret] w fun e w' => e = .returned (.bool ib) ∧ w' = w) := fun w => (within_any y 0 x.ret w).mono fun e w' h => ⟨by rw [h.1, hib], h.2.symm⟩
    have HZ := Lib.hid (zip_get hx hy)
    have HIB := Lib.hid hib
    have k0 : (0 : Int) ≤ (k : Int) := by omega
    have k1 : (k : Int) < (n2 : Int) := by omega
    clear hx hy e1 hB HX HY hib HX1 HK1
    go_upto_region 11 with fail
    rw [E1.out]
    clear E1 c0 c1
    go_cut [37] from 30 to 37 (fun q wx => q = .bool (!ib) ∧ Hid (Below w.heap.size w wx))
    case first =>
      have HDN : Hid (∀ nq, Below w.heap.size w (X1.drewN nq)) := fun nq => below_drewN HB1.out nq
      go_quiet ((go_at_call 74; exact Calls.quiet_of_same (CI.out _)))
      go_wp2_with fail
      go_meet
      exact ⟨rfl, HDN.out _⟩
    case rest =>
    clear d1 y0 CI HB1
    obtain ⟨rfl, HBY⟩ := hcut
    obtain ⟨Y, rfl⟩ : ∃ X : World, X = wc := ⟨_, rfl⟩
    cases ib
    · have HXE : Hid ((120 : Int) = r) := by show _ = _; rw [HR4.out, if_neg (by unfold lateB; rw [all_not HZ.out HIB.out]; simp)]
      go_wp2_with fail
      go_ret
      exact ⟨ri HXE.out.symm, HBY.out⟩
    · have hall' := all_next hall HZ.out HIB.out
      go_wp2_with fail
      go_roundw
      case rel => exact ⟨k + 1, by omega, by go_num, hall', HBY⟩
      case measure => simp [intOf]; omega
  · have HXE : Hid ((0 : Int) = r) := by
      show _ = _
      have h9 : lateB l m = true := (all_end hall (by rw [List.length_zip, HN.out, HN2.out]; omega)).out
      rw [HR4.out, if_pos h9]
    go_wp2_with fail
    go_ret
    exact ⟨ri HXE.out.symm, hB.out⟩
end Go.Proofs.Ytlmpbmlbllndcaa
