/-
  The reference's Total and Best.
-/
import Derived.Test.YtlmpbmlbllndcaaMbs
import Derived.Test.YtlmpbmlbllndcaaMbq
namespace Go.Proofs.Ytlmpbmlbllndcaa
open Go.RowKit
attribute [local go_sem] Oper.semAt_some

/-- The greatest supply. -/
def mostL (l : List DayD) : Int := l.foldl (fun m d => max m d.sup) 0
theorem most_next {l : List DayD} {k : Nat} {d : DayD} (h : l[k]? = some d) : mostL (l.take (k + 1)) = max (mostL (l.take k)) d.sup := by
  unfold mostL
  rw [List.take_add_one, h, Option.toList_some, List.foldl_append]
  rfl
theorem most_fold (l : List DayD) : ∀ m : Int, m ≤ l.foldl (fun m d => max m d.sup) m ∧ ∀ d ∈ l, d.sup ≤ l.foldl (fun m d => max m d.sup) m := by
  induction l with
  | nil => intro m; exact ⟨Int.le_refl _, fun d h => by simp at h⟩
  | cons x l ih =>
    intro m
    obtain ⟨h1, h2⟩ := ih (max m x.sup)
    refine ⟨by simp only [List.foldl_cons]; omega, fun d hd => ?_⟩
    simp only [List.foldl_cons]
    rcases List.mem_cons.1 hd with rfl | hd
    · omega
    · exact h2 d hd
theorem most_ge {l : List DayD} : 0 ≤ mostL l ∧ ∀ d ∈ l, d.sup ≤ mostL l := most_fold l 0
/-- The first of the supplies up to m whose total is the least. -/
def argTo (a b : Int) (l : List DayD) : Nat → Nat
  | 0 => 0
  | m + 1 => if totD a b l ((m + 1 : Nat) : Int) < totD a b l (argTo a b l m : Int) then m + 1 else argTo a b l m
theorem argTo_is (a b : Int) (l : List DayD) : ∀ m, argTo a b l m ≤ m ∧ ∀ q : Nat, q ≤ m → totD a b l (argTo a b l m : Int) < totD a b l q ∨ totD a b l (argTo a b l m : Int) = totD a b l q ∧ argTo a b l m ≤ q
  | 0 => ⟨Nat.le_refl _, fun q hq => by
      obtain rfl : q = 0 := by omega
      exact Or.inr ⟨rfl, Nat.le_refl _⟩⟩
  | m + 1 => by
    obtain ⟨h1, h2⟩ := argTo_is a b l m
    unfold argTo
    split
    · rename_i hlt
      refine ⟨Nat.le_refl _, fun q hq => ?_⟩
      by_cases e : q = m + 1
      · rw [e]; exact Or.inr ⟨rfl, Nat.le_refl _⟩
      · rcases h2 q (by omega) with h | ⟨h, -⟩
        · exact Or.inl (by omega)
        · exact Or.inl (by omega)
    · rename_i hge
      refine ⟨by omega, fun q hq => ?_⟩
      by_cases e : q = m + 1
      · rw [e]
        by_cases h : totD a b l (argTo a b l m : Int) < totD a b l ((m + 1 : Nat) : Int)
        · exact Or.inl h
        · exact Or.inr ⟨by omega, by omega⟩
      · exact h2 q (by omega)
theorem arg_best {a b : Int} {l : List DayD} (ha : 0 ≤ a) (hl : ∀ d ∈ l, d.ok) {m : Nat} (hm : mostL l = (m : Int)) : bestD a b l = ((argTo a b l m : Int), totD a b l (argTo a b l m : Int)) := by
  have hB := best_is a b l
  obtain ⟨h1, h2⟩ := argTo_is a b l m
  have h0 := cand_nonneg hl hB.cand
  have hle : (bestD a b l).1 ≤ m := by
    rcases hB.cand with h | ⟨d, hd, h⟩
    · omega
    · have h3 := most_ge.2 d hd
      have h4 := hl d hd
      unfold DayD.ok at h4
      unfold DayD.sold at h
      omega
  obtain ⟨c, hc⟩ : ∃ c : Nat, (bestD a b l).1 = (c : Int) := ⟨(bestD a b l).1.toNat, by omega⟩
  have h3 := h2 c (by omega)
  have h4 := hB.all ha (argTo a b l m)
  have h5 := hB.tot
  rw [hc] at h5 h4
  rw [h5] at h4
  have e1 : c = argTo a b l m := by
    rcases h3 with h | ⟨h, hh⟩
    · rcases h4 with g | ⟨g, gg⟩ <;> omega
    · rcases h4 with g | ⟨g, gg⟩
      · omega
      · omega
  refine Prod.ext ?_ ?_
  · show (bestD a b l).1 = _
    rw [hc, e1]
  · show (bestD a b l).2 = _
    rw [h5, e1]
set_option maxRecDepth 100000 in
set_option maxHeartbeats 4000000 in
theorem refTotal_any (a b : Int) (l : List DayD) (q : Int) (v : Value) (w : World) (h : RDays w.heap.size w v l) :
    Calls Try.prog 43 #[v, .int .i64 q, .int .i64 a, .int .i64 b] w fun e w' => e = .returned (.tuple #[.int .i64 (totalV a b l q), .int .i64 (totalE a b l q)]) ∧ Below w.heap.size w w' := by
  have HR := Lib.hid h
  have C1 := Lib.hid (refCheck_any l v w h)
  have C2 := Lib.hid (fun w => refIn_any q 0 10000 w)
  have C3 := Lib.hid (fun w => refCosts_any a b w)
  obtain ⟨ch, hch⟩ : ∃ x, checkH l = x := ⟨_, rfl⟩
  obtain ⟨qi, hqi⟩ : ∃ x, inB q 0 10000 = x := ⟨_, rfl⟩
  obtain ⟨cb, hcb⟩ : ∃ x, costB a b = x := ⟨_, rfl⟩
  have HCH := Lib.hid hch
  have HQI := Lib.hid hqi
  have HCB := Lib.hid hcb
  rw [hch] at C1
  rw [hqi] at C2
  rw [hcb] at C3
  have HE : Hid (totalE a b l q = if ch = 0 then (if qi then (if cb then 0 else 1) else 6) else ch) := by
    show _ = _
    unfold totalE
    rw [hch, hqi, hcb]
  have HVE : Hid (¬ totalE a b l q = 0 → totalV a b l q = 0) := fun h => by unfold totalV; rw [if_neg h]
  clear h hch hqi hcb
  go_enter Try.func43, Try.ntmps43
  go_wp2_with fail
  refine C1.out.mono ?_
  rintro _ Y1 ⟨rfl, hb1⟩
  have HB1 := Lib.hid hb1
  clear hb1 C1
  by_cases hc0 : ch = 0
  case neg =>
    have hcn : (ch != 0) = true := by simpa using hc0
    have HX : Hid (totalE a b l q = ch) := by show _ = _; rw [HE.out, if_neg hc0]
    have HV : Hid (totalV a b l q = 0) := HVE.out (by rw [HX.out]; exact hc0)
    clear hc0
    go_wp2_with fail
    go_ret2
    exact ⟨ret_two HV.out.symm HX.out.symm, HB1.out⟩
  subst hc0
  have hcn : ((0 : Int) != 0) = false := rfl
  go_wp2_with fail
  refine (C2.out _).mono ?_
  rintro _ _ ⟨rfl, rfl⟩
  cases qi with
  | false =>
    have HX : Hid (totalE a b l q = 6) := by show _ = _; rw [HE.out]; rfl
    have HV : Hid (totalV a b l q = 0) := HVE.out (by rw [HX.out]; omega)
    go_wp2_with fail
    go_ret2
    exact ⟨ret_two HV.out.symm HX.out.symm, HB1.out⟩
  | true =>
  go_wp2_with fail
  refine (C3.out _).mono ?_
  rintro _ _ ⟨rfl, rfl⟩
  cases cb with
  | false =>
    have HX : Hid (totalE a b l q = 1) := by show _ = _; rw [HE.out]; rfl
    have HV : Hid (totalV a b l q = 0) := HVE.out (by rw [HX.out]; omega)
    go_wp2_with fail
    go_ret2
    exact ⟨ret_two HV.out.symm HX.out.symm, HB1.out⟩
  | true =>
  have HX : Hid (totalE a b l q = 0) := by show _ = _; rw [HE.out]; rfl
  have HV : Hid (totalV a b l q = totD a b l q) := by
    show _ = _
    unfold totalV
    rw [if_pos HX.out]
  have hcc := costB_iff.1 HCB.out
  have hok := checkH_ok HCH.out
  have C4 := Lib.hid (refTotC_any a b q l hcc.1 hcc.2.1 (inB_iff.1 HQI.out) hok.1 hok.2 v Y1 ((Rd.below HR.out HB1.out).more HB1.out.size))
  clear hcc hok
  go_wp2_with fail
  refine C4.out.mono ?_
  rintro _ Y2 ⟨rfl, hb2⟩
  have HB2 : Hid (Below w.heap.size w Y2) := HB1.out.trans (hb2.mono HB1.out.size)
  clear hb2 C4
  go_wp2_with fail
  go_ret2
  exact ⟨ret_two HV.out.symm HX.out.symm, HB2.out⟩
set_option maxRecDepth 100000 in
set_option maxHeartbeats 4000000 in
theorem refBest_any (a b : Int) (l : List DayD) (v : Value) (w : World) (h : RDays w.heap.size w v l) :
    Calls Try.prog 44 #[v, .int .i64 a, .int .i64 b] w fun e w' => e = .returned (.tuple #[.int .i64 (bestV a b l).1, .int .i64 (bestV a b l).2, .int .i64 (bestE a b l)]) ∧ Below w.heap.size w w' := by
  have HR := Lib.hid h
  obtain ⟨A, c, rfl, hlm, HD⟩ := days_later h
  obtain ⟨n, hn⟩ : ∃ n, l.length = n := ⟨_, rfl⟩
  have HN := Lib.hid hn
  rw [hn] at HR hlm
  have C1 := Lib.hid (refCheck_any l (.slice A l.length c) w h)
  rw [hn] at C1 ⊢
  have C3 := Lib.hid (fun w => refCosts_any a b w)
  obtain ⟨ch, hch⟩ : ∃ x, checkH l = x := ⟨_, rfl⟩
  obtain ⟨cb, hcb⟩ : ∃ x, costB a b = x := ⟨_, rfl⟩
  have HCH := Lib.hid hch
  have HCB := Lib.hid hcb
  rw [hch] at C1
  rw [hcb] at C3
  have HE : Hid (bestE a b l = if ch = 0 then (if cb then (if n = 0 then 4 else 0) else 1) else ch) := by
    show _ = _
    unfold bestE
    rw [hch, hcb, hn]
  have HVE : Hid (¬ bestE a b l = 0 → (bestV a b l).1 = 0 ∧ (bestV a b l).2 = 0) := fun h => by unfold bestV; rw [if_neg h]; exact ⟨rfl, rfl⟩
  clear h hch hcb hn
  go_enter Try.func44, Try.ntmps44
  go_wp2_with fail
  refine C1.out.mono ?_
  rintro _ Y1 ⟨rfl, hb1⟩
  have HB1 := Lib.hid hb1
  clear hb1 C1
  by_cases hc0 : ch = 0
  case neg =>
    have hcn : (ch != 0) = true := by simpa using hc0
    have HX : Hid (bestE a b l = ch) := by show _ = _; rw [HE.out, if_neg hc0]
    have HV := Lib.hid (HVE.out (by rw [HX.out]; exact hc0))
    clear hc0
    go_wp2_with fail
    go_ret3
    exact ⟨ret_three HV.out.1.symm HV.out.2.symm HX.out.symm, HB1.out⟩
  subst hc0
  have hcn : ((0 : Int) != 0) = false := rfl
  go_wp2_with fail
  refine (C3.out _).mono ?_
  rintro _ _ ⟨rfl, rfl⟩
  cases cb with
  | false =>
    have HX : Hid (bestE a b l = 1) := by show _ = _; rw [HE.out]; rfl
    have HV := Lib.hid (HVE.out (by rw [HX.out]; omega))
    go_wp2_with fail
    go_ret3
    exact ⟨ret_three HV.out.1.symm HV.out.2.symm HX.out.symm, HB1.out⟩
  | true =>
  by_cases hn0 : n = 0
  · subst hn0
    have hnz : (((0 : Nat) : Int) == 0) = true := rfl
    have HX : Hid (bestE a b l = 4) := by show _ = _; rw [HE.out]; rfl
    have HV := Lib.hid (HVE.out (by rw [HX.out]; omega))
    go_wp2_with fail
    go_ret3
    exact ⟨ret_three HV.out.1.symm HV.out.2.symm HX.out.symm, HB1.out⟩
  have hnz : ((n : Int) == 0) = false := by simp; omega
  have HX : Hid (bestE a b l = 0) := by show _ = _; rw [HE.out, if_pos rfl, if_neg hn0]; rfl
  have HCO := Lib.hid (checkH_ok HCH.out)
  have hn4 : n ≤ 400 := by have := HCO.out.1; rw [HN.out] at this; exact this
  have HCC := Lib.hid (costB_iff.1 HCB.out)
  have HRY : Hid (∀ Y, Below w.heap.size w Y → RDays Y.heap.size Y (.slice A n c) l) := fun Y hY => (Rd.below HR.out hY).more hY.size
  have CT : Hid (∀ (q : Nat) Y, q ≤ 10000 → Below w.heap.size w Y → Calls Try.prog 101 #[.slice A n c, .int .i64 (q : Int), .int .i64 a, .int .i64 b] Y fun e w' => e = .returned (.int .i64 (totD a b l (q : Int))) ∧ Below Y.heap.size Y w') := fun q Y hq hY =>
    refTotC_any a b q l HCC.out.1 HCC.out.2.1 ⟨by omega, by omega⟩ HCO.out.1 HCO.out.2 _ Y (HRY.out Y hY)
  go_wp2_with fail
  go_loopw [10, 11] (fun s i wr => ∃ (k : Nat) (M : Int), k ≤ n ∧ i = .int .i64 k ∧ s = .int .i64 M ∧ Hid (M = mostL (l.take k)) ∧ 0 ≤ M ∧ M ≤ 10000 ∧ Hid (Below w.heap.size w wr)) (fun _ i _ => n - (intOf i).toNat)
  case atStart => exact ⟨0, 0, Nat.zero_le _, rfl, rfl, by show _ = _; simp [mostL], by omega, by omega, HB1.out⟩
  case round =>
  obtain ⟨k, M, hk, rfl, rfl, hM, M0, M1, hB⟩ := hrel
  obtain ⟨X, rfl⟩ : ∃ X : World, X = wr := ⟨_, rfl⟩
  by_cases hlt : k < n
  · obtain ⟨d, hd⟩ : ∃ x, l[k]? = some x := ⟨_, List.getElem?_eq_getElem (by rw [HN.out]; exact hlt)⟩
    obtain ⟨g, o, rfl, HXX⟩ := HD.out k d hd
    obtain ⟨c0, c1⟩ := HXX.out X hB.out
    obtain ⟨d1, d2, d3, d4⟩ := HCO.out.2 d (List.mem_of_getElem? hd)
    have HM2 : Hid (max M d.sup = mostL (l.take (k + 1))) := by show _ = _; rw [most_next hd, hM.out]
    obtain ⟨s, hs⟩ : ∃ s, d.sup = s := ⟨_, rfl⟩
    rw [hs] at c0 HM2 d1 d2
    have k0 : (0 : Int) ≤ (k : Int) := by omega
    have k1 : (k : Int) < (n : Int) := by omega
    clear hd hs d3 d4 c1
    go_wp2_with fail
    go_roundw
    case rel => exact ⟨k + 1, max M s, by omega, by go_num, rfl, HM2, by omega, by omega, hB⟩
    case measure => simp [intOf]; omega
  have HMM : Hid (mostL l = M) := by show _ = _; rw [hM.out, List.take_of_length_le (by rw [HN.out]; omega)]
  clear hM
  obtain ⟨m, hm⟩ : ∃ m : Nat, M = (m : Int) := ⟨M.toNat, by omega⟩
  subst hm
  have HAB := Lib.hid (arg_best (b := b) HCC.out.1.1 HCO.out.2 HMM.out)
  go_wp2_with fail
  go_loopw [12, 13] (fun s i wr => ∃ (k q : Nat), k ≤ m ∧ i = .int .i64 ((k : Int) + 1) ∧ s = .int .i64 (q : Int) ∧ Hid (q = argTo a b l k) ∧ q ≤ 10000 ∧ Hid (Below w.heap.size w wr)) (fun _ i _ => m + 1 - (intOf i).toNat)
  case atStart => exact ⟨0, 0, Nat.zero_le _, rfl, rfl, rfl, by omega, hB.out⟩
  case round =>
  clear hB
  obtain ⟨k2, q, hk2, rfl, rfl, hq, hqb, hB⟩ := hrel
  obtain ⟨X2, rfl⟩ : ∃ X : World, X = wr := ⟨_, rfl⟩
  by_cases hl2 : k2 < m
  · have hlq : (k2 : Int) + 1 ≤ (m : Int) := by omega
    have C5 := Lib.hid (CT.out (k2 + 1) X2 (by omega) hB.out)
    rw [show ((k2 + 1 : Nat) : Int) = (k2 : Int) + 1 by omega] at C5
    obtain ⟨t1, ht1⟩ : ∃ z, totD a b l ((k2 : Int) + 1) = z := ⟨_, rfl⟩
    obtain ⟨t2, ht2⟩ : ∃ z, totD a b l (q : Int) = z := ⟨_, rfl⟩
    have HNX : Hid (argTo a b l (k2 + 1) = if t1 < t2 then k2 + 1 else q) := by
      show _ = _
      rw [← ht1, ← ht2, hq.out]
      rfl
    rw [ht1] at C5
    have C6 : Hid (∀ Y, Below w.heap.size w Y → Calls Try.prog 101 #[.slice A n c, .int .i64 (q : Int), .int .i64 a, .int .i64 b] Y fun e w' => e = .returned (.int .i64 t2) ∧ Below Y.heap.size Y w') := fun Y hY => by rw [← ht2]; exact CT.out q Y hqb hY
    clear ht1 ht2
    go_wp2_with fail
    refine C5.out.mono ?_
    rintro _ Z1 ⟨rfl, hz1⟩
    have HZ1 : Hid (Below w.heap.size w Z1) := hB.out.trans (hz1.mono hB.out.size)
    clear hz1 C5
    go_wp2_with fail
    refine (C6.out Z1 HZ1.out).mono ?_
    rintro _ Z2 ⟨rfl, hz2⟩
    have HZ2 : Hid (Below w.heap.size w Z2) := HZ1.out.trans (hz2.mono HZ1.out.size)
    clear hz2 C6
    by_cases htt : t1 < t2
    · have HQ2 : Hid (k2 + 1 = argTo a b l (k2 + 1)) := by show _ = _; rw [HNX.out, if_pos htt]
      go_wp2_with fail
      go_roundw
      case rel => exact ⟨k2 + 1, k2 + 1, by omega, by go_num, by go_num, HQ2, by omega, HZ2⟩
      case measure => simp [intOf]; omega
    · have HQ2 : Hid (q = argTo a b l (k2 + 1)) := by show _ = _; rw [HNX.out, if_neg htt]
      go_wp2_with fail
      go_roundw
      case rel => exact ⟨k2 + 1, q, by omega, by go_num, rfl, HQ2, hqb, HZ2⟩
      case measure => simp [intOf]; omega
  obtain rfl : k2 = m := by omega
  have hlq : ¬ (k2 : Int) + 1 ≤ (k2 : Int) := by omega
  have HV : Hid ((bestV a b l).1 = (q : Int) ∧ (bestV a b l).2 = totD a b l (q : Int)) := by
    unfold bestV
    rw [if_pos HX.out, HAB.out, ← hq.out]
    exact ⟨rfl, rfl⟩
  have C7 := Lib.hid (CT.out q X2 hqb hB.out)
  go_wp2_with fail
  refine C7.out.mono ?_
  rintro _ Z3 ⟨rfl, hz3⟩
  have HZ3 : Hid (Below w.heap.size w Z3) := hB.out.trans (hz3.mono hB.out.size)
  clear hz3 C7
  go_wp2_with fail
  go_ret3
  exact ⟨ret_three HV.out.1.symm HV.out.2.symm HX.out.symm, HZ3.out⟩
end Go.Proofs.Ytlmpbmlbllndcaa
