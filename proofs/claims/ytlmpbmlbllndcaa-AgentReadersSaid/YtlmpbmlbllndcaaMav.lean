/-
  Orders: isRight, firstError, checkOrders.
-/
import Derived.WalkLawsBesides
import Derived.Test.YtlmpbmlbllndcaaMab
import Derived.Test.YtlmpbmlbllndcaaMau
namespace Go.Proofs.Ytlmpbmlbllndcaa
open Go.RowKit
attribute [local go_sem] Oper.semAt_some

theorem underInt : Try.prog.underlying 3 = some (.int .i64) := by kernel_rfl
theorem mapIntBool : Try.prog.underlying 224 = some (.map 3 4) := by kernel_rfl
theorem zeroBool : ∀ w : World, (zeroValue 4).run Try.prog w = .ok (.bool false) w := fun w => by kernel_rfl
def OrdD.cells (o : OrdD) : List Value := [.int .i64 o.ag, .int .i64 o.cop, .int .i64 o.least]
def ROrds (B : Nat) (w : World) (v : Value) (l : List OrdD) : Prop := Rd B w 3 v l.length (l.flatMap OrdD.cells)
theorem ords_later {w : World} {v : Value} {l : List OrdD} (h : ROrds w.heap.size w v l) : ∃ A c, v = .slice A l.length c ∧ l.length ≤ 9223372036854775807 ∧ Hid (∀ k x, l[k]? = some x → ∃ g o, A = some ⟨g, o, none⟩ ∧ g < w.heap.size ∧ Hid (∀ X, Below w.heap.size w X → X.cell? ⟨g, o + k * 3, none⟩ = some (.int .i64 x.ag) ∧ X.cell? ⟨g, o + k * 3 + 1, none⟩ = some (.int .i64 x.cop) ∧ X.cell? ⟨g, o + k * 3 + 2, none⟩ = some (.int .i64 x.least))) := by
  obtain ⟨A, c, rfl, -, hm, hr⟩ := h
  refine ⟨A, c, rfl, by simpa [maxLen] using hm, fun k x hx => ?_⟩
  have hk : k < l.length := (List.getElem?_eq_some_iff.1 hx).1
  obtain ⟨g, o, hA, hb, hc⟩ := hr (by omega)
  have hf := fun j hj => flat_at OrdD.cells 3 (fun _ => rfl) _ k j _ hx hj
  exact ⟨g, o, hA, hb, fun X hX => ⟨(hX.cell (p := ⟨g, o + k * 3, none⟩) hb).trans (hc _ _ (hf 0 (by omega))), (hX.cell (p := ⟨g, o + k * 3 + 1, none⟩) hb).trans (hc _ _ (hf 1 (by omega))), (hX.cell (p := ⟨g, o + k * 3 + 2, none⟩) hb).trans (hc _ _ (hf 2 (by omega)))⟩⟩
/-- Whether an order is allowed. -/
def OrdD.okB (o : OrdD) : Bool := (inB o.ag 0 1000000 && inB o.cop 0 10000) && inB o.least 0 o.cop
theorem OrdD.okB_iff {o : OrdD} : o.okB = true ↔ o.ok := by
  unfold OrdD.okB OrdD.ok
  rw [Bool.and_eq_true, Bool.and_eq_true, inB_iff, inB_iff, inB_iff, and_assoc]
set_option maxHeartbeats 2000000 in
theorem ordRight_any (o : OrdD) (w : World) : Calls Try.prog 127 #[.agg #[.int .i64 o.ag, .int .i64 o.cop, .int .i64 o.least]] w fun e w' => e = .returned (.bool o.okB) ∧ Below w.heap.size w w' := by
  obtain ⟨b1, h1⟩ : ∃ b, inB o.ag 0 1000000 = b := ⟨_, rfl⟩
  obtain ⟨b2, h2⟩ : ∃ b, inB o.cop 0 10000 = b := ⟨_, rfl⟩
  obtain ⟨b3, h3⟩ : ∃ b, inB o.least 0 o.cop = b := ⟨_, rfl⟩
  have HE : Hid (o.okB = ((b1 && b2) && b3)) := by show _ = _; rw [← h1, ← h2, ← h3]; rfl
  have C1 := Lib.hid (fun w => within_any o.ag 0 1000000 w)
  have C2 := Lib.hid (fun w => within_any o.cop 0 10000 w)
  have C3 := Lib.hid (fun w => within_any o.least 0 o.cop w)
  rw [h1] at C1
  rw [h2] at C2
  rw [h3] at C3
  clear h1 h2 h3
  cases b1
  · go_enter Try.func127, Try.ntmps127
    go_wp2_with fail
    refine (C1.out _).mono ?_
    rintro _ _ ⟨rfl, rfl⟩
    go_wp2_with fail
    go_ret
    exact ⟨rb (HE.out.trans (by rfl)), below_alloc _ _⟩
  cases b2
  · go_enter Try.func127, Try.ntmps127
    go_wp2_with fail
    refine (C1.out _).mono ?_
    rintro _ _ ⟨rfl, rfl⟩
    go_wp2_with fail
    refine (C2.out _).mono ?_
    rintro _ _ ⟨rfl, rfl⟩
    go_wp2_with fail
    go_ret
    exact ⟨rb (HE.out.trans (by rfl)), below_alloc _ _⟩
  cases b3
  all_goals
    go_enter Try.func127, Try.ntmps127
    go_wp2_with fail
    refine (C1.out _).mono ?_
    rintro _ _ ⟨rfl, rfl⟩
    go_wp2_with fail
    refine (C2.out _).mono ?_
    rintro _ _ ⟨rfl, rfl⟩
    go_wp2_with fail
    refine (C3.out _).mono ?_
    rintro _ _ ⟨rfl, rfl⟩
    go_wp2_with fail
    go_ret
    exact ⟨rb (HE.out.trans (by rfl)), below_alloc _ _⟩
theorem ordKey_any (o : OrdD) (w : World) : Calls Try.prog 128 #[.agg #[.int .i64 o.ag, .int .i64 o.cop, .int .i64 o.least]] w fun e w' => e = .returned (.int .i64 o.ag) ∧ Below w.heap.size w w' := by
  go_enter Try.func128, Try.ntmps128
  go_wp2
  go_ret
  exact ⟨rfl, below_alloc _ _⟩
/-- The first error of orders, behind some agents. -/
def foE : List Int → List OrdD → Int
  | _, [] => 0
  | met, o :: l => if o.okB then (if o.ag ∈ met then 10 else foE (addS met o.ag) l) else 120
theorem foE_ok : ∀ {l : List OrdD} {met : List Int}, foE met l = 0 → ∀ o ∈ l, o.ok
  | [], _, _, o, ho => by cases ho
  | x :: l, met, h, o, ho => by
    unfold foE at h
    by_cases h1 : x.okB = true
    · rw [if_pos h1] at h
      by_cases h2 : x.ag ∈ met
      · rw [if_pos h2] at h; omega
      · rw [if_neg h2] at h
        rcases List.mem_cons.1 ho with rfl | ho
        · exact OrdD.okB_iff.1 h1
        · exact foE_ok h o ho
    · rw [if_neg h1] at h; omega
set_option maxRecDepth 100000 in
set_option maxHeartbeats 4000000 in
theorem firstOrd_any (l : List OrdD) (v : Value) (w : World) (h : ROrds w.heap.size w v l) :
    Calls Try.prog 126 #[v, .func (.func 127) #[] #[], .int .i64 120, .func (.func 128) #[] #[]] w fun e w' => e = .returned (.int .i64 (foE [] l)) ∧ Below w.heap.size w w' := by
  obtain ⟨A, c, rfl, hlm, HD⟩ := ords_later h
  obtain ⟨n, hn⟩ : ∃ n, l.length = n := ⟨_, rfl⟩
  obtain ⟨r, hr⟩ : ∃ r, foE [] l = r := ⟨_, rfl⟩
  rw [hn] at hlm
  rw [hn, hr]
  have HN := Lib.hid hn
  have HR := Lib.hid hr
  have hmm := @run_makeMap Try.prog
  have F0 : ∃ W0, w.alloc (.map #[] 0) = W0 ∧ Hid (Below w.heap.size w W0) ∧ Hid (SetAt W0 w.heap.size []) := ⟨_, rfl, below_alloc _ _, SetAt.new _⟩
  obtain ⟨W0, e0, HB0, HS0⟩ := F0
  have E0 := Lib.hid e0
  obtain ⟨p, hp⟩ : ∃ p, w.heap.size = p := ⟨_, rfl⟩
  rw [hp] at HS0
  have HP := Lib.hid hp
  clear h hn hr e0 hp
  go_enter Try.func126, Try.ntmps126
  go_upto_region 2 with fail
  rw [E0.out]
  clear E0 hmm
  rw [HP.out]
  go_wp2_with fail
  go_loopw [15] (fun i wr => ∃ k : Nat, k ≤ n ∧ i = .int .i64 k ∧ ∃ met, Hid (foE met (l.drop k) = r) ∧ Hid (SetAt wr p met) ∧ Hid (Below w.heap.size w wr)) (fun i _ => n - (intOf i).toNat)
  case atStart => exact ⟨0, Nat.zero_le _, rfl, [], HR.out, HS0.out, HB0.out⟩
  case round =>
  clear HS0 HB0
  obtain ⟨k, hk, rfl, met, hf, hS, hB⟩ := hrel
  obtain ⟨X, rfl⟩ : ∃ X : World, X = wr := ⟨_, rfl⟩
  by_cases hlt : k < n
  · obtain ⟨x, hx⟩ : ∃ x, l[k]? = some x := ⟨_, List.getElem?_eq_getElem (by rw [HN.out]; exact hlt)⟩
    obtain ⟨g, o, rfl, -, HX⟩ := HD.out k x hx
    obtain ⟨c0, c1, c2'⟩ := HX.out X hB.out
    have F1 : ∃ X1, X.alloc (.cells #[.int .i64 x.ag, .int .i64 x.cop, .int .i64 x.least] 33) = X1 ∧ Hid (Below X.heap.size X X1) ∧ Hid (Blk X1 X.heap.size 33 #[.int .i64 x.ag, .int .i64 x.cop, .int .i64 x.least]) := ⟨_, rfl, below_alloc _ _, Blk.new _ _ _⟩
    obtain ⟨X1, e1, HX1, HK1⟩ := F1
    have E1 := Lib.hid e1
    have HB1 : Hid (Below w.heap.size w X1) := hB.out.trans (HX1.out.mono hB.out.size)
    have HS1 : Hid (SetAt X1 p met) := hS.out.below HX1.out hS.out.lt
    obtain ⟨q, hq⟩ : ∃ q, X.heap.size = q := ⟨_, rfl⟩
    rw [hq] at HK1
    have HQ := Lib.hid hq
    have HCC : Hid (∀ Y, Below X1.heap.size X1 Y → Y.cell? ⟨q, 0, none⟩ = some (.int .i64 x.ag) ∧ Y.cell? ⟨q, 1, none⟩ = some (.int .i64 x.cop) ∧ Y.cell? ⟨q, 2, none⟩ = some (.int .i64 x.least)) := fun Y hY => by
      have h1 := HK1.out.below hY HK1.out.lt
      exact ⟨cellOf h1 0 rfl, cellOf h1 1 rfl, cellOf h1 2 rfl⟩
    have HFE : Hid ((if x.okB then (if x.ag ∈ met then 10 else foE (addS met x.ag) (l.drop (k + 1))) else 120) = r) := by
      have h1 := hf.out
      rw [drop_cons hx] at h1
      exact h1
    have CR := Lib.hid (ordRight_any x X1)
    obtain ⟨ob, hob⟩ : ∃ b, x.okB = b := ⟨_, rfl⟩
    rw [hob] at CR
    have HOB := Lib.hid hob
    have k0 : (0 : Int) ≤ (k : Int) := by omega
    have k1 : (k : Int) < (n : Int) := by omega
    obtain ⟨d0, d1, d2⟩ := HCC.out X1 (Below.refl _ _)
    clear hx hob e1 hq HX hB hS hf HX1 HK1
    go_upto_region 5 with fail
    rw [E1.out, HQ.out]
    clear E1 c0 c1 c2'
    go_wp2_with fail
    refine CR.out.mono ?_
    rintro _ X2 ⟨rfl, hb2⟩
    have HX2 := Lib.hid hb2
    have HB2 : Hid (Below w.heap.size w X2) := HB1.out.trans (hb2.mono HB1.out.size)
    have HS2 : Hid (SetAt X2 p met) := HS1.out.below hb2 HS1.out.lt
    clear CR hb2 d0 d1 d2
    cases ob
    · have HX : Hid ((120 : Int) = r) := by show _ = _; rw [← HFE.out, HOB.out]; rfl
      go_wp2_with fail
      go_ret
      exact ⟨ri HX.out.symm, HB2.out⟩
    have HFE2 : Hid ((if x.ag ∈ met then 10 else foE (addS met x.ag) (l.drop (k + 1))) = r) := by
      have h1 := HFE.out
      rw [if_pos HOB.out] at h1
      exact h1
    have CK := Lib.hid (fun w => ordKey_any x w)
    obtain ⟨d0, d1, d2⟩ := HCC.out X2 HX2.out
    clear HFE
    go_wp2_with fail
    refine (CK.out _).mono ?_
    rintro _ X3 ⟨rfl, hb3⟩
    have HX3 : Hid (Below X1.heap.size X1 X3) := HX2.out.trans (hb3.mono HX2.out.size)
    have HB3 : Hid (Below w.heap.size w X3) := HB2.out.trans (hb3.mono HB2.out.size)
    have HS3 : Hid (SetAt X3 p met) := HS2.out.below hb3 HS2.out.lt
    have hget := HS3.out.get (P := Try.prog) underInt mapIntBool zeroBool x.ag
    obtain ⟨mb, hmb⟩ : ∃ b, decide (x.ag ∈ met) = b := ⟨_, rfl⟩
    rw [hmb] at hget
    have HMB := Lib.hid hmb
    clear hb3 d0 d1 d2 hmb
    cases mb
    · have HFE3 : Hid (foE (addS met x.ag) (l.drop (k + 1)) = r) := by
        have h1 := HFE2.out
        rw [if_neg (of_decide_eq_false HMB.out)] at h1
        exact h1
      obtain ⟨d0, d1, d2⟩ := HCC.out X3 HX3.out
      go_wp2_with fail
      clear hget
      refine (CK.out _).mono ?_
      rintro _ X4 ⟨rfl, hb4⟩
      have HB4 : Hid (Below w.heap.size w X4) := HB3.out.trans (hb4.mono HB3.out.size)
      have HS4 : Hid (SetAt X4 p met) := HS3.out.below hb4 HS3.out.lt
      clear hb4 d0 d1 d2
      go_wp2_with (at_mapUpdate; refine wpList_setPut _ underInt rfl _ _ _ 224 rfl mapIntBool p met x.ag rfl rfl rfl HS4.out ?_; intro w1 hs1 hg1)
      have HS5 := Lib.hid hs1
      have HB5 : Hid (Below w.heap.size w w1) := HB4.out.grown hg1 HB4.out.size (fun j hj => by cases hj; rw [HP.out]; exact Nat.le_refl _)
      clear hs1 hg1
      go_roundw
      case rel => exact ⟨k + 1, by omega, by go_num, _, HFE3, HS5, HB5⟩
      case measure => simp [intOf]; omega
    · have HX : Hid ((10 : Int) = r) := by
        have h1 := HFE2.out
        rw [if_pos (of_decide_eq_true HMB.out)] at h1
        exact h1
      go_wp2_with fail
      go_ret
      exact ⟨ri HX.out.symm, HB3.out⟩
  · have HX : Hid ((0 : Int) = r) := by
      show _ = _
      rw [← hf.out, List.drop_of_length_le (by rw [HN.out]; omega)]
      rfl
    go_wp2_with fail
    go_ret
    exact ⟨ri HX.out.symm, hB.out⟩
end Go.Proofs.Ytlmpbmlbllndcaa
