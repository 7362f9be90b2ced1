/-
  The error of the first reel that is not allowed: checkReels.
-/
import Derived.Laws.EntriesVeiled
import Derived.Test.YtpkepacbondopaaLd
namespace Go.Proofs.Ytpkepacbondopaa
open Go.RowKit

/-- How far the rules of one reel are: j of them have been asked, and allow it. -/
def RuleSt (N : Nat) (met : List Int) (x : ReelD) (j : Nat) (w : World) : Prop :=
  (j ≤ 4 ∧ SetAt w N met ∧ (1 ≤ j → withinB x.id 0 1000000 = true) ∧ (2 ≤ j → withinB x.width 1 3000 = true) ∧ (3 ≤ j → withinB x.length 0 20000000 = true) ∧ (4 ≤ j → withinB x.core 0 x.length = true)) ∨
  (j = 5 ∧ SetAt w N (met ++ [x.id]) ∧ x.ok ∧ x.id ∉ met)
theorem ruleOk {x : ReelD} : x.ok ↔ withinB x.id 0 1000000 = true ∧ withinB x.width 1 3000 = true ∧ withinB x.length 0 20000000 = true ∧ withinB x.core 0 x.length = true := by
  unfold ReelD.ok
  rw [within_iff, within_iff, within_iff, within_iff]
theorem reelsE_no {met : List Int} {x : ReelD} {l : List ReelD} (h : ¬ x.ok) : reelsE met (x :: l) = 70 := by rw [reelsE, if_pos h]
theorem reelsE_twice {met : List Int} {x : ReelD} {l : List ReelD} (h : x.ok) (hm : x.id ∈ met) : reelsE met (x :: l) = 10 := by rw [reelsE, if_neg (by simpa using h), if_pos hm]
theorem reelsE_next {met : List Int} {x : ReelD} {l : List ReelD} (h : x.ok) (hm : x.id ∉ met) : reelsE met (x :: l) = reelsE (met ++ [x.id]) l := by rw [reelsE, if_neg (by simpa using h), if_neg hm]
theorem drop_cons {α : Type} {l : List α} {k : Nat} {x : α} (h : l[k]? = some x) : l.drop k = x :: l.drop (k + 1) := by
  obtain ⟨hk, rfl⟩ := List.getElem?_eq_some_iff.1 h
  exact List.drop_eq_getElem_cons hk
/-- What checkReels answers and leaves. -/
def ReelsRet (w : World) (N : Nat) (met : List Int) (l : List ReelD) (e : Ending) (w' : World) : Prop :=
  e = .returned (.int .i64 (reelsE met l)) ∧ KeptBut (fun k => k = N) w w' ∧ (∃ m, SetAt w' N m) ∧ (reelsE met l = 0 → SetAt w' N (met ++ idsL l))
/-- How far checkReels is. -/
def CkSt (w : World) (N : Nat) (met : List Int) (l : List ReelD) (k : Nat) (X : World) : Prop :=
  ∃ m, SetAt X N m ∧ KeptBut (fun k => k = N) w X ∧ reelsE met l = reelsE m (l.drop k) ∧ met ++ idsL l = m ++ idsL (l.drop k)

set_option maxRecDepth 100000 in
set_option maxHeartbeats 4000000 in
theorem checkReels_any (l : List ReelD) (v : Value) (N M R : Nat) (met : List Int) (w : World) (h : RReels w.heap.size w v l) (hr : RulesAt w N M R met)
    (hN : ∀ A n c, 0 < l.length → v = .slice (some A) n c → A.block ≠ N) :
    Calls Try.prog 100 #[v, .slice (some ⟨R, 0, none⟩) 5 5] w (ReelsRet w N met l) := by
  obtain ⟨A, c, rfl, hlm, hc⟩ := h.open_
  obtain ⟨n, hn⟩ : ∃ n, l.length = n := ⟨_, rfl⟩
  rw [hn] at hlm hN ⊢
  have Hn := Lib.hid hn
  have HC := Lib.hid hc
  have HRu := Lib.hid hr
  have HNe := Lib.hid hN
  have HSt : Hid (CkSt w N met l 0 w) := ⟨met, hr.set, KeptBut.refl _ _, rfl, rfl⟩
  clear hn hc hr hN h
  go_enter Try.func100, Try.ntmps100
  go_wp2
  go_loopw [11] (fun i wr => ∃ k : Nat, k ≤ n ∧ i = .int .i64 k ∧ Hid (CkSt w N met l k wr)) (fun i _ => n - (intOf i).toNat)
  case atStart => exact ⟨0, Nat.zero_le _, rfl, HSt⟩
  case round =>
    clear HSt
    obtain ⟨k, hk, rfl, hst⟩ := hrel
    by_cases hlt : k < n
    case neg =>
      have hfin : Hid (reelsE met l = 0 ∧ ReelsRet w N met l (.returned (.int .i64 0)) wr) := by
        obtain ⟨m, h1, h2, h3, h4⟩ := hst.out
        rw [List.drop_of_length_le (by rw [Hn.out]; omega)] at h3 h4
        have h5 : reelsE met l = 0 := h3
        refine ⟨h5, by rw [h5], h2, ⟨m, h1⟩, fun _ => ?_⟩
        rw [h4]
        simpa [idsL] using h1
      clear hst
      go_wp2
      go_ret
      exact hfin.out.2
    obtain ⟨wo, rfl⟩ : ∃ wo : World, wo = wr := ⟨_, rfl⟩
    obtain ⟨x, hx⟩ : ∃ x, l[k]? = some x := ⟨_, List.getElem?_eq_getElem (by rw [Hn.out]; exact hlt)⟩
    obtain ⟨met1, hs1, hk1, he1, hi1⟩ := hst.out
    obtain ⟨g, o, rfl, hg, c0, c1, c2, c3⟩ := HC.out k x hx
    have hgN : g ≠ N := HNe.out _ _ _ (by omega) rfl
    rw [← hk1.cell (p := ⟨g, o + k * 4, none⟩) hg hgN] at c0
    rw [← hk1.cell (p := ⟨g, o + k * 4 + 1, none⟩) hg hgN] at c1
    rw [← hk1.cell (p := ⟨g, o + k * 4 + 2, none⟩) hg hgN] at c2
    rw [← hk1.cell (p := ⟨g, o + k * 4 + 3, none⟩) hg hgN] at c3
    rw [drop_cons hx] at he1 hi1
    have HE := Lib.hid he1
    have HI := Lib.hid hi1
    have HK1 := Lib.hid hk1
    have F1 : ∃ X1, wo.alloc (.cells #[.int .i64 x.id, .int .i64 x.width, .int .i64 x.length, .int .i64 x.core] 58) = X1 ∧ Below wo.heap.size wo X1 ∧ Blk X1 wo.heap.size 58 #[.int .i64 x.id, .int .i64 x.width, .int .i64 x.length, .int .i64 x.core] := ⟨_, rfl, below_alloc _ _, Blk.new _ _ _⟩
    obtain ⟨X1, e1, hb1, B1⟩ := F1
    have HRX := Lib.hid ((HRu.out.put hk1 hs1).below hb1)
    have hNX : wo.heap.size ≠ N := by have := hs1.lt; omega
    have HB1 := Lib.hid B1
    have HbX := Lib.hid hb1
    have E1 := Lib.hid e1
    have HRS : Hid (RuleSt N met1 x 0 X1) := .inl ⟨by omega, HRX.out.set, fun h => by omega, fun h => by omega, fun h => by omega, fun h => by omega⟩
    clear hx hs1 hk1 he1 hi1 hb1 B1 e1 hst
    go_upto_region 4 with fail
    rw [E1.out]
    clear c0 c1 c2 c3
    go_wp2
    go_loopw [17] (fun i wr => ∃ j : Nat, j ≤ 5 ∧ i = .int .i64 j ∧ Hid (RuleSt N met1 x j wr) ∧ Hid (KeptBut (fun k => k = N) X1 wr)) (fun i _ => 5 - (intOf i).toNat)
    case atStart => exact ⟨0, by omega, rfl, HRS, KeptBut.refl _ _⟩
    case round =>
      clear HRS
      obtain ⟨j, hj, rfl, hst, hkj⟩ := hrel
      by_cases hlj : j < 5
      case neg =>
        have hji : ¬ (j : Int) < 5 := by omega
        have hfin : Hid (CkSt w N met l (k + 1) wr) := by
          rcases hst.out with ⟨h1, -⟩ | ⟨-, h2, h3, h4⟩
          · omega
          refine ⟨met1 ++ [x.id], h2, ((HK1.out.trans (KeptBut.of_below HbX.out) fun _ _ h => h).trans hkj.out fun _ _ h => h), ?_, ?_⟩
          · rw [HE.out, reelsE_next h3 h4]
          · rw [HI.out]
            simp [idsL]
        go_wp2
        go_roundw
        case rel => exact ⟨k + 1, by omega, by go_num, hfin⟩
        case measure => (simp [intOf]) <;> omega
      have hrow : Blk wr R 232 (ruleCells M) := hkj.out.blk HRX.out.row (HRX.out.set.ne_blk HRX.out.row)
      have HBX : Hid (Blk wr wo.heap.size 58 #[.int .i64 x.id, .int .i64 x.width, .int .i64 x.length, .int .i64 x.core]) := hkj.out.blk HB1.out hNX
      have hji : (j : Int) < 5 := by omega
      by_cases hj0 : j = 0
      case pos =>
        have r0 := cellOf hrow (j * 2) (x := .func (.func 142) #[] #[]) (by rw [hj0]; rfl)
        have r1 := cellOf hrow (j * 2 + 1) (x := .int .i64 70) (by rw [hj0]; rfl)
        obtain ⟨B, hB⟩ : ∃ B, withinB x.id 0 1000000 = B := ⟨_, rfl⟩
        have CR : Hid (∀ Y, Calls Try.prog 142 #[.agg #[.int .i64 x.id, .int .i64 x.width, .int .i64 x.length, .int .i64 x.core]] Y fun e w' => e = .returned (.bool B) ∧ Below Y.heap.size Y w') := fun Y => by rw [← hB]; exact rule1_any x Y
        have HB := Lib.hid hB
        have HJ := Lib.hid hj0
        have hX2 : ∃ X2, wr.alloc (.cells #[.func (.func 142) #[] #[], .int .i64 70] 232) = X2 ∧ Below wr.heap.size wr X2 ∧ Blk X2 wr.heap.size 232 #[.func (.func 142) #[] #[], .int .i64 70] := ⟨_, rfl, below_alloc _ _, Blk.new _ _ _⟩
        obtain ⟨X2, e2, hb2, B2⟩ := hX2
        have E2 := Lib.hid e2
        have HB2 := Lib.hid hb2
        have HK2 := Lib.hid B2
        have hbx2 := HBX.out.below hb2 HBX.out.lt
        clear hB hj0 e2 hb2 hrow
        go_upto_region 7 with fail
        rw [E2.out]
        clear r0 r1
        have f0 := cellOf HK2.out 0 (x := .func (.func 142) #[] #[]) rfl
        have v0 := cellOf hbx2 0 (x := .int .i64 x.id) rfl
        have v1 := cellOf hbx2 1 (x := .int .i64 x.width) rfl
        have v2 := cellOf hbx2 2 (x := .int .i64 x.length) rfl
        have v3 := cellOf hbx2 3 (x := .int .i64 x.core) rfl
        clear B2 hbx2
        go_wp2_with fail
        refine (CR.out _).mono ?_
        rintro _ w3 ⟨rfl, hb3⟩
        have HK3 : Hid (KeptBut (fun k => k = N) X1 w3) := hkj.out.trans (KeptBut.of_below (HB2.out.trans (hb3.mono HB2.out.size))) fun _ _ h => h
        have f1 := cellOf (HK2.out.below hb3 HK2.out.lt) 1 (x := .int .i64 70) rfl
        have HS3 : Hid (SetAt w3 N met1) := by
          rcases hst.out with ⟨-, h2, -⟩ | ⟨h1, -⟩
          · exact h2.below (HB2.out.trans (hb3.mono HB2.out.size)) h2.lt
          · have := HJ.out; omega
        clear hb3 f0 v0 v1 v2 v3 CR
        cases B
        · have hfin : Hid (ReelsRet w N met l (.returned (.int .i64 70)) w3) := by
            have hno : ¬ x.ok := fun h => by
              have := (ruleOk.1 h)
              have h9 := HB.out
              simp [h9] at this
            have h7 : reelsE met l = 70 := by rw [HE.out, reelsE_no hno]
            exact ⟨by rw [h7], ((HK1.out.trans (KeptBut.of_below HbX.out) fun _ _ h => h).trans HK3.out fun _ _ h => h), ⟨_, HS3.out⟩, fun h => by rw [h7] at h; cases h⟩
          go_wp2
          go_ret
          exact hfin.out
        · have HSt : Hid (RuleSt N met1 x (j + 1) w3) := by
            rcases hst.out with ⟨-, h2, h3, h4, h5, h6⟩ | ⟨h1, -⟩
            · have hjj := HJ.out
              exact .inl ⟨by omega, HS3.out, fun h => by first | exact HB.out | exact h3 (by omega) | omega, fun h => by first | exact HB.out | exact h4 (by omega) | omega, fun h => by first | exact HB.out | exact h5 (by omega) | omega, fun h => by first | exact HB.out | exact h6 (by omega) | omega⟩
            · have := HJ.out; omega
          clear hst hkj f1
          go_wp2
          go_roundw
          case rel => exact ⟨j + 1, by omega, by go_num, HSt, HK3⟩
          case measure => (simp [intOf]) <;> omega
      by_cases hj1 : j = 1
      case pos =>
        have r0 := cellOf hrow (j * 2) (x := .func (.func 143) #[] #[]) (by rw [hj1]; rfl)
        have r1 := cellOf hrow (j * 2 + 1) (x := .int .i64 70) (by rw [hj1]; rfl)
        obtain ⟨B, hB⟩ : ∃ B, withinB x.width 1 3000 = B := ⟨_, rfl⟩
        have CR : Hid (∀ Y, Calls Try.prog 143 #[.agg #[.int .i64 x.id, .int .i64 x.width, .int .i64 x.length, .int .i64 x.core]] Y fun e w' => e = .returned (.bool B) ∧ Below Y.heap.size Y w') := fun Y => by rw [← hB]; exact rule2_any x Y
        have HB := Lib.hid hB
        have HJ := Lib.hid hj1
        have hX2 : ∃ X2, wr.alloc (.cells #[.func (.func 143) #[] #[], .int .i64 70] 232) = X2 ∧ Below wr.heap.size wr X2 ∧ Blk X2 wr.heap.size 232 #[.func (.func 143) #[] #[], .int .i64 70] := ⟨_, rfl, below_alloc _ _, Blk.new _ _ _⟩
        obtain ⟨X2, e2, hb2, B2⟩ := hX2
        have E2 := Lib.hid e2
        have HB2 := Lib.hid hb2
        have HK2 := Lib.hid B2
        have hbx2 := HBX.out.below hb2 HBX.out.lt
        clear hB hj1 e2 hb2 hrow
        go_upto_region 7 with fail
        rw [E2.out]
        clear r0 r1
        have f0 := cellOf HK2.out 0 (x := .func (.func 143) #[] #[]) rfl
        have v0 := cellOf hbx2 0 (x := .int .i64 x.id) rfl
        have v1 := cellOf hbx2 1 (x := .int .i64 x.width) rfl
        have v2 := cellOf hbx2 2 (x := .int .i64 x.length) rfl
        have v3 := cellOf hbx2 3 (x := .int .i64 x.core) rfl
        clear B2 hbx2
        go_wp2_with fail
        refine (CR.out _).mono ?_
        rintro _ w3 ⟨rfl, hb3⟩
        have HK3 : Hid (KeptBut (fun k => k = N) X1 w3) := hkj.out.trans (KeptBut.of_below (HB2.out.trans (hb3.mono HB2.out.size))) fun _ _ h => h
        have f1 := cellOf (HK2.out.below hb3 HK2.out.lt) 1 (x := .int .i64 70) rfl
        have HS3 : Hid (SetAt w3 N met1) := by
          rcases hst.out with ⟨-, h2, -⟩ | ⟨h1, -⟩
          · exact h2.below (HB2.out.trans (hb3.mono HB2.out.size)) h2.lt
          · have := HJ.out; omega
        clear hb3 f0 v0 v1 v2 v3 CR
        cases B
        · have hfin : Hid (ReelsRet w N met l (.returned (.int .i64 70)) w3) := by
            have hno : ¬ x.ok := fun h => by
              have := (ruleOk.1 h)
              have h9 := HB.out
              simp [h9] at this
            have h7 : reelsE met l = 70 := by rw [HE.out, reelsE_no hno]
            exact ⟨by rw [h7], ((HK1.out.trans (KeptBut.of_below HbX.out) fun _ _ h => h).trans HK3.out fun _ _ h => h), ⟨_, HS3.out⟩, fun h => by rw [h7] at h; cases h⟩
          go_wp2
          go_ret
          exact hfin.out
        · have HSt : Hid (RuleSt N met1 x (j + 1) w3) := by
            rcases hst.out with ⟨-, h2, h3, h4, h5, h6⟩ | ⟨h1, -⟩
            · have hjj := HJ.out
              exact .inl ⟨by omega, HS3.out, fun h => by first | exact HB.out | exact h3 (by omega) | omega, fun h => by first | exact HB.out | exact h4 (by omega) | omega, fun h => by first | exact HB.out | exact h5 (by omega) | omega, fun h => by first | exact HB.out | exact h6 (by omega) | omega⟩
            · have := HJ.out; omega
          clear hst hkj f1
          go_wp2
          go_roundw
          case rel => exact ⟨j + 1, by omega, by go_num, HSt, HK3⟩
          case measure => (simp [intOf]) <;> omega
      by_cases hj2 : j = 2
      case pos =>
        have r0 := cellOf hrow (j * 2) (x := .func (.func 144) #[] #[]) (by rw [hj2]; rfl)
        have r1 := cellOf hrow (j * 2 + 1) (x := .int .i64 70) (by rw [hj2]; rfl)
        obtain ⟨B, hB⟩ : ∃ B, withinB x.length 0 20000000 = B := ⟨_, rfl⟩
        have CR : Hid (∀ Y, Calls Try.prog 144 #[.agg #[.int .i64 x.id, .int .i64 x.width, .int .i64 x.length, .int .i64 x.core]] Y fun e w' => e = .returned (.bool B) ∧ Below Y.heap.size Y w') := fun Y => by rw [← hB]; exact rule3_any x Y
        have HB := Lib.hid hB
        have HJ := Lib.hid hj2
        have hX2 : ∃ X2, wr.alloc (.cells #[.func (.func 144) #[] #[], .int .i64 70] 232) = X2 ∧ Below wr.heap.size wr X2 ∧ Blk X2 wr.heap.size 232 #[.func (.func 144) #[] #[], .int .i64 70] := ⟨_, rfl, below_alloc _ _, Blk.new _ _ _⟩
        obtain ⟨X2, e2, hb2, B2⟩ := hX2
        have E2 := Lib.hid e2
        have HB2 := Lib.hid hb2
        have HK2 := Lib.hid B2
        have hbx2 := HBX.out.below hb2 HBX.out.lt
        clear hB hj2 e2 hb2 hrow
        go_upto_region 7 with fail
        rw [E2.out]
        clear r0 r1
        have f0 := cellOf HK2.out 0 (x := .func (.func 144) #[] #[]) rfl
        have v0 := cellOf hbx2 0 (x := .int .i64 x.id) rfl
        have v1 := cellOf hbx2 1 (x := .int .i64 x.width) rfl
        have v2 := cellOf hbx2 2 (x := .int .i64 x.length) rfl
        have v3 := cellOf hbx2 3 (x := .int .i64 x.core) rfl
        clear B2 hbx2
        go_wp2_with fail
        refine (CR.out _).mono ?_
        rintro _ w3 ⟨rfl, hb3⟩
        have HK3 : Hid (KeptBut (fun k => k = N) X1 w3) := hkj.out.trans (KeptBut.of_below (HB2.out.trans (hb3.mono HB2.out.size))) fun _ _ h => h
        have f1 := cellOf (HK2.out.below hb3 HK2.out.lt) 1 (x := .int .i64 70) rfl
        have HS3 : Hid (SetAt w3 N met1) := by
          rcases hst.out with ⟨-, h2, -⟩ | ⟨h1, -⟩
          · exact h2.below (HB2.out.trans (hb3.mono HB2.out.size)) h2.lt
          · have := HJ.out; omega
        clear hb3 f0 v0 v1 v2 v3 CR
        cases B
        · have hfin : Hid (ReelsRet w N met l (.returned (.int .i64 70)) w3) := by
            have hno : ¬ x.ok := fun h => by
              have := (ruleOk.1 h)
              have h9 := HB.out
              simp [h9] at this
            have h7 : reelsE met l = 70 := by rw [HE.out, reelsE_no hno]
            exact ⟨by rw [h7], ((HK1.out.trans (KeptBut.of_below HbX.out) fun _ _ h => h).trans HK3.out fun _ _ h => h), ⟨_, HS3.out⟩, fun h => by rw [h7] at h; cases h⟩
          go_wp2
          go_ret
          exact hfin.out
        · have HSt : Hid (RuleSt N met1 x (j + 1) w3) := by
            rcases hst.out with ⟨-, h2, h3, h4, h5, h6⟩ | ⟨h1, -⟩
            · have hjj := HJ.out
              exact .inl ⟨by omega, HS3.out, fun h => by first | exact HB.out | exact h3 (by omega) | omega, fun h => by first | exact HB.out | exact h4 (by omega) | omega, fun h => by first | exact HB.out | exact h5 (by omega) | omega, fun h => by first | exact HB.out | exact h6 (by omega) | omega⟩
            · have := HJ.out; omega
          clear hst hkj f1
          go_wp2
          go_roundw
          case rel => exact ⟨j + 1, by omega, by go_num, HSt, HK3⟩
          case measure => (simp [intOf]) <;> omega
      by_cases hj3 : j = 3
      case pos =>
        have r0 := cellOf hrow (j * 2) (x := .func (.func 145) #[] #[]) (by rw [hj3]; rfl)
        have r1 := cellOf hrow (j * 2 + 1) (x := .int .i64 70) (by rw [hj3]; rfl)
        obtain ⟨B, hB⟩ : ∃ B, withinB x.core 0 x.length = B := ⟨_, rfl⟩
        have CR : Hid (∀ Y, Calls Try.prog 145 #[.agg #[.int .i64 x.id, .int .i64 x.width, .int .i64 x.length, .int .i64 x.core]] Y fun e w' => e = .returned (.bool B) ∧ Below Y.heap.size Y w') := fun Y => by rw [← hB]; exact rule4_any x Y
        have HB := Lib.hid hB
        have HJ := Lib.hid hj3
        have hX2 : ∃ X2, wr.alloc (.cells #[.func (.func 145) #[] #[], .int .i64 70] 232) = X2 ∧ Below wr.heap.size wr X2 ∧ Blk X2 wr.heap.size 232 #[.func (.func 145) #[] #[], .int .i64 70] := ⟨_, rfl, below_alloc _ _, Blk.new _ _ _⟩
        obtain ⟨X2, e2, hb2, B2⟩ := hX2
        have E2 := Lib.hid e2
        have HB2 := Lib.hid hb2
        have HK2 := Lib.hid B2
        have hbx2 := HBX.out.below hb2 HBX.out.lt
        clear hB hj3 e2 hb2 hrow
        go_upto_region 7 with fail
        rw [E2.out]
        clear r0 r1
        have f0 := cellOf HK2.out 0 (x := .func (.func 145) #[] #[]) rfl
        have v0 := cellOf hbx2 0 (x := .int .i64 x.id) rfl
        have v1 := cellOf hbx2 1 (x := .int .i64 x.width) rfl
        have v2 := cellOf hbx2 2 (x := .int .i64 x.length) rfl
        have v3 := cellOf hbx2 3 (x := .int .i64 x.core) rfl
        clear B2 hbx2
        go_wp2_with fail
        refine (CR.out _).mono ?_
        rintro _ w3 ⟨rfl, hb3⟩
        have HK3 : Hid (KeptBut (fun k => k = N) X1 w3) := hkj.out.trans (KeptBut.of_below (HB2.out.trans (hb3.mono HB2.out.size))) fun _ _ h => h
        have f1 := cellOf (HK2.out.below hb3 HK2.out.lt) 1 (x := .int .i64 70) rfl
        have HS3 : Hid (SetAt w3 N met1) := by
          rcases hst.out with ⟨-, h2, -⟩ | ⟨h1, -⟩
          · exact h2.below (HB2.out.trans (hb3.mono HB2.out.size)) h2.lt
          · have := HJ.out; omega
        clear hb3 f0 v0 v1 v2 v3 CR
        cases B
        · have hfin : Hid (ReelsRet w N met l (.returned (.int .i64 70)) w3) := by
            have hno : ¬ x.ok := fun h => by
              have := (ruleOk.1 h)
              have h9 := HB.out
              simp [h9] at this
            have h7 : reelsE met l = 70 := by rw [HE.out, reelsE_no hno]
            exact ⟨by rw [h7], ((HK1.out.trans (KeptBut.of_below HbX.out) fun _ _ h => h).trans HK3.out fun _ _ h => h), ⟨_, HS3.out⟩, fun h => by rw [h7] at h; cases h⟩
          go_wp2
          go_ret
          exact hfin.out
        · have HSt : Hid (RuleSt N met1 x (j + 1) w3) := by
            rcases hst.out with ⟨-, h2, h3, h4, h5, h6⟩ | ⟨h1, -⟩
            · have hjj := HJ.out
              exact .inl ⟨by omega, HS3.out, fun h => by first | exact HB.out | exact h3 (by omega) | omega, fun h => by first | exact HB.out | exact h4 (by omega) | omega, fun h => by first | exact HB.out | exact h5 (by omega) | omega, fun h => by first | exact HB.out | exact h6 (by omega) | omega⟩
            · have := HJ.out; omega
          clear hst hkj f1
          go_wp2
          go_roundw
          case rel => exact ⟨j + 1, by omega, by go_num, HSt, HK3⟩
          case measure => (simp [intOf]) <;> omega
      have hj4 : j = 4 := by omega
      have r0 := cellOf hrow (j * 2) (x := .func (.func 146) #[] #[.pointer (some ⟨M, 0, none⟩)]) (by rw [hj4]; rfl)
      have r1 := cellOf hrow (j * 2 + 1) (x := .int .i64 10) (by rw [hj4]; rfl)
      have hset : SetAt wr N met1 := by
        rcases hst.out with ⟨-, h2, -⟩ | ⟨h1, -⟩
        · exact h2
        · omega
      have hok : x.ok := by
        rcases hst.out with ⟨-, -, h3, h4, h5, h6⟩ | ⟨h1, -⟩
        · exact ruleOk.2 ⟨h3 (by omega), h4 (by omega), h5 (by omega), h6 (by omega)⟩
        · omega
      have hbox : Blk wr M 229 #[.map (some N)] := hkj.out.blk HRX.out.box (HRX.out.set.ne_blk HRX.out.box)
      obtain ⟨B, hB⟩ : ∃ B, (!decide (x.id ∈ met1)) = B := ⟨_, rfl⟩
      have hX2 : ∃ X2, wr.alloc (.cells #[.func (.func 146) #[] #[.pointer (some ⟨M, 0, none⟩)], .int .i64 10] 232) = X2 ∧ Below wr.heap.size wr X2 ∧ Blk X2 wr.heap.size 232 #[.func (.func 146) #[] #[.pointer (some ⟨M, 0, none⟩)], .int .i64 10] := ⟨_, rfl, below_alloc _ _, Blk.new _ _ _⟩
      obtain ⟨X2, e2, hb2, B2⟩ := hX2
      have CR := Lib.hid (rule5_any x X2 N M met1 (hset.below hb2 hset.lt) (hbox.below hb2 hbox.lt))
      have HB := Lib.hid hB
      have HJ := Lib.hid hj4
      have HO := Lib.hid hok
      have E2 := Lib.hid e2
      have HB2 := Lib.hid hb2
      have HK2 := Lib.hid B2
      have hbx2 := HBX.out.below hb2 HBX.out.lt
      have hNj : N < wr.heap.size := hset.lt
      clear hB hj4 e2 hb2 hrow hset hok hbox hj0 hj1 hj2 hj3
      go_upto_region 7 with fail
      rw [E2.out]
      clear r0 r1
      have f0 := cellOf HK2.out 0 (x := .func (.func 146) #[] #[.pointer (some ⟨M, 0, none⟩)]) rfl
      have v0 := cellOf hbx2 0 (x := .int .i64 x.id) rfl
      have v1 := cellOf hbx2 1 (x := .int .i64 x.width) rfl
      have v2 := cellOf hbx2 2 (x := .int .i64 x.length) rfl
      have v3 := cellOf hbx2 3 (x := .int .i64 x.core) rfl
      clear B2 hbx2
      go_wp2_with fail
      refine CR.out.mono ?_
      rintro _ w3 ⟨rfl, hs3, hk3⟩
      rw [HB.out]
      have HK3 : Hid (KeptBut (fun k => k = N) X1 w3) := (hkj.out.trans (KeptBut.of_below HB2.out) fun _ _ h => h).trans hk3 fun _ _ h => h
      have f1 := cellOf (hk3.blk HK2.out (show wr.heap.size ≠ N by omega)) 1 (x := .int .i64 10) rfl
      have HS3 := Lib.hid hs3
      clear hs3 hk3 f0 v0 v1 v2 v3 CR hst hkj hNj
      cases B
      · have hfin : Hid (ReelsRet w N met l (.returned (.int .i64 10)) w3) := by
          have h9 := HB.out
          have h7 : reelsE met l = 10 := by rw [HE.out, reelsE_twice HO.out (by simpa using h9)]
          exact ⟨by rw [h7], ((HK1.out.trans (KeptBut.of_below HbX.out) fun _ _ h => h).trans HK3.out fun _ _ h => h), ⟨_, HS3.out⟩, fun h => by rw [h7] at h; cases h⟩
        go_wp2
        go_ret
        exact hfin.out
      · have HSt : Hid (RuleSt N met1 x (j + 1) w3) := by
          have h9 := HB.out
          have hnm : x.id ∉ met1 := by simpa using h9
          have h8 := HS3.out
          unfold addS at h8
          rw [if_neg hnm] at h8
          exact .inr ⟨by have := HJ.out; omega, h8, HO.out, hnm⟩
        clear f1
        go_wp2
        go_roundw
        case rel => exact ⟨j + 1, by omega, by go_num, HSt, HK3⟩
        case measure => (simp [intOf]) <;> omega
end Go.Proofs.Ytpkepacbondopaa
