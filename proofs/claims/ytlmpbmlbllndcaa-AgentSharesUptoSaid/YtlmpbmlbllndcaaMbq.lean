/-
  The reference's asked: the error of orders and copies.
-/
import Derived.Test.YtlmpbmlbllndcaaMbp
namespace Go.Proofs.Ytlmpbmlbllndcaa
open Go.RowKit
attribute [local go_sem] Oper.semAt_some

set_option maxRecDepth 100000 in
set_option maxHeartbeats 4000000 in
theorem refAsked_any (l : List OrdD) (c0 : Int) (v : Value) (w : World) (h : ROrds w.heap.size w v l) :
    Calls Try.prog 105 #[v, .int .i64 c0] w fun e w' => e = .returned (.int .i64 (ordE l c0)) ∧ Below w.heap.size w w' := by
  obtain ⟨A, c, rfl, hlm, HD⟩ := ords_later h
  obtain ⟨n, hn⟩ : ∃ n, l.length = n := ⟨_, rfl⟩
  obtain ⟨fe, hfe⟩ : ∃ r, foE [] l = r := ⟨_, rfl⟩
  obtain ⟨r, hr⟩ : ∃ r, ordE l c0 = r := ⟨_, rfl⟩
  have HR : Hid (r = if 40 < n then 2 else if fe = 0 then (if c0 < 0 then 6 else if c0 - lstK l n < 0 then 4 else 0) else fe) := by show _ = _; rw [← hr, ← hn, ← hfe]; rfl
  rw [hn] at hlm
  rw [hn, hr]
  have HN := Lib.hid hn
  have HFE := Lib.hid hfe
  clear h hn hfe hr
  by_cases h4 : 40 < n
  · have HX : Hid (r = 2) := by show _ = _; rw [HR.out, if_pos h4]
    go_enter Try.func105, Try.ntmps105
    go_wp2_with fail
    go_ret
    exact ⟨ri HX.out, Below.refl _ _⟩
  have HR1 : Hid (r = if fe = 0 then (if c0 < 0 then 6 else if c0 - lstK l n < 0 then 4 else 0) else fe) := by show _ = _; rw [HR.out, if_neg h4]
  have CI := Lib.hid (fun (x lo hi : Int) (Y : World) => refIn_any x lo hi Y)
  clear HR
  go_enter Try.func105, Try.ntmps105
  go_wp2_with fail
  go_loopw [5, 6] (fun s i wr => ∃ (k : Nat) (y : Int), k ≤ n ∧ i = .int .i64 k ∧ s = .int .i64 y ∧ Hid (y = lstK l k) ∧ 0 ≤ y ∧ y ≤ 10000 * (k : Int) ∧ Hid (∃ met, foE met (l.drop k) = fe ∧ ∀ a, a ∈ met ↔ ∃ i x, i < k ∧ l[i]? = some x ∧ x.ag = a) ∧ Hid (Below w.heap.size w wr)) (fun _ i _ => n - (intOf i).toNat)
  case atStart => exact ⟨0, 0, Nat.zero_le _, rfl, rfl, by show _ = _; simp [lstK, sumI], by omega, by omega, ⟨[], HFE.out, fun a => by simp⟩, Below.refl _ _⟩
  case round =>
  obtain ⟨k, y, hk, rfl, rfl, hy, y0, y1, hf, hB⟩ := hrel
  obtain ⟨X, rfl⟩ : ∃ X : World, X = wr := ⟨_, rfl⟩
  by_cases hlt : k < n
  · obtain ⟨x, hx⟩ : ∃ x, l[k]? = some x := ⟨_, List.getElem?_eq_getElem (by rw [HN.out]; exact hlt)⟩
    obtain ⟨g, o, rfl, -, HX⟩ := HD.out k x hx
    obtain ⟨c0', c1', c2'⟩ := HX.out X hB.out
    have HXX := Lib.hid hx
    obtain ⟨b1, hb1⟩ : ∃ z, inB x.ag 0 1000000 = z := ⟨_, rfl⟩
    obtain ⟨b2, hb2⟩ : ∃ z, inB x.cop 0 10000 = z := ⟨_, rfl⟩
    obtain ⟨b3, hb3⟩ : ∃ z, inB x.least 0 x.cop = z := ⟨_, rfl⟩
    have HOB : Hid (x.okB = ((b1 && b2) && b3)) := by show _ = _; unfold OrdD.okB; rw [hb1, hb2, hb3]
    have CI1 : Hid (∀ Y, Calls Try.prog 98 #[.int .i64 x.ag, .int .i64 0, .int .i64 1000000] Y fun e w' => e = .returned (.bool b1) ∧ Y = w') := fun Y => by rw [← hb1]; exact CI.out x.ag 0 1000000 Y
    have CI2 : Hid (∀ Y, Calls Try.prog 98 #[.int .i64 x.cop, .int .i64 0, .int .i64 10000] Y fun e w' => e = .returned (.bool b2) ∧ Y = w') := fun Y => by rw [← hb2]; exact CI.out x.cop 0 10000 Y
    have CI3 : Hid (∀ Y, Calls Try.prog 98 #[.int .i64 x.least, .int .i64 0, .int .i64 x.cop] Y fun e w' => e = .returned (.bool b3) ∧ Y = w') := fun Y => by rw [← hb3]; exact CI.out x.least 0 x.cop Y
    have HLE : Hid (b2 = true → b3 = true → (0 ≤ x.least ∧ x.least ≤ 10000)) := fun h2 h3 => by
      have e1 := inB_iff.1 (hb2.trans h2)
      have e2 := inB_iff.1 (hb3.trans h3)
      omega
    have HFQ : Hid (∃ met, (if x.okB then (if x.ag ∈ met then 10 else foE (addS met x.ag) (l.drop (k + 1))) else 120) = fe ∧ ∀ a, a ∈ met ↔ ∃ i x, i < k ∧ l[i]? = some x ∧ x.ag = a) := by
      obtain ⟨met, h1, h2⟩ := hf.out
      rw [drop_cons hx] at h1
      exact ⟨met, h1, h2⟩
    have H120 : Hid (x.okB = false → r = 120) := fun h0 => by
      obtain ⟨met, h1, -⟩ := HFQ.out
      rw [h0] at h1
      have h2 : fe = 120 := h1.symm
      rw [HR1.out, h2, if_neg (by omega)]
    have H10 : Hid (x.okB = true → ∀ j x', j < k → l[j]? = some x' → x'.ag = x.ag → r = 10) := fun h0 j x' hj hx' he => by
      obtain ⟨met, h1, h2⟩ := HFQ.out
      rw [if_pos h0, if_pos ((h2 _).2 ⟨j, x', hj, hx', he⟩)] at h1
      rw [HR1.out, ← h1, if_neg (by omega)]
    have HGO : Hid (x.okB = true → (∀ j x', j < k → l[j]? = some x' → ¬ x'.ag = x.ag) → ∃ met, foE met (l.drop (k + 1)) = fe ∧ ∀ a, a ∈ met ↔ ∃ i x, i < k + 1 ∧ l[i]? = some x ∧ x.ag = a) := fun h0 hno => by
      obtain ⟨met, h1, h2⟩ := HFQ.out
      have h3 : ¬ x.ag ∈ met := fun h3 => by
        obtain ⟨j, x', hj, hx', he⟩ := (h2 _).1 h3
        exact hno j x' hj hx' he
      rw [if_pos h0, if_neg h3] at h1
      refine ⟨_, h1, fun a => ?_⟩
      rw [addS_mem, h2]
      constructor
      · rintro (rfl | ⟨i, x', hi, hx', he⟩)
        · exact ⟨k, x, by omega, HXX.out, rfl⟩
        · exact ⟨i, x', by omega, hx', he⟩
      · rintro ⟨i, x', hi, hx', he⟩
        by_cases hik : i = k
        · subst hik
          rw [HXX.out] at hx'
          cases hx'
          exact .inl he.symm
        · exact .inr ⟨i, x', by omega, hx', he⟩
    have hnx := lstK_next hx
    have HNX : Hid (y + x.least = lstK l (k + 1)) := by show _ = _; rw [hnx, hy.out]
    have F1 : ∃ X1, X.alloc (.cells #[.int .i64 x.ag, .int .i64 x.cop, .int .i64 x.least] 118) = X1 ∧ Hid (Below X.heap.size X X1) ∧ Hid (Blk X1 X.heap.size 118 #[.int .i64 x.ag, .int .i64 x.cop, .int .i64 x.least]) := ⟨_, rfl, below_alloc _ _, Blk.new _ _ _⟩
    obtain ⟨X1, e1, HX1, HK1⟩ := F1
    have E1 := Lib.hid e1
    have HB1 : Hid (Below w.heap.size w X1) := hB.out.trans (HX1.out.mono hB.out.size)
    obtain ⟨q, hq⟩ : ∃ q, X.heap.size = q := ⟨_, rfl⟩
    rw [hq] at HK1
    have HQ := Lib.hid hq
    have HCC : Hid (∀ Y, Below X1.heap.size X1 Y → Y.cell? ⟨q, 0, none⟩ = some (.int .i64 x.ag) ∧ Y.cell? ⟨q, 1, none⟩ = some (.int .i64 x.cop) ∧ Y.cell? ⟨q, 2, none⟩ = some (.int .i64 x.least)) := fun Y hY => by
      have h1 := HK1.out.below hY HK1.out.lt
      exact ⟨cellOf h1 0 rfl, cellOf h1 1 rfl, cellOf h1 2 rfl⟩
    obtain ⟨d0, d1, d2⟩ := HCC.out X1 (Below.refl _ _)
    have k0 : (0 : Int) ≤ (k : Int) := by omega
    have k1 : (k : Int) < (n : Int) := by omega
    clear hx hb1 hb2 hb3 e1 hq HX hB hf HX1 HK1 hnx HFQ hy CI HXX
    go_upto_region 8 with fail
    rw [E1.out, HQ.out]
    clear E1 c0' c1' c2'
    go_wp2_with fail
    refine (CI1.out _).mono ?_
    rintro _ _ ⟨rfl, rfl⟩
    cases b1 with
    | false =>
      have HX := Lib.hid (H120.out (by rw [HOB.out]; rfl))
      go_wp2_with fail
      go_ret
      exact ⟨ri HX.out, HB1.out⟩
    | true =>
    go_wp2_with fail
    refine (CI2.out _).mono ?_
    rintro _ _ ⟨rfl, rfl⟩
    cases b2 with
    | false =>
      have HX := Lib.hid (H120.out (by rw [HOB.out]; rfl))
      go_wp2_with fail
      go_ret
      exact ⟨ri HX.out, HB1.out⟩
    | true =>
    go_wp2_with fail
    refine (CI3.out _).mono ?_
    rintro _ _ ⟨rfl, rfl⟩
    cases b3 with
    | false =>
      have HX := Lib.hid (H120.out (by rw [HOB.out]; rfl))
      go_wp2_with fail
      go_ret
      exact ⟨ri HX.out, HB1.out⟩
    | true =>
    have HOK : Hid (x.okB = true) := by show _ = _; rw [HOB.out]; rfl
    obtain ⟨l0, l1⟩ := HLE.out (by first | rfl | trivial) (by first | rfl | trivial)
    clear HLE H120 HOB CI1 CI2 CI3 d0 d1 d2
    obtain ⟨z, hz⟩ : ∃ z, x.least = z := ⟨_, rfl⟩
    rw [hz] at l0 l1 HNX HCC
    obtain ⟨za, hza⟩ : ∃ z, x.ag = z := ⟨_, rfl⟩
    rw [hza] at H10 HGO HCC
    obtain ⟨zc, hzc⟩ : ∃ z, x.cop = z := ⟨_, rfl⟩
    rw [hzc] at HCC
    clear hz hza hzc
    go_wp2_with fail
    go_loopw [8] (fun i wr => ∃ j : Nat, j ≤ k ∧ i = .int .i64 j ∧ Hid (∀ i x', i < j → l[i]? = some x' → ¬ x'.ag = za) ∧ Hid (Below X1.heap.size X1 wr)) (fun i _ => k - (intOf i).toNat)
    case atStart => exact ⟨0, Nat.zero_le _, rfl, fun i x' hi => absurd hi (Nat.not_lt_zero _), Below.refl _ _⟩
    case round =>
    obtain ⟨j, hj, rfl, hno, hV⟩ := hrel
    obtain ⟨V, rfl⟩ : ∃ X : World, X = wr := ⟨_, rfl⟩
    have HBV : Hid (Below w.heap.size w V) := HB1.out.trans (hV.out.mono HB1.out.size)
    obtain ⟨d0, d1, d2⟩ := HCC.out V hV.out
    by_cases hjk : j < k
    · obtain ⟨x', hx'⟩ : ∃ x, l[j]? = some x := ⟨_, List.getElem?_eq_getElem (by rw [HN.out]; omega)⟩
      obtain ⟨g', o', e', -, HX'⟩ := HD.out j x' hx'
      cases e'
      obtain ⟨f0, -, -⟩ := HX'.out V HBV.out
      obtain ⟨ya, hya⟩ : ∃ z, x'.ag = z := ⟨_, rfl⟩
      rw [hya] at f0
      have HYA := Lib.hid hya
      have HXX' := Lib.hid hx'
      have j0 : (0 : Int) ≤ (j : Int) := by omega
      have j1 : (j : Int) < (n : Int) := by omega
      have j2 : (j : Int) < (k : Int) := by omega
      clear hx' hya HX'
      by_cases he : ya = za
      · have g1 : (ya == za) = true := by simpa using he
        have HX := Lib.hid (H10.out HOK.out j x' hjk HXX'.out (HYA.out.trans he))
        clear he
        go_wp2_with fail
        go_quiet (fail)
        go_wp2_with fail
        go_ret
        exact ⟨ri HX.out, below_drewN HBV.out _⟩
      · have g1 : (ya == za) = false := by simpa using he
        have HNO : Hid (∀ i x', i < j + 1 → l[i]? = some x' → ¬ x'.ag = za) := fun i x'' hi hx'' => by
          by_cases hij : i = j
          · subst hij
            rw [HXX'.out] at hx''
            cases hx''
            rw [HYA.out]
            exact he
          · exact hno.out i x'' (by omega) hx''
        clear he
        go_wp2_with fail
        go_quiet (fail)
        go_wp2_with fail
        go_roundw
        case rel => exact ⟨j + 1, by omega, by go_num, HNO, below_drewN hV.out _⟩
        case measure => simp [intOf]; omega
    · obtain rfl : j = k := by omega
      have HM := Lib.hid (HGO.out HOK.out hno.out)
      have u1 : -1000000000 ≤ y + z := by omega
      have u2 : y + z ≤ 1000000000 := by omega
      clear HGO H10 hno
      go_wp2_with fail
      go_roundw
      case rel => exact ⟨j + 1, y + z, by omega, by go_num, rfl, HNX, by omega, by push_cast; omega, HM, HBV⟩
      case measure => simp [intOf]; omega
  · obtain rfl : k = n := by omega
    have HF0 : Hid (fe = 0) := by
      obtain ⟨met, h1, -⟩ := hf.out
      rw [List.drop_eq_nil_of_le (by rw [HN.out]; exact Nat.le_refl _)] at h1
      exact h1.symm
    have HR2 : Hid (r = (if c0 < 0 then 6 else if c0 - y < 0 then 4 else 0)) := by show _ = _; rw [HR1.out, if_pos HF0.out, hy.out]
    clear hf hy
    by_cases hcn : c0 < 0
    · have HX : Hid (r = 6) := by show _ = _; rw [HR2.out, if_pos hcn]
      go_wp2_with fail
      go_ret
      exact ⟨ri HX.out, hB.out⟩
    · by_cases hyc : c0 < y
      · have HX : Hid (r = 4) := by show _ = _; rw [HR2.out, if_neg hcn, if_pos (by omega)]
        go_wp2_with fail
        go_ret
        exact ⟨ri HX.out, hB.out⟩
      · have HX : Hid (r = 0) := by show _ = _; rw [HR2.out, if_neg hcn, if_neg (by omega)]
        go_wp2_with fail
        go_ret
        exact ⟨ri HX.out, hB.out⟩
end Go.Proofs.Ytlmpbmlbllndcaa
