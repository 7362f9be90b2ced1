/-
  The reference's listed and Round.
-/
import Derived.Test.YtlmpbmlbllndcaaMbj
import Derived.Test.YtlmpbmlbllndcaaMax
namespace Go.Proofs.Ytlmpbmlbllndcaa
open Go.RowKit
attribute [local go_sem] Oper.semAt_some

theorem sub_slice {w X : World} {s : SubD} {u : Value} (h : RSub X.heap.size X (.agg #[.int .i64 s.id, .int .i64 s.from_, .int .i64 s.to_, .int .i64 s.days, u]) s) : ∃ Au nu cu, u = .slice Au nu cu := by
  obtain ⟨u', hu', hsp⟩ := h
  obtain ⟨Au, cu, e, -⟩ := spans_later hsp
  have e9 : u = u' := by simpa using hu'
  exact ⟨Au, _, cu, e9.trans e⟩
set_option maxRecDepth 100000 in
set_option maxHeartbeats 4000000 in
theorem refListed_any (l : List SubD) (v : Value) (w : World) (h : RSubs w.heap.size w v l) :
    Calls Try.prog 110 #[v] w fun e w' => e = .returned (.int .i64 (subsE l)) ∧ Below w.heap.size w w' := by
  obtain ⟨A, c, rfl, hlm, HD⟩ := subs_later h
  obtain ⟨n, hn⟩ : ∃ n, l.length = n := ⟨_, rfl⟩
  obtain ⟨fe, hfe⟩ : ∃ r, fsE [] l = r := ⟨_, rfl⟩
  obtain ⟨r, hr⟩ : ∃ r, subsE l = r := ⟨_, rfl⟩
  have HR : Hid (r = if 500 < n then 2 else fe) := by show _ = _; rw [← hr, ← hn, ← hfe]; rfl
  rw [hn] at hlm
  rw [hn, hr]
  have HN := Lib.hid hn
  have HFE := Lib.hid hfe
  clear h hn hfe hr
  by_cases h4 : 500 < n
  · have HX : Hid (r = 2) := by show _ = _; rw [HR.out, if_pos h4]
    go_enter Try.func110, Try.ntmps110
    go_wp2_with fail
    go_ret
    exact ⟨ri HX.out, Below.refl _ _⟩
  have HR1 : Hid (r = fe) := by show _ = _; rw [HR.out, if_neg h4]
  clear HR
  go_enter Try.func110, Try.ntmps110
  go_wp2_with fail
  go_loopw [3] (fun i wr => ∃ k : Nat, k ≤ n ∧ i = .int .i64 k ∧ Hid (∃ met, fsE met (l.drop k) = fe ∧ ∀ a, a ∈ met ↔ ∃ i x, i < k ∧ l[i]? = some x ∧ x.id = a) ∧ Hid (Below w.heap.size w wr)) (fun i _ => n - (intOf i).toNat)
  case atStart => exact ⟨0, Nat.zero_le _, rfl, ⟨[], HFE.out, fun a => by simp⟩, Below.refl _ _⟩
  case round =>
  obtain ⟨k, hk, rfl, hf, hB⟩ := hrel
  obtain ⟨X, rfl⟩ : ∃ X : World, X = wr := ⟨_, rfl⟩
  by_cases hlt : k < n
  · obtain ⟨x, hx⟩ : ∃ x, l[k]? = some x := ⟨_, List.getElem?_eq_getElem (by rw [HN.out]; exact hlt)⟩
    obtain ⟨g, o, u, rfl, HX⟩ := HD.out k x hx
    obtain ⟨Au, nu, cu, rfl⟩ := sub_slice (w := w) (HX.out X hB.out).2
    obtain ⟨⟨c0, c1, c2', c3, c4⟩, hrs⟩ := HX.out X hB.out
    have HXX := Lib.hid hx
    have CF := Lib.hid (refFine_any x _ X hrs)
    obtain ⟨ob, hob⟩ : ∃ b, subB x = b := ⟨_, rfl⟩
    rw [hob] at CF
    have HOB := Lib.hid hob
    have HFQ : Hid (∃ met, (if subB x then (if x.id ∈ met then 10 else fsE (addS met x.id) (l.drop (k + 1))) else 120) = fe ∧ ∀ a, a ∈ met ↔ ∃ i x, i < k ∧ l[i]? = some x ∧ x.id = a) := by
      obtain ⟨met, h1, h2⟩ := hf.out
      rw [drop_cons hx] at h1
      exact ⟨met, h1, h2⟩
    have H120 : Hid (subB x = false → r = 120) := fun h0 => by
      obtain ⟨met, h1, -⟩ := HFQ.out
      rw [h0] at h1
      rw [HR1.out, ← h1]
      rfl
    have H10 : Hid (subB x = true → ∀ j x', j < k → l[j]? = some x' → x'.id = x.id → r = 10) := fun h0 j x' hj hx' he => by
      obtain ⟨met, h1, h2⟩ := HFQ.out
      rw [if_pos h0, if_pos ((h2 _).2 ⟨j, x', hj, hx', he⟩)] at h1
      rw [HR1.out, ← h1]
    have HGO : Hid (subB x = true → (∀ j x', j < k → l[j]? = some x' → ¬ x'.id = x.id) → ∃ met, fsE met (l.drop (k + 1)) = fe ∧ ∀ a, a ∈ met ↔ ∃ i x, i < k + 1 ∧ l[i]? = some x ∧ x.id = a) := fun h0 hno => by
      obtain ⟨met, h1, h2⟩ := HFQ.out
      have h3 : ¬ x.id ∈ met := fun h3 => by
        obtain ⟨j, x', hj, hx', he⟩ := (h2 _).1 h3
        exact hno j x' hj hx' he
      rw [if_pos h0, if_neg h3] at h1
      refine ⟨_, h1, fun a => ?_⟩
      rw [addS_mem, h2]
      constructor
      · rintro (rfl | ⟨i, x', hi, hx', he⟩)
        · exact ⟨k, x, by omega, HXX.out, rfl⟩
        · exact ⟨i, x', by omega, hx', he⟩
      · rintro ⟨i, x', hi, hx', he⟩
        by_cases hik : i = k
        · subst hik
          rw [HXX.out] at hx'
          cases hx'
          exact .inl he.symm
        · exact .inr ⟨i, x', by omega, hx', he⟩
    obtain ⟨za, hza⟩ : ∃ z, x.id = z := ⟨_, rfl⟩
    have HZC : Hid (∀ Y, Below w.heap.size w Y → Y.cell? ⟨g, o + k * 5, none⟩ = some (.int .i64 za)) := fun Y hY => by rw [← hza]; exact (HX.out Y hY).1.1
    rw [hza] at H10 HGO
    have k0 : (0 : Int) ≤ (k : Int) := by omega
    have k1 : (k : Int) < (n : Int) := by omega
    clear hx hob hrs HX hf HFQ HXX hza
    go_wp2_with fail
    refine CF.out.mono ?_
    rintro _ X1 ⟨rfl, hb1⟩
    have HB1 : Hid (Below w.heap.size w X1) := hB.out.trans (hb1.mono hB.out.size)
    clear CF hb1 c0 c1 c2' c3 c4 hB
    cases ob with
    | false =>
      have HX := Lib.hid (H120.out HOB.out)
      go_wp2_with fail
      go_ret
      exact ⟨ri HX.out, HB1.out⟩
    | true =>
    clear H120
    go_wp2_with fail
    go_loopw [4] (fun i wr => ∃ j : Nat, j ≤ k ∧ i = .int .i64 j ∧ Hid (∀ i x', i < j → l[i]? = some x' → ¬ x'.id = za) ∧ Hid (Below w.heap.size w wr)) (fun i _ => k - (intOf i).toNat)
    case atStart => exact ⟨0, Nat.zero_le _, rfl, fun i x' hi => absurd hi (Nat.not_lt_zero _), HB1.out⟩
    case round =>
    clear HB1
    obtain ⟨j, hj, rfl, hno, hV⟩ := hrel
    obtain ⟨V, rfl⟩ : ∃ X : World, X = wr := ⟨_, rfl⟩
    have d0 := HZC.out V hV.out
    by_cases hjk : j < k
    · obtain ⟨x', hx'⟩ : ∃ x, l[j]? = some x := ⟨_, List.getElem?_eq_getElem (by rw [HN.out]; omega)⟩
      obtain ⟨g', o', u', e', HX'⟩ := HD.out j x' hx'
      cases e'
      obtain ⟨⟨f0, -⟩, -⟩ := HX'.out V hV.out
      obtain ⟨ya, hya⟩ : ∃ z, x'.id = z := ⟨_, rfl⟩
      rw [hya] at f0
      have HYA := Lib.hid hya
      have HXX' := Lib.hid hx'
      have j0 : (0 : Int) ≤ (j : Int) := by omega
      have j1 : (j : Int) < (n : Int) := by omega
      have j2 : (j : Int) < (k : Int) := by omega
      clear hx' hya HX'
      by_cases he : ya = za
      · have g1 : (ya == za) = true := by simpa using he
        have HX := Lib.hid (H10.out HOB.out j x' hjk HXX'.out (HYA.out.trans he))
        clear he
        go_wp2_with fail
        go_quiet (fail)
        go_wp2_with fail
        go_ret
        exact ⟨ri HX.out, below_drewN hV.out _⟩
      · have g1 : (ya == za) = false := by simpa using he
        have HNO : Hid (∀ i x', i < j + 1 → l[i]? = some x' → ¬ x'.id = za) := fun i x'' hi hx'' => by
          by_cases hij : i = j
          · subst hij
            rw [HXX'.out] at hx''
            cases hx''
            rw [HYA.out]
            exact he
          · exact hno.out i x'' (by omega) hx''
        clear he
        go_wp2_with fail
        go_quiet (fail)
        go_wp2_with fail
        go_roundw
        case rel => exact ⟨j + 1, by omega, by go_num, HNO, below_drewN hV.out _⟩
        case measure => simp [intOf]; omega
    · obtain rfl : j = k := by omega
      have HM := Lib.hid (HGO.out HOB.out hno.out)
      clear HGO H10 hno
      go_wp2_with fail
      go_roundw
      case rel => exact ⟨j + 1, by omega, by go_num, HM, hV⟩
      case measure => simp [intOf]; omega
  · obtain rfl : k = n := by omega
    have HX : Hid (r = 0) := by
      obtain ⟨met, h1, -⟩ := hf.out
      rw [List.drop_eq_nil_of_le (by rw [HN.out]; exact Nat.le_refl _)] at h1
      show _ = _
      rw [HR1.out, ← h1]
      rfl
    clear hf
    go_wp2_with fail
    go_ret
    exact ⟨ri HX.out, hB.out⟩
set_option maxRecDepth 100000 in
set_option maxHeartbeats 4000000 in
theorem refRound_any (l : List SubD) (d : Int) (v : Value) (w : World) (h : RSubs w.heap.size w v l) :
    Calls Try.prog 63 #[v, .int .i64 d] w (RdRet l d w) := by
  have C1 := Lib.hid (refListed_any l v w h)
  have HR := Lib.hid h
  obtain ⟨A, c, rfl, hlm, -⟩ := subs_later h
  obtain ⟨n, hn⟩ : ∃ n, l.length = n := ⟨_, rfl⟩
  obtain ⟨e, he⟩ : ∃ e, subsE l = e := ⟨_, rfl⟩
  obtain ⟨db, hdb⟩ : ∃ b, dayB d d = b := ⟨_, rfl⟩
  have HRE : Hid (rdE l d = if e = 0 then (if db then 0 else 6) else e) := by show _ = _; unfold rdE; rw [he, hdb]
  have CD : Hid (∀ Y, Calls Try.prog 98 #[.int .i64 d, .int .i64 0, .int .i64 20000] Y fun e w' => e = .returned (.bool db) ∧ Y = w') := fun Y => by
    have h1 := refIn_any d 0 20000 Y
    rw [show inB d 0 20000 = db by rw [← hdb, dayB_as]; simp] at h1
    exact h1
  rw [he] at C1
  rw [hn] at C1 hlm HR ⊢
  have HN := Lib.hid hn
  have HE := Lib.hid he
  have HDB := Lib.hid hdb
  obtain ⟨i0, hi0, hz0, hz1, hz2⟩ := info_parts infoInt0
  clear h hn he hdb
  by_cases h0 : e = 0
  case neg =>
    have hrb : (e != 0) = true := by simpa using h0
    have HX : Hid (rdE l d = e) := by show _ = _; rw [HRE.out, if_neg h0]
    have HF : Hid (∀ W, Below w.heap.size w W → RdRet l d w (.returned (.tuple #[.slice none 0 0, .int .i64 e])) W) := fun W hW => ⟨_, by rw [HX.out], by rw [HX.out, if_neg h0]; exact World.ownsRow_nil _ _ _ _, hW⟩
    clear h0
    go_enter Try.func63, Try.ntmps63
    go_wp2_with fail
    refine C1.out.mono ?_
    rintro _ W1 ⟨rfl, hb1⟩
    go_wp2_with fail
    go_ret2
    exact HF.out W1 hb1
  subst h0
  have hrb : ((0 : Int) != 0) = false := rfl
  cases db with
  | false =>
    have HX : Hid (rdE l d = 6) := by show _ = _; rw [HRE.out]; rfl
    have HF : Hid (∀ W, Below w.heap.size w W → RdRet l d w (.returned (.tuple #[.slice none 0 0, .int .i64 6])) W) := fun W hW => ⟨_, by rw [HX.out], by rw [HX.out, if_neg (by omega)]; exact World.ownsRow_nil _ _ _ _, hW⟩
    go_enter Try.func63, Try.ntmps63
    go_wp2_with fail
    refine C1.out.mono ?_
    rintro _ W1 ⟨rfl, hb1⟩
    have HB1 := Lib.hid hb1
    clear hb1 C1
    go_wp2_with fail
    refine (CD.out _).mono ?_
    rintro _ _ ⟨rfl, rfl⟩
    go_wp2_with fail
    go_ret2
    exact HF.out W1 HB1.out
  | true =>
  have HX : Hid (rdE l d = 0) := by show _ = _; rw [HRE.out]; rfl
  obtain ⟨hl5, hok⟩ := subsE_ok HE.out
  rw [HN.out] at hl5
  have HOK := Lib.hid hok
  have HDY : Hid (0 ≤ d ∧ d ≤ 20000) := by have := dayB_iff.1 HDB.out; exact ⟨by omega, by omega⟩
  clear hok
  go_enter Try.func63, Try.ntmps63
  go_wp2_with fail
  refine C1.out.mono ?_
  rintro _ W1 ⟨rfl, hb1⟩
  have HB1 := Lib.hid hb1
  have HR1 : Hid (RSubs W1.heap.size W1 (.slice A n c) l) := (HR.out.below hb1).more hb1.size
  clear hb1 C1
  go_wp2_with fail
  refine (CD.out _).mono ?_
  rintro _ _ ⟨rfl, rfl⟩
  obtain ⟨A', c', hsl, -, HD⟩ := subs_later HR1.out
  injection hsl with e1 e2 e3
  subst e1 e3
  have HO0 : Hid (W1.ownsRow W1.heap.size 3 1 (.slice none 0 0) (rdK l d 0).length ((rdK l d 0).map (Value.int .i64))) := World.ownsRow_nil _ _ _ _
  clear e2 CD
  go_wp2_with fail
  go_loopw [7, 8] (fun q i wr => ∃ k : Nat, k ≤ n ∧ i = .int .i64 k ∧ Hid (wr.ownsRow W1.heap.size 3 1 q (rdK l d k).length ((rdK l d k).map (Value.int .i64))) ∧ Hid (Below W1.heap.size W1 wr)) (fun _ i _ => n - (intOf i).toNat)
  case atStart => exact ⟨0, Nat.zero_le _, rfl, HO0, Below.refl _ _⟩
  case round =>
  clear HO0
  obtain ⟨k, hk, rfl, hO, hB⟩ := hrel
  obtain ⟨X, rfl⟩ : ∃ X : World, X = wr := ⟨_, rfl⟩
  obtain ⟨Av, cv, rfl⟩ := ownsRow_form hO.out
  have hlk := rdK_len l d k
  obtain ⟨m, hm⟩ : ∃ m, (rdK l d k).length = m := ⟨_, rfl⟩
  rw [hm] at hO hlk ⊢
  have HM := Lib.hid hm
  clear hm
  by_cases hlt : k < n
  · obtain ⟨x, hx⟩ : ∃ x, l[k]? = some x := ⟨_, List.getElem?_eq_getElem (by rw [HN.out]; exact hlt)⟩
    obtain ⟨g, o, u, rfl, HXX⟩ := HD.out k x hx
    obtain ⟨Au, nu, cu, rfl⟩ : ∃ Au nu cu, u = .slice Au nu cu := by
      obtain ⟨-, u', hu', hsp⟩ := HXX.out X hB.out
      obtain ⟨Au, cu, e, -⟩ := spans_later hsp
      have e9 : u = u' := by simpa using hu'
      exact ⟨Au, _, cu, e9.trans e⟩
    obtain ⟨⟨c0, c1, c2', c3', c4'⟩, -⟩ := HXX.out X hB.out
    have CG := Lib.hid (refGetsC_any x (subB_ok (HOK.out x (List.mem_of_getElem? hx))) d HDY.out _ X (HXX.out X hB.out).2)
    rw [← getB_gets (subB_ok (HOK.out x (List.mem_of_getElem? hx))) HDY.out.1] at CG
    obtain ⟨gb, hgb⟩ : ∃ b, x.getB d = b := ⟨_, rfl⟩
    rw [hgb] at CG
    have hnx := rdK_next (d := d) hx
    rw [hgb] at hnx
    have HNX := Lib.hid hnx
    have HXC : Hid (∀ Y, Below W1.heap.size W1 Y → Y.cell? ⟨g, o + k * 5, none⟩ = some (.int .i64 x.id)) := fun Y hY => (HXX.out Y hY).1.1
    have k0 : (0 : Int) ≤ (k : Int) := by omega
    have k1 : (k : Int) < (n : Int) := by omega
    clear hx HXX hgb hnx
    go_wp2_with fail
    refine CG.out.mono ?_
    rintro _ X2 ⟨rfl, hb2⟩
    have HB2 : Hid (Below W1.heap.size W1 X2) := hB.out.trans (hb2.mono hB.out.size)
    have HO2 : Hid (X2.ownsRow W1.heap.size 3 1 (.slice Av m cv) m ((rdK l d k).map (Value.int .i64))) := ownsRow_below hO.out hb2
    have d5 := HXC.out X2 HB2.out
    clear CG hb2 c0 c1 c2' c3' c4' hO hB
    cases gb with
    | false =>
      have HNX2 : Hid (rdK l d (k + 1) = rdK l d k) := by show _ = _; rw [HNX.out]; rfl
      go_wp2_with fail
      go_roundw
      case rel =>
        refine ⟨k + 1, by omega, by go_num, ?_, HB2⟩
        show World.ownsRow _ _ _ _ _ _ _
        rw [HNX2.out, HM.out]
        exact HO2.out
      case measure => simp [intOf]; omega
    | true =>
      have HNX2 : Hid (rdK l d (k + 1) = rdK l d k ++ [x.id]) := by show _ = _; rw [HNX.out]; rfl
      have F3 : ∃ X3, X2.alloc (.cells #[.int .i64 x.id] 3) = X3 ∧ Hid (Below X2.heap.size X2 X3) := ⟨_, rfl, below_alloc _ _⟩
      obtain ⟨X3, e3, HX3⟩ := F3
      have E3 := Lib.hid e3
      have HB3 : Hid (Below W1.heap.size W1 X3) := HB2.out.trans (HX3.out.mono HB2.out.size)
      have HO3 : Hid (X3.ownsRow W1.heap.size 3 1 (.slice Av m cv) m ((rdK l d k).map (Value.int .i64))) := ownsRow_below HO2.out HX3.out
      have HC3 := Lib.hid (cells_new X2 #[.int .i64 x.id] 3)
      rw [e3] at HC3
      clear e3
      go_wp2_with (at_builtin; rw [E3.out]; refine wpList_append_own _ rfl _ _ 31 rfl W1.heap.size 3 i0 _ 1 8 sliceInts hi0 hz0 hz1 hz2 rfl (by decide) (.slice Av m cv) m ((rdK l d k).map (Value.int .i64)) rfl HO3.out ⟨X2.heap.size, 0, none⟩ 1 1 [.int .i64 x.id] rfl rfl HC3.out (by simp [Value.oneCell']) (by simp only [maxLen]; omega) (by omega) HB3.out.size ?_; intro v2 w2 hO4 hG4 hN4)
      have hB4 : Below W1.heap.size W1 w2 := HB3.out.trans ((KeptBut.grown (S := fun j => some j = (Value.slice Av m cv).ownBlock) hG4 fun j hj => hj).below (fun i hi => (ownsRow_own HO3.out hi.symm).1) HB3.out.size)
      refine ⟨⟨k + 1, by omega, by go_num, ?_, hB4⟩, by simp [intOf]; omega⟩
      show World.ownsRow _ _ _ _ _ _ _
      rw [HNX2.out, List.length_append, List.map_append, HM.out]
      exact hO4
  · obtain rfl : k = n := by omega
    have HF : Hid (RdRet l d w (.returned (.tuple #[.slice Av m cv, .int .i64 0])) X) := by
      refine ⟨_, by rw [HX.out], ?_, HB1.out.trans (hB.out.mono HB1.out.size)⟩
      rw [HX.out, if_pos rfl, HN.out]
      unfold OInts
      rw [HM.out]
      exact ownsRow_base hO.out HB1.out.size
    clear hO hB
    go_wp2_with fail
    go_ret2
    exact HF.out
end Go.Proofs.Ytlmpbmlbllndcaa
