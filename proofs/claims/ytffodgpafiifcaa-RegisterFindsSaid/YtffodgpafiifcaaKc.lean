/-
  RegisterFinds: the walk (draft).
-/
import Derived.Test.YtffodgpafiifcaaNd
import Derived.Test.YtffodgpafiifcaaDg
import Derived.Test.YtffodgpafiifcaaEc
namespace Go.Proofs.Ytffodgpafiifcaa
open Go.RowKit

/-- The pattern under way. -/
def PatSt (w : World) (W : Int) (gaps : List Int) (k : Nat) (q : Value) (X : World) : Prop := OInts w.heap.size X q (patTo W gaps k) ∧ Below w.heap.size w X

set_option maxRecDepth 100000 in
set_option maxHeartbeats 8000000 in
theorem Finds_any (vg vm vb : Value) (gaps missing beside : List Int) (a s t : Int) (w : World) (hg : RInts w.heap.size w vg gaps) (hm : RInts w.heap.size w vm missing) (hb : RInts w.heap.size w vb beside) :
    Calls Try.prog 9 #[vg, .int .i64 a, .int .i64 s, vm, vb, .int .i64 t] w fun en w' => en = .returned (.bool true) ∧ Below w.heap.size w w' := by
  have Hm := Lib.hid hm
  have Hb := Lib.hid hb
  obtain ⟨A1, c1, rfl, -, hA⟩ := hg.open_
  obtain ⟨A2, c2, rfl, -, -⟩ := hm.open_
  obtain ⟨A3, c3, rfl, -, -⟩ := hb.open_
  have HA := Lib.hid hA
  obtain ⟨n1, hn1⟩ : ∃ n, gaps.length = n := ⟨_, rfl⟩
  obtain ⟨n2, hn2⟩ : ∃ n, missing.length = n := ⟨_, rfl⟩
  obtain ⟨n3, hn3⟩ : ∃ n, beside.length = n := ⟨_, rfl⟩
  have N1 := Lib.hid hn1
  have N2 := Lib.hid hn2
  have N3 := Lib.hid hn3
  rw [hn1] at ⊢
  rw [hn2] at Hm ⊢
  rw [hn3] at Hb ⊢
  clear hg hm hb hA hn1 hn2 hn3
  go_enter Try.func9, Try.ntmps9
  by_cases hbig : ¬ (1 ≤ n1 ∧ n1 ≤ 11 ∧ n2 ≤ 20 ∧ n3 ≤ 10)
  · have CA := Lib.hid (awake_any w)
    rcases (show (n1 : Int) < 1 ∨ (¬ (n1 : Int) < 1 ∧ (11 : Int) < (n1 : Int)) ∨ (¬ (n1 : Int) < 1 ∧ ¬ (11 : Int) < (n1 : Int) ∧ (20 : Int) < (n2 : Int)) ∨ (¬ (n1 : Int) < 1 ∧ ¬ (11 : Int) < (n1 : Int) ∧ ¬ (20 : Int) < (n2 : Int) ∧ (10 : Int) < (n3 : Int)) by omega) with h1 | ⟨h1, h2⟩ | ⟨h1, h2, h3⟩ | ⟨h1, h2, h3, h4⟩
    all_goals
      clear hbig
      go_wp2_with fail
      refine CA.out.mono ?_
      rintro en w9 ⟨rfl, hb9⟩
      go_wp2
      go_ret
      exact ⟨rfl, hb9⟩
  have i1 : ¬ (n1 : Int) < 1 := by omega
  have i2 : ¬ (11 : Int) < (n1 : Int) := by omega
  have i3 : ¬ (20 : Int) < (n2 : Int) := by omega
  have i4 : ¬ (10 : Int) < (n3 : Int) := by omega
  have hs1 : 1 ≤ n1 := by omega
  have hs2 : n1 ≤ 11 := by omega
  have hs3 : n2 ≤ 20 := by omega
  have hs4 : n3 ≤ 10 := by omega
  clear hbig
  have C1 := Lib.hid (pick_any a 501 (by omega) (by omega))
  have q1 := Int.emod_nonneg a (show (501 : Int) ≠ 0 by omega)
  have q2 := Int.emod_lt_of_pos a (show (0 : Int) < 501 by omega)
  obtain ⟨W, hW⟩ : ∃ W, a % 501 = W := ⟨_, rfl⟩
  rw [hW] at C1 q1 q2
  clear hW
  go_wp2_with fail
  refine (C1.out _).mono ?_
  rintro en w' ⟨rfl, rfl⟩
  clear C1
  have hsh : s.tmod 2001 ≤ 2000 ∧ -2000 ≤ s.tmod 2001 := by
    rw [Int.tmod_eq_emod]
    have h1 := Int.emod_nonneg s (show (2001 : Int) ≠ 0 by omega)
    have h2 := Int.emod_lt_of_pos s (show (0 : Int) < 2001 by omega)
    have h3 : ((2001 : Int).natAbs : Int) = 2001 := rfl
    split <;> omega
  have hoh : t.tmod 2001 ≤ 2000 ∧ -2000 ≤ t.tmod 2001 := by
    rw [Int.tmod_eq_emod]
    have h1 := Int.emod_nonneg t (show (2001 : Int) ≠ 0 by omega)
    have h2 := Int.emod_lt_of_pos t (show (0 : Int) < 2001 by omega)
    have h3 : ((2001 : Int).natAbs : Int) = 2001 := rfl
    split <;> omega
  obtain ⟨S, hS⟩ : ∃ S, s.tmod 2001 = S := ⟨_, rfl⟩
  obtain ⟨T, hT⟩ : ∃ T, t.tmod 2001 = T := ⟨_, rfl⟩
  rw [hS] at hsh
  rw [hT] at hoh
  obtain ⟨w2, e2, B2⟩ : ∃ w2, w.alloc (.cells #[.int .i64 0] 3) = w2 ∧ Below w.heap.size w w2 := ⟨_, rfl, below_alloc _ _⟩
  have V2 : Blk w2 w.heap.size 3 #[.int .i64 0] := e2 ▸ Blk.new _ _ _
  have E2 := Lib.hid e2
  have HB2 := Lib.hid B2
  have HV2 := Lib.hid V2
  clear e2 B2 V2
  go_upto_region 6 with fail
  rw [E2.out]
  have O2 : OInts w.heap.size w2 (.slice (some ⟨w.heap.size, 0, none⟩) 1 1) (patTo W gaps 0) := by
    refine ⟨by simp [patTo], .inr ⟨w.heap.size, 1, _, by simp [patTo], Nat.le_refl _, HV2.out, by simp [patTo], by simp [maxLen], by simp, ?_⟩⟩
    simp [patTo]
  have HO2 := Lib.hid O2
  obtain ⟨i0, hi, hz0, hz1, hz2⟩ := info_parts infoInt0
  clear O2 hS hT E2 HV2
  obtain ⟨bP, hbP⟩ : ∃ b, w.heap.size = b := ⟨_, rfl⟩
  have HbP := Lib.hid hbP
  rw [hbP] at HO2 ⊢
  clear hbP
  go_wp2
  go_loopw [13, 14] (fun q i wr => ∃ k : Nat, k ≤ n1 ∧ i = .int .i64 k ∧ PatSt w W gaps k q wr) (fun _ i _ => n1 - (intOf i).toNat)
  case atStart => exact ⟨0, Nat.zero_le _, rfl, by rw [HbP.out]; exact HO2.out, HB2.out⟩
  case round =>
    obtain ⟨k, hk, rfl, hO, hbr⟩ := hrel
    have HOq := Lib.hid hO
    have HBr := Lib.hid hbr
    obtain ⟨Aq, cq, rfl⟩ := ownsRow_form hO
    rw [patTo_len] at HOq ⊢
    have hzr : w.heap.size ≤ wr.heap.size := hbr.size
    clear hO hbr
    by_cases hlt : k < n1
    · obtain ⟨g, o, x, rfl, hg, cx, hx⟩ := HA.out k (by rw [N1.out]; exact hlt)
      have HLx := Lib.hid (get_some (by rw [N1.out]; exact hlt) hx.out)
      have cx' := (HBr.out.cell (p := ⟨g, o + k, none⟩) hg).trans cx
      have hrv : RInts wr.heap.size wr (.slice Aq (k + 1) cq) (patTo W gaps k) := Rd.own HOq.out (own_le HOq.out)
      obtain ⟨A9, c9, h9e, -, hA9⟩ := hrv.open_
      rw [patTo_len] at h9e
      cases h9e
      obtain ⟨g9, o9, y, rfl, hlt9, cy, hyy⟩ := hA9 k (by rw [patTo_len]; omega)
      have hy1 := get_some (by rw [patTo_len]; omega) hyy.out
      rw [patTo_at (Nat.le_refl _)] at hy1
      have hy2 : ((gaps.take k).map (gapD W)).sum = y := by simpa using hy1
      have hgs := gap_sum_le (W := W) (by omega) gaps k
      have hgd := gapD_le (W := W) (by omega) x
      have hnx := patTo_next (W := W) HLx.out
      rw [hy2] at hgs hnx
      have hgx : gapD W x = 4 * W + 1 + x % 4000 := rfl
      obtain ⟨r, hr⟩ : ∃ r, x % 4000 = r := ⟨_, rfl⟩
      rw [hr] at hgx
      rw [hgx] at hgd hnx
      have CP : Hid (∀ Y, Calls Try.prog 39 #[.int .i64 x, .int .i64 4000] Y fun e w' => e = .returned (.int .i64 r) ∧ Y = w') := fun Y => by
        have h9 := pick_any x 4000 (by omega) (by omega) Y
        rwa [hr] at h9
      have kw1 : IntKind.i64.wrap (4 * W) = 4 * W := IntWalk.i64_in _ ⟨by omega, by omega⟩
      have kw2 : IntKind.i64.wrap (y + 4 * W) = y + 4 * W := IntWalk.i64_in _ ⟨by omega, by omega⟩
      have kw3 : IntKind.i64.wrap (y + 4 * W + 1) = y + 4 * W + 1 := IntWalk.i64_in _ ⟨by omega, by omega⟩
      have kw4 : IntKind.i64.wrap (y + 4 * W + 1 + r) = y + 4 * W + 1 + r := IntWalk.i64_in _ ⟨by omega, by omega⟩
      have ik : (k : Int) < (n1 : Int) := by omega
      have ik0 : (0 : Int) ≤ (k : Int) := by omega
      have ik1 : (k : Int) < (k : Int) + 1 := by omega
      have Hnx : Hid (patTo W gaps (k + 1) = patTo W gaps k ++ [y + 4 * W + 1 + r]) := by show _ = _; rw [hnx]; congr 2; omega
      have HW9 : Hid (wr.ownsRow w.heap.size 3 1 (.slice (some ⟨g9, o9, none⟩) (k + 1) cq) (k + 1) ((patTo W gaps k).map (Value.int .i64))) := by
        have h9 := HOq.out
        unfold OInts at h9
        rw [patTo_len] at h9
        exact h9
      clear hx cx hrv hA9 hyy hy1 hy2 hnx hgx hr
      go_upto_region 9 with fail
      clear ik0
      go_region_law (first | (refine step_append_lies _ (by rfl) _ _ _ (by rfl) w.heap.size 3 i0 (.int .i64 0) 1 8 sliceInts hi hz0 hz1 hz2 rfl (by decide) (.slice (some ⟨g9, o9, none⟩) (k + 1) cq) (k + 1) _ (by rfl) (by first | exact HW9.out.alloc _ | exact (HW9.out.alloc _).drew) ⟨wr.heap.size, 0, none⟩ 1 1 [.int .i64 (y + 4 * W + 1 + r)] (by rfl) (by rfl) (World.news_of_block (cs := #[.int .i64 (y + 4 * W + 1 + r)]) (t := 3) (fr := (0, 0)) (heap_alloc_new wr _)) (by simp [Value.oneCell']) (by omega) (by simp only [maxLen]; omega) (by omega) (by simp; omega) (wr.heap.size + 1) (by simp) ?_; intro g8 c8 w6 hown' hgrow hat hlt9) | (go_simp; go_at_call 39; refine (CP.out _).mono ?_; rintro e w5 ⟨rfl, rfl⟩; go_wp2_with fail))
      all_goals
        have hO6 : OInts w.heap.size w6 (.slice (some ⟨g8, 0, none⟩) (k + 1 + 1) c8) (patTo W gaps (k + 1)) := by
          rw [Hnx.out]
          unfold OInts
          rw [List.map_append, List.length_append, patTo_len]
          exact hown'
        have hb6 : Below w.heap.size w w6 := by
          refine (HBr.out.alloc HBr.out.size _).grown ⟨hgrow.os, ?_, hgrow.output, hgrow.size, hgrow.block⟩ (by have := HBr.out.size; simp; omega) fun j hj => (HW9.out.lt j hj).1
          exact hgrow.tape
        clear hown' hgrow hat cx' cy
        refine NoPanic.normal ?_
        go_wp2
        go_roundw
        case rel => exact ⟨k + 1, by omega, by go_num, hO6, hb6⟩
        case measure => simp [intOf]; omega
    · obtain rfl : n1 = k := by omega
      obtain ⟨P, hP⟩ : ∃ P, patTo W gaps n1 = P := ⟨_, rfl⟩
      have hPl : P.length = n1 + 1 := by rw [← hP]; exact patTo_len _ _ _
      have hPA : AllowOk P W := by
        have h := pat_allow (W := W) ⟨q1, by omega⟩ (gaps := gaps) (by rw [N1.out]; omega)
        rw [N1.out, hP] at h
        exact h
      have hPp : ∀ x ∈ P, 0 ≤ x ∧ x ≤ 66000 := by rw [← hP]; exact pat_place ⟨q1, by omega⟩ hs2
      have hRP : RInts wr.heap.size wr (.slice Aq (n1 + 1) cq) P := by
        rw [← hP]
        exact Rd.own HOq.out (own_le HOq.out)
      obtain ⟨m, hm⟩ : ∃ m, n1 + 1 = m := ⟨_, rfl⟩
      rw [hm] at hPl hRP ⊢
      have hm2 : 2 ≤ m ∧ m ≤ 12 := by omega
      have HPl := Lib.hid hPl
      have HPA := Lib.hid hPA
      have HPp := Lib.hid hPp
      have HRP := Lib.hid hRP
      obtain ⟨w3, hw3⟩ : ∃ w3, w3 = wr := ⟨_, rfl⟩
      subst hw3
      have CA := Lib.hid awake_any
      have hmm := @run_makeMap Try.prog
      clear hPl hPA hPp hRP hP hm hlt hk HOq HA N1 HO2 hs1 hs2 i1 i2 HB2 HbP N2 N3
      obtain ⟨w4, e4, B4, S4⟩ : ∃ w4, w3.alloc (.map #[] 0) = w4 ∧ Below w3.heap.size w3 w4 ∧ SetAt w4 w3.heap.size [] := ⟨_, rfl, below_alloc _ _, SetAt.new _⟩
      have E4 := Lib.hid e4
      have HS4 : Hid (SetSt w3 [] w4) := Lib.hid ⟨S4, B4⟩
      clear e4 B4 S4
      go_upto_region 11 with fail
      rw [E4.out]
      clear hmm
      go_wp2
      go_loopw [16, 17, 18, 19, 20] (fun tq iq _ _ _ wr => ∃ (k tt : Nat) (l : List Int), k ≤ m ∧ iq = .int .i64 k ∧ tq = .int .i64 tt ∧ SeenTo P S W k l tt ∧ SetSt w3 l wr) (fun _ iq _ _ _ _ => m - (intOf iq).toNat)
      case atStart => exact ⟨0, 0, [], Nat.zero_le _, rfl, rfl, SeenTo.start _ _ _, HS4.out⟩
      case round =>
        obtain ⟨k, tt, l, hk, rfl, rfl, hsn, hst⟩ := hrel
        have HSN := Lib.hid hsn
        have HST := Lib.hid hst
        have htt := hsn.le
        have hww : Below w.heap.size w wr := HBr.out.trans (hst.2.mono HBr.out.size)
        clear hsn HS4
        by_cases hlt : k < m
        · obtain ⟨p, hp⟩ : ∃ p, P[k]? = some p := ⟨_, List.getElem?_eq_getElem (by rw [HPl.out]; exact hlt)⟩
          have hpb := HPp.out p (List.mem_of_getElem? hp)
          obtain ⟨g, o, rfl, hgb, cx⟩ := HRP.out.at hp
          have cx' := (hst.2.cell (p := ⟨g, o + k, none⟩) hgb).trans cx
          have HP1 := Lib.hid hp
          have ik : (k : Int) < (m : Int) := by omega
          clear cx hp
          by_cases h2 : 0 < n2
          · obtain ⟨j, hj⟩ : ∃ j, k % n2 = j := ⟨_, rfl⟩
            have hj1 : j < n2 := by rw [← hj]; exact Nat.mod_lt _ h2
            have hji : (k : Int) % (n2 : Int) = (j : Int) := by rw [← hj]; exact (Int.natCast_emod k n2).symm
            obtain ⟨x, hx⟩ : ∃ x, missing[j]? = some x := by
              refine ⟨_, List.getElem?_eq_getElem ?_⟩
              obtain ⟨A9, c9, e9, -⟩ := Hm.out
              have h9 : n2 = missing.length := by injection e9
              omega
            obtain ⟨g2, o2, rfl, hgb2, cy⟩ := Hm.out.at hx
            have cy' := (hww.cell (p := ⟨g2, o2 + j, none⟩) hgb2).trans cy
            have i5 : (0 : Int) < (n2 : Int) := by omega
            have hne : ¬ (n2 : Int) = 0 := by omega
            have hne2 : ((n2 : Int) == 0) = false := by simpa using hne
            have ij : (j : Int) < (n2 : Int) := by omega
            have hM0 : 1 ≤ 2 * W + 1 ∧ 2 * W + 1 ≤ 1000000 := by omega
            have CP : Hid (∀ Y, Calls Try.prog 39 #[.int .i64 x, .int .i64 (2 * W + 1)] Y fun e w' => e = .returned (.int .i64 (x % (2 * W + 1))) ∧ Y = w') := fun Y => pick_any x (2 * W + 1) hM0.1 hM0.2 Y
            have hf1 := Int.emod_nonneg x (show 2 * W + 1 ≠ 0 by omega)
            have hf2 := Int.emod_lt_of_pos x (show 0 < 2 * W + 1 by omega)
            obtain ⟨f, hfe⟩ : ∃ f, x % (2 * W + 1) = f := ⟨_, rfl⟩
            rw [hfe] at CP hf1 hf2
            clear hx cy hj hst hww hfe hM0
            obtain ⟨Z, hZ⟩ : ∃ Z, x.tmod 3 = Z := ⟨_, rfl⟩
            have kZ : IntKind.i64.wrap Z = Z := by
              rw [← hZ]
              have h2 := Int.emod_nonneg x (show (3 : Int) ≠ 0 by omega)
              have h3 := Int.emod_lt_of_pos x (show (0 : Int) < 3 by omega)
              have h4 : ((3 : Int).natAbs : Int) = 3 := rfl
              refine IntWalk.i64_in _ ?_
              rw [Int.tmod_eq_emod]
              split <;> omega
            by_cases hz : Z = 0
            · have hz1' : (Z == 0) = true := by simpa using hz
              subst hz
              go_wp2_with fail
              refine (CP.out _).mono ?_
              rintro _ _ ⟨rfl, rfl⟩
              go_wp2
              go_roundw
              case rel => exact ⟨k + 1, tt, l, by omega, by go_num, rfl, HSN.out.gone HP1.out, HST.out⟩
              case measure => simp [intOf]; omega
            · have hz1' : (Z == 0) = false := by simpa using hz
              go_wp2_with fail
              refine (CP.out _).mono ?_
              rintro _ _ ⟨rfl, rfl⟩
              go_wp2_with (at_mapUpdate; refine wpList_setPut _ underInt rfl _ _ _ 98 rfl seenMap w3.heap.size l (p + S + (f - W)) rfl rfl rfl HST.out.1 ?_; intro w6 hs6 hg6)
              go_roundw
              case rel => exact ⟨k + 1, tt + 1, _, by omega, by go_num, by go_num, HSN.out.hit HP1.out (by omega) (by omega), HST.out.put hs6 hg6⟩
              case measure => simp [intOf]; omega
          · have h20 : ¬ (0 : Int) < (n2 : Int) := by omega
            clear hst hww
            go_wp2_with (at_mapUpdate; refine wpList_setPut _ underInt rfl _ _ _ 98 rfl seenMap w3.heap.size l (p + S) rfl rfl rfl HST.out.1 ?_; intro w6 hs6 hg6)
            go_roundw
            case rel => exact ⟨k + 1, tt + 1, _, by omega, by go_num, by go_num, HSN.out.hit HP1.out (by omega) (by omega), HST.out.put hs6 hg6⟩
            case measure => simp [intOf]; omega
        · obtain rfl : m = k := by omega
          have HBS : Hid (BesideTo P S W 0 l tt) := Lib.hid (by
            have h9 := HSN.out
            rw [← HPl.out] at h9
            exact h9.beside (by rw [HPl.out]; omega))
          obtain ⟨wk, hwk⟩ : ∃ wk, wk = wr := ⟨_, rfl⟩
          subst hwk
          clear HSN hst hww hk hlt htt Hm hs3 i3
          go_wp2
          go_loopw [21] (fun iq wr => ∃ (k : Nat) (l : List Int), k ≤ n3 ∧ iq = .int .i64 k ∧ BesideTo P S W k l tt ∧ SetSt w3 l wr) (fun iq _ => n3 - (intOf iq).toNat)
          case atStart => exact ⟨0, l, Nat.zero_le _, rfl, HBS.out, HST.out⟩
          case round =>
            clear HBS HST
            obtain ⟨k, l, hk, rfl, hbs, hst⟩ := hrel
            have HBS := Lib.hid hbs
            have HST := Lib.hid hst
            have hww : Below w.heap.size w wr := HBr.out.trans (hst.2.mono HBr.out.size)
            clear hbs
            by_cases hlt : k < n3
            · obtain ⟨x, hx⟩ : ∃ x, beside[k]? = some x := by
                refine ⟨_, List.getElem?_eq_getElem ?_⟩
                obtain ⟨A9, c9, e9, -⟩ := Hb.out
                have h9 : n3 = beside.length := by injection e9
                omega
              obtain ⟨g2, o2, rfl, hgb2, cy⟩ := Hb.out.at hx
              have cy' := (hww.cell (p := ⟨g2, o2 + k, none⟩) hgb2).trans cy
              have ik : (k : Int) < (n3 : Int) := by omega
              have CP : Hid (∀ Y, Calls Try.prog 39 #[.int .i64 x, .int .i64 100000] Y fun e w' => e = .returned (.int .i64 (x % 100000)) ∧ Y = w') := fun Y => pick_any x 100000 (by omega) (by omega) Y
              have hf1 := Int.emod_nonneg x (show (100000 : Int) ≠ 0 by omega)
              have hf2 := Int.emod_lt_of_pos x (show (0 : Int) < 100000 by omega)
              obtain ⟨f, hfe⟩ : ∃ f, x % 100000 = f := ⟨_, rfl⟩
              rw [hfe] at CP hf1 hf2
              clear hx cy hst hww hfe
              go_wp2_with fail
              refine (CP.out _).mono ?_
              rintro _ _ ⟨rfl, rfl⟩
              go_wp2_with (at_mapUpdate; refine wpList_setPut _ underInt rfl _ _ _ 98 rfl seenMap w3.heap.size l f rfl rfl rfl HST.out.1 ?_; intro w6 hs6 hg6)
              go_roundw
              case rel => exact ⟨k + 1, _, by omega, by go_num, HBS.out.more (by omega), HST.out.put hs6 hg6⟩
              case measure => simp [intOf]; omega
            · obtain rfl : n3 = k := by omega
              have hl22 := HBS.out.len
              obtain ⟨w7, hw7⟩ : ∃ w7, w7 = wr := ⟨_, rfl⟩
              subst hw7
              have hS7 := hst.1
              have hB7 := hst.2
              clear hst hww hk hlt HST Hb
              go_wp2_with (first | (at_range; refine wpList_range_iter _ rfl _ 98 rfl _ _ seenMap w3.heap.size l rfl hS7 ?_; intro w8 hS8 hI8 hg8 hs8) | go_in)
              go_frame
              have hrr : w3.heap.size < w7.heap.size := hS7.lt
              have hls : ListSt w3 w7.heap.size l #[] [] (.slice none 0 0) w8 := ⟨hS8, hI8, World.ownsRow_nil _ _ _ _, hB7.grown hg8 hB7.size fun j hj => by cases hj⟩
              have HLS := Lib.hid hls
              clear hls hS8 hI8 hg8 hs8 hS7 hB7
              generalize w7.heap.size = rr at *
              go_loopw [22, 23, 24, 25] (fun u _ _ _ wr => ∃ (got : Array Nat) (lst : List Int), SortTo l got lst ∧ ListSt w3 rr l got lst u wr) (fun _ _ _ _ wr => iterLeft l.length wr rr)
              case atStart => exact ⟨#[], [], SortTo.start _, HLS.out⟩
              case round =>
                clear HLS
                obtain ⟨got, lst, hso, hls⟩ := hrel
                have HSO := Lib.hid hso
                have HLS := Lib.hid hls
                clear hso
                go_wp2_with (first | (at_next; refine wpList_next_iter _ rfl _ rfl w3.heap.size rr l got rfl hls.1 hls.2.1 ?_ ?_) | go_in)
                · intro hdone
                  have HD : ∀ i, i < l.length → got.contains i = true := fun i hi => by simpa using hdone i hi
                  have HC := Lib.hid (HBS.out.cam hs4 HSO.out HD)
                  have hcnt := HBS.out.count hs4 HSO.out HD HPA.out ⟨by omega, hsh.1⟩
                  have HML := Lib.hid (HSO.out.all HD)
                  clear hdone HD
                  obtain ⟨wM, hwM⟩ : ∃ wM, wM = wr := ⟨_, rfl⟩
                  subst hwM
                  obtain ⟨Al, cl, rfl⟩ := ownsRow_form hls.2.2.1
                  obtain ⟨nl, hnl⟩ : ∃ n, lst.length = n := ⟨_, rfl⟩
                  have hnl40 := HC.out.len
                  have hRL : RInts wM.heap.size wM (.slice Al lst.length cl) lst := Rd.own hls.2.2.1 (own_le hls.2.2.1)
                  have hRM : RInts wM.heap.size wM (.slice Aq m cq) P := (HRP.out.below hls.2.2.2).more hls.2.2.2.size
                  rw [hnl] at hRL hnl40 ⊢
                  have HSM := Lib.hid hls.1
                  have HBM := Lib.hid hls.2.2.2
                  have hrM : w3.heap.size < wM.heap.size := hls.1.lt
                  have CM := Match_ok (.slice Aq m cq) (.slice Al nl cl) P W lst wM hRM hRL (HPA.out.pat (by rw [HPl.out]; exact hm2)) HC.out
                  have hbc := best_is (seen := lst) HPA.out
                  unfold fitVal at CM
                  obtain ⟨sh, ct, hbd⟩ : ∃ sh ct, bestD P W lst = (sh, ct) := ⟨_, _, rfl⟩
                  rw [hbd] at CM hbc hcnt
                  dsimp only at CM hbc hcnt
                  have hshb : -2000 ≤ sh ∧ sh ≤ 2000 := by
                    exact best_bound hbd
                  obtain ⟨cn, hcn⟩ : ∃ cn, countD P W lst sh = cn := ⟨_, rfl⟩
                  rw [hcn] at hbc
                  subst hbc
                  have hcn12 : cn ≤ 12 := by
                    have := countD_le P W lst sh
                    rw [hcn, HPl.out] at this
                    omega
                  have HBD := Lib.hid hbd
                  have HCN := Lib.hid hcn
                  have HRM := Lib.hid hRM
                  have HRL := Lib.hid hRL
                  have HNL := Lib.hid hnl
                  have CM := Lib.hid CM
                  clear hRM hRL hbd hcn hnl hls HSO HLS HRP HBS hl22
                  go_wp2_with fail
                  refine CM.out.mono ?_
                  rintro en w7 ⟨uF, rfl, hF, hb7⟩
                  have HF := Lib.hid hF
                  have HB7 := Lib.hid hb7
                  obtain ⟨AF, cF, rfl⟩ := ownsRow_form hF
                  clear hF hb7
                  go_upto_region 40 with fail
                  have hfl : (fitD P W lst).length = m := by rw [fitD_len]; exact HPl.out
                  have hRF : RInts w7.heap.size w7 (.slice AF (fitD P W lst).length cF) (fitD P W lst) := Rd.own HF.out (own_le HF.out)
                  rw [hfl] at hRF ⊢
                  obtain ⟨w8, e8, B8, K8⟩ : ∃ w8, w7.alloc (.cells #[.int .i64 sh, .int .i64 cn, .slice AF m cF] 52) = w8 ∧ Below w7.heap.size w7 w8 ∧ Blk w8 w7.heap.size 52 #[.int .i64 sh, .int .i64 cn, .slice AF m cF] := ⟨_, rfl, below_alloc _ _, Blk.new _ _ _⟩
                  rw [e8]
                  have hzM : wM.heap.size ≤ w7.heap.size := HB7.out.size
                  have HRP8 := Lib.hid (((HRM.out.below HB7.out).more hzM).below B8 |>.more B8.size)
                  have HRL8 := Lib.hid (((HRL.out.below HB7.out).more hzM).below B8 |>.more B8.size)
                  have HRF8 := Lib.hid ((hRF.below B8).more B8.size)
                  have HSM8 : Hid (SetAt w8 w3.heap.size l) := Lib.hid ((HSM.out.below HB7.out hrM).below B8 (by omega))
                  have HK8 := Lib.hid K8
                  have HB8 : Hid (Below w.heap.size w w8) := Lib.hid (HBr.out.trans ((HBM.out.mono HBr.out.size).trans ((HB7.out.mono (by have := HBr.out.size; omega)).trans (B8.mono (by have := HBr.out.size; omega)))))
                  have hbF8 : w7.heap.size < w8.heap.size := K8.lt
                  have hbS8 : w3.heap.size < w8.heap.size := by omega
                  have d0 := cellOf K8 0 (x := .int .i64 sh) rfl
                  have d1 := cellOf K8 1 (x := .int .i64 cn) rfl
                  have d2 := cellOf K8 2 (x := .slice AF m cF) rfl
                  have hcnt' : ¬ (cn : Int) < (tt : Int) := by omega
                  clear hRF hfl e8 B8 K8 HRM HRL HSM HBM HF hcnt
                  go_upto_region 42 with fail
                  go_wp2
                  clear d0 d1 d2 hcnt'
                  go_loopw [28, 29, 30, 31, 32] (fun nq mq iq _ _ wr => ∃ i : Nat, i ≤ m ∧ iq = .int .i64 i ∧ nq = .int .i64 (countD (P.take i) W lst T : Nat) ∧ mq = .int .i64 (countD (P.take i) W lst sh : Nat) ∧ Below w8.heap.size w8 wr) (fun _ _ iq _ _ _ => m - (intOf iq).toNat)
                  case atStart => exact ⟨0, Nat.zero_le _, rfl, rfl, rfl, Below.refl _ _⟩
                  case round =>
                    obtain ⟨i, hi9, rfl, rfl, rfl, hb8⟩ := hrel
                    obtain ⟨wo, hwo⟩ : ∃ wo, wo = wr := ⟨_, rfl⟩
                    subst hwo
                    have HB9 := Lib.hid hb8
                    have hzo := hb8.size
                    clear hb8
                    have hn12 : countD (P.take i) W lst T ≤ 12 := by have := countD_le (P.take i) W lst T; rw [List.length_take] at this; omega
                    have hm12 : countD (P.take i) W lst sh ≤ 12 := by have := countD_le (P.take i) W lst sh; rw [List.length_take] at this; omega
                    by_cases hlt : i < m
                    · obtain ⟨p, hp⟩ : ∃ p, P[i]? = some p := ⟨_, List.getElem?_eq_getElem (by rw [HPl.out]; exact hlt)⟩
                      have hpb := HPp.out p (List.mem_of_getElem? hp)
                      have hnx := countD_next (W := W) (s := T) (seen := lst) hp
                      have hmx := countD_next (W := W) (s := sh) (seen := lst) hp
                      obtain ⟨N, hN⟩ : ∃ N, countD (P.take i) W lst T = N := ⟨_, rfl⟩
                      obtain ⟨M, hM⟩ : ∃ M, countD (P.take i) W lst sh = M := ⟨_, rfl⟩
                      rw [hN] at hnx hn12 ⊢
                      rw [hM] at hmx hm12 ⊢
                      have HNX := Lib.hid hnx
                      have HMX := Lib.hid hmx
                      have HP1 := Lib.hid hp
                      obtain ⟨gP, oP, rfl, hgP, cp⟩ := HRP8.out.at hp
                      have cp' := (HB9.out.cell (p := ⟨gP, oP + i, none⟩) hgP).trans cp
                      have im : (i : Int) < (m : Int) := by omega
                      clear hp hnx hmx hN hM cp
                      go_wp2
                      go_loopw [31, 32] (fun tq kq wq => ∃ j : Nat, j ≤ nl ∧ kq = .int .i64 j ∧ tq = .bool ((lst.take j).any fun x => decide (p + T - W ≤ x) && decide (x ≤ p + T + W)) ∧ Below wo.heap.size wo wq) (fun _ kq _ => nl - (intOf kq).toNat)
                      case atStart => exact ⟨0, Nat.zero_le _, rfl, rfl, Below.refl _ _⟩
                      case round =>
                        obtain ⟨j, hj, rfl, rfl, hbq⟩ := hrel
                        have HBq := Lib.hid hbq
                        have cp := (hbq.cell (p := ⟨gP, oP + i, none⟩) (Nat.lt_of_lt_of_le hgP hzo)).trans cp'
                        by_cases hjl : j < nl
                        · obtain ⟨x, hx⟩ : ∃ x, lst[j]? = some x := ⟨_, List.getElem?_eq_getElem (by rw [HNL.out]; exact hjl)⟩
                          obtain ⟨gL, oL, rfl, hgL, cx⟩ := HRL8.out.at hx
                          have cx' := (hbq.cell (p := ⟨gL, oL + j, none⟩) (Nat.lt_of_lt_of_le hgL hzo)).trans ((HB9.out.cell (p := ⟨gL, oL + j, none⟩) hgL).trans cx)
                          have hxb := HC.out.place x (List.mem_of_getElem? hx)
                          have hat := any_take_next (f := fun x => decide (p + T - W ≤ x) && decide (x ≤ p + T + W)) hx
                          obtain ⟨b, hb⟩ : ∃ b, ((lst.take j).any fun x => decide (p + T - W ≤ x) && decide (x ≤ p + T + W)) = b := ⟨_, rfl⟩
                          rw [hb] at hat ⊢
                          have HAT := Lib.hid hat
                          have ij : (j : Int) < (nl : Int) := by omega
                          have kw1 : IntKind.i64.wrap (p + T) = p + T := IntWalk.i64_in _ ⟨by omega, by omega⟩
                          have kw2 : IntKind.i64.wrap (p + T - W) = p + T - W := IntWalk.i64_in _ ⟨by omega, by omega⟩
                          have kw3 : IntKind.i64.wrap (p + T + W) = p + T + W := IntWalk.i64_in _ ⟨by omega, by omega⟩
                          clear hx cx hat hb hbq hxb
                          cases b with
                          | true =>
                            go_upto_region 50 with fail
                            go_quiet (fail)
                            go_wp2
                            go_roundw
                            case rel => exact ⟨j + 1, by omega, by go_num, by rw [HAT.out]; rfl, below_drewN HBq.out _⟩
                            case measure => simp [intOf]; omega
                          | false =>
                            by_cases c1 : p + T - W ≤ x
                            · by_cases c2 : x ≤ p + T + W
                              · have g1 : decide (p + T - W ≤ x) = true := by simpa using c1
                                have g2 : decide (x ≤ p + T + W) = true := by simpa using c2
                                go_upto_region 50 with fail
                                go_quiet (fail)
                                go_wp2
                                go_roundw
                                case rel => exact ⟨j + 1, by omega, by go_num, by rw [HAT.out, g1, g2]; rfl, below_drewN HBq.out _⟩
                                case measure => simp [intOf]; omega
                              · have g1 : decide (p + T - W ≤ x) = true := by simpa using c1
                                have g2 : decide (x ≤ p + T + W) = false := by simpa using c2
                                go_upto_region 50 with fail
                                go_quiet (fail)
                                go_wp2
                                go_roundw
                                case rel => exact ⟨j + 1, by omega, by go_num, by rw [HAT.out, g1, g2]; rfl, below_drewN HBq.out _⟩
                                case measure => simp [intOf]; omega
                            · have g1 : decide (p + T - W ≤ x) = false := by simpa using c1
                              go_upto_region 50 with fail
                              go_quiet (fail)
                              go_wp2
                              go_roundw
                              case rel => exact ⟨j + 1, by omega, by go_num, by rw [HAT.out, g1]; rfl, below_drewN HBq.out _⟩
                              case measure => simp [intOf]; omega
                        · obtain rfl : nl = j := by omega
                          obtain ⟨b, hb⟩ : ∃ b, ((lst.take nl).any fun x => decide (p + T - W ≤ x) && decide (x ≤ p + T + W)) = b := ⟨_, rfl⟩
                          have hb2 : foundB lst W T p = b := by
                            rw [← hb, ← HNL.out, List.take_of_length_le (Nat.le_refl _)]
                            exact (hitB_found HC.out.ascends (fun x hx => (HC.out.place x hx).2) p).symm
                          rw [hb]
                          have hbw : Below w8.heap.size w8 wr := HB9.out.trans (hbq.mono hzo)
                          have HBW := Lib.hid hbw
                          obtain ⟨v, hv⟩ : ∃ v, findD lst (p + sh - W) (p + sh + W) = v := ⟨_, rfl⟩
                          have hfv := fitD_at (W := W) (seen := lst) HP1.out
                          rw [HBD.out] at hfv
                          dsimp only at hfv
                          rw [hv] at hfv
                          obtain ⟨gF, oF, rfl, hgF, cv⟩ := HRF8.out.at hfv
                          have cv' := (hbw.cell (p := ⟨gF, oF + i, none⟩) hgF).trans cv
                          have hK9 := HK8.out.below hbw hbF8
                          have d0 := cellOf hK9 0 (x := .int .i64 sh) rfl
                          have d2 := cellOf hK9 2 (x := .slice (some ⟨gF, oF, none⟩) m cF) rfl
                          have HNb : Hid (countD (P.take (i + 1)) W lst T = N + if b then 1 else 0) := by
                            have h9 := HNX.out
                            rw [hb2] at h9
                            exact h9
                          have kw1 : IntKind.i64.wrap (p + sh) = p + sh := IntWalk.i64_in _ ⟨by omega, by omega⟩
                          have kw2 : IntKind.i64.wrap (p + sh - W) = p + sh - W := IntWalk.i64_in _ ⟨by omega, by omega⟩
                          have kw3 : IntKind.i64.wrap (p + sh + W) = p + sh + W := IntWalk.i64_in _ ⟨by omega, by omega⟩
                          by_cases hvl : v = 1000000000
                          · have HMv : Hid (countD (P.take (i + 1)) W lst sh = M) := by
                              have h9 := HMX.out
                              have h8 : foundB lst W sh p = false := by unfold foundB; rw [hv, hvl]; rfl
                              rw [h8] at h9
                              exact Lib.hid (by simpa using h9)
                            subst hvl
                            clear hb hb2 hbw hbq hv hfv cv hK9
                            cases b with
                            | true =>
                              go_wp2
                              go_roundw
                              case rel => exact ⟨i + 1, by omega, by go_num, by rw [HNb.out]; go_num, by rw [HMv.out], HBW.out⟩
                              case measure => simp [intOf]; omega
                            | false =>
                              go_wp2
                              go_roundw
                              case rel => exact ⟨i + 1, by omega, by go_num, by rw [HNb.out]; rfl, by rw [HMv.out], HBW.out⟩
                              case measure => simp [intOf]; omega
                          · have hne : findD lst (p + sh - W) (p + sh + W) ≠ lostD := by rw [hv]; exact hvl
                            have hin := findD_mem hne
                            rw [hv] at hin
                            have HMv : Hid (countD (P.take (i + 1)) W lst sh = M + 1) := by
                              have h9 := HMX.out
                              have h8 : foundB lst W sh p = true := by unfold foundB; simpa using hne
                              rw [h8] at h9
                              exact Lib.hid (by simpa using h9)
                            have hvin : decide (v ∈ l) = true := by simpa using (HML.out v).1 hin.1
                            have hSMr : SetAt wr w3.heap.size l := HSM8.out.below hbw hbS8
                            have hlk : ∀ n, (Instr.lookup 98 (.map (some w3.heap.size)) (.int .i64 v) false).run Try.prog (wr.drewN n) = .ok (.bool true) (wr.drewN n) := fun n => by
                              have h9 := SetAt.get underInt seenMap zeroBool (hSMr.below (below_drewN (Below.refl _ _) n) hSMr.lt) v
                              rw [hvin] at h9
                              exact h9
                            have g1 : ¬ v < p + sh - W := by omega
                            have g2 : ¬ p + sh + W < v := by omega
                            have g3 : decide (v < p + sh - W) = false := by simpa using g1
                            have g4 : decide (p + sh + W < v) = false := by simpa using g2
                            have g5 : (v == 1000000000) = false := by simpa using hvl
                            clear hb hb2 hbw hbq hv hfv cv hK9 hne hvin hSMr
                            cases b with
                            | true =>
                              go_upto_region 55 with fail
                              go_quiet (fail)
                              go_wp2
                              go_roundw
                              case rel => exact ⟨i + 1, by omega, by go_num, by rw [HNb.out]; go_num, by rw [HMv.out]; go_num, below_drewN HBW.out _⟩
                              case measure => simp [intOf]; omega
                            | false =>
                              go_upto_region 55 with fail
                              go_quiet (fail)
                              go_wp2
                              go_roundw
                              case rel => exact ⟨i + 1, by omega, by go_num, by rw [HNb.out]; rfl, by rw [HMv.out]; go_num, below_drewN HBW.out _⟩
                              case measure => simp [intOf]; omega
                    · obtain rfl : m = i := by omega
                      have hPt : P.take m = P := by rw [← HPl.out]; exact List.take_of_length_le (Nat.le_refl _)
                      rw [hPt, HCN.out]
                      rw [hPt] at hn12
                      have hNle : ((countD P W lst T : Nat) : Int) ≤ (cn : Int) := by
                        have h9 := best_count (seen := lst) HPA.out (s := T) ⟨hoh.2, hoh.1⟩
                        rw [HBD.out] at h9
                        exact h9
                      obtain ⟨N, hN⟩ : ∃ N, countD P W lst T = N := ⟨_, rfl⟩
                      rw [hN] at hNle hn12 ⊢
                      have hK9 := HK8.out.below HB9.out hbF8
                      have d1 := cellOf hK9 1 (x := .int .i64 cn) rfl
                      have HBe : Hid (Below w.heap.size w wo) := Lib.hid (HB8.out.trans (HB9.out.mono HB8.out.size))
                      have CA9 := Lib.hid (CA.out wo)
                      clear hPt hN hK9 hn12 hm12
                      go_wp2_with fail
                      refine CA9.out.mono ?_
                      rintro en w20 ⟨rfl, hb20⟩
                      go_wp2
                      go_ret
                      exact ⟨rfl, HBe.out.trans (hb20.mono HBe.out.size)⟩
                · intro i x w9 hx hg hS9 hI9 hg9 hz9 hen
                  have hxb := HBS.out.place x (List.mem_of_getElem? hx)
                  have HG : Hid (got.contains i = false) := Lib.hid (by simpa using hg)
                  have HL9 := Lib.hid (HLS.out.next hrr hS9 hI9 hg9)
                  have HX := Lib.hid hx
                  have hnl : lst.length ≤ 22 := by have := HSO.out.len; omega
                  obtain ⟨nl, hnl'⟩ : ∃ n, lst.length = n := ⟨_, rfl⟩
                  have HN := Lib.hid hnl'
                  rw [hnl'] at hnl
                  clear hls hx hg hS9 hI9 hg9 hz9
                  rcases ints_form HL9.out.2.2.1 with ⟨rfl, he⟩ | ⟨g, cap, rfl, hgb, hcl, hcm⟩
                  · subst he
                    have hnl0 : nl = 0 := by rw [← hnl']; rfl
                    subst hnl0
                    clear hnl'
                    go_wp2
                    go_loopw [24] (fun aq wq => aq = .int .i64 0 ∧ Below w9.heap.size w9 wq) (fun aq _ => (intOf aq).toNat)
                    case atStart => exact ⟨rfl, Below.refl _ _⟩
                    case round =>
                      obtain ⟨rfl, hb9⟩ := hrel
                      have HB9 := Lib.hid hb9
                      have HHI : Hid (∀ z ∈ ([] : List Int).drop 0, x < z) := Lib.hid (by simp)
                      have HLO : Hid (∀ z ∈ ([] : List Int).take 0, z ≤ x) := Lib.hid (by simp)
                      clear hb9
                      have HST9 := Lib.hid (HL9.out.still hrr HB9.out)
                      have HZ := Lib.hid HST9.out.lt
                      go_upto_region 36 with fail
                      obtain ⟨c5, e5⟩ : ∃ c : Nat, Value.slice none 0 0 = .slice none 0 c := ⟨0, rfl⟩
                      have E5 := Lib.hid e5
                      have HO10 : Hid (OInts wr.heap.size wr (.slice none 0 c5) (([] : List Int).take 0)) := Lib.hid (by rw [← e5]; exact World.ownsRow_nil _ _ _ _)
                      have HB10 : Hid (Below wr.heap.size wr wr) := Lib.hid (Below.refl _ _)
                      have hz10 := HB10.out.size
                      clear e5
                      go_upto_region 37 with fail
                      rw [E5.out]
                      go_upto_region 38 with (at_builtin; refine wpList_append_ints rfl _ _ 24 rfl wr.heap.size i0 _ sliceInts hi hz0 hz1 hz2 rfl (.slice none 0 c5) _ (([] : List Int).take 0) [x] (wr.heap.size + 1) rfl rfl (oints_alloc HO10.out _) (ints_new wr x) (0 + 1) (by have := HN.out; first | (simp; done) | (simp; omega)) (by omega) (by first | (simp; done) | (simp; omega)) ?_; intro A6 c6 w11 hO11 hg11)
                      have HO11 : Hid (OInts wr.heap.size w11 (.slice A6 (0 + 1) c6) (([] : List Int).take 0 ++ [x])) := Lib.hid hO11
                      have HB11 : Hid (Below wr.heap.size wr w11) := Lib.hid (below_row (HB10.out.alloc hz10 _) (oints_alloc HO10.out _) hg11 (Nat.le_refl _) (by first | (simp; done) | (simp; omega)))
                      have hz11 := HB11.out.size
                      clear hO11 hg11
                      go_wp2_with (at_builtin; refine wpList_append_ints rfl _ _ 24 rfl wr.heap.size i0 _ sliceInts hi hz0 hz1 hz2 rfl (.slice A6 (0 + 1) c6) _ (([] : List Int).take 0 ++ [x]) (([] : List Int).drop 0) wr.heap.size rfl rfl HO11.out (RInts.nil _ _ _ _) (0 + 1) (by have := HN.out; first | (simp; done) | (simp; omega)) (by omega) hz11 ?_; intro A7 c7 w12 hO12 hg12)
                      have HB12 := below_row HB11.out HO11.out hg12 (Nat.le_refl _) hz11
                      have HST12 : Hid (ListSt w3 rr l (got.push i) (([] : List Int).take 0 ++ [x] ++ ([] : List Int).drop 0) (.slice A7 (0 + 1) c7) w12) := Lib.hid (HST9.out.step hrr (HB12.mono HZ.out) (ownsRow_base hO12 HZ.out))
                      clear HB12 hO12 hg12
                      go_roundw
                      case rel => exact ⟨_, _, HSO.out.next HBS.out.nodup HX.out HG.out HLO.out HHI.out, HST12.out⟩
                      case measure => exact iterLeft_lt HLS.out.2.1 HST12.out.2.1 (List.getElem?_eq_some_iff.1 HX.out).1 HG.out
                  · rw [hnl'] at hcl HL9 ⊢
                    have HR9 : Hid (RInts w9.heap.size w9 (.slice (some ⟨g, 0, none⟩) nl cap) lst) := Lib.hid (Rd.own HL9.out.2.2.1 (own_le HL9.out.2.2.1))
                    have hcl' : (nl : Int) ≤ (cap : Int) := by omega
                    clear hnl'
                    go_wp2
                    go_loopw [24] (fun aq wq => ∃ j : Nat, j ≤ nl ∧ aq = .int .i64 j ∧ (∀ y ∈ lst.drop j, x < y) ∧ Below w9.heap.size w9 wq) (fun aq _ => (intOf aq).toNat)
                    case atStart => exact ⟨nl, Nat.le_refl _, rfl, by rw [← HN.out]; simp, Below.refl _ _⟩
                    case round =>
                      obtain ⟨j, hj, rfl, hhi, hb9⟩ := hrel
                      have HHI := Lib.hid hhi
                      have HB9 := Lib.hid hb9
                      have hjn : (j : Int) ≤ (nl : Int) := by omega
                      have hjc : (j : Int) ≤ (cap : Int) := by omega
                      have hj0' : (0 : Int) ≤ (j : Int) := by omega
                      by_cases hj0 : 0 < j
                      · obtain ⟨jm, rfl⟩ : ∃ jm, j = jm + 1 := ⟨j - 1, by omega⟩
                        obtain ⟨y, hy⟩ : ∃ y, lst[jm]? = some y := ⟨_, List.getElem?_eq_getElem (by rw [HN.out]; omega)⟩
                        obtain ⟨g', o', he', hgb', cy⟩ := HR9.out.at hy
                        cases he'
                        have cy' := (hb9.cell (p := ⟨g, 0 + jm, none⟩) hgb').trans cy
                        rw [Nat.zero_add] at cy'
                        have HY := Lib.hid hy
                        have i9 : (0 : Int) < ((jm + 1 : Nat) : Int) := by omega
                        have i10 : ((jm + 1 : Nat) : Int) - 1 = (jm : Int) := by omega
                        have i11 : (jm : Int) < (nl : Int) := by omega
                        clear cy hy hhi hb9
                        by_cases hxy : x < y
                        · go_wp2
                          go_roundw
                          case rel => exact ⟨jm, by omega, by go_num, drop_high HY.out hxy HHI.out, HB9.out⟩
                          case measure => simp [intOf]
                        · have HLO := Lib.hid (take_low HSO.out.asc HY.out (show y ≤ x by omega))
                          have HST9 := Lib.hid (HL9.out.still hrr HB9.out)
                          have HZ := Lib.hid HST9.out.lt
                          have HRq : Hid (RInts wr.heap.size wr (.slice (some ⟨g, 0, none⟩) nl cap) lst) := Lib.hid ((HR9.out.below HB9.out).more HB9.out.size)
                          go_upto_region 36 with fail
                          go_upto_region 37 with (at_builtin; refine wpList_append_ints rfl _ _ 24 rfl wr.heap.size i0 _ sliceInts hi hz0 hz1 hz2 rfl (.slice none 0 0) _ [] (lst.take (jm + 1)) wr.heap.size rfl rfl (World.ownsRow_nil _ _ _ _) (HRq.out.front (jm + 1) hj) (jm + 1) (by have := HN.out; first | (simp; done) | (simp; omega)) (by omega) (Nat.le_refl _) ?_; intro A5 c5 w10 hO10 hg10)
                          have HO10 : Hid (OInts wr.heap.size w10 (.slice A5 (jm + 1) c5) (lst.take (jm + 1))) := Lib.hid hO10
                          have HB10 : Hid (Below wr.heap.size wr w10) := Lib.hid ((Below.refl _ _).grown hg10 (Nat.le_refl _) fun k hk => by cases hk)
                          have hz10 := HB10.out.size
                          clear hO10 hg10
                          go_upto_region 38 with (at_builtin; refine wpList_append_ints rfl _ _ 24 rfl wr.heap.size i0 _ sliceInts hi hz0 hz1 hz2 rfl (.slice A5 (jm + 1) c5) _ (lst.take (jm + 1)) [x] (w10.heap.size + 1) rfl rfl (oints_alloc HO10.out _) (ints_new w10 x) ((jm + 1) + 1) (by have := HN.out; first | (simp; done) | (simp; omega)) (by omega) (by first | (simp; done) | (simp; omega)) ?_; intro A6 c6 w11 hO11 hg11)
                          have HO11 : Hid (OInts wr.heap.size w11 (.slice A6 ((jm + 1) + 1) c6) (lst.take (jm + 1) ++ [x])) := Lib.hid hO11
                          have HB11 : Hid (Below wr.heap.size wr w11) := Lib.hid (below_row (HB10.out.alloc hz10 _) (oints_alloc HO10.out _) hg11 (Nat.le_refl _) (by first | (simp; done) | (simp; omega)))
                          have hz11 := HB11.out.size
                          clear hO11 hg11
                          go_wp2_with (at_builtin; refine wpList_append_ints rfl _ _ 24 rfl wr.heap.size i0 _ sliceInts hi hz0 hz1 hz2 rfl (.slice A6 ((jm + 1) + 1) c6) _ (lst.take (jm + 1) ++ [x]) (lst.drop (jm + 1)) wr.heap.size rfl rfl HO11.out (HRq.out.below HB11.out |>.back (jm + 1) hj _ _ (fun h => by first | (simp; omega) | simp)) (nl + 1) (by have := HN.out; first | (simp; done) | (simp; omega)) (by omega) hz11 ?_; intro A7 c7 w12 hO12 hg12)
                          have HB12 := below_row HB11.out HO11.out hg12 (Nat.le_refl _) hz11
                          have HST12 : Hid (ListSt w3 rr l (got.push i) (lst.take (jm + 1) ++ [x] ++ lst.drop (jm + 1)) (.slice A7 (nl + 1) c7) w12) := Lib.hid (HST9.out.step hrr (HB12.mono HZ.out) (ownsRow_base hO12 HZ.out))
                          clear HB12 hO12 hg12
                          go_roundw
                          case rel => exact ⟨_, _, HSO.out.next HBS.out.nodup HX.out HG.out HLO.out HHI.out, HST12.out⟩
                          case measure => exact iterLeft_lt HLS.out.2.1 HST12.out.2.1 (List.getElem?_eq_some_iff.1 HX.out).1 HG.out
                      · have h00 : j = 0 := by omega
                        subst h00
                        have HLO : Hid (∀ z ∈ lst.take 0, z ≤ x) := Lib.hid (by simp)
                        clear hhi hb9 hj0 hj0' hjn hjc
                        have HST9 := Lib.hid (HL9.out.still hrr HB9.out)
                        have HZ := Lib.hid HST9.out.lt
                        have HRq : Hid (RInts wr.heap.size wr (.slice (some ⟨g, 0, none⟩) nl cap) lst) := Lib.hid ((HR9.out.below HB9.out).more HB9.out.size)
                        go_upto_region 36 with fail
                        obtain ⟨c5, e5⟩ : ∃ c : Nat, Value.slice none 0 0 = .slice none 0 c := ⟨0, rfl⟩
                        have E5 := Lib.hid e5
                        have HO10 : Hid (OInts wr.heap.size wr (.slice none 0 c5) (lst.take 0)) := Lib.hid (by rw [← e5]; exact World.ownsRow_nil _ _ _ _)
                        have HB10 : Hid (Below wr.heap.size wr wr) := Lib.hid (Below.refl _ _)
                        have hz10 := HB10.out.size
                        clear e5
                        go_upto_region 37 with fail
                        rw [E5.out]
                        go_upto_region 38 with (at_builtin; refine wpList_append_ints rfl _ _ 24 rfl wr.heap.size i0 _ sliceInts hi hz0 hz1 hz2 rfl (.slice none 0 c5) _ (lst.take 0) [x] (wr.heap.size + 1) rfl rfl (oints_alloc HO10.out _) (ints_new wr x) (0 + 1) (by have := HN.out; first | (simp; done) | (simp; omega)) (by omega) (by first | (simp; done) | (simp; omega)) ?_; intro A6 c6 w11 hO11 hg11)
                        have HO11 : Hid (OInts wr.heap.size w11 (.slice A6 (0 + 1) c6) (lst.take 0 ++ [x])) := Lib.hid hO11
                        have HB11 : Hid (Below wr.heap.size wr w11) := Lib.hid (below_row (HB10.out.alloc hz10 _) (oints_alloc HO10.out _) hg11 (Nat.le_refl _) (by first | (simp; done) | (simp; omega)))
                        have hz11 := HB11.out.size
                        clear hO11 hg11
                        go_wp2_with (at_builtin; refine wpList_append_ints rfl _ _ 24 rfl wr.heap.size i0 _ sliceInts hi hz0 hz1 hz2 rfl (.slice A6 (0 + 1) c6) _ (lst.take 0 ++ [x]) (lst.drop 0) wr.heap.size rfl rfl HO11.out (HRq.out.below HB11.out |>.back 0 (Nat.zero_le _) _ _ (fun h => by first | (simp; omega) | simp)) (nl + 1) (by have := HN.out; first | (simp; done) | (simp; omega)) (by omega) hz11 ?_; intro A7 c7 w12 hO12 hg12)
                        have HB12 := below_row HB11.out HO11.out hg12 (Nat.le_refl _) hz11
                        have HST12 : Hid (ListSt w3 rr l (got.push i) (lst.take 0 ++ [x] ++ lst.drop 0) (.slice A7 (nl + 1) c7) w12) := Lib.hid (HST9.out.step hrr (HB12.mono HZ.out) (ownsRow_base hO12 HZ.out))
                        clear HB12 hO12 hg12
                        go_roundw
                        case rel => exact ⟨_, _, HSO.out.next HBS.out.nodup HX.out HG.out HLO.out HHI.out, HST12.out⟩
                        case measure => exact iterLeft_lt HLS.out.2.1 HST12.out.2.1 (List.getElem?_eq_some_iff.1 HX.out).1 HG.out
end Go.Proofs.Ytffodgpafiifcaa
