/-
  The reference's Beat.
-/
import Derived.Test.YtffodgpafiifcaaJd
namespace Go.Proofs.Ytffodgpafiifcaa
open Go.RowKit

/-- What the reference's Beat has come to. -/
def BtSt (w2 : World) (l : LoopD) (e : Int) (moves : List Int) (k : Nat) (up dn : Int) (u v : Value) (X : World) : Prop :=
  up = e + (moves.take k).sum + k * l.noise ∧ dn = e + (moves.take k).sum - k * l.noise ∧ AllIn 1000000 (moves.take k) ∧ Two w2 u v (List.replicate k l.noise) (List.replicate k (-l.noise)) X
theorem AllIn.next {moves : List Int} {k : Nat} {y : Int} (h : AllIn 1000000 (moves.take k)) (hy : moves[k]? = some y) (hb : y ≤ 1000000 ∧ -1000000 ≤ y) : AllIn 1000000 (moves.take (k + 1)) := fun x hx => by
  rw [take_snoc_get hy] at hx
  rcases List.mem_append.1 hx with hx | hx
  · exact h x hx
  · rw [List.mem_singleton] at hx; rw [hx]; exact hb
theorem BtSt.sums {w2 : World} {l : LoopD} {e : Int} {moves : List Int} {k : Nat} {up dn : Int} {u v : Value} {X : World} (h : BtSt w2 l e moves k up dn u v X) (hl : LoopOk l) (he : e ≤ 1000000 ∧ -1000000 ≤ e) (hk : k ≤ 21) :
    up ≤ 30000000 ∧ -30000000 ≤ up ∧ dn ≤ 30000000 ∧ -30000000 ≤ dn := by
  obtain ⟨rfl, rfl, h3, -⟩ := h
  have h1 := take_sum_le (m := 1000000) (by omega) h3 k
  rw [List.take_take, Nat.min_self] at h1
  have n1 := hl.2.2.1
  have n2 := hl.2.2.2.1
  have h4 : 0 ≤ (k : Int) * l.noise := Int.mul_nonneg (by omega) n1
  have h5 : (k : Int) * l.noise ≤ 21 * 1000 := Int.mul_le_mul (by omega) n2 n1 (by omega)
  generalize (k : Int) * l.noise = y at *
  omega

theorem Two.later {wA : World} {u v : Value} {l m : List Int} {X Y : World} (h : Two wA u v l m X) (hb : Below X.heap.size X Y) : Two wA u v l m Y := ⟨h.1.trans (hb.mono h.1.size), ownsRow_below h.2.1 hb, ownsRow_below h.2.2.1 hb, h.2.2.2⟩

set_option maxRecDepth 100000 in
set_option maxHeartbeats 8000000 in
theorem refBeat_any (l : LoopD) (e : Int) (moves : List Int) (v : Value) (w : World) (hv : RInts w.heap.size w v moves) :
    Calls Try.prog 26 #[l.val, .int .i64 e, v] w fun en w' => BeatRet w.heap.size l e moves en w' ∧ Below w.heap.size w w' := by
  have HV := Lib.hid hv
  obtain ⟨A, c, rfl, hml, hA⟩ := hv.open_
  have HA := Lib.hid hA
  obtain ⟨n, hn⟩ : ∃ n, moves.length = n := ⟨_, rfl⟩
  have Hn := Lib.hid hn
  rw [hn] at hml HV ⊢
  obtain ⟨w1, e1, B1⟩ : ∃ w1, w.alloc (.cells l.cells 23) = w1 ∧ Below w.heap.size w w1 := ⟨_, rfl, below_alloc _ _⟩
  have V1 : Blk w1 w.heap.size 23 l.cells := e1 ▸ Blk.new _ _ _
  unfold LoopD.cells at e1 V1
  have E1 := Lib.hid e1
  have HB1 := Lib.hid B1
  have HV1 := Lib.hid V1
  have C1 := refCheck_any l w1
  have v0 := cellOf V1 0 (x := .int .i64 l.dead) rfl
  have v1 := cellOf V1 1 (x := .int .i64 l.noise) rfl
  have v2 := cellOf V1 2 (x := .int .i64 l.blur) rfl
  have v3 := cellOf V1 3 (x := .int .i64 l.step) rfl
  obtain ⟨bL, hbL⟩ : ∃ b, w.heap.size = b := ⟨_, rfl⟩
  rw [hbL] at v0 v1 v2 v3 HV1
  have hwL : w.heap.size ≤ bL := by omega
  clear e1 V1 B1 hv hA hn
  by_cases hok : LoopOk l
  · rw [checkE_ok hok] at C1
    unfold LoopD.val at C1 ⊢
    have C1 := Lib.hid C1
    have Hok := Lib.hid hok
    have hd1 := hok.1
    have hd2 := hok.2.1
    have hn1 := hok.2.2.1
    have hn2 := hok.2.2.2.1
    obtain ⟨i0, hi, hz0, hz1, hz2⟩ := info_parts infoInt0
    clear hok
    go_enter Try.func26, Try.ntmps26
    go_upto_region 1 with fail
    rw [E1.out]
    clear hbL
    go_wp2_with fail
    refine C1.out.mono ?_
    rintro en w2 ⟨rfl, hb2'⟩
    have HV2 := Lib.hid (HV1.out.below hb2' HV1.out.lt)
    have HB2 := Lib.hid (HB1.out.trans (hb2'.mono HB1.out.size))
    clear v0 v1 v2 v3 C1 hb2'
    have v0 := cellOf HV2.out 0 (x := .int .i64 l.dead) rfl
    have kw : IntKind.i64.wrap (l.dead + 1) = l.dead + 1 := IntWalk.i64_in _ ⟨by omega, by omega⟩
    by_cases hln : (n : Int) = l.dead + 1
    · have hln1 : ((n : Int) != l.dead + 1) = false := by simpa using hln
      have HLn : Hid ((moves.length : Int) = l.dead + 1) := by show _ = _; rw [Hn.out]; exact hln
      have hn21 : n ≤ 21 := by omega
      clear hln
      by_cases hin : e ≤ 1000000 ∧ -1000000 ≤ e
      · have C2 := Lib.hid (beyond_in e 1000000 (by omega) hin w2)
        have Hin := Lib.hid hin
        clear hin
        go_wp2_with fail
        refine C2.out.mono ?_
        rintro en w' ⟨rfl, rfl⟩
        clear C2 v0 kw hln1
        go_wp2
        go_loopw [9, 10, 11, 12, 13] (fun a b u v i wr => ∃ (k : Nat) (up dn : Int), k ≤ n ∧ i = .int .i64 k ∧ a = .int .i64 up ∧ b = .int .i64 dn ∧ BtSt w2 l e moves k up dn u v wr) (fun _ _ _ _ i _ => n - (intOf i).toNat)
        case atStart => exact ⟨0, e, e, Nat.zero_le _, rfl, rfl, rfl, by simp, by simp, fun x hx => by simp at hx, Two.nil _⟩
        case round =>
          obtain ⟨k, up, dn, hk, rfl, rfl, rfl, hst⟩ := hrel
          have HS := Lib.hid hst
          have hsum := hst.sums Hok.out Hin.out (by omega)
          have htw := hst.2.2.2
          have hOu := htw.2.1
          have hOv := htw.2.2.1
          obtain ⟨Au, cu, rfl⟩ := ownsRow_form hOu
          obtain ⟨Av, cv, rfl⟩ := ownsRow_form hOv
          rw [List.length_replicate] at HS ⊢
          rw [List.length_replicate] at HS ⊢
          have HT := Lib.hid HS.out.2.2.2
          have HVr := Lib.hid (HV2.out.below htw.1 HV2.out.lt)
          have HBr := Lib.hid (HB2.out.trans (htw.1.mono HB2.out.size))
          have HU : Hid (wr.ownsRow w2.heap.size 3 1 (.slice Au k cu) k ((List.replicate k l.noise).map (Value.int .i64))) := by have h1 := HT.out.2.1; unfold OInts at h1; rwa [List.length_replicate] at h1
          have hzr : w2.heap.size ≤ wr.heap.size := htw.1.size
          have v1 := cellOf HVr.out 1 (x := .int .i64 l.noise) rfl
          obtain ⟨hs1, hs2, hs3, hs4⟩ := hsum
          clear htw hOu hOv hst
          by_cases hlt : k < n
          · obtain ⟨g, o, y, rfl, hg, cy, hy⟩ := HA.out k (by rw [Hn.out]; exact hlt)
            have HLy := Lib.hid (get_some (by rw [Hn.out]; exact hlt) hy.out)
            have cy' := (HBr.out.cell (p := ⟨g, o + k, none⟩) hg).trans cy
            have ik : (k : Int) < (n : Int) := by omega
            have ik0 : (0 : Int) ≤ (k : Int) := by omega
            clear hy cy
            by_cases hyb : y ≤ 1000000 ∧ -1000000 ≤ y
            · have C3 := Lib.hid (beyond_in y 1000000 (by omega) hyb wr)
              have Hyb := Lib.hid hyb
              obtain ⟨hy1, hy2⟩ := hyb
              have kw1 : IntKind.i64.wrap (up + y) = up + y := IntWalk.i64_in _ ⟨by omega, by omega⟩
              have kw2 : IntKind.i64.wrap (up + y + l.noise) = up + y + l.noise := IntWalk.i64_in _ ⟨by omega, by omega⟩
              have kw3 : IntKind.i64.wrap (dn + y) = dn + y := IntWalk.i64_in _ ⟨by omega, by omega⟩
              have kw4 : IntKind.i64.wrap (dn + y - l.noise) = dn + y - l.noise := IntWalk.i64_in _ ⟨by omega, by omega⟩
              have kw5 : IntKind.i64.wrap (-l.noise) = -l.noise := IntWalk.i64_in _ ⟨by omega, by omega⟩
              go_wp2_with fail
              refine C3.out.mono ?_
              rintro en w' ⟨rfl, rfl⟩
              go_upto_region 15 with fail
              go_quiet (fail)
              obtain ⟨q1, hq1⟩ : ∃ q1, q1 = nq := ⟨_, rfl⟩
              subst hq1
              go_upto_region 16 with fail
              go_quiet (fail)
              have HTz := Lib.hid (HT.out.later (below_drewN (below_drewN (Below.refl wr.heap.size wr) q1) nq))
              obtain ⟨wz, hwz⟩ : ∃ wz, (wr.drewN q1).drewN nq = wz := ⟨_, rfl⟩
              rw [hwz] at HTz ⊢
              have HVz := Lib.hid (HV2.out.below HTz.out.1 HV2.out.lt)
              have HUz : Hid (wz.ownsRow w2.heap.size 3 1 (.slice Au k cu) k ((List.replicate k l.noise).map (Value.int .i64))) := by have h1 := HTz.out.2.1; unfold OInts at h1; rwa [List.length_replicate] at h1
              have hzz : w2.heap.size ≤ wz.heap.size := HTz.out.1.size
              have HNx : Hid ((up + y + l.noise = e + (moves.take (k + 1)).sum + ((k + 1 : Nat) : Int) * l.noise ∧ dn + y - l.noise = e + (moves.take (k + 1)).sum - ((k + 1 : Nat) : Int) * l.noise) ∧ AllIn 1000000 (moves.take (k + 1))) := by
                refine ⟨?_, HS.out.2.2.1.next HLy.out Hyb.out⟩
                rw [HS.out.1, HS.out.2.1, take_sum_next HLy.out, Int.natCast_add, Int.natCast_one, Int.add_mul, Int.one_mul]
                generalize (k : Int) * l.noise = z
                generalize (moves.take k).sum = z2
                omega
              clear hwz v1 C3 cy' kw1 kw2 kw3 kw4 HU
              have v1 := cellOf HVz.out 1 (x := .int .i64 l.noise) rfl
              go_upto_region 18 with (at_builtin; refine wpList_append_lies _ rfl _ _ 24 rfl w2.heap.size 3 i0 _ 1 8 sliceInts hi hz0 hz1 hz2 rfl (by decide) (.slice Au k cu) k _ rfl (HUz.out.alloc _) ⟨wz.heap.size, 0, none⟩ 1 1 [.int .i64 l.noise] rfl rfl (cells_new _ _ _) (by simp [Value.oneCell']) (by omega) (by simp only [maxLen]; omega) (by omega) (by simp; omega) (wz.heap.size + 1) (by simp) ?_; intro g6 c6 w6 hown hgrow hat hlt6; have HT6 := Lib.hid (HTz.out.left (List.length_replicate) hown hgrow hat); clear hown hgrow hat)
              have HV6 := Lib.hid (HV2.out.below HT6.out.1 HV2.out.lt)
              have HVv : Hid (w6.ownsRow w2.heap.size 3 1 (.slice Av k cv) k ((List.replicate k (-l.noise)).map (Value.int .i64))) := by have h1 := HT6.out.2.2.1; unfold OInts at h1; rwa [List.length_replicate] at h1
              have hz6 : w2.heap.size ≤ w6.heap.size := HT6.out.1.size
              clear v1
              have v1 := cellOf HV6.out 1 (x := .int .i64 l.noise) rfl
              go_wp2_with (at_builtin; refine wpList_append_lies _ rfl _ _ 24 rfl w2.heap.size 3 i0 _ 1 8 sliceInts hi hz0 hz1 hz2 rfl (by decide) (.slice Av k cv) k _ rfl (HVv.out.alloc _) ⟨w6.heap.size, 0, none⟩ 1 1 [.int .i64 (-l.noise)] rfl rfl (cells_new _ _ _) (by simp [Value.oneCell']) (by omega) (by simp only [maxLen]; omega) (by omega) (by simp; omega) (w6.heap.size + 1) (by simp) ?_; intro g7 c7 w7 hown hgrow hat hlt7; have HT7 := Lib.hid ((HT6.out.swap).left (List.length_replicate) hown hgrow hat); clear hown hgrow hat)
              go_roundw
              case rel => exact ⟨k + 1, up + y + l.noise, dn + y - l.noise, by omega, by go_num, rfl, rfl, HNx.out.1.1, HNx.out.1.2, HNx.out.2, by rw [List.replicate_succ', List.replicate_succ']; exact HT7.out.swap⟩
              case measure => (simp [intOf]) <;> omega
            · have C3 := Lib.hid (beyond_out y 1000000 (by omega) hyb wr)
              have HF : Hid (BeatIs l e moves [] 6) := Or.inr (Or.inr (Or.inl ⟨Hok.out, HLn.out, fun h => hyb (h.2 y (List.mem_of_getElem? HLy.out)), rfl, rfl⟩))
              clear hyb
              go_wp2_with fail
              refine C3.out.mono ?_
              rintro en w' ⟨rfl, rfl⟩
              go_wp2
              refine bodyPost_ret (v := .tuple #[.slice none 0 0, .int .i64 6]) (by simp [results, Try.results26, go_sem]) rfl ⟨BeatRet.no HF.out, HBr.out⟩
          · have hk' : k = n := by omega
            subst hk'
            have hT : moves.take k = moves := List.take_of_length_le (by rw [Hn.out]; omega)
            have hup := HS.out.1
            have hAll := HS.out.2.2.1
            rw [hT] at hup hAll
            have hy1 : 0 ≤ (k : Int) * l.noise := Int.mul_nonneg (by omega) hn1
            have hy2 : (k : Int) * l.noise ≤ 21 * 1000 := Int.mul_le_mul (by omega) hn2 hn1 (by omega)
            obtain ⟨x, hx⟩ : ∃ x, e + moves.sum = x := ⟨_, rfl⟩
            rw [hx] at hup
            have hcm : l.noise * (k : Int) = (k : Int) * l.noise := Int.mul_comm _ _
            have hbe : beatD l x = if x < 0 ∧ -2 * ((k : Int) * l.noise) < x then -l.noise else l.noise := by
              unfold beatD
              rw [← HLn.out, Hn.out]
            obtain ⟨Y, hY⟩ : ∃ Y, (k : Int) * l.noise = Y := ⟨_, rfl⟩
            rw [hY] at hy1 hy2 hup hcm hbe
            have HO1 : Hid (OInts w.heap.size wr (.slice Au k cu) (List.replicate k l.noise)) := ownsRow_base HT.out.2.1 HB2.out.size
            have HO2 : Hid (OInts w.heap.size wr (.slice Av k cv) (List.replicate k (-l.noise))) := ownsRow_base HT.out.2.2.1 HB2.out.size
            have good : Hid (∀ o, o = List.replicate k (beatD l x) → BeatIs l e moves o 0) := fun o ho => Or.inr (Or.inr (Or.inr ⟨Hok.out, HLn.out, ⟨Hin.out, hAll⟩, by rw [ho, Hn.out, hx], rfl⟩))
            have kw1 : IntKind.i64.wrap (l.noise * (k : Int)) = Y := by rw [hcm]; exact IntWalk.i64_in _ ⟨by omega, by omega⟩
            have kw2 : IntKind.i64.wrap (-Y) = -Y := IntWalk.i64_in _ ⟨by omega, by omega⟩
            have Hbe := Lib.hid hbe
            have Hcm := Lib.hid hcm
            clear hT hY hx hcm hbe hAll
            by_cases c1 : Y ≤ up
            · have HF := Lib.hid (good.out (List.replicate k l.noise) (by rw [Hbe.out, if_neg (by omega)]))
              clear hup
              go_wp2
              refine bodyPost_ret (v := .tuple #[.slice Au k cu, .int .i64 0]) (by simp [results, Try.results26, go_sem]) rfl ⟨⟨_, _, 0, rfl, HF.out, HO1.out⟩, HBr.out⟩
            · by_cases c2 : up ≤ -Y
              · have HF := Lib.hid (good.out (List.replicate k l.noise) (by rw [Hbe.out, if_neg (by omega)]))
                clear hup
                go_wp2
                refine bodyPost_ret (v := .tuple #[.slice Au k cu, .int .i64 0]) (by simp [results, Try.results26, go_sem]) rfl ⟨⟨_, _, 0, rfl, HF.out, HO1.out⟩, HBr.out⟩
              · have HF := Lib.hid (good.out (List.replicate k (-l.noise)) (by rw [Hbe.out, if_pos (by omega)]))
                clear hup
                go_wp2
                refine bodyPost_ret (v := .tuple #[.slice Av k cv, .int .i64 0]) (by simp [results, Try.results26, go_sem]) rfl ⟨⟨_, _, 0, rfl, HF.out, HO2.out⟩, HBr.out⟩
      · have C2 := Lib.hid (beyond_out e 1000000 (by omega) hin w2)
        have HF : Hid (BeatIs l e moves [] 6) := Or.inr (Or.inr (Or.inl ⟨Hok.out, HLn.out, fun h => hin h.1, rfl, rfl⟩))
        clear hin
        go_wp2_with fail
        refine C2.out.mono ?_
        rintro en w' ⟨rfl, rfl⟩
        go_wp2
        refine bodyPost_ret (v := .tuple #[.slice none 0 0, .int .i64 6]) (by simp [results, Try.results26, go_sem]) rfl ⟨BeatRet.no HF.out, HB2.out⟩
    · have hln1 : ((n : Int) != l.dead + 1) = true := by simpa using hln
      have HF : Hid (BeatIs l e moves [] 1) := Or.inr (Or.inl ⟨Hok.out, by rw [Hn.out]; exact hln, rfl, rfl⟩)
      clear hln
      go_wp2
      refine bodyPost_ret (v := .tuple #[.slice none 0 0, .int .i64 1]) (by simp [results, Try.results26, go_sem]) rfl ⟨BeatRet.no HF.out, HB2.out⟩
  · rw [checkE_no hok] at C1
    have HF : Hid (BeatIs l e moves [] 60) := Or.inl ⟨hok, rfl, rfl⟩
    unfold LoopD.val at C1 ⊢
    have C1 := Lib.hid C1
    clear hok
    go_enter Try.func26, Try.ntmps26
    go_upto_region 1 with fail
    rw [E1.out]
    clear hbL
    go_wp2_with fail
    refine C1.out.mono ?_
    rintro en w2 ⟨rfl, hb2'⟩
    have HB2 := Lib.hid (HB1.out.trans (hb2'.mono HB1.out.size))
    clear v0 v1 v2 v3 C1 hb2'
    go_wp2
    refine bodyPost_ret (v := .tuple #[.slice none 0 0, .int .i64 60]) (by simp [results, Try.results26, go_sem]) rfl ⟨BeatRet.no HF.out, HB2.out⟩
end Go.Proofs.Ytffodgpafiifcaa
