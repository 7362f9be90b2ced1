/-
  The reference's Play.
-/
import Derived.Test.YtffodgpafiifcaaJh
namespace Go.Proofs.Ytffodgpafiifcaa
open Go.RowKit

theorem infoMomR : (Try.prog.info? 112).map (fun i => (i.zero, i.size, i.bytes)) = some (some (.agg #[.int .i64 0, .int .i64 0]), 2, 16) := by kernel_rfl
/-- The first k numbers are within their limits. -/
def InTo (l : LoopD) (noise blur : List Int) (k : Nat) : Prop := AllIn l.noise (noise.take k) ∧ AllIn l.blur (blur.take k)
theorem AllIn.snoc {m : Int} {ms : List Int} {k : Nat} {y : Int} (h : AllIn m (ms.take k)) (hy : ms[k]? = some y) (hb : y ≤ m ∧ -m ≤ y) : AllIn m (ms.take (k + 1)) := fun x hx => by
  rw [take_snoc_get hy] at hx
  rcases List.mem_append.1 hx with hx | hx
  · exact h x hx
  · rw [List.mem_singleton] at hx; rw [hx]; exact hb

theorem MvSt.later {wB : World} {p : PlayD} {k : Nat} {u v : Value} {X Y : World} (h : MvSt wB p k u v X) (hb : Below X.heap.size X Y) : MvSt wB p k u v Y := ⟨h.1.trans (hb.mono h.1.size), ownsRow_below h.2.1 hb, ownsRow_below h.2.2 hb⟩

set_option maxRecDepth 100000 in
set_option maxHeartbeats 12000000 in
theorem refPlay_any (l : LoopD) (e : Int) (noise blur : List Int) (vn vb : Value) (w : World) (hn : RInts w.heap.size w vn noise) (hb : RInts w.heap.size w vb blur) :
    Calls Try.prog 20 #[l.val, .int .i64 e, vn, vb] w fun en w' => PlayRet w.heap.size l e noise blur en w' ∧ Below w.heap.size w w' := by
  obtain ⟨A, c, rfl, hml, hA⟩ := hn.open_
  obtain ⟨A2, c2, rfl, hml2, hA2⟩ := hb.open_
  have HA := Lib.hid hA
  have HA2 := Lib.hid hA2
  obtain ⟨n, hnl⟩ : ∃ n, noise.length = n := ⟨_, rfl⟩
  obtain ⟨n2, hbl⟩ : ∃ n, blur.length = n := ⟨_, rfl⟩
  have Hnl := Lib.hid hnl
  have Hbl := Lib.hid hbl
  rw [hnl] at hml ⊢
  rw [hbl] at hml2 ⊢
  obtain ⟨w1, e1, B1⟩ : ∃ w1, w.alloc (.cells l.cells 23) = w1 ∧ Below w.heap.size w w1 := ⟨_, rfl, below_alloc _ _⟩
  have V1 : Blk w1 w.heap.size 23 l.cells := e1 ▸ Blk.new _ _ _
  unfold LoopD.cells at e1 V1
  have E1 := Lib.hid e1
  have HB1 := Lib.hid B1
  have HV1 := Lib.hid V1
  have C1 := refCheck_any l w1
  have v0 := cellOf V1 0 (x := .int .i64 l.dead) rfl
  have v1 := cellOf V1 1 (x := .int .i64 l.noise) rfl
  have v2 := cellOf V1 2 (x := .int .i64 l.blur) rfl
  have v3 := cellOf V1 3 (x := .int .i64 l.step) rfl
  obtain ⟨bL, hbL⟩ : ∃ b, w.heap.size = b := ⟨_, rfl⟩
  rw [hbL] at v0 v1 v2 v3 HV1
  have hwL : w.heap.size ≤ bL := by omega
  clear e1 V1 B1 hn hb hA hA2 hnl hbl
  by_cases hok : LoopOk l
  · rw [checkE_ok hok] at C1
    unfold LoopD.val at C1 ⊢
    have C1 := Lib.hid C1
    have Hok := Lib.hid hok
    have hn1 := hok.2.2.1
    have hn2 := hok.2.2.2.1
    have hb1 := hok.2.2.2.2.1
    have hb2 := hok.2.2.2.2.2.1
    clear hok
    go_enter Try.func20, Try.ntmps20
    go_upto_region 1 with fail
    rw [E1.out]
    clear hbL
    go_wp2_with fail
    refine C1.out.mono ?_
    rintro en w2 ⟨rfl, hb2'⟩
    have HV2 := Lib.hid (HV1.out.below hb2' HV1.out.lt)
    have HB2 := Lib.hid (HB1.out.trans (hb2'.mono HB1.out.size))
    clear v0 v1 v2 v3 C1 hb2'
    by_cases hln : n = n2
    · subst hln
      by_cases h5 : n ≤ 5000
      · have h5i : ¬ (5000 : Int) < (n : Int) := by omega
        have HLe : Hid (LensOk noise blur) := ⟨by rw [Hnl.out, Hbl.out], by rw [Hnl.out]; exact h5⟩
        have HF : Hid (¬ InsOk l e noise blur → PlayIs l e noise blur [] 6) := fun h => Or.inr (Or.inr (Or.inl ⟨Hok.out, HLe.out, h, rfl, rfl⟩))
        by_cases hin : e ≤ 1000000 ∧ -1000000 ≤ e
        · have C2 := Lib.hid (beyond_in e 1000000 (by omega) hin w2)
          have Hin := Lib.hid hin
          clear hin
          go_wp2_with fail
          refine C2.out.mono ?_
          rintro en w' ⟨rfl, rfl⟩
          clear C2
          go_wp2
          go_loopw [11] (fun i wr => ∃ k : Nat, k ≤ n ∧ i = .int .i64 k ∧ InTo l noise blur k ∧ Below w2.heap.size w2 wr) (fun i _ => n - (intOf i).toNat)
          case atStart => exact ⟨0, Nat.zero_le _, rfl, ⟨fun x hx => by simp at hx, fun x hx => by simp at hx⟩, Below.refl _ _⟩
          case round =>
            obtain ⟨k, hk, rfl, hto, hbr⟩ := hrel
            have HT := Lib.hid hto
            have Hbr := Lib.hid hbr
            have HBr := Lib.hid (HB2.out.trans (hbr.mono HB2.out.size))
            have HVr := Lib.hid (HV2.out.below hbr HV2.out.lt)
            clear hto hbr
            by_cases hlt : k < n
            · obtain ⟨g, o, x, rfl, hg, cx, hx⟩ := HA.out k (by rw [Hnl.out]; exact hlt)
              obtain ⟨g2, o2, y, rfl, hg2, cy, hy⟩ := HA2.out k (by rw [Hbl.out]; exact hlt)
              have HLx := Lib.hid (get_some (by rw [Hnl.out]; exact hlt) hx.out)
              have HLy := Lib.hid (get_some (by rw [Hbl.out]; exact hlt) hy.out)
              have cx' := (HBr.out.cell (p := ⟨g, o + k, none⟩) hg).trans cx
              have cy' := (HBr.out.cell (p := ⟨g2, o2 + k, none⟩) hg2).trans cy
              have ik : (k : Int) < (n : Int) := by omega
              have ik0 : (0 : Int) ≤ (k : Int) := by omega
              have v1 := cellOf HVr.out 1 (x := .int .i64 l.noise) rfl
              have v2 := cellOf HVr.out 2 (x := .int .i64 l.blur) rfl
              clear hx hy cx cy
              by_cases hxb : x ≤ l.noise ∧ -l.noise ≤ x
              · have CN : Hid (∀ X, Calls Try.prog 44 #[.int .i64 x, .int .i64 l.noise] X fun e w' => e = .returned (.bool false) ∧ w' = X) := fun X => (beyond_in x l.noise (by omega) hxb X).mono fun e w' h => ⟨h.1, h.2.symm⟩
                have Hxb := Lib.hid hxb
                clear hxb
                by_cases hyb : y ≤ l.blur ∧ -l.blur ≤ y
                · have CB : Hid (∀ X, Calls Try.prog 44 #[.int .i64 y, .int .i64 l.blur] X fun e w' => e = .returned (.bool false) ∧ w' = X) := fun X => (beyond_in y l.blur (by omega) hyb X).mono fun e w' h => ⟨h.1, h.2.symm⟩
                  have Hyb := Lib.hid hyb
                  clear hyb
                  go_upto_region 11 with fail
                  go_quiet (first | (go_at_call 44; with_reducible refine Calls.quiet_of_same (CN.out _)) | (go_at_call 44; with_reducible refine Calls.quiet_of_same (CB.out _)))
                  go_wp2
                  go_roundw
                  case rel => exact ⟨k + 1, by omega, by go_num, ⟨HT.out.1.snoc HLx.out Hxb.out, HT.out.2.snoc HLy.out Hyb.out⟩, below_drewN Hbr.out _⟩
                  case measure => (simp [intOf]) <;> omega
                · have CB : Hid (∀ X, Calls Try.prog 44 #[.int .i64 y, .int .i64 l.blur] X fun e w' => e = .returned (.bool true) ∧ w' = X) := fun X => (beyond_out y l.blur (by omega) hyb X).mono fun e w' h => ⟨h.1, h.2.symm⟩
                  have HF6 := Lib.hid (HF.out fun h => hyb (h.2.2 y (List.mem_of_getElem? HLy.out)))
                  clear hyb
                  go_upto_region 11 with fail
                  go_quiet (first | (go_at_call 44; with_reducible refine Calls.quiet_of_same (CN.out _)) | (go_at_call 44; with_reducible refine Calls.quiet_of_same (CB.out _)))
                  go_wp2
                  refine bodyPost_ret (v := .tuple #[.slice none 0 0, .int .i64 6]) (by simp [results, Try.results20, go_sem]) rfl ⟨PlayRet.no HF6.out, below_drewN HBr.out _⟩
              · have CN : Hid (∀ X, Calls Try.prog 44 #[.int .i64 x, .int .i64 l.noise] X fun e w' => e = .returned (.bool true) ∧ w' = X) := fun X => (beyond_out x l.noise (by omega) hxb X).mono fun e w' h => ⟨h.1, h.2.symm⟩
                have HF6 := Lib.hid (HF.out fun h => hxb (h.2.1 x (List.mem_of_getElem? HLx.out)))
                clear hxb
                go_upto_region 11 with fail
                go_quiet ((go_at_call 44; with_reducible refine Calls.quiet_of_same (CN.out _)))
                go_wp2
                refine bodyPost_ret (v := .tuple #[.slice none 0 0, .int .i64 6]) (by simp [results, Try.results20, go_sem]) rfl ⟨PlayRet.no HF6.out, below_drewN HBr.out _⟩
            · have hk' : k = n := by omega
              subst hk'
              have HIns : Hid (InsOk l e noise blur) := ⟨Hin.out, by have h1 := HT.out.1; rwa [List.take_of_length_le (by rw [Hnl.out]; omega)] at h1, by have h1 := HT.out.2; rwa [List.take_of_length_le (by rw [Hbl.out]; omega)] at h1⟩
              obtain ⟨wB, rfl⟩ : ∃ wB, wB = wr := ⟨_, rfl⟩
              have HPo := Lib.hid (playD_ok Hok.out HLe.out HIns.out)
              obtain ⟨p, hp⟩ : ∃ p, playD l e noise blur = p := ⟨_, rfl⟩
              have HPe : Hid (p.l = l ∧ p.e = e ∧ p.noise = noise ∧ p.blur = blur ∧ p.d = l.dead.toNat) := by rw [← hp]; exact ⟨rfl, rfl, rfl, rfl, rfl⟩
              have HPl : Hid (∀ o, o = p.moms k → PlayIs l e noise blur o 0) := fun o ho => Or.inr (Or.inr (Or.inr ⟨Hok.out, HLe.out, HIns.out, by rw [ho, ← hp, Hnl.out], rfl⟩))
              rw [hp] at HPo
              clear hp
              obtain ⟨d, hd⟩ : ∃ d : Nat, l.dead = d := ⟨l.dead.toNat, by have := Hok.out.1; omega⟩
              have HD := Lib.hid hd
              have hd20 : d ≤ 20 := by have := Hok.out.2.1; omega
              rw [hd] at HVr ⊢
              obtain ⟨i0, hi, hz0, hz1, hz2⟩ := info_parts infoInt0
              obtain ⟨iM, him, hzm0, hzm1, hzm2⟩ := info_parts infoMomR
              have hms : Hid (∀ k, ∀ x ∈ movesTo p k, x ≤ 10000 ∧ -10000 ≤ x) := fun k x hx => by
                obtain ⟨i, -, rfl⟩ := List.mem_map.1 hx
                exact HPo.out.move_le i
              have he0 : e = p.err 0 := by rw [PlayD.err_zero]; exact HPe.out.2.1.symm
              have HE0 := Lib.hid he0
              clear hd he0
              go_wp2
              go_loopw [1, 12, 13, 14] (fun ee u v i wr => ∃ j : Nat, j ≤ k ∧ i = .int .i64 j ∧ ee = .int .i64 (p.err j) ∧ MvSt wB p j u v wr) (fun _ _ _ i _ => k - (intOf i).toNat)
              case atStart => exact ⟨0, Nat.zero_le _, rfl, by rw [← HE0.out], MvSt.start _ _⟩
              case round =>
                obtain ⟨j, hj, rfl, rfl, hst⟩ := hrel
                have HS := Lib.hid hst
                obtain ⟨hbB, hOu, hOv⟩ := hst
                have HBw := Lib.hid (HBr.out.trans (hbB.mono HBr.out.size))
                have HVw := Lib.hid (HVr.out.below hbB HVr.out.lt)
                obtain ⟨Au, cu, rfl⟩ := ownsRow_form hOu
                obtain ⟨Av, cv, rfl⟩ := ownsRow_form hOv
                rw [movesTo_len] at HS ⊢
                clear hOv hOu
                by_cases hjl : j < k
                · obtain ⟨g, o, x, rfl, hg, cx, hx⟩ := HA.out j (by rw [Hnl.out]; exact hjl)
                  obtain ⟨g2, o2, y, rfl, hg2, cy, hy⟩ := HA2.out j (by rw [Hbl.out]; exact hjl)
                  have hxn : p.n j = x := by have h1 := hx.out; unfold PlayD.n; rw [HPe.out.2.2.1]; exact h1
                  have hyn : p.b j = y := by have h1 := hy.out; unfold PlayD.b; rw [HPe.out.2.2.2.1]; exact h1
                  have hxb := HPo.out.n_le j
                  have hyb := HPo.out.b_le j
                  rw [hxn, HPe.out.1] at hxb
                  rw [hyn, HPe.out.1] at hyb
                  have heb := HPo.out.err_le (t := j) (by omega)
                  have hdec := p.decided j
                  rw [queue_last, hyn, HPe.out.1, HPe.out.2.2.2.2] at hdec
                  have hnext := p.next j
                  rw [hxn] at hnext
                  obtain ⟨E, hE⟩ : ∃ E, p.err j = E := ⟨_, rfl⟩
                  obtain ⟨M, hM⟩ : ∃ M, p.move j = M := ⟨_, rfl⟩
                  rw [hE] at hdec heb hnext ⊢
                  rw [hM] at hdec
                  have HNext := Lib.hid hnext
                  have HEm : Hid (p.err j = E ∧ p.move j = M) := ⟨hE, hM⟩
                  have cx' := (HBw.out.cell (p := ⟨g, o + j, none⟩) hg).trans cx
                  have cy' := (HBw.out.cell (p := ⟨g2, o2 + j, none⟩) hg2).trans cy
                  have ij : (j : Int) < (k : Int) := by omega
                  have ij0 : (0 : Int) ≤ (j : Int) := by omega
                  have kw1 : IntKind.i64.wrap (E + y) = E + y := IntWalk.i64_in _ ⟨by omega, by omega⟩
                  have v0 := cellOf HVw.out 0 (x := .int .i64 d) rfl
                  have v1 := cellOf HVw.out 1 (x := .int .i64 l.noise) rfl
                  have v2 := cellOf HVw.out 2 (x := .int .i64 l.blur) rfl
                  have v3 := cellOf HVw.out 3 (x := .int .i64 l.step) rfl
                  have CD : Hid (∀ Y, Below wr.heap.size wr Y → Calls Try.prog 48 #[.agg #[.int .i64 d, .int .i64 l.noise, .int .i64 l.blur, .int .i64 l.step], .slice Av j cv, .int .i64 j, .int .i64 (E + y)] Y fun e w' => e = .returned (.int .i64 M) ∧ Below wr.heap.size wr w' ∧ (w'.cell? ⟨bL, 0, none⟩ = some (.int .i64 d) ∧ w'.cell? ⟨bL, 1, none⟩ = some (.int .i64 l.noise) ∧ w'.cell? ⟨bL, 2, none⟩ = some (.int .i64 l.blur) ∧ w'.cell? ⟨bL, 3, none⟩ = some (.int .i64 l.step) ∧ w'.cell? ⟨g2, o2 + j, none⟩ = some (.int .i64 y))) := fun Y hY => by
                    have hSY := HS.out.later hY
                    have hrv : RInts Y.heap.size Y (.slice Av j cv) (movesTo p j) := Rd.own hSY.2.2 (own_le hSY.2.2)
                    have h9 := refDecided_any l Hok.out (movesTo p j) (hms.out j) (by rw [movesTo_len]; omega) _ (E + y) (by omega) Y hrv j (movesTo_len p j)
                    unfold LoopD.val at h9
                    rw [HD.out] at h9 hdec
                    refine h9.mono ?_
                    rintro e' w' ⟨rfl, hb⟩
                    have hw := hY.trans (hb.mono hY.size)
                    have hB' := HVw.out.below hw HVw.out.lt
                    have hcy := (HBw.out.trans (hw.mono HBw.out.size)).cell (p := ⟨g2, o2 + j, none⟩) hg2
                    exact ⟨by rw [hdec], hw, cellOf hB' 0 rfl, cellOf hB' 1 rfl, cellOf hB' 2 rfl, cellOf hB' 3 rfl, hcy.trans cy⟩
                  have Hdec := Lib.hid hdec
                  clear hx hy hxn hyn hdec hnext hE hM hbB cx
                  go_upto_region 18 with fail
                  go_region_held3 (fun X => X.cell? ⟨bL, 0, none⟩ = some (.int .i64 d) ∧ X.cell? ⟨bL, 1, none⟩ = some (.int .i64 l.noise) ∧ X.cell? ⟨bL, 2, none⟩ = some (.int .i64 l.blur) ∧ X.cell? ⟨bL, 3, none⟩ = some (.int .i64 l.step) ∧ X.cell? ⟨g2, o2 + j, none⟩ = some (.int .i64 y))
                    (first | exact hS5 | go_keep)
                    (first | (go_at_call 48; refine (CD.out _ (by first | exact Below.refl _ _ | exact (Below.refl _ _).drew)).mono ?_; rintro _ w5 ⟨rfl, hb5, hS5⟩))
                  have HS5 := Lib.hid (HS.out.later hb5)
                  have HAp1 : Hid (∀ v' w6, w6.ownsRow wB.heap.size 3 1 v' (j + 1) ((movesTo p j).map (Value.int .i64) ++ [.int .i64 M]) → (w5.alloc (.cells #[.int .i64 M] 3)).grownBy w6 (Value.slice Av j cv).ownBlock → MvMid wB p j (.slice Au j cu) v' w6) := fun v' w6 ho hg => HS5.out.mid (by rw [HEm.out.2]; exact ho) hg
                  have HVv : Hid (w5.ownsRow wB.heap.size 3 1 (.slice Av j cv) j ((movesTo p j).map (Value.int .i64))) := by have h1 := HS5.out.2.2; unfold OInts at h1; rwa [movesTo_len] at h1
                  have hz5 : wB.heap.size ≤ w5.heap.size := HS5.out.1.size
                  have hMb := HPo.out.move_le j
                  rw [HEm.out.2] at hMb
                  clear v0 v1 v2 v3 cy' kw1 hS5 CD hb5
                  go_upto_region 20 with (at_builtin; refine wpList_append_lies _ rfl _ _ 24 rfl wB.heap.size 3 i0 _ 1 8 sliceInts hi hz0 hz1 hz2 rfl (by decide) (.slice Av j cv) j _ rfl (HVv.out.alloc _) ⟨w5.heap.size, 0, none⟩ 1 1 [.int .i64 M] rfl rfl (cells_new _ _ _) (by simp [Value.oneCell']) (by omega) (by simp only [maxLen]; omega) (by omega) (by simp; omega) (w5.heap.size + 1) (by simp) ?_; intro g6 c6 w6 hown hgrow hat hlt6; have HM6 := Lib.hid (HAp1.out _ _ hown hgrow); clear hown hgrow hat)
                  have HU6 := Lib.hid HM6.out.2.1
                  have hz6 : wB.heap.size ≤ w6.heap.size := HM6.out.1.size
                  have HAp2 : Hid (∀ u' w7, w7.ownsRow wB.heap.size 112 2 u' (j + 1) (momCells (p.moms j) ++ [.int .i64 E, .int .i64 M]) → (w6.alloc (.cells #[.int .i64 E, .int .i64 M] 112)).grownBy w7 (Value.slice Au j cu).ownBlock → MvSt wB p (j + 1) u' (.slice (some ⟨g6, 0, none⟩) (j + 1) c6) w7) := fun u' w7 ho hg => HM6.out.next (by rw [HEm.out.1, HEm.out.2]; exact ho) hg
                  go_upto_region 21 with (at_builtin; refine wpList_append_lies _ rfl _ _ 39 rfl wB.heap.size 112 iM _ 2 16 Try.underlying39 him hzm0 hzm1 hzm2 rfl (by decide) (.slice Au j cu) j _ rfl (HU6.out.alloc _) ⟨w6.heap.size, 0, none⟩ 1 1 [.int .i64 E, .int .i64 M] rfl rfl (cells_new _ _ _) (by simp [Value.oneCell']) (by omega) (by simp only [maxLen]; omega) (by omega) (by simp; omega) (w6.heap.size + 1) (by simp) ?_; intro g7 c7 w7 hown hgrow hat hlt7; have HM7 := Lib.hid (HAp2.out _ _ hown hgrow); clear hown hgrow hat)
                  have HV7 := Lib.hid (HVr.out.below HM7.out.1 HVr.out.lt)
                  have HBw7 := Lib.hid (HBr.out.trans (HM7.out.1.mono HBr.out.size))
                  have v0 := cellOf HV7.out 0 (x := .int .i64 d) rfl
                  have cx7 : w7.cell? ⟨g, o + j, none⟩ = some (.int .i64 x) := by
                    have h1 := HA.out j (by rw [Hnl.out]; exact hjl)
                    obtain ⟨g', o', x', h2, -, h3, h4⟩ := h1
                    cases h2
                    have h5 : x' = x := by
                      have h6 := (HBw.out.cell (p := ⟨g, o + j, none⟩) hg).trans h3
                      rw [cx'] at h6
                      simpa using h6.symm
                    rw [← h5]
                    exact (HBw7.out.cell (p := ⟨g, o + j, none⟩) hg).trans h3
                  obtain ⟨he1, he2⟩ := heb
                  by_cases hkd : d ≤ j
                  · obtain ⟨q, hq⟩ : ∃ q : Nat, j - d = q := ⟨_, rfl⟩
                    have hqi : (j : Int) - (d : Int) = (q : Int) := by omega
                    have hrv : RInts w7.heap.size w7 (.slice (some ⟨g6, 0, none⟩) (j + 1) c6) (movesTo p (j + 1)) := Rd.own HM7.out.2.2 (own_le HM7.out.2.2)
                    obtain ⟨A9, c9, h9e, -, hA9⟩ := hrv.open_
                    rw [movesTo_len] at h9e
                    cases h9e
                    obtain ⟨g9, o9, m, hg9, hlt9, cm, hmm⟩ := hA9 q (by rw [movesTo_len]; omega)
                    cases hg9
                    have hpm : p.move q = m := by
                      have h1 := get_some (by rw [movesTo_len]; omega) hmm.out
                      rw [movesTo_at p (by omega)] at h1
                      simpa using h1
                    have hmb := HPo.out.move_le q
                    rw [hpm] at hmb
                    have HNx : Hid (p.err (j + 1) = E + m + x) := by
                      show _ = _
                      rw [HNext.out, HPe.out.2.2.2.2, HD.out, Int.toNat_natCast, hqi, UD_nat]
                      have h2 : uD p.l.step p.n p.b p.e q = m := hpm
                      rw [h2]
                      omega
                    have kwq : IntKind.i64.wrap ((j : Int) - (d : Int)) = (q : Int) := by rw [hqi]; exact IntWalk.i64_in _ ⟨by omega, by omega⟩
                    have kw2 : IntKind.i64.wrap (E + m) = E + m := IntWalk.i64_in _ ⟨by omega, by omega⟩
                    have kw3 : IntKind.i64.wrap (E + m + x) = E + m + x := IntWalk.i64_in _ ⟨by omega, by omega⟩
                    have iq : (q : Int) < ((j + 1 : Nat) : Int) := by omega
                    have iq0 : (0 : Int) ≤ (q : Int) := by omega
                    have ikd : (d : Int) ≤ (j : Int) := by omega
                    have cm' : w7.cell? ⟨g6, 0 + q, none⟩ = some (.int .i64 m) := cm
                    rw [Nat.zero_add] at cm'
                    have HQ := Lib.hid hqi
                    clear hq hqi hrv hA9 cm hmm hpm hkd
                    go_wp2
                    go_roundw
                    case rel => exact ⟨j + 1, by omega, by go_num, by rw [HNx.out], HM7.out⟩
                    case measure => (simp [intOf]) <;> omega
                  · have HNx : Hid (p.err (j + 1) = E + x) := by
                      show _ = _
                      rw [HNext.out, HPe.out.2.2.2.2, HD.out, Int.toNat_natCast, UD_early _ _ _ _ _ (by omega)]
                      omega
                    have kw3 : IntKind.i64.wrap (E + x) = E + x := IntWalk.i64_in _ ⟨by omega, by omega⟩
                    have ikd : ¬ (d : Int) ≤ (j : Int) := by omega
                    clear hkd
                    go_wp2
                    go_roundw
                    case rel => exact ⟨j + 1, by omega, by go_num, by rw [HNx.out], HM7.out⟩
                    case measure => (simp [intOf]) <;> omega
                · have hj' : j = k := by omega
                  subst hj'
                  have HRm : Hid (RMoms wr.heap.size wr (.slice Au j cu) (p.moms j)) := by
                    have h1 := HS.out.2.1
                    have h2 : Rd wr.heap.size wr 2 (.slice Au j cu) j (momCells (p.moms j)) := Rd.own h1 (own_le h1)
                    unfold RMoms
                    show Rd _ _ _ _ _ _
                    rw [PlayD.moms_len]
                    exact h2
                  have HPI := Lib.hid (HPl.out _ rfl)
                  go_wp2
                  refine bodyPost_ret (v := .tuple #[.slice Au j cu, .int .i64 0]) (by simp [results, Try.results20, go_sem]) rfl ⟨⟨_, _, 0, rfl, HPI.out, HRm.out⟩, HBw.out⟩
        · have C2 := Lib.hid (beyond_out e 1000000 (by omega) hin w2)
          have HF6 := Lib.hid (HF.out fun h => hin h.1)
          clear hin
          go_wp2_with fail
          refine C2.out.mono ?_
          rintro en w' ⟨rfl, rfl⟩
          go_wp2
          refine bodyPost_ret (v := .tuple #[.slice none 0 0, .int .i64 6]) (by simp [results, Try.results20, go_sem]) rfl ⟨PlayRet.no HF6.out, HB2.out⟩
      · have h5i : (5000 : Int) < (n : Int) := by omega
        have HF : Hid (PlayIs l e noise blur [] 1) := Or.inr (Or.inl ⟨Hok.out, fun h => h5 (by have := h.2; rw [Hnl.out] at this; exact this), rfl, rfl⟩)
        clear h5
        go_wp2
        refine bodyPost_ret (v := .tuple #[.slice none 0 0, .int .i64 1]) (by simp [results, Try.results20, go_sem]) rfl ⟨PlayRet.no HF.out, HB2.out⟩
    · have hni : ((n : Int) != (n2 : Int)) = true := by simp; omega
      have HF : Hid (PlayIs l e noise blur [] 1) := Or.inr (Or.inl ⟨Hok.out, fun h => hln (by have := h.1; rw [Hnl.out, Hbl.out] at this; exact this), rfl, rfl⟩)
      go_wp2
      refine bodyPost_ret (v := .tuple #[.slice none 0 0, .int .i64 1]) (by simp [results, Try.results20, go_sem]) rfl ⟨PlayRet.no HF.out, HB2.out⟩
  · rw [checkE_no hok] at C1
    have HF : Hid (PlayIs l e noise blur [] 60) := Or.inl ⟨hok, rfl, rfl⟩
    unfold LoopD.val at C1 ⊢
    have C1 := Lib.hid C1
    clear hok
    go_enter Try.func20, Try.ntmps20
    go_upto_region 1 with fail
    rw [E1.out]
    clear hbL
    go_wp2_with fail
    refine C1.out.mono ?_
    rintro en w2 ⟨rfl, hb2'⟩
    have HB2 := Lib.hid (HB1.out.trans (hb2'.mono HB1.out.size))
    clear v0 v1 v2 v3 C1 hb2'
    go_wp2
    refine bodyPost_ret (v := .tuple #[.slice none 0 0, .int .i64 60]) (by simp [results, Try.results20, go_sem]) rfl ⟨PlayRet.no HF.out, HB2.out⟩
end Go.Proofs.Ytffodgpafiifcaa
