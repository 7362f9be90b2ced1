/-
  RegisterReaches: the walk.
-/
import Derived.Test.YtffodgpafiifcaaFa
namespace Go.Proofs.Ytffodgpafiifcaa
open Go.RowKit

def worstP (l : LoopD) (d : Nat) : PlayD := ⟨l, 0, List.replicate (d + 2) l.noise, -l.blur :: List.replicate (d + 1) 0, d⟩
theorem worstP_ok {l : LoopD} (h : LoopOk l) {d : Nat} (hd : l.dead = d) : PlayOk (worstP l d) := by
  have hd20 : d ≤ 20 := by have := h.2.1; omega
  have hn := h.2.2.1
  have hb := h.2.2.2.2.1
  refine ⟨h, hd, ⟨by show (0 : Int) ≤ _; omega, by show _ ≤ (0 : Int); omega⟩, by simp [worstP], by simp [worstP]; omega, fun x hx => ?_, fun x hx => ?_⟩
  · have := List.eq_of_mem_replicate hx
    subst this
    exact ⟨Int.le_refl _, by show -l.noise ≤ l.noise; omega⟩
  · rcases List.mem_cons.1 hx with rfl | hx
    · exact ⟨by show -l.blur ≤ l.blur; omega, Int.le_refl _⟩
    · have := List.eq_of_mem_replicate hx
      subst this
      exact ⟨by show (0 : Int) ≤ l.blur; omega, by show -l.blur ≤ (0 : Int); omega⟩
theorem worstP_last {l : LoopD} (h : LoopOk l) {d : Nat} (hd : l.dead = d) : (worstP l d).err (d + 1) = boundD l := by
  refine worst h d hd.symm (fun i hi => ?_) rfl
  show (List.replicate (d + 2) l.noise).getD i 0 = _
  rw [List.getD_eq_getElem?_getD, List.getElem?_replicate, if_pos (by omega)]
  rfl
theorem beatD_or (l : LoopD) (e : Int) : beatD l e = l.noise ∨ beatD l e = -l.noise := by unfold beatD; split <;> simp
theorem take_sum_next {l : List Int} {k : Nat} {x : Int} (h : l[k]? = some x) : (l.take (k + 1)).sum = (l.take k).sum + x := by rw [take_snoc_get h, sum_snoc]
theorem take_sum_le {l : List Int} {m : Int} (hm : 0 ≤ m) (h : ∀ x ∈ l, x ≤ m ∧ -m ≤ x) : ∀ k, (l.take k).sum ≤ m * k ∧ -(m * k) ≤ (l.take k).sum := by
  intro k
  induction k with
  | zero => simp
  | succ k ih =>
    by_cases hk : k < l.length
    · have h1 := h l[k] (List.getElem_mem hk)
      rw [take_sum_next (List.getElem?_eq_getElem hk), Int.natCast_add, Int.mul_add]
      omega
    · rw [List.take_of_length_le (by omega)] at ih ⊢
      rw [Int.natCast_add, Int.mul_add]
      omega
theorem tmod_small (x : Int) : x.tmod 1000001 ≤ 1000000 ∧ -1000000 ≤ x.tmod 1000001 := by
  rw [Int.tmod_eq_emod]
  have h1 := Int.emod_nonneg x (show (1000001 : Int) ≠ 0 by omega)
  have h2 := Int.emod_lt_of_pos x (show (0 : Int) < 1000001 by omega)
  split
  · omega
  · have : ((1000001 : Int).natAbs : Int) = 1000001 := rfl
    omega

/-- Corrections that have been made. -/
def OwnQ (w5 : World) (q : Value) (own : List Int) (k : Nat) (wr : World) : Prop := own.length = k ∧ (∀ x ∈ own, x ≤ 1000000 ∧ -1000000 ≤ x) ∧ OInts w5.heap.size wr q own ∧ Below w5.heap.size w5 wr
set_option maxRecDepth 100000 in
set_option maxHeartbeats 8000000 in
theorem Reaches_any (a b c s e : Int) (v : Value) (moves : List Int) (w : World) (hv : RInts w.heap.size w v moves) :
    Calls Try.prog 8 #[.int .i64 a, .int .i64 b, .int .i64 c, .int .i64 s, .int .i64 e, v] w fun en w' => en = .returned (.bool true) ∧ Below w.heap.size w w' := by
  have HL := Lib.hid (loop_any a b c s w)
  have HLok := Lib.hid (mkLoop_ok a b c s)
  obtain ⟨l, hl⟩ : ∃ l, mkLoop a b c s = l := ⟨_, rfl⟩
  rw [hl] at HL HLok
  obtain ⟨d, hd⟩ : ∃ d : Nat, l.dead = d := ⟨l.dead.toNat, by have := HLok.out.1; omega⟩
  have HD := Lib.hid hd
  have hd20 : d ≤ 20 := by have := HLok.out.2.1; omega
  have HV := Lib.hid hv
  obtain ⟨A, cA, rfl, hml, hA⟩ := hv.open_
  have HA := Lib.hid hA
  obtain ⟨ml, hmlen⟩ : ∃ m, moves.length = m := ⟨_, rfl⟩
  have Hml := Lib.hid hmlen
  rw [hmlen] at hml ⊢
  unfold LoopD.val at HL
  rw [hd] at HL
  clear hl hd hv hA hmlen
  go_enter Try.func8, Try.ntmps8
  go_wp2_with fail
  refine HL.out.mono ?_
  rintro en w1 ⟨rfl, hb1⟩
  obtain ⟨w2, e2, hb2, V2⟩ : ∃ w2, w1.alloc (.cells #[.int .i64 d, .int .i64 l.noise, .int .i64 l.blur, .int .i64 l.step] 26) = w2 ∧ Below w1.heap.size w1 w2 ∧ Blk w2 w1.heap.size 26 #[.int .i64 d, .int .i64 l.noise, .int .i64 l.blur, .int .i64 l.step] := ⟨_, rfl, below_alloc _ _, Blk.new _ _ _⟩
  have E2 := Lib.hid e2
  have B2 : Below w.heap.size w w2 := hb1.trans (hb2.mono hb1.size)
  obtain ⟨L, hL⟩ : ∃ L, w1.heap.size = L := ⟨_, rfl⟩
  rw [hL] at V2
  clear e2 hb1 hb2
  go_upto_region 2 with fail
  rw [E2.out]
  clear hL E2
  have HCW := Worst_ok l HLok.out d HD.out w2
  unfold LoopD.val at HCW
  rw [HD.out] at HCW
  have HCW := Lib.hid HCW
  have v0 := cellOf V2 0 (x := .int .i64 d) rfl
  have v1 := cellOf V2 1 (x := .int .i64 l.noise) rfl
  have v2 := cellOf V2 2 (x := .int .i64 l.blur) rfl
  have v3 := cellOf V2 3 (x := .int .i64 l.step) rfl
  go_wp2_with fail
  refine HCW.out.mono ?_
  rintro en w3 ⟨u1, u2, rfl, hu1, hu2, hb3⟩
  have V3 := V2.below hb3 V2.lt
  have B3 := B2.trans (hb3.mono B2.size)
  clear HCW v0 v1 v2 v3 V2 B2 hb3
  obtain ⟨A1, c1, rfl⟩ := ownsRow_form hu1
  obtain ⟨A2, c2, rfl⟩ := ownsRow_form hu2
  have HCB := Bound_any l w3
  unfold boundRet at HCB
  rw [if_pos ((loopB_iff l).2 HLok.out), checkE_ok HLok.out] at HCB
  unfold LoopD.val at HCB
  rw [HD.out] at HCB
  have HCB := Lib.hid HCB
  have v0 := cellOf V3 0 (x := .int .i64 d) rfl
  have v1 := cellOf V3 1 (x := .int .i64 l.noise) rfl
  have v2 := cellOf V3 2 (x := .int .i64 l.blur) rfl
  have v3 := cellOf V3 3 (x := .int .i64 l.step) rfl
  simp only [List.length_replicate, List.length_cons] at hu1 hu2 ⊢
  go_wp2_with fail
  refine HCB.out.mono ?_
  rintro en w4 ⟨rfl, hb4⟩
  have V4 := V3.below hb4 V3.lt
  have B4 := B3.trans (hb4.mono B3.size)
  have hu1' := ownsRow_below hu1 hb4
  have hu2' := ownsRow_below hu2 hb4
  clear HCB v0 v1 v2 v3 V3 B3 hb4 hu1 hu2
  have HCP := Play_ok (worstP l d) (worstP_ok HLok.out HD.out) _ _ w4 (Rd.own hu1' (own_le hu1')) (Rd.own hu2' (own_le hu2'))
  rw [show (worstP l d).noise.length = d + 2 by simp [worstP]] at HCP
  change Calls Try.prog 19 #[.agg #[.int .i64 l.dead, .int .i64 l.noise, .int .i64 l.blur, .int .i64 l.step], .int .i64 0, _, _] w4 _ at HCP
  rw [HD.out] at HCP
  have HCP := Lib.hid HCP
  have v0 := cellOf V4 0 (x := .int .i64 d) rfl
  have v1 := cellOf V4 1 (x := .int .i64 l.noise) rfl
  have v2 := cellOf V4 2 (x := .int .i64 l.blur) rfl
  have v3 := cellOf V4 3 (x := .int .i64 l.step) rfl
  clear hu1' hu2'
  go_wp2_with fail
  refine HCP.out.mono ?_
  rintro en w5 ⟨u3, rfl, hu3, hb5⟩
  have V5 := V4.below hb5 V4.lt
  have B5 := B4.trans (hb5.mono B4.size)
  clear HCP v0 v1 v2 v3 V4 B4 hb5
  obtain ⟨A3, c3, h3e, hlm3, hr3⟩ := (OMoms.reads hu3).open_
  obtain ⟨g3, o3, hA3, hg3, cm, -⟩ := hr3 (d + 1) ((worstP l d).err (d + 1), (worstP l d).move (d + 1)) (by
    unfold PlayD.moms
    rw [List.getElem?_map, List.getElem?_range (by omega)]; rfl)
  rw [PlayD.moms_len] at h3e hlm3
  subst h3e hA3
  rw [worstP_last HLok.out HD.out] at cm
  have HBd := boundD_small HLok.out
  obtain ⟨bd, hbd⟩ : ∃ bd, boundD l = bd := ⟨_, rfl⟩
  rw [hbd] at cm HBd ⊢
  have cm' : w5.cell? ⟨g3, o3 + (d + 1) * 2, none⟩ = some (.int .i64 bd) := cm
  have ix1 : ((d + 2 : Nat) : Int) - 1 = ((d + 1 : Nat) : Int) := by omega
  clear hbd hr3 hu3 cm HBd hg3
  obtain ⟨i0, hi, hz0, hz1, hz2⟩ := info_parts infoInt0
  have HV5 := Lib.hid V5
  have HB5 := Lib.hid B5
  have hE := tmod_small e
  go_upto_region 12 with fail
  rw [show d + 2 - 1 = d + 1 by omega]
  clear cm' ix1 V5 B5
  obtain ⟨E, hEe⟩ : ∃ E, e.tmod 1000001 = E := ⟨_, rfl⟩
  rw [hEe] at hE ⊢
  clear hEe
  go_loopw [20, 21, 22] (fun q i _ wr => ∃ (k : Nat) (own : List Int), k ≤ d + 1 ∧ i = .int .i64 k ∧ OwnQ w5 q own k wr) (fun _ i _ _ => d + 1 - (intOf i).toNat)
  case atStart => exact ⟨0, [], Nat.zero_le _, rfl, rfl, fun x hx => absurd hx (by simp), World.ownsRow_nil _ _ _ _, Below.refl _ _⟩
  case round =>
    obtain ⟨k, own, hk, rfl, hlen, hob, hO, hbr⟩ := hrel
    replace hO : wr.ownsRow w5.heap.size 3 1 u20 k (own.map (Value.int .i64)) := by have h1 := hO; unfold OInts at h1; rwa [hlen] at h1
    obtain ⟨Aq, cq, rfl⟩ := ownsRow_form hO
    have HO := Lib.hid hO
    have HBr := Lib.hid hbr
    have Hob := Lib.hid hob
    have Hlen := Lib.hid hlen
    have v0 := cellOf (HV5.out.below hbr HV5.out.lt) 0 (x := .int .i64 d) rfl
    have HAp : Hid (∀ v' w6 y, (y ≤ 1000000 ∧ -1000000 ≤ y) → w6.ownsRow w5.heap.size 3 1 v' (k + 1) (own.map (Value.int .i64) ++ [.int .i64 y]) → (wr.alloc (.cells #[.int .i64 y] 3)).grownBy w6 (Value.slice Aq k cq).ownBlock → OwnQ w5 v' (own ++ [y]) (k + 1) w6) := fun v' w6 y hy ho hg => by
      refine ⟨by rw [List.length_append, Hlen.out]; rfl, fun x hx => ?_, ?_, ?_⟩
      · rcases List.mem_append.1 hx with hx | hx
        · exact Hob.out x hx
        · rw [List.mem_singleton] at hx; rw [hx]; exact hy
      · unfold OInts
        rw [List.length_append, Hlen.out, List.map_append]
        exact ho
      · exact (HBr.out.alloc HBr.out.size _).grown hg (by have := HBr.out.size; simp; omega) fun j hj => (HO.out.lt j hj).1
    clear hO hbr hob hlen
    by_cases hlt : k < d + 1
    · by_cases hml0 : 0 < ml
      · obtain ⟨m, hm⟩ : ∃ m, k % ml = m := ⟨_, rfl⟩
        have hm1 : m < ml := by rw [← hm]; exact Nat.mod_lt _ hml0
        have hmi : (k : Int) % (ml : Int) = (m : Int) := by rw [← hm]; exact (Int.natCast_emod k ml).symm
        obtain ⟨g, o, x, rfl, hg, cx, -⟩ := HA.out m (by rw [Hml.out]; exact hm1)
        have hbw := HB5.out.trans (HBr.out.mono HB5.out.size)
        have cx' := (hbw.cell (p := ⟨g, o + m, none⟩) hg).trans cx
        have hy := tmod_small x
        have im : (m : Int) < (ml : Int) := by omega
        have iml : (0 : Int) < (ml : Int) := by omega
        have hne : ¬ (ml : Int) = 0 := by omega
        have hne2 : ((ml : Int) == 0) = false := by simpa using hne
        clear hm cx hbw
        go_wp2_with (at_builtin; refine wpList_append_own _ rfl _ _ 24 rfl w5.heap.size 3 i0 _ 1 8 sliceInts hi hz0 hz1 hz2 rfl (by decide) (.slice Aq k cq) k _ rfl (HO.out.alloc _) ⟨wr.heap.size, 0, none⟩ 1 1 [.int .i64 (x.tmod 1000001)] rfl rfl (cells_new _ _ _) (by simp [Value.oneCell']) (by simp only [maxLen]; omega) (by omega) (by have := HBr.out.size; simp; omega) ?_; intro v' w6 hown hgrow _; have HN := Lib.hid (HAp.out v' w6 (x.tmod 1000001) hy hown hgrow); clear hown hgrow)
        go_roundw
        case rel => exact ⟨k + 1, own ++ [x.tmod 1000001], by omega, by go_num, HN.out⟩
        case measure => simp [intOf]; omega

      · have hml1 : ml = 0 := by omega
        subst hml1
        have hy : (0 : Int) ≤ 1000000 ∧ -1000000 ≤ (0 : Int) := by omega
        go_wp2_with (at_builtin; refine wpList_append_own _ rfl _ _ 24 rfl w5.heap.size 3 i0 _ 1 8 sliceInts hi hz0 hz1 hz2 rfl (by decide) (.slice Aq k cq) k _ rfl (HO.out.alloc _) ⟨wr.heap.size, 0, none⟩ 1 1 [.int .i64 (0)] rfl rfl (cells_new _ _ _) (by simp [Value.oneCell']) (by simp only [maxLen]; omega) (by omega) (by have := HBr.out.size; simp; omega) ?_; intro v' w6 hown hgrow _; have HN := Lib.hid (HAp.out v' w6 (0) hy hown hgrow); clear hown hgrow)
        go_roundw
        case rel => exact ⟨k + 1, own ++ [0], by omega, by go_num, HN.out⟩
        case measure => simp [intOf]; omega

    · have hk' : k = d + 1 := by omega
      subst hk'
      clear v0 HAp hlt hk
      have HVr := Lib.hid (HV5.out.below HBr.out HV5.out.lt)
      have HBw := Lib.hid (HB5.out.trans (HBr.out.mono HB5.out.size))
      have HOr : Hid (OInts w5.heap.size wr (.slice Aq (d + 1) cq) own) := by show OInts _ _ _ _; unfold OInts; rw [Hlen.out]; exact HO.out
      have HCBt := Beat_ok l HLok.out d HD.out E hE own Hlen.out Hob.out (.slice Aq (d + 1) cq) wr (Rd.own HOr.out (own_le HOr.out))
      unfold LoopD.val at HCBt
      rw [HD.out] at HCBt
      have HCBt := Lib.hid HCBt
      have v0 := cellOf HVr.out 0 (x := .int .i64 d) rfl
      have v1 := cellOf HVr.out 1 (x := .int .i64 l.noise) rfl
      have v2 := cellOf HVr.out 2 (x := .int .i64 l.blur) rfl
      have v3 := cellOf HVr.out 3 (x := .int .i64 l.step) rfl
      go_wp2_with fail
      refine HCBt.out.mono ?_
      rintro en w7 ⟨u7, rfl, hu7, hb7⟩
      have HV7 := Lib.hid (HVr.out.below hb7 HVr.out.lt)
      have HB7 := Lib.hid (HBw.out.trans (hb7.mono HBw.out.size))
      have HO7 := Lib.hid (ownsRow_below HOr.out hb7)
      obtain ⟨bt, hbt⟩ : ∃ bt, beatD l (E + own.sum) = bt := ⟨_, rfl⟩
      have hbo := beatD_or l (E + own.sum)
      rw [hbt] at hu7 hbo
      have Hbt := Lib.hid hbt
      obtain ⟨A7, c7, rfl⟩ := ownsRow_form hu7
      have hr7 : RInts w7.heap.size w7 (.slice A7 (List.replicate (d + 1) bt).length c7) (List.replicate (d + 1) bt) := Rd.own hu7 (own_le hu7)
      obtain ⟨A7', c7', h7e, -, hA7⟩ := hr7.open_
      cases h7e
      have HA7 := Lib.hid hA7
      have hrq : RInts w7.heap.size w7 (.slice Aq (d + 1) cq) own := Rd.own HO7.out (own_le HO7.out)
      obtain ⟨Aq', cq', hqe, -, hAq⟩ := hrq.open_
      rw [Hlen.out] at hqe
      cases hqe
      have HAq := Lib.hid hAq
      have hn1 := HLok.out.2.2.1
      have hn2 := HLok.out.2.2.2.1
      simp only [List.length_replicate]
      clear v0 v1 v2 v3 HCBt hb7 hu7 hbt hr7 hA7 hrq hAq
      have v0 := cellOf HV7.out 0 (x := .int .i64 d) rfl
      go_wp2
      clear v0
      go_loopw [4, 24] (fun x i wq => ∃ k : Nat, k ≤ d + 1 ∧ i = .int .i64 k ∧ x = .int .i64 (E + (own.take k).sum + k * bt) ∧ Below w7.heap.size w7 wq) (fun _ i _ => d + 1 - (intOf i).toNat)
      case atStart => exact ⟨0, Nat.zero_le _, rfl, by simp, Below.refl _ _⟩
      case round =>
        obtain ⟨k, hk, rfl, rfl, hb2⟩ := hrel
        have hsm := take_sum_le (m := 1000000) (by omega) Hob.out k
        have hv := HV7.out.below hb2 HV7.out.lt
        have v0 := cellOf hv 0 (x := .int .i64 d) rfl
        have v1 := cellOf hv 1 (x := .int .i64 l.noise) rfl
        have hbt2 : bt ≤ 1000 ∧ -1000 ≤ bt := by rcases hbo with h | h <;> omega
        have hkb : (k : Int) * bt ≤ 1000 * k ∧ -(1000 * k) ≤ (k : Int) * bt := by
          have h1 := Int.mul_le_mul_of_nonneg_left hbt2.1 (show (0 : Int) ≤ (k : Int) by omega)
          have h2 := Int.mul_le_mul_of_nonneg_left hbt2.2 (show (0 : Int) ≤ (k : Int) by omega)
          rw [Int.mul_neg] at h2
          omega
        by_cases hlt : k < d + 1
        · obtain ⟨g, o, x, rfl, hg, cx, hx⟩ := HAq.out k (by rw [Hlen.out]; exact hlt)
          obtain ⟨g', o', y, rfl, hg', cy, hy⟩ := HA7.out k (by rw [List.length_replicate]; exact hlt)
          have hy1 : bt = y := by
            have h1 := hy.out
            rwa [List.getD_eq_getElem?_getD, List.getElem?_replicate, if_pos hlt] at h1
          subst hy1
          have hlx := get_some (by rw [Hlen.out]; exact hlt) hx.out
          have hxb := Hob.out x (List.mem_of_getElem? hlx)
          have HN : Hid (E + (own.take (k + 1)).sum + ((k + 1 : Nat) : Int) * bt = E + (own.take k).sum + k * bt + (x + bt)) := by
            show _ = _
            rw [take_sum_next hlx, Int.natCast_add, Int.add_mul]
            omega
          have cx' := (hb2.cell (p := ⟨g, o + k, none⟩) hg).trans cx
          have cy' := (hb2.cell (p := ⟨g', o' + k, none⟩) hg').trans cy
          have ik : (k : Int) < (d : Int) + 1 := by omega
          have ik0 : (0 : Int) ≤ (k : Int) := by omega
          obtain ⟨S, hS⟩ : ∃ S, E + (own.take k).sum + k * bt = S := ⟨_, rfl⟩
          have hSb : S ≤ 100000000 ∧ -100000000 ≤ S := by omega
          have HSe := Lib.hid hS
          rw [hS]
          have Hb2 := Lib.hid hb2
          have kw1 : IntKind.i64.wrap (x + bt) = x + bt := IntWalk.i64_in _ ⟨by omega, by omega⟩
          have kw2 : IntKind.i64.wrap (S + (x + bt)) = S + (x + bt) := IntWalk.i64_in _ ⟨by omega, by omega⟩
          have kw3 : IntKind.i64.wrap (-l.noise) = -l.noise := IntWalk.i64_in _ ⟨by omega, by omega⟩
          clear hS hsm hkb hx hy hlx cx cy hv hb2
          by_cases hbn : bt = l.noise
          · have hd1 : (bt != l.noise) = false := by simpa using hbn
            clear hbn hbo
            go_upto_region 24 with fail
            go_quiet (fail)
            go_upto_region 26 with fail
            go_quiet (fail)
            clear kw1 kw2 kw3
            go_wp2
            go_roundw
            case rel => exact ⟨k + 1, by omega, by go_num, by rw [HN.out, HSe.out], below_drewN Hb2.out _⟩
            case measure => simp [intOf]; omega
          · have hd1 : (bt != l.noise) = true := by simpa using hbn
            have hd2 : (bt != -l.noise) = false := by
              rcases hbo with h | h
              · exact absurd h hbn
              · simpa using h
            clear hbn hbo
            go_upto_region 24 with fail
            go_quiet (fail)
            go_upto_region 26 with fail
            go_quiet (fail)
            clear kw1 kw2 kw3
            go_wp2
            go_roundw
            case rel => exact ⟨k + 1, by omega, by go_num, by rw [HN.out, HSe.out], below_drewN Hb2.out _⟩
            case measure => simp [intOf]; omega
        · have hk' : k = d + 1 := by omega
          subst hk'
          have hT : own.take (d + 1) = own := List.take_of_length_le (by rw [Hlen.out]; omega)
          rw [hT] at hsm ⊢
          have hbeat := beat HLok.out (E + own.sum)
          rw [Hbt.out, HD.out] at hbeat
          have hcast : ((d + 1 : Nat) : Int) = (d : Int) + 1 := by omega
          rw [hcast] at hkb ⊢
          have hy1 : 0 ≤ ((d : Int) + 1) * l.noise := Int.mul_nonneg (by omega) hn1
          have hy2 : ((d : Int) + 1) * l.noise ≤ 21 * 1000 := Int.mul_le_mul (by omega) hn2 hn1 (by omega)
          have hw9 := HB7.out.trans (hb2.mono HB7.out.size)
          have HB9 := Lib.hid hw9
          obtain ⟨S, hS⟩ : ∃ S, E + own.sum + ((d : Int) + 1) * bt = S := ⟨_, rfl⟩
          obtain ⟨Y, hY⟩ : ∃ Y, ((d : Int) + 1) * l.noise = Y := ⟨_, rfl⟩
          have hSb : S ≤ 100000000 ∧ -100000000 ≤ S := by omega
          rw [hS] at hbeat ⊢
          rw [hY] at hbeat
          have hy3 : ((d : Int) + 1) * l.noise ≤ 21000 := by omega
          have hy4 : 0 ≤ ((d : Int) + 1) * l.noise := hy1
          have hbeat2 : ((d : Int) + 1) * l.noise ≤ max S (-S) := by rw [hY]; exact hbeat
          have CA := Lib.hid (awake_any wr)
          clear hT hS hY hsm hkb hb2 hw9 hcast hv
          by_cases hneg : S < -S
          · have hge : ((d : Int) + 1) * l.noise ≤ -S := by omega
            go_wp2_with fail
            refine CA.out.mono ?_
            rintro en w9 ⟨rfl, hb9⟩
            have HB10 := Lib.hid (HB9.out.trans (hb9.mono HB9.out.size))
            clear hb9
            go_wp2
            go_ret
            exact ⟨rfl, HB10.out⟩
          · have hge : ((d : Int) + 1) * l.noise ≤ S := by omega
            go_wp2_with fail
            refine CA.out.mono ?_
            rintro en w9 ⟨rfl, hb9⟩
            have HB10 := Lib.hid (HB9.out.trans (hb9.mono HB9.out.size))
            clear hb9
            go_wp2
            go_ret
            exact ⟨rfl, HB10.out⟩
end Go.Proofs.Ytffodgpafiifcaa
