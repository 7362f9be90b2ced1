/-
  Shares: the loops.
-/
import Derived.Test.YtlmpbmlbllndcaaMbb
namespace Go.Proofs.Ytlmpbmlbllndcaa
open Go.RowKit
attribute [local go_sem] Oper.semAt_some

/-- What is given first. -/
def least0 (l : List OrdD) : List Int := l.map OrdD.least
def leftC (l : List OrdD) (c : Int) : Nat := (c - lstK l l.length).toNat
def sharesD (l : List OrdD) (c : Int) : List Int := stepsS l (leftC l c) (least0 l)
theorem least0_at (l : List OrdD) (i : Nat) : (least0 l).getD i 0 = leastAt l i := by
  unfold least0 leastAt
  rw [List.getD_eq_getElem?_getD, List.getElem?_map]
theorem given0 {l : List OrdD} (hd : ∀ o ∈ l, o.ok) : Given l (least0 l) := by
  refine ⟨by simp [least0], fun i hi => ?_⟩
  rw [least0_at]
  obtain ⟨x, hx⟩ : ∃ x, l[i]? = some x := ⟨_, List.getElem?_eq_getElem hi⟩
  have := (hd x (List.mem_of_getElem? hx)).2.2
  rw [leastAt_of hx, copAt_of hx]
  omega
theorem given_ext {l : List OrdD} {g : List Int} (hl : g.length = l.length) (h : ∀ j, j < l.length → g.getD j 0 = leastAt l j) : g = least0 l := by
  refine List.ext_getElem? fun i => ?_
  by_cases hi : i < l.length
  · have h1 := h i hi
    rw [← least0_at] at h1
    have h2 : i < (least0 l).length := by simp [least0, hi]
    rw [List.getElem?_eq_getElem (by omega), List.getElem?_eq_getElem h2]
    rw [List.getD_eq_getElem?_getD, List.getD_eq_getElem?_getD, List.getElem?_eq_getElem (by omega), List.getElem?_eq_getElem h2] at h1
    exact congrArg some h1
  · rw [List.getElem?_eq_none (by omega), List.getElem?_eq_none (by simp [least0]; omega)]
set_option maxRecDepth 100000 in
set_option maxHeartbeats 4000000 in
theorem share_any (l : List OrdD) (c0 : Int) (hl : l.length ≤ 40) (hd : ∀ o ∈ l, o.ok) (hc0 : lstK l l.length ≤ c0) (hc1 : c0 ≤ 9223372036854775807) (v : Value) (w : World) (h : ROrds w.heap.size w v l) :
    Calls Try.prog 83 #[v, .int .i64 c0] w fun e w' => ∃ gr, e = .returned (.slice (some ⟨gr, 0, none⟩) l.length l.length) ∧ w.heap.size ≤ gr ∧ Blk w' gr 3 ((sharesD l c0).map (Value.int .i64)).toArray ∧ Below w.heap.size w w' := by
  have HRO := Lib.hid h
  obtain ⟨A, c, rfl, hlm, HD⟩ := ords_later h
  obtain ⟨n, hn⟩ : ∃ n, l.length = n := ⟨_, rfl⟩
  obtain ⟨lv, hlv⟩ : ∃ lv, Value.slice A l.length c = lv := ⟨_, rfl⟩
  have F1 : ∃ S1, w.alloc (.cells #[lv] 30) = S1 ∧ Hid (Below w.heap.size w S1) ∧ Hid (Blk S1 w.heap.size 30 #[lv]) := ⟨_, rfl, below_alloc _ _, Blk.new _ _ _⟩
  obtain ⟨S1, e1, HB1, HK1⟩ := F1
  have F2 : ∃ S2, S1.alloc (.cells (Array.replicate n (.int .i64 0)) 3) = S2 ∧ Hid (Below S1.heap.size S1 S2) ∧ Hid (Blk S2 S1.heap.size 3 (Array.replicate n (.int .i64 0))) := ⟨_, rfl, below_alloc _ _, Blk.new _ _ _⟩
  obtain ⟨S2, e2, HB2, HK2⟩ := F2
  have F3 : ∃ S3, S2.alloc (.cells #[.slice (some ⟨S1.heap.size, 0, none⟩) n n] 31) = S3 ∧ Hid (Below S2.heap.size S2 S3) ∧ Hid (Blk S3 S2.heap.size 31 #[.slice (some ⟨S1.heap.size, 0, none⟩) n n]) := ⟨_, rfl, below_alloc _ _, Blk.new _ _ _⟩
  obtain ⟨S3, e3, HB3, HK3⟩ := F3
  have HST : Hid (ShW w S2.heap.size S1.heap.size w.heap.size lv l (List.replicate n 0) S3) := ⟨(HB1.out.trans (HB2.out.mono HB1.out.size)).trans (HB3.out.mono (Nat.le_trans HB1.out.size HB2.out.size)), (HK1.out.below HB2.out HK1.out.lt).below HB3.out (HK1.out.below HB2.out HK1.out.lt).lt, by rw [hn]; exact HK3.out, by have := HK2.out.below HB3.out HK2.out.lt; simpa using this, by simp [hn], HB1.out.size⟩
  have HQ1 : Hid (w.heap.size < S3.heap.size ∧ S1.heap.size < S3.heap.size ∧ S2.heap.size < S3.heap.size) := ⟨HST.out.box.lt, HST.out.row.lt, HST.out.gbox.lt⟩
  have s1c := cellOf HK1.out 0 (x := lv) rfl
  have s2c := cellOf (HK1.out.below HB2.out HK1.out.lt) 0 (x := lv) rfl
  have s3c := cellOf HST.out.box 0 (x := lv) rfl
  have hmk := makeInts n (by omega)
  have E1 := Lib.hid e1
  have E2 := Lib.hid e2
  have E3 := Lib.hid e3
  rw [hn] at hlv hlm hl hc0
  subst hlv
  have HS2 : Hid (S1.heap.size + 1 = S2.heap.size) := by show _ = _; rw [← e2]; simp
  clear e1 e2 e3 h
  rw [hn]
  go_enter Try.func83, Try.ntmps83
  go_upto_region 1 with fail
  rw [E1.out]
  go_upto_region 2 with fail
  rw [E2.out, E3.out]
  obtain ⟨base, hbase⟩ : ∃ b, S3.heap.size = b := ⟨_, rfl⟩
  obtain ⟨Gb, hGb⟩ : ∃ b, S2.heap.size = b := ⟨_, rfl⟩
  obtain ⟨gr, hgr⟩ : ∃ b, S1.heap.size = b := ⟨_, rfl⟩
  obtain ⟨Lb, hLb⟩ : ∃ b, w.heap.size = b := ⟨_, rfl⟩
  rw [hbase] at HQ1
  rw [hGb, hgr, hLb] at HQ1 HST
  rw [hLb] at s3c ⊢
  rw [HS2.out, hGb, hgr]
  have HBASE := Lib.hid hbase
  have HLBW := Lib.hid hLb
  clear HS2 E1 E2 E3 hbase hGb hgr hLb hmk s1c s2c HK1 HK2 HK3 HB1 HB2 HB3
  have HO0 : Hid (∃ g, ShW w Gb gr Lb (.slice A n c) l g S3 ∧ ∀ j, j < 0 → g.getD j 0 = leastAt l j) := ⟨_, HST.out, fun j hj => absurd hj (Nat.not_lt_zero _)⟩
  have HOR : Hid (S3.ownsRow base 3 1 (.slice none 0 0) (wk l 0).length ((wk l 0).map (Value.int .i64))) := World.ownsRow_nil S3 base 3 1
  have HNN := Lib.hid hn
  have HLD := Lib.hid hd
  obtain ⟨i0, hi0, hz0, hz1, hz2⟩ := info_parts infoInt0
  have HBZ : Hid (base ≤ S3.heap.size) := by show _ ≤ _; rw [HBASE.out]; exact Nat.le_refl _
  clear HST hn hd
  go_wp2_with fail
  go_loopw [1, 6, 17] (fun q wv i wr => ∃ k : Nat, k ≤ n ∧ i = .int .i64 k ∧ ∃ t : Int, q = .int .i64 t ∧ Hid (t = c0 - lstK l k) ∧ Hid (∃ g, ShW w Gb gr Lb (.slice A n c) l g wr ∧ ∀ j, j < k → g.getD j 0 = leastAt l j) ∧ Hid (wr.ownsRow base 3 1 wv (wk l k).length ((wk l k).map (Value.int .i64))) ∧ Hid (base ≤ wr.heap.size)) (fun _ _ i _ => n - (intOf i).toNat)
  case atStart => exact ⟨0, Nat.zero_le _, rfl, c0, rfl, by show _ = _; simp [lstK, sumI], HO0, HOR, HBZ⟩
  case round =>
  clear HO0 HOR HBZ s3c
  obtain ⟨k, hk, rfl, t, rfl, ht, hS, hO, hZ⟩ := hrel
  obtain ⟨X, rfl⟩ : ∃ X : World, X = wr := ⟨_, rfl⟩
  obtain ⟨g, HS, hg⟩ := hS.out
  have HSH := Lib.hid HS
  have HGK := Lib.hid hg
  have HLB : 0 ≤ lstK l k ∧ lstK l k ≤ 400000 := lstK_bd (by rw [HNN.out]; omega) HLD.out k
  have htb : -400000 ≤ t ∧ t ≤ 9223372036854775807 := by
    have h2 := ht.out
    have h3 := lstK_bd (by rw [HNN.out]; omega) HLD.out n
    omega
  obtain ⟨t1, t2⟩ := htb
  have d0 := cellOf HS.box 0 (x := .slice A n c) rfl
  have d1 := cellOf HS.gbox 0 (x := .slice (some ⟨gr, 0, none⟩) l.length l.length) rfl
  rw [HNN.out] at d1
  by_cases hlt : k < n
  · obtain ⟨x, hx⟩ : ∃ x, l[k]? = some x := ⟨_, List.getElem?_eq_getElem (by rw [HNN.out]; exact hlt)⟩
    obtain ⟨g', o, rfl, -, HX⟩ := HD.out k x hx
    obtain ⟨c1, c2, c3⟩ := HX.out X HS.low
    have F1 : ∃ X1, X.alloc (.cells #[.int .i64 x.ag, .int .i64 x.cop, .int .i64 x.least] 33) = X1 ∧ Hid (Below X.heap.size X X1) ∧ Hid (Blk X1 X.heap.size 33 #[.int .i64 x.ag, .int .i64 x.cop, .int .i64 x.least]) := ⟨_, rfl, below_alloc _ _, Blk.new _ _ _⟩
    obtain ⟨X1, e1, HX1, HK1⟩ := F1
    have E1 := Lib.hid e1
    have HS1 := HS.below HX1.out
    have HO1 : X1.ownsRow base 3 1 u6 (wk l k).length ((wk l k).map (Value.int .i64)) := ownsRow_keptBut hO.out (KeptBut.of_below (S := fun _ => False) HX1.out) fun _ _ _ _ e => e.elim
    obtain ⟨X2, e2⟩ : ∃ X2, X1.setCell ⟨gr, k, none⟩ (.int .i64 x.least) = X2 := ⟨_, rfl⟩
    have HS2 : ShW w Gb gr Lb (.slice (some ⟨g', o, none⟩) n c) l (g.set k x.least) X2 ∧ KeptBut (fun j => j = gr) X1 X2 := by rw [← e2]; exact HS1.set k x.least
    have HO2 : Hid (X2.ownsRow base 3 1 u6 (wk l k).length ((wk l k).map (Value.int .i64))) := ownsRow_keptBut HO1 HS2.2 fun j cs hv _ e => by
      have h1 := (ownsRow_own HO1 hv).1
      have h2 := HQ1.out.2.1
      omega
    have HB2 : Hid (Blk X2 X.heap.size 33 #[.int .i64 x.ag, .int .i64 x.cop, .int .i64 x.least]) := HS2.2.blk HK1.out fun e => by
      have := HQ1.out.2.1
      have := hZ.out
      omega
    have HG2 : Hid (∀ j, j < k + 1 → (g.set k x.least).getD j 0 = leastAt l j) := fun j hj => by
      rw [getD_set (by rw [HS.len, HNN.out]; exact hlt)]
      by_cases e : j = k
      · rw [if_pos e, e, leastAt_of hx]
      · rw [if_neg e]
        exact HGK.out j (by omega)
    have HSS2 := Lib.hid HS2.1
    have HZ2 : Hid (base ≤ X2.heap.size) := Nat.le_trans (Nat.le_trans hZ.out HX1.out.size) HS2.2.size
    have d2 := cellOf HK1.out 2 (x := .int .i64 x.least) rfl
    have d3 := cellOf HS1.gbox 0 (x := .slice (some ⟨gr, 0, none⟩) l.length l.length) rfl
    have d4 := cellOf HB2.out 1 (x := .int .i64 x.cop) rfl
    have d5 := cellOf HB2.out 2 (x := .int .i64 x.least) rfl
    rw [HNN.out] at d3
    have d6 := HS1.row.frozen k
    obtain ⟨y, d7⟩ : ∃ y, X1.cell? ⟨gr, k, none⟩ = some y := ⟨_, cellOf HS1.row k (by rw [List.getElem?_toArray, List.getElem?_map, List.getElem?_eq_getElem (show k < g.length by rw [HS.len, HNN.out]; exact hlt)]; rfl)⟩
    have hnx := lstK_next hx
    have HNX : Hid (t - x.least = c0 - lstK l (k + 1)) := by show _ = _; rw [hnx, ht.out]; omega
    have HLB1 := lstK_bd (by rw [HNN.out]; omega) HLD.out (k + 1)
    have u1 : -400000 ≤ t - x.least ∧ t - x.least ≤ 9223372036854775807 := by
      have h3 := lstK_bd (by rw [HNN.out]; omega) HLD.out n
      have h2 := HNX.out
      omega
    obtain ⟨u1, u2⟩ := u1
    have HWN := Lib.hid (wk_next l k)
    rw [leastAt_of hx, copAt_of hx] at HWN
    have k0 : (0 : Int) ≤ (k : Int) := by omega
    have k1 : (k : Int) < (n : Int) := by omega
    have E2 := Lib.hid e2
    have HWK := Lib.hid (wk_len l k)
    clear hx e1 e2 hnx HX ht HS HS1 HS2 HO1 hg HGK hS HLB HLB1 d1
    go_upto_region 6 with fail
    rw [E1.out]
    clear E1 d0 c1 c2 c3
    go_upto_region 7 with fail
    rw [E2.out]
    clear E2 d2 d3 d6 d7
    by_cases hw : x.least < x.cop
    · have HWN1 : Hid (wk l (k + 1) = wk l k ++ [(k : Int)]) := by show _ = _; rw [HWN.out, if_pos hw]
      obtain ⟨Av, cv, rfl⟩ : ∃ Av cv, u6 = .slice Av (wk l k).length cv := by
        rcases HO2.out.2 with ⟨h1, h2⟩ | ⟨gg, cap, cur, h1, -⟩
        · exact ⟨none, 0, by rw [h1, h2]⟩
        · exact ⟨_, _, h1⟩
      have F3 : ∃ X3, X2.alloc (.cells #[.int .i64 (k : Int)] 3) = X3 ∧ Hid (Below X2.heap.size X2 X3) := ⟨_, rfl, below_alloc _ _⟩
      obtain ⟨X3, e3, HX3⟩ := F3
      have E3 := Lib.hid e3
      have HS3 := Lib.hid (HSS2.out.below HX3.out)
      have hb3 : base ≤ X3.heap.size := Nat.le_trans HZ2.out HX3.out.size
      have hL : (wk l k).length ≤ 40 := Nat.le_trans HWK.out (by omega)
      obtain ⟨m, hm⟩ : ∃ m, (wk l k).length = m := ⟨_, rfl⟩
      rw [hm] at HO2 hL ⊢
      have HO3 : Hid (X3.ownsRow base 3 1 (.slice Av m cv) m ((wk l k).map (Value.int .i64))) := ownsRow_keptBut HO2.out (KeptBut.of_below (S := fun _ => False) HX3.out) fun _ _ _ _ e => e.elim
      have HM := Lib.hid hm
      have HC3 := Lib.hid (cells_new X2 #[.int .i64 (k : Int)] 3)
      rw [e3] at HC3
      clear e3 hm hO
      go_wp2_with (at_builtin; rw [E3.out]; refine wpList_append_own _ rfl _ _ 31 rfl base 3 i0 _ 1 8 sliceInts hi0 hz0 hz1 hz2 rfl (by decide) (.slice Av m cv) m ((wk l k).map (Value.int .i64)) rfl HO3.out ⟨X2.heap.size, 0, none⟩ 1 1 [.int .i64 (k : Int)] rfl rfl HC3.out (by simp [Value.oneCell']) (by simp only [maxLen]; omega) (by omega) hb3 ?_; intro v2 w2 hO4 hG4 hN4)
      have hK4 : KeptBut (fun j => some j = (Value.slice Av m cv).ownBlock) X3 w2 := KeptBut.grown (S := fun j => some j = (Value.slice Av m cv).ownBlock) hG4 fun j hj => hj
      have hS4 := HS3.out.keptS hK4 fun j hj => by
        have h1 := (ownsRow_own HO3.out hj.symm).1
        obtain ⟨h2, h3, h4⟩ := HQ1.out
        have h5 := HLBW.out
        omega
      refine ⟨⟨k + 1, by omega, by go_num, _, rfl, HNX, ⟨_, hS4, HG2.out⟩, ?_, Nat.le_trans hb3 hK4.size⟩, by simp [intOf]; omega⟩
      show World.ownsRow _ _ _ _ _ _ _
      rw [HWN1.out, List.length_append, List.map_append, HM.out]
      exact hO4
    · have HWN1 : Hid (wk l (k + 1) = wk l k) := by show _ = _; rw [HWN.out, if_neg hw]
      go_wp2_with fail
      go_roundw
      case rel =>
        refine ⟨k + 1, by omega, by go_num, _, rfl, HNX, ⟨_, HSS2.out, HG2.out⟩, ?_, HZ2⟩
        rw [HWN1.out]
        exact HO2
      case measure => simp [intOf]; omega
  · obtain rfl : k = n := by omega
    have HG0 : g = least0 l := given_ext HS.len fun j hj => hg j (by rw [← HNN.out]; exact hj)
    subst HG0
    have HW0 : Hid (Wants w Gb gr Lb (WL l (least0 l)) u6 X) := by
      have h1 := hO.out
      have h2 : wk l k = WL l (least0 l) := by
        rw [← HNN.out]
        exact wk_all fun i _ => least0_at l i
      rw [h2] at h1
      obtain ⟨q1, q2, q3⟩ := HQ1.out
      exact Wants.of_own h1 q2 q3 q1 (by have := HLBW.out; omega)
    obtain ⟨T, hT⟩ : ∃ T : Nat, t = (T : Int) := ⟨t.toNat, by have := ht.out; omega⟩
    subst hT
    have HT : Hid (leftC l c0 = T) := by show _ = _; unfold leftC; rw [HNN.out, ← ht.out]; simp
    have HGV : Hid (∀ q, Given l (stepsS l q (least0 l))) := fun q => (given0 HLD.out).steps q
    clear hO hS hg hZ ht HLB
    go_wp2_with fail
    go_loopw [1, 6] (fun q wv wr => ∃ tt : Nat, tt ≤ T ∧ q = .int .i64 ((T : Int) - tt) ∧ Hid (ShW w Gb gr Lb (.slice A k c) l (stepsS l tt (least0 l)) wr) ∧ Hid (Wants w Gb gr Lb (WL l (stepsS l tt (least0 l))) wv wr)) (fun q _ _ => (intOf q).toNat)
    case atStart => exact ⟨0, Nat.zero_le _, by simp, HSH, HW0⟩
    case round =>
    clear HSH HW0 HS d0 d1
    obtain ⟨tt, htt, rfl, hS, hW⟩ := hrel
    obtain ⟨X, rfl⟩ : ∃ X : World, X = wr := ⟨_, rfl⟩
    have hG := HGV.out tt
    have HST : Hid (stepS l (stepsS l tt (least0 l)) = stepsS l (tt + 1) (least0 l)) := rfl
    have HSP : Hid (pickS l (stepsS l tt (least0 l)) = none → sharesD l c0 = stepsS l tt (least0 l)) := fun hp => by
      unfold sharesD
      rw [HT.out, show T = tt + (T - tt) by omega]
      exact steps_stop hp _
    have HEN : Hid (tt = T → sharesD l c0 = stepsS l tt (least0 l)) := fun e => by unfold sharesD; rw [HT.out, e]
    obtain ⟨G, hGe⟩ : ∃ G, stepsS l tt (least0 l) = G := ⟨_, rfl⟩
    rw [hGe] at hS hW hG HST HSP HEN
    have HG := Lib.hid hG
    have d1 := cellOf hS.out.gbox 0 (x := .slice (some ⟨gr, 0, none⟩) l.length l.length) rfl
    rw [HNN.out] at d1
    have HFIN : Hid (∀ Y, Below X.heap.size X Y → sharesD l c0 = G → ∃ gr', Value.slice (some ⟨gr, 0, none⟩) k k = .slice (some ⟨gr', 0, none⟩) k k ∧ w.heap.size ≤ gr' ∧ Blk Y gr' 3 ((sharesD l c0).map (Value.int .i64)).toArray ∧ Below w.heap.size w Y) := fun Y hY e => ⟨gr, rfl, hS.out.new, by rw [e]; exact (hS.out.below hY).row, (hS.out.below hY).low⟩
    clear hG hGe
    by_cases htl : tt < T
    · have p0 : (0 : Int) < (T : Int) - tt := by omega
      have HCL : Hid (Calls Try.prog 130 #[u6, .func (.func 129) #[] #[.pointer (some ⟨Gb, 0, none⟩), .pointer (some ⟨Lb, 0, none⟩)]] X fun e w' => e = .returned (.tuple #[.int .i64 (lstI (cfP l G) (WL l G) (WL l G).length), .bool (decide (0 < (WL l G).length))]) ∧ Below X.heap.size X w') :=
        leastI_any (cfP l G) #[.pointer (some ⟨Gb, 0, none⟩), .pointer (some ⟨Lb, 0, none⟩)] (WL l G) u6 X hW.out.reads fun W hWb a ha b hb => by
          obtain ⟨i, hi, rfl⟩ := List.mem_map.1 ha
          obtain ⟨j, hj, rfl⟩ := List.mem_map.1 hb
          obtain ⟨hi1, -⟩ := want_mem.1 hi
          obtain ⟨hj1, -⟩ := want_mem.1 hj
          show Calls _ _ #[.int .i64 i, .int .i64 j, .pointer (some ⟨Gb, 0, none⟩), .pointer (some ⟨Lb, 0, none⟩)] W _
          refine (byPart_any i j hi1 hj1 HLD.out (fun k hk => ?_) W ((hS.out.below hWb).st (by rw [← HNN.out] at *; exact HRO.out))).mono ?_
          · have h1 := HG.out.at_ k hk
            have h2 := least_nonneg HLD.out k
            obtain ⟨y, hy⟩ : ∃ y, l[k]? = some y := ⟨_, List.getElem?_eq_getElem hk⟩
            have h3 := (HLD.out y (List.mem_of_getElem? hy)).2.1.2
            rw [copAt_of hy] at h1
            omega
          · rintro e w' ⟨rfl, q, rfl⟩
            refine ⟨?_, below_drewN (Below.refl _ _) q⟩
            unfold cfP
            rw [Int.toNat_natCast, Int.toNat_natCast]
      cases hp : pickS l G with
      | none =>
        have HF := HSP.out hp
        rw [pick_len hp] at HCL
        have HFF := Lib.hid HF
        clear hp HF HST HSP HEN
        go_wp2_with fail
        refine HCL.out.mono ?_
        rintro _ Y ⟨rfl, hbY⟩
        have F1 : ∃ Y1, Y.alloc (.cells #[.int .i64 (lstI (cfP l G) (WL l G) 0)] 3) = Y1 ∧ Hid (Below X.heap.size X Y1) := ⟨_, rfl, (hbY.trans ((below_alloc _ _).mono hbY.size))⟩
        obtain ⟨Y1, e1, HY1⟩ := F1
        have E1 := Lib.hid e1
        have d2 := (HY1.out.cell (p := ⟨Gb, 0, none⟩) hS.out.gbox.lt).trans d1
        clear e1 hbY HCL
        have hdz : decide (0 < 0) = false := rfl
        go_upto_region 15 with fail
        rw [E1.out]
        go_wp2_with fail
        go_ret
        obtain ⟨z, hz, hr⟩ := HFIN.out Y1 HY1.out HFF.out
        exact ⟨z, congrArg Ending.returned hz, hr⟩
      | some i =>
        obtain ⟨hl1, hl2⟩ := pick_lst hp
        have hm := leastTo_mem hp
        obtain ⟨hi1, hi2⟩ := want_mem.1 hm
        rw [hl1, decide_eq_true hl2] at HCL
        have hst := step_pick hp
        rw [HST.out] at hst
        have hil : i < G.length := by rw [HG.out.len]; exact hi1
        have hws := want_step hil hm fun k hk => (HG.out.at_ k hk).2
        obtain ⟨x, hx⟩ : ∃ x, l[i]? = some x := ⟨_, List.getElem?_eq_getElem hi1⟩
        obtain ⟨g', o, rfl, -, HX⟩ := HD.out i x hx
        have hgi := HG.out.at_ i hi1
        have hln := least_nonneg HLD.out i
        have hcx := (HLD.out x (List.mem_of_getElem? hx)).2.1.2
        obtain ⟨gi, hgie⟩ : ∃ z, G.getD i 0 = z := ⟨_, rfl⟩
        rw [hgie] at hst hws hgi hi2
        rw [copAt_of hx] at hws hgi hi2
        rw [← hst] at hws
        have HWS := Lib.hid hws
        rw [HNN.out] at hi1
        have b1 : (-10000 : Int) ≤ gi + 1 := by omega
        have b2 : gi + 1 ≤ 10000 := by omega
        have HGIE := Lib.hid hgie
        have HSTE := Lib.hid hst
        have HL2 := Lib.hid hl2
        obtain ⟨Aw, cp, hu6, hcp1, hcp2, hw3⟩ := hW.out
        obtain ⟨b, rfl, hb1, hb2, hb3, hb4, hb5, hWR⟩ := hw3 hl2
        subst hu6
        have HWR := Lib.hid hWR
        have HBB : Hid (w.heap.size ≤ b ∧ b < X.heap.size ∧ b ≠ gr ∧ b ≠ Gb ∧ b ≠ Lb) := ⟨hb1, hb2, hb3, hb4, hb5⟩
        have HCP : Hid ((WL l G).length ≤ cp ∧ cp ≤ maxLen) := ⟨hcp1, hcp2⟩
        clear hw3 hWR hb1 hb2 hb3 hb4 hb5 hcp1 hcp2
        clear hws hst hgie hp hl1 hl2 hm hx hln HST HSP HEN HFIN
        go_upto_region 14 with fail
        go_wp2_with fail
        refine HCL.out.mono ?_
        rintro _ Y ⟨rfl, hbY⟩
        have F1 : ∃ Y1, Y.alloc (.cells #[.int .i64 (i : Int)] 3) = Y1 ∧ Hid (Below X.heap.size X Y1) ∧ Hid (Blk Y1 Y.heap.size 3 #[.int .i64 (i : Int)]) := ⟨_, rfl, (hbY.trans ((below_alloc _ _).mono hbY.size)), Blk.new _ _ _⟩
        obtain ⟨Y1, e1, HY1, HKN⟩ := F1
        have E1 := Lib.hid e1
        have HS1 := hS.out.below HY1.out
        have hNX : X.heap.size ≤ Y.heap.size := hbY.size
        obtain ⟨NX, hNXe⟩ : ∃ b, Y.heap.size = b := ⟨_, rfl⟩
        rw [hNXe] at HKN hNX
        have HNX := Lib.hid hNXe
        have HNL := Lib.hid hNX
        obtain ⟨Y2, e2⟩ : ∃ Y2, Y1.setCell ⟨gr, i, none⟩ (.int .i64 (gi + 1)) = Y2 := ⟨_, rfl⟩
        have HS2 : ShW w Gb gr Lb (.slice (some ⟨g', o, none⟩) k c) l (G.set i (gi + 1)) Y2 ∧ KeptBut (fun j => j = gr) Y1 Y2 := by rw [← e2]; exact HS1.set i (gi + 1)
        have hngr : NX ≠ gr := by have := hS.out.row.lt; omega
        have HKN2 := HS2.2.blk HKN.out hngr
        have HW2 : Hid (Wants w Gb gr Lb (WL l G) (.slice (some ⟨b, 0, none⟩) (WL l G).length cp) Y2) := (hW.out.kept (KeptBut.of_below (S := fun _ => False) HY1.out) fun _ h => h.elim).kept HS2.2 fun b hb => Or.inl hb
        have E2 := Lib.hid e2
        have n0 := cellOf HKN.out 0 (x := .int .i64 (i : Int)) rfl
        have n1 := cellOf HS1.gbox 0 (x := .slice (some ⟨gr, 0, none⟩) l.length l.length) rfl
        have n2 : Y1.cell? ⟨gr, i, none⟩ = some (.int .i64 gi) := cellOf HS1.row i (by
          have : i < G.length := hil
          rw [← HGIE.out, List.getElem?_toArray, List.getElem?_map, List.getElem?_eq_getElem this, List.getD_eq_getElem?_getD, List.getElem?_eq_getElem this]
          rfl)
        have n3 := HS1.row.frozen i
        have m0 := cellOf HKN2 0 (x := .int .i64 (i : Int)) rfl
        have m1 := cellOf HS2.1.gbox 0 (x := .slice (some ⟨gr, 0, none⟩) l.length l.length) rfl
        have m2 : Y2.cell? ⟨gr, i, none⟩ = some (.int .i64 (gi + 1)) := cellOf HS2.1.row i (by
          have : i < (G.set i (gi + 1)).length := by rw [List.length_set]; exact hil
          rw [List.getElem?_toArray, List.getElem?_map, List.getElem?_eq_getElem this]
          simp)
        have m3 := cellOf HS2.1.box 0 (x := .slice (some ⟨g', o, none⟩) k c) rfl
        obtain ⟨-, m4, -⟩ := HX.out Y2 HS2.1.low
        rw [HNN.out] at n1 m1
        have HS2' := Lib.hid HS2.1
        have HKG := Lib.hid HS2.2
        have HKN2' := Lib.hid HKN2
        have i0' : (0 : Int) ≤ (i : Int) := by omega
        have i1 : (i : Int) < (k : Int) := by omega
        clear e1 e2 HS1 HS2 HKN2 hNXe hNX hbY HCL HX d1
        go_upto_region 15 with fail
        rw [E1.out, HNX.out]
        clear E1 HNX
        go_upto_region 17 with fail
        rw [E2.out]
        clear E2 n0 n1 n2 n3
        by_cases heq : gi + 1 = x.cop
        · have hbe : (gi + 1 == x.cop) = true := by simpa using heq
          rw [if_pos heq] at HWS
          have HWR2 := (HWR.out.kept HBB.out.2.1 (KeptBut.of_below (S := fun _ => False) HY1.out) fun h => h).kept (Nat.lt_of_lt_of_le HBB.out.2.1 HY1.out.size) HKG.out fun e => HBB.out.2.2.1 e
          have HCD : Hid (∀ q, Calls Try.prog 131 #[.slice (some ⟨b, 0, none⟩) (WL l G).length cp, .func (.func 132) #[] #[.pointer (some ⟨NX, 0, none⟩)]] (Y2.drewN q) fun e w' =>
              e = .returned (.slice (some ⟨b, 0, none⟩) (WL l (stepsS l (tt + 1) (least0 l))).length cp) ∧ Hid (Wants w Gb gr Lb (WL l (stepsS l (tt + 1) (least0 l))) (.slice (some ⟨b, 0, none⟩) (WL l (stepsS l (tt + 1) (least0 l))).length cp) w' ∧ ShW w Gb gr Lb (.slice (some ⟨g', o, none⟩) k c) l (stepsS l (tt + 1) (least0 l)) w')) := fun q => by
            have hbq : Below Y2.heap.size Y2 (Y2.drewN q) := below_drewN (Below.refl _ _) q
            have hbl : b < Y2.heap.size := Nat.lt_of_lt_of_le (Nat.lt_of_lt_of_le HBB.out.2.1 HY1.out.size) HKG.out.size
            have hK := HKN2'.out.below hbq HKN2'.out.lt
            have hle : ((WL l G).filter fun x => !(x == (i : Int))).length ≤ (WL l G).length := List.length_filter_le _ _
            have hcp := HCP.out
            rw [HWS.out, HSTE.out]
            refine (del_any (i : Int) NX b cp (WL l G) (Y2.drewN q) hK.lt (by have := HBB.out.2.1; have := HNL.out; omega) (cellOf hK 0 rfl) (HWR2.kept hbl (KeptBut.of_below (S := fun _ => False) hbq) fun h => h) (Nat.lt_of_lt_of_le hbl hbq.size) (by simp only [maxLen] at hcp; omega) hcp.1).mono ?_
            rintro e Z ⟨rfl, h1, h2⟩
            refine ⟨rfl, ⟨some ⟨b, 0, none⟩, cp, rfl, by omega, hcp.2, fun _ => ⟨b, rfl, HBB.out.1, Nat.lt_of_lt_of_le (Nat.lt_of_lt_of_le hbl hbq.size) h2.size, HBB.out.2.2.1, HBB.out.2.2.2.1, HBB.out.2.2.2.2, h1⟩⟩, ?_⟩
            exact (HS2'.out.below hbq).kept h2 HBB.out.1 HBB.out.2.2.1 HBB.out.2.2.2.1 HBB.out.2.2.2.2
          clear HWS HWR HWR2 HKG
          go_quiet (fail)
          go_wp2_with fail
          refine (HCD.out _).mono ?_
          rintro _ Z ⟨rfl, hZ⟩
          go_wp2_with fail
          go_roundw
          case rel => exact ⟨tt + 1, by omega, by go_num, hZ.out.2, hZ.out.1⟩
          case measure => simp [intOf]; omega
        · have hbe : (gi + 1 == x.cop) = false := by simpa using heq
          rw [if_neg heq] at HWS
          have HSE : Hid (∀ q, ShW w Gb gr Lb (.slice (some ⟨g', o, none⟩) k c) l (stepsS l (tt + 1) (least0 l)) (Y2.drewN q)) := fun q => by rw [HSTE.out]; exact HS2'.out.below (below_drewN (Below.refl _ _) q)
          have HWE : Hid (∀ q, Wants w Gb gr Lb (WL l (stepsS l (tt + 1) (least0 l))) (.slice (some ⟨b, 0, none⟩) (WL l G).length cp) (Y2.drewN q)) := fun q => by rw [HWS.out]; exact HW2.out.kept (KeptBut.of_below (S := fun _ => False) (below_drewN (Below.refl _ _) q)) fun _ h => h.elim
          go_quiet (fail)
          go_wp2_with fail
          go_roundw
          case rel => exact ⟨tt + 1, by omega, by go_num, HSE.out _, HWE.out _⟩
          case measure => simp [intOf]; omega
    · have HTE : Hid (sharesD l c0 = G) := HEN.out (by omega)
      have p0 : ¬ (0 : Int) < (T : Int) - tt := by omega
      clear HSP HST HEN
      go_wp2_with fail
      go_ret
      obtain ⟨z, hz, hr⟩ := HFIN.out X (Below.refl _ _) HTE.out
      exact ⟨z, congrArg Ending.returned hz, hr⟩
end Go.Proofs.Ytlmpbmlbllndcaa
