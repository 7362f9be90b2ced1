/-
  checkComplaints of any complaints: the first error.
  checkComplaints of any complaints.
-/
import Derived.Test.YtlmpbmlbllndcaaMba
namespace Go.Proofs.Ytlmpbmlbllndcaa
open Go.RowKit
attribute [local go_sem] Oper.semAt_some

set_option maxRecDepth 100000 in
set_option maxHeartbeats 4000000 in
theorem firstCmps_any (l : List SubD) (us : List Value) (a b : Int) (hab : dayB a b = true) (hl : ∀ s ∈ l, s.Ok) (hid : (l.map SubD.id).Nodup) (mp MB FB TB : Nat) (c : List CmpD) (v : Value) (w : World) (hv : RCmps w.heap.size w v c) (h : DueSt l us a b mp MB FB TB w) :
    Calls Try.prog 138 #[v, .func (.func 137) #[] #[.pointer (some ⟨MB, 0, none⟩), .pointer (some ⟨FB, 0, none⟩), .pointer (some ⟨TB, 0, none⟩)], .int .i64 4, .func (.func 139) #[] #[]] w fun e w' => e = .returned (.int .i64 (fcE l a b [] c)) ∧ Below w.heap.size w w' := by
  obtain ⟨A, cc, rfl, hlm, HD⟩ := cmps_later hv
  obtain ⟨n, hn⟩ : ∃ n, c.length = n := ⟨_, rfl⟩
  rw [hn] at hlm ⊢
  have HN := Lib.hid hn
  have CD := Lib.hid (fun (x : CmpD) (w : World) (h : DueSt l us a b mp MB FB TB w) => isDue_any l us a b hab hl hid mp MB FB TB x w h)
  have HS := Lib.hid h
  have hmm := @run_makeMap Try.prog
  have F0 : ∃ W0, w.alloc (.map #[] 0) = W0 ∧ Hid (Below w.heap.size w W0) ∧ Hid (CSet W0 w.heap.size []) := ⟨_, rfl, below_alloc _ _, (MapKept.heap_alloc w _).1⟩
  obtain ⟨W0, e0, HB0, HS0⟩ := F0
  have E0 := Lib.hid e0
  obtain ⟨p, hp⟩ : ∃ p, w.heap.size = p := ⟨_, rfl⟩
  rw [hp] at HS0
  have HP := Lib.hid hp
  clear h hab hl hid hv hn e0 hp
  obtain ⟨r, hr⟩ : ∃ r, fcE l a b [] c = r := ⟨_, rfl⟩
  rw [hr]
  have HR := Lib.hid hr
  clear hr
  go_enter Try.func138, Try.ntmps138
  go_upto_region 2 with fail
  rw [E0.out]
  clear E0 hmm
  rw [HP.out]
  go_wp2_with fail
  go_loopw [15] (fun i wr => ∃ k : Nat, k ≤ n ∧ i = .int .i64 k ∧ (∃ met, Hid (fcE l a b met (c.drop k) = r) ∧ Hid (CSet wr p met)) ∧ Hid (Below w.heap.size w wr)) (fun i _ => n - (intOf i).toNat)
  case atStart => exact ⟨0, Nat.zero_le _, rfl, ⟨[], HR.out, HS0.out⟩, HB0.out⟩
  case round =>
  clear HS0 HB0 HR
  obtain ⟨k, hk, rfl, ⟨met, hf, hM⟩, hB⟩ := hrel
  obtain ⟨X, rfl⟩ : ∃ X : World, X = wr := ⟨_, rfl⟩
  by_cases hlt : k < n
  · obtain ⟨x, hx⟩ : ∃ x, c[k]? = some x := ⟨_, List.getElem?_eq_getElem (by rw [HN.out]; exact hlt)⟩
    obtain ⟨g, o, rfl, HX⟩ := HD.out k x hx
    obtain ⟨c0, c1⟩ := HX.out X hB.out
    have HFQ : Hid ((if dueB l a b x then (if x ∈ met then 10 else fcE l a b (met ++ [x]) (c.drop (k + 1))) else 4) = r) := by
      have h1 := hf.out
      rw [drop_cons hx] at h1
      exact h1
    have F1 : ∃ X1, X.alloc (.cells #[.int .i64 x.sub, .int .i64 x.day] 91) = X1 ∧ Hid (Below X.heap.size X X1) ∧ Hid (Blk X1 X.heap.size 91 #[.int .i64 x.sub, .int .i64 x.day]) := ⟨_, rfl, below_alloc _ _, Blk.new _ _ _⟩
    obtain ⟨X1, e1, HX1, HK1⟩ := F1
    have E1 := Lib.hid e1
    have HM1 : Hid (CSet X1 p met) := hM.out.below HX1.out hM.out.lt
    have HB1 : Hid (Below w.heap.size w X1) := hB.out.trans (HX1.out.mono hB.out.size)
    obtain ⟨q, hq⟩ : ∃ q, X.heap.size = q := ⟨_, rfl⟩
    rw [hq] at HK1
    have HQ := Lib.hid hq
    have HCC : Hid (∀ Y, Below X1.heap.size X1 Y → Y.cell? ⟨q, 0, none⟩ = some (.int .i64 x.sub) ∧ Y.cell? ⟨q, 1, none⟩ = some (.int .i64 x.day)) := fun Y hY => by
      have h1 := HK1.out.below hY HK1.out.lt
      exact ⟨cellOf h1 0 rfl, cellOf h1 1 rfl⟩
    have CR := Lib.hid (CD.out x X1 (HS.out.below HB1.out))
    obtain ⟨ob, hob⟩ : ∃ e, dueB l a b x = e := ⟨_, rfl⟩
    rw [hob] at CR HFQ
    obtain ⟨d0, d1⟩ := HCC.out X1 (Below.refl _ _)
    have k0 : (0 : Int) ≤ (k : Int) := by omega
    have k1 : (k : Int) < (n : Int) := by omega
    clear hx hob e1 hq HX hB hf hM HX1 HK1
    go_upto_region 5 with fail
    rw [E1.out, HQ.out]
    clear E1 c0 c1
    go_wp2_with fail
    refine CR.out.mono ?_
    rintro _ X2 ⟨rfl, hb2⟩
    have HX2 := Lib.hid hb2
    have HB2 : Hid (Below w.heap.size w X2) := HB1.out.trans (hb2.mono HB1.out.size)
    have HM2 : Hid (CSet X2 p met) := HM1.out.below hb2 HM1.out.lt
    clear CR hb2 d0 d1
    cases ob with
    | false =>
      have HX : Hid (r = 4) := by show _ = _; rw [← HFQ.out]; rfl
      go_wp2_with fail
      go_ret
      exact ⟨ri HX.out, HB2.out⟩
    | true =>
    have HFQ2 : Hid ((if x ∈ met then 10 else fcE l a b (met ++ [x]) (c.drop (k + 1))) = r) := HFQ.out
    have CK := Lib.hid (fun w => cmpKey_any x w)
    obtain ⟨d0, d1⟩ := HCC.out X2 HX2.out
    go_wp2_with fail
    refine (CK.out _).mono ?_
    rintro _ X3 ⟨rfl, hb3⟩
    have HX3 : Hid (Below X1.heap.size X1 X3) := HX2.out.trans (hb3.mono HX2.out.size)
    have HB3 : Hid (Below w.heap.size w X3) := HB2.out.trans (hb3.mono HB2.out.size)
    have HM3 : Hid (CSet X3 p met) := HM2.out.below hb3 HM2.out.lt
    have hget := HM3.out.get x
    clear hb3 d0 d1
    by_cases hin : x ∈ met
    · rw [decide_eq_true hin] at hget
      have HX : Hid (r = 10) := by show _ = _; rw [← HFQ2.out, if_pos hin]
      clear hin
      go_wp2_with fail
      go_ret
      exact ⟨ri HX.out, HB3.out⟩
    rw [decide_eq_false hin] at hget
    have HFN : Hid (fcE l a b (met ++ [x]) (c.drop (k + 1)) = r) := by
      have h1 := HFQ2.out
      rw [if_neg hin] at h1
      exact h1
    have HNI := Lib.hid hin
    clear hin
    obtain ⟨d0, d1⟩ := HCC.out X3 HX3.out
    go_wp2_with fail
    clear hget
    refine (CK.out _).mono ?_
    rintro _ X4 ⟨rfl, hb4⟩
    have HB4 : Hid (Below w.heap.size w X4) := HB3.out.trans (hb4.mono HB3.out.size)
    have HM4 : Hid (CSet X4 p met) := HM3.out.below hb4 HM3.out.lt
    have HUP := Lib.hid (HM4.out.put x HNI.out)
    clear hb4 d0 d1
    go_wp2_with (at_mapUpdate; refine wpList_map_ex rfl _ _ _ 227 rfl HUP.out ?_; intro w1 hg1)
    have HB5 : Hid (Below w.heap.size w w1) := HB4.out.grown hg1.2 HB4.out.size (fun j hj => by cases hj; rw [HP.out]; exact Nat.le_refl _)
    have HM5 : Hid (CSet w1 p (met ++ [x])) := hg1.1
    clear hg1
    go_roundw
    case rel =>
      exact ⟨k + 1, by omega, by go_num, ⟨met ++ [x], HFN, HM5⟩, HB5⟩
    case measure => simp [intOf]; omega
  · have HX : Hid (r = 0) := by
      show _ = _
      rw [← hf.out, List.drop_of_length_le (by rw [HN.out]; omega)]
      rfl
    clear hf hM
    go_wp2_with fail
    go_ret
    exact ⟨ri HX.out, hB.out⟩
end Go.Proofs.Ytlmpbmlbllndcaa

namespace Go.Proofs.Ytlmpbmlbllndcaa
open Go.RowKit
attribute [local go_sem] Oper.semAt_some

set_option maxRecDepth 100000 in
set_option maxHeartbeats 4000000 in
theorem checkCmpsAll_any (l : List SubD) (hok : subsE l = 0) (a b : Int) (hab : dayB a b = true) (c : List CmpD) (v vl : Value) (w : World) (hv : RCmps w.heap.size w v c) (hl : RSubs w.heap.size w vl l) :
    Calls Try.prog 92 #[v, vl, .int .i64 a, .int .i64 b] w fun e w' => e = .returned (.int .i64 (cmpsE l a b c)) ∧ Below w.heap.size w w' := by
  obtain ⟨us, A, cc, hus, rfl, hlm, HD, HRS⟩ := subs_us hl
  obtain ⟨A2, c2, rfl, -, -⟩ := cmps_later hv
  have HV := Lib.hid hv
  have HCI := Lib.hid (fun mp MB FB TB v w hv h => firstCmps_any l us a b hab (fun s hs => subB_ok ((subsE_ok hok).2 s hs)) (subsE_nodup hok) mp MB FB TB c v w hv h)
  have HID := Lib.hid (subsE_nodup hok)
  have HUS := Lib.hid hus
  obtain ⟨m, hm⟩ : ∃ n, c.length = n := ⟨_, rfl⟩
  obtain ⟨n, hn⟩ : ∃ n, l.length = n := ⟨_, rfl⟩
  have hl5 : n ≤ 500 := by rw [← hn]; exact (subsE_ok hok).1
  rw [hm] at HV ⊢
  rw [hn] at hlm ⊢
  have HN := Lib.hid hn
  have HM := Lib.hid hm
  have hmm := make_sub
  have F0 : ∃ W0, (w.alloc (.cells #[.int .i64 a] 3)).alloc (.cells #[.int .i64 b] 3) = W0 ∧ Hid (Below w.heap.size w W0) ∧ Hid (Blk W0 w.heap.size 3 #[.int .i64 a] ∧ Blk W0 (w.heap.size + 1) 3 #[.int .i64 b]) :=
    ⟨_, rfl, sbelow_al (below_alloc _ _) _, (Blk.new _ _ _).alloc _, blk_new (by simp) _ _⟩
  obtain ⟨W0, e0, HB0, HK0⟩ := F0
  have E0 := Lib.hid e0
  obtain ⟨p, hp⟩ : ∃ p, w.heap.size = p := ⟨_, rfl⟩
  rw [hp] at HK0
  have HP := Lib.hid hp
  by_cases hc5 : (500 : Int) < (m : Int)
  · have HX : Hid (cmpsE l a b c = 2) := by show _ = _; unfold cmpsE; rw [if_pos (by rw [HM.out]; omega)]
    clear hv hl hok hab hus hm hn e0 hp hmm HK0
    go_enter Try.func92, Try.ntmps92
    go_upto_region 1 with fail
    rw [E0.out, HP.out]
    clear E0
    go_wp2_with fail
    go_ret
    exact ⟨ri HX.out, HB0.out⟩
  have HCE : Hid (cmpsE l a b c = fcE l a b [] c) := by show _ = _; unfold cmpsE; rw [if_neg (by rw [HM.out]; omega)]
  have F1 : ∃ W1, W0.alloc (.map #[] 0) = W1 ∧ Hid (Below W0.heap.size W0 W1) ∧ Hid (MapAt W1 W0.heap.size []) ∧ W1.heap.size = W0.heap.size + 1 := ⟨_, rfl, below_alloc _ _, MapAt.new _, by simp⟩
  obtain ⟨W1, e1, HB1, HM1, hz1⟩ := F1
  have E1 := Lib.hid e1
  obtain ⟨mp, hmp⟩ : ∃ p, W0.heap.size = p := ⟨_, rfl⟩
  rw [hmp] at HM1 hz1
  have HMP := Lib.hid hmp
  have F2 : ∃ W2, W1.alloc (.cells #[.map (some mp)] 216) = W2 ∧ Hid (Below W1.heap.size W1 W2) ∧ Hid (Blk W2 (mp + 1) 216 #[.map (some mp)]) := ⟨_, rfl, below_alloc _ _, by rw [← hz1]; exact Blk.new _ _ _⟩
  obtain ⟨W2, e2, HB2, HK2⟩ := F2
  have E2 := Lib.hid e2
  have HZ1 := Lib.hid hz1
  have hpw : p + 1 < mp := by have := HK0.out.2.lt; omega
  have HST : Hid (MapAt W2 mp ((l.zip us).take 0 |>.map subKV) ∧ Blk W2 (mp + 1) 216 #[.map (some mp)] ∧ Blk W2 p 3 #[.int .i64 a] ∧ Blk W2 (p + 1) 3 #[.int .i64 b] ∧ Below w.heap.size w W2) := by
    have hb : Below W0.heap.size W0 W2 := HB1.out.trans (HB2.out.mono HB1.out.size)
    exact ⟨HM1.out.below HB2.out (by rw [hz1]; omega), HK2.out, HK0.out.1.below hb HK0.out.1.lt, HK0.out.2.below hb HK0.out.2.lt, HB0.out.trans (hb.mono HB0.out.size)⟩
  clear hv hl hok hab hus hm hn e0 hp e1 hz1 hmp e2 HB0 HK0 HB1 HM1 HB2 HK2
  go_enter Try.func92, Try.ntmps92
  go_upto_region 1 with fail
  rw [E0.out, HP.out]
  go_upto_region 4 with fail
  rw [E1.out, HMP.out, E2.out]
  clear E0 E1 E2 hmm hc5
  go_wp2_with fail
  go_loopw [21] (fun i wr => ∃ k : Nat, k ≤ n ∧ i = .int .i64 k ∧ Hid (MapAt wr mp ((l.zip us).take k |>.map subKV) ∧ Blk wr (mp + 1) 216 #[.map (some mp)] ∧ Blk wr p 3 #[.int .i64 a] ∧ Blk wr (p + 1) 3 #[.int .i64 b] ∧ Below w.heap.size w wr)) (fun i _ => n - (intOf i).toNat)
  case atStart => exact ⟨0, Nat.zero_le _, rfl, HST.out⟩
  case round =>
  clear HST
  obtain ⟨k, hk, rfl, hS⟩ := hrel
  obtain ⟨X, rfl⟩ : ∃ X : World, X = wr := ⟨_, rfl⟩
  by_cases hlt : k < n
  · obtain ⟨s, hs⟩ : ∃ x, l[k]? = some x := ⟨_, List.getElem?_eq_getElem (by rw [HN.out]; exact hlt)⟩
    obtain ⟨u, hu⟩ : ∃ u, us[k]? = some u := ⟨_, List.getElem?_eq_getElem (by rw [HUS.out, HN.out]; exact hlt)⟩
    obtain ⟨g, o, rfl, HX⟩ := HD.out k s u hs hu
    obtain ⟨Au, nu, cu, rfl⟩ : ∃ Au nu cu, u = .slice Au nu cu := by
      obtain ⟨u', hu', hsp⟩ := HRS.out k s u hs hu X hS.out.2.2.2.2
      obtain ⟨Au, cu, e, -⟩ := spans_later hsp
      have e9 : u = u' := by simpa using hu'
      exact ⟨Au, _, cu, e9.trans e⟩
    obtain ⟨c0, c1, c2', c3', c4'⟩ := HX.out X hS.out.2.2.2.2
    have F1 : ∃ X1, X.alloc (.cells #[.int .i64 s.id, .int .i64 s.from_, .int .i64 s.to_, .int .i64 s.days, .slice Au nu cu] 42) = X1 ∧ Hid (Below X.heap.size X X1) ∧ Hid (Blk X1 X.heap.size 42 #[.int .i64 s.id, .int .i64 s.from_, .int .i64 s.to_, .int .i64 s.days, .slice Au nu cu]) := ⟨_, rfl, below_alloc _ _, Blk.new _ _ _⟩
    obtain ⟨X1, e1, HX1, HK1⟩ := F1
    have E1 := Lib.hid e1
    have HS1 : Hid (MapAt X1 mp ((l.zip us).take k |>.map subKV) ∧ Blk X1 (mp + 1) 216 #[.map (some mp)] ∧ Blk X1 p 3 #[.int .i64 a] ∧ Blk X1 (p + 1) 3 #[.int .i64 b] ∧ Below w.heap.size w X1) := by
      obtain ⟨h1, h2, h3, h4, h5⟩ := hS.out
      exact ⟨h1.below HX1.out h1.lt, h2.below HX1.out h2.lt, h3.below HX1.out h3.lt, h4.below HX1.out h4.lt, h5.trans (HX1.out.mono h5.size)⟩
    have HNE : Hid (s.id ∉ ((l.zip us).take k |>.map subKV).map Prod.fst) := by
      show ¬ _
      intro hmem
      have h1 : ((l.zip us).take k |>.map subKV).map Prod.fst = (l.map SubD.id).take k := by
        rw [← keys_ids l us HUS.out, List.map_take, List.map_take]
      rw [h1] at hmem
      obtain ⟨i, hi⟩ := List.mem_iff_getElem?.1 hmem
      rw [List.getElem?_take] at hi
      split at hi
      · rename_i hik
        have h2 : (l.map SubD.id)[k]? = some s.id := by rw [List.getElem?_map, hs]; rfl
        have h3 := (List.getElem?_inj (by rw [List.length_map, HN.out]; omega) HID.out).1 (hi.trans h2.symm)
        omega
      · cases hi
    have HNX : Hid (((l.zip us).take (k + 1) |>.map subKV) = ((l.zip us).take k |>.map subKV) ++ [(s.id, .agg #[.int .i64 s.id, .int .i64 s.from_, .int .i64 s.to_, .int .i64 s.days, .slice Au nu cu])]) := by
      show _ = _
      have hz : (l.zip us)[k]? = some (s, Value.slice Au nu cu) := List.getElem?_zip_eq_some.2 ⟨hs, hu⟩
      rw [List.take_add_one, hz, Option.toList_some, List.map_append]
      rfl
    obtain ⟨q, hq⟩ : ∃ q, X.heap.size = q := ⟨_, rfl⟩
    rw [hq] at HK1
    have HQ := Lib.hid hq
    have d0 := cellOf HK1.out 0 (x := .int .i64 s.id) rfl
    have d1 := cellOf HK1.out 1 (x := .int .i64 s.from_) rfl
    have d2 := cellOf HK1.out 2 (x := .int .i64 s.to_) rfl
    have d3 := cellOf HK1.out 3 (x := .int .i64 s.days) rfl
    have d4 := cellOf HK1.out 4 (x := .slice Au nu cu) rfl
    have y0 := cellOf HS1.out.2.1 0 (x := .map (some mp)) rfl
    have k0 : (0 : Int) ≤ (k : Int) := by omega
    have k1 : (k : Int) < (n : Int) := by omega
    clear hs hu HX hS e1 hq HX1 HK1
    go_upto_region 7 with fail
    rw [E1.out, HQ.out]
    clear E1 c0 c1 c2' c3' c4'
    go_wp2_with (at_mapUpdate; refine wpList_mapPut _ underInt rfl _ _ _ 216 rfl mapSub mp _ s.id (.agg #[.int .i64 s.id, .int .i64 s.from_, .int .i64 s.to_, .int .i64 s.days, .slice Au nu cu]) rfl rfl rfl HS1.out.1 HNE.out ?_; intro w1 hs1 hg1)
    have HS2 : Hid (MapAt w1 mp ((l.zip us).take (k + 1) |>.map subKV) ∧ Blk w1 (mp + 1) 216 #[.map (some mp)] ∧ Blk w1 p 3 #[.int .i64 a] ∧ Blk w1 (p + 1) 3 #[.int .i64 b] ∧ Below w.heap.size w w1) := by
      have hK : KeptBut (fun j => j = mp) X1 w1 := KeptBut.grown (S := fun j => j = mp) hg1 fun j hj => by cases hj; rfl
      obtain ⟨h1, h2, h3, h4, h5⟩ := HS1.out
      exact ⟨by rw [HNX.out]; exact hs1, hK.blk h2 (by omega), hK.blk h3 (by omega), hK.blk h4 (by omega), h5.trans (hK.below (fun j hj => by rw [hj, HP.out]; omega) h5.size)⟩
    clear hs1 hg1 d0 d1 d2 d3 d4 y0
    go_roundw
    case rel => exact ⟨k + 1, by omega, by go_num, HS2⟩
    case measure => simp [intOf]; omega
  · obtain rfl : k = n := by omega
    obtain ⟨h1, h2, h3, h4, h5⟩ := hS.out
    have HBX := Lib.hid h5
    have HDU : Hid (DueSt l us a b mp (mp + 1) p (p + 1) X) := by
      refine ⟨?_, h2, h3, h4, HUS.out, fun k s u hk hu Y hY => HRS.out k s u hk hu Y (h5.trans (hY.mono h5.size))⟩
      rw [List.take_of_length_le (by rw [List.length_zip, HUS.out, HN.out]; omega)] at h1
      exact h1
    have CC := Lib.hid (HCI.out mp (mp + 1) p (p + 1) _ X ((Rd.below HV.out h5).more h5.size) HDU.out)
    clear hS h1 h2 h3 h4 h5 HCI
    go_wp2_with fail
    refine CC.out.mono ?_
    rintro _ X2 ⟨rfl, hb2⟩
    have HB2 : Hid (Below w.heap.size w X2) := HBX.out.trans (hb2.mono HBX.out.size)
    clear CC hb2
    go_wp2_with fail
    go_ret
    exact ⟨ri HCE.out, HB2.out⟩
end Go.Proofs.Ytlmpbmlbllndcaa
