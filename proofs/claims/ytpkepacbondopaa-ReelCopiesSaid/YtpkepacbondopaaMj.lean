/-
  A round of cheapest.
-/
import Derived.Test.YtpkepacbondopaaMi
import Derived.Test.YtpkepacbondopaaTi
namespace Go.Proofs.Ytpkepacbondopaa
open Go.RowKit Go.Shelf
attribute [local go_sem] Oper.semAt_some


theorem chE_rest {s : SupD} (hs : s.Ok) {a : Nat} (ha : a < s.need.length) : ∀ (l : List Nat) {T : ChT}, (∀ e ∈ l, a < e ∧ e ≤ s.need.length) → ChB s (a + 1) T → ChB s (a + 1) (l.foldl (chE s a) T)
  | [], _, _, h => h
  | e :: l, T, hl, h => by
    refine chE_rest hs ha l (fun x hx => hl x (List.mem_cons_of_mem _ hx)) ?_
    obtain ⟨h1, h2⟩ := hl e (List.mem_cons_self ..)
    have hsum := h.sum hs h1 h2
    have hw := hs.weeks
    have hall := h.all a
    unfold chE
    split
    · exact h.set ha ⟨by omega, by omega⟩ ⟨hsum.1, by omega⟩
    · exact h
theorem cheap_fin {w : World} {s : SupD} {An Ao : Option Addr} {cn co N1 N2 SW Bw k : Nat} {ds : List Deferred} {M : ChT} {Y : World} (h : CheapSt w s An Ao cn co N1 N2 ds M Y) (hw : Blk Y Bw 3 #[.int .i64 (k : Int)]) (hne : Bw ≠ N2 ∧ Bw ≠ N1) (hSW : N1 < SW ∧ N2 < SW) (x y : Int) :
    (KeepsOthers Y ((Y.setCell ⟨N1, k, none⟩ (.int .i64 x)).setCell ⟨N2, k, none⟩ (.int .i64 y)) ∧ KpB w.heap.size SW (SW + 1) Y ((Y.setCell ⟨N1, k, none⟩ (.int .i64 x)).setCell ⟨N2, k, none⟩ (.int .i64 y)) ∧ CheapSt w s An Ao cn co N1 N2 ds (M.1.set k x, M.2.set k y) ((Y.setCell ⟨N1, k, none⟩ (.int .i64 x)).setCell ⟨N2, k, none⟩ (.int .i64 y)) ∧ Blk ((Y.setCell ⟨N1, k, none⟩ (.int .i64 x)).setCell ⟨N2, k, none⟩ (.int .i64 y)) Bw 3 #[.int .i64 (k : Int)]) ∧
    (KeepsOthers Y ((Y.setCell ⟨N2, k, none⟩ (.int .i64 y)).setCell ⟨N1, k, none⟩ (.int .i64 x)) ∧ KpB w.heap.size SW (SW + 1) Y ((Y.setCell ⟨N2, k, none⟩ (.int .i64 y)).setCell ⟨N1, k, none⟩ (.int .i64 x)) ∧ CheapSt w s An Ao cn co N1 N2 ds (M.1.set k x, M.2.set k y) ((Y.setCell ⟨N2, k, none⟩ (.int .i64 y)).setCell ⟨N1, k, none⟩ (.int .i64 x)) ∧ Blk ((Y.setCell ⟨N2, k, none⟩ (.int .i64 y)).setCell ⟨N1, k, none⟩ (.int .i64 x)) Bw 3 #[.int .i64 (k : Int)]) := by
  have hb := h.base
  have kp : ∀ (Z : World) (N : Nat) (v : Value), (N = N1 ∨ N = N2) → KpB w.heap.size SW (SW + 1) Z (Z.setCell ⟨N, k, none⟩ v) := fun Z N v hN => ⟨(Below.refl _ _).setCell (p := ⟨N, k, none⟩) (by show w.heap.size ≤ N; omega) v, Below.heap_setCell Z ⟨N, k, none⟩ _ SW (by show SW ≠ N; omega), Below.heap_setCell Z ⟨N, k, none⟩ _ (SW + 1) (by show SW + 1 ≠ N; omega)⟩
  refine ⟨⟨(KeepsOthers.setCell _ _ _).trans (KeepsOthers.setCell _ _ _), (kp _ _ _ (.inl rfl)).trans (kp _ _ _ (.inr rfl)), (h.put1 k x).put2 k y, ?_⟩, ⟨(KeepsOthers.setCell _ _ _).trans (KeepsOthers.setCell _ _ _), (kp _ _ _ (.inr rfl)).trans (kp _ _ _ (.inl rfl)), (h.put2 k y).put1 k x, ?_⟩⟩
  · exact (hw.far (p := ⟨N1, k, none⟩) hne.2 _).far (p := ⟨N2, k, none⟩) hne.1 _
  · exact (hw.far (p := ⟨N2, k, none⟩) hne.1 _).far (p := ⟨N1, k, none⟩) hne.2 _
theorem fin_drew {w : World} {s : SupD} {An Ao : Option Addr} {cn co N1 N2 SW Bw k : Nat} {ds : List Deferred} {M : ChT} {Y Z : World} (h : KeepsOthers Y Z ∧ KpB w.heap.size SW (SW + 1) Y Z ∧ CheapSt w s An Ao cn co N1 N2 ds M Z ∧ Blk Z Bw 3 #[.int .i64 (k : Int)]) :
    KeepsOthers Y Z.drew ∧ KpB w.heap.size SW (SW + 1) Y Z.drew ∧ CheapSt w s An Ao cn co N1 N2 ds M Z.drew ∧ Blk Z.drew Bw 3 #[.int .i64 (k : Int)] := by
  obtain ⟨h1, ⟨h2, h3, h4⟩, h5, h6⟩ := h
  exact ⟨h1.trans (KeepsOthers.drew Z), ⟨h2.drew, h3, h4⟩, h5.below ((Below.refl _ _).drew), h6⟩
noncomputable def chLoop (k : Nat) : Code := (Try.f84.body.bind (loopAt k)).getD .skip
set_option maxRecDepth 1000000 in
set_option maxHeartbeats 4000000 in
theorem cheap_round (u0 u2 u3 u7 u8 u9 u10 u11 u12 u13 u14 u15 u16 u17 u18 u19 u20 u21 u22 u23 u24 u25 u26 u27 u28 u29 u30 u31 u32 u33 u34 u35 u36 u37 u38 u39 u40 u41 u42 u43 u44 u45 u46 u47 u48 u49 u50 u51 u52 u53 u54 u55 u56 u57 u58 : Value) {s : SupD} {m cn co N1 N2 Bw k : Nat} {An Ao : Option Addr} {ds : List Deferred} {T : ChT} {w X : World} {Q : Exit → Act → World → Prop}
    (hs : Hid s.Ok) (hm : Hid (s.need.length = m)) (hk : k < m) (hm20 : m ≤ 20) (hsup : Hid (RSup w.heap.size w (.agg #[.slice An s.need.length cn, .slice Ao s.need.length co, .int .i64 s.keep, .int .i64 s.room]) s)) (hst : Hid (CheapSt w s An Ao cn co N1 N2 ds T X)) (hT : Hid (ChB s (k + 1) T))
    (hwk : Hid (Blk X Bw 3 #[.int .i64 (k : Int)] ∧ w.heap.size < Bw))
    (hQ : Hid (∀ (x7 x8 x9 x16 x17 x18 x19 x20 x21 x22 x23 x24 x25 x26 x27 x28 x29 x30 x31 x32 x33 x34 x35 x36 x37 x38 x39 x40 x41 x42 x43 : Value) (Bw' : Nat) (ds' : List Deferred) (Y : World), CheapSt w s An Ao cn co N1 N2 ds' (chW s T k) Y → Blk Y Bw' 3 #[.int .i64 ((k : Int) - 1)] ∧ w.heap.size < Bw' → Q .normal ⟨List.toArray (u0 :: (.pointer (some ⟨w.heap.size, 0, none⟩)) :: u2 :: u3 :: (.pointer (some ⟨N1, 0, none⟩)) :: (.pointer (some ⟨N2, 0, none⟩)) :: (.pointer (some ⟨Bw', 0, none⟩)) :: x7 :: x8 :: x9 :: u10 :: u11 :: u12 :: u13 :: u14 :: u15 :: x16 :: x17 :: x18 :: x19 :: x20 :: x21 :: x22 :: x23 :: x24 :: x25 :: x26 :: x27 :: x28 :: x29 :: x30 :: x31 :: x32 :: x33 :: x34 :: x35 :: x36 :: x37 :: x38 :: x39 :: x40 :: x41 :: x42 :: x43 :: u44 :: u45 :: u46 :: u47 :: u48 :: u49 :: u50 :: u51 :: u52 :: u53 :: u54 :: u55 :: u56 :: u57 :: u58 :: []), ds'⟩ Y)) :
    Code.wp Try.prog (chLoop 3) Q ⟨List.toArray (u0 :: (.pointer (some ⟨w.heap.size, 0, none⟩)) :: u2 :: u3 :: (.pointer (some ⟨N1, 0, none⟩)) :: (.pointer (some ⟨N2, 0, none⟩)) :: (.pointer (some ⟨Bw, 0, none⟩)) :: u7 :: u8 :: u9 :: u10 :: u11 :: u12 :: u13 :: u14 :: u15 :: u16 :: u17 :: u18 :: u19 :: u20 :: u21 :: u22 :: u23 :: u24 :: u25 :: u26 :: u27 :: u28 :: u29 :: u30 :: u31 :: u32 :: u33 :: u34 :: u35 :: u36 :: u37 :: u38 :: u39 :: u40 :: u41 :: u42 :: u43 :: u44 :: u45 :: u46 :: u47 :: u48 :: u49 :: u50 :: u51 :: u52 :: u53 :: u54 :: u55 :: u56 :: u57 :: u58 :: []), ds⟩ X := by
  have hkl : k < s.need.length := by rw [hm.out]; exact hk
  have hN := hst.out.base
  have d0 := cellOf hwk.out.1 0 (x := .int .i64 (k : Int)) rfl
  have hl2 := hT.out.l2
  have c2 := arr_cell hst.out.rs (j := k) (by omega)
  have f2 := hst.out.rs.frozen k
  have hneB : Bw ≠ N2 ∧ Bw ≠ N1 := by
    constructor
    · exact Blk.ne hwk.out.1 hst.out.rs (by decide)
    · exact Blk.ne hwk.out.1 hst.out.nx (by decide)
  have F1 : ∃ X1, X.setCell ⟨N2, k, none⟩ (.int .i64 9223372036854775807) = X1 ∧ CheapSt w s An Ao cn co N1 N2 ds (T.1, T.2.set k big) X1 ∧ Blk X1 Bw 3 #[.int .i64 (k : Int)] := ⟨_, rfl, hst.out.put2 k big, hwk.out.1.far (p := ⟨N2, k, none⟩) hneB.1 _⟩
  obtain ⟨X1, e1, hst1, hwk1⟩ := F1
  have E1 := Lib.hid e1
  have HS1 := Lib.hid hst1
  have HK1 := Lib.hid hwk1
  have hi1 : (k : Int) < 21 := by omega
  have hi0 : (0 : Int) ≤ (k : Int) := by omega
  clear e1 hst1 hwk1
  conv => arg 2; whnf
  go_upto_region 6 with fail
  rw [E1.out]
  clear d0 c2 f2
  have d0 := cellOf HK1.out 0 (x := .int .i64 (k : Int)) rfl
  have S := HS1.out.sup
  rw [hm.out] at S
  have s0 := cellOf S 0 (x := .slice An m cn) rfl
  have s1 := cellOf S 1 (x := .slice Ao m co) rfl
  have s2 := cellOf S 2 (x := .int .i64 s.keep) rfl
  have s3 := cellOf S 3 (x := .int .i64 s.room) rfl
  clear S
  go_wp2_with fail
  refine (batches_any s An Ao m cn co (k : Int) _).mono ?_
  rintro _ W3 ⟨rfl, hW3⟩
  obtain ⟨hb3, hKs, hKi⟩ := hW3.out
  obtain ⟨SW, hSW⟩ : ∃ b, X1.heap.size = b := ⟨_, rfl⟩
  have HS3 := Lib.hid (HS1.out.below hb3)
  have HK4 := Lib.hid (HK1.out.below hb3 HK1.out.lt)
  rw [hSW] at hKs hKi
  have hnW : w.heap.size ≤ W3.heap.size := HS3.out.below_.size
  have HKs := Lib.hid hKs
  have HKi := Lib.hid hKi
  have hseq := batches_stops 9 (by omega) s hs.out k hkl An Ao cn co SW (SW + 1) w.heap.size W3 (by rw [hm.out]; exact hKs) hKi hnW (hsup.out.below HS3.out.below_)
  have HLt := Lib.hid HS3.out.lt
  have hI0 : CheapSt w s An Ao cn co N1 N2 ds ((([] : List (Bt s k)).map (·.1)).foldl (chE s k) (T.1, T.2.set k big)) W3 ∧ Blk W3 Bw 3 #[.int .i64 (k : Int)] := ⟨HS3.out, HK4.out⟩
  have hGB : N1 < SW ∧ N2 < SW := by
    rw [← hSW]
    exact ⟨HS1.out.nx.lt, HS1.out.rs.lt⟩
  clear hW3 hb3 hKs hKi d0 s0 s1 s2 s3
  go_wp2_with fail
  have HSW := Lib.hid hSW
  clear hSW
  refine (wpIn_wide (n := 10)).1 ?_
  refine wpIn_rangeFunc_ownF rfl (by omega) (gf := 132) (lb := #[.pointer (some ⟨SW, 0, none⟩), .pointer (some ⟨SW + 1, 0, none⟩)]) rfl trivial (enters_of Try.func132 (by kernel_rfl) rfl)
    hseq KpB.trans (KpB.putObj hnW HKs.out.lt HKi.out.lt) (Below.refl _ _) (fun _ => rfl)
    (fun (pre : List (Bt s k)) Y => CheapSt w s An Ao cn co N1 N2 ds ((pre.map (fun z : Bt s k => z.1)).foldl (chE s k) (T.1, T.2.set k big)) Y ∧ Blk Y Bw 3 #[.int .i64 (k : Int)]) (fun _ _ _ => False)
    (fun _ A B row hs hg hr => ⟨hs.1.grow hg hr hnW HLt.out, blk_grown hs.2 hg hr⟩) (fun _ _ _ _ _ hs _ _ => hs) hI0
    (fun y : Bt s k => { tmps := List.toArray (u0 :: (.pointer (some ⟨w.heap.size, 0, none⟩)) :: u2 :: u3 :: (.pointer (some ⟨N1, 0, none⟩)) :: (.pointer (some ⟨N2, 0, none⟩)) :: (.pointer (some ⟨Bw, 0, none⟩)) :: (.int .i64 (y.1 : Int)) :: (.int .i64 (costE s k y.1)) :: u9 :: u10 :: u11 :: u12 :: u13 :: u14 :: u15 :: (.int .i64 (k : Int)) :: (.bool true) :: u18 :: u19 :: (.int .i64 (k : Int)) :: (.pointer (some ⟨N2, k, none⟩)) :: (.agg #[.slice An m cn, .slice Ao m co, .int .i64 s.keep, .int .i64 s.room]) :: (.int .i64 (k : Int)) :: (.func (.func 132) #[] #[.pointer (some ⟨SW, 0, none⟩), .pointer (some ⟨SW + 1, 0, none⟩)]) :: (.int .i64 (y.1 : Int)) :: (.int .i64 (costE s k y.1)) :: u27 :: u28 :: u29 :: u30 :: u31 :: u32 :: u33 :: u34 :: u35 :: u36 :: u37 :: u38 :: u39 :: u40 :: u41 :: u42 :: u43 :: u44 :: u45 :: u46 :: u47 :: u48 :: u49 :: u50 :: u51 :: u52 :: u53 :: u54 :: u55 :: u56 :: u57 :: u58 :: []), defers := [] }) ?assign ?body ?done ?stop
  case assign =>
    intro l y Y K hK
    gi_wp2
    exact hK
  case body =>
    rintro l pre ⟨e, he1, he2⟩ Y ⟨hst9, hw9⟩ hlen
    obtain ⟨M, hM⟩ : ∃ M, (pre.map (fun z : Bt s k => z.1)).foldl (chE s k) (T.1, T.2.set k big) = M := ⟨_, rfl⟩
    rw [hM] at hst9
    have hMB : ChB s (k + 1) M := by
      rw [← hM]
      exact chE_rest hs.out hkl _ (fun x hx => by obtain ⟨z, -, rfl⟩ := List.mem_map.1 hx; exact z.2) (ChM.start hT.out hkl hs.out).rest
    have HMn : Hid (((pre ++ [(⟨e, he1, he2⟩ : Bt s k)]).map (fun z : Bt s k => z.1)).foldl (chE s k) (T.1, T.2.set k big) = chE s k M e) := by
      show _ = _
      rw [List.map_append, List.foldl_append, hM]
      rfl
    have hsum := hMB.sum hs.out he1 he2
    have hba := hMB.all k
    have hbe := hMB.all e
    have hcb := hs.out.costE_bound he1 he2
    have hML1 := hMB.l1
    have hML2 := hMB.l2
    have he2' := he2
    rw [hm.out] at he2 hsum
    have hce := arr_cell hst9.rs (j := e) (by omega)
    have hck := arr_cell hst9.rs (j := k) (by omega)
    have hcn := arr_cell hst9.nx (j := k) (by omega)
    have hf1 := hst9.nx.frozen k
    have hf2 := hst9.rs.frozen k
    have h6 := cellOf hw9 0 (x := .int .i64 (k : Int)) rfl
    obtain ⟨C, hC⟩ : ∃ C, costE s k e = C := ⟨_, rfl⟩
    obtain ⟨a, ha⟩ : ∃ a, M.2.getD k 0 = a := ⟨_, rfl⟩
    obtain ⟨b, hb⟩ : ∃ b, M.2.getD e 0 = b := ⟨_, rfl⟩
    have HE : Hid (chE s k M e = if C + b < a then (M.1.set k (e : Int), M.2.set k (C + b)) else M) := by
      show _ = _
      unfold chE
      rw [hC, ha, hb]
    rw [hb] at hce hbe hsum
    rw [ha] at hck hba
    rw [hC] at hcb hsum
    have HF := Lib.hid (cheap_fin hst9 hw9 hneB hGB (e : Int) (C + b))
    have H0 : Hid (KpB w.heap.size SW (SW + 1) Y Y ∧ CheapSt w s An Ao cn co N1 N2 ds M Y ∧ Blk Y Bw 3 #[.int .i64 (k : Int)]) := ⟨KpB.refl _ _ _ _, hst9, hw9⟩
    have kw : IntKind.i64.wrap (C + b) = C + b := IntWalk.i64_in _ ⟨by omega, by omega⟩
    have hel : (e : Int) < 21 := by omega
    have he0 : (0 : Int) ≤ (e : Int) := by omega
    have hC' := Lib.hid hC
    have hMB' := Lib.hid hMB
    try dsimp only
    rw [hC]
    clear hM hMB hst9 hw9 hC ha hb hI0 hseq hlen hML1 hML2
    by_cases hlt : C + b < a
    case neg =>
      have HX : Hid (KeepsOthers Y Y ∧ KpB w.heap.size SW (SW + 1) Y Y ∧ CheapSt w s An Ao cn co N1 N2 ds (((pre ++ [(⟨e, he1, he2'⟩ : Bt s k)]).map (fun z : Bt s k => z.1)).foldl (chE s k) (T.1, T.2.set k big)) Y ∧ Blk Y Bw 3 #[.int .i64 (k : Int)]) := by
        have h1 := HE.out
        rw [if_neg hlt] at h1
        refine ⟨KeepsOthers.refl _, H0.out.1, ?_, H0.out.2.2⟩
        rw [HMn.out, h1]
        exact H0.out.2.1
      clear HMn HE HF H0
      gi_wp2_with fail
      exact HX.out
    have HX : Hid (∀ Z, Z = ((Y.setCell ⟨N1, k, none⟩ (.int .i64 (e : Int))).setCell ⟨N2, k, none⟩ (.int .i64 (C + b))) ∨ Z = ((Y.setCell ⟨N2, k, none⟩ (.int .i64 (C + b))).setCell ⟨N1, k, none⟩ (.int .i64 (e : Int))) → KeepsOthers Y Z.drew ∧ KpB w.heap.size SW (SW + 1) Y Z.drew ∧ CheapSt w s An Ao cn co N1 N2 ds (((pre ++ [(⟨e, he1, he2'⟩ : Bt s k)]).map (fun z : Bt s k => z.1)).foldl (chE s k) (T.1, T.2.set k big)) Z.drew ∧ Blk Z.drew Bw 3 #[.int .i64 (k : Int)]) := fun Z hZ => by
      have h1 := HE.out
      rw [if_pos hlt] at h1
      rw [HMn.out, h1]
      refine fin_drew ?_
      rcases hZ with rfl | rfl
      · exact HF.out.1
      · exact HF.out.2
    clear HMn HE HF H0
    gi_upto_region 11 with fail
    clear kw
    gi_region
    all_goals gi_wp2_with fail
    all_goals first | exact HX.out _ (.inl rfl) | exact HX.out _ (.inr rfl)
  case done =>
    rintro D ys Y hD rfl ⟨hst9, hw9⟩ hK
    rw [batchN_val hkl] at hst9
    have HN : Hid (CheapSt w s An Ao cn co N1 N2 ({ target := .collected D, args := #[] } :: ds) (chW s T k) Y) := hst9.range (fun D' hD' => Nat.lt_of_lt_of_le (HLt.out D' hD') hD) (Nat.le_trans hnW hD) hK
    have d0 := cellOf hw9 0 (x := .int .i64 (k : Int)) rfl
    have F4 : ∃ Y1, Y.alloc (.cells #[.int .i64 (k : Int)] 3) = Y1 ∧ CheapSt w s An Ao cn co N1 N2 ({ target := .collected D, args := #[] } :: ds) (chW s T k) Y1 ∧ Blk Y1 Y.heap.size 3 #[.int .i64 (k : Int)] := ⟨_, rfl, HN.out.below (below_alloc _ _), Blk.new _ _ _⟩
    obtain ⟨Y1, e4, hst4, hb4⟩ := F4
    obtain ⟨Bn, hBn⟩ : ∃ b, Y.heap.size = b := ⟨_, rfl⟩
    have E4 := Lib.hid e4
    have hbase := HN.out.below_.size
    have hwl := HN.out.sup.lt
    rw [hBn] at hb4 hwl
    have d1 := cellOf hb4 0 (x := .int .i64 (k : Int)) rfl
    have df := hb4.frozen 0
    have hfin : Hid (CheapSt w s An Ao cn co N1 N2 ({ target := .collected D, args := #[] } :: ds) (chW s T k) (Y1.setCell ⟨Bn, 0, none⟩ (.int .i64 ((k : Int) - 1))) ∧ Blk (Y1.setCell ⟨Bn, 0, none⟩ (.int .i64 ((k : Int) - 1))) Bn 3 #[.int .i64 ((k : Int) - 1)] ∧ w.heap.size < Bn) :=
      ⟨hst4.keep (KeptBut.setCell (S := fun j => j = Bn) rfl _) (fun j hj => by
        subst hj
        refine ⟨hwl, Blk.ne hb4 hst4.nx (by decide), Blk.ne hb4 hst4.rs (by decide), fun h9 => ?_⟩
        have := hb4.symm.trans h9
        simp at this), hb4.put 0 _, hwl⟩
    clear hst9 hw9 hK hD hI0 hseq e4 hst4 hb4
    go_upto_region 4 with fail
    rw [E4.out]
    go_wp2_with fail
    exact hQ.out _ _ _ _ _ _ _ _ _ _ _ _ _ _ _ _ _ _ _ _ _ _ _ _ _ _ _ _ _ _ _ _ _ _ hfin.out.1 hfin.out.2
  case stop =>
    rintro D c pre Y _ _ h _
    exact h.elim
end Go.Proofs.Ytpkepacbondopaa
