/-
  A round of prices.
-/
import Derived.Test.YtpkepacbondopaaMf
import Derived.Test.YtpkepacbondopaaTi
namespace Go.Proofs.Ytpkepacbondopaa
open Go.RowKit Go.Shelf
attribute [local go_sem] Oper.semAt_some

set_option maxRecDepth 1000000 in
set_option maxHeartbeats 4000000 in
theorem prices_round (u0 u2 u4 u5 u6 u7 u8 u9 u10 u11 u12 u13 u14 u15 u19 u20 u21 u22 u23 u24 u25 u26 u27 u28 u29 u30 u31 u32 u33 u34 u35 u36 u37 u38 u39 u40 u41 : Value) {s : SupD} {m c cn co PB G k : Nat} {An Ao : Option Addr} {ds : List Deferred} {L : List Int} {w X : World} {Q : Exit → Act → World → Prop}
    (hs : Hid s.Ok) (hm : Hid (s.need.length = m)) (hk : k < m) (hm20 : m ≤ 20) (hsup : Hid (RSup w.heap.size w (.agg #[.slice An s.need.length cn, .slice Ao s.need.length co, .int .i64 s.keep, .int .i64 s.room]) s)) (hst : Hid (PrSt w s An Ao cn co PB G c ds L X)) (hL : Hid (PrB s k L))
    (hQ : Hid (∀ (x4 x5 x6 x19 x20 x21 x22 x23 x24 x25 x26 x27 x28 x29 x30 x31 x32 x33 x34 x35 x36 x37 x38 x39 x40 : Value) (ds' : List Deferred) (Y : World), PrSt w s An Ao cn co PB G c ds' (weekP s k L) Y → Q .normal ⟨List.toArray (u0 :: (.pointer (some ⟨w.heap.size, 0, none⟩)) :: u2 :: (.pointer (some ⟨PB, 0, none⟩)) :: x4 :: x5 :: x6 :: u7 :: u8 :: u9 :: u10 :: u11 :: u12 :: u13 :: u14 :: u15 :: (.slice An m cn) :: (.int .i64 (m : Int)) :: (.int .i64 ((k : Int) + 1)) :: x19 :: x20 :: x21 :: x22 :: x23 :: x24 :: x25 :: x26 :: x27 :: x28 :: x29 :: x30 :: x31 :: x32 :: x33 :: x34 :: x35 :: x36 :: x37 :: x38 :: x39 :: x40 :: u41 :: []), ds'⟩ Y)) :
    Code.wp Try.prog (prLoop 4) Q ⟨List.toArray (u0 :: (.pointer (some ⟨w.heap.size, 0, none⟩)) :: u2 :: (.pointer (some ⟨PB, 0, none⟩)) :: u4 :: u5 :: u6 :: u7 :: u8 :: u9 :: u10 :: u11 :: u12 :: u13 :: u14 :: u15 :: (.slice An m cn) :: (.int .i64 (m : Int)) :: (.int .i64 (k : Int)) :: u19 :: u20 :: u21 :: u22 :: u23 :: u24 :: u25 :: u26 :: u27 :: u28 :: u29 :: u30 :: u31 :: u32 :: u33 :: u34 :: u35 :: u36 :: u37 :: u38 :: u39 :: u40 :: u41 :: []), ds⟩ X := by
  have hki : (k : Int) < (m : Int) := by omega
  have hkl : k < s.need.length := by rw [hm.out]; exact hk
  have F1 : ∃ X1, X.alloc (.cells #[.int .i64 (k : Int)] 3) = X1 ∧ Below X.heap.size X X1 ∧ Blk X1 X.heap.size 3 #[.int .i64 (k : Int)] := ⟨_, rfl, below_alloc _ _, Blk.new _ _ _⟩
  obtain ⟨X1, e1, hb1, B1⟩ := F1
  have E1 := Lib.hid e1
  have HK1 := Lib.hid B1
  have HS1 := Lib.hid (hst.out.below hb1)
  have HG := Lib.hid hst.out.G_lt
  have d0 := cellOf B1 0 (x := .int .i64 (k : Int)) rfl
  have S := HS1.out.sup
  rw [hm.out] at S
  have s0 := cellOf S 0 (x := .slice An m cn) rfl
  have s1 := cellOf S 1 (x := .slice Ao m co) rfl
  have s2 := cellOf S 2 (x := .int .i64 s.keep) rfl
  have s3 := cellOf S 3 (x := .int .i64 s.room) rfl
  have hz1 : X.heap.size < X1.heap.size := B1.lt
  obtain ⟨B4, hB4⟩ : ∃ b, X.heap.size = b := ⟨_, rfl⟩
  have HB4 := Lib.hid hB4
  clear e1 hb1 B1 S
  conv => arg 2; whnf
  go_upto_region 6 with fail
  rw [E1.out]
  rw [hB4] at d0 HK1 hz1
  clear hB4
  go_wp2_with fail
  refine (batches_any s An Ao m cn co (k : Int) _).mono ?_
  rintro _ W3 ⟨rfl, hW3⟩
  obtain ⟨hb3, hKs, hKi⟩ := hW3.out
  obtain ⟨SW, hSW⟩ : ∃ b, X1.heap.size = b := ⟨_, rfl⟩
  have HS3 := Lib.hid (HS1.out.below hb3)
  have HK4 := Lib.hid (HK1.out.below hb3 HK1.out.lt)
  rw [hSW] at hKs hKi hz1
  have hnW : w.heap.size ≤ W3.heap.size := HS3.out.below_.size
  have HKs := Lib.hid hKs
  have HKi := Lib.hid hKi
  have hseq := batches_stops 9 (by omega) s hs.out k hkl An Ao cn co SW (SW + 1) w.heap.size W3 (by rw [hm.out]; exact hKs) hKi hnW (hsup.out.below HS3.out.below_)
  have HLt := Lib.hid HS3.out.lt
  have hI0 : PrSt w s An Ao cn co PB G c ds ((([] : List (Bt s k)).map (·.1)).foldl (stepE s k) L) W3 ∧ Blk W3 B4 3 #[.int .i64 (k : Int)] := ⟨HS3.out, HK4.out⟩
  have hGB : G < B4 := by have := HG.out.2.1; have := HB4.out; omega
  clear hW3 hb3 hKs hKi d0 s0 s1 s2 s3
  go_wp2_with fail
  have HSW := Lib.hid hSW
  clear hSW
  refine (wpIn_wide (n := 10)).1 ?_
  refine wpIn_rangeFunc_ownF rfl (by omega) (gf := 132) (lb := #[.pointer (some ⟨SW, 0, none⟩), .pointer (some ⟨SW + 1, 0, none⟩)]) rfl trivial (enters_of Try.func132 (by kernel_rfl) rfl)
    hseq KpB.trans (KpB.putObj hnW HKs.out.lt HKi.out.lt) (Below.refl _ _) (fun _ => rfl)
    (fun (pre : List (Bt s k)) Y => PrSt w s An Ao cn co PB G c ds ((pre.map (fun z : Bt s k => z.1)).foldl (stepE s k) L) Y ∧ Blk Y B4 3 #[.int .i64 (k : Int)]) (fun _ _ _ => False)
    (fun _ A B row hs hg hr => ⟨hs.1.grow hg hr hnW HLt.out, blk_grown hs.2 hg hr⟩) (fun _ _ _ _ _ hs _ _ => hs) hI0
    (fun y : Bt s k => { tmps := List.toArray (u0 :: (.pointer (some ⟨w.heap.size, 0, none⟩)) :: u2 :: (.pointer (some ⟨PB, 0, none⟩)) :: (.pointer (some ⟨B4, 0, none⟩)) :: (.int .i64 (y.1 : Int)) :: (.int .i64 (costE s k y.1)) :: u7 :: u8 :: u9 :: u10 :: u11 :: u12 :: u13 :: u14 :: u15 :: (.slice An m cn) :: (.int .i64 (m : Int)) :: (.int .i64 (k : Int)) :: (.bool true) :: (.int .i64 (k : Int)) :: (.agg #[.slice An m cn, .slice Ao m co, .int .i64 s.keep, .int .i64 s.room]) :: (.int .i64 (k : Int)) :: (.func (.func 132) #[] #[.pointer (some ⟨SW, 0, none⟩), .pointer (some ⟨SW + 1, 0, none⟩)]) :: (.int .i64 (y.1 : Int)) :: (.int .i64 (costE s k y.1)) :: u26 :: u27 :: u28 :: u29 :: u30 :: u31 :: u32 :: u33 :: u34 :: u35 :: u36 :: u37 :: u38 :: u39 :: u40 :: u41 :: []), defers := [] }) ?assign ?body ?done ?stop
  case assign =>
    intro l y Y K hK
    gi_wp2
    exact hK
  case body =>
    rintro l pre ⟨e, he1, he2⟩ Y ⟨hst9, hw9⟩ hlen
    obtain ⟨M, hM⟩ : ∃ M, (pre.map (fun z : Bt s k => z.1)).foldl (stepE s k) L = M := ⟨_, rfl⟩
    rw [hM] at hst9
    obtain ⟨hPB, hMk, -, -⟩ := foldl_step hs.out (pre.map (fun z : Bt s k => z.1)) (fun x hx => by obtain ⟨z, -, rfl⟩ := List.mem_map.1 hx; exact z.2) hL.out
    rw [hM] at hPB hMk
    have HMn : Hid (((pre ++ [(⟨e, he1, he2⟩ : Bt s k)]).map (fun z : Bt s k => z.1)).foldl (stepE s k) L = M.set e (min (M.getD e 0) (M.getD k 0 + costE s k e))) := by
      show _ = _
      rw [List.map_append, List.foldl_append, hM]
      rfl
    have hcb := hs.out.costE_bound he1 he2
    have hba := hPB.low k (Nat.le_refl _)
    have hba2 := (hPB.all k).1
    have hbe := hPB.all e
    obtain ⟨C, hC⟩ : ∃ C, costE s k e = C := ⟨_, rfl⟩
    obtain ⟨a, ha⟩ : ∃ a, M.getD k 0 = a := ⟨_, rfl⟩
    obtain ⟨b, hb⟩ : ∃ b, M.getD e 0 = b := ⟨_, rfl⟩
    obtain ⟨z, hz⟩ : ∃ z, min b (a + C) = z := ⟨_, rfl⟩
    rw [hC, ha, hb, hz] at HMn
    rw [hC] at hcb
    rw [ha] at hba hba2
    rw [hb] at hbe
    have kw : IntKind.i64.wrap (a + C) = a + C := IntWalk.i64_in _ ⟨by omega, by omega⟩
    have hst9d : PrSt w s An Ao cn co PB G c ds M Y.drew := ⟨⟨hst9.below_.os, hst9.below_.tape, hst9.below_.output, hst9.below_.size, hst9.below_.block⟩, hst9.sup, hst9.box, hst9.base, hst9.row, hst9.defs⟩
    obtain ⟨hput, hkb⟩ := hst9d.put (j := e) (by omega) z
    have HGl := hst9.G_lt
    have HFin : Hid (KeepsOthers Y (Y.drew.setCell ⟨G, e, none⟩ (.int .i64 z)) ∧ KpB w.heap.size SW (SW + 1) Y (Y.drew.setCell ⟨G, e, none⟩ (.int .i64 z)) ∧ PrSt w s An Ao cn co PB G c ds (((pre ++ [(⟨e, he1, he2⟩ : Bt s k)]).map (fun z : Bt s k => z.1)).foldl (stepE s k) L) (Y.drew.setCell ⟨G, e, none⟩ (.int .i64 z)) ∧ Blk (Y.drew.setCell ⟨G, e, none⟩ (.int .i64 z)) B4 3 #[.int .i64 (k : Int)]) := by
      refine ⟨(KeepsOthers.drew Y).trans (KeepsOthers.setCell _ _ _), ⟨?_, ?_, ?_⟩, ?_, ?_⟩
      · have h1 := hkb.below (B := w.heap.size) (fun k hk => by have := HGl.1; omega) hst9d.below_.size
        exact ⟨h1.os, h1.tape, h1.output, h1.size, h1.block⟩
      · exact Below.heap_setCell Y.drew ⟨G, e, none⟩ _ SW (by show SW ≠ G; omega)
      · exact Below.heap_setCell Y.drew ⟨G, e, none⟩ _ (SW + 1) (by show SW + 1 ≠ G; omega)
      · rw [HMn.out]; exact hput
      · exact (Below.heap_setCell Y.drew ⟨G, e, none⟩ _ B4 (by show B4 ≠ G; omega)).trans hw9
    have hpb := cellOf hst9.box 0 (x := .slice (some ⟨G, 0, none⟩) (s.need.length + 1) c) rfl
    have h4 := cellOf hw9 0 (x := .int .i64 (k : Int)) rfl
    have hce := hst9.cell (j := e) (by omega)
    have hck := hst9.cell (j := k) (by omega)
    have hfe : Y.frozen? ⟨G, e, none⟩ = false := ownsRow_frozen hst9.row e
    rw [hb] at hce
    rw [ha] at hck
    rw [hm.out] at hpb he2
    have hel : (e : Int) < ((m + 1 : Nat) : Int) := by omega
    have hkl2 : (k : Int) < ((m + 1 : Nat) : Int) := by omega
    have he0 : (0 : Int) ≤ (e : Int) := by omega
    have hC' := Lib.hid hC
    try dsimp only
    rw [hC]
    clear hM hPB hMk hst9 hw9 hst9d hput hkb HGl hcb hba hba2 hbe ha hb hC HMn hI0 hseq hlen
    gi_upto_region 9 with fail
    refine wpIn_tail 14 (by kernel_rfl) (by kernel_rfl) (by kernel_rfl) ?_
    simp only [List.take_succ_cons, List.take_zero, List.drop_succ_cons, List.drop_zero]
    repeat go_big_quiet_step (fail)
    refine wpQuiet_nil ?_
    have hz9 := Lib.hid hz
    clear hz
    gi_wp2_with fail
    all_goals
      have HF := HFin.out
      have hz := hz9.out
      first
        | (rw [show z = a + C by omega] at HF; exact HF)
        | (rw [show z = b by omega] at HF; exact HF)
  case done =>
    rintro D ys Y hD rfl ⟨hst9, -⟩ hK
    rw [batchN_val hkl] at hst9
    have HN : Hid (PrSt w s An Ao cn co PB G c ({ target := .collected D, args := #[] } :: ds) (weekP s k L) Y) := hst9.range (fun D' hD' => Nat.lt_of_lt_of_le (HLt.out D' hD') hD) (Nat.le_trans hnW hD) hK
    clear hst9 hK hD hI0 hseq
    go_wp2_with fail
    exact hQ.out _ _ _ _ _ _ _ _ _ _ _ _ _ _ _ _ _ _ _ _ _ _ _ _ _ _ _ HN.out
  case stop =>
    rintro D c pre Y _ _ h _
    exact h.elim
end Go.Proofs.Ytpkepacbondopaa
