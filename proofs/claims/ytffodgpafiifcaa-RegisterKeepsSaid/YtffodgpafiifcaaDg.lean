/-
  match, Match, of a pattern and what was seen that are allowed.
-/
import Derived.Test.YtffodgpafiifcaaDf
namespace Go.Proofs.Ytffodgpafiifcaa
open Go.RowKit

def fitVal (marks : List Int) (W : Int) (seen : List Int) (u : Value) : Value := .agg #[.int .i64 (bestD marks W seen).1, .int .i64 (bestD marks W seen).2, u]

set_option maxRecDepth 100000 in
set_option maxHeartbeats 2000000 in
theorem match_ok (v vs : Value) (marks : List Int) (W : Int) (seen : List Int) (w : World) (hm : RInts w.heap.size w v marks) (hs : RInts w.heap.size w vs seen) (hp : PatOk marks W) (hc : CamOk seen) :
    Calls Try.prog 50 #[.agg #[v, .int .i64 W], vs] w fun e w' => ∃ u, e = .returned (.tuple #[fitVal marks W seen u, .int .i64 0]) ∧ OInts w.heap.size w' u (fitD marks W seen) ∧ Below w.heap.size w w' := by
  have HM := Lib.hid hm
  have HS := Lib.hid hs
  have HP := Lib.hid hp
  have HC := Lib.hid hc
  obtain ⟨A, c, rfl, -, -⟩ := hm.open_
  obtain ⟨A2, c2, rfl, -, -⟩ := hs.open_
  obtain ⟨n, hn⟩ : ∃ n, marks.length = n := ⟨_, rfl⟩
  obtain ⟨n2, hn2⟩ : ∃ n, seen.length = n := ⟨_, rfl⟩
  have hl := hp.len
  have hl2 := hc.len
  have Hn := Lib.hid hn
  have Hn2 := Lib.hid hn2
  rw [hn] at hl ⊢
  rw [hn2] at hl2 ⊢
  have F : ∃ w1, (w.alloc (.cells #[.slice A n c, .int .i64 W] 87)).alloc (.cells #[.int .i64 0, .int .i64 0, .slice none 0 0] 52) = w1 ∧ Below w.heap.size w w1 ∧ Blk w1 w.heap.size 87 #[.slice A n c, .int .i64 W] ∧ Blk w1 (w.heap.size + 1) 52 #[.int .i64 0, .int .i64 0, .slice none 0 0] :=
    ⟨_, rfl, (below_alloc _ _).trans ((below_alloc _ _).mono (by simp)), (Blk.new _ _ _).alloc _, blk_new (by simp) _ _⟩
  obtain ⟨w1, e1, B1, V1, R1⟩ := F
  have E1 := Lib.hid e1
  have v0 := cellOf V1 0 (x := .slice A n c) rfl
  have v1 := cellOf V1 1 (x := .int .i64 W) rfl
  have C1 := Lib.hid (hasMarks_yes A n c W hl w1)
  obtain ⟨b1, hb1⟩ : ∃ b, w.heap.size + 1 = b := ⟨_, rfl⟩
  rw [hb1] at R1
  have lb : w.heap.size < b1 := by omega
  clear hm hs hp hc hn hn2 e1
  go_enter Try.func50, Try.ntmps50
  go_upto_region 1 with fail
  rw [E1.out]
  clear hb1
  go_wp2_with fail
  refine C1.out.mono ?_
  rintro e w2 ⟨rfl, hb2⟩
  have V2 := V1.below hb2 V1.lt
  have R2 := R1.below hb2 R1.lt
  have B2 := B1.trans (hb2.mono B1.size)
  clear C1 v0 v1 V1 R1 B1 hb2 E1
  have v0 := cellOf V2 0 (x := .slice A n c) rfl
  have v1 := cellOf V2 1 (x := .int .i64 W) rfl
  have C2 := isAllowed_yes _ marks W w2 ((HM.out.below B2).more B2.size) HP.out
  rw [Hn.out] at C2
  have C2 := Lib.hid C2
  go_wp2_with fail
  refine C2.out.mono ?_
  rintro e w3 ⟨rfl, hb3⟩
  have V3 := V2.below hb3 V2.lt
  have R3 := R2.below hb3 R2.lt
  have B3 := B2.trans (hb3.mono B2.size)
  clear C2 v0 v1 V2 R2 B2 hb3
  have C3 := canBeSeen_yes _ seen w3 ((HS.out.below B3).more B3.size) HC.out
  rw [Hn2.out] at C3
  have C3 := Lib.hid C3
  go_wp2_with fail
  refine C3.out.mono ?_
  rintro e w' ⟨rfl, rfl⟩
  have v0 := cellOf V3 0 (x := .slice A n c) rfl
  have v1 := cellOf V3 1 (x := .int .i64 W) rfl
  have C4 := best_any _ _ marks W seen w3 ((HM.out.below B3).more B3.size) (by rw [Hn.out]; omega) HP.out.place ((HS.out.below B3).more B3.size) ⟨HC.out.ascends, by rw [Hn2.out]; omega, HP.out.wind⟩
  rw [Hn.out, Hn2.out] at C4
  have C4 := Lib.hid C4
  clear C3
  go_wp2_with fail
  refine C4.out.mono ?_
  rintro e w4 ⟨u, rfl, hu, hb4⟩
  have R4 := R3.below hb4 R3.lt
  have B4 := B3.trans (hb4.mono B3.size)
  have hu4 : OInts w.heap.size w4 u (fitD marks W seen) := ownsRow_base hu B3.size
  obtain ⟨Au, cu, rfl⟩ := ownsRow_form hu4
  clear C4 v0 v1 V3 R3 B3 hb4 hu
  obtain ⟨⟨sh, ct⟩, hE⟩ : ∃ st, bestD marks W seen = st := ⟨_, rfl⟩
  rw [hE]
  have hF : ∃ w5, (((w4.setCell ⟨b1, 0, none⟩ (.int .i64 sh)).setCell ⟨b1, 1, none⟩ (.int .i64 ct)).setCell ⟨b1, 2, none⟩ (.slice Au (fitD marks W seen).length cu)) = w5 ∧ Blk w5 b1 52 #[.int .i64 sh, .int .i64 ct, .slice Au (fitD marks W seen).length cu] ∧ OInts w.heap.size w5 (.slice Au (fitD marks W seen).length cu) (fitD marks W seen) ∧ Below w.heap.size w w5 := by
    refine ⟨_, rfl, ((R4.put 0 _).put 1 _).put 2 _, ?_, below_set3 B4 (by omega) _ _ _⟩
    refine ownsRow_keptBut hu4 (S := fun j => j = b1) ?_ fun g' cs hg' hB => ?_
    · exact ((KeptBut.setCell (S := fun j => j = b1) (p := ⟨b1, 0, none⟩) rfl _).trans (KeptBut.setCell (S := fun j => j = b1) (p := ⟨b1, 1, none⟩) rfl _) fun _ _ h => h).trans (KeptBut.setCell (S := fun j => j = b1) (p := ⟨b1, 2, none⟩) rfl _) fun _ _ h => h
    · rintro rfl
      exact Blk.ne hB R4 (by decide) rfl
  obtain ⟨w5, e5, R5, O5, B5⟩ := hF
  have E5 := Lib.hid e5
  have HE := Lib.hid hE
  have HR5 := Lib.hid R5
  have HO5 := Lib.hid O5
  have HB5 := Lib.hid B5
  have r0 := cellOf R4 0 (x := .int .i64 0) rfl
  have r1 := cellOf R4 1 (x := .int .i64 0) rfl
  have r2 := cellOf R4 2 (x := .slice none 0 0) rfl
  have g0 := R4.frozen 0
  have g1 := R4.frozen 1
  have g2 := R4.frozen 2
  clear e5 hE R5 O5 B5 R4 B4 hu4
  go_wp2
  rw [E5.out]
  have x0 := cellOf HR5.out 0 (x := .int .i64 sh) rfl
  have x1 := cellOf HR5.out 1 (x := .int .i64 ct) rfl
  have x2 := cellOf HR5.out 2 (x := .slice Au (fitD marks W seen).length cu) rfl
  refine bodyPost_ret (v := .tuple #[.agg #[.int .i64 sh, .int .i64 ct, .slice Au (fitD marks W seen).length cu], .int .i64 0]) (by simp [results, Try.results50, go_sem, x0, x1, x2]) rfl ⟨.slice Au (fitD marks W seen).length cu, by unfold fitVal; rw [HE.out], HO5.out, HB5.out⟩

set_option maxRecDepth 100000 in
set_option maxHeartbeats 2000000 in
theorem Match_ok (v vs : Value) (marks : List Int) (W : Int) (seen : List Int) (w : World) (hm : RInts w.heap.size w v marks) (hs : RInts w.heap.size w vs seen) (hp : PatOk marks W) (hc : CamOk seen) :
    Calls Try.prog 27 #[v, .int .i64 W, vs] w fun e w' => ∃ u, e = .returned (.tuple #[fitVal marks W seen u, .int .i64 0]) ∧ OInts w.heap.size w' u (fitD marks W seen) ∧ Below w.heap.size w w' := by
  obtain ⟨w1, e1, B1, R1⟩ : ∃ w1, w.alloc (.cells #[.int .i64 0, .int .i64 0, .slice none 0 0] 52) = w1 ∧ Below w.heap.size w w1 ∧ Blk w1 w.heap.size 52 #[.int .i64 0, .int .i64 0, .slice none 0 0] := ⟨_, rfl, below_alloc _ _, Blk.new _ _ _⟩
  have E1 := Lib.hid e1
  have C1 := Lib.hid (match_ok v vs marks W seen w1 ((hm.below B1).more B1.size) ((hs.below B1).more B1.size) hp hc)
  obtain ⟨A, c, rfl, -, -⟩ := hm.open_
  obtain ⟨A2, c2, rfl, -, -⟩ := hs.open_
  clear hm hs hp hc e1
  go_enter Try.func27, Try.ntmps27
  go_upto_region 1 with fail
  rw [E1.out]
  go_wp2_with fail
  refine C1.out.mono ?_
  rintro e w4 ⟨u, rfl, hu, hb4⟩
  have R4 := R1.below hb4 R1.lt
  have B4 := B1.trans (hb4.mono B1.size)
  have hu4 : OInts w.heap.size w4 u (fitD marks W seen) := ownsRow_base hu B1.size
  obtain ⟨Au, cu, rfl⟩ := ownsRow_form hu4
  unfold fitVal
  clear C1 R1 B1 hb4 hu
  obtain ⟨⟨sh, ct⟩, hE⟩ : ∃ st, bestD marks W seen = st := ⟨_, rfl⟩
  rw [hE]
  obtain ⟨b1, hb1⟩ : ∃ b, w.heap.size = b := ⟨_, rfl⟩
  rw [hb1] at R4
  have hF : ∃ w5, (((w4.setCell ⟨b1, 0, none⟩ (.int .i64 sh)).setCell ⟨b1, 1, none⟩ (.int .i64 ct)).setCell ⟨b1, 2, none⟩ (.slice Au (fitD marks W seen).length cu)) = w5 ∧ Blk w5 b1 52 #[.int .i64 sh, .int .i64 ct, .slice Au (fitD marks W seen).length cu] ∧ OInts w.heap.size w5 (.slice Au (fitD marks W seen).length cu) (fitD marks W seen) ∧ Below w.heap.size w w5 := by
    refine ⟨_, rfl, ((R4.put 0 _).put 1 _).put 2 _, ?_, below_set3 B4 (by omega) _ _ _⟩
    refine ownsRow_keptBut hu4 (S := fun j => j = b1) ?_ fun g' cs hg' hB => ?_
    · exact ((KeptBut.setCell (S := fun j => j = b1) (p := ⟨b1, 0, none⟩) rfl _).trans (KeptBut.setCell (S := fun j => j = b1) (p := ⟨b1, 1, none⟩) rfl _) fun _ _ h => h).trans (KeptBut.setCell (S := fun j => j = b1) (p := ⟨b1, 2, none⟩) rfl _) fun _ _ h => h
    · rintro rfl
      exact Blk.ne hB R4 (by decide) rfl
  obtain ⟨w5, e5, R5, O5, B5⟩ := hF
  have E5 := Lib.hid e5
  have HE := Lib.hid hE
  have HR5 := Lib.hid R5
  have HO5 := Lib.hid O5
  have HB5 := Lib.hid B5
  have r0 := cellOf R4 0 (x := .int .i64 0) rfl
  have r1 := cellOf R4 1 (x := .int .i64 0) rfl
  have r2 := cellOf R4 2 (x := .slice none 0 0) rfl
  have g0 := R4.frozen 0
  have g1 := R4.frozen 1
  have g2 := R4.frozen 2
  clear e5 hE R5 O5 B5 R4 B4 hu4
  go_wp2
  rw [E5.out]
  have x0 := cellOf HR5.out 0 (x := .int .i64 sh) rfl
  have x1 := cellOf HR5.out 1 (x := .int .i64 ct) rfl
  have x2 := cellOf HR5.out 2 (x := .slice Au (fitD marks W seen).length cu) rfl
  refine bodyPost_ret (v := .tuple #[.agg #[.int .i64 sh, .int .i64 ct, .slice Au (fitD marks W seen).length cu], .int .i64 0]) (by simp [results, Try.results27, go_sem, x0, x1, x2]) rfl ⟨.slice Au (fitD marks W seen).length cu, by unfold fitVal; rw [HE.out], HO5.out, HB5.out⟩
end Go.Proofs.Ytffodgpafiifcaa
