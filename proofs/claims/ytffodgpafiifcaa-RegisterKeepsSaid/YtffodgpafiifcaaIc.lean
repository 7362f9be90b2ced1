/-
  match, Match of any input.
-/
import Derived.Test.YtffodgpafiifcaaIa
namespace Go.Proofs.Ytffodgpafiifcaa
open Go.RowKit

def LenOk (marks seen : List Int) : Prop := (2 ≤ marks.length ∧ marks.length ≤ 12) ∧ seen.length ≤ 40
/-- What Match must answer. -/
def FitIs (marks : List Int) (W : Int) (seen : List Int) (s c : Int) (l : List Int) (err : Int) : Prop :=
  (¬ LenOk marks seen ∧ s = 0 ∧ c = 0 ∧ l = [] ∧ err = 2) ∨ (LenOk marks seen ∧ ¬ AllowOk marks W ∧ s = 0 ∧ c = 0 ∧ l = [] ∧ err = 6) ∨
  (LenOk marks seen ∧ AllowOk marks W ∧ ¬ SeenAsc seen ∧ s = 0 ∧ c = 0 ∧ l = [] ∧ err = 11) ∨
  (LenOk marks seen ∧ AllowOk marks W ∧ SeenAsc seen ∧ s = (bestD marks W seen).1 ∧ c = (bestD marks W seen).2 ∧ l = fitD marks W seen ∧ err = 0)
theorem FitIs.one {marks : List Int} {W : Int} {seen : List Int} {s c s' c' : Int} {l l' : List Int} {err err' : Int} (h : FitIs marks W seen s c l err) (h' : FitIs marks W seen s' c' l' err') : s = s' ∧ c = c' ∧ l = l' ∧ err = err' := by
  unfold FitIs at h h'
  generalize bestD marks W seen = bd at h h'
  generalize fitD marks W seen = fd at h h'
  rcases h with ⟨h1, rfl, rfl, rfl, rfl⟩ | ⟨h1, h2, rfl, rfl, rfl, rfl⟩ | ⟨h1, h2, h3, rfl, rfl, rfl, rfl⟩ | ⟨h1, h2, h3, rfl, rfl, rfl, rfl⟩ <;>
  rcases h' with ⟨g1, rfl, rfl, rfl, rfl⟩ | ⟨g1, g2, rfl, rfl, rfl, rfl⟩ | ⟨g1, g2, g3, rfl, rfl, rfl, rfl⟩ | ⟨g1, g2, g3, rfl, rfl, rfl, rfl⟩ <;>
  first | exact absurd g1 h1 | exact absurd h1 g1 | exact absurd g2 h2 | exact absurd h2 g2 | exact absurd g3 h3 | exact absurd h3 g3 | exact ⟨rfl, rfl, rfl, rfl⟩
/-- An answer of Match. -/
def FitRet (base : Nat) (marks : List Int) (W : Int) (seen : List Int) (e : Ending) (w' : World) : Prop :=
  ∃ (s c : Int) (l : List Int) (err : Int) (u : Value), e = .returned (.tuple #[.agg #[.int .i64 s, .int .i64 c, u], .int .i64 err]) ∧ FitIs marks W seen s c l err ∧ OInts base w' u l
theorem FitRet.zero {base : Nat} {marks : List Int} {W : Int} {seen : List Int} {err : Int} {w' : World} (h : FitIs marks W seen 0 0 [] err) : FitRet base marks W seen (.returned (.tuple #[.agg #[.int .i64 0, .int .i64 0, .slice none 0 0], .int .i64 err])) w' :=
  ⟨0, 0, [], err, _, rfl, h, World.ownsRow_nil _ _ _ _⟩
theorem fit_zero {w w4 : World} {b1 : Nat} {cs : Array Value} (R4 : Blk w4 b1 52 cs) (hc : cs.size = 3) (B4 : Below w.heap.size w w4) (hb : w.heap.size ≤ b1) : ∃ w5, (((w4.setCell ⟨b1, 0, none⟩ (.int .i64 0)).setCell ⟨b1, 1, none⟩ (.int .i64 0)).setCell ⟨b1, 2, none⟩ (.slice none 0 0)) = w5 ∧ Blk w5 b1 52 #[.int .i64 0, .int .i64 0, .slice none 0 0] ∧ Below w.heap.size w w5 := by
  obtain ⟨a, b, c, rfl⟩ : ∃ a b c, cs = #[a, b, c] := by
    rcases cs with ⟨l⟩
    match l, hc with
    | [a, b, c], _ => exact ⟨a, b, c, rfl⟩
  exact ⟨_, rfl, ((R4.put 0 _).put 1 _).put 2 _, below_set3 B4 hb _ _ _⟩

set_option maxRecDepth 100000 in
set_option maxHeartbeats 4000000 in
theorem match_any (v vs : Value) (marks : List Int) (W : Int) (seen : List Int) (w : World) (hm : RInts w.heap.size w v marks) (hs : RInts w.heap.size w vs seen) (hlm : marks.length ≤ 1000000) (hls : seen.length ≤ 1000000) :
    Calls Try.prog 50 #[.agg #[v, .int .i64 W], vs] w fun e w' => FitRet w.heap.size marks W seen e w' ∧ Below w.heap.size w w' := by
  by_cases hall : LenOk marks seen ∧ AllowOk marks W ∧ SeenAsc seen
  · obtain ⟨h1, h2, h3⟩ := hall
    refine (match_ok v vs marks W seen w hm hs (h2.pat h1.1) (h3.cam h1.2)).mono ?_
    rintro e w' ⟨u, rfl, h4, h5⟩
    exact ⟨⟨_, _, _, _, u, rfl, Or.inr (Or.inr (Or.inr ⟨h1, h2, h3, rfl, rfl, rfl, rfl⟩)), h4⟩, h5⟩
  have HM := Lib.hid hm
  have HS := Lib.hid hs
  have Hall := Lib.hid hall
  obtain ⟨A, c, rfl, -, -⟩ := hm.open_
  obtain ⟨A2, c2, rfl, -, -⟩ := hs.open_
  obtain ⟨n, hn⟩ : ∃ n, marks.length = n := ⟨_, rfl⟩
  obtain ⟨n2, hn2⟩ : ∃ n, seen.length = n := ⟨_, rfl⟩
  have Hn := Lib.hid hn
  have Hn2 := Lib.hid hn2
  have hlen : LenOk marks seen ↔ (2 ≤ n ∧ n ≤ 12) ∧ n2 ≤ 40 := by unfold LenOk; rw [hn, hn2]
  have HLn := Lib.hid hlen
  rw [hn] at hlm ⊢
  rw [hn2] at hls ⊢
  have F : ∃ w1, (w.alloc (.cells #[.slice A n c, .int .i64 W] 87)).alloc (.cells #[.int .i64 0, .int .i64 0, .slice none 0 0] 52) = w1 ∧ Below w.heap.size w w1 ∧ Blk w1 w.heap.size 87 #[.slice A n c, .int .i64 W] ∧ Blk w1 (w.heap.size + 1) 52 #[.int .i64 0, .int .i64 0, .slice none 0 0] :=
    ⟨_, rfl, (below_alloc _ _).trans ((below_alloc _ _).mono (by simp)), (Blk.new _ _ _).alloc _, blk_new (by simp) _ _⟩
  obtain ⟨w1, e1, B1, V1, R1⟩ := F
  have E1 := Lib.hid e1
  have v0 := cellOf V1 0 (x := .slice A n c) rfl
  have v1 := cellOf V1 1 (x := .int .i64 W) rfl
  obtain ⟨b1, hb1⟩ : ∃ b, w.heap.size + 1 = b := ⟨_, rfl⟩
  rw [hb1] at R1
  have lb : w.heap.size < b1 := by omega
  clear hm hs hall hn hn2 e1 hlen
  go_enter Try.func50, Try.ntmps50
  go_upto_region 1 with fail
  rw [E1.out]
  clear hb1
  by_cases h12 : 2 ≤ n ∧ n ≤ 12
  · have C1 := Lib.hid (hasMarks_yes A n c W h12 w1)
    have H12 := Lib.hid h12
    clear h12
    go_wp2_with fail
    refine C1.out.mono ?_
    rintro e w2 ⟨rfl, hb2⟩
    have V2 := V1.below hb2 V1.lt
    have R2 := R1.below hb2 R1.lt
    have B2 := B1.trans (hb2.mono B1.size)
    clear C1 v0 v1 V1 R1 B1 hb2 E1
    by_cases h40 : 40 < n2
    · have HF : Hid (FitIs marks W seen 0 0 [] 2) := Or.inl ⟨fun h => by have := (HLn.out.1 h).2; omega, rfl, rfl, rfl, rfl⟩
      obtain ⟨w5, e5, R5, B5⟩ := fit_zero R2 rfl B2 (by omega)
      have h4i : (40 : Int) < (n2 : Int) := by omega
      have E5 := Lib.hid e5
      have HR5 := Lib.hid R5
      have HB5 := Lib.hid B5
      have r0 := cellOf R2 0 (x := .int .i64 0) rfl
      have r1 := cellOf R2 1 (x := .int .i64 0) rfl
      have r2 := cellOf R2 2 (x := .slice none 0 0) rfl
      have g0 := R2.frozen 0
      have g1 := R2.frozen 1
      have g2 := R2.frozen 2
      clear e5 R5 B5 R2 B2 V2
      go_wp2
      rw [E5.out]
      have x0 := cellOf HR5.out 0 (x := .int .i64 0) rfl
      have x1 := cellOf HR5.out 1 (x := .int .i64 0) rfl
      have x2 := cellOf HR5.out 2 (x := .slice none 0 0) rfl
      refine bodyPost_ret (v := .tuple #[.agg #[.int .i64 0, .int .i64 0, .slice none 0 0], .int .i64 2]) (by simp [results, Try.results50, go_sem, x0, x1, x2]) rfl ⟨FitRet.zero HF.out, HB5.out⟩
    · have h4i : ¬ (40 : Int) < (n2 : Int) := by omega
      have HLen : Hid (LenOk marks seen) := HLn.out.2 ⟨H12.out, by omega⟩
      have v0 := cellOf V2 0 (x := .slice A n c) rfl
      have v1 := cellOf V2 1 (x := .int .i64 W) rfl
      have C2 := isAllowed_any _ marks W w2 ((HM.out.below B2).more B2.size) (by rw [Hn.out]; exact hlm)
      rw [Hn.out] at C2
      have C2 := Lib.hid C2
      go_wp2_with fail
      refine C2.out.mono ?_
      rintro e w3 ⟨⟨b, rfl, hb⟩, hb3⟩
      have V3 := V2.below hb3 V2.lt
      have R3 := R2.below hb3 R2.lt
      have B3 := B2.trans (hb3.mono B2.size)
      have Hb := Lib.hid hb
      clear C2 v0 v1 V2 R2 B2 hb3 h4i hb
      cases b with
      | false =>
        have HF : Hid (FitIs marks W seen 0 0 [] 6) := Or.inr (Or.inl ⟨HLen.out, fun h => (by cases Hb.out.2 h), rfl, rfl, rfl, rfl⟩)
        obtain ⟨w5, e5, R5, B5⟩ := fit_zero R3 rfl B3 (by omega)
        have E5 := Lib.hid e5
        have HR5 := Lib.hid R5
        have HB5 := Lib.hid B5
        have r0 := cellOf R3 0 (x := .int .i64 0) rfl
        have r1 := cellOf R3 1 (x := .int .i64 0) rfl
        have r2 := cellOf R3 2 (x := .slice none 0 0) rfl
        have g0 := R3.frozen 0
        have g1 := R3.frozen 1
        have g2 := R3.frozen 2
        clear e5 R5 B5 R3 B3 V3
        go_wp2
        rw [E5.out]
        have x0 := cellOf HR5.out 0 (x := .int .i64 0) rfl
        have x1 := cellOf HR5.out 1 (x := .int .i64 0) rfl
        have x2 := cellOf HR5.out 2 (x := .slice none 0 0) rfl
        refine bodyPost_ret (v := .tuple #[.agg #[.int .i64 0, .int .i64 0, .slice none 0 0], .int .i64 6]) (by simp [results, Try.results50, go_sem, x0, x1, x2]) rfl ⟨FitRet.zero HF.out, HB5.out⟩
      | true =>
        have HAl : Hid (AllowOk marks W) := Hb.out.1 rfl
        have HNs : Hid (¬ SeenAsc seen) := fun h => Hall.out ⟨HLen.out, HAl.out, h⟩
        have C3 := canBeSeen_any _ seen w3 ((HS.out.below B3).more B3.size) (by rw [Hn2.out]; exact hls)
        rw [Hn2.out] at C3
        have C3 := Lib.hid C3
        go_wp2_with fail
        refine C3.out.mono ?_
        rintro e w' ⟨⟨b, rfl, hb⟩, rfl⟩
        obtain rfl : b = false := by
          cases b with
          | false => rfl
          | true => exact absurd (hb.1 rfl) HNs.out
        have HF : Hid (FitIs marks W seen 0 0 [] 11) := Or.inr (Or.inr (Or.inl ⟨HLen.out, HAl.out, HNs.out, rfl, rfl, rfl, rfl⟩))
        obtain ⟨w5, e5, R5, B5⟩ := fit_zero R3 rfl B3 (by omega)
        have E5 := Lib.hid e5
        have HR5 := Lib.hid R5
        have HB5 := Lib.hid B5
        have r0 := cellOf R3 0 (x := .int .i64 0) rfl
        have r1 := cellOf R3 1 (x := .int .i64 0) rfl
        have r2 := cellOf R3 2 (x := .slice none 0 0) rfl
        have g0 := R3.frozen 0
        have g1 := R3.frozen 1
        have g2 := R3.frozen 2
        clear e5 R5 B5 R3 B3 V3 hb C3
        go_wp2
        rw [E5.out]
        have x0 := cellOf HR5.out 0 (x := .int .i64 0) rfl
        have x1 := cellOf HR5.out 1 (x := .int .i64 0) rfl
        have x2 := cellOf HR5.out 2 (x := .slice none 0 0) rfl
        refine bodyPost_ret (v := .tuple #[.agg #[.int .i64 0, .int .i64 0, .slice none 0 0], .int .i64 11]) (by simp [results, Try.results50, go_sem, x0, x1, x2]) rfl ⟨FitRet.zero HF.out, HB5.out⟩
  · have C1 := Lib.hid (hasMarks_no A n c W h12 w1)
    have HF : Hid (FitIs marks W seen 0 0 [] 2) := Or.inl ⟨fun h => h12 (HLn.out.1 h).1, rfl, rfl, rfl, rfl⟩
    clear h12
    go_wp2_with fail
    refine C1.out.mono ?_
    rintro e w2 ⟨rfl, hb2⟩
    have R2 := R1.below hb2 R1.lt
    have B2 := B1.trans (hb2.mono B1.size)
    obtain ⟨w5, e5, R5, B5⟩ := fit_zero R2 rfl B2 (by omega)
    have E5 := Lib.hid e5
    have HR5 := Lib.hid R5
    have HB5 := Lib.hid B5
    have r0 := cellOf R2 0 (x := .int .i64 0) rfl
    have r1 := cellOf R2 1 (x := .int .i64 0) rfl
    have r2 := cellOf R2 2 (x := .slice none 0 0) rfl
    have g0 := R2.frozen 0
    have g1 := R2.frozen 1
    have g2 := R2.frozen 2
    clear e5 R5 B5 R2 B2 C1 v0 v1 V1 R1 B1 hb2 E1
    go_wp2
    rw [E5.out]
    have x0 := cellOf HR5.out 0 (x := .int .i64 0) rfl
    have x1 := cellOf HR5.out 1 (x := .int .i64 0) rfl
    have x2 := cellOf HR5.out 2 (x := .slice none 0 0) rfl
    refine bodyPost_ret (v := .tuple #[.agg #[.int .i64 0, .int .i64 0, .slice none 0 0], .int .i64 2]) (by simp [results, Try.results50, go_sem, x0, x1, x2]) rfl ⟨FitRet.zero HF.out, HB5.out⟩

set_option maxRecDepth 100000 in
set_option maxHeartbeats 2000000 in
theorem Match_any (v vs : Value) (marks : List Int) (W : Int) (seen : List Int) (w : World) (hm : RInts w.heap.size w v marks) (hs : RInts w.heap.size w vs seen) (hlm : marks.length ≤ 1000000) (hls : seen.length ≤ 1000000) :
    Calls Try.prog 27 #[v, .int .i64 W, vs] w fun e w' => FitRet w.heap.size marks W seen e w' ∧ Below w.heap.size w w' := by
  obtain ⟨w1, e1, B1, R1⟩ : ∃ w1, w.alloc (.cells #[.int .i64 0, .int .i64 0, .slice none 0 0] 52) = w1 ∧ Below w.heap.size w w1 ∧ Blk w1 w.heap.size 52 #[.int .i64 0, .int .i64 0, .slice none 0 0] := ⟨_, rfl, below_alloc _ _, Blk.new _ _ _⟩
  have E1 := Lib.hid e1
  have C1 := Lib.hid (match_any v vs marks W seen w1 ((hm.below B1).more B1.size) ((hs.below B1).more B1.size) hlm hls)
  obtain ⟨A, c, rfl, -, -⟩ := hm.open_
  obtain ⟨A2, c2, rfl, -, -⟩ := hs.open_
  clear hm hs hlm hls e1
  go_enter Try.func27, Try.ntmps27
  go_upto_region 1 with fail
  rw [E1.out]
  go_wp2_with fail
  refine C1.out.mono ?_
  rintro e w4 ⟨⟨sh, ct, l, err, u, rfl, hf, hu⟩, hb4⟩
  have R4 := R1.below hb4 R1.lt
  have B4 := B1.trans (hb4.mono B1.size)
  have hu4 : OInts w.heap.size w4 u l := ownsRow_base hu B1.size
  have HF := Lib.hid hf
  obtain ⟨Au, cu, rfl⟩ := ownsRow_form hu4
  clear C1 R1 B1 hb4 hu hf
  obtain ⟨b1, hb1⟩ : ∃ b, w.heap.size = b := ⟨_, rfl⟩
  rw [hb1] at R4
  have hF : ∃ w5, (((w4.setCell ⟨b1, 0, none⟩ (.int .i64 sh)).setCell ⟨b1, 1, none⟩ (.int .i64 ct)).setCell ⟨b1, 2, none⟩ (.slice Au l.length cu)) = w5 ∧ Blk w5 b1 52 #[.int .i64 sh, .int .i64 ct, .slice Au l.length cu] ∧ OInts w.heap.size w5 (.slice Au l.length cu) l ∧ Below w.heap.size w w5 := by
    refine ⟨_, rfl, ((R4.put 0 _).put 1 _).put 2 _, ?_, below_set3 B4 (by omega) _ _ _⟩
    refine ownsRow_keptBut hu4 (S := fun j => j = b1) ?_ fun g' cs hg' hB => ?_
    · exact ((KeptBut.setCell (S := fun j => j = b1) (p := ⟨b1, 0, none⟩) rfl _).trans (KeptBut.setCell (S := fun j => j = b1) (p := ⟨b1, 1, none⟩) rfl _) fun _ _ h => h).trans (KeptBut.setCell (S := fun j => j = b1) (p := ⟨b1, 2, none⟩) rfl _) fun _ _ h => h
    · rintro rfl
      exact Blk.ne hB R4 (by decide) rfl
  obtain ⟨w5, e5, R5, O5, B5⟩ := hF
  have E5 := Lib.hid e5
  have HR5 := Lib.hid R5
  have HO5 := Lib.hid O5
  have HB5 := Lib.hid B5
  have r0 := cellOf R4 0 (x := .int .i64 0) rfl
  have r1 := cellOf R4 1 (x := .int .i64 0) rfl
  have r2 := cellOf R4 2 (x := .slice none 0 0) rfl
  have g0 := R4.frozen 0
  have g1 := R4.frozen 1
  have g2 := R4.frozen 2
  clear e5 R5 O5 B5 R4 B4 hu4
  go_wp2
  rw [E5.out]
  have x0 := cellOf HR5.out 0 (x := .int .i64 sh) rfl
  have x1 := cellOf HR5.out 1 (x := .int .i64 ct) rfl
  have x2 := cellOf HR5.out 2 (x := .slice Au l.length cu) rfl
  refine bodyPost_ret (v := .tuple #[.agg #[.int .i64 sh, .int .i64 ct, .slice Au l.length cu], .int .i64 err]) (by simp [results, Try.results27, go_sem, x0, x1, x2]) rfl ⟨⟨sh, ct, l, err, _, rfl, HF.out, HO5.out⟩, HB5.out⟩
end Go.Proofs.Ytffodgpafiifcaa
