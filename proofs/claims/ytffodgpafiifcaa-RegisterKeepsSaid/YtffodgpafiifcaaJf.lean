/-
  Play of any input.
-/
import Derived.Test.YtffodgpafiifcaaJe
namespace Go.Proofs.Ytffodgpafiifcaa
open Go.RowKit

def LensOk (noise blur : List Int) : Prop := noise.length = blur.length ∧ noise.length ≤ 5000
def InsOk (l : LoopD) (e : Int) (noise blur : List Int) : Prop := (e ≤ 1000000 ∧ -1000000 ≤ e) ∧ AllIn l.noise noise ∧ AllIn l.blur blur
def playD (l : LoopD) (e : Int) (noise blur : List Int) : PlayD := ⟨l, e, noise, blur, l.dead.toNat⟩
def PlayIs (l : LoopD) (e : Int) (noise blur : List Int) (out : List (Int × Int)) (err : Int) : Prop :=
  (¬ LoopOk l ∧ out = [] ∧ err = 60) ∨ (LoopOk l ∧ ¬ LensOk noise blur ∧ out = [] ∧ err = 1) ∨
  (LoopOk l ∧ LensOk noise blur ∧ ¬ InsOk l e noise blur ∧ out = [] ∧ err = 6) ∨
  (LoopOk l ∧ LensOk noise blur ∧ InsOk l e noise blur ∧ out = (playD l e noise blur).moms noise.length ∧ err = 0)
theorem PlayIs.one {l : LoopD} {e : Int} {noise blur : List Int} {o o' : List (Int × Int)} {x x' : Int} (h : PlayIs l e noise blur o x) (h' : PlayIs l e noise blur o' x') : o = o' ∧ x = x' := by
  unfold PlayIs at h h'
  generalize (playD l e noise blur).moms noise.length = bd at h h'
  rcases h with ⟨h1, rfl, rfl⟩ | ⟨h1, h2, rfl, rfl⟩ | ⟨h1, h2, h3, rfl, rfl⟩ | ⟨h1, h2, h3, rfl, rfl⟩ <;>
  rcases h' with ⟨g1, rfl, rfl⟩ | ⟨g1, g2, rfl, rfl⟩ | ⟨g1, g2, g3, rfl, rfl⟩ | ⟨g1, g2, g3, rfl, rfl⟩ <;>
  first | exact absurd g1 h1 | exact absurd h1 g1 | exact absurd g2 h2 | exact absurd h2 g2 | exact absurd g3 h3 | exact absurd h3 g3 | exact ⟨rfl, rfl⟩
theorem playD_ok {l : LoopD} {e : Int} {noise blur : List Int} (h1 : LoopOk l) (h2 : LensOk noise blur) (h3 : InsOk l e noise blur) : PlayOk (playD l e noise blur) :=
  ⟨h1, by show l.dead = (l.dead.toNat : Int); have := h1.1; omega, h3.1, h2.1.symm, h2.2, h3.2.1, h3.2.2⟩
def PlayRet (base : Nat) (l : LoopD) (e : Int) (noise blur : List Int) (en : Ending) (w' : World) : Prop := ∃ (u : Value) (o : List (Int × Int)) (err : Int), en = .returned (.tuple #[u, .int .i64 err]) ∧ PlayIs l e noise blur o err ∧ RMoms w'.heap.size w' u o
theorem RMoms.nil (w : World) : RMoms w.heap.size w (.slice none 0 0) [] := Rd.nil
theorem PlayRet.no {base : Nat} {l : LoopD} {e : Int} {noise blur : List Int} {w' : World} {err : Int} (h : PlayIs l e noise blur [] err) : PlayRet base l e noise blur (.returned (.tuple #[.slice none 0 0, .int .i64 err])) w' := ⟨_, [], err, rfl, h, RMoms.nil _⟩

set_option maxRecDepth 100000 in
set_option maxHeartbeats 4000000 in
theorem Play_any (l : LoopD) (e : Int) (he : -9223372036854775808 ≤ e ∧ e ≤ 9223372036854775807) (noise blur : List Int) (vn vb : Value) (w : World) (hn : RInts w.heap.size w vn noise) (hb : RInts w.heap.size w vb blur) (hIn : InI noise) (hIb : InI blur) :
    Calls Try.prog 19 #[l.val, .int .i64 e, vn, vb] w fun en w' => PlayRet w.heap.size l e noise blur en w' ∧ Below w.heap.size w w' := by
  by_cases hall : LoopOk l ∧ LensOk noise blur ∧ InsOk l e noise blur
  · obtain ⟨h1, h2, h3⟩ := hall
    refine (Play_ok (playD l e noise blur) (playD_ok h1 h2 h3) vn vb w hn hb).mono ?_
    rintro en w' ⟨u, rfl, h5, h6⟩
    exact ⟨⟨u, _, 0, rfl, Or.inr (Or.inr (Or.inr ⟨h1, h2, h3, rfl, rfl⟩)), OMoms.reads h5⟩, h6⟩
  have HN := Lib.hid hn
  have HB := Lib.hid hb
  have HIn := Lib.hid hIn
  have HIb := Lib.hid hIb
  have Hall := Lib.hid hall
  obtain ⟨A, c, rfl, hml, -⟩ := hn.open_
  obtain ⟨A2, c2, rfl, hml2, -⟩ := hb.open_
  obtain ⟨n, hnl⟩ : ∃ n, noise.length = n := ⟨_, rfl⟩
  obtain ⟨n2, hbl⟩ : ∃ n, blur.length = n := ⟨_, rfl⟩
  have Hnl := Lib.hid hnl
  have Hbl := Lib.hid hbl
  rw [hnl] at hml HN ⊢
  rw [hbl] at hml2 HB ⊢
  obtain ⟨w1, e1, B1⟩ : ∃ w1, w.alloc (.cells l.cells 26) = w1 ∧ Below w.heap.size w w1 := ⟨_, rfl, below_alloc _ _⟩
  have V1 : Blk w1 w.heap.size 26 l.cells := e1 ▸ Blk.new _ _ _
  unfold LoopD.cells at e1 V1
  have E1 := Lib.hid e1
  have HB1 := Lib.hid B1
  have HV1 := Lib.hid V1
  have C1 := Check_any l w1
  have v0 := cellOf V1 0 (x := .int .i64 l.dead) rfl
  have v1 := cellOf V1 1 (x := .int .i64 l.noise) rfl
  have v2 := cellOf V1 2 (x := .int .i64 l.blur) rfl
  have v3 := cellOf V1 3 (x := .int .i64 l.step) rfl
  clear e1 V1 B1 hn hb hIn hIb hall hnl hbl
  by_cases hok : LoopOk l
  · rw [checkE_ok hok] at C1
    unfold LoopD.val at C1 ⊢
    have C1 := Lib.hid C1
    have Hok := Lib.hid hok
    have hn1 := hok.2.2.1
    have hn2 := hok.2.2.2.1
    have hb1 := hok.2.2.2.2.1
    have hb2 := hok.2.2.2.2.2.1
    clear hok
    go_enter Try.func19, Try.ntmps19
    go_upto_region 1 with fail
    rw [E1.out]
    go_wp2_with fail
    refine C1.out.mono ?_
    rintro en w2 ⟨rfl, hb2'⟩
    have HV2 := Lib.hid (HV1.out.below hb2' HV1.out.lt)
    have HB2 := Lib.hid (HB1.out.trans (hb2'.mono HB1.out.size))
    clear v0 v1 v2 v3 C1 hb2'
    by_cases hln : n = n2
    · subst hln
      by_cases h5 : n ≤ 5000
      · have h5i : ¬ (5000 : Int) < (n : Int) := by omega
        have HLe : Hid (LensOk noise blur) := ⟨by rw [Hnl.out, Hbl.out], by rw [Hnl.out]; exact h5⟩
        obtain ⟨w3, e3, hb3, V3⟩ : ∃ w3, w2.alloc (.cells #[.int .i64 e] 3) = w3 ∧ Below w2.heap.size w2 w3 ∧ Blk w3 w2.heap.size 3 #[.int .i64 e] := ⟨_, rfl, below_alloc _ _, Blk.new _ _ _⟩
        have E3 := Lib.hid e3
        have HB3 := Lib.hid (HB2.out.trans (hb3.mono HB2.out.size))
        have HV3 := Lib.hid (HV2.out.below hb3 HV2.out.lt)
        have HF : Hid (PlayIs l e noise blur [] 6) := Or.inr (Or.inr (Or.inl ⟨Hok.out, HLe.out, fun h => Hall.out ⟨Hok.out, HLe.out, h⟩, rfl, rfl⟩))
        have v1 := cellOf HV3.out 1 (x := .int .i64 l.noise) rfl
        have v2 := cellOf HV3.out 2 (x := .int .i64 l.blur) rfl
        have CA := areWithin_any 1000000 _ [e] w3 ⟨by omega, by omega⟩ (rints_one V3) (fun x hx => by rw [List.mem_singleton] at hx; rw [hx]; exact he)
        have CN := areWithin_any l.noise _ noise w3 ⟨by omega, by omega⟩ ((RInts.below HN.out HB3.out).more HB3.out.size) HIn.out
        have CB := areWithin_any l.blur _ blur w3 ⟨by omega, by omega⟩ ((RInts.below HB.out HB3.out).more HB3.out.size) HIb.out
        by_cases hin : e ≤ 1000000 ∧ -1000000 ≤ e
        · rw [decide_eq_true (by rw [farD_one]; omega)] at CA
          have CA := Lib.hid CA
          by_cases hnn : AllIn l.noise noise
          · have hno : ¬ AllIn l.blur blur := fun h => Hall.out ⟨Hok.out, HLe.out, hin, hnn, h⟩
            rw [decide_eq_true ((farD_le (by omega)).2 hnn)] at CN
            rw [decide_eq_false (fun h => hno ((farD_le (by omega)).1 h))] at CB
            have CN := Lib.hid CN
            have CB := Lib.hid CB
            clear e3 V3 hb3 hno hin hnn
            go_upto_region 6 with fail
            go_wp2_with fail
            rw [E3.out]
            refine CA.out.mono ?_
            rintro en w' ⟨rfl, rfl⟩
            go_wp2_with fail
            refine CN.out.mono ?_
            rintro en w' ⟨rfl, rfl⟩
            go_wp2_with fail
            refine CB.out.mono ?_
            rintro en w' ⟨rfl, rfl⟩
            go_wp2
            refine bodyPost_ret (v := .tuple #[.slice none 0 0, .int .i64 6]) (by simp [results, Try.results19, go_sem]) rfl ⟨PlayRet.no HF.out, HB3.out⟩
          · rw [decide_eq_false (fun h => hnn ((farD_le (by omega)).1 h))] at CN
            have CN := Lib.hid CN
            clear e3 V3 hb3 hin hnn CB
            go_upto_region 6 with fail
            go_wp2_with fail
            rw [E3.out]
            refine CA.out.mono ?_
            rintro en w' ⟨rfl, rfl⟩
            go_wp2_with fail
            refine CN.out.mono ?_
            rintro en w' ⟨rfl, rfl⟩
            go_wp2
            refine bodyPost_ret (v := .tuple #[.slice none 0 0, .int .i64 6]) (by simp [results, Try.results19, go_sem]) rfl ⟨PlayRet.no HF.out, HB3.out⟩
        · rw [decide_eq_false (by rw [farD_one]; omega)] at CA
          have CA := Lib.hid CA
          clear e3 V3 hb3 hin CN CB
          go_upto_region 6 with fail
          go_wp2_with fail
          rw [E3.out]
          refine CA.out.mono ?_
          rintro en w' ⟨rfl, rfl⟩
          go_wp2
          refine bodyPost_ret (v := .tuple #[.slice none 0 0, .int .i64 6]) (by simp [results, Try.results19, go_sem]) rfl ⟨PlayRet.no HF.out, HB3.out⟩
      · have h5i : (5000 : Int) < (n : Int) := by omega
        have HF : Hid (PlayIs l e noise blur [] 1) := Or.inr (Or.inl ⟨Hok.out, fun h => h5 (by have := h.2; rw [Hnl.out] at this; exact this), rfl, rfl⟩)
        clear h5
        go_wp2
        refine bodyPost_ret (v := .tuple #[.slice none 0 0, .int .i64 1]) (by simp [results, Try.results19, go_sem]) rfl ⟨PlayRet.no HF.out, HB2.out⟩
    · have hni : ((n : Int) != (n2 : Int)) = true := by simp; omega
      have HF : Hid (PlayIs l e noise blur [] 1) := Or.inr (Or.inl ⟨Hok.out, fun h => hln (by have := h.1; rw [Hnl.out, Hbl.out] at this; exact this), rfl, rfl⟩)
      go_wp2
      refine bodyPost_ret (v := .tuple #[.slice none 0 0, .int .i64 1]) (by simp [results, Try.results19, go_sem]) rfl ⟨PlayRet.no HF.out, HB2.out⟩
  · rw [checkE_no hok] at C1
    have HF : Hid (PlayIs l e noise blur [] 60) := Or.inl ⟨hok, rfl, rfl⟩
    unfold LoopD.val at C1 ⊢
    have C1 := Lib.hid C1
    clear hok
    go_enter Try.func19, Try.ntmps19
    go_upto_region 1 with fail
    rw [E1.out]
    go_wp2_with fail
    refine C1.out.mono ?_
    rintro en w2 ⟨rfl, hb2'⟩
    have HB2 := Lib.hid (HB1.out.trans (hb2'.mono HB1.out.size))
    clear v0 v1 v2 v3 C1 hb2'
    go_wp2
    refine bodyPost_ret (v := .tuple #[.slice none 0 0, .int .i64 60]) (by simp [results, Try.results19, go_sem]) rfl ⟨PlayRet.no HF.out, HB2.out⟩
end Go.Proofs.Ytffodgpafiifcaa
