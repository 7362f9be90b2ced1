/-
  Beat of any input; the reference's Beat.
-/
import Derived.Test.YtffodgpafiifcaaJc
import Derived.Test.YtffodgpafiifcaaFb
namespace Go.Proofs.Ytffodgpafiifcaa
open Go.RowKit

def AllIn (m : Int) (l : List Int) : Prop := ∀ x ∈ l, x ≤ m ∧ -m ≤ x
def BeatIs (l : LoopD) (e : Int) (moves : List Int) (out : List Int) (err : Int) : Prop :=
  (¬ LoopOk l ∧ out = [] ∧ err = 60) ∨ (LoopOk l ∧ (moves.length : Int) ≠ l.dead + 1 ∧ out = [] ∧ err = 1) ∨
  (LoopOk l ∧ (moves.length : Int) = l.dead + 1 ∧ ¬ ((e ≤ 1000000 ∧ -1000000 ≤ e) ∧ AllIn 1000000 moves) ∧ out = [] ∧ err = 6) ∨
  (LoopOk l ∧ (moves.length : Int) = l.dead + 1 ∧ ((e ≤ 1000000 ∧ -1000000 ≤ e) ∧ AllIn 1000000 moves) ∧ out = List.replicate moves.length (beatD l (e + moves.sum)) ∧ err = 0)
theorem BeatIs.one {l : LoopD} {e : Int} {moves : List Int} {o o' : List Int} {x x' : Int} (h : BeatIs l e moves o x) (h' : BeatIs l e moves o' x') : o = o' ∧ x = x' := by
  unfold BeatIs at h h'
  generalize beatD l (e + moves.sum) = bd at h h'
  rcases h with ⟨h1, rfl, rfl⟩ | ⟨h1, h2, rfl, rfl⟩ | ⟨h1, h2, h3, rfl, rfl⟩ | ⟨h1, h2, h3, rfl, rfl⟩ <;>
  rcases h' with ⟨g1, rfl, rfl⟩ | ⟨g1, g2, rfl, rfl⟩ | ⟨g1, g2, g3, rfl, rfl⟩ | ⟨g1, g2, g3, rfl, rfl⟩ <;>
  first | exact absurd g1 h1 | exact absurd h1 g1 | exact absurd g2 h2 | exact absurd h2 g2 | exact absurd g3 h3 | exact absurd h3 g3 | exact ⟨rfl, rfl⟩
def BeatRet (base : Nat) (l : LoopD) (e : Int) (moves : List Int) (en : Ending) (w' : World) : Prop := ∃ (u : Value) (o : List Int) (err : Int), en = .returned (.tuple #[u, .int .i64 err]) ∧ BeatIs l e moves o err ∧ OInts base w' u o
theorem BeatRet.no {base : Nat} {l : LoopD} {e : Int} {moves : List Int} {w' : World} {err : Int} (h : BeatIs l e moves [] err) : BeatRet base l e moves (.returned (.tuple #[.slice none 0 0, .int .i64 err])) w' := ⟨_, [], err, rfl, h, World.ownsRow_nil _ _ _ _⟩

set_option maxRecDepth 100000 in
set_option maxHeartbeats 4000000 in
theorem Beat_any (l : LoopD) (e : Int) (he : -9223372036854775808 ≤ e ∧ e ≤ 9223372036854775807) (moves : List Int) (v : Value) (w : World) (hv : RInts w.heap.size w v moves) (hI : InI moves) :
    Calls Try.prog 25 #[l.val, .int .i64 e, v] w fun en w' => BeatRet w.heap.size l e moves en w' ∧ Below w.heap.size w w' := by
  by_cases hall : LoopOk l ∧ (moves.length : Int) = l.dead + 1 ∧ ((e ≤ 1000000 ∧ -1000000 ≤ e) ∧ AllIn 1000000 moves)
  · obtain ⟨h1, h2, h3, h4⟩ := hall
    have hd : l.dead = (l.dead.toNat : Int) := by have := h1.1; omega
    refine (Beat_ok l h1 l.dead.toNat hd e h3 moves (by omega) h4 v w hv).mono ?_
    rintro en w' ⟨u, rfl, h5, h6⟩
    refine ⟨⟨u, _, 0, rfl, Or.inr (Or.inr (Or.inr ⟨h1, h2, ⟨h3, h4⟩, rfl, rfl⟩)), ?_⟩, h6⟩
    rw [show moves.length = l.dead.toNat + 1 by omega]
    exact h5
  have HV := Lib.hid hv
  have HI := Lib.hid hI
  have Hall := Lib.hid hall
  obtain ⟨A, c, rfl, hml, -⟩ := hv.open_
  obtain ⟨n, hn⟩ : ∃ n, moves.length = n := ⟨_, rfl⟩
  have Hn := Lib.hid hn
  rw [hn] at hml HV ⊢
  obtain ⟨w1, e1, B1⟩ : ∃ w1, w.alloc (.cells l.cells 26) = w1 ∧ Below w.heap.size w w1 := ⟨_, rfl, below_alloc _ _⟩
  have V1 : Blk w1 w.heap.size 26 l.cells := e1 ▸ Blk.new _ _ _
  unfold LoopD.cells at e1 V1
  have E1 := Lib.hid e1
  have HB1 := Lib.hid B1
  have HV1 := Lib.hid V1
  have C1 := Check_any l w1
  have v0 := cellOf V1 0 (x := .int .i64 l.dead) rfl
  have v1 := cellOf V1 1 (x := .int .i64 l.noise) rfl
  have v2 := cellOf V1 2 (x := .int .i64 l.blur) rfl
  have v3 := cellOf V1 3 (x := .int .i64 l.step) rfl
  clear e1 V1 B1 hv hI hall hn
  by_cases hok : LoopOk l
  · rw [checkE_ok hok] at C1
    unfold LoopD.val at C1 ⊢
    have C1 := Lib.hid C1
    have Hok := Lib.hid hok
    have hd1 := hok.1
    have hd2 := hok.2.1
    clear hok
    go_enter Try.func25, Try.ntmps25
    go_upto_region 1 with fail
    rw [E1.out]
    go_wp2_with fail
    refine C1.out.mono ?_
    rintro en w2 ⟨rfl, hb2'⟩
    have HV2 := Lib.hid (HV1.out.below hb2' HV1.out.lt)
    have HB2 := Lib.hid (HB1.out.trans (hb2'.mono HB1.out.size))
    clear v0 v1 v2 v3 C1 hb2'
    have v0 := cellOf HV2.out 0 (x := .int .i64 l.dead) rfl
    have kw : IntKind.i64.wrap (l.dead + 1) = l.dead + 1 := IntWalk.i64_in _ ⟨by omega, by omega⟩
    by_cases hln : (n : Int) = l.dead + 1
    · have hln1 : ((n : Int) != l.dead + 1) = false := by simpa using hln
      have HLn := Lib.hid hln
      obtain ⟨w3, e3, hb3, V3⟩ : ∃ w3, w2.alloc (.cells #[.int .i64 e] 3) = w3 ∧ Below w2.heap.size w2 w3 ∧ Blk w3 w2.heap.size 3 #[.int .i64 e] := ⟨_, rfl, below_alloc _ _, Blk.new _ _ _⟩
      have E3 := Lib.hid e3
      have HB3 := Lib.hid (HB2.out.trans (hb3.mono HB2.out.size))
      have HF : Hid (BeatIs l e moves [] 6) := Or.inr (Or.inr (Or.inl ⟨Hok.out, by rw [Hn.out]; exact hln, fun h => Hall.out ⟨Hok.out, by rw [Hn.out]; exact hln, h⟩, rfl, rfl⟩))
      by_cases hin : e ≤ 1000000 ∧ -1000000 ≤ e
      · have CA := areWithin_any 1000000 _ [e] w3 ⟨by omega, by omega⟩ (rints_one V3) (fun x hx => by rw [List.mem_singleton] at hx; rw [hx]; exact he)
        rw [decide_eq_true (by rw [farD_one]; omega)] at CA
        have CA := Lib.hid CA
        have hno : ¬ AllIn 1000000 moves := fun h => Hall.out ⟨Hok.out, by rw [Hn.out]; exact hln, hin, h⟩
        have CN := areWithin_any 1000000 _ moves w3 ⟨by omega, by omega⟩ ((RInts.below HV.out HB3.out).more HB3.out.size) HI.out
        rw [decide_eq_false (fun h => hno ((farD_le (by omega)).1 h))] at CN
        have CN := Lib.hid CN
        clear e3 V3 hb3 hno hin hln
        go_upto_region 6 with fail
        go_wp2_with fail
        rw [E3.out]
        refine CA.out.mono ?_
        rintro en w' ⟨rfl, rfl⟩
        go_wp2_with fail
        refine CN.out.mono ?_
        rintro en w' ⟨rfl, rfl⟩
        go_wp2
        refine bodyPost_ret (v := .tuple #[.slice none 0 0, .int .i64 6]) (by simp [results, Try.results25, go_sem]) rfl ⟨BeatRet.no HF.out, HB3.out⟩
      · have CA := areWithin_any 1000000 _ [e] w3 ⟨by omega, by omega⟩ (rints_one V3) (fun x hx => by rw [List.mem_singleton] at hx; rw [hx]; exact he)
        rw [decide_eq_false (by rw [farD_one]; omega)] at CA
        have CA := Lib.hid CA
        clear e3 V3 hb3 hin hln
        go_upto_region 6 with fail
        go_wp2_with fail
        rw [E3.out]
        refine CA.out.mono ?_
        rintro en w' ⟨rfl, rfl⟩
        go_wp2
        refine bodyPost_ret (v := .tuple #[.slice none 0 0, .int .i64 6]) (by simp [results, Try.results25, go_sem]) rfl ⟨BeatRet.no HF.out, HB3.out⟩
    · have hln1 : ((n : Int) != l.dead + 1) = true := by simpa using hln
      have HF : Hid (BeatIs l e moves [] 1) := Or.inr (Or.inl ⟨Hok.out, by rw [Hn.out]; exact hln, rfl, rfl⟩)
      clear hln
      go_wp2
      refine bodyPost_ret (v := .tuple #[.slice none 0 0, .int .i64 1]) (by simp [results, Try.results25, go_sem]) rfl ⟨BeatRet.no HF.out, HB2.out⟩
  · rw [checkE_no hok] at C1
    have HF : Hid (BeatIs l e moves [] 60) := Or.inl ⟨hok, rfl, rfl⟩
    unfold LoopD.val at C1 ⊢
    have C1 := Lib.hid C1
    clear hok
    go_enter Try.func25, Try.ntmps25
    go_upto_region 1 with fail
    rw [E1.out]
    go_wp2_with fail
    refine C1.out.mono ?_
    rintro en w2 ⟨rfl, hb2'⟩
    have HB2 := Lib.hid (HB1.out.trans (hb2'.mono HB1.out.size))
    clear v0 v1 v2 v3 C1 hb2'
    go_wp2
    refine bodyPost_ret (v := .tuple #[.slice none 0 0, .int .i64 60]) (by simp [results, Try.results25, go_sem]) rfl ⟨BeatRet.no HF.out, HB2.out⟩
end Go.Proofs.Ytffodgpafiifcaa
