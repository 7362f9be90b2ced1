/-
  Two rows of one's own; the reference's Worst; Worst of any loop.
-/
import Derived.Test.YtffodgpafiifcaaJb
namespace Go.Proofs.Ytffodgpafiifcaa
open Go.RowKit

def Two (wA : World) (u v : Value) (l m : List Int) (X : World) : Prop := Below wA.heap.size wA X ∧ OInts wA.heap.size X u l ∧ OInts wA.heap.size X v m ∧ ∀ g, u.ownBlock = some g → v.ownBlock ≠ some g
theorem Two.swap {wA : World} {u v : Value} {l m : List Int} {X : World} (h : Two wA u v l m X) : Two wA v u m l X := ⟨h.1, h.2.2.1, h.2.1, fun g hv hu => h.2.2.2 g hu hv⟩
theorem Two.nil (wA : World) : Two wA (.slice none 0 0) (.slice none 0 0) [] [] wA := ⟨Below.refl _ _, World.ownsRow_nil _ _ _ _, World.ownsRow_nil _ _ _ _, fun g h => by cases h⟩
theorem Two.left {wA : World} {u v : Value} {l m : List Int} {X w6 : World} (h : Two wA u v l m X) {y : Int} {k g cap : Nat} (hk : l.length = k)
    (ho : w6.ownsRow wA.heap.size 3 1 (.slice (some ⟨g, 0, none⟩) (k + 1) cap) (k + 1) (l.map (Value.int .i64) ++ [.int .i64 y])) (hg : (X.alloc (.cells #[.int .i64 y] 3)).grownBy w6 u.ownBlock)
    (hat : u.ownBlock = some g ∨ g = X.heap.size + 1) : Two wA (.slice (some ⟨g, 0, none⟩) (k + 1) cap) v (l ++ [y]) m w6 := by
  obtain ⟨h1, h2, h3, h4⟩ := h
  subst hk
  refine ⟨(h1.alloc h1.size _).grown hg (by have := h1.size; simp; omega) fun j hj => (h2.lt j hj).1, ?_, ?_, fun q hq hv => ?_⟩
  · unfold OInts
    rw [List.length_append, List.map_append]
    exact ho
  · have hK : KeptBut (fun j => some j = u.ownBlock) X w6 := (KeptBut.of_below (below_alloc X _)).trans (KeptBut.grown (S := fun j => some j = u.ownBlock) hg fun _ hj => hj) fun _ _ hi => hi
    exact ownsRow_keptBut h3 hK fun g' cs hg' hB hs => h4 g' hs.symm hg'
  · have hq' : g = q := by simpa [Value.ownBlock] using hq
    subst hq'
    rcases hat with hat | hat
    · exact h4 g hat hv
    · have := (h3.lt g hv).2
      omega

def WorstIs (l : LoopD) (l1 l2 : List Int) (err : Int) : Prop := (LoopOk l ∧ l1 = List.replicate (l.dead.toNat + 2) l.noise ∧ l2 = -l.blur :: List.replicate (l.dead.toNat + 1) 0 ∧ err = 0) ∨ (¬ LoopOk l ∧ l1 = [] ∧ l2 = [] ∧ err = 60)
theorem WorstIs.one {l : LoopD} {l1 l2 m1 m2 : List Int} {e e' : Int} (h : WorstIs l l1 l2 e) (h' : WorstIs l m1 m2 e') : l1 = m1 ∧ l2 = m2 ∧ e = e' := by
  unfold WorstIs at h h'
  rcases h with ⟨h1, rfl, rfl, rfl⟩ | ⟨h1, rfl, rfl, rfl⟩ <;> rcases h' with ⟨g1, rfl, rfl, rfl⟩ | ⟨g1, rfl, rfl, rfl⟩ <;>
  first | exact absurd g1 h1 | exact absurd h1 g1 | exact ⟨rfl, rfl, rfl⟩
def WorstRet (base : Nat) (l : LoopD) (e : Ending) (w' : World) : Prop := ∃ (u1 u2 : Value) (l1 l2 : List Int) (err : Int), e = .returned (.tuple #[u1, u2, .int .i64 err]) ∧ WorstIs l l1 l2 err ∧ OInts base w' u1 l1 ∧ OInts base w' u2 l2
theorem WorstRet.no {base : Nat} {l : LoopD} {w' : World} (h : ¬ LoopOk l) : WorstRet base l (.returned (.tuple #[.slice none 0 0, .slice none 0 0, .int .i64 60])) w' := ⟨_, _, [], [], 60, rfl, Or.inr ⟨h, rfl, rfl, rfl⟩, World.ownsRow_nil _ _ _ _, World.ownsRow_nil _ _ _ _⟩

set_option maxRecDepth 100000 in
set_option maxHeartbeats 2000000 in
theorem Worst_any (l : LoopD) (w : World) : Calls Try.prog 22 #[l.val] w fun e w' => WorstRet w.heap.size l e w' ∧ Below w.heap.size w w' := by
  by_cases hok : LoopOk l
  · refine (Worst_ok l hok l.dead.toNat (by have := hok.1; omega) w).mono ?_
    rintro e w' ⟨u1, u2, rfl, h1, h2, h3⟩
    exact ⟨⟨u1, u2, _, _, 0, rfl, Or.inl ⟨hok, rfl, rfl, rfl⟩, h1, h2⟩, h3⟩
  · obtain ⟨w1, e1, B1⟩ : ∃ w1, w.alloc (.cells l.cells 26) = w1 ∧ Below w.heap.size w w1 := ⟨_, rfl, below_alloc _ _⟩
    have V1 : Blk w1 w.heap.size 26 l.cells := e1 ▸ Blk.new _ _ _
    unfold LoopD.cells at e1 V1
    have E1 := Lib.hid e1
    have HB1 := Lib.hid B1
    have C1 := Check_any l w1
    rw [checkE_no hok] at C1
    unfold LoopD.val at C1 ⊢
    have C1 := Lib.hid C1
    have v0 := cellOf V1 0 (x := .int .i64 l.dead) rfl
    have v1 := cellOf V1 1 (x := .int .i64 l.noise) rfl
    have v2 := cellOf V1 2 (x := .int .i64 l.blur) rfl
    have v3 := cellOf V1 3 (x := .int .i64 l.step) rfl
    have Hok := Lib.hid hok
    clear e1 V1 B1 hok
    go_enter Try.func22, Try.ntmps22
    go_upto_region 1 with fail
    rw [E1.out]
    go_wp2_with fail
    refine C1.out.mono ?_
    rintro en w2 ⟨rfl, hb2'⟩
    have HB2 := Lib.hid (HB1.out.trans (hb2'.mono HB1.out.size))
    clear v0 v1 v2 v3 C1 hb2'
    go_wp2
    refine bodyPost_ret (v := .tuple #[.slice none 0 0, .slice none 0 0, .int .i64 60]) (by simp [results, Try.results22, go_sem]) rfl ⟨WorstRet.no Hok.out, HB2.out⟩

def blurTo (b : Int) (k : Nat) : List Int := (List.range k).map fun i => if i = 0 then -b else 0
theorem blurTo_next (b : Int) (k : Nat) : blurTo b (k + 1) = blurTo b k ++ [if k = 0 then -b else 0] := by unfold blurTo; rw [List.range_succ, List.map_append]; rfl
theorem blurTo_all (b : Int) (k : Nat) : blurTo b (k + 1) = -b :: List.replicate k 0 := by
  induction k with
  | zero => rfl
  | succ k ih => rw [blurTo_next, ih, if_neg (by omega), List.replicate_succ', List.cons_append]
theorem blurTo_len (b : Int) (k : Nat) : (blurTo b k).length = k := by simp [blurTo]

set_option maxRecDepth 100000 in
set_option maxHeartbeats 8000000 in
theorem refWorst_any (l : LoopD) (w : World) : Calls Try.prog 23 #[l.val] w fun e w' => WorstRet w.heap.size l e w' ∧ Below w.heap.size w w' := by
  obtain ⟨w1, e1, B1⟩ : ∃ w1, w.alloc (.cells l.cells 23) = w1 ∧ Below w.heap.size w w1 := ⟨_, rfl, below_alloc _ _⟩
  have V1 : Blk w1 w.heap.size 23 l.cells := e1 ▸ Blk.new _ _ _
  unfold LoopD.cells at e1 V1
  have E1 := Lib.hid e1
  have HB1 := Lib.hid B1
  have HV1 := Lib.hid V1
  have C1 := refCheck_any l w1
  have v0 := cellOf V1 0 (x := .int .i64 l.dead) rfl
  have v1 := cellOf V1 1 (x := .int .i64 l.noise) rfl
  have v2 := cellOf V1 2 (x := .int .i64 l.blur) rfl
  have v3 := cellOf V1 3 (x := .int .i64 l.step) rfl
  obtain ⟨bL, hbL⟩ : ∃ b, w.heap.size = b := ⟨_, rfl⟩
  rw [hbL] at v0 v1 v2 v3 HV1
  have hwL : w.heap.size ≤ bL := by omega
  by_cases hok : LoopOk l
  · rw [checkE_ok hok] at C1
    unfold LoopD.val at C1 ⊢
    have C1 := Lib.hid C1
    have Hok := Lib.hid hok
    obtain ⟨d, hd⟩ : ∃ d : Nat, l.dead = d := ⟨l.dead.toNat, by have := hok.1; omega⟩
    have HD := Lib.hid hd
    have hd20 : d ≤ 20 := by have := hok.2.1; omega
    have hn1 := hok.2.2.1
    have hn2 := hok.2.2.2.1
    have hb1 := hok.2.2.2.2.1
    have hb2 := hok.2.2.2.2.2.1
    rw [hd] at v0 HV1 E1 C1 ⊢
    obtain ⟨i0, hi, hz0, hz1, hz2⟩ := info_parts infoInt0
    clear e1 V1 B1 hok hd
    go_enter Try.func23, Try.ntmps23
    go_upto_region 1 with fail
    rw [E1.out]
    clear hbL
    go_wp2_with fail
    refine C1.out.mono ?_
    rintro en w2 ⟨rfl, hb2'⟩
    have HV2 := Lib.hid (HV1.out.below hb2' HV1.out.lt)
    have HB2 := Lib.hid (HB1.out.trans (hb2'.mono HB1.out.size))
    clear v0 v1 v2 v3 C1 hb2'
    have kw : IntKind.i64.wrap (-l.blur) = -l.blur := IntWalk.i64_in _ ⟨by omega, by omega⟩
    have kwd : IntKind.i64.wrap ((d : Int) + 2) = (d : Int) + 2 := IntWalk.i64_in _ ⟨by omega, by omega⟩
    go_wp2
    go_loopw [6, 7, 8] (fun u v i wr => ∃ k : Nat, k ≤ d + 2 ∧ i = .int .i64 k ∧ Two w2 u v (List.replicate k l.noise) (blurTo l.blur k) wr) (fun _ _ i _ => d + 2 - (intOf i).toNat)
    case atStart => exact ⟨0, Nat.zero_le _, rfl, Two.nil _⟩
    case round =>
      obtain ⟨k, hk, rfl, htw⟩ := hrel
      have HT := Lib.hid htw
      have hOu := htw.2.1
      have hOv := htw.2.2.1
      obtain ⟨Au, cu, rfl⟩ := ownsRow_form hOu
      obtain ⟨Av, cv, rfl⟩ := ownsRow_form hOv
      rw [List.length_replicate] at HT ⊢
      rw [blurTo_len] at HT ⊢
      have HVr := Lib.hid (HV2.out.below htw.1 HV2.out.lt)
      have HU : Hid (wr.ownsRow w2.heap.size 3 1 (.slice Au k cu) k ((List.replicate k l.noise).map (Value.int .i64))) := by have h1 := HT.out.2.1; unfold OInts at h1; rwa [List.length_replicate] at h1
      have hzr : w2.heap.size ≤ wr.heap.size := htw.1.size
      have v0 := cellOf HVr.out 0 (x := .int .i64 d) rfl
      have v1 := cellOf HVr.out 1 (x := .int .i64 l.noise) rfl
      clear htw hOu hOv
      by_cases hlt : k < d + 2
      · have ik : (k : Int) < (d : Int) + 2 := by omega
        go_upto_region 9 with (at_builtin; refine wpList_append_lies _ rfl _ _ 24 rfl w2.heap.size 3 i0 _ 1 8 sliceInts hi hz0 hz1 hz2 rfl (by decide) (.slice Au k cu) k _ rfl (HU.out.alloc _) ⟨wr.heap.size, 0, none⟩ 1 1 [.int .i64 l.noise] rfl rfl (cells_new _ _ _) (by simp [Value.oneCell']) (by omega) (by simp only [maxLen]; omega) (by omega) (by simp; omega) (wr.heap.size + 1) (by simp) ?_; intro g6 c6 w6 hown hgrow hat hlt6; have HT6 := Lib.hid (HT.out.left (List.length_replicate) hown hgrow hat); clear hown hgrow hat)
        have HV6 := Lib.hid (HV2.out.below HT6.out.1 HV2.out.lt)
        have HVv : Hid (w6.ownsRow w2.heap.size 3 1 (.slice Av k cv) k ((blurTo l.blur k).map (Value.int .i64))) := by have h1 := HT6.out.2.2.1; unfold OInts at h1; rwa [blurTo_len] at h1
        have hz6 : w2.heap.size ≤ w6.heap.size := HT6.out.1.size
        clear v0 v1
        have v2 := cellOf HV6.out 2 (x := .int .i64 l.blur) rfl
        rcases Nat.eq_zero_or_pos k with hk0 | hk0
        · subst hk0
          go_wp2_with (at_builtin; refine wpList_append_lies _ rfl _ _ 24 rfl w2.heap.size 3 i0 _ 1 8 sliceInts hi hz0 hz1 hz2 rfl (by decide) (.slice Av 0 cv) 0 _ rfl (HVv.out.alloc _) ⟨w6.heap.size, 0, none⟩ 1 1 [.int .i64 (-l.blur)] rfl rfl (cells_new _ _ _) (by simp [Value.oneCell']) (by omega) (by simp only [maxLen]; omega) (by omega) (by simp; omega) (w6.heap.size + 1) (by simp) ?_; intro g7 c7 w7 hown hgrow hat hlt7; have HT7 := Lib.hid ((HT6.out.swap).left (blurTo_len _ _) hown hgrow hat); clear hown hgrow hat)
          go_roundw
          case rel => exact ⟨1, by omega, by go_num, by have h1 := HT7.out.swap; exact h1⟩
          case measure => (simp [intOf]) <;> omega
        · have ik0 : ¬ (k : Int) = 0 := by omega
          have ik1 : ((k : Int) == 0) = false := by simpa using ik0
          have HN : Hid (blurTo l.blur k ++ [0] = blurTo l.blur (k + 1)) := by show _ = _; rw [blurTo_next, if_neg (by omega)]
          go_wp2_with (at_builtin; refine wpList_append_lies _ rfl _ _ 24 rfl w2.heap.size 3 i0 _ 1 8 sliceInts hi hz0 hz1 hz2 rfl (by decide) (.slice Av k cv) k _ rfl (HVv.out.alloc _) ⟨w6.heap.size, 0, none⟩ 1 1 [.int .i64 0] rfl rfl (cells_new _ _ _) (by simp [Value.oneCell']) (by omega) (by simp only [maxLen]; omega) (by omega) (by simp; omega) (w6.heap.size + 1) (by simp) ?_; intro g7 c7 w7 hown hgrow hat hlt7; have HT7 := Lib.hid ((HT6.out.swap).left (blurTo_len _ _) hown hgrow hat); clear hown hgrow hat)
          go_roundw
          case rel => exact ⟨k + 1, by omega, by go_num, by rw [← HN.out, List.replicate_succ']; exact HT7.out.swap⟩
          case measure => simp [intOf]; omega
      · have hk' : k = d + 2 := by omega
        subst hk'
        have HW : Hid (WorstIs l (List.replicate (d + 2) l.noise) (blurTo l.blur (d + 2)) 0) := Or.inl ⟨Hok.out, by rw [HD.out, Int.toNat_natCast], by rw [HD.out, Int.toNat_natCast]; exact blurTo_all _ _, rfl⟩
        have HO1 : Hid (OInts w.heap.size wr (.slice Au (d + 2) cu) (List.replicate (d + 2) l.noise)) := ownsRow_base HT.out.2.1 HB2.out.size
        have HO2 : Hid (OInts w.heap.size wr (.slice Av (d + 2) cv) (blurTo l.blur (d + 2))) := ownsRow_base HT.out.2.2.1 HB2.out.size
        have HBe := Lib.hid (HB2.out.trans (HT.out.1.mono HB2.out.size))
        go_wp2
        refine bodyPost_ret (v := .tuple #[.slice Au (d + 2) cu, .slice Av (d + 2) cv, .int .i64 0]) (by simp [results, Try.results23, go_sem]) rfl ⟨⟨_, _, _, _, 0, rfl, HW.out, HO1.out, HO2.out⟩, HBe.out⟩
  · rw [checkE_no hok] at C1
    unfold LoopD.val at C1 ⊢
    have C1 := Lib.hid C1
    have Hok := Lib.hid hok
    clear e1 V1 B1 hok
    go_enter Try.func23, Try.ntmps23
    go_upto_region 1 with fail
    rw [E1.out]
    clear hbL
    go_wp2_with fail
    refine C1.out.mono ?_
    rintro en w2 ⟨rfl, hb2'⟩
    have HB2 := Lib.hid (HB1.out.trans (hb2'.mono HB1.out.size))
    clear v0 v1 v2 v3 C1 hb2'
    go_wp2
    refine bodyPost_ret (v := .tuple #[.slice none 0 0, .slice none 0 0, .int .i64 60]) (by simp [results, Try.results23, go_sem]) rfl ⟨WorstRet.no Hok.out, HB2.out⟩
end Go.Proofs.Ytffodgpafiifcaa
