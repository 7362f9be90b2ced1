/-
  Clones: slices.Clone of ints, Copy.clone.
-/
import Derived.Test.YtffodgpafiifcaaOb
import Derived.Test.YtffodgpafiifcaaDe
namespace Go.Proofs.Ytffodgpafiifcaa
open Go.RowKit

set_option maxHeartbeats 2000000 in
set_option maxRecDepth 100000 in
theorem cloneInts_any (v : Value) (l : List Int) (w : World) (h : RInts w.heap.size w v l) (hn : l.length ≤ 1000000) :
    Calls Try.prog 53 #[v] w fun e w' => ∃ u, e = .returned u ∧ OInts w.heap.size w' u l ∧ Below w.heap.size w w' := by
  obtain ⟨i0, hi, hz0, hz1, hz2⟩ := info_parts infoInt0
  obtain ⟨A, c, rfl, hl, h0, hc⟩ := rd_slice h
  have q : ∀ (w : World) (a : Option Addr) (n c n' c' : Nat), (binOp .eql 24 (.slice a n c) (.slice none n' c')).run Try.prog w = .ok (.bool a.isNone) w := fun w a n c n' c' => Lib.run_eql_slice_nil w _ _ a n c n' c' sliceInts
  have u22 : ∀ w, Sem.run Try.prog (underlying 24) w = .ok (TypeDesc.slice 3) w := run_underlying sliceInts
  rcases A with - | a
  · have : l.length = 0 := by
      rcases Nat.eq_zero_or_pos l.length with h | h
      · exact h
      · exact absurd rfl (h0 h)
    have hx : l = [] := List.eq_nil_of_length_eq_zero this
    subst hx
    clear h h0 hc
    go_enter Try.func53, Try.ntmps53
    go_wp2
    go_ret
    exact ⟨_, rfl, World.ownsRow_nil _ _ _ _, Below.refl _ _⟩
  · have HC := Lib.hid (hc a rfl)
    obtain ⟨n, hnn⟩ : ∃ n, l.length = n := ⟨_, rfl⟩
    have HN := Lib.hid hnn
    rw [hnn] at hn ⊢
    have hl' : (l.map (Value.int .i64)).length = n * 1 := by simp [hnn]
    clear h h0 hc hl
    go_enter Try.func53, Try.ntmps53
    go_wp2_with (at_builtin; refine wpList_append_own _ rfl _ _ 24 rfl w.heap.size 3 i0 _ 1 8 sliceInts hi hz0 hz1 hz2 rfl (by decide) _ _ _ rfl (World.ownsRow_made w #[] 0 (Nat.le_refl _) (Nat.zero_le _) rfl) a n c (l.map (Value.int .i64)) rfl hl' ?qc2 (int_cells_one l) ?qc4 ?qc5 ?qc6 ?_)
    case qc2 =>
      intro j u hj
      exact Lib.cell?_alloc_some _ (HC.out j u hj)
    case qc4 => unfold maxLen; omega
    case qc5 => omega
    case qc6 => simp
    intro v' w1 hown hgrow hnil
    have HR : Hid (OInts w.heap.size w1 v' l) := Lib.hid (by
      unfold OInts
      rw [HN.out]
      simpa using hown)
    go_wp2
    go_ret
    exact ⟨v', rfl, HR.out, ((Below.refl _ w).alloc (Nat.le_refl _) _).grown hgrow (by simp) (by intro k hk; simp [Value.ownBlock] at hk; omega)⟩

def copyCells (b : Bool) (s : Int) (ve vm : Value) : Array Value := #[.bool b, .int .i64 s, ve, vm]

theorem copy_put2 {w : World} {b : Nat} {x0 x1 x2 x3 : Value} (h : Blk w b 72 #[x0, x1, x2, x3]) (u : Value) : Blk (w.setCell ⟨b, 2, none⟩ u) b 72 #[x0, x1, u, x3] := h.put 2 u
theorem copy_put3 {w : World} {b : Nat} {x0 x1 x2 x3 : Value} (h : Blk w b 72 #[x0, x1, x2, x3]) (u : Value) : Blk (w.setCell ⟨b, 3, none⟩ u) b 72 #[x0, x1, x2, u] := h.put 3 u
theorem oints_set {base b j : Nat} {w : World} {u v : Value} {l : List Int} {cs : Array Value} (h : OInts base w u l) (hB : Blk w b 72 cs) : OInts base (w.setCell ⟨b, j, none⟩ v) u l := ownsRow_grew h (Grew.set hB j v) (by decide)
theorem oints_set4 {base b : Nat} {w : World} {u : Value} {l : List Int} {cs : Array Value} (h : OInts base w u l) (hB : Blk w b 72 cs) (x0 x1 x2 x3 : Value) :
    OInts base ((((w.setCell ⟨b, 0, none⟩ x0).setCell ⟨b, 1, none⟩ x1).setCell ⟨b, 2, none⟩ x2).setCell ⟨b, 3, none⟩ x3) u l :=
  oints_set (oints_set (oints_set (oints_set h hB) (hB.put 0 x0)) ((hB.put 0 x0).put 1 x1)) (((hB.put 0 x0).put 1 x1).put 2 x2)
theorem below_far {B b j : Nat} {a w : World} {v : Value} (h : Below B a w) (hb : B ≤ b) : Below B a (w.setCell ⟨b, j, none⟩ v) := h.trans ⟨rfl, rfl, rfl, by simp [World.setCell], fun k hk => Below.heap_setCell _ _ _ _ (by show k ≠ b; omega)⟩

set_option maxRecDepth 100000 in
set_option maxHeartbeats 4000000 in
theorem clone_any (b : Bool) (s : Int) (ve vm : Value) (le lm : List Int) (w : World) (he : RInts w.heap.size w ve le) (hm : RInts w.heap.size w vm lm) (hel : le.length ≤ 1000000) (hml : lm.length ≤ 1000000) :
    Calls Try.prog 59 #[.agg #[.bool b, .int .i64 s, ve, vm]] w fun e w' => ∃ ue um, e = .returned (.agg #[.bool b, .int .i64 s, ue, um]) ∧ OInts w.heap.size w' ue le ∧ OInts w.heap.size w' um lm ∧ Below w.heap.size w w' := by
  obtain ⟨w2, e2, B2, K2, R2⟩ : ∃ w2, (w.alloc (.cells #[.bool b, .int .i64 s, ve, vm] 72)).alloc (.cells #[.bool false, .int .i64 0, .slice none 0 0, .slice none 0 0] 72) = w2 ∧ Below w.heap.size w w2 ∧ Blk w2 w.heap.size 72 #[.bool b, .int .i64 s, ve, vm] ∧ Blk w2 (w.heap.size + 1) 72 #[.bool false, .int .i64 0, .slice none 0 0, .slice none 0 0] :=
    ⟨_, rfl, (below_alloc _ _).trans ((below_alloc _ _).mono (by simp)), (Blk.new _ _ _).alloc _, blk_new (by simp) _ _⟩
  have E2 := Lib.hid e2
  have HB2 := Lib.hid B2
  have HK2 := Lib.hid K2
  have HR2 := Lib.hid R2
  have HE := Lib.hid he
  have HM := Lib.hid hm
  obtain ⟨Ae, ce, rfl, -⟩ := slice_len he
  obtain ⟨Am, cm, rfl, -⟩ := slice_len hm
  -- a clone in any world behind
  have HC : Hid (∀ (Y : World) (v : Value) (l : List Int) (x2 x3 : Value), RInts w.heap.size w v l → l.length ≤ 1000000 → Below w.heap.size w Y → Blk Y w.heap.size 72 #[.bool b, .int .i64 s, x2, x3] → Blk Y (w.heap.size + 1) 72 #[.bool false, .int .i64 0, .slice none 0 0, .slice none 0 0] →
      Calls Try.prog 53 #[v] Y fun e w' => ∃ A c, e = .returned (.slice A l.length c) ∧ OInts w.heap.size w' (.slice A l.length c) l ∧ Below w.heap.size w w' ∧ Below Y.heap.size Y w' ∧ Blk w' w.heap.size 72 #[.bool b, .int .i64 s, x2, x3] ∧ Blk w' (w.heap.size + 1) 72 #[.bool false, .int .i64 0, .slice none 0 0, .slice none 0 0]) := Lib.hid fun Y v l x2 x3 hv hl hY hK hR => by
    refine (cloneInts_any v l Y ((hv.below hY).more hY.size) hl).mono ?_
    rintro e w' ⟨u, rfl, h1, h2⟩
    obtain ⟨A, c, rfl⟩ := ownsRow_form h1
    exact ⟨A, c, rfl, ownsRow_base h1 hY.size, hY.trans (h2.mono hY.size), h2, hK.below h2 hK.lt, hR.below h2 hR.lt⟩
  have d2 := cellOf K2 2 (x := .slice Ae le.length ce) rfl
  have d3 := cellOf K2 3 (x := .slice Am lm.length cm) rfl
  have f2 := K2.frozen 2
  have f3 := K2.frozen 3
  clear he hm e2 B2 K2 R2
  go_enter Try.func59, Try.ntmps59
  go_upto_region 1 with fail
  rw [E2.out]
  go_region_law (first
    | (have hx := oE; go_simp; go_at_call 53; refine (HC.out _ _ lm _ _ HM.out hml (by first | exact B5 | exact B5.drew | exact below_far B5 (Nat.le_refl _) | exact (below_far B5 (Nat.le_refl _)).drew) (by first | exact K5 | exact copy_put2 K5 _) (by first | exact R5 | exact R5.far (by simp) _)).mono ?_; rintro _ w6 ⟨AM, cM, rfl, oM6, B6, b6, K6, R6⟩; have oE6 : OInts w.heap.size w6 (.slice AE le.length cE) le := (by first | exact ownsRow_below oE b6 | exact ownsRow_below (oints_set oE K5) b6); have d2 := cellOf K6 2 (x := _) rfl; have d3 := cellOf K6 3 (x := _) rfl; have f2 := K6.frozen 2; have f3 := K6.frozen 3; go_wp2_with fail)
    | (have hx := oM; go_simp; go_at_call 53; refine (HC.out _ _ le _ _ HE.out hel (by first | exact B5 | exact B5.drew | exact below_far B5 (Nat.le_refl _) | exact (below_far B5 (Nat.le_refl _)).drew) (by first | exact K5 | exact copy_put3 K5 _) (by first | exact R5 | exact R5.far (by simp) _)).mono ?_; rintro _ w6 ⟨AE, cE, rfl, oE6, B6, b6, K6, R6⟩; have oM6 : OInts w.heap.size w6 (.slice AM lm.length cM) lm := (by first | exact ownsRow_below oM b6 | exact ownsRow_below (oints_set oM K5) b6); have d2 := cellOf K6 2 (x := _) rfl; have d3 := cellOf K6 3 (x := _) rfl; have f2 := K6.frozen 2; have f3 := K6.frozen 3; go_wp2_with fail)
    | (go_simp; go_at_call 53; refine (HC.out _ _ le _ _ HE.out hel (by first | exact HB2.out | exact HB2.out.drew) (by exact HK2.out) (by exact HR2.out)).mono ?_; rintro _ w5 ⟨AE, cE, rfl, oE, B5, b5, K5, R5⟩; have d2 := cellOf K5 2 (x := _) rfl; have d3 := cellOf K5 3 (x := _) rfl; have f2 := K5.frozen 2; have f3 := K5.frozen 3; go_wp2_with fail)
    | (go_simp; go_at_call 53; refine (HC.out _ _ lm _ _ HM.out hml (by first | exact HB2.out | exact HB2.out.drew) (by exact HK2.out) (by exact HR2.out)).mono ?_; rintro _ w5 ⟨AM, cM, rfl, oM, B5, b5, K5, R5⟩; have d2 := cellOf K5 2 (x := _) rfl; have d3 := cellOf K5 3 (x := _) rfl; have f2 := K5.frozen 2; have f3 := K5.frozen 3; go_wp2_with fail))
  all_goals
    have K7 := copy_put2 K6 (.slice AE le.length cE)
    have KF := copy_put3 K7 (.slice AM lm.length cM)
    have RF : Blk ((w6.setCell ⟨w.heap.size, 2, none⟩ (.slice AE le.length cE)).setCell ⟨w.heap.size, 3, none⟩ (.slice AM lm.length cM)) (w.heap.size + 1) 72 #[.bool false, .int .i64 0, .slice none 0 0, .slice none 0 0] := (R6.far (by simp) _).far (by simp) _
    have OE : OInts w.heap.size ((w6.setCell ⟨w.heap.size, 2, none⟩ (.slice AE le.length cE)).setCell ⟨w.heap.size, 3, none⟩ (.slice AM lm.length cM)) (.slice AE le.length cE) le := oints_set (oints_set oE6 K6) K7
    have OM : OInts w.heap.size ((w6.setCell ⟨w.heap.size, 2, none⟩ (.slice AE le.length cE)).setCell ⟨w.heap.size, 3, none⟩ (.slice AM lm.length cM)) (.slice AM lm.length cM) lm := oints_set (oints_set oM6 K6) K7
    have BF : Below w.heap.size w ((w6.setCell ⟨w.heap.size, 2, none⟩ (.slice AE le.length cE)).setCell ⟨w.heap.size, 3, none⟩ (.slice AM lm.length cM)) := below_far (below_far B6 (Nat.le_refl _)) (Nat.le_refl _)
    have c0 := cellOf KF 0 (x := .bool b) rfl
    have c1 := cellOf KF 1 (x := .int .i64 s) rfl
    have c2 := cellOf KF 2 (x := (.slice AE le.length cE)) rfl
    have c3 := cellOf KF 3 (x := (.slice AM lm.length cM)) rfl
    have r0 := cellOf RF 0 (x := .bool false) rfl
    have r1 := cellOf RF 1 (x := .int .i64 0) rfl
    have r2 := cellOf RF 2 (x := .slice none 0 0) rfl
    have r3 := cellOf RF 3 (x := .slice none 0 0) rfl
    have g0 := RF.frozen 0
    have g1 := RF.frozen 1
    have g2 := RF.frozen 2
    have g3 := RF.frozen 3
    have HFin := Lib.hid (⟨OE, OM, BF, RF⟩ : _ ∧ _ ∧ _ ∧ _)
    obtain ⟨wF, hwF⟩ : ∃ X, X = (w6.setCell ⟨w.heap.size, 2, none⟩ (.slice AE le.length cE)).setCell ⟨w.heap.size, 3, none⟩ (.slice AM lm.length cM) := ⟨_, rfl⟩
    rw [← hwF] at c0 c1 c2 c3 r0 r1 r2 r3 g0 g1 g2 g3 HFin ⊢
    clear hwF KF RF OE OM BF d2 d3 f2 f3 oE6 oM6 B6 b6 K6 R6 K7
    go_wp2
    refine bodyPost_ret (v := .agg #[.bool b, .int .i64 s, (.slice AE le.length cE), (.slice AM lm.length cM)]) (by simp [results, Try.results59, go_sem, r0, r1, r2, r3]) rfl ⟨_, _, rfl, oints_set4 HFin.out.1 HFin.out.2.2.2 _ _ _ _, oints_set4 HFin.out.2.1 HFin.out.2.2.2 _ _ _ _, below_set4 HFin.out.2.2.1 (by omega) _ _ _ _⟩
end Go.Proofs.Ytffodgpafiifcaa
