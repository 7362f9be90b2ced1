/-
  Spans in memory; joined.
-/
import Derived.Laws.EntriesVeiled
import Derived.Test.YtpkepacbondopaaLh
import Derived.Test.YtpkepacbondopaaLk
namespace Go.Proofs.Ytpkepacbondopaa
open Go.RowKit

def Sp.cells (x : Sp) : List Value := [.int .i64 x.lo, .int .i64 x.hi]
def RSpans (B : Nat) (w : World) (v : Value) (l : List Sp) : Prop := Rd B w 2 v l.length (l.flatMap Sp.cells)
def OSpans (base : Nat) (w : World) (v : Value) (l : List Sp) : Prop := w.ownsRow base 45 2 v l.length (l.flatMap Sp.cells)
theorem OSpans.reads {base : Nat} {w : World} {v : Value} {l : List Sp} (h : OSpans base w v l) : RSpans w.heap.size w v l := Rd.own h (own_le h)
theorem RSpans.open_ {B : Nat} {w : World} {v : Value} {l : List Sp} (h : RSpans B w v l) : ∃ A c, v = .slice A l.length c ∧ l.length ≤ 9223372036854775807 ∧
    ∀ k x, l[k]? = some x → ∃ g o, A = some ⟨g, o, none⟩ ∧ g < B ∧ w.cell? ⟨g, o + k * 2, none⟩ = some (.int .i64 x.lo) ∧ w.cell? ⟨g, o + k * 2 + 1, none⟩ = some (.int .i64 x.hi) := by
  obtain ⟨A, c, rfl, -, hm, hr⟩ := h
  refine ⟨A, c, rfl, by simpa [maxLen] using hm, fun k x hx => ?_⟩
  have hk : k < l.length := (List.getElem?_eq_some_iff.1 hx).1
  obtain ⟨g, o, hA, hb, hc⟩ := hr (by omega)
  have hf := fun j hj => flat_at Sp.cells 2 (fun _ => rfl) _ k j _ hx hj
  exact ⟨g, o, hA, hb, hc _ _ (hf 0 (by omega)), hc _ _ (hf 1 (by omega))⟩
theorem infoSpan : (Try.prog.info? 45).map (fun i => (i.zero, i.size, i.bytes)) = some (some (.agg #[.int .i64 0, .int .i64 0]), 2, 16) := by kernel_rfl
/-- A cell of a row of one's own is written. -/
theorem ownsRow_put {w : World} {base size g n cap : Nat} {e : TypeId} {xs : List Value} (h : w.ownsRow base e size (.slice (some ⟨g, 0, none⟩) n cap) n xs) {j : Nat} (hj : j < n * size) (u : Value) :
    (w.setCell ⟨g, j, none⟩ u).ownsRow base e size (.slice (some ⟨g, 0, none⟩) n cap) n (xs.set j u) := by
  refine ⟨by rw [List.length_set]; exact h.1, ?_⟩
  rcases h.2 with ⟨h2, -⟩ | ⟨g', cap', cur, hv, hb, hg, h1, h2, h3, h4⟩
  · cases h2
  · cases hv
    have hp : (w.setCell ⟨g, j, none⟩ u).heap[g]? = some (.cells (cur.setIfInBounds j u) e (0, 0)) := Blk.put (W := w) (t := e) hg j u
    refine .inr ⟨g, cap, _, rfl, hb, hp, h1, h2, by simpa using h3, ?_⟩
    rw [← h4, Array.toList_setIfInBounds, List.take_set]
theorem flat_last {d : List Sp} {s t : Sp} : (((d ++ [s]).flatMap Sp.cells).set (d.length * 2) (.int .i64 t.lo)).set (d.length * 2 + 1) (.int .i64 t.hi) = (d ++ [t]).flatMap Sp.cells := by
  have hl := flat_get Sp.cells 2 (fun _ => rfl) d
  rw [List.flatMap_append, List.flatMap_append]
  rw [List.set_append_right _ _ (by omega), List.set_append_right _ _ (by omega), hl]
  simp [Sp.cells]
/-- The last span of a row is written. -/
theorem OSpans.last {base g cap : Nat} {w : World} {d : List Sp} {s t : Sp} {n : Nat} (h : w.ownsRow base 45 2 (.slice (some ⟨g, 0, none⟩) n cap) n ((d ++ [s]).flatMap Sp.cells)) (hn : n = d.length + 1) :
    ((w.setCell ⟨g, d.length * 2, none⟩ (.int .i64 t.lo)).setCell ⟨g, d.length * 2 + 1, none⟩ (.int .i64 t.hi)).ownsRow base 45 2 (.slice (some ⟨g, 0, none⟩) n cap) n ((d ++ [t]).flatMap Sp.cells) := by
  have h1 := ownsRow_put h (j := d.length * 2) (by omega) (.int .i64 t.lo)
  have h2 := ownsRow_put h1 (j := d.length * 2 + 1) (by omega) (.int .i64 t.hi)
  rwa [flat_last] at h2
theorem joinStep_nil (x : Sp) : joinStep [] x = [x] := rfl
theorem joinStep_join {d : List Sp} {s x : Sp} (h : x.lo ≤ s.hi + 1) : joinStep (d ++ [s]) x = d ++ [⟨s.lo, max s.hi x.hi⟩] := by
  unfold joinStep
  simp [h]
theorem joinStep_new {d : List Sp} {s x : Sp} (h : ¬ x.lo ≤ s.hi + 1) : joinStep (d ++ [s]) x = d ++ [s] ++ [x] := by
  unfold joinStep
  simp [h]
theorem joinL_next {l : List Sp} {k : Nat} {x : Sp} (h : l[k]? = some x) : joinL (l.take (k + 1)) = joinStep (joinL (l.take k)) x := by rw [take_snoc_get h, joinL_snoc]
theorem joinStep_len (l : List Sp) (x : Sp) : (joinStep l x).length ≤ l.length + 1 := by
  rcases List.eq_nil_or_concat l with rfl | ⟨d, s, rfl⟩
  · simp [joinStep_nil]
  · by_cases h : x.lo ≤ s.hi + 1
    · rw [List.concat_eq_append, joinStep_join h]; simp
    · rw [List.concat_eq_append, joinStep_new h]; simp
/-- What region 7 of joined leaves. -/
def MeetCut (wo : World) (s x : Sp) (s9 s10 : Value) (X : World) : Prop :=
  ∃ B : Nat, wo.heap.size ≤ B ∧ s9 = .pointer (some ⟨B, 0, none⟩) ∧ Below wo.heap.size wo X ∧ ((x.lo ≤ s.hi + 1 ∧ s10 = .bool true ∧ Blk X B 45 #[.int .i64 s.lo, .int .i64 (max s.hi x.hi)]) ∨ (¬ x.lo ≤ s.hi + 1 ∧ s10 = .bool false))
theorem MeetCut.yes {wo X : World} {s x : Sp} {B : Nat} (hB : wo.heap.size ≤ B) (hX : Below wo.heap.size wo X) (h : x.lo ≤ s.hi + 1) (hb : Blk X B 45 #[.int .i64 s.lo, .int .i64 (max s.hi x.hi)]) : MeetCut wo s x (.pointer (some ⟨B, 0, none⟩)) (.bool true) X := ⟨B, hB, rfl, hX, .inl ⟨h, rfl, hb⟩⟩
theorem MeetCut.no {wo X : World} {s x : Sp} {B : Nat} (hB : wo.heap.size ≤ B) (hX : Below wo.heap.size wo X) (h : ¬ x.lo ≤ s.hi + 1) : MeetCut wo s x (.pointer (some ⟨B, 0, none⟩)) (.bool false) X := ⟨B, hB, rfl, hX, .inr ⟨h, rfl⟩⟩
/-- A joined row so far, with the bounds of its spans. -/
def JoinSt (w : World) (l : List Sp) (k : Nat) (v : Value) (n : Nat) (X : World) : Prop :=
  X.ownsRow w.heap.size 45 2 v n ((joinL (l.take k)).flatMap Sp.cells) ∧ (joinL (l.take k)).length = n ∧ n ≤ k ∧ Below w.heap.size w X ∧ ∀ s ∈ joinL (l.take k), -1000000000000 ≤ s.hi ∧ s.hi ≤ 1000000000000

theorem sliceSpan : Try.prog.underlying 41 = some (.slice 45) := by kernel_rfl
theorem ownsRow_frozen {w : World} {base size g n m cap : Nat} {e : TypeId} {xs : List Value} (h : w.ownsRow base e size (.slice (some ⟨g, 0, none⟩) m cap) n xs) (j : Nat) : w.frozen? ⟨g, j, none⟩ = false := by
  rcases h.2 with ⟨h2, -⟩ | ⟨g', cap', cur, hv, hb, hg, -⟩
  · cases h2
  · cases hv
    exact Blk.frozen (t := e) (cs := cur) hg j
theorem JoinSt.append {w wo X Y : World} {l : List Sp} {k m : Nat} {x : Sp} {v v' : Value} {tmp : Obj} (h : JoinSt w l k v m wo) (hX : Below wo.heap.size wo X) (hJ : joinL (l.take (k + 1)) = joinL (l.take k) ++ [x]) (hx : -1000000000000 ≤ x.hi ∧ x.hi ≤ 1000000000000)
    (hg : (X.alloc tmp).grownBy Y v.ownBlock) (ho : Y.ownsRow w.heap.size 45 2 v' (m + 1) ((joinL (l.take k)).flatMap Sp.cells ++ [.int .i64 x.lo, .int .i64 x.hi])) : JoinSt w l (k + 1) v' (m + 1) Y := by
  obtain ⟨h1, h2, h3, h4, h5⟩ := h
  have hwX : Below w.heap.size w X := h4.trans (hX.mono h4.size)
  refine ⟨by rw [hJ, List.flatMap_append]; simpa [Sp.cells] using ho, by rw [hJ, List.length_append, h2]; rfl, by omega, ?_, fun s hs => ?_⟩
  · exact (hwX.alloc hwX.size tmp).grown hg (by have := hwX.size; simp; omega) (fun j hj => (h1.lt j hj).1)
  · rw [hJ] at hs
    rcases List.mem_append.1 hs with hs | hs
    · exact h5 s hs
    · rw [List.mem_singleton.1 hs]; exact hx

set_option maxRecDepth 100000 in
set_option maxHeartbeats 4000000 in
theorem joined_any (l : List Sp) (v : Value) (w : World) (h : RSpans w.heap.size w v l) (hl : l.length ≤ 1000) (hb : ∀ s ∈ l, -1000000000000 ≤ s.hi ∧ s.hi ≤ 1000000000000) :
    Calls Try.prog 118 #[v, .func (.func 119) #[] #[]] w fun e w' => ∃ u, e = .returned u ∧ OSpans w.heap.size w' u (joinL l) ∧ Below w.heap.size w w' := by
  obtain ⟨i0, hi, hz0, hz1, hz2⟩ := info_parts infoSpan
  obtain ⟨A, c, rfl, hlm, hc⟩ := h.open_
  obtain ⟨n, hn⟩ : ∃ n, l.length = n := ⟨_, rfl⟩
  rw [hn] at hlm hl ⊢
  have Hn := Lib.hid hn
  have HC := Lib.hid hc
  have HB := Lib.hid hb
  clear hn hc h hb
  have H0 : Hid (JoinSt w l 0 (.slice none 0 0) 0 w) := ⟨World.ownsRow_nil _ _ _ _, rfl, Nat.le_refl _, Below.refl _ _, fun s hs => by cases hs⟩
  go_enter Try.func118, Try.ntmps118
  go_wp2
  go_loopw [5, 13] (fun v i wr => ∃ k : Nat, k ≤ n ∧ i = .int .i64 k ∧ ∃ m, Hid (JoinSt w l k v m wr)) (fun _ i _ => n - (intOf i).toNat)
  case atStart => exact ⟨0, Nat.zero_le _, rfl, 0, H0⟩
  case round =>
    clear H0
    obtain ⟨k, hk, rfl, m, hst⟩ := hrel
    obtain ⟨wo, rfl⟩ : ∃ wo : World, wo = wr := ⟨_, rfl⟩
    by_cases hlt : k < n
    case neg =>
      have hfin : Hid (OSpans w.heap.size wo u5 (joinL l) ∧ Below w.heap.size w wo) := by
        obtain ⟨h1, h2, h3, h4, h5⟩ := hst.out
        rw [List.take_of_length_le (by rw [Hn.out]; omega)] at h1 h2
        exact ⟨by unfold OSpans; rw [h2]; exact h1, h4⟩
      clear hst
      go_wp2
      go_ret
      exact ⟨_, rfl, hfin.out⟩
    obtain ⟨x, hx⟩ : ∃ x, l[k]? = some x := ⟨_, List.getElem?_eq_getElem (by rw [Hn.out]; exact hlt)⟩
    obtain ⟨g, o, rfl, hg, c0, c1⟩ := HC.out k x hx
    have hBw := hst.out.2.2.2.1
    rw [← hBw.cell (p := ⟨g, o + k * 2, none⟩) hg] at c0
    rw [← hBw.cell (p := ⟨g, o + k * 2 + 1, none⟩) hg] at c1
    have hxb := HB.out x (List.mem_of_getElem? hx)
    have HJ := Lib.hid (joinL_next hx)
    obtain ⟨Av, cv, rfl⟩ := ownsRow_form hst.out.1
    have hmk : m ≤ k := hst.out.2.2.1
    have F1 : ∃ X1, wo.alloc (.cells #[.int .i64 x.lo, .int .i64 x.hi] 45) = X1 ∧ Below wo.heap.size wo X1 ∧ Blk X1 wo.heap.size 45 #[.int .i64 x.lo, .int .i64 x.hi] := ⟨_, rfl, below_alloc _ _, Blk.new _ _ _⟩
    obtain ⟨X1, e1, hb1, B1⟩ := F1
    have E1 := Lib.hid e1
    have HB1 := Lib.hid hb1
    have HK1 := Lib.hid B1
    have HBw := Lib.hid hBw
    have hO1 := ownsRow_below hst.out.1 hb1
    have HO1 := Lib.hid hO1
    clear hx e1 hb1 B1 hBw hO1
    go_upto_region 5 with fail
    rw [E1.out]
    clear c0 c1
    rcases Nat.eq_zero_or_pos m with hm0 | hm0
    · subst hm0
      have hJ0 : joinL (l.take k) = [] := List.eq_nil_of_length_eq_zero hst.out.2.1
      have b0 := cellOf HK1.out 0 (x := .int .i64 x.lo) rfl
      have b1 := cellOf HK1.out 1 (x := .int .i64 x.hi) rfl
      have HZn : Hid (w.heap.size ≤ X1.heap.size) := Nat.le_trans HBw.out.size HB1.out.size
      have HAp : Hid (∀ Y v' tmp, (X1.alloc tmp).grownBy Y (Value.slice Av 0 cv).ownBlock → Y.ownsRow w.heap.size 45 2 v' (0 + 1) ((joinL (l.take k)).flatMap Sp.cells ++ [.int .i64 x.lo, .int .i64 x.hi]) → JoinSt w l (k + 1) v' (0 + 1) Y) := fun Y v' tmp hg ho =>
        hst.out.append HB1.out (by rw [HJ.out, hJ0]; rfl) hxb hg ho
      have HOn := HO1
      clear hJ0 hxb HO1
      go_wp2_with (at_builtin; refine wpList_append_own _ rfl _ _ 41 rfl w.heap.size 45 i0 _ 2 16 sliceSpan hi hz0 hz1 hz2 rfl (by decide) (.slice Av 0 cv) 0 ((joinL (l.take k)).flatMap Sp.cells) rfl (HOn.out.alloc _) ⟨X1.heap.size, 0, none⟩ 1 1 [.int .i64 x.lo, .int .i64 x.hi] rfl rfl (cells_new _ _ _) (by simp [Value.oneCell']) (by simp only [maxLen]; omega) (by omega) (by have := HZn.out; simp; omega) ?_; intro v2' w10 hown' hgrow _)
      have HSt := Lib.hid (HAp.out _ _ _ hgrow hown')
      clear hown' hgrow HAp b0 b1 HOn hst
      go_roundw
      case rel => exact ⟨k + 1, by omega, by go_num, _, HSt⟩
      case measure => simp [intOf]; omega
    obtain ⟨q, rfl⟩ : ∃ q, m = q + 1 := ⟨m - 1, by omega⟩
    obtain ⟨d, s, hds, hdl⟩ : ∃ d s, joinL (l.take k) = d ++ [s] ∧ d.length = q := by
      have h2 := hst.out.2.1
      rcases List.eq_nil_or_concat (joinL (l.take k)) with h3 | ⟨d, s, h3⟩
      · rw [h3] at h2; cases h2
      · rw [List.concat_eq_append] at h3
        refine ⟨d, s, h3, ?_⟩
        rw [h3, List.length_append, List.length_singleton] at h2
        omega
    have hsb := hst.out.2.2.2.2 s (by rw [hds]; simp)
    rw [hds] at HO1
    obtain ⟨g9, rfl, hg9, hg9z⟩ := ownsRow_block HO1.out (by omega)
    have hrc := fun j u hj => HO1.out.cells (g := g9) rfl j u hj
    have hfl := fun j (hj : j < 2) => flat_at Sp.cells 2 (fun _ => rfl) (d ++ [s]) q j s (by rw [List.getElem?_append_right (by omega), hdl]; simp) hj
    have r0 : X1.cell? ⟨g9, q * 2, none⟩ = some (.int .i64 s.lo) := by
      have := hrc _ _ (hfl 0 (by omega))
      rwa [Addr.add_lit, Nat.zero_add] at this
    have r1 : X1.cell? ⟨g9, q * 2 + 1, none⟩ = some (.int .i64 s.hi) := by
      have := hrc _ _ (hfl 1 (by omega))
      rwa [Addr.add_lit, Nat.zero_add] at this
    have b0 := cellOf HK1.out 0 (x := .int .i64 x.lo) rfl
    have b1 := cellOf HK1.out 1 (x := .int .i64 x.hi) rfl
    have S1 : X1.cell? ⟨g9, q * 2, none⟩ = some (.int .i64 s.lo) ∧ X1.cell? ⟨g9, q * 2 + 1, none⟩ = some (.int .i64 s.hi) ∧ X1.cell? ⟨wo.heap.size, 0, none⟩ = some (.int .i64 x.lo) ∧ X1.cell? ⟨wo.heap.size, 1, none⟩ = some (.int .i64 x.hi) := ⟨r0, r1, b0, b1⟩
    have HS1 := Lib.hid S1
    have hwz : wo.heap.size < X1.heap.size := HK1.out.lt
    have HSb : Hid (∀ Y, Below X1.heap.size X1 Y → Y.cell? ⟨g9, q * 2, none⟩ = some (.int .i64 s.lo) ∧ Y.cell? ⟨g9, q * 2 + 1, none⟩ = some (.int .i64 s.hi) ∧ Y.cell? ⟨wo.heap.size, 0, none⟩ = some (.int .i64 x.lo) ∧ Y.cell? ⟨wo.heap.size, 1, none⟩ = some (.int .i64 x.hi)) := fun Y hY =>
      ⟨(hY.cell (p := ⟨g9, q * 2, none⟩) hg9z).trans r0, (hY.cell (p := ⟨g9, q * 2 + 1, none⟩) hg9z).trans r1, (hY.cell (p := ⟨wo.heap.size, 0, none⟩) hwz).trans b0, (hY.cell (p := ⟨wo.heap.size, 1, none⟩) hwz).trans b1⟩
    have HD := Lib.hid hds
    have HDl := Lib.hid hdl
    obtain ⟨hs1, hs2⟩ := hsb
    clear hds hdl hrc hfl r0 r1 b0 b1 S1
    have hq0 : (0 : Int) ≤ (q : Int) := by omega
    have hq1 : (q : Int) < (q : Int) + 1 := by omega
    go_upto_region 7 with fail
    go_cut [9, 10] from 22 to 31 (fun s9 s10 wx => MeetCut X1 s x s9 s10 wx)
    case first =>
      by_cases hj : x.lo ≤ s.hi + 1
      · have CM : Hid (∀ Y, Below X1.heap.size X1 Y → Calls Try.prog 119 #[.agg #[.int .i64 s.lo, .int .i64 s.hi], .agg #[.int .i64 x.lo, .int .i64 x.hi]] Y fun e w' => e = .returned (.tuple #[.agg #[.int .i64 s.lo, .int .i64 (max s.hi x.hi)], .bool true]) ∧ Below X1.heap.size X1 w' ∧ Below Y.heap.size Y w' ∧ (w'.cell? ⟨g9, q * 2, none⟩ = some (.int .i64 s.lo) ∧ w'.cell? ⟨g9, q * 2 + 1, none⟩ = some (.int .i64 s.hi) ∧ w'.cell? ⟨wo.heap.size, 0, none⟩ = some (.int .i64 x.lo) ∧ w'.cell? ⟨wo.heap.size, 1, none⟩ = some (.int .i64 x.hi))) := fun Y hY => by
          refine (meet_any s x hs1 hs2 Y).mono ?_
          rintro e w' ⟨hb9, he⟩
          rw [if_pos hj] at he
          have hY' := hY.trans (hb9.mono hY.size)
          exact ⟨he, hY', hb9, HSb.out _ hY'⟩
        have CMA : Hid (∀ Y, Below X1.heap.size X1 Y → Blk Y X1.heap.size 45 #[.int .i64 0, .int .i64 0] → Calls Try.prog 119 #[.agg #[.int .i64 s.lo, .int .i64 s.hi], .agg #[.int .i64 x.lo, .int .i64 x.hi]] Y fun e w' => e = .returned (.tuple #[.agg #[.int .i64 s.lo, .int .i64 (max s.hi x.hi)], .bool true]) ∧ Below X1.heap.size X1 w' ∧ Blk w' X1.heap.size 45 #[.int .i64 0, .int .i64 0] ∧ (w'.cell? ⟨g9, q * 2, none⟩ = some (.int .i64 s.lo) ∧ w'.cell? ⟨g9, q * 2 + 1, none⟩ = some (.int .i64 s.hi) ∧ w'.cell? ⟨wo.heap.size, 0, none⟩ = some (.int .i64 x.lo) ∧ w'.cell? ⟨wo.heap.size, 1, none⟩ = some (.int .i64 x.hi))) := fun Y hY hK => by
          refine (CM.out Y hY).mono ?_
          rintro e w' ⟨he, h1, h2, h3⟩
          exact ⟨he, h1, hK.below h2 hK.lt, h3⟩
        have CM1 := Lib.hid (CMA.out (X1.alloc (.cells #[.int .i64 0, .int .i64 0] 45)).drew (below_alloc _ _).drew (Blk.new X1 _ _))
        have S1 := HS1.out
        go_region_held3 (fun wS => wS.cell? ⟨g9, q * 2, none⟩ = some (.int .i64 s.lo) ∧ wS.cell? ⟨g9, q * 2 + 1, none⟩ = some (.int .i64 s.hi) ∧ wS.cell? ⟨wo.heap.size, 0, none⟩ = some (.int .i64 x.lo) ∧ wS.cell? ⟨wo.heap.size, 1, none⟩ = some (.int .i64 x.hi))
          (first | exact S6 | exact S1 | exact HSb.out _ ((B6.setCell (p := ⟨X1.heap.size, 0, none⟩) (Nat.le_refl _) _).setCell (p := ⟨X1.heap.size, 1, none⟩) (Nat.le_refl _) _) | exact HSb.out _ (B6.alloc B6.size _) | exact HSb.out _ (below_alloc _ _) | go_keep)
          (first | (go_at_call 119; (with_reducible refine CM1.out.mono ?_); rintro _ w6 ⟨rfl, B6, K6, S6⟩; have a0 := cellOf K6 0 (x := .int .i64 0) rfl; have a1 := cellOf K6 1 (x := .int .i64 0) rfl; have f0 := K6.frozen 0; have f1 := K6.frozen 1)
                 | (go_at_call 119; refine (CM.out _ (Below.refl _ _).drew).mono ?_; rintro _ w6 ⟨rfl, B6, -, S6⟩))
        all_goals
          go_wp2_with fail
          go_meet
          first
            | exact MeetCut.yes (Nat.le_refl _) ((B6.setCell (p := ⟨X1.heap.size, 0, none⟩) (Nat.le_refl _) _).setCell (p := ⟨X1.heap.size, 1, none⟩) (Nat.le_refl _) _) hj ((K6.put 0 (.int .i64 s.lo)).put 1 (.int .i64 (max s.hi x.hi)))
            | exact MeetCut.yes B6.size (B6.alloc B6.size _) hj (Blk.new _ _ _)
      · have CM : Hid (∀ Y, Below X1.heap.size X1 Y → Calls Try.prog 119 #[.agg #[.int .i64 s.lo, .int .i64 s.hi], .agg #[.int .i64 x.lo, .int .i64 x.hi]] Y fun e w' => e = .returned (.tuple #[.agg #[.int .i64 0, .int .i64 0], .bool false]) ∧ Below X1.heap.size X1 w' ∧ Below Y.heap.size Y w' ∧ (w'.cell? ⟨g9, q * 2, none⟩ = some (.int .i64 s.lo) ∧ w'.cell? ⟨g9, q * 2 + 1, none⟩ = some (.int .i64 s.hi) ∧ w'.cell? ⟨wo.heap.size, 0, none⟩ = some (.int .i64 x.lo) ∧ w'.cell? ⟨wo.heap.size, 1, none⟩ = some (.int .i64 x.hi))) := fun Y hY => by
          refine (meet_any s x hs1 hs2 Y).mono ?_
          rintro e w' ⟨hb9, he⟩
          rw [if_neg hj] at he
          have hY' := hY.trans (hb9.mono hY.size)
          exact ⟨he, hY', hb9, HSb.out _ hY'⟩
        have CMA : Hid (∀ Y, Below X1.heap.size X1 Y → Blk Y X1.heap.size 45 #[.int .i64 0, .int .i64 0] → Calls Try.prog 119 #[.agg #[.int .i64 s.lo, .int .i64 s.hi], .agg #[.int .i64 x.lo, .int .i64 x.hi]] Y fun e w' => e = .returned (.tuple #[.agg #[.int .i64 0, .int .i64 0], .bool false]) ∧ Below X1.heap.size X1 w' ∧ Blk w' X1.heap.size 45 #[.int .i64 0, .int .i64 0] ∧ (w'.cell? ⟨g9, q * 2, none⟩ = some (.int .i64 s.lo) ∧ w'.cell? ⟨g9, q * 2 + 1, none⟩ = some (.int .i64 s.hi) ∧ w'.cell? ⟨wo.heap.size, 0, none⟩ = some (.int .i64 x.lo) ∧ w'.cell? ⟨wo.heap.size, 1, none⟩ = some (.int .i64 x.hi))) := fun Y hY hK => by
          refine (CM.out Y hY).mono ?_
          rintro e w' ⟨he, h1, h2, h3⟩
          exact ⟨he, h1, hK.below h2 hK.lt, h3⟩
        have CM1 := Lib.hid (CMA.out (X1.alloc (.cells #[.int .i64 0, .int .i64 0] 45)).drew (below_alloc _ _).drew (Blk.new X1 _ _))
        have S1 := HS1.out
        go_region_held3 (fun wS => wS.cell? ⟨g9, q * 2, none⟩ = some (.int .i64 s.lo) ∧ wS.cell? ⟨g9, q * 2 + 1, none⟩ = some (.int .i64 s.hi) ∧ wS.cell? ⟨wo.heap.size, 0, none⟩ = some (.int .i64 x.lo) ∧ wS.cell? ⟨wo.heap.size, 1, none⟩ = some (.int .i64 x.hi))
          (first | exact S6 | exact S1 | exact HSb.out _ ((B6.setCell (p := ⟨X1.heap.size, 0, none⟩) (Nat.le_refl _) _).setCell (p := ⟨X1.heap.size, 1, none⟩) (Nat.le_refl _) _) | exact HSb.out _ (B6.alloc B6.size _) | exact HSb.out _ (below_alloc _ _) | go_keep)
          (first | (go_at_call 119; (with_reducible refine CM1.out.mono ?_); rintro _ w6 ⟨rfl, B6, K6, S6⟩; have a0 := cellOf K6 0 (x := .int .i64 0) rfl; have a1 := cellOf K6 1 (x := .int .i64 0) rfl; have f0 := K6.frozen 0; have f1 := K6.frozen 1)
                 | (go_at_call 119; refine (CM.out _ (Below.refl _ _).drew).mono ?_; rintro _ w6 ⟨rfl, B6, -, S6⟩))
        all_goals
          go_wp2_with fail
          go_meet
          first
            | exact MeetCut.no (Nat.le_refl _) ((B6.setCell (p := ⟨X1.heap.size, 0, none⟩) (Nat.le_refl _) _).setCell (p := ⟨X1.heap.size, 1, none⟩) (Nat.le_refl _) _) (by omega)
            | exact MeetCut.no B6.size (B6.alloc B6.size _) (by omega)
    case rest =>
      obtain ⟨B, hBz, rfl, hX, hmc⟩ := hcut
      obtain ⟨wn, rfl⟩ : ∃ wn, wn = wc := ⟨_, rfl⟩
      have hOn := ownsRow_below HO1.out hX
      have HXo : Hid (Below wo.heap.size wo wn) := HB1.out.trans (hX.mono HB1.out.size)
      have HBwn : Hid (Below w.heap.size w wn) := HBw.out.trans (HXo.out.mono HBw.out.size)
      have HZn : Hid (w.heap.size ≤ wn.heap.size) := HBwn.out.size
      rcases hmc with ⟨hj, rfl, hBk⟩ | ⟨hj, rfl⟩
      · have hrc := HSb.out _ hX
        have r0 := hrc.1
        have r1 := hrc.2.1
        have f0 := ownsRow_frozen hOn (q * 2)
        have f1 := ownsRow_frozen hOn (q * 2 + 1)
        have b0 := cellOf hBk 0 (x := .int .i64 s.lo) rfl
        have b1 := cellOf hBk 1 (x := .int .i64 (max s.hi x.hi)) rfl
        have hlast := OSpans.last (t := ⟨s.lo, max s.hi x.hi⟩) hOn (by rw [HDl.out])
        rw [HDl.out] at hlast
        have HSt : Hid (JoinSt w l (k + 1) (.slice (some ⟨g9, 0, none⟩) (q + 1) cv) (q + 1) ((wn.setCell ⟨g9, q * 2, none⟩ (.int .i64 s.lo)).setCell ⟨g9, q * 2 + 1, none⟩ (.int .i64 (max s.hi x.hi)))) := by
          have hJ' : joinL (l.take (k + 1)) = d ++ [⟨s.lo, max s.hi x.hi⟩] := by rw [HJ.out, HD.out, joinStep_join hj]
          refine ⟨by rw [hJ']; exact hlast, by rw [hJ', List.length_append, HDl.out]; rfl, by omega, (HBwn.out.setCell (p := ⟨g9, q * 2, none⟩) hg9 _).setCell (p := ⟨g9, q * 2 + 1, none⟩) hg9 _, fun t ht => ?_⟩
          rw [hJ'] at ht
          rcases List.mem_append.1 ht with h | h
          · exact hst.out.2.2.2.2 t (by rw [HD.out]; exact List.mem_append_left _ h)
          · rw [List.mem_singleton.1 h]
            simp only
            omega
        clear hlast hrc hOn hX hBk hst hj hxb
        go_wp2
        go_roundw
        case rel => exact ⟨k + 1, by omega, by go_num, _, HSt⟩
        case measure => simp [intOf]; omega
      · have b0 := cellOf (HK1.out.below hX HK1.out.lt) 0 (x := .int .i64 x.lo) rfl
        have b1 := cellOf (HK1.out.below hX HK1.out.lt) 1 (x := .int .i64 x.hi) rfl
        have HOn := Lib.hid hOn
        have HAp : Hid (∀ Y v' tmp, (wn.alloc tmp).grownBy Y (Value.slice (some ⟨g9, 0, none⟩) (q + 1) cv).ownBlock → Y.ownsRow w.heap.size 45 2 v' (q + 1 + 1) ((d ++ [s]).flatMap Sp.cells ++ [.int .i64 x.lo, .int .i64 x.hi]) → JoinSt w l (k + 1) v' (q + 1 + 1) Y) := fun Y v' tmp hg ho =>
          hst.out.append HXo.out (by rw [HJ.out, HD.out, joinStep_new hj]) hxb hg (by rw [HD.out]; exact ho)
        clear hOn hX hj hxb
        go_wp2_with (at_builtin; refine wpList_append_own _ rfl _ _ 41 rfl w.heap.size 45 i0 _ 2 16 sliceSpan hi hz0 hz1 hz2 rfl (by decide) (.slice (some ⟨g9, 0, none⟩) (q + 1) cv) (q + 1) ((d ++ [s]).flatMap Sp.cells) rfl (HOn.out.alloc _) ⟨wn.heap.size, 0, none⟩ 1 1 [.int .i64 x.lo, .int .i64 x.hi] rfl rfl (cells_new _ _ _) (by simp [Value.oneCell']) (by simp only [maxLen]; omega) (by omega) (by have := HZn.out; simp; omega) ?_; intro v2' w10 hown' hgrow _)
        have HSt := Lib.hid (HAp.out _ _ _ hgrow hown')
        clear hown' hgrow HAp b0 b1 HOn hst
        go_roundw
        case rel => exact ⟨k + 1, by omega, by go_num, _, HSt⟩
        case measure => simp [intOf]; omega
end Go.Proofs.Ytpkepacbondopaa
