/-
  The iterator of splices: its contract.
-/
import Derived.RangeFuncBox
import Derived.RangeFuncNested
import Derived.RangeFuncLeaves
import Derived.RangeFuncBound
import Derived.RangeFuncCalls
import Derived.Shelf.Abstract
import Derived.OwnWalkIn
import Derived.TacticsInMore
import Derived.LoopNIn
import Derived.LoopIn
import Derived.Maps.AppendAt
import Derived.Sort.CutIn
import Derived.Test.YtpkepacbondopaaLh
namespace Go.Proofs.Ytpkepacbondopaa
open Go.RowKit Go.Shelf
attribute [local go_sem] Oper.semAt_some

/-- A place of a splice. -/
abbrev Pl := { x : Int // 0 ≤ x ∧ x ≤ 400000000 }
def plS (x : Int) : Pl := if h : 0 ≤ x ∧ x ≤ 400000000 then ⟨x, h⟩ else ⟨0, by omega⟩
theorem plS_val {x : Int} (h : 0 ≤ x ∧ x ≤ 400000000) : (plS x).1 = x := by unfold plS; rw [dif_pos h]
def placesS (l : List ReelD) (k : Nat) : List Pl := (placesTo l k).map plS
theorem placesS_next (l : List ReelD) {k : Nat} (h : 0 < k) : placesS l (k + 1) = placesS l k ++ [plS (givesL (l.take k))] := by unfold placesS; rw [placesTo_next l h]; simp
theorem placesS_len (l : List ReelD) (k : Nat) : (placesS l k).length = k - 1 := by unfold placesS; rw [List.length_map, placesTo_len]
theorem placesS_pre (l : List ReelD) {k m : Nat} (h : k ≤ m) : placesS l k <+: placesS l m := (placesTo_pre l h).map plS
theorem givesTake_bound {l : List ReelD} (h : ∀ r ∈ l, r.ok) (hl : l.length ≤ 20) (k : Nat) : 0 ≤ givesL (l.take k) ∧ givesL (l.take k) ≤ 400000000 := by
  have h1 := givesL_bound (mem_take_ok h k)
  have h2 : (l.take k).length ≤ 20 := Nat.le_trans (List.length_take_le' ..) hl
  omega
theorem placesS_val {l : List ReelD} (h : ∀ r ∈ l, r.ok) (hl : l.length ≤ 20) (k : Nat) : (placesS l k).map (·.1) = placesTo l k := by
  unfold placesS placesTo
  rw [List.map_map, List.map_map]
  refine List.map_congr_left fun i _ => ?_
  exact plS_val (givesTake_bound h hl (i + 1))

/-- What a round keeps: what lay below n₀, and each block of reels. -/
def KpR (n₀ : Nat) (W W' : World) : Prop := Below n₀ W W' ∧ ∀ (g : Nat) (cs : Array Value) (fr : Nat × Nat), W.heap[g]? = some (Obj.cells cs 58 fr) → W'.heap[g]? = W.heap[g]?
theorem KpR.trans {n₀ : Nat} {A B C : World} (h : KpR n₀ A B) (k : KpR n₀ B C) : KpR n₀ A C :=
  ⟨h.1.trans k.1, fun g cs fr hg => (k.2 g cs fr ((h.2 g cs fr hg).trans hg)).trans (h.2 g cs fr hg)⟩
theorem KpR.putObj {n₀ : Nat} {w0 : World} (hB : n₀ ≤ w0.heap.size) (W : World) (l : Nat) (o o' : Obj) (hl : w0.heap.size ≤ l) (ho : W.heap[l]? = some o) (hc : o.isCells = false) (hw : o.isWalk = false) : KpR n₀ W (W.putObj l o') :=
  ⟨belowK_b hB W l o o' hl ho hc hw, fun g cs fr hg => by
    have hne : g ≠ l := by
      rintro rfl
      rw [hg] at ho
      cases ho
      cases hc
    exact (grownBy_putObj' W l o').block g (Array.getElem?_eq_some_iff.1 hg).1 (fun e => by cases e; exact hne rfl)⟩

set_option maxRecDepth 100000 in
set_option maxHeartbeats 2000000 in
theorem splices_stops (n : Nat) (hn : 3 ≤ n) (x : WebD) (A : Option Addr) (c Bw n₀ : Nat) (w : World) (hBw : Bw < w.heap.size) (hn₀ : n₀ ≤ w.heap.size) (hbox : w.cell? ⟨Bw, 0, none⟩ = some (.slice A x.reels.length c)) (hr : RReels n₀ w (.slice A x.reels.length c) x.reels) (hok : ∀ r ∈ x.reels, r.ok) (hl : x.reels.length ≤ 20) :
    SeqStopsK Fence.wide n Try.prog 121 #[.pointer (some ⟨Bw, 0, none⟩)] (fun y : Pl => #[.int .i64 y.1]) (KpR n₀) (fun ys => ys = placesS x.reels x.reels.length) (fun pre => pre <+: placesS x.reels x.reels.length) 20 w := by
  intro l J Jx W hW hJ hJx hY h0
  have hbW : W.cell? ⟨Bw, 0, none⟩ = some (.slice A x.reels.length c) := (hW.cell (p := ⟨Bw, 0, none⟩) hBw).trans hbox
  have hrW : RReels n₀ W (.slice A x.reels.length c) x.reels := Rd.below hr (hW.mono hn₀)
  obtain ⟨A', c', e1, hlm, hc⟩ := hrW.open_
  cases e1
  obtain ⟨m, hm⟩ : ∃ m, x.reels.length = m := ⟨_, rfl⟩
  have HY := Lib.hid hY
  have HJ := Lib.hid hJ
  have HC := Lib.hid hc
  have HO := Lib.hid hok
  have Hm := Lib.hid hm
  have HL := Lib.hid hl
  rw [hm] at hbW hlm hl
  have H0 : Hid (J (placesS x.reels 0) W) := h0
  have hAb : Hid (∀ s X Y, J s X → Below X.heap.size X Y → J s Y) := fun s X Y hs hb => hJ s X Y none hs (grownBy_below hb none) (fun r e => by cases e)
  have hW9 : n₀ ≤ W.heap.size := Nat.le_trans hn₀ hW.size
  clear hY hJ hJx hc hok hm hbox hr hrW h0 hW
  refine callsIn_of_wp Try.func121 rfl trivial ?_ rfl
  simp only [Try.ntmps121, List.size_toArray, List.length_cons, List.length_nil, Nat.reduceAdd, Nat.reduceSub, Array.replicate_succ, Array.replicate_zero, List.push_toArray, List.append_toArray, List.nil_append, List.cons_append]
  gi_wp2
  gi_loopw [3, 9] (fun s i wr => ∃ k : Nat, k ≤ m ∧ i = .int .i64 k ∧ ∃ g : Int, s = .int .i64 g ∧ Hid (g = givesL (x.reels.take k)) ∧ 0 ≤ g ∧ g ≤ 400000000 ∧ Hid (J (placesS x.reels k) wr) ∧ Hid (Below n₀ W wr)) (fun _ i _ => m - (intOf i).toNat)
  case atStart => exact ⟨0, Nat.zero_le _, rfl, 0, rfl, rfl, by omega, by omega, H0, Below.refl _ _⟩
  case round =>
    clear H0
    obtain ⟨k, hk, rfl, g, rfl, hg, hg1, hg2, hJk, hB⟩ := hrel
    by_cases hlt : k < m
    case neg =>
      have hfin : Hid (∃ ys, ys = placesS x.reels x.reels.length ∧ J ys wr) := ⟨_, rfl, by rw [Hm.out, ← show k = m by omega]; exact hJk.out⟩
      gi_wp2
      go_end0
      exact ⟨⟨_, rfl⟩, .inl hfin.out⟩
    obtain ⟨y, hy⟩ : ∃ y, x.reels[k]? = some y := ⟨_, List.getElem?_eq_getElem (by rw [Hm.out]; exact hlt)⟩
    obtain ⟨b, o, rfl, hb, c0, c1, c2, c3⟩ := HC.out k y hy
    rw [← hB.out.cell (p := ⟨b, o + k * 4, none⟩) hb] at c0
    rw [← hB.out.cell (p := ⟨b, o + k * 4 + 1, none⟩) hb] at c1
    rw [← hB.out.cell (p := ⟨b, o + k * 4 + 2, none⟩) hb] at c2
    rw [← hB.out.cell (p := ⟨b, o + k * 4 + 3, none⟩) hb] at c3
    have F1 : ∃ X1, wr.alloc (.cells #[.int .i64 y.id, .int .i64 y.width, .int .i64 y.length, .int .i64 y.core] 58) = X1 ∧ Below wr.heap.size wr X1 ∧ Blk X1 wr.heap.size 58 #[.int .i64 y.id, .int .i64 y.width, .int .i64 y.length, .int .i64 y.core] := ⟨_, rfl, below_alloc _ _, Blk.new _ _ _⟩
    obtain ⟨X1, e1, hb1, B1⟩ := F1
    have hnw : n₀ ≤ wr.heap.size := by
      have h1 := hB.out.size
      omega
    have HJ1 : Hid (J (placesS x.reels k) X1) := hAb.out _ _ _ hJk.out hb1
    have HB1 : Hid (Below n₀ W X1) := hB.out.trans (hb1.mono hnw)
    have E1 := Lib.hid e1
    have HK1 := Lib.hid B1
    have hyo := HO.out y (List.mem_of_getElem? hy)
    have CG := Lib.hid (fun W => gives_any y hyo W)
    have HN := Lib.hid (givesL_next hy)
    have hgn := givesTake_bound HO.out HL.out (k + 1)
    rw [HN.out, ← hg.out] at hgn
    obtain ⟨hgn1, hgn2⟩ := hgn
    have hyb := gives_bound hyo
    obtain ⟨hy1, hy2⟩ := hyb
    obtain ⟨G, hG⟩ : ∃ G, y.gives = G := ⟨_, rfl⟩
    rw [hG] at hgn1 hgn2 hy1 hy2 CG
    have HG := Lib.hid hG
    clear hy hyo hG e1 hb1 B1 hJk hB
    by_cases hk0 : k = 0
    · have hki : ¬ (0 : Int) < (k : Int) := by omega
      have HK0 := Lib.hid hk0
      clear hk0
      gi_upto_region 4 with fail
      rw [E1.out]
      clear c0 c1 c2 c3
      have d0 := cellOf HK1.out 0 (x := .int .i64 y.id) rfl
      have d1 := cellOf HK1.out 1 (x := .int .i64 y.width) rfl
      have d2 := cellOf HK1.out 2 (x := .int .i64 y.length) rfl
      have d3 := cellOf HK1.out 3 (x := .int .i64 y.core) rfl
      gi_wp2_with fail
      refine ⟨fun _ h => (by cases h), ?_⟩
      gi_wp2_with fail
      refine ⟨trivial, fun _ => by omega, (callsIn_wide.2 (CG.out _)).mono ?_⟩
      rintro _ W9 ⟨rfl, hb9⟩
      have HJ9 : Hid (J (placesS x.reels (k + 1)) W9) := by
        have h1 := hAb.out _ _ _ HJ1.out hb9
        rw [HK0.out] at h1 ⊢
        exact h1
      have HB9 : Hid (Below n₀ W W9) := HB1.out.trans (hb9.mono (by have := HB1.out.size; omega))
      clear hb9 d0 d1 d2 d3 CG
      gi_wp2
      go_roundw
      case rel => exact ⟨k + 1, by omega, by go_num, _, rfl, by show _ = _; rw [HN.out, ← hg.out, HG.out], by omega, by omega, HJ9, HB9⟩
      case measure => simp [intOf]; omega
    · have hki : (0 : Int) < (k : Int) := by omega
      obtain ⟨fn, tmps, assign, body, hy, hR⟩ := HY.out (placesS x.reels k) (plS g) X1 HJ1.out (by rw [placesS_len]; omega)
      rw [plS_val ⟨hg1, hg2⟩] at hy
      have HKp : Hid (0 < k) := by show 0 < k; omega
      clear hk0
      gi_upto_region 4 with fail
      rw [E1.out]
      clear c0 c1 c2 c3
      gi_wp2_with fail
      refine ⟨fun _ => by omega, hR.mono ?_⟩
      rintro e W4 (⟨rfl, hJ4, hb4⟩ | ⟨rfl, hJx4⟩)
      · have hK4 : Blk W4 wr.heap.size 58 #[.int .i64 y.id, .int .i64 y.width, .int .i64 y.length, .int .i64 y.core] := (hb4.2 _ _ _ HK1.out).trans HK1.out
        have HJ4 : Hid (J (placesS x.reels (k + 1)) W4) := by show J _ W4; rw [placesS_next _ HKp.out, ← hg.out]; exact hJ4
        have HB4 : Hid (Below n₀ W W4) := HB1.out.trans hb4.1
        have d0 := cellOf hK4 0 (x := .int .i64 y.id) rfl
        have d1 := cellOf hK4 1 (x := .int .i64 y.width) rfl
        have d2 := cellOf hK4 2 (x := .int .i64 y.length) rfl
        have d3 := cellOf hK4 3 (x := .int .i64 y.core) rfl
        clear hJ4 hb4 hK4 hy hR
        gi_wp2_with fail
        refine ⟨trivial, fun _ => by omega, (callsIn_wide.2 (CG.out _)).mono ?_⟩
        rintro _ W9 ⟨rfl, hb9⟩
        have HJ9 : Hid (J (placesS x.reels (k + 1)) W9) := hAb.out _ _ _ HJ4.out hb9
        have HB9 : Hid (Below n₀ W W9) := HB4.out.trans (hb9.mono (by have := HB4.out.size; omega))
        clear hb9 d0 d1 d2 d3 CG
        gi_wp2
        go_roundw
        case rel => exact ⟨k + 1, by omega, by go_num, _, rfl, by show _ = _; rw [HN.out, ← hg.out, HG.out], by omega, by omega, HJ9, HB9⟩
        case measure => simp [intOf]; omega
      · have HX : Hid (∃ pre, pre <+: placesS x.reels x.reels.length ∧ Jx pre W4) := ⟨_, by rw [hg.out, ← placesS_next _ HKp.out]; exact placesS_pre _ (by rw [Hm.out]; omega), hJx4⟩
        clear hJx4 hy hR
        gi_wp2
        refine bodyPost_ret (results_none rfl _ _ _) rfl ?_
        exact ⟨⟨_, rfl⟩, .inr HX.out⟩
end Go.Proofs.Ytpkepacbondopaa
