/-
  Worst.
-/
import Derived.Test.YtffodgpafiifcaaCg
import Derived.Test.YtffodgpafiifcaaCf
namespace Go.Proofs.Ytffodgpafiifcaa
open Go.RowKit

theorem makeInts2 (d : Nat) (hd : d ≤ 1000) (u : World) : (Instr.makeSlice 24 (.int .i64 ((d : Int) + 2)) (.int .i64 ((d : Int) + 2))).run Try.prog u =
      .ok (.slice (some ⟨u.heap.size, 0, none⟩) (d + 2) (d + 2)) (u.alloc (.cells (Array.replicate (d + 2) (.int .i64 0)) 3)) := by
  have h := makeInts (d + 2) (by omega) u
  rw [show ((d + 2 : Nat) : Int) = (d : Int) + 2 by omega] at h
  exact h
/-- What Worst has made. -/
def WorstCut (w : World) (n : Int) (k : Nat) (B : Nat) (cs : Array Value) (s6 s7 : Value) (wx : World) : Prop :=
  ∃ G, s7 = .slice (some ⟨G, 0, none⟩) k k ∧ w.heap.size ≤ G ∧ Blk wx G 3 (Array.replicate k (.int .i64 0)) ∧ OInts w.heap.size wx s6 (List.replicate k n) ∧ (∀ g, s6.ownBlock = some g → g ≠ G) ∧ Blk wx B 26 cs ∧ Below w.heap.size w wx
section
variable {w w2 X w4 : World} {n : Int} {k B G : Nat} {cs : Array Value} {u : Value}
theorem wcA (hB2 : Below w.heap.size w w2) (hV : Blk w2 B 26 cs) (h2 : Below w2.heap.size w2 X) (hu : OInts X.heap.size w4 u (List.replicate k n)) (hb : Below X.heap.size X w4) :
    WorstCut w n k B cs u (.slice (some ⟨w4.heap.size, 0, none⟩) k k) (w4.alloc (.cells (Array.replicate k (.int .i64 0)) 3)) := by
  have hX := hB2.trans (h2.mono hB2.size)
  have h4 := hX.trans (hb.mono hX.size)
  have hVX := hV.below h2 hV.lt
  exact ⟨_, rfl, h4.size, Blk.new _ _ _, ownsRow_base (ownsRow_below hu (below_alloc _ _)) hX.size, fun g hg he => by have := (hu.lt g hg).2; omega, (hVX.below hb hVX.lt).alloc _, h4.alloc h4.size _⟩
theorem wcB (hB2 : Below w.heap.size w w2) (hV : Blk w2 B 26 cs) (h2 : Below w2.heap.size w2 X) (hG : Blk X G 3 (Array.replicate k (.int .i64 0))) (hG2 : w2.heap.size ≤ G) (hu : OInts X.heap.size w4 u (List.replicate k n)) (hb : Below X.heap.size X w4) :
    WorstCut w n k B cs u (.slice (some ⟨G, 0, none⟩) k k) w4 := by
  have hX := hB2.trans (h2.mono hB2.size)
  have hVX := hV.below h2 hV.lt
  exact ⟨_, rfl, Nat.le_trans hB2.size hG2, hG.below hb hG.lt, ownsRow_base hu hX.size, fun g hg he => by have := (hu.lt g hg).1; have := hG.lt; omega, hVX.below hb hVX.lt, hX.trans (hb.mono hX.size)⟩
end

set_option maxRecDepth 100000 in
set_option maxHeartbeats 2000000 in
theorem Worst_ok (l : LoopD) (h : LoopOk l) (d : Nat) (hd : l.dead = d) (w : World) :
    Calls Try.prog 22 #[l.val] w fun e w' => ∃ u1 u2, e = .returned (.tuple #[u1, u2, .int .i64 0]) ∧ OInts w.heap.size w' u1 (List.replicate (d + 2) l.noise) ∧ OInts w.heap.size w' u2 (-l.blur :: List.replicate (d + 1) 0) ∧ Below w.heap.size w w' := by
  obtain ⟨w1, e1, B1, V1⟩ : ∃ w1, w.alloc (.cells l.cells 26) = w1 ∧ Below w.heap.size w w1 ∧ Blk w1 w.heap.size 26 l.cells := ⟨_, rfl, below_alloc _ _, Blk.new _ _ _⟩
  unfold LoopD.cells at e1 V1
  have E1 := Lib.hid e1
  have v0 := cellOf V1 0 (x := .int .i64 l.dead) rfl
  have v1 := cellOf V1 1 (x := .int .i64 l.noise) rfl
  have v2 := cellOf V1 2 (x := .int .i64 l.blur) rfl
  have v3 := cellOf V1 3 (x := .int .i64 l.step) rfl
  have C1 := Lib.hid (Check_any l w1)
  rw [checkE_ok h] at C1
  unfold LoopD.val at C1 ⊢
  have H := Lib.hid h
  have HD := Lib.hid hd
  clear e1 hd
  go_enter Try.func22, Try.ntmps22
  go_upto_region 1 with fail
  rw [E1.out]
  go_wp2_with fail
  refine C1.out.mono ?_
  rintro e w2 ⟨rfl, hb2⟩
  have V2 := V1.below hb2 V1.lt
  have B2 := B1.trans (hb2.mono B1.size)
  rw [HD.out] at V2
  clear C1 v0 v1 v2 v3 V1 B1 hb2
  have HV := Lib.hid V2
  have HB := Lib.hid B2
  have v0 := cellOf V2 0 (x := .int .i64 d) rfl
  have v1 := cellOf V2 1 (x := .int .i64 l.noise) rfl
  have v2 := cellOf V2 2 (x := .int .i64 l.blur) rfl
  have hd20 : d ≤ 20 := by have := H.out.2.1; have := HD.out; omega
  have hmk := makeInts2 d (by omega)
  have kw : IntKind.i64.wrap ((d : Int) + 2) = (d : Int) + 2 := IntWalk.i64_in _ ⟨by omega, by omega⟩
  have CR : Hid (∀ X (A : Nat), Below w2.heap.size w2 X → Blk X A 3 #[.int .i64 l.noise] → Calls Try.prog 49 #[.slice (some ⟨A, 0, none⟩) 1 1, .int .i64 ((d : Int) + 2)] X fun e w' => ∃ u, e = .returned u ∧ OInts X.heap.size w' u (List.replicate (d + 2) l.noise) ∧ Below X.heap.size X w' ∧ (w'.cell? ⟨w.heap.size, 0, none⟩ = some (.int .i64 d) ∧ w'.cell? ⟨w.heap.size, 1, none⟩ = some (.int .i64 l.noise))) := fun X A hX hA => by
    have := Repeat_any l.noise (d + 2) (by omega) (by omega) _ X (rints_one hA)
    rw [show ((d + 2 : Nat) : Int) = (d : Int) + 2 by omega] at this
    refine this.mono ?_
    rintro e w' ⟨u, rfl, hu, hb⟩
    have V := (V2.below hX V2.lt).below hb (V2.below hX V2.lt).lt
    exact ⟨u, rfl, hu, hb, cellOf V 0 rfl, cellOf V 1 rfl⟩
  clear h V2 B2
  go_upto_region 4 with fail
  go_cut [6, 7] (fun s6 s7 wx => WorstCut w l.noise (d + 2) w.heap.size #[.int .i64 d, .int .i64 l.noise, .int .i64 l.blur, .int .i64 l.step] s6 s7 wx)
  case first =>
    go_region_held3 (fun X => X.cell? ⟨w.heap.size, 0, none⟩ = some (.int .i64 d) ∧ X.cell? ⟨w.heap.size, 1, none⟩ = some (.int .i64 l.noise))
      (first | exact hc4 | go_keep)
      (first | (go_at_call 49; refine (CR.out _ _ (by first | exact ((Below.refl w2.heap.size w2).drew.alloc (Nat.le_refl _) _) | exact (((Below.refl w2.heap.size w2).drew.alloc (Nat.le_refl _) _).alloc (by simp) _)) (by first | exact blk_new (by simp) _ _ | exact (blk_new (by simp) _ _).alloc _)).mono ?_; rintro e w4 ⟨u, rfl, hu, hb4, hc4⟩))
    all_goals
      go_wp2_with fail
      go_meet
      first | exact wcA HB.out HV.out (below_alloc _ _).drew hu hb4 | exact wcB HB.out HV.out ((below_alloc w2 _).trans ((below_alloc _ _).mono (by simp))).drew (by first | exact blk_new (by simp) _ _ | exact (Blk.new _ _ _).alloc _) (by omega) hu hb4
  case rest =>
    obtain ⟨G, rfl, hG1, hG2, hu, hne, hV, hB⟩ := hcut
    clear v0 v1 v2 hmk kw CR HV HB E1
    have v2 := cellOf hV 2 (x := .int .i64 l.blur) rfl
    have g0 : wc.cell? ⟨G, 0, none⟩ = some (.int .i64 0) := by
      rw [hG2.cell, Array.getElem?_replicate, if_pos (by omega)]
    have f0 := hG2.frozen 0
    have hb1 := H.out.2.2.2.2.1
    have hb2 := H.out.2.2.2.2.2.1
    have HR : Hid (OInts w.heap.size (wc.setCell ⟨G, 0, none⟩ (.int .i64 (-l.blur))) u6 (List.replicate (d + 2) l.noise) ∧ OInts w.heap.size (wc.setCell ⟨G, 0, none⟩ (.int .i64 (-l.blur))) (.slice (some ⟨G, 0, none⟩) (d + 2) (d + 2)) (-l.blur :: List.replicate (d + 1) 0) ∧ Below w.heap.size w (wc.setCell ⟨G, 0, none⟩ (.int .i64 (-l.blur)))) := by
      refine ⟨ownsRow_keptBut hu (KeptBut.setCell (S := fun k => k = G) (p := ⟨G, 0, none⟩) rfl _) fun g cs hg _ => hne g hg, ?_, hB.setCell (p := ⟨G, 0, none⟩) hG1 _⟩
      have hP := hG2.put 0 (.int .i64 (-l.blur))
      refine ⟨by simp, .inr ⟨G, d + 2, _, by simp, hG1, hP, by simp, by simp only [maxLen]; omega, by simp, ?_⟩⟩
      simp [List.replicate_succ]
    clear hG2 hu hne hV hB
    go_wp2
    go_ret3
    exact ⟨_, _, rfl, HR.out⟩
end Go.Proofs.Ytffodgpafiifcaa
