/-
  newControl.
-/
import Derived.Test.YtffodgpafiifcaaCd
namespace Go.Proofs.Ytffodgpafiifcaa
open Go.RowKit

set_option maxRecDepth 100000 in
set_option maxHeartbeats 2000000 in
theorem newControl_any (l : LoopD) (d : Nat) (hd : l.dead = d) (hd2 : d ≤ 1000) (w : World) :
    Calls Try.prog 45 #[l.val] w fun e w' => ∃ C v, e = .returned (.pointer (some ⟨C, 0, none⟩)) ∧ Ctl w.heap.size w' C l v (List.replicate d 0) ∧ Below w.heap.size w w' := by
  unfold LoopD.val
  have F : ∃ w1, (w.alloc (.cells l.cells 26)).alloc (.cells (ctlCells l (.slice none 0 0)) 123) = w1 ∧ Below w.heap.size w w1 ∧ Blk w1 w.heap.size 26 l.cells ∧ Blk w1 (w.heap.size + 1) 123 (ctlCells l (.slice none 0 0)) :=
    ⟨_, rfl, (below_alloc _ _).trans ((below_alloc _ _).mono (by simp)), (Blk.new _ _ _).alloc _, blk_new (by simp) _ _⟩
  obtain ⟨w1, e1, B1, V1, K1⟩ := F
  unfold LoopD.cells ctlCells at e1
  unfold LoopD.cells at V1
  have E1 := Lib.hid e1
  have v0 := cellOf V1 0 (x := .int .i64 l.dead) rfl
  rw [hd] at v0
  have HC : Hid (Ctl w.heap.size w1 (w.heap.size + 1) l (.slice none 0 0) (List.replicate 0 0)) := ⟨by omega, K1, QRow.nil⟩
  have HD := Lib.hid hd
  have HB := Lib.hid B1
  obtain ⟨C, hC⟩ : ∃ C, w.heap.size + 1 = C := ⟨_, rfl⟩
  clear e1 V1 K1 hd B1
  go_enter Try.func45, Try.ntmps45
  go_upto_region 2 with fail
  rw [E1.out]
  rw [hC] at HC
  clear hC
  go_wp2
  go_loopw [9] (fun i wr => ∃ k : Nat, k ≤ d ∧ i = .int .i64 k ∧ ∃ v, Ctl w.heap.size wr C l v (List.replicate k 0) ∧ Below w.heap.size w wr) (fun i _ => d - (intOf i).toNat)
  case atStart => exact ⟨0, Nat.zero_le _, rfl, _, HC.out, HB.out⟩
  case round =>
    obtain ⟨k, hk, rfl, v, hc, hb⟩ := hrel
    by_cases hlt : k < d
    · have C1 := Lib.hid (put_any _ C l v _ 0 wr hc (by rw [List.length_replicate]; omega))
      have HCt := Lib.hid hc
      have Hb := Lib.hid hb
      clear hc hb v0
      go_wp2_with fail
      refine C1.out.mono ?_
      rintro e w3 ⟨u, v', rfl, -, hc3, hk3⟩
      have hR : ∃ v, Ctl w.heap.size w3 C l v (List.replicate (k + 1) 0) ∧ Below w.heap.size w w3 := ⟨v', by rw [List.replicate_succ']; exact hc3, Hb.out.trans (hk3.1.below (fun j hj => by
        rcases hj with rfl | hj
        · exact HCt.out.1
        · exact (HCt.out.2.2.block j hj.symm).1) Hb.out.size)⟩
      have HR := Lib.hid hR
      clear hc3 hk3 hR
      go_wp2
      go_roundw
      case rel => exact ⟨k + 1, by omega, by go_num, HR.out⟩
      case measure => simp [intOf]; omega
    · have hk' : k = d := by omega
      subst hk'
      have HR : Hid (∃ v, Ctl w.heap.size wr C l v (List.replicate k 0) ∧ Below w.heap.size w wr) := ⟨v, hc, hb⟩
      clear hc hb v0
      go_wp2
      go_ret
      obtain ⟨v, h1, h2⟩ := HR.out
      exact ⟨C, v, rfl, h1, h2⟩
end Go.Proofs.Ytffodgpafiifcaa
