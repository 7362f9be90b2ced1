/-
  rules, hasNumbers, Check.
-/
import Derived.Laws.EntriesVeiled
import Derived.Test.YtpkepacbondopaaLe
namespace Go.Proofs.Ytpkepacbondopaa
open Go.RowKit

def RulesRet (w : World) (e : Ending) (w' : World) : Prop := e = .returned (.slice (some ⟨w.heap.size + 1 + 1, 0, none⟩) 5 5) ∧ RulesAt w' w.heap.size (w.heap.size + 1) (w.heap.size + 1 + 1) [] ∧ Below w.heap.size w w'
set_option maxHeartbeats 1000000 in
theorem rules_any (w : World) : Calls Try.prog 99 #[] w (RulesRet w) := by
  have hmm := @run_makeMap Try.prog
  have F0 : ∃ W, ((w.alloc (.map #[] 0)).alloc (.cells #[.map (some w.heap.size)] 229)).alloc (.cells (ruleCells (w.heap.size + 1)) 232) = W ∧ RulesAt W w.heap.size (w.heap.size + 1) (w.heap.size + 1 + 1) [] ∧ Below w.heap.size w W := by
    refine ⟨_, rfl, ⟨((SetAt.new w).alloc _).alloc _, (blk_new (by simp) _ _).alloc _, blk_new (by simp) _ _⟩, ((((Below.refl _ _).alloc (Nat.le_refl _) _).alloc (by simp) _).alloc (by simp; omega) _)⟩
  obtain ⟨W, e0, h0, h1⟩ := F0
  have E0 := Lib.hid e0
  have H0 := Lib.hid h0
  have H1 := Lib.hid h1
  clear e0 h0 h1
  go_enter Try.func99, Try.ntmps99
  go_wp2
  go_ret
  refine ⟨rfl, ?_⟩
  have he := E0.out
  unfold ruleCells at he
  rw [he]
  exact ⟨H0.out, H1.out⟩

def hasB (p : PressD) : Bool := decide (1 ≤ p.webs.length ∧ p.webs.length ≤ 6) && p.webs.all (fun x => decide (x.reels.length ≤ 20))
set_option maxHeartbeats 1000000 in
theorem has_any (p : PressD) (v : Value) (w : World) (h : RPress w.heap.size w v p) :
    Calls Try.prog 98 #[v] w fun e w' => e = .returned (.bool (hasB p)) ∧ Below w.heap.size w w' := by
  obtain ⟨u, rfl, hw⟩ := h
  obtain ⟨A, c, rfl, hlm, hr⟩ := hw.open_
  obtain ⟨n, hn⟩ : ∃ n, p.webs.length = n := ⟨_, rfl⟩
  rw [hn] at hlm ⊢
  have Hn := Lib.hid hn
  have HR := Lib.hid hr
  clear hn hr hw
  have F0 : ∃ W0, w.alloc (.cells #[.int .i64 p.cut, .int .i64 p.margin, .slice A n c] 24) = W0 ∧ Below w.heap.size w W0 ∧ Blk W0 w.heap.size 24 #[.int .i64 p.cut, .int .i64 p.margin, .slice A n c] := ⟨_, rfl, below_alloc _ _, Blk.new _ _ _⟩
  obtain ⟨W0, e0, hb0, B0⟩ := F0
  have E0 := Lib.hid e0
  have HB0 := Lib.hid hb0
  have HK0 := Lib.hid B0
  have m2 := cellOf B0 2 (x := .slice A n c) rfl
  clear e0 hb0 B0
  obtain ⟨b6, hb6⟩ : ∃ b, withinB (n : Int) 1 6 = b := ⟨_, rfl⟩
  have CW : Hid (∀ W, Calls Try.prog 75 #[.int .i64 n, .int .i64 1, .int .i64 6] W fun e w' => e = .returned (.bool b6) ∧ W = w') := fun W => by rw [← hb6]; exact within_any _ _ _ _
  have HB6 := Lib.hid hb6
  clear hb6
  go_enter Try.func98, Try.ntmps98
  go_upto_region 1 with fail
  rw [E0.out]
  go_wp2_with fail
  refine (CW.out _).mono ?_
  rintro _ w1 ⟨rfl, rfl⟩
  cases b6
  · have hfin : Hid (hasB p = false) := by
      show hasB p = false
      unfold hasB
      rw [Hn.out]
      have : ¬ (1 ≤ n ∧ n ≤ 6) := fun h => by have := HB6.out; rw [within_t (by omega) (by omega)] at this; cases this
      simp [this]
    go_wp2
    go_ret
    exact ⟨rb hfin.out, HB0.out⟩
  have hn6 : 1 ≤ n ∧ n ≤ 6 := by have := within_iff.1 HB6.out; omega
  go_wp2
  clear m2
  go_loopw [13] (fun i wr => ∃ k : Nat, k ≤ n ∧ i = .int .i64 k ∧ Hid ((p.webs.take k).all (fun x => decide (x.reels.length ≤ 20)) = true) ∧ Hid (Below w.heap.size w wr)) (fun i _ => n - (intOf i).toNat)
  case atStart => exact ⟨0, Nat.zero_le _, rfl, rfl, HB0⟩
  case round =>
    obtain ⟨k, hk, rfl, ht, hB⟩ := hrel
    by_cases hlt : k < n
    · obtain ⟨x, hx⟩ : ∃ x, p.webs[k]? = some x := ⟨_, List.getElem?_eq_getElem (by rw [Hn.out]; exact hlt)⟩
      obtain ⟨b, o, A2, c2', rfl, hb, c0, c1, c2, c3, hrr⟩ := HR.out k x hx
      rw [← hB.out.cell (p := ⟨b, o + k * 4, none⟩) hb] at c0
      rw [← hB.out.cell (p := ⟨b, o + k * 4 + 1, none⟩) hb] at c1
      rw [← hB.out.cell (p := ⟨b, o + k * 4 + 2, none⟩) hb] at c2
      rw [← hB.out.cell (p := ⟨b, o + k * 4 + 3, none⟩) hb] at c3
      have HX := Lib.hid hx
      clear hx hrr
      have HBn : Hid (∀ o, Below w.heap.size w (wr.alloc o)) := fun o => hB.out.alloc hB.out.size o
      clear hB
      by_cases h20 : x.reels.length ≤ 20
      · have h20' : ¬ (20 : Int) < (x.reels.length : Int) := by omega
        go_wp2
        go_roundw
        case rel => exact ⟨k + 1, by omega, by go_num, all_next ht HX.out (by simpa using h20), HBn.out _⟩
        case measure => simp [intOf]; omega
      · have h20' : (20 : Int) < (x.reels.length : Int) := by omega
        have hfin : Hid (hasB p = false) := by
          show hasB p = false
          unfold hasB
          rw [all_not HX.out (by simpa using h20), Bool.and_false]
        go_wp2
        go_ret
        exact ⟨rb hfin.out, HBn.out _⟩
    · have hfin : Hid (hasB p = true) := by
        show hasB p = true
        unfold hasB
        rw [(all_end ht (by rw [Hn.out]; omega)).out, Hn.out]
        simp [hn6]
      go_wp2
      go_ret
      exact ⟨rb hfin.out, hB.out⟩
end Go.Proofs.Ytpkepacbondopaa
