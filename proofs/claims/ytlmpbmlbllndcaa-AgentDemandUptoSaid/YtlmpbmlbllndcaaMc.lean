/-
  days: the same history of the reference.
-/
import Derived.Test.YtlmpbmlbllndcaaMb
namespace Go.Proofs.Ytlmpbmlbllndcaa
open Go.RowKit
attribute [local go_sem] Oper.semAt_some

theorem sliceRDay : Try.prog.underlying 96 = some (.slice 99) := by kernel_rfl
theorem infoRDay : (Try.prog.info? 99).map (fun i => (i.zero, i.size, i.bytes)) = some (some (.agg #[.int .i64 0, .int .i64 0]), 2, 16) := by kernel_rfl
set_option maxRecDepth 100000 in
set_option maxHeartbeats 4000000 in
theorem days_any (l : List DayD) (hl : l.length ≤ 2000000) (v : Value) (w : World) (h : RDays w.heap.size w v l) :
    Calls Try.prog 41 #[v] w fun e w' => ∃ A c, e = .returned (.slice A l.length c) ∧ w'.ownsRow w.heap.size 99 2 (.slice A l.length c) l.length (l.flatMap DayD.cells) ∧ Below w.heap.size w w' := by
  obtain ⟨A, c, rfl, hlm, HD⟩ := days_later h
  obtain ⟨n, hn⟩ : ∃ n, l.length = n := ⟨_, rfl⟩
  have HN := Lib.hid hn
  rw [hn] at hl hlm ⊢
  obtain ⟨i0, hi0, hz0, hz1, hz2⟩ := info_parts infoRDay
  have HO0 : Hid (w.ownsRow w.heap.size 99 2 (.slice none 0 0) 0 ((l.take 0).flatMap DayD.cells)) := World.ownsRow_nil w _ _ _
  clear h hn
  go_enter Try.func41, Try.ntmps41
  go_wp2_with fail
  go_loopw [3, 8] (fun s i wr => ∃ k : Nat, k ≤ n ∧ i = .int .i64 k ∧ Hid (wr.ownsRow w.heap.size 99 2 s k ((l.take k).flatMap DayD.cells)) ∧ Hid (Below w.heap.size w wr)) (fun _ i _ => n - (intOf i).toNat)
  case atStart => exact ⟨0, Nat.zero_le _, rfl, HO0.out, Below.refl _ _⟩
  case round =>
  clear HO0
  obtain ⟨k, hk, rfl, hO, hB⟩ := hrel
  obtain ⟨X, rfl⟩ : ∃ X : World, X = wr := ⟨_, rfl⟩
  obtain ⟨Av, cv, rfl⟩ := ownsRow_form hO.out
  by_cases hlt : k < n
  · obtain ⟨d, hd⟩ : ∃ x, l[k]? = some x := ⟨_, List.getElem?_eq_getElem (by rw [HN.out]; exact hlt)⟩
    obtain ⟨g, o, rfl, HX⟩ := HD.out k d hd
    obtain ⟨c0, c1⟩ := HX.out X hB.out
    have F1 : ∃ X1, X.alloc (.cells #[.int .i64 d.sup, .int .i64 d.ret] 24) = X1 ∧ Hid (Below X.heap.size X X1) ∧ Hid (Blk X1 X.heap.size 24 #[.int .i64 d.sup, .int .i64 d.ret]) := ⟨_, rfl, below_alloc _ _, Blk.new _ _ _⟩
    obtain ⟨X1, e1, HX1, HK1⟩ := F1
    have E1 := Lib.hid e1
    have F2 : ∃ X2, X1.alloc (.cells #[.int .i64 d.sup, .int .i64 d.ret] 99) = X2 ∧ Hid (Below X1.heap.size X1 X2) := ⟨_, rfl, below_alloc _ _⟩
    obtain ⟨X2, e2, HX2⟩ := F2
    have HC2 := Lib.hid (cells_new X1 #[.int .i64 d.sup, .int .i64 d.ret] 99)
    rw [e2] at HC2
    have E2 := Lib.hid e2
    have HO2 : Hid (X2.ownsRow w.heap.size 99 2 (.slice Av k cv) k ((l.take k).flatMap DayD.cells)) := ownsRow_below (ownsRow_below hO.out HX1.out) HX2.out
    have HB2 : Hid (Below w.heap.size w X2) := hB.out.trans ((HX1.out.trans (HX2.out.mono HX1.out.size)).mono hB.out.size)
    have HTK : Hid ((l.take (k + 1)).flatMap DayD.cells = (l.take k).flatMap DayD.cells ++ d.cells) := by
      show _ = _
      rw [List.take_add_one, hd, Option.toList_some, List.flatMap_append]
      simp
    obtain ⟨q, hq⟩ : ∃ q, X.heap.size = q := ⟨_, rfl⟩
    rw [hq] at HK1
    have HQ := Lib.hid hq
    have d0 := cellOf HK1.out 0 (x := .int .i64 d.sup) rfl
    have d1 := cellOf HK1.out 1 (x := .int .i64 d.ret) rfl
    have k0 : (0 : Int) ≤ (k : Int) := by omega
    have k1 : (k : Int) < (n : Int) := by omega
    clear hd HX e1 e2 hq hO hB HX1 HX2
    go_upto_region 5 with fail
    rw [E1.out, HQ.out]
    clear E1 c0 c1
    go_wp2_with (at_builtin; rw [E2.out]; refine wpList_append_own _ rfl _ _ 96 rfl w.heap.size 99 i0 _ 2 16 sliceRDay hi0 hz0 hz1 hz2 rfl (by decide) (.slice Av k cv) k ((l.take k).flatMap DayD.cells) rfl HO2.out ⟨X1.heap.size, 0, none⟩ 1 1 [.int .i64 d.sup, .int .i64 d.ret] rfl rfl HC2.out (by simp [Value.oneCell']) (by simp only [maxLen]; omega) (by omega) HB2.out.size ?_; intro v2 w2 hO4 hG4 hN4)
    have hB4 : Below w.heap.size w w2 := HB2.out.trans ((KeptBut.grown (S := fun j => some j = (Value.slice Av k cv).ownBlock) hG4 fun j hj => hj).below (fun i hi => (ownsRow_own HO2.out hi.symm).1) HB2.out.size)
    refine ⟨⟨k + 1, by omega, by go_num, ?_, hB4⟩, by simp [intOf]; omega⟩
    show World.ownsRow _ _ _ _ _ _ _
    rw [HTK.out]
    exact hO4
  · obtain rfl : k = n := by omega
    have HF : Hid (X.ownsRow w.heap.size 99 2 (.slice Av k cv) k (l.flatMap DayD.cells)) := by
      have h1 := hO.out
      rw [List.take_of_length_le (by rw [HN.out]; omega)] at h1
      exact h1
    have HBX := Lib.hid hB.out
    clear hO hB
    go_wp2_with fail
    go_ret
    exact ⟨Av, cv, rfl, HF.out, HBX.out⟩
end Go.Proofs.Ytlmpbmlbllndcaa
