/-
  numbers: so many numbers within a limit.
-/
import Derived.Test.YtffodgpafiifcaaEc
namespace Go.Proofs.Ytffodgpafiifcaa
open Go.RowKit

/-- So many numbers, all within a limit. -/
def NumQ (B : Nat) (m : Int) (q : Value) (out : List Int) (k : Nat) (w : World) : Prop := out.length = k ∧ (∀ x ∈ out, x ≤ m ∧ -m ≤ x) ∧ OInts B w q out
theorem pick_within (x m : Int) (h : 0 ≤ m) : x % (2 * m + 1) - m ≤ m ∧ -m ≤ x % (2 * m + 1) - m := by
  have h1 := Int.emod_nonneg x (show 2 * m + 1 ≠ 0 by omega)
  have h2 := Int.emod_lt_of_pos x (show 0 < 2 * m + 1 by omega)
  omega

set_option maxRecDepth 100000 in
set_option maxHeartbeats 4000000 in
theorem numbers_any (v : Value) (l : List Int) (n : Nat) (m : Int) (f : Nat) (w : World) (hv : RInts w.heap.size w v l) (hl : l.length ≤ 400) (hn : n ≤ 100000) (hm : 0 ≤ m ∧ m ≤ 1000) (hf : f ≤ 100000) :
    Calls Try.prog 38 #[v, .int .i64 n, .int .i64 m, .int .i64 f] w fun e w' => ∃ u out, e = .returned u ∧ NumQ w.heap.size m u out n w' ∧ Below w.heap.size w w' := by
  obtain ⟨i0, hi, hz0, hz1, hz2⟩ := info_parts infoInt0
  obtain ⟨A, cA, rfl, -, hA⟩ := hv.open_
  have HA := Lib.hid hA
  obtain ⟨ml, hml⟩ : ∃ m, l.length = m := ⟨_, rfl⟩
  have Hml := Lib.hid hml
  rw [hml] at hl ⊢
  obtain ⟨hm1, hm2⟩ := hm
  clear hv hA hml
  go_enter Try.func38, Try.ntmps38
  go_wp2
  go_loopw [9, 10, 11] (fun q i _ wr => ∃ (k : Nat) (out : List Int), k ≤ n ∧ i = .int .i64 k ∧ NumQ w.heap.size m q out k wr ∧ Below w.heap.size w wr) (fun _ i _ _ => n - (intOf i).toNat)
  case atStart => exact ⟨0, [], Nat.zero_le _, rfl, ⟨rfl, fun x hx => absurd hx (by simp), World.ownsRow_nil _ _ _ _⟩, Below.refl _ _⟩
  case round =>
    obtain ⟨k, out, hk, rfl, ⟨hlen, hob, hO⟩, hbr⟩ := hrel
    replace hO : wr.ownsRow w.heap.size 3 1 u9 k (out.map (Value.int .i64)) := by have h1 := hO; unfold OInts at h1; rwa [hlen] at h1
    obtain ⟨Aq, cq, rfl⟩ := ownsRow_form hO
    have HO := Lib.hid hO
    have HBr := Lib.hid hbr
    have Hob := Lib.hid hob
    have Hlen := Lib.hid hlen
    have HAp : Hid (∀ v' w6 y, (y ≤ m ∧ -m ≤ y) → w6.ownsRow w.heap.size 3 1 v' (k + 1) (out.map (Value.int .i64) ++ [.int .i64 y]) → (wr.alloc (.cells #[.int .i64 y] 3)).grownBy w6 (Value.slice Aq k cq).ownBlock → NumQ w.heap.size m v' (out ++ [y]) (k + 1) w6 ∧ Below w.heap.size w w6) := fun v' w6 y hy ho hg => by
      refine ⟨⟨by rw [List.length_append, Hlen.out]; rfl, fun x hx => ?_, ?_⟩, ?_⟩
      · rcases List.mem_append.1 hx with hx | hx
        · exact Hob.out x hx
        · rw [List.mem_singleton] at hx; rw [hx]; exact hy
      · unfold OInts
        rw [List.length_append, Hlen.out, List.map_append]
        exact ho
      · exact (HBr.out.alloc HBr.out.size _).grown hg (by have := HBr.out.size; simp; omega) fun j hj => (HO.out.lt j hj).1
    clear hO hbr hob hlen
    by_cases hlt : k < n
    · by_cases hml0 : 0 < ml
      · obtain ⟨j, hj⟩ : ∃ j, (k * 3 + f) % ml = j := ⟨_, rfl⟩
        have hj1 : j < ml := by rw [← hj]; exact Nat.mod_lt _ hml0
        have hji : ((k : Int) * 3 + (f : Int)) % (ml : Int) = (j : Int) := by rw [← hj, Int.natCast_emod]; simp
        obtain ⟨g, o, x, rfl, hg, cx, -⟩ := HA.out j (by rw [Hml.out]; exact hj1)
        have cx' := (HBr.out.cell (p := ⟨g, o + j, none⟩) hg).trans cx
        have ij : (j : Int) < (ml : Int) := by omega
        have hne : ¬ (ml : Int) = 0 := by omega
        have hr1 : 0 ≤ (k : Int) % 2 * m := Int.mul_nonneg (by omega) hm1
        have hr2 : (k : Int) % 2 * m ≤ 1000 := by
          have := Int.mul_le_mul (show (k : Int) % 2 ≤ 1 by omega) hm2 hm1 (by omega)
          omega
        clear hj cx
        go_wp2_with fail
        refine (pick_any _ (2 * m + 1) (by omega) (by omega) _).mono ?_
        rintro _ _ ⟨rfl, rfl⟩
        obtain ⟨X, hX⟩ : ∃ X, wrap64 (x + (k : Int) % 2 * m) = X := ⟨_, rfl⟩
        rw [hX]
        have hy := pick_within X m hm1
        obtain ⟨y, hye⟩ : ∃ y, X % (2 * m + 1) - m = y := ⟨_, rfl⟩
        rw [hye] at hy
        clear hX cx' hji
        go_wp2_with (at_builtin; refine wpList_append_own _ rfl _ _ 24 rfl w.heap.size 3 i0 _ 1 8 sliceInts hi hz0 hz1 hz2 rfl (by decide) (.slice Aq k cq) k _ rfl (HO.out.alloc _) ⟨wr.heap.size, 0, none⟩ 1 1 [.int .i64 y] rfl rfl (cells_new _ _ _) (by simp [Value.oneCell']) (by simp only [maxLen]; omega) (by omega) (by have := HBr.out.size; simp; omega) ?_; intro v' w6 hown hgrow _; have HN := Lib.hid (HAp.out v' w6 y hy hown hgrow); clear hown hgrow)
        go_roundw
        case rel => exact ⟨k + 1, out ++ [y], by omega, by go_num, HN.out⟩
        case measure => simp [intOf]; omega
      · have hml1 : ml = 0 := by omega
        subst hml1
        have hy : (0 : Int) ≤ m ∧ -m ≤ (0 : Int) := by omega
        go_wp2_with (at_builtin; refine wpList_append_own _ rfl _ _ 24 rfl w.heap.size 3 i0 _ 1 8 sliceInts hi hz0 hz1 hz2 rfl (by decide) (.slice Aq k cq) k _ rfl (HO.out.alloc _) ⟨wr.heap.size, 0, none⟩ 1 1 [.int .i64 (0)] rfl rfl (cells_new _ _ _) (by simp [Value.oneCell']) (by simp only [maxLen]; omega) (by omega) (by have := HBr.out.size; simp; omega) ?_; intro v' w6 hown hgrow _; have HN := Lib.hid (HAp.out v' w6 (0) hy hown hgrow); clear hown hgrow)
        go_roundw
        case rel => exact ⟨k + 1, out ++ [0], by omega, by go_num, HN.out⟩
        case measure => simp [intOf]; omega
    · have hk' : k = n := by omega
      subst hk'
      have HR : Hid (NumQ w.heap.size m (.slice Aq k cq) out k wr ∧ Below w.heap.size w wr) := ⟨⟨Hlen.out, Hob.out, by unfold OInts; rw [Hlen.out]; exact HO.out⟩, HBr.out⟩
      clear HO HBr HAp
      go_wp2
      go_ret
      exact ⟨_, out, rfl, HR.out⟩
end Go.Proofs.Ytffodgpafiifcaa
