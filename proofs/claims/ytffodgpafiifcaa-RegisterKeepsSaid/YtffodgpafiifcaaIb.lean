/-
  The reference's wrong, found.
-/
import Derived.Test.YtffodgpafiifcaaIa
namespace Go.Proofs.Ytffodgpafiifcaa
open Go.RowKit

def NoHit (seen : List Int) (lo hi : Int) (k : Nat) : Prop := ∀ (j : Nat) (y : Int), j < k → seen[j]? = some y → ¬ (lo ≤ y ∧ y ≤ hi)
theorem findD_hit {seen : List Int} (ha : Ascends seen) {lo hi x : Int} {k : Nat} (hx : seen[k]? = some x) (h : lo ≤ x ∧ x ≤ hi) (hn : NoHit seen lo hi k) : findD seen lo hi = x := by
  have hk := (List.getElem?_eq_some_iff.1 hx).1
  have hP : Parts seen lo k := ⟨by omega, fun j y hj hy => by
    have h1 := hn j y hj hy
    have h2 := ha j k y x hj hy hx
    omega, fun j y hj hy => by
    by_cases he : j = k
    · subst he; rw [hx] at hy; cases hy; exact h.1
    · have h2 := ha k j x y (by omega) hx hy
      omega⟩
  rw [findD_some hP hx, if_pos h.2]
theorem findD_miss {seen : List Int} {lo hi : Int} (hn : NoHit seen lo hi seen.length) : findD seen lo hi = lostD := by
  unfold findD
  cases hf : seen.find? (fun s => decide (lo ≤ s)) with
  | none => rfl
  | some s =>
    have h1 := List.find?_some hf
    have h2 := List.mem_of_find?_eq_some hf
    obtain ⟨i, hil, rfl⟩ := List.getElem_of_mem h2
    have h3 := hn i _ hil (List.getElem?_eq_getElem hil)
    have h4 : lo ≤ seen[i] := by simpa using h1
    show (if seen[i] ≤ hi then seen[i] else lostD) = lostD
    rw [if_neg (by omega)]

set_option maxRecDepth 100000 in
set_option maxHeartbeats 2000000 in
theorem refFound_any (v : Value) (seen : List Int) (lo hi : Int) (w : World) (hv : RInts w.heap.size w v seen) (hl : seen.length ≤ 1000000) (ha : Ascends seen) :
    Calls Try.prog 52 #[v, .int .i64 lo, .int .i64 hi] w fun e w' => e = .returned (.int .i64 (findD seen lo hi)) ∧ w = w' := by
  obtain ⟨A, c, rfl, -, hA⟩ := hv.open_
  have HA := Lib.hid hA
  have Hs := Lib.hid ha
  obtain ⟨n, hn⟩ : ∃ n, seen.length = n := ⟨_, rfl⟩
  have Hn := Lib.hid hn
  rw [hn] at hl ⊢
  clear hv hA hn ha
  go_enter Try.func52, Try.ntmps52
  go_wp2
  go_loop [7] (fun i => ∃ k : Nat, k ≤ n ∧ i = .int .i64 k ∧ NoHit seen lo hi k) (fun i => n - (intOf i).toNat)
  case atStart => exact ⟨0, Nat.zero_le _, rfl, fun j y hj => absurd hj (by omega)⟩
  case round =>
    obtain ⟨k, hk, rfl, hto⟩ := hrel
    have HT := Lib.hid hto
    clear hto
    by_cases hlt : k < n
    · obtain ⟨g, o, x, rfl, hg, cx, hx⟩ := HA.out k (by rw [Hn.out]; exact hlt)
      have HLx := Lib.hid (get_some (by rw [Hn.out]; exact hlt) hx.out)
      have ik : (k : Int) < (n : Int) := by omega
      clear hx
      by_cases h1 : lo ≤ x
      · by_cases h2 : x ≤ hi
        · have HR : Hid (findD seen lo hi = x) := findD_hit Hs.out HLx.out ⟨h1, h2⟩ HT.out
          go_wp2
          go_ret
          exact ⟨by rw [HR.out]; rfl, rfl⟩
        · have HN : Hid (NoHit seen lo hi (k + 1)) := fun j y hj hy => by
            by_cases he : j = k
            · subst he; rw [HLx.out] at hy; cases hy; exact fun h => h2 h.2
            · exact HT.out j y (by omega) hy
          go_wp2
          refine ⟨⟨k + 1, by omega, by go_num, HN.out⟩, by simp [intOf]; omega⟩
      · have HN : Hid (NoHit seen lo hi (k + 1)) := fun j y hj hy => by
            by_cases he : j = k
            · subst he; rw [HLx.out] at hy; cases hy; exact fun h => h1 h.1
            · exact HT.out j y (by omega) hy
        go_wp2
        refine ⟨⟨k + 1, by omega, by go_num, HN.out⟩, by simp [intOf]; omega⟩
    · have hk' : k = n := by omega
      subst hk'
      have HR : Hid (findD seen lo hi = 1000000000) := findD_miss (by rw [Hn.out]; exact HT.out)
      go_wp2
      go_ret
      exact ⟨by rw [HR.out]; rfl, rfl⟩

set_option maxRecDepth 100000 in
set_option maxHeartbeats 4000000 in
theorem refWrong_any (v : Value) (marks : List Int) (W : Int) (w : World) (hv : RInts w.heap.size w v marks) (hl : marks.length ≤ 1000000) :
    Calls Try.prog 51 #[v, .int .i64 W] w fun e w' => BoolRet (¬ AllowOk marks W) e ∧ Below w.heap.size w w' := by
  obtain ⟨A, c, rfl, -, hA⟩ := hv.open_
  have HA := Lib.hid hA
  obtain ⟨n, hn⟩ : ∃ n, marks.length = n := ⟨_, rfl⟩
  have Hn := Lib.hid hn
  rw [hn] at hl ⊢
  clear hv hA hn
  go_enter Try.func51, Try.ntmps51
  by_cases hW1 : W < 0
  · have HNo : Hid (¬ AllowOk marks W) := fun h => by have := h.wind; omega
    go_wp2
    go_ret
    exact ⟨BoolRet.yes HNo.out, Below.refl _ _⟩
  · by_cases hW2 : 5000 < W
    · have HNo : Hid (¬ AllowOk marks W) := fun h => by have := h.wind; omega
      go_wp2
      go_ret
      exact ⟨BoolRet.yes HNo.out, Below.refl _ _⟩
    · go_wp2
      go_loopw [5] (fun i wr => ∃ k : Nat, k ≤ n ∧ i = .int .i64 k ∧ MarksTo marks (4 * W) 0 100000 k ∧ Below w.heap.size w wr) (fun i _ => n - (intOf i).toNat)
      case atStart => exact ⟨0, Nat.zero_le _, rfl, MarksTo.zero _ _ _ _, Below.refl _ _⟩
      case round =>
        obtain ⟨k, hk, rfl, hto, hb⟩ := hrel
        have HT := Lib.hid hto
        have Hb := Lib.hid hb
        clear hto
        by_cases hlt : k < n
        · obtain ⟨g, o, x, rfl, hg, cx, hx⟩ := HA.out k (by rw [Hn.out]; exact hlt)
          have HLx := Lib.hid (get_some (by rw [Hn.out]; exact hlt) hx.out)
          have cx' := (hb.cell (p := ⟨g, o + k, none⟩) hg).trans cx
          have ik : (k : Int) < (n : Int) := by omega
          clear hx cx
          by_cases h1 : x < 0
          · have HNo : Hid (¬ AllowOk marks W) := fun h => by have := h.place x (List.mem_of_getElem? HLx.out); omega
            clear hb
            go_wp2
            go_ret
            exact ⟨BoolRet.yes HNo.out, Hb.out⟩
          · by_cases h2 : 100000 < x
            · have HNo : Hid (¬ AllowOk marks W) := fun h => by have := h.place x (List.mem_of_getElem? HLx.out); omega
              clear hb
              go_wp2
              go_ret
              exact ⟨BoolRet.yes HNo.out, Hb.out⟩
            · have Hin := Lib.hid (show 0 ≤ x ∧ x ≤ 100000 by omega)
              rcases Nat.eq_zero_or_pos k with hk0 | hk0
              · subst hk0
                rw [Nat.add_zero] at cx'
                clear hb
                go_upto_region 8 with fail
                go_quiet (fail)
                go_wp2
                go_roundw
                case rel => exact ⟨1, by omega, by go_num, MarksTo.one HLx.out Hin.out, below_drewN Hb.out _⟩
                case measure => simp [intOf]; omega
              · obtain ⟨m, rfl⟩ : ∃ m, k = m + 1 := ⟨k - 1, by omega⟩
                obtain ⟨g', o', y, hgg, hg', cy, hy⟩ := HA.out m (by rw [Hn.out]; omega)
                cases hgg
                have HLy := Lib.hid (get_some (by rw [Hn.out]; omega) hy.out)
                have hyp := HT.out.place m y (by omega) HLy.out
                have cy' := (hb.cell (p := ⟨g, o + m, none⟩) hg).trans cy
                have im1 : ((m + 1 : Nat) : Int) - 1 = (m : Int) := by omega
                have im2 : (m : Int) < (n : Int) := by omega
                have im3 : (0 : Int) < ((m + 1 : Nat) : Int) := by omega
                have im0 : (0 : Int) ≤ (m : Int) := by omega
                have kw1 : IntKind.i64.wrap (m : Int) = (m : Int) := IntWalk.i64_in _ ⟨by omega, by omega⟩
                have kw2 : IntKind.i64.wrap (y + 4 * W) = y + 4 * W := IntWalk.i64_in _ ⟨by omega, by omega⟩
                have kw3 : IntKind.i64.wrap (4 * W) = 4 * W := IntWalk.i64_in _ ⟨by omega, by omega⟩
                clear hy cy hb
                by_cases hyx : 4 * W < x - y
                · have hd : decide (x ≤ y + 4 * W) = false := by simp; omega
                  have hd2 : ¬ x ≤ y + 4 * W := by omega
                  go_upto_region 8 with fail
                  go_quiet (fail)
                  clear kw1 kw2 kw3
                  go_wp2
                  go_roundw
                  case rel => exact ⟨m + 2, by omega, by go_num, HT.out.next HLy.out HLx.out Hin.out hyx, below_drewN Hb.out _⟩
                  case measure => simp [intOf]; omega
                · have hd : decide (x ≤ y + 4 * W) = true := by simp; omega
                  have hd2 : x ≤ y + 4 * W := by omega
                  have HNo : Hid (¬ AllowOk marks W) := fun h => hyx (h.apart m y x HLy.out HLx.out)
                  clear hyx
                  go_upto_region 8 with fail
                  go_quiet (fail)
                  clear kw1 kw2 kw3
                  go_wp2
                  go_ret
                  exact ⟨BoolRet.yes HNo.out, below_drewN Hb.out _⟩
        · have hk' : k = n := by omega
          subst hk'
          have HY : Hid (¬ ¬ AllowOk marks W) := fun h => h (MarksTo.allow (by rw [Hn.out]; exact HT.out) (by omega))
          clear hb
          go_wp2
          go_ret
          exact ⟨BoolRet.no HY.out, Hb.out⟩
end Go.Proofs.Ytffodgpafiifcaa
