/-
  errors; awake: the examples of the chapter.
-/
import Derived.Test.YtffodgpafiifcaaDg
namespace Go.Proofs.Ytffodgpafiifcaa
open Go.RowKit

def RMoms (B : Nat) (w : World) (v : Value) (l : List (Int × Int)) : Prop := Rd B w 2 v l.length (momCells l)
theorem OMoms.reads {base : Nat} {w : World} {v : Value} {l : List (Int × Int)} (h : OMoms base w v l) : RMoms w.heap.size w v l := Rd.own h (own_le h)
theorem RMoms.open_ {B : Nat} {w : World} {v : Value} {l : List (Int × Int)} (h : RMoms B w v l) : ∃ A c, v = .slice A l.length c ∧ l.length ≤ 9223372036854775807 ∧
    ∀ k x, l[k]? = some x → ∃ g o, A = some ⟨g, o, none⟩ ∧ g < B ∧ w.cell? ⟨g, o + k * 2, none⟩ = some (.int .i64 x.1) ∧ w.cell? ⟨g, o + k * 2 + 1, none⟩ = some (.int .i64 x.2) := by
  obtain ⟨A, c, rfl, -, hlm, hr⟩ := h
  refine ⟨A, c, rfl, by simpa [maxLen] using hlm, fun k x hx => ?_⟩
  have hk := (List.getElem?_eq_some_iff.1 hx).1
  obtain ⟨g, o, hA, hb, hc⟩ := hr (by omega)
  have hf := fun j (hj : j < 2) => flat_at (fun x : Int × Int => [Value.int .i64 x.1, .int .i64 x.2]) 2 (fun _ => rfl) l k j x hx hj
  refine ⟨g, o, hA, hb, ?_, ?_⟩
  · exact hc (k * 2) _ (by have := hf 0 (by omega); simpa [momCells] using this)
  · have := hc (k * 2 + 1) (.int .i64 x.2) (by have := hf 1 (by omega); simpa [momCells] using this)
    rwa [← Nat.add_assoc] at this

set_option maxRecDepth 100000 in
set_option maxHeartbeats 1000000 in
theorem errors_yes (a b : Value) (l : List (Int × Int)) (want : List Int) (w : World) (ha : RMoms w.heap.size w a l) (hb : RInts w.heap.size w b want) (h : l.map (·.1) = want) :
    Calls Try.prog 40 #[a, b] w fun e w' => e = .returned (.bool true) ∧ Below w.heap.size w w' := by
  obtain ⟨A, c, rfl, hlm, hA⟩ := ha.open_
  obtain ⟨A2, c2, rfl, -, hA2⟩ := hb.open_
  have HA := Lib.hid hA
  have HA2 := Lib.hid hA2
  have H := Lib.hid h
  obtain ⟨n, hn⟩ : ∃ n, l.length = n := ⟨_, rfl⟩
  have hw : want.length = n := by rw [← h, List.length_map, hn]
  have Hn := Lib.hid hn
  have Hw := Lib.hid hw
  rw [hn] at hlm ⊢
  rw [hw]
  clear ha hb hA hA2 h hn hw
  go_enter Try.func40, Try.ntmps40
  go_wp2
  go_loopw [5] (fun i wr => ∃ k : Nat, k ≤ n ∧ i = .int .i64 k ∧ Below w.heap.size w wr) (fun i _ => n - (intOf i).toNat)
  case atStart => exact ⟨0, Nat.zero_le _, rfl, Below.refl _ _⟩
  case round =>
    obtain ⟨k, hk, rfl, hB⟩ := hrel
    by_cases hlt : k < n
    · obtain ⟨z, hlx⟩ : ∃ z, l[k]? = some z := ⟨_, List.getElem?_eq_getElem (by rw [Hn.out]; exact hlt)⟩
      obtain ⟨g, o, rfl, hg, cx, -⟩ := HA.out k _ hlx
      obtain ⟨g2, o2, y, rfl, hg2, cy, hy⟩ := HA2.out k (by rw [Hw.out]; exact hlt)
      have hly := get_some (by rw [Hw.out]; exact hlt) hy.out
      have hxy : z.1 = y := by
        have h1 := congrArg (fun m => m[k]?) H.out
        simp only [List.getElem?_map, hlx, Option.map_some, hly] at h1
        exact Option.some.inj h1
      rw [hxy] at cx
      have cx' := (hB.cell (p := ⟨g, o + k * 2, none⟩) hg).trans cx
      have cy' := (hB.cell (p := ⟨g2, o2 + k, none⟩) hg2).trans cy
      have Hb := Lib.hid hB
      have ik : (k : Int) < (n : Int) := by omega
      have ik0 : (0 : Int) ≤ (k : Int) := by omega
      clear hlx hly hxy hy cx cy hB
      go_wp2
      go_quiet (fail)
      go_wp2
      go_roundw
      case rel => exact ⟨k + 1, by omega, by go_num, below_drewN Hb.out _⟩
      case measure => simp [intOf]; omega
    · have Hb := Lib.hid hB
      clear hB
      go_wp2
      go_ret
      exact ⟨rfl, Hb.out⟩
end Go.Proofs.Ytffodgpafiifcaa
