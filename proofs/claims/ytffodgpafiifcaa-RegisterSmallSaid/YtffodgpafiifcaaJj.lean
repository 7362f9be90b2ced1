/-
  sameMoments; what lies there during RegisterLoops.
-/
import Derived.Test.YtffodgpafiifcaaJi
namespace Go.Proofs.Ytffodgpafiifcaa
open Go.RowKit

theorem RMoms.later {w X : World} {u : Value} {ms : List (Int × Int)} (h : RMoms w.heap.size w u ms) (hb : Below w.heap.size w X) : RMoms X.heap.size X u ms := Rd.more (Rd.below h hb) hb.size
structure LS (w : World) (l : LoopD) (b5 b11 : Nat) (rs : List (Value × List Int)) (X : World) : Prop where
  below : Below w.heap.size w X
  b5 : Blk X b5 23 #[.int .i64 l.dead, .int .i64 l.noise, .int .i64 l.blur, .int .i64 l.step]
  b11 : Blk X b11 26 #[.int .i64 l.dead, .int .i64 l.noise, .int .i64 l.blur, .int .i64 l.step]
  rows : ∀ r ∈ rs, RInts X.heap.size X r.1 r.2
theorem LS.next {w : World} {l : LoopD} {b5 b11 : Nat} {rs : List (Value × List Int)} {X Y : World} (h : LS w l b5 b11 rs X) (hb : Below X.heap.size X Y) : LS w l b5 b11 rs Y :=
  ⟨h.below.trans (hb.mono h.below.size), h.b5.below hb h.b5.lt, h.b11.below hb h.b11.lt, fun r hr => ((h.rows r hr).below hb).more hb.size⟩
theorem LS.add {w : World} {l : LoopD} {b5 b11 : Nat} {rs : List (Value × List Int)} {X : World} (h : LS w l b5 b11 rs X) {u : Value} {m : List Int} (hu : RInts X.heap.size X u m) : LS w l b5 b11 ((u, m) :: rs) X :=
  ⟨h.below, h.b5, h.b11, fun r hr => by
    rcases List.mem_cons.1 hr with rfl | hr
    · exact hu
    · exact h.rows r hr⟩
/-- Behind the two Checks. -/
def CutF (w : World) (l : LoopD) (b5 b11 : Nat) (rs : List (Value × List Int)) (s : Value) (X : World) : Prop := s = .bool false ∧ LS w l b5 b11 rs X

set_option maxRecDepth 100000 in
set_option maxHeartbeats 4000000 in
theorem sameMoments_yes (a b : Value) (ms : List (Int × Int)) (w : World) (ha : RMoms w.heap.size w a ms) (hb : RMoms w.heap.size w b ms) :
    Calls Try.prog 21 #[a, b] w fun e w' => e = .returned (.bool true) ∧ Below w.heap.size w w' := by
  obtain ⟨A, c, rfl, hlm, hA⟩ := ha.open_
  obtain ⟨A2, c2, rfl, -, hA2⟩ := hb.open_
  have HA := Lib.hid hA
  have HA2 := Lib.hid hA2
  obtain ⟨n, hn⟩ : ∃ n, ms.length = n := ⟨_, rfl⟩
  have Hn := Lib.hid hn
  rw [hn] at hlm ⊢
  clear ha hb hA hA2 hn
  go_enter Try.func21, Try.ntmps21
  go_wp2
  go_loopw [5] (fun i wr => ∃ k : Nat, k ≤ n ∧ i = .int .i64 k ∧ Below w.heap.size w wr) (fun i _ => n - (intOf i).toNat)
  case atStart => exact ⟨0, Nat.zero_le _, rfl, Below.refl _ _⟩
  case round =>
    obtain ⟨k, hk, rfl, hB⟩ := hrel
    by_cases hlt : k < n
    · obtain ⟨x, hx⟩ : ∃ x, ms[k]? = some x := ⟨_, List.getElem?_eq_getElem (by rw [Hn.out]; exact hlt)⟩
      obtain ⟨g, o, rfl, hg, c1, c2⟩ := HA.out k x hx
      obtain ⟨g2, o2, rfl, hg2, d1, d2⟩ := HA2.out k x hx
      obtain ⟨x1, x2⟩ := x
      have c1' := (hB.cell (p := ⟨g, o + k * 2, none⟩) hg).trans c1
      have c2' := (hB.cell (p := ⟨g, o + k * 2 + 1, none⟩) hg).trans c2
      have d1' := (hB.cell (p := ⟨g2, o2 + k * 2, none⟩) hg2).trans d1
      have d2' := (hB.cell (p := ⟨g2, o2 + k * 2 + 1, none⟩) hg2).trans d2
      dsimp only at c1' c2' d1' d2'
      have Hb := Lib.hid hB
      have ik : (k : Int) < (n : Int) := by omega
      have ik0 : (0 : Int) ≤ (k : Int) := by omega
      clear hx c1 c2 d1 d2 hB
      go_upto_region 6 with fail
      go_quiet (fail)
      go_wp2
      go_roundw
      case rel => exact ⟨k + 1, by omega, by go_num, below_drewN Hb.out _⟩
      case measure => (simp [intOf]) <;> omega
    · have Hb := Lib.hid hB
      clear hB
      go_wp2
      go_ret
      exact ⟨rfl, Hb.out⟩
theorem bound_parts (l : LoopD) : ∃ bv ce, boundRet l = .tuple #[.int .i64 bv, .int .i64 ce] := ⟨_, _, rfl⟩
theorem settle_parts (l : LoopD) (e : Int) : ∃ sv se, settleRet l e = .tuple #[.int .i64 sv, .int .i64 se] := by
  unfold settleRet
  split
  · exact ⟨_, _, rfl⟩
  · split
    · exact ⟨_, _, rfl⟩
    · split <;> exact ⟨_, _, rfl⟩
end Go.Proofs.Ytffodgpafiifcaa
