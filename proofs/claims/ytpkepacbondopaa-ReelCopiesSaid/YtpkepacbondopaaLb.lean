/-
  A press in memory; numbers within limits; what a reel and a web give.
-/
import Derived.Test.YtpkepacbondopaaLa
import Derived.Test.YtpkepacbondopaaPa
namespace Go.Proofs.Ytpkepacbondopaa
open Go.RowKit

def ReelD.cells (x : ReelD) : List Value := [.int .i64 x.id, .int .i64 x.width, .int .i64 x.length, .int .i64 x.core]
def ReelD.val (x : ReelD) : Value := .agg #[.int .i64 x.id, .int .i64 x.width, .int .i64 x.length, .int .i64 x.core]
def webCells (x : WebD) (v : Value) : List Value := [v, .int .i64 x.off, .int .i64 x.before, .int .i64 x.after]
def RReels (B : Nat) (w : World) (v : Value) (l : List ReelD) : Prop := Rd B w 4 v l.length (l.flatMap ReelD.cells)
def RWebs (B : Nat) (w : World) (v : Value) (l : List WebD) : Prop :=
  ∃ vs : List Value, Rd B w 4 v l.length ((l.zip vs).flatMap fun x => webCells x.1 x.2) ∧ vs.length = l.length ∧ ∀ (i : Nat) (u : Value) (x : WebD), vs[i]? = some u → l[i]? = some x → RReels B w u x.reels
def RPress (B : Nat) (w : World) (v : Value) (p : PressD) : Prop := ∃ u, v = .agg #[.int .i64 p.cut, .int .i64 p.margin, u] ∧ RWebs B w u p.webs
section
variable {B B' : Nat} {w w' : World} {v : Value}
theorem RWebs.keep {l : List WebD} (h : RWebs B w v l) (hk : ∀ p : Addr, p.block < B → w'.cell? p = w.cell? p) : RWebs B w' v l := by
  obtain ⟨vs, h1, h2, h3⟩ := h
  exact ⟨vs, h1.keep hk, h2, fun i u x hu hx => Rd.keep (h3 i u x hu hx) hk⟩
theorem RWebs.more {l : List WebD} (h : RWebs B w v l) (hB : B ≤ B') : RWebs B' w v l := by
  obtain ⟨vs, h1, h2, h3⟩ := h
  exact ⟨vs, h1.more hB, h2, fun i u x hu hx => Rd.more (h3 i u x hu hx) hB⟩
theorem RWebs.below {l : List WebD} (h : RWebs B w v l) (hb : Below B w w') : RWebs B w' v l := h.keep fun _ hp => hb.cell hp
theorem RPress.below {p : PressD} (h : RPress B w v p) (hb : Below B w w') : RPress B w' v p := by
  obtain ⟨u, rfl, h⟩ := h
  exact ⟨u, rfl, h.below hb⟩
theorem RPress.more {p : PressD} (h : RPress B w v p) (hB : B ≤ B') : RPress B' w v p := by
  obtain ⟨u, rfl, h⟩ := h
  exact ⟨u, rfl, h.more hB⟩
theorem RReels.open_ {l : List ReelD} (h : RReels B w v l) : ∃ A c, v = .slice A l.length c ∧ l.length ≤ 9223372036854775807 ∧
    ∀ k x, l[k]? = some x → ∃ g o, A = some ⟨g, o, none⟩ ∧ g < B ∧ w.cell? ⟨g, o + k * 4, none⟩ = some (.int .i64 x.id) ∧ w.cell? ⟨g, o + k * 4 + 1, none⟩ = some (.int .i64 x.width) ∧ w.cell? ⟨g, o + k * 4 + 2, none⟩ = some (.int .i64 x.length) ∧ w.cell? ⟨g, o + k * 4 + 3, none⟩ = some (.int .i64 x.core) := by
  obtain ⟨A, c, rfl, -, hm, hr⟩ := h
  refine ⟨A, c, rfl, by simpa [maxLen] using hm, fun k x hx => ?_⟩
  have hk : k < l.length := (List.getElem?_eq_some_iff.1 hx).1
  obtain ⟨g, o, hA, hb, hc⟩ := hr (by omega)
  have hf := fun j hj => flat_at ReelD.cells 4 (fun _ => rfl) _ k j _ hx hj
  exact ⟨g, o, hA, hb, hc _ _ (hf 0 (by omega)), hc _ _ (hf 1 (by omega)), hc _ _ (hf 2 (by omega)), hc _ _ (hf 3 (by omega))⟩
theorem RWebs.open_ {l : List WebD} (h : RWebs B w v l) : ∃ A c, v = .slice A l.length c ∧ l.length ≤ 9223372036854775807 ∧
    ∀ k x, l[k]? = some x → ∃ g o A2 c2, A = some ⟨g, o, none⟩ ∧ g < B ∧ w.cell? ⟨g, o + k * 4, none⟩ = some (.slice A2 x.reels.length c2) ∧ w.cell? ⟨g, o + k * 4 + 1, none⟩ = some (.int .i64 x.off) ∧ w.cell? ⟨g, o + k * 4 + 2, none⟩ = some (.int .i64 x.before) ∧ w.cell? ⟨g, o + k * 4 + 3, none⟩ = some (.int .i64 x.after) ∧ RReels B w (.slice A2 x.reels.length c2) x.reels := by
  obtain ⟨vs, ⟨A, c, rfl, -, hm, hr⟩, hl, hp⟩ := h
  refine ⟨A, c, rfl, by simpa [maxLen] using hm, fun k x hx => ?_⟩
  have hk : k < l.length := (List.getElem?_eq_some_iff.1 hx).1
  obtain ⟨g, o, hA, hb, hc⟩ := hr (by omega)
  have hv : vs[k]? = some (vs[k]'(by omega)) := List.getElem?_eq_getElem (by omega)
  have hz : (l.zip vs)[k]? = some (x, vs[k]'(by omega)) := by rw [List.getElem?_zip_eq_some]; exact ⟨hx, hv⟩
  have hf := fun j hj => flat_at (fun x : WebD × Value => webCells x.1 x.2) 4 (fun _ => rfl) _ k j _ hz hj
  have hr9 := hp k _ x hv hx
  obtain ⟨A2, c2, e2, -⟩ := slice_len hr9
  rw [e2] at hr9
  refine ⟨g, o, A2, c2, hA, hb, ?_, hc _ _ (hf 1 (by omega)), hc _ _ (hf 2 (by omega)), hc _ _ (hf 3 (by omega)), hr9⟩
  have := hc _ _ (hf 0 (by omega))
  simp only [webCells, List.getElem?_cons_zero, e2] at this
  simpa using this
end

/-- A number within limits. -/
def withinB (n lo hi : Int) : Bool := decide (lo ≤ n ∧ n ≤ hi)
theorem within_t {n lo hi : Int} (h1 : lo ≤ n) (h2 : n ≤ hi) : withinB n lo hi = true := decide_eq_true ⟨h1, h2⟩
theorem within_f {n lo hi : Int} (h : ¬ (lo ≤ n ∧ n ≤ hi)) : withinB n lo hi = false := decide_eq_false h
theorem within_iff {n lo hi : Int} : withinB n lo hi = true ↔ lo ≤ n ∧ n ≤ hi := decide_eq_true_iff
set_option maxHeartbeats 400000 in
theorem within_any (n lo hi : Int) (w : World) : Calls Try.prog 75 #[.int .i64 n, .int .i64 lo, .int .i64 hi] w fun e w' => e = .returned (.bool (withinB n lo hi)) ∧ w = w' := by
  by_cases h1 : lo ≤ n
  · by_cases h2 : n ≤ hi
    · go_enter Try.func75, Try.ntmps75
      go_wp2
      go_ret
      exact ⟨rb (within_t h1 h2).symm.symm, rfl⟩
    · go_enter Try.func75, Try.ntmps75
      go_wp2
      go_ret
      exact ⟨rb (within_f (by omega)), rfl⟩
  · go_enter Try.func75, Try.ntmps75
    go_wp2
    go_ret
    exact ⟨rb (within_f (by omega)), rfl⟩

set_option maxHeartbeats 400000 in
theorem gives_any (x : ReelD) (hx : x.ok) (w : World) : Calls Try.prog 79 #[.agg #[.int .i64 x.id, .int .i64 x.width, .int .i64 x.length, .int .i64 x.core]] w fun e w' => e = .returned (.int .i64 x.gives) ∧ Below w.heap.size w w' := by
  obtain ⟨i, wd, n, c⟩ := x
  obtain ⟨-, -, ⟨h1, h2⟩, h3, h4⟩ := hx
  simp only at h1 h2 h3 h4
  go_enter Try.func79, Try.ntmps79
  go_wp2
  go_ret
  exact ⟨rfl, below_alloc _ _⟩

theorem gives_bound {x : ReelD} (hx : x.ok) : 0 ≤ x.gives ∧ x.gives ≤ 20000000 := by
  obtain ⟨-, -, ⟨h1, h2⟩, h3, h4⟩ := hx
  unfold ReelD.gives
  omega
theorem givesL_bound : ∀ {l : List ReelD}, (∀ r ∈ l, r.ok) → 0 ≤ givesL l ∧ givesL l ≤ 20000000 * (l.length : Int)
  | [], _ => by simp [givesL]
  | x :: l, h => by
    have h1 := gives_bound (h x (List.mem_cons_self ..))
    have h2 := givesL_bound (l := l) fun r hr => h r (List.mem_cons_of_mem _ hr)
    unfold givesL at h2 ⊢
    simp only [List.map_cons, List.sum_cons, List.length_cons]
    omega
theorem take_snoc_get {α : Type} {l : List α} {k : Nat} {x : α} (h : l[k]? = some x) : l.take (k + 1) = l.take k ++ [x] := by
  obtain ⟨hk, rfl⟩ := List.getElem?_eq_some_iff.1 h
  exact List.take_succ_eq_append_getElem hk
theorem givesL_next {l : List ReelD} {k : Nat} {x : ReelD} (h : l[k]? = some x) : givesL (l.take (k + 1)) = givesL (l.take k) + x.gives := by rw [take_snoc_get h, givesL_snoc]
theorem mem_take_ok {l : List ReelD} (h : ∀ r ∈ l, r.ok) (k : Nat) : ∀ r ∈ l.take k, r.ok := fun r hr => h r (List.mem_of_mem_take hr)

set_option maxHeartbeats 1000000 in
theorem webGives_any (x : WebD) (A : Option Addr) (c : Nat) (hx : ∀ r ∈ x.reels, r.ok) (hl : x.reels.length ≤ 20) (w : World) (h : RReels w.heap.size w (.slice A x.reels.length c) x.reels) :
    Calls Try.prog 113 #[.agg #[.slice A x.reels.length c, .int .i64 x.off, .int .i64 x.before, .int .i64 x.after]] w fun e w' => e = .returned (.int .i64 (givesL x.reels)) ∧ Below w.heap.size w w' := by
  obtain ⟨A', c', e1, hlm, hr⟩ := h.open_
  cases e1
  obtain ⟨n, hn⟩ : ∃ n, x.reels.length = n := ⟨_, rfl⟩
  rw [hn] at hl hlm ⊢
  have Hn := Lib.hid hn
  have HX := Lib.hid hx
  have HR := Lib.hid hr
  clear hn hx hr h
  have F0 : ∃ W0, w.alloc (.cells #[.slice A n c, .int .i64 x.off, .int .i64 x.before, .int .i64 x.after] 47) = W0 ∧ Below w.heap.size w W0 := ⟨_, rfl, below_alloc _ _⟩
  obtain ⟨W0, e0, hb0⟩ := F0
  have E0 := Lib.hid e0
  have HB0 := Lib.hid hb0
  clear e0 hb0
  go_enter Try.func113, Try.ntmps113
  go_wp2
  rw [E0.out]
  go_loopw [3, 9] (fun s i wr => ∃ k : Nat, k ≤ n ∧ i = .int .i64 k ∧ ∃ g : Int, s = .int .i64 g ∧ Hid (g = givesL (x.reels.take k)) ∧ 0 ≤ g ∧ g ≤ 20000000 * k ∧ Hid (Below w.heap.size w wr)) (fun _ i _ => n - (intOf i).toNat)
  case atStart => exact ⟨0, Nat.zero_le _, rfl, 0, rfl, rfl, by omega, by omega, HB0⟩
  case round =>
    obtain ⟨k, hk, rfl, g, rfl, hg, hg1, hg2, hB⟩ := hrel
    by_cases hlt : k < n
    · obtain ⟨y, hy⟩ : ∃ y, x.reels[k]? = some y := ⟨_, List.getElem?_eq_getElem (by rw [Hn.out]; exact hlt)⟩
      obtain ⟨b, o, rfl, hb, c0, c1, c2, c3⟩ := HR.out k y hy
      rw [← hB.out.cell (p := ⟨b, o + k * 4, none⟩) hb] at c0
      rw [← hB.out.cell (p := ⟨b, o + k * 4 + 1, none⟩) hb] at c1
      rw [← hB.out.cell (p := ⟨b, o + k * 4 + 2, none⟩) hb] at c2
      rw [← hB.out.cell (p := ⟨b, o + k * 4 + 3, none⟩) hb] at c3
      have hyo := HX.out y (List.mem_of_getElem? hy)
      have hyb := gives_bound hyo
      have CG := Lib.hid (fun W => gives_any y hyo W)
      have HN := Lib.hid (givesL_next hy)
      obtain ⟨hy1, hy2⟩ := hyb
      clear hy hyo
      go_wp2_with fail
      refine (CG.out _).mono ?_
      rintro _ w1 ⟨rfl, hb1⟩
      have HB1 := Lib.hid (hB.out.trans (((below_alloc _ _).trans (hb1.mono (by simp))).mono hB.out.size))
      clear hb1 hB c0 c1 c2 c3
      go_wp2
      go_roundw
      case rel => exact ⟨k + 1, by omega, by go_num, _, rfl, by show _ = _; rw [HN.out, hg.out], by omega, by omega, HB1⟩
      case measure => simp [intOf]; omega
    · go_wp2
      go_ret
      exact ⟨ri (by rw [hg.out, List.take_of_length_le (by rw [Hn.out]; omega)]), hB.out⟩
end Go.Proofs.Ytpkepacbondopaa
