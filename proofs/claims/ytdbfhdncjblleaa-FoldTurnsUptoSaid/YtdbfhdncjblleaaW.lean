/-
  beside.
-/
import Derived.Test.YtdbfhdncjblleaaV
import Derived.Deep.RegionWith
import Derived.Deep.RegionHeld3
namespace Go.Proofs.Ytdbfhdncjblleaa
open Go.RowKit

def besideB (r : RunD) (a b : SpotD) : Bool := decide (a.web = b.web ∧ a.side = b.side ∧ a.row = b.row) && decide (a.col - b.col = 1 ∨ b.col - a.col = 1) && decide (idxD r a = idxD r b)
theorem beside_no1 {r : RunD} {a b : SpotD} (h : ¬ (a.web = b.web ∧ a.side = b.side ∧ a.row = b.row)) : besideB r a b = false := by unfold besideB; rw [decide_eq_false h]; rfl
theorem beside_no2 {r : RunD} {a b : SpotD} (h : ¬ (a.col - b.col = 1 ∨ b.col - a.col = 1)) : besideB r a b = false := by unfold besideB; rw [decide_eq_false h, Bool.and_false]; rfl
theorem beside_yes {r : RunD} {a b : SpotD} (h1 : a.web = b.web ∧ a.side = b.side ∧ a.row = b.row) (h2 : a.col - b.col = 1 ∨ b.col - a.col = 1) : besideB r a b = (idxD r a == idxD r b) := by
  unfold besideB; rw [decide_eq_true h1, decide_eq_true h2, Bool.true_and, Bool.true_and]
  rw [Bool.eq_iff_iff]; simp

set_option maxRecDepth 100000 in
set_option maxHeartbeats 4000000 in
theorem beside_any (v : Value) (r : RunD) (a b : SpotD) (w : World) (h : RRun w.heap.size w v r) (hok : checkE r = 0) (ha : 0 ≤ a.col ∧ a.col ≤ 1000) (hb : 0 ≤ b.col ∧ b.col ≤ 1000) :
    Calls Try.prog 51 #[v, a.val, b.val] w fun e w' => e = .returned (.bool (besideB r a b)) ∧ Below w.heap.size w w' := by
  have hrun := Lib.hid h
  have Hok := Lib.hid hok
  obtain ⟨A1, c1, A2, c2, A3, c3, rfl⟩ := h.shape
  clear h hok
  obtain ⟨aw, as_, ar, ac⟩ := a
  obtain ⟨bw, bs, br, bc⟩ := b
  dsimp only at ha hb
  obtain ⟨ha1, ha2⟩ := ha
  obtain ⟨hb1, hb2⟩ := hb
  unfold SpotD.val
  have F0 : ∃ W0, ((w.alloc (.cells #[.slice A1 r.webs.length c1, .slice A2 r.ribs.length c2, .slice A3 r.stacks.length c3, .bool r.coll] 111)).alloc (.cells #[.int .i64 aw, .int .i64 as_, .int .i64 ar, .int .i64 ac] 53)).alloc (.cells #[.int .i64 bw, .int .i64 bs, .int .i64 br, .int .i64 bc] 53) = W0 ∧
      W0.heap.size = w.heap.size + 3 ∧ Below w.heap.size w W0 ∧ Blk W0 w.heap.size 111 #[.slice A1 r.webs.length c1, .slice A2 r.ribs.length c2, .slice A3 r.stacks.length c3, .bool r.coll] ∧ Blk W0 (w.heap.size + 1) 53 #[.int .i64 aw, .int .i64 as_, .int .i64 ar, .int .i64 ac] ∧ Blk W0 (w.heap.size + 1 + 1) 53 #[.int .i64 bw, .int .i64 bs, .int .i64 br, .int .i64 bc] := by
    refine ⟨_, rfl, by simp, ((((Below.refl _ _).alloc (Nat.le_refl _) _).alloc (by simp) _).alloc (by simp; omega) _), ((Blk.new w _ _).alloc _).alloc _, ?_, ?_⟩
    · have := Blk.new (w.alloc (.cells #[.slice A1 r.webs.length c1, .slice A2 r.ribs.length c2, .slice A3 r.stacks.length c3, .bool r.coll] 111)) 53 #[.int .i64 aw, .int .i64 as_, .int .i64 ar, .int .i64 ac]
      rw [World.size_alloc] at this
      exact this.alloc _
    · have := Blk.new ((w.alloc (.cells #[.slice A1 r.webs.length c1, .slice A2 r.ribs.length c2, .slice A3 r.stacks.length c3, .bool r.coll] 111)).alloc (.cells #[.int .i64 aw, .int .i64 as_, .int .i64 ar, .int .i64 ac] 53)) 53 #[.int .i64 bw, .int .i64 bs, .int .i64 br, .int .i64 bc]
      rw [World.size_alloc, World.size_alloc] at this
      exact this
  obtain ⟨W0, e0, z0, B0, V0, P0, Q0⟩ := F0
  by_cases h1 : aw = bw
  case neg =>
    have h1' : (aw != bw) = true := by simpa using h1
    have Hn : Hid (besideB r ⟨aw, as_, ar, ac⟩ ⟨bw, bs, br, bc⟩ = false) := beside_no1 (fun h => h1 h.1)
    clear h1
    have E0 := Lib.hid e0
    clear e0 z0 V0 P0 Q0
    go_enter Try.func51, Try.ntmps51
    go_wp2
    rw [E0.out]
    go_ret
    exact ⟨rb Hn.out, B0⟩
  by_cases h2 : as_ = bs
  case neg =>
    have h2' : (as_ != bs) = true := by simpa using h2
    have Hn : Hid (besideB r ⟨aw, as_, ar, ac⟩ ⟨bw, bs, br, bc⟩ = false) := beside_no1 (fun h => h2 h.2.1)
    subst h1
    clear h2
    have E0 := Lib.hid e0
    clear e0 z0 V0 P0 Q0
    go_enter Try.func51, Try.ntmps51
    go_wp2
    rw [E0.out]
    go_ret
    exact ⟨rb Hn.out, B0⟩
  by_cases h3 : ar = br
  case neg =>
    have h3' : (ar != br) = true := by simpa using h3
    have Hn : Hid (besideB r ⟨aw, as_, ar, ac⟩ ⟨bw, bs, br, bc⟩ = false) := beside_no1 (fun h => h3 h.2.2)
    subst h1 h2
    clear h3
    have E0 := Lib.hid e0
    clear e0 z0 V0 P0 Q0
    go_enter Try.func51, Try.ntmps51
    go_wp2
    rw [E0.out]
    go_ret
    exact ⟨rb Hn.out, B0⟩
  subst h1 h2 h3
  by_cases h4 : ac - bc = 1 ∨ bc - ac = 1
  case neg =>
    have h4' : (ac - bc != 1) = true := by simp; omega
    have h5' : (bc - ac != 1) = true := by simp; omega
    have Hn : Hid (besideB r ⟨aw, as_, ar, ac⟩ ⟨aw, as_, ar, bc⟩ = false) := beside_no2 h4
    clear h4
    have E0 := Lib.hid e0
    clear e0 z0 V0 P0 Q0
    go_enter Try.func51, Try.ntmps51
    go_wp2
    rw [E0.out]
    go_ret
    exact ⟨rb Hn.out, B0⟩
  have Hn : Hid (besideB r ⟨aw, as_, ar, ac⟩ ⟨aw, as_, ar, bc⟩ = (idxD r ⟨aw, as_, ar, ac⟩ == idxD r ⟨aw, as_, ar, bc⟩)) := beside_yes ⟨rfl, rfl, rfl⟩ h4
  have hfacts : ∀ X, Below W0.heap.size W0 X → X.cell? ⟨w.heap.size, 0, none⟩ = some (.slice A1 r.webs.length c1) ∧ X.cell? ⟨w.heap.size, 1, none⟩ = some (.slice A2 r.ribs.length c2) ∧ X.cell? ⟨w.heap.size, 2, none⟩ = some (.slice A3 r.stacks.length c3) ∧ X.cell? ⟨w.heap.size, 3, none⟩ = some (.bool r.coll) ∧
      X.cell? ⟨w.heap.size + 1, 0, none⟩ = some (.int .i64 aw) ∧ X.cell? ⟨w.heap.size + 1, 1, none⟩ = some (.int .i64 as_) ∧ X.cell? ⟨w.heap.size + 1, 2, none⟩ = some (.int .i64 ar) ∧ X.cell? ⟨w.heap.size + 1, 3, none⟩ = some (.int .i64 ac) ∧
      X.cell? ⟨w.heap.size + 1 + 1, 0, none⟩ = some (.int .i64 aw) ∧ X.cell? ⟨w.heap.size + 1 + 1, 1, none⟩ = some (.int .i64 as_) ∧ X.cell? ⟨w.heap.size + 1 + 1, 2, none⟩ = some (.int .i64 ar) ∧ X.cell? ⟨w.heap.size + 1 + 1, 3, none⟩ = some (.int .i64 bc) := fun X hX => by
    have k1 := V0.below hX (by omega)
    have k2 := P0.below hX (by omega)
    have k3 := Q0.below hX (by omega)
    exact ⟨cellOf k1 0 rfl, cellOf k1 1 rfl, cellOf k1 2 rfl, cellOf k1 3 rfl, cellOf k2 0 rfl, cellOf k2 1 rfl, cellOf k2 2 rfl, cellOf k2 3 rfl, cellOf k3 0 rfl, cellOf k3 1 rfl, cellOf k3 2 rfl, cellOf k3 3 rfl⟩
  have HF := Lib.hid hfacts
  have hcall : ∀ (sw ss sr sc : Int) (X : World), Below W0.heap.size W0 X → Calls Try.prog 70 #[.agg #[.slice A1 r.webs.length c1, .slice A2 r.ribs.length c2, .slice A3 r.stacks.length c3, .bool r.coll], .agg #[.int .i64 sw, .int .i64 ss, .int .i64 sr, .int .i64 sc]] X fun e w' => e = .returned (.int .i64 (idxD r ⟨sw, ss, sr, sc⟩)) ∧ Below W0.heap.size W0 w' :=
    fun sw ss sr sc X hX => (ribbonOf_any _ r ⟨sw, ss, sr, sc⟩ X ((hrun.out.below (B0.trans (hX.mono B0.size))).more (Nat.le_trans B0.size hX.size)) Hok.out).mono fun e w' he => ⟨he.1, hX.trans (he.2.mono hX.size)⟩
  have HC := Lib.hid hcall
  have E0 := Lib.hid e0
  clear hfacts hcall V0 P0 Q0 e0 z0
  have h4' : ((ac - bc != 1) && (bc - ac != 1)) = false := by
    rcases h4 with h | h
    · rw [h]; rfl
    · rw [h]; simp
  by_cases h6 : ac - bc = 1
  · have h6' : (ac - bc != 1) = false := by simpa using h6
    clear h6 h4 h4'
    go_enter Try.func51, Try.ntmps51
    go_wp2_with fail
    rw [E0.out]
    obtain ⟨d0, d1, d2, d3, p0, p1, p2, p3, q0, q1, q2, q3⟩ := HF.out W0 (Below.refl _ _)
    go_region_held3 (fun X => X.cell? ⟨w.heap.size, 0, none⟩ = some (.slice A1 r.webs.length c1) ∧ X.cell? ⟨w.heap.size, 1, none⟩ = some (.slice A2 r.ribs.length c2) ∧ X.cell? ⟨w.heap.size, 2, none⟩ = some (.slice A3 r.stacks.length c3) ∧ X.cell? ⟨w.heap.size, 3, none⟩ = some (.bool r.coll) ∧
      X.cell? ⟨w.heap.size + 1, 0, none⟩ = some (.int .i64 aw) ∧ X.cell? ⟨w.heap.size + 1, 1, none⟩ = some (.int .i64 as_) ∧ X.cell? ⟨w.heap.size + 1, 2, none⟩ = some (.int .i64 ar) ∧ X.cell? ⟨w.heap.size + 1, 3, none⟩ = some (.int .i64 ac) ∧
      X.cell? ⟨w.heap.size + 1 + 1, 0, none⟩ = some (.int .i64 aw) ∧ X.cell? ⟨w.heap.size + 1 + 1, 1, none⟩ = some (.int .i64 as_) ∧ X.cell? ⟨w.heap.size + 1 + 1, 2, none⟩ = some (.int .i64 ar) ∧ X.cell? ⟨w.heap.size + 1 + 1, 3, none⟩ = some (.int .i64 bc))
      (first | exact HF.out _ (by assumption) | exact HF.out _ (Below.refl _ _) | exact HF.out _ (Below.refl _ _).drew | go_keep)
      (first | (go_at_call 70; refine (HC.out _ _ _ _ _ ?_).mono ?_; (first | assumption | exact Below.refl _ _ | exact (Below.refl _ _).drew); rintro e w3 ⟨rfl, h3⟩))
    go_wp2
    go_ret
    exact ⟨rb Hn.out, B0.trans (Below.mono (by assumption) B0.size)⟩
  · have h6' : (ac - bc != 1) = true := by simpa using h6
    have h7' : (bc - ac != 1) = false := by simp; omega
    clear h6 h4 h4'
    go_enter Try.func51, Try.ntmps51
    go_wp2_with fail
    rw [E0.out]
    obtain ⟨d0, d1, d2, d3, p0, p1, p2, p3, q0, q1, q2, q3⟩ := HF.out W0 (Below.refl _ _)
    go_region_held3 (fun X => X.cell? ⟨w.heap.size, 0, none⟩ = some (.slice A1 r.webs.length c1) ∧ X.cell? ⟨w.heap.size, 1, none⟩ = some (.slice A2 r.ribs.length c2) ∧ X.cell? ⟨w.heap.size, 2, none⟩ = some (.slice A3 r.stacks.length c3) ∧ X.cell? ⟨w.heap.size, 3, none⟩ = some (.bool r.coll) ∧
      X.cell? ⟨w.heap.size + 1, 0, none⟩ = some (.int .i64 aw) ∧ X.cell? ⟨w.heap.size + 1, 1, none⟩ = some (.int .i64 as_) ∧ X.cell? ⟨w.heap.size + 1, 2, none⟩ = some (.int .i64 ar) ∧ X.cell? ⟨w.heap.size + 1, 3, none⟩ = some (.int .i64 ac) ∧
      X.cell? ⟨w.heap.size + 1 + 1, 0, none⟩ = some (.int .i64 aw) ∧ X.cell? ⟨w.heap.size + 1 + 1, 1, none⟩ = some (.int .i64 as_) ∧ X.cell? ⟨w.heap.size + 1 + 1, 2, none⟩ = some (.int .i64 ar) ∧ X.cell? ⟨w.heap.size + 1 + 1, 3, none⟩ = some (.int .i64 bc))
      (first | exact HF.out _ (by assumption) | exact HF.out _ (Below.refl _ _) | exact HF.out _ (Below.refl _ _).drew | go_keep)
      (first | (go_at_call 70; refine (HC.out _ _ _ _ _ ?_).mono ?_; (first | assumption | exact Below.refl _ _ | exact (Below.refl _ _).drew); rintro e w3 ⟨rfl, h3⟩))
    go_wp2
    go_ret
    exact ⟨rb Hn.out, B0.trans (Below.mono (by assumption) B0.size)⟩
end Go.Proofs.Ytdbfhdncjblleaa
