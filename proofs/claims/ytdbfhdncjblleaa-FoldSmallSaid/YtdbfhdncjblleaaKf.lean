/-
  ribbonOf, beside.
  beside.
  Ganged.
  Ganged: its walk.
-/
import Derived.Deep.RegionWith
import Derived.Deep.RegionHeld3
import Derived.IntWalk
import Derived.Test.YtdbfhdncjblleaaKe
namespace Go.Proofs.Ytdbfhdncjblleaa
open Go.RowKit

def ribOfB (s : SpotD) (b : RibD) : Bool := decide (b.web = s.web ∧ b.col ≤ s.col ∧ s.col < b.col + b.width)
def idxD (r : RunD) (s : SpotD) : Int := match r.ribs.findIdx? (ribOfB s) with
  | some i => i
  | none => -1

theorem below_alloc (w : World) (o : Obj) : Below w.heap.size w (w.alloc o) := (Below.refl _ _).alloc (Nat.le_refl _) _

set_option maxHeartbeats 400000 in
theorem ribOf_any (s : SpotD) (b : RibD) (B : Nat) (w : World) (hb : 0 ≤ b.col ∧ b.col ≤ 1000 ∧ 0 ≤ b.width ∧ b.width ≤ 1000) (hlt : B < w.heap.size)
    (h0 : w.cell? ⟨B, 0, none⟩ = some (.int .i64 s.web)) (h3 : w.cell? ⟨B, 3, none⟩ = some (.int .i64 s.col)) :
    Calls Try.prog 83 #[b.val, .pointer (some ⟨B, 0, none⟩)] w fun e w' => e = .returned (.bool (ribOfB s b)) ∧ Below w.heap.size w w' := by
  obtain ⟨web, col, width, turned, left⟩ := b
  obtain ⟨sw, ss, sr, sc⟩ := s
  obtain ⟨b1, b2, b3, b4⟩ := hb
  dsimp only at h0 h3 b1 b2 b3 b4
  unfold RibD.val
  by_cases c1 : web = sw
  case neg =>
    have c1' : (web == sw) = false := by simpa using c1
    have Hn : Hid (ribOfB ⟨sw, ss, sr, sc⟩ ⟨web, col, width, turned, left⟩ = false) := decide_eq_false (fun h => c1 h.1)
    clear c1
    go_enter Try.func83, Try.ntmps83
    go_wp2
    go_ret
    exact ⟨rb Hn.out, below_alloc _ _⟩
  subst c1
  by_cases c2 : col ≤ sc
  case neg =>
    have Hn : Hid (ribOfB ⟨web, ss, sr, sc⟩ ⟨web, col, width, turned, left⟩ = false) := decide_eq_false (fun h => c2 h.2.1)
    go_enter Try.func83, Try.ntmps83
    go_wp2
    go_ret
    exact ⟨rb Hn.out, below_alloc _ _⟩
  by_cases c3 : sc < col + width
  case neg =>
    have Hn : Hid (ribOfB ⟨web, ss, sr, sc⟩ ⟨web, col, width, turned, left⟩ = false) := decide_eq_false (fun h => c3 h.2.2)
    go_enter Try.func83, Try.ntmps83
    go_wp2
    go_ret
    exact ⟨rb Hn.out, below_alloc _ _⟩
  have Hn : Hid (ribOfB ⟨web, ss, sr, sc⟩ ⟨web, col, width, turned, left⟩ = true) := decide_eq_true ⟨rfl, c2, c3⟩
  go_enter Try.func83, Try.ntmps83
  go_wp2
  go_ret
  exact ⟨rb Hn.out, below_alloc _ _⟩

theorem findIdx_at {α : Type} {f : α → Bool} {l : List α} {k : Nat} {x : α} (h : Hid (∀ j y, j < k → l[j]? = some y → f y = false)) (hx : l[k]? = some x) (hf : f x = true) : l.findIdx? f = some k := by
  rw [List.findIdx?_eq_some_iff_getElem]
  obtain ⟨hk, rfl⟩ := List.getElem?_eq_some_iff.1 hx
  exact ⟨hk, hf, fun j hj => by rw [h.out j _ hj (List.getElem?_eq_getElem (by omega))]; simp⟩
theorem findIdx_no {α : Type} {f : α → Bool} {l : List α} (h : Hid (∀ j y, j < l.length → l[j]? = some y → f y = false)) : l.findIdx? f = none := by
  rw [List.findIdx?_eq_none_iff]
  intro x hx
  obtain ⟨j, hj, rfl⟩ := List.getElem_of_mem hx
  exact h.out j _ hj (List.getElem?_eq_getElem hj)

set_option maxHeartbeats 1000000 in
theorem indexFunc_any (v : Value) (r : RunD) (s : SpotD) (B : Nat) (w : World) (h : RRibs w.heap.size w v r.ribs) (hlt : B < w.heap.size)
    (hb : ∀ b ∈ r.ribs, 0 ≤ b.col ∧ b.col ≤ 1000 ∧ 0 ≤ b.width ∧ b.width ≤ 1000)
    (h0 : w.cell? ⟨B, 0, none⟩ = some (.int .i64 s.web)) (h3 : w.cell? ⟨B, 3, none⟩ = some (.int .i64 s.col)) :
    Calls Try.prog 82 #[v, .func (.func 83) #[] #[.pointer (some ⟨B, 0, none⟩)]] w fun e w' => e = .returned (.int .i64 (idxD r s)) ∧ Below w.heap.size w w' := by
  obtain ⟨A, c, rfl, hA1, hA⟩ := h.open_
  have HA := Lib.hid hA
  have HB := Lib.hid hb
  have H0 := Lib.hid h0
  have H3 := Lib.hid h3
  clear hA hb h h0 h3
  go_enter Try.func82, Try.ntmps82
  go_wp2
  go_loopw [8] (fun i wr => ∃ k : Nat, k ≤ r.ribs.length ∧ i = .int .i64 k ∧ Hid (∀ j y, j < k → r.ribs[j]? = some y → ribOfB s y = false) ∧ Below w.heap.size w wr) (fun i _ => r.ribs.length - (intOf i).toNat)
  case atStart => exact ⟨0, Nat.zero_le _, rfl, fun j y hj => by omega, Below.refl _ _⟩
  case round =>
    obtain ⟨k, hk, rfl, hno, hB⟩ := hrel
    by_cases hlt2 : k < r.ribs.length
    · obtain ⟨x, hx⟩ : ∃ x, r.ribs[k]? = some x := ⟨_, List.getElem?_eq_getElem hlt2⟩
      obtain ⟨g, o, rfl, hgb, hc1, hc2, hc3, hc4, hc5⟩ := HA.out k x hx
      rw [← hB.cell (p := ⟨g, o + k * 5, none⟩) hgb] at hc1
      rw [← hB.cell (p := ⟨g, o + k * 5 + 1, none⟩) hgb] at hc2
      rw [← hB.cell (p := ⟨g, o + k * 5 + 2, none⟩) hgb] at hc3
      rw [← hB.cell (p := ⟨g, o + k * 5 + 3, none⟩) hgb] at hc4
      rw [← hB.cell (p := ⟨g, o + k * 5 + 4, none⟩) hgb] at hc5
      have C := Lib.hid (ribOf_any s x B wr (HB.out x (List.mem_of_getElem? hx)) (Nat.lt_of_lt_of_le hlt hB.size) ((hB.cell (p := ⟨B, 0, none⟩) hlt).trans H0.out) ((hB.cell (p := ⟨B, 3, none⟩) hlt).trans H3.out))
      have Hx := Lib.hid hx
      clear hx
      cases hf : ribOfB s x
      · rw [hf] at C
        have hno2 : Hid (∀ j y, j < k + 1 → r.ribs[j]? = some y → ribOfB s y = false) := fun j y hj hy => by
          by_cases e : j = k
          · subst e
            have := Hx.out.symm.trans hy
            injection this with this
            rw [← this]; exact hf
          · exact hno.out j y (by omega) hy
        clear hf
        go_wp2_with fail
        refine C.out.mono ?_
        rintro e w3 ⟨rfl, hb3⟩
        go_wp2
        go_roundw
        case rel => exact ⟨k + 1, by omega, by go_num, hno2, hB.trans (hb3.mono hB.size)⟩
        case measure => simp [intOf]; omega
      · rw [hf] at C
        have Hn : Hid (idxD r s = k) := by
          show idxD r s = k
          unfold idxD
          rw [findIdx_at hno Hx.out hf]
        clear hf
        go_wp2_with fail
        refine C.out.mono ?_
        rintro e w3 ⟨rfl, hb3⟩
        go_wp2
        go_ret
        exact ⟨ri Hn.out, hB.trans (hb3.mono hB.size)⟩
    · have Hn : Hid (idxD r s = -1) := by
        show idxD r s = -1
        unfold idxD
        rw [findIdx_no (fun j y hj hy => hno.out j y (by omega) hy)]
      go_wp2
      go_ret
      exact ⟨ri Hn.out, hB⟩

theorem ribs_bound {r : RunD} (h : checkE r = 0) : ∀ b ∈ r.ribs, 0 ≤ b.col ∧ b.col ≤ 1000 ∧ 0 ≤ b.width ∧ b.width ≤ 1000 := fun b hb => by
  obtain ⟨k, hk, rfl⟩ := List.getElem_of_mem hb
  have h1 := rib_ok h hk
  rw [List.getD_eq_getElem?_getD, List.getElem?_eq_getElem hk] at h1
  simp only [Option.getD_some] at h1
  have := h1.col0; have := h1.col2; have := h1.width0; have := h1.width1
  omega

set_option maxHeartbeats 1000000 in
theorem ribbonOf_any (v : Value) (r : RunD) (s : SpotD) (w : World) (h : RRun w.heap.size w v r) (hok : checkE r = 0) :
    Calls Try.prog 70 #[v, s.val] w fun e w' => e = .returned (.int .i64 (idxD r s)) ∧ Below w.heap.size w w' := by
  have hmf : ∀ (fn : Fn) (first cap : Array Value) (w : World), (Instr.makeFunc fn first cap).run Try.prog w = .ok (.func fn first cap) w := fun _ _ _ _ => rfl
  obtain ⟨v1, v2, v3, rfl, -, hr, -⟩ := h
  have Hr := Lib.hid hr
  have HB := Lib.hid (ribs_bound hok)
  clear hr hok
  obtain ⟨sw, ss, sr, sc⟩ := s
  have b2 : ∀ o o', Below w.heap.size w ((w.alloc o).alloc o') := fun o o' => ((Below.refl _ _).alloc (Nat.le_refl _) _).alloc (by simp) _
  have C : ∀ o, Calls Try.prog 82 #[v2, .func (.func 83) #[] #[.pointer (some ⟨w.heap.size + 1, 0, none⟩)]] ((w.alloc o).alloc (.cells #[.int .i64 sw, .int .i64 ss, .int .i64 sr, .int .i64 sc] 53)) fun e w' => e = .returned (.int .i64 (idxD r ⟨sw, ss, sr, sc⟩)) ∧ Below ((w.alloc o).alloc (.cells #[.int .i64 sw, .int .i64 ss, .int .i64 sr, .int .i64 sc] 53)).heap.size ((w.alloc o).alloc (.cells #[.int .i64 sw, .int .i64 ss, .int .i64 sr, .int .i64 sc] 53)) w' := fun o => by
    have hk := Blk.new (w.alloc o) 53 #[.int .i64 sw, .int .i64 ss, .int .i64 sr, .int .i64 sc]
    rw [World.size_alloc] at hk
    exact indexFunc_any v2 r ⟨sw, ss, sr, sc⟩ (w.heap.size + 1) _ (Rd.more (Hr.out.below (b2 _ _)) (by simp; omega)) (by simp) HB.out (cellOf hk 0 rfl) (cellOf hk 3 rfl)
  have HC := Lib.hid C
  have HB2 := Lib.hid b2
  have z2 : ∀ o o', w.heap.size ≤ ((w.alloc o).alloc o').heap.size := fun o o' => by simp; omega
  have HZ := Lib.hid z2
  clear C b2 z2
  unfold SpotD.val
  go_enter Try.func70, Try.ntmps70
  go_wp2_with fail
  refine (HC.out _).mono ?_
  rintro e w3 ⟨rfl, hb3⟩
  go_wp2
  go_ret
  exact ⟨rfl, (HB2.out _ _).trans (hb3.mono (HZ.out _ _))⟩
end Go.Proofs.Ytdbfhdncjblleaa
namespace Go.Proofs.Ytdbfhdncjblleaa
open Go.RowKit

def besideB (r : RunD) (a b : SpotD) : Bool := decide (a.web = b.web ∧ a.side = b.side ∧ a.row = b.row) && decide (a.col - b.col = 1 ∨ b.col - a.col = 1) && decide (idxD r a = idxD r b)
theorem beside_no1 {r : RunD} {a b : SpotD} (h : ¬ (a.web = b.web ∧ a.side = b.side ∧ a.row = b.row)) : besideB r a b = false := by unfold besideB; rw [decide_eq_false h]; rfl
theorem beside_no2 {r : RunD} {a b : SpotD} (h : ¬ (a.col - b.col = 1 ∨ b.col - a.col = 1)) : besideB r a b = false := by unfold besideB; rw [decide_eq_false h, Bool.and_false]; rfl
theorem beside_yes {r : RunD} {a b : SpotD} (h1 : a.web = b.web ∧ a.side = b.side ∧ a.row = b.row) (h2 : a.col - b.col = 1 ∨ b.col - a.col = 1) : besideB r a b = (idxD r a == idxD r b) := by
  unfold besideB; rw [decide_eq_true h1, decide_eq_true h2, Bool.true_and, Bool.true_and]
  rw [Bool.eq_iff_iff]; simp

set_option maxRecDepth 100000 in
set_option maxHeartbeats 4000000 in
theorem beside_any (v : Value) (r : RunD) (a b : SpotD) (w : World) (h : RRun w.heap.size w v r) (hok : checkE r = 0) (ha : 0 ≤ a.col ∧ a.col ≤ 1000) (hb : 0 ≤ b.col ∧ b.col ≤ 1000) :
    Calls Try.prog 51 #[v, a.val, b.val] w fun e w' => e = .returned (.bool (besideB r a b)) ∧ Below w.heap.size w w' := by
  have hrun := Lib.hid h
  have Hok := Lib.hid hok
  obtain ⟨A1, c1, A2, c2, A3, c3, rfl⟩ := h.shape
  clear h hok
  obtain ⟨aw, as_, ar, ac⟩ := a
  obtain ⟨bw, bs, br, bc⟩ := b
  dsimp only at ha hb
  obtain ⟨ha1, ha2⟩ := ha
  obtain ⟨hb1, hb2⟩ := hb
  unfold SpotD.val
  have F0 : ∃ W0, ((w.alloc (.cells #[.slice A1 r.webs.length c1, .slice A2 r.ribs.length c2, .slice A3 r.stacks.length c3, .bool r.coll] 111)).alloc (.cells #[.int .i64 aw, .int .i64 as_, .int .i64 ar, .int .i64 ac] 53)).alloc (.cells #[.int .i64 bw, .int .i64 bs, .int .i64 br, .int .i64 bc] 53) = W0 ∧
      W0.heap.size = w.heap.size + 3 ∧ Below w.heap.size w W0 ∧ Blk W0 w.heap.size 111 #[.slice A1 r.webs.length c1, .slice A2 r.ribs.length c2, .slice A3 r.stacks.length c3, .bool r.coll] ∧ Blk W0 (w.heap.size + 1) 53 #[.int .i64 aw, .int .i64 as_, .int .i64 ar, .int .i64 ac] ∧ Blk W0 (w.heap.size + 1 + 1) 53 #[.int .i64 bw, .int .i64 bs, .int .i64 br, .int .i64 bc] := by
    refine ⟨_, rfl, by simp, ((((Below.refl _ _).alloc (Nat.le_refl _) _).alloc (by simp) _).alloc (by simp; omega) _), ((Blk.new w _ _).alloc _).alloc _, ?_, ?_⟩
    · have := Blk.new (w.alloc (.cells #[.slice A1 r.webs.length c1, .slice A2 r.ribs.length c2, .slice A3 r.stacks.length c3, .bool r.coll] 111)) 53 #[.int .i64 aw, .int .i64 as_, .int .i64 ar, .int .i64 ac]
      rw [World.size_alloc] at this
      exact this.alloc _
    · have := Blk.new ((w.alloc (.cells #[.slice A1 r.webs.length c1, .slice A2 r.ribs.length c2, .slice A3 r.stacks.length c3, .bool r.coll] 111)).alloc (.cells #[.int .i64 aw, .int .i64 as_, .int .i64 ar, .int .i64 ac] 53)) 53 #[.int .i64 bw, .int .i64 bs, .int .i64 br, .int .i64 bc]
      rw [World.size_alloc, World.size_alloc] at this
      exact this
  obtain ⟨W0, e0, z0, B0, V0, P0, Q0⟩ := F0
  by_cases h1 : aw = bw
  case neg =>
    have h1' : (aw != bw) = true := by simpa using h1
    have Hn : Hid (besideB r ⟨aw, as_, ar, ac⟩ ⟨bw, bs, br, bc⟩ = false) := beside_no1 (fun h => h1 h.1)
    clear h1
    have E0 := Lib.hid e0
    clear e0 z0 V0 P0 Q0
    go_enter Try.func51, Try.ntmps51
    go_wp2
    rw [E0.out]
    go_ret
    exact ⟨rb Hn.out, B0⟩
  by_cases h2 : as_ = bs
  case neg =>
    have h2' : (as_ != bs) = true := by simpa using h2
    have Hn : Hid (besideB r ⟨aw, as_, ar, ac⟩ ⟨bw, bs, br, bc⟩ = false) := beside_no1 (fun h => h2 h.2.1)
    subst h1
    clear h2
    have E0 := Lib.hid e0
    clear e0 z0 V0 P0 Q0
    go_enter Try.func51, Try.ntmps51
    go_wp2
    rw [E0.out]
    go_ret
    exact ⟨rb Hn.out, B0⟩
  by_cases h3 : ar = br
  case neg =>
    have h3' : (ar != br) = true := by simpa using h3
    have Hn : Hid (besideB r ⟨aw, as_, ar, ac⟩ ⟨bw, bs, br, bc⟩ = false) := beside_no1 (fun h => h3 h.2.2)
    subst h1 h2
    clear h3
    have E0 := Lib.hid e0
    clear e0 z0 V0 P0 Q0
    go_enter Try.func51, Try.ntmps51
    go_wp2
    rw [E0.out]
    go_ret
    exact ⟨rb Hn.out, B0⟩
  subst h1 h2 h3
  by_cases h4 : ac - bc = 1 ∨ bc - ac = 1
  case neg =>
    have h4' : (ac - bc != 1) = true := by simp; omega
    have h5' : (bc - ac != 1) = true := by simp; omega
    have Hn : Hid (besideB r ⟨aw, as_, ar, ac⟩ ⟨aw, as_, ar, bc⟩ = false) := beside_no2 h4
    clear h4
    have E0 := Lib.hid e0
    clear e0 z0 V0 P0 Q0
    go_enter Try.func51, Try.ntmps51
    go_wp2
    rw [E0.out]
    go_ret
    exact ⟨rb Hn.out, B0⟩
  have Hn : Hid (besideB r ⟨aw, as_, ar, ac⟩ ⟨aw, as_, ar, bc⟩ = (idxD r ⟨aw, as_, ar, ac⟩ == idxD r ⟨aw, as_, ar, bc⟩)) := beside_yes ⟨rfl, rfl, rfl⟩ h4
  have hfacts : ∀ X, Below W0.heap.size W0 X → X.cell? ⟨w.heap.size, 0, none⟩ = some (.slice A1 r.webs.length c1) ∧ X.cell? ⟨w.heap.size, 1, none⟩ = some (.slice A2 r.ribs.length c2) ∧ X.cell? ⟨w.heap.size, 2, none⟩ = some (.slice A3 r.stacks.length c3) ∧ X.cell? ⟨w.heap.size, 3, none⟩ = some (.bool r.coll) ∧
      X.cell? ⟨w.heap.size + 1, 0, none⟩ = some (.int .i64 aw) ∧ X.cell? ⟨w.heap.size + 1, 1, none⟩ = some (.int .i64 as_) ∧ X.cell? ⟨w.heap.size + 1, 2, none⟩ = some (.int .i64 ar) ∧ X.cell? ⟨w.heap.size + 1, 3, none⟩ = some (.int .i64 ac) ∧
      X.cell? ⟨w.heap.size + 1 + 1, 0, none⟩ = some (.int .i64 aw) ∧ X.cell? ⟨w.heap.size + 1 + 1, 1, none⟩ = some (.int .i64 as_) ∧ X.cell? ⟨w.heap.size + 1 + 1, 2, none⟩ = some (.int .i64 ar) ∧ X.cell? ⟨w.heap.size + 1 + 1, 3, none⟩ = some (.int .i64 bc) := fun X hX => by
    have k1 := V0.below hX (by omega)
    have k2 := P0.below hX (by omega)
    have k3 := Q0.below hX (by omega)
    exact ⟨cellOf k1 0 rfl, cellOf k1 1 rfl, cellOf k1 2 rfl, cellOf k1 3 rfl, cellOf k2 0 rfl, cellOf k2 1 rfl, cellOf k2 2 rfl, cellOf k2 3 rfl, cellOf k3 0 rfl, cellOf k3 1 rfl, cellOf k3 2 rfl, cellOf k3 3 rfl⟩
  have HF := Lib.hid hfacts
  have hcall : ∀ (sw ss sr sc : Int) (X : World), Below W0.heap.size W0 X → Calls Try.prog 70 #[.agg #[.slice A1 r.webs.length c1, .slice A2 r.ribs.length c2, .slice A3 r.stacks.length c3, .bool r.coll], .agg #[.int .i64 sw, .int .i64 ss, .int .i64 sr, .int .i64 sc]] X fun e w' => e = .returned (.int .i64 (idxD r ⟨sw, ss, sr, sc⟩)) ∧ Below W0.heap.size W0 w' :=
    fun sw ss sr sc X hX => (ribbonOf_any _ r ⟨sw, ss, sr, sc⟩ X ((hrun.out.below (B0.trans (hX.mono B0.size))).more (Nat.le_trans B0.size hX.size)) Hok.out).mono fun e w' he => ⟨he.1, hX.trans (he.2.mono hX.size)⟩
  have HC := Lib.hid hcall
  have E0 := Lib.hid e0
  clear hfacts hcall V0 P0 Q0 e0 z0
  have h4' : ((ac - bc != 1) && (bc - ac != 1)) = false := by
    rcases h4 with h | h
    · rw [h]; rfl
    · rw [h]; simp
  by_cases h6 : ac - bc = 1
  · have h6' : (ac - bc != 1) = false := by simpa using h6
    clear h6 h4 h4'
    go_enter Try.func51, Try.ntmps51
    go_wp2_with fail
    rw [E0.out]
    obtain ⟨d0, d1, d2, d3, p0, p1, p2, p3, q0, q1, q2, q3⟩ := HF.out W0 (Below.refl _ _)
    go_region_held3 (fun X => X.cell? ⟨w.heap.size, 0, none⟩ = some (.slice A1 r.webs.length c1) ∧ X.cell? ⟨w.heap.size, 1, none⟩ = some (.slice A2 r.ribs.length c2) ∧ X.cell? ⟨w.heap.size, 2, none⟩ = some (.slice A3 r.stacks.length c3) ∧ X.cell? ⟨w.heap.size, 3, none⟩ = some (.bool r.coll) ∧
      X.cell? ⟨w.heap.size + 1, 0, none⟩ = some (.int .i64 aw) ∧ X.cell? ⟨w.heap.size + 1, 1, none⟩ = some (.int .i64 as_) ∧ X.cell? ⟨w.heap.size + 1, 2, none⟩ = some (.int .i64 ar) ∧ X.cell? ⟨w.heap.size + 1, 3, none⟩ = some (.int .i64 ac) ∧
      X.cell? ⟨w.heap.size + 1 + 1, 0, none⟩ = some (.int .i64 aw) ∧ X.cell? ⟨w.heap.size + 1 + 1, 1, none⟩ = some (.int .i64 as_) ∧ X.cell? ⟨w.heap.size + 1 + 1, 2, none⟩ = some (.int .i64 ar) ∧ X.cell? ⟨w.heap.size + 1 + 1, 3, none⟩ = some (.int .i64 bc))
      (first | exact HF.out _ (by assumption) | exact HF.out _ (Below.refl _ _) | exact HF.out _ (Below.refl _ _).drew | go_keep)
      (first | (go_at_call 70; refine (HC.out _ _ _ _ _ ?_).mono ?_; (first | assumption | exact Below.refl _ _ | exact (Below.refl _ _).drew); rintro e w3 ⟨rfl, h3⟩))
    go_wp2
    go_ret
    exact ⟨rb Hn.out, B0.trans (Below.mono (by assumption) B0.size)⟩
  · have h6' : (ac - bc != 1) = true := by simpa using h6
    have h7' : (bc - ac != 1) = false := by simp; omega
    clear h6 h4 h4'
    go_enter Try.func51, Try.ntmps51
    go_wp2_with fail
    rw [E0.out]
    obtain ⟨d0, d1, d2, d3, p0, p1, p2, p3, q0, q1, q2, q3⟩ := HF.out W0 (Below.refl _ _)
    go_region_held3 (fun X => X.cell? ⟨w.heap.size, 0, none⟩ = some (.slice A1 r.webs.length c1) ∧ X.cell? ⟨w.heap.size, 1, none⟩ = some (.slice A2 r.ribs.length c2) ∧ X.cell? ⟨w.heap.size, 2, none⟩ = some (.slice A3 r.stacks.length c3) ∧ X.cell? ⟨w.heap.size, 3, none⟩ = some (.bool r.coll) ∧
      X.cell? ⟨w.heap.size + 1, 0, none⟩ = some (.int .i64 aw) ∧ X.cell? ⟨w.heap.size + 1, 1, none⟩ = some (.int .i64 as_) ∧ X.cell? ⟨w.heap.size + 1, 2, none⟩ = some (.int .i64 ar) ∧ X.cell? ⟨w.heap.size + 1, 3, none⟩ = some (.int .i64 ac) ∧
      X.cell? ⟨w.heap.size + 1 + 1, 0, none⟩ = some (.int .i64 aw) ∧ X.cell? ⟨w.heap.size + 1 + 1, 1, none⟩ = some (.int .i64 as_) ∧ X.cell? ⟨w.heap.size + 1 + 1, 2, none⟩ = some (.int .i64 ar) ∧ X.cell? ⟨w.heap.size + 1 + 1, 3, none⟩ = some (.int .i64 bc))
      (first | exact HF.out _ (by assumption) | exact HF.out _ (Below.refl _ _) | exact HF.out _ (Below.refl _ _).drew | go_keep)
      (first | (go_at_call 70; refine (HC.out _ _ _ _ _ ?_).mono ?_; (first | assumption | exact Below.refl _ _ | exact (Below.refl _ _).drew); rintro e w3 ⟨rfl, h3⟩))
    go_wp2
    go_ret
    exact ⟨rb Hn.out, B0.trans (Below.mono (by assumption) B0.size)⟩
end Go.Proofs.Ytdbfhdncjblleaa
namespace Go.Proofs.Ytdbfhdncjblleaa
open Go.RowKit

def gangTo (r : RunD) (c s : Nat) (l : List SpotD) (k : Nat) : List PlaceD := ((List.range k).filter fun i => besideB r (l.getD i default) (l.getD (i + 1) default)).map fun (i : Nat) => (⟨c, s, i⟩ : PlaceD)
def gang1 (r : RunD) (c s : Nat) (l : List SpotD) : List PlaceD := gangTo r c s l (l.length - 1)
def gang2 (r : RunD) (c : Nat) (S : List (List SpotD)) : List PlaceD := S.zipIdx.flatMap fun x => gang1 r c x.2 x.1
def gang3 (r : RunD) (L : List (List (List SpotD))) : List PlaceD := L.zipIdx.flatMap fun x => gang2 r x.2 x.1
def gangedD (r : RunD) : List PlaceD := gang3 r (layoutD r)
theorem gangTo_yes {r : RunD} {c s k : Nat} {l : List SpotD} (h : besideB r (l.getD k default) (l.getD (k + 1) default) = true) : gangTo r c s l (k + 1) = gangTo r c s l k ++ [⟨c, s, k⟩] := by
  unfold gangTo
  rw [List.range_succ, List.filter_append, List.map_append]
  simp only [List.filter_cons, h, if_true, Bool.false_eq_true, if_false, List.filter_nil, List.map_cons, List.map_nil, List.append_nil]
theorem gangTo_no {r : RunD} {c s k : Nat} {l : List SpotD} (h : besideB r (l.getD k default) (l.getD (k + 1) default) = false) : gangTo r c s l (k + 1) = gangTo r c s l k := by
  unfold gangTo
  rw [List.range_succ, List.filter_append, List.map_append]
  simp only [List.filter_cons, h, if_true, Bool.false_eq_true, if_false, List.filter_nil, List.map_cons, List.map_nil, List.append_nil]
theorem gang2_next {r : RunD} {c k : Nat} {S : List (List SpotD)} {x : List SpotD} (h : S[k]? = some x) : gang2 r c (S.take (k + 1)) = gang2 r c (S.take k) ++ gang1 r c k x := by
  unfold gang2
  rw [zip_next h, List.flatMap_append]; simp
theorem gang3_next {r : RunD} {k : Nat} {L : List (List (List SpotD))} {x : List (List SpotD)} (h : L[k]? = some x) : gang3 r (L.take (k + 1)) = gang3 r (L.take k) ++ gang2 r k x := by
  unfold gang3
  rw [zip_next h, List.flatMap_append]; simp

/-- Each section of a right run is the spots of one of its stacks in a row. -/
theorem section_of {r : RunD} {c s : Nat} {S : List (List SpotD)} {l : List SpotD} (hS : (layoutD r)[c]? = some S) (hl : S[s]? = some l) : ∃ (k : Nat) (st : List Int) (row : Nat), r.stacks[k]? = some st ∧ row < (rows0 r).toNat ∧ l = spotsD r st row := by
  cases hc : r.coll with
  | true =>
    rw [layout_coll hc] at hS
    have hm := List.mem_of_getElem? hS
    rw [List.mem_singleton] at hm
    subst hm
    have hm := List.mem_of_getElem? hl
    obtain ⟨st, hst, hr⟩ := List.mem_flatMap.1 hm
    obtain ⟨row, hrow, rfl⟩ := List.mem_map.1 hr
    obtain ⟨k, hk, rfl⟩ := List.getElem_of_mem hst
    exact ⟨k, _, row, List.getElem?_eq_getElem hk, List.mem_range.1 hrow, rfl⟩
  | false =>
    rw [layout_straight hc] at hS
    obtain ⟨row, hrow, rfl⟩ := List.mem_map.1 (List.mem_of_getElem? hS)
    obtain ⟨st, hst, rfl⟩ := List.mem_map.1 (List.mem_of_getElem? hl)
    obtain ⟨k, hk, rfl⟩ := List.getElem_of_mem hst
    exact ⟨k, _, row, List.getElem?_eq_getElem hk, List.mem_range.1 hrow, rfl⟩
theorem spots_len (r : RunD) (st : List Int) (row : Int) : (spotsD r st row).length ≤ 4 * st.length := by
  have h : (spotsD r st row).length = 2 * (halvesD r st).length := outD_len row _
  have h1 := rights_len r st
  have h2 := lefts_len r st.reverse
  rw [h]
  unfold halvesD
  rw [List.length_append]
  rw [List.length_reverse] at h2
  omega
theorem half_of {r : RunD} {st : List Int} {h : HalfD} (hm : h ∈ halvesD r st) : (∃ i ∈ st, h = rightHalfD (ribAt r i) ∧ (ribAt r i).left = false) ∨ (∃ i ∈ st, h = leftHalfD (ribAt r i) ∧ hasLeft (ribAt r i) = true) := by
  rcases List.mem_append.1 hm with hm | hm
  · obtain ⟨b, hb, rfl⟩ := List.mem_map.1 hm
    obtain ⟨hb1, hb2⟩ := List.mem_filter.1 hb
    obtain ⟨i, hi, rfl⟩ := List.mem_map.1 hb1
    exact .inl ⟨i, hi, rfl, by simpa using hb2⟩
  · obtain ⟨b, hb, rfl⟩ := List.mem_map.1 hm
    obtain ⟨hb1, hb2⟩ := List.mem_filter.1 hb
    obtain ⟨i, hi, rfl⟩ := List.mem_map.1 hb1
    exact .inr ⟨i, List.mem_reverse.1 hi, rfl, hb2⟩
/-- A half lies on its ribbon. -/
theorem half_on {r : RunD} {b : RibD} (h : RibOk r b) (x : HalfD) (hx : x = rightHalfD b ∨ x = leftHalfD b) : x.web = b.web ∧ b.col ≤ x.col ∧ x.col < b.col + b.width ∧ ((x.s0 = 0 ∧ x.s1 = 1) ∨ (x.s0 = 1 ∧ x.s1 = 0)) := by
  have h1 := h.width0
  rcases hx with rfl | rfl
  · unfold rightHalfD
    split <;> simp <;> omega
  · unfold leftHalfD
    split <;> simp <;> omega
theorem rib_at {r : RunD} (h : checkE r = 0) {i : Int} (hi : 0 ≤ i ∧ i < r.ribs.length) : RibOk r (ribAt r i) := rib_ok h (k := i.toNat) (by omega)
theorem half_ok {r : RunD} (h : checkE r = 0) {k : Nat} {st : List Int} (hst : r.stacks[k]? = some st) {x : HalfD} (hm : x ∈ halvesD r st) : ∃ i ∈ st, RibOk r (ribAt r i) ∧ x.web = (ribAt r i).web ∧ (ribAt r i).col ≤ x.col ∧ x.col < (ribAt r i).col + (ribAt r i).width ∧ ((x.s0 = 0 ∧ x.s1 = 1) ∨ (x.s0 = 1 ∧ x.s1 = 0)) := by
  have hit := stack_items h hst
  rcases half_of hm with ⟨i, hi, rfl, -⟩ | ⟨i, hi, rfl, -⟩
  · have ho := rib_at h (hit i hi)
    exact ⟨i, hi, ho, half_on ho _ (.inl rfl)⟩
  · have ho := rib_at h (hit i hi)
    exact ⟨i, hi, ho, half_on ho _ (.inr rfl)⟩
theorem spot_col {r : RunD} (h : checkE r = 0) {k : Nat} {st : List Int} (hst : r.stacks[k]? = some st) {row : Int} {x : SpotD} (hm : x ∈ spotsD r st row) : 0 ≤ x.col ∧ x.col ≤ 1000 := by
  obtain ⟨y, hy, hx⟩ := List.mem_flatMap.1 hm
  obtain ⟨i, -, ho, -, h1, h2, -⟩ := half_ok h hst hy
  have := ho.col0; have := ho.col2
  have hc : x.col = y.col := by
    simp only [halfSpots, List.mem_cons, List.not_mem_nil, or_false] at hx
    rcases hx with rfl | rfl <;> rfl
  omega
theorem sec_bound {r : RunD} (h : checkE r = 0) {c s : Nat} {S : List (List SpotD)} {l : List SpotD} (hS : (layoutD r)[c]? = some S) (hl : S[s]? = some l) : l.length ≤ 128 ∧ ∀ x ∈ l, 0 ≤ x.col ∧ x.col ≤ 1000 := by
  obtain ⟨k, st, row, hst, -, rfl⟩ := section_of hS hl
  refine ⟨?_, fun x hx => spot_col h hst hx⟩
  have h1 := spots_len r st row
  have h2 := stack_len h hst
  omega
theorem gang1_len (r : RunD) (c s : Nat) (l : List SpotD) : (gang1 r c s l).length ≤ l.length := by
  unfold gang1 gangTo
  rw [List.length_map]
  have := List.length_filter_le (fun i => besideB r (l.getD i default) (l.getD (i + 1) default)) (List.range (l.length - 1))
  rw [List.length_range] at this
  omega
theorem gangTo_len (r : RunD) (c s : Nat) (l : List SpotD) (k : Nat) : (gangTo r c s l k).length ≤ k := by
  unfold gangTo
  rw [List.length_map]
  have := List.length_filter_le (fun i => besideB r (l.getD i default) (l.getD (i + 1) default)) (List.range k)
  rwa [List.length_range] at this
theorem flat_bound {α β : Type} (f : α → List β) (B : Nat) : ∀ (l : List α), (∀ x ∈ l, (f x).length ≤ B) → (l.flatMap f).length ≤ B * l.length
  | [], _ => by simp
  | x :: l, h => by
    rw [List.flatMap_cons, List.length_append, List.length_cons]
    have h1 := h x (by simp)
    have h2 := flat_bound f B l fun y hy => h y (by simp [hy])
    rw [Nat.mul_add, Nat.mul_one]; omega
theorem mem_zip {α : Type} {l : List α} {x : α × Nat} (h : x ∈ l.zipIdx) : l[x.2]? = some x.1 := by
  have := List.mem_zipIdx_iff_getElem?.1 h
  exact this
theorem copy_small {r : RunD} (h : checkE r = 0) {c : Nat} {S : List (List SpotD)} (hS : (layoutD r)[c]? = some S) : S.length ≤ 100 := by
  have h4 := (numbers_ok (parts_ok h 0 (by omega))).2.2.2.2.2
  have h2 := rows_two h
  cases hc : r.coll with
  | true =>
    rw [layout_coll hc] at hS
    have hm := List.mem_of_getElem? hS
    rw [List.mem_singleton] at hm
    subst hm
    have := flat_len h r.stacks.length
    rw [List.take_length] at this
    unfold collectedD
    omega
  | false =>
    rw [layout_straight hc] at hS
    obtain ⟨row, hrow, rfl⟩ := List.mem_map.1 (List.mem_of_getElem? hS)
    unfold straightD
    rw [List.length_map]; omega
theorem layout_two {r : RunD} (h : checkE r = 0) : (layoutD r).length ≤ 2 := by
  have h2 := rows_two h
  cases hc : r.coll with
  | true => rw [layout_coll hc]; simp
  | false => rw [layout_straight hc, List.length_map, List.length_range]; omega
theorem gang2_len {r : RunD} (h : checkE r = 0) {c : Nat} {S : List (List SpotD)} (hS : (layoutD r)[c]? = some S) (k : Nat) : (gang2 r c (S.take k)).length ≤ 12800 := by
  have h1 := flat_bound (fun x : List SpotD × Nat => gang1 r c x.2 x.1) 128 (S.take k).zipIdx fun x hx => by
    have := mem_zip hx
    rw [List.getElem?_take] at this
    split at this
    · exact Nat.le_trans (gang1_len r c x.2 x.1) (sec_bound h hS this).1
    · cases this
  have h2 := copy_small h hS
  rw [List.length_zipIdx, List.length_take] at h1
  unfold gang2
  have h3 : min k S.length ≤ 100 := by omega
  have := Nat.mul_le_mul_left 128 h3
  omega
theorem gang3_len {r : RunD} (h : checkE r = 0) (k : Nat) : (gang3 r ((layoutD r).take k)).length ≤ 25600 := by
  have h1 := flat_bound (fun x : List (List SpotD) × Nat => gang2 r x.2 x.1) 12800 ((layoutD r).take k).zipIdx fun x hx => by
    have := mem_zip hx
    rw [List.getElem?_take] at this
    split at this
    · have h9 := gang2_len h this x.1.length
      rwa [List.take_length] at h9
    · cases this
  have h2 := layout_two h
  rw [List.length_zipIdx, List.length_take] at h1
  unfold gang3
  have h3 : min k (layoutD r).length ≤ 2 := by omega
  have := Nat.mul_le_mul_left 12800 h3
  omega
end Go.Proofs.Ytdbfhdncjblleaa
namespace Go.Proofs.Ytdbfhdncjblleaa
open Go.RowKit

theorem infoPlace : (Try.prog.info? 56).map (fun i => (i.zero, i.size, i.bytes)) = some (some (.agg #[.int .i64 0, .int .i64 0, .int .i64 0]), 3, 24) := by kernel_rfl
/-- What Ganged gives: a slice of one's own, or nil and the error. -/
def GangRet (r : RunD) (w : World) (e : Ending) (w' : World) : Prop :=
  ∃ u, e = .returned (.tuple #[u, .int .i64 (checkE r)]) ∧ (checkE r = 0 → w'.ownsRow w.heap.size 56 3 u (gangedD r).length ((gangedD r).flatMap PlaceD.cells)) ∧ (checkE r ≠ 0 → u = .slice none 0 0) ∧ Below w.heap.size w w'
theorem place_snoc (l : List PlaceD) (x : PlaceD) : (l ++ [x]).flatMap PlaceD.cells = l.flatMap PlaceD.cells ++ x.cells := by simp
theorem len_snoc {α : Type} (l : List α) (x : α) : (l ++ [x]).length = l.length + 1 := by simp
def OPl (base : Nat) (w : World) (v : Value) (l : List PlaceD) : Prop := w.ownsRow base 56 3 v l.length (l.flatMap PlaceD.cells)

set_option maxRecDepth 100000 in
set_option maxHeartbeats 4000000 in
theorem Ganged_any (v : Value) (r : RunD) (w : World) (h : RRun w.heap.size w v r) : Calls Try.prog 25 #[v] w (GangRet r w) := by
  obtain ⟨i0, hi, hz0, hz1, hz2⟩ := info_parts infoPlace
  have hrun := Lib.hid h
  obtain ⟨A1, c1, A2, c2, A3, c3, rfl⟩ := h.shape
  clear h
  have F0 : ∃ W0, (w.alloc (.cells #[.slice A1 r.webs.length c1, .slice A2 r.ribs.length c2, .slice A3 r.stacks.length c3, .bool r.coll] 36)).alloc (.cells #[.slice A1 r.webs.length c1, .slice A2 r.ribs.length c2, .slice A3 r.stacks.length c3, .bool r.coll] 111) = W0 ∧
      W0.heap.size = w.heap.size + 2 ∧ Below w.heap.size w W0 ∧ Blk W0 (w.heap.size + 1) 111 #[.slice A1 r.webs.length c1, .slice A2 r.ribs.length c2, .slice A3 r.stacks.length c3, .bool r.coll] := by
    refine ⟨_, rfl, by simp, ((Below.refl _ _).alloc (Nat.le_refl _) _).alloc (by simp) _, ?_⟩
    have := Blk.new (w.alloc (.cells #[.slice A1 r.webs.length c1, .slice A2 r.ribs.length c2, .slice A3 r.stacks.length c3, .bool r.coll] 36)) 111 #[.slice A1 r.webs.length c1, .slice A2 r.ribs.length c2, .slice A3 r.stacks.length c3, .bool r.coll]
    rw [World.size_alloc] at this
    exact this
  obtain ⟨W0, e0, z0, B0, V0⟩ := F0
  have E0 := Lib.hid e0
  have Z0 := Lib.hid z0
  clear e0 z0
  go_enter Try.func25, Try.ntmps25
  go_wp2_with fail
  rw [E0.out]
  refine (check_any _ r _ ((hrun.out.below B0).more B0.size)).mono ?_
  rintro e w3 ⟨rfl, hb3⟩
  have V3 := V0.below hb3 (by rw [Z0.out]; omega)
  have B3 : Below w.heap.size w w3 := B0.trans (hb3.mono B0.size)
  clear V0 B0 E0 hb3
  have v0 := cellOf V3 0 (x := .slice A1 r.webs.length c1) rfl
  have v1 := cellOf V3 1 (x := .slice A2 r.ribs.length c2) rfl
  have v2 := cellOf V3 2 (x := .slice A3 r.stacks.length c3) rfl
  have v3 := cellOf V3 3 (x := .bool r.coll) rfl
  clear V3
  by_cases hck : checkE r = 0
  case neg =>
    have hck' : (checkE r != 0) = true := by simpa using hck
    have HR : ∀ e, e = .returned (.tuple #[.slice none 0 0, .int .i64 (checkE r)]) → GangRet r w e w3 := fun e he => ⟨_, he, fun h => absurd h hck, fun _ => rfl, B3⟩
    have HR' := Lib.hid HR
    clear hck HR
    generalize checkE r = ck at *
    go_wp2
    go_ret2
    exact HR'.out _ rfl
  have Hok := Lib.hid hck
  rw [hck]
  have n1 : w.heap.size + 1 < w3.heap.size := by
    have := World.block_lt_of_cell? w3 _ v0; exact this
  have VB : ∀ X, Below w3.heap.size w3 X → X.cell? ⟨w.heap.size + 1, 0, none⟩ = some (.slice A1 r.webs.length c1) ∧ X.cell? ⟨w.heap.size + 1, 1, none⟩ = some (.slice A2 r.ribs.length c2) ∧ X.cell? ⟨w.heap.size + 1, 2, none⟩ = some (.slice A3 r.stacks.length c3) ∧ X.cell? ⟨w.heap.size + 1, 3, none⟩ = some (.bool r.coll) := fun X hX =>
    ⟨(hX.cell (p := ⟨w.heap.size + 1, 0, none⟩) n1).trans v0, (hX.cell (p := ⟨w.heap.size + 1, 1, none⟩) n1).trans v1, (hX.cell (p := ⟨w.heap.size + 1, 2, none⟩) n1).trans v2, (hX.cell (p := ⟨w.heap.size + 1, 3, none⟩) n1).trans v3⟩
  have HVB := Lib.hid VB
  clear hck VB
  go_wp2_with fail
  refine (layout_any _ r _ ((hrun.out.below B3).more B3.size) Hok.out).mono ?_
  rintro e w4 ⟨u, rfl, hu, hb4⟩
  have B4 : Below w.heap.size w w4 := B3.trans (hb4.mono B3.size)
  obtain ⟨A, c, rfl, hA1, hA⟩ := RAll.open_ hu.reads
  have HA := Lib.hid hA
  clear hA hu v0 v1 v2 v3
  go_wp2
  go_loopw [6, 22] (fun u i wr => ∃ c : Nat, c ≤ (layoutD r).length ∧ i = .int .i64 c ∧ OPl w4.heap.size wr u (gang3 r ((layoutD r).take c)) ∧ Below w4.heap.size w4 wr) (fun _ i _ => (layoutD r).length - (intOf i).toNat)
  case atStart => exact ⟨0, Nat.zero_le _, rfl, World.ownsRow_nil _ _ _ _, Below.refl _ _⟩
  case round =>
    obtain ⟨c, hc, rfl, ho, hB⟩ := hrel
    by_cases hlt : c < (layoutD r).length
    · obtain ⟨S, hS⟩ : ∃ S, (layoutD r)[c]? = some S := ⟨_, List.getElem?_eq_getElem hlt⟩
      obtain ⟨g, o, u2, rfl, hb, hc1, hp⟩ := HA.out c S hS
      obtain ⟨A2', c2', rfl, hA2, hA3⟩ := RAll.open_ hp
      rw [← hB.cell (p := ⟨g, o + c, none⟩) hb] at hc1
      have HA3 := Lib.hid hA3
      have HS := Lib.hid hS
      have hG := gang3_len Hok.out c
      have ho' : OPl w4.heap.size wr u6 (gang3 r ((layoutD r).take c) ++ gang2 r c (S.take 0)) := by simpa [gang2] using ho
      clear hp hA3 hS ho
      go_wp2
      clear hc1
      go_loopw [6, 29] (fun u i wr => ∃ s : Nat, s ≤ S.length ∧ i = .int .i64 s ∧ OPl w4.heap.size wr u (gang3 r ((layoutD r).take c) ++ gang2 r c (S.take s)) ∧ Below w4.heap.size w4 wr) (fun _ i _ => S.length - (intOf i).toNat)
      case atStart => exact ⟨0, Nat.zero_le _, rfl, ho', hB⟩
      case round =>
        clear ho' hB
        obtain ⟨s, hs, rfl, ho, hB⟩ := hrel
        by_cases hlt2 : s < S.length
        · obtain ⟨l, hl⟩ : ∃ l, S[s]? = some l := ⟨_, List.getElem?_eq_getElem hlt2⟩
          obtain ⟨g2, o2, u4, rfl, hb2, hc1, hp⟩ := HA3.out s l hl
          obtain ⟨A4, c4, rfl, hA4, hA5⟩ := RSpots.open_ hp
          rw [← hB.cell (p := ⟨g2, o2 + s, none⟩) hb2] at hc1
          have HA5 := Lib.hid hA5
          have Hl := Lib.hid hl
          obtain ⟨hl128, hcol⟩ := sec_bound Hok.out HS.out hl
          have Hcol := Lib.hid hcol
          have hG2 := gang2_len Hok.out HS.out s
          have ho' : OPl w4.heap.size wr u6 ((gang3 r ((layoutD r).take c) ++ gang2 r c (S.take s)) ++ gangTo r c s l 0) := by simpa [gangTo] using ho
          clear hp hA5 hl ho hcol
          go_wp2
          clear hc1
          go_loopw [6, 11] (fun u i wr => ∃ k : Nat, k ≤ l.length - 1 ∧ i = .int .i64 (k + 1) ∧ OPl w4.heap.size wr u ((gang3 r ((layoutD r).take c) ++ gang2 r c (S.take s)) ++ gangTo r c s l k) ∧ Below w4.heap.size w4 wr) (fun _ i _ => l.length - (intOf i).toNat)
          case atStart => exact ⟨0, Nat.zero_le _, rfl, ho', hB⟩
          case round =>
            clear ho' hB
            obtain ⟨k, hk, rfl, ho, hB⟩ := hrel
            by_cases hlt3 : k + 1 < l.length
            · obtain ⟨x, hx⟩ : ∃ x, l[k]? = some x := ⟨_, List.getElem?_eq_getElem (by omega)⟩
              obtain ⟨y, hy⟩ : ∃ y, l[k + 1]? = some y := ⟨_, List.getElem?_eq_getElem hlt3⟩
              obtain ⟨g3, o3, rfl, hb3', hc1, hc2, hc3, hc4⟩ := HA5.out k x hx
              obtain ⟨g4, o4, he4, -, hd1, hd2, hd3, hd4⟩ := HA5.out (k + 1) y hy
              obtain ⟨rfl, rfl⟩ : g4 = g3 ∧ o4 = o3 := by simp at he4; omega
              have hw34 : Below w3.heap.size w3 wr := hb4.trans (hB.mono hb4.size)
              have hBw : Below w.heap.size w wr := B4.trans (hB.mono B4.size)
              have hfacts : ∀ X, Below wr.heap.size wr X → X.cell? ⟨w.heap.size + 1, 0, none⟩ = some (.slice A1 r.webs.length c1) ∧ X.cell? ⟨w.heap.size + 1, 1, none⟩ = some (.slice A2 r.ribs.length c2) ∧ X.cell? ⟨w.heap.size + 1, 2, none⟩ = some (.slice A3 r.stacks.length c3) ∧ X.cell? ⟨w.heap.size + 1, 3, none⟩ = some (.bool r.coll) ∧
                X.cell? ⟨g4, o4 + k * 4, none⟩ = some (.int .i64 x.web) ∧ X.cell? ⟨g4, o4 + k * 4 + 1, none⟩ = some (.int .i64 x.side) ∧ X.cell? ⟨g4, o4 + k * 4 + 2, none⟩ = some (.int .i64 x.row) ∧ X.cell? ⟨g4, o4 + k * 4 + 3, none⟩ = some (.int .i64 x.col) ∧
                X.cell? ⟨g4, o4 + (k + 1) * 4, none⟩ = some (.int .i64 y.web) ∧ X.cell? ⟨g4, o4 + (k + 1) * 4 + 1, none⟩ = some (.int .i64 y.side) ∧ X.cell? ⟨g4, o4 + (k + 1) * 4 + 2, none⟩ = some (.int .i64 y.row) ∧ X.cell? ⟨g4, o4 + (k + 1) * 4 + 3, none⟩ = some (.int .i64 y.col) := fun X hX => by
                have hX4 := hB.trans (hX.mono hB.size)
                obtain ⟨e0, e1, e2, e3⟩ := HVB.out X (hw34.trans (hX.mono hw34.size))
                exact ⟨e0, e1, e2, e3, (hX4.cell (p := ⟨g4, o4 + k * 4, none⟩) hb3').trans hc1, (hX4.cell (p := ⟨g4, o4 + k * 4 + 1, none⟩) hb3').trans hc2, (hX4.cell (p := ⟨g4, o4 + k * 4 + 2, none⟩) hb3').trans hc3, (hX4.cell (p := ⟨g4, o4 + k * 4 + 3, none⟩) hb3').trans hc4,
                  (hX4.cell (p := ⟨g4, o4 + (k + 1) * 4, none⟩) hb3').trans hd1, (hX4.cell (p := ⟨g4, o4 + (k + 1) * 4 + 1, none⟩) hb3').trans hd2, (hX4.cell (p := ⟨g4, o4 + (k + 1) * 4 + 2, none⟩) hb3').trans hd3, (hX4.cell (p := ⟨g4, o4 + (k + 1) * 4 + 3, none⟩) hb3').trans hd4⟩
              have HF := Lib.hid hfacts
              have hcx := Hcol.out x (List.mem_of_getElem? hx)
              have hcy := Hcol.out y (List.mem_of_getElem? hy)
              have hcall : ∀ X, Below wr.heap.size wr X → Calls Try.prog 51 #[.agg #[.slice A1 r.webs.length c1, .slice A2 r.ribs.length c2, .slice A3 r.stacks.length c3, .bool r.coll], .agg #[.int .i64 x.web, .int .i64 x.side, .int .i64 x.row, .int .i64 x.col], .agg #[.int .i64 y.web, .int .i64 y.side, .int .i64 y.row, .int .i64 y.col]] X fun e w' => e = .returned (.bool (besideB r x y)) ∧ Below wr.heap.size wr w' :=
                fun X hX => (beside_any _ r x y X ((hrun.out.below (hBw.trans (hX.mono hBw.size))).more (Nat.le_trans hBw.size hX.size)) Hok.out hcx hcy).mono fun e w' he => ⟨he.1, hX.trans (he.2.mono hX.size)⟩
              have hgx : l.getD k default = x := getD_of hx
              have hgy : l.getD (k + 1) default = y := getD_of hy
              have hyes : besideB r x y = true → gangTo r c s l (k + 1) = gangTo r c s l k ++ [⟨c, s, k⟩] := fun h => gangTo_yes (by rw [hgx, hgy]; exact h)
              have hno : besideB r x y = false → gangTo r c s l (k + 1) = gangTo r c s l k := fun h => gangTo_no (by rw [hgx, hgy]; exact h)
              have Hyes := Lib.hid hyes
              have Hno := Lib.hid hno
              have hcnt : ((gang3 r ((layoutD r).take c) ++ gang2 r c (S.take s)) ++ gangTo r c s l k).length ≤ 100000 := by
                have := gangTo_len r c s l k
                rw [List.length_append, List.length_append]; omega
              obtain ⟨e0, e1, e2, e3, f0, f1, f2, f3, j0, j1, j2, j3⟩ := HF.out wr (Below.refl _ _)
              have i1 : (k : Int) < (l.length : Int) := by omega
              have i2 : (k : Int) + 1 < (l.length : Int) := by omega
              clear hfacts hc1 hc2 hc3 hc4 hd1 hd2 hd3 hd4 he4 hgx hgy hyes hno hx hy hcx hcy
              have hwr : IntKind.i64.wrap ((k : Int) + 1 - 1) = (k : Int) := by
                rw [show (k : Int) + 1 - 1 = k by omega]; exact IntWalk.i64_in _ ⟨by omega, by omega⟩
              have hwr0 : IntKind.i64.wrap (k : Int) = (k : Int) := IntWalk.i64_in _ ⟨by omega, by omega⟩
              have hwr2 : (0 : Int) ≤ (k : Int) + 1 := by omega
              have hwr3 : ((k : Int) + 1).toNat = k + 1 := by omega
              have hwr4 : (0 : Int) ≤ (k : Int) := by omega
              cases hbs : besideB r x y
              · rw [hbs] at hcall
                have HC := Lib.hid hcall
                have Hg := Lib.hid (Hno.out hbs)
                clear hcall hbs
                go_wp2_with fail
                go_region_held3 (fun X => X.cell? ⟨w.heap.size + 1, 0, none⟩ = some (.slice A1 r.webs.length c1) ∧ X.cell? ⟨w.heap.size + 1, 1, none⟩ = some (.slice A2 r.ribs.length c2) ∧ X.cell? ⟨w.heap.size + 1, 2, none⟩ = some (.slice A3 r.stacks.length c3) ∧ X.cell? ⟨w.heap.size + 1, 3, none⟩ = some (.bool r.coll) ∧
                X.cell? ⟨g4, o4 + k * 4, none⟩ = some (.int .i64 x.web) ∧ X.cell? ⟨g4, o4 + k * 4 + 1, none⟩ = some (.int .i64 x.side) ∧ X.cell? ⟨g4, o4 + k * 4 + 2, none⟩ = some (.int .i64 x.row) ∧ X.cell? ⟨g4, o4 + k * 4 + 3, none⟩ = some (.int .i64 x.col) ∧
                X.cell? ⟨g4, o4 + (k + 1) * 4, none⟩ = some (.int .i64 y.web) ∧ X.cell? ⟨g4, o4 + (k + 1) * 4 + 1, none⟩ = some (.int .i64 y.side) ∧ X.cell? ⟨g4, o4 + (k + 1) * 4 + 2, none⟩ = some (.int .i64 y.row) ∧ X.cell? ⟨g4, o4 + (k + 1) * 4 + 3, none⟩ = some (.int .i64 y.col))
                  (first | exact HF.out _ (by assumption) | exact HF.out _ (Below.refl _ _) | exact HF.out _ (Below.refl _ _).drew | go_keep)
                  (first | (go_at_call 51; refine (HC.out _ ?_).mono ?_; (first | assumption | exact Below.refl _ _ | exact (Below.refl _ _).drew); rintro e w5 ⟨rfl, h5⟩))
                have ho5 : OPl w4.heap.size w5 u6 ((gang3 r ((layoutD r).take c) ++ gang2 r c (S.take s)) ++ gangTo r c s l (k + 1)) := by rw [Hg.out]; exact ownsRow_below ho h5
                have hB5 := hB.trans (h5.mono hB.size)
                clear hwr hwr0 hwr2 hwr3 hwr4 ho
                go_wp2
                go_roundw
                case rel => exact ⟨k + 1, by omega, by go_num, ho5, hB5⟩
                case measure => simp [intOf]; omega
              · rw [hbs] at hcall
                have HC := Lib.hid hcall
                have Hg := Lib.hid (Hyes.out hbs)
                clear hcall hbs
                go_wp2_with fail
                go_region_held3 (fun X => X.cell? ⟨w.heap.size + 1, 0, none⟩ = some (.slice A1 r.webs.length c1) ∧ X.cell? ⟨w.heap.size + 1, 1, none⟩ = some (.slice A2 r.ribs.length c2) ∧ X.cell? ⟨w.heap.size + 1, 2, none⟩ = some (.slice A3 r.stacks.length c3) ∧ X.cell? ⟨w.heap.size + 1, 3, none⟩ = some (.bool r.coll) ∧
                X.cell? ⟨g4, o4 + k * 4, none⟩ = some (.int .i64 x.web) ∧ X.cell? ⟨g4, o4 + k * 4 + 1, none⟩ = some (.int .i64 x.side) ∧ X.cell? ⟨g4, o4 + k * 4 + 2, none⟩ = some (.int .i64 x.row) ∧ X.cell? ⟨g4, o4 + k * 4 + 3, none⟩ = some (.int .i64 x.col) ∧
                X.cell? ⟨g4, o4 + (k + 1) * 4, none⟩ = some (.int .i64 y.web) ∧ X.cell? ⟨g4, o4 + (k + 1) * 4 + 1, none⟩ = some (.int .i64 y.side) ∧ X.cell? ⟨g4, o4 + (k + 1) * 4 + 2, none⟩ = some (.int .i64 y.row) ∧ X.cell? ⟨g4, o4 + (k + 1) * 4 + 3, none⟩ = some (.int .i64 y.col))
                  (first | exact HF.out _ (by assumption) | exact HF.out _ (Below.refl _ _) | exact HF.out _ (Below.refl _ _).drew | go_keep)
                  (first | (go_at_call 51; refine (HC.out _ ?_).mono ?_; (first | assumption | exact Below.refl _ _ | exact (Below.refl _ _).drew); rintro e w5 ⟨rfl, h5⟩))
                have ho5 := ownsRow_below ho h5
                have hB5 := hB.trans (h5.mono hB.size)
                have HE : Hid (((gang3 r ((layoutD r).take c) ++ gang2 r c (S.take s)) ++ gangTo r c s l k).flatMap PlaceD.cells ++ [.int .i64 c, .int .i64 s, .int .i64 k] = ((gang3 r ((layoutD r).take c) ++ gang2 r c (S.take s)) ++ gangTo r c s l (k + 1)).flatMap PlaceD.cells) := by
                  show _ = _
                  rw [Hg.out, ← List.append_assoc, place_snoc]; rfl
                have HN : Hid (((gang3 r ((layoutD r).take c) ++ gang2 r c (S.take s)) ++ gangTo r c s l (k + 1)).length = ((gang3 r ((layoutD r).take c) ++ gang2 r c (S.take s)) ++ gangTo r c s l k).length + 1) := by
                  show _ = _
                  rw [Hg.out, ← List.append_assoc, len_snoc]
                clear hwr hwr0 hwr2 hwr3 hwr4 ho
                generalize hnn : ((gang3 r ((layoutD r).take c) ++ gang2 r c (S.take s)) ++ gangTo r c s l k).length = nn at *
                have Hnn := Lib.hid hnn
                clear hnn
                go_wp2_with (at_builtin; refine wpList_append_own _ rfl _ _ 63 rfl w4.heap.size 56 i0 (.agg #[.int .i64 0, .int .i64 0, .int .i64 0]) 3 24 Try.underlying63 hi hz0 hz1 hz2 rfl (by decide) _ _ _ rfl (ho5.alloc _) ⟨w5.heap.size, 0, none⟩ 1 1 [.int .i64 c, .int .i64 s, .int .i64 k] rfl rfl (cells_new _ _ _) (by simp [Value.oneCell']) (by simp only [maxLen]; omega) (by omega) (by have := hB5.size; simp; omega) ?_; intro v' w6 hown' hgrow _)
                have hB6 : Below w4.heap.size w4 w6 := (hB5.alloc hB5.size _).grown hgrow (by have := hB5.size; simp; omega) fun k hk => (ho5.lt k hk).1
                have ho6 : OPl w4.heap.size w6 v' ((gang3 r ((layoutD r).take c) ++ gang2 r c (S.take s)) ++ gangTo r c s l (k + 1)) := by
                  unfold OPl
                  rw [HN.out, ← HE.out]
                  exact hown'
                clear hown' hgrow ho5
                go_wp2
                go_roundw
                case rel => exact ⟨k + 1, by omega, by go_num, ho6, hB6⟩
                case measure => simp [intOf]; omega
            · have hall : gangTo r c s l k = gang1 r c s l := by unfold gang1; rw [show k = l.length - 1 by omega]
              have ho2 : OPl w4.heap.size wr u6 (gang3 r ((layoutD r).take c) ++ gang2 r c (S.take (s + 1))) := by rw [gang2_next Hl.out, ← List.append_assoc, ← hall]; exact ho
              clear hall ho
              go_wp2
              go_roundw
              case rel => exact ⟨s + 1, by omega, by go_num, ho2, hB⟩
              case measure => simp [intOf]; omega
        · have ho2 : OPl w4.heap.size wr u6 (gang3 r ((layoutD r).take (c + 1))) := by
            rw [gang3_next HS.out, show S = S.take s from (List.take_of_length_le (by omega)).symm]; exact ho
          clear ho
          go_wp2
          go_roundw
          case rel => exact ⟨c + 1, by omega, by go_num, ho2, hB⟩
          case measure => simp [intOf]; omega
    · have ho2 : OPl w4.heap.size wr u6 (gangedD r) := by
        unfold gangedD
        rw [show layoutD r = (layoutD r).take c from (List.take_of_length_le (by omega)).symm]; exact ho
      have HR : ∀ e, e = .returned (.tuple #[u6, .int .i64 0]) → GangRet r w e wr := fun e he => ⟨_, by rw [Hok.out]; exact he, fun _ => ownsRow_base ho2 B4.size, fun h => absurd Hok.out h, B4.trans (hB.mono B4.size)⟩
      have HR' := Lib.hid HR
      clear HR ho ho2
      go_wp2
      go_ret2
      exact HR'.out _ rfl
end Go.Proofs.Ytdbfhdncjblleaa
