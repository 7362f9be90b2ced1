/-
  ribbonOf, beside.
-/
import Derived.Test.YtdbfhdncjblleaaU
namespace Go.Proofs.Ytdbfhdncjblleaa
open Go.RowKit

def ribOfB (s : SpotD) (b : RibD) : Bool := decide (b.web = s.web ∧ b.col ≤ s.col ∧ s.col < b.col + b.width)
def idxD (r : RunD) (s : SpotD) : Int := match r.ribs.findIdx? (ribOfB s) with
  | some i => i
  | none => -1

theorem below_alloc (w : World) (o : Obj) : Below w.heap.size w (w.alloc o) := (Below.refl _ _).alloc (Nat.le_refl _) _

set_option maxHeartbeats 400000 in
theorem ribOf_any (s : SpotD) (b : RibD) (B : Nat) (w : World) (hb : 0 ≤ b.col ∧ b.col ≤ 1000 ∧ 0 ≤ b.width ∧ b.width ≤ 1000) (hlt : B < w.heap.size)
    (h0 : w.cell? ⟨B, 0, none⟩ = some (.int .i64 s.web)) (h3 : w.cell? ⟨B, 3, none⟩ = some (.int .i64 s.col)) :
    Calls Try.prog 83 #[b.val, .pointer (some ⟨B, 0, none⟩)] w fun e w' => e = .returned (.bool (ribOfB s b)) ∧ Below w.heap.size w w' := by
  obtain ⟨web, col, width, turned, left⟩ := b
  obtain ⟨sw, ss, sr, sc⟩ := s
  obtain ⟨b1, b2, b3, b4⟩ := hb
  dsimp only at h0 h3 b1 b2 b3 b4
  unfold RibD.val
  by_cases c1 : web = sw
  case neg =>
    have c1' : (web == sw) = false := by simpa using c1
    have Hn : Hid (ribOfB ⟨sw, ss, sr, sc⟩ ⟨web, col, width, turned, left⟩ = false) := decide_eq_false (fun h => c1 h.1)
    clear c1
    go_enter Try.func83, Try.ntmps83
    go_wp2
    go_ret
    exact ⟨rb Hn.out, below_alloc _ _⟩
  subst c1
  by_cases c2 : col ≤ sc
  case neg =>
    have Hn : Hid (ribOfB ⟨web, ss, sr, sc⟩ ⟨web, col, width, turned, left⟩ = false) := decide_eq_false (fun h => c2 h.2.1)
    go_enter Try.func83, Try.ntmps83
    go_wp2
    go_ret
    exact ⟨rb Hn.out, below_alloc _ _⟩
  by_cases c3 : sc < col + width
  case neg =>
    have Hn : Hid (ribOfB ⟨web, ss, sr, sc⟩ ⟨web, col, width, turned, left⟩ = false) := decide_eq_false (fun h => c3 h.2.2)
    go_enter Try.func83, Try.ntmps83
    go_wp2
    go_ret
    exact ⟨rb Hn.out, below_alloc _ _⟩
  have Hn : Hid (ribOfB ⟨web, ss, sr, sc⟩ ⟨web, col, width, turned, left⟩ = true) := decide_eq_true ⟨rfl, c2, c3⟩
  go_enter Try.func83, Try.ntmps83
  go_wp2
  go_ret
  exact ⟨rb Hn.out, below_alloc _ _⟩

theorem findIdx_at {α : Type} {f : α → Bool} {l : List α} {k : Nat} {x : α} (h : Hid (∀ j y, j < k → l[j]? = some y → f y = false)) (hx : l[k]? = some x) (hf : f x = true) : l.findIdx? f = some k := by
  rw [List.findIdx?_eq_some_iff_getElem]
  obtain ⟨hk, rfl⟩ := List.getElem?_eq_some_iff.1 hx
  exact ⟨hk, hf, fun j hj => by rw [h.out j _ hj (List.getElem?_eq_getElem (by omega))]; simp⟩
theorem findIdx_no {α : Type} {f : α → Bool} {l : List α} (h : Hid (∀ j y, j < l.length → l[j]? = some y → f y = false)) : l.findIdx? f = none := by
  rw [List.findIdx?_eq_none_iff]
  intro x hx
  obtain ⟨j, hj, rfl⟩ := List.getElem_of_mem hx
  exact h.out j _ hj (List.getElem?_eq_getElem hj)

set_option maxHeartbeats 1000000 in
theorem indexFunc_any (v : Value) (r : RunD) (s : SpotD) (B : Nat) (w : World) (h : RRibs w.heap.size w v r.ribs) (hlt : B < w.heap.size)
    (hb : ∀ b ∈ r.ribs, 0 ≤ b.col ∧ b.col ≤ 1000 ∧ 0 ≤ b.width ∧ b.width ≤ 1000)
    (h0 : w.cell? ⟨B, 0, none⟩ = some (.int .i64 s.web)) (h3 : w.cell? ⟨B, 3, none⟩ = some (.int .i64 s.col)) :
    Calls Try.prog 82 #[v, .func (.func 83) #[] #[.pointer (some ⟨B, 0, none⟩)]] w fun e w' => e = .returned (.int .i64 (idxD r s)) ∧ Below w.heap.size w w' := by
  obtain ⟨A, c, rfl, hA1, hA⟩ := h.open_
  have HA := Lib.hid hA
  have HB := Lib.hid hb
  have H0 := Lib.hid h0
  have H3 := Lib.hid h3
  clear hA hb h h0 h3
  go_enter Try.func82, Try.ntmps82
  go_wp2
  go_loopw [8] (fun i wr => ∃ k : Nat, k ≤ r.ribs.length ∧ i = .int .i64 k ∧ Hid (∀ j y, j < k → r.ribs[j]? = some y → ribOfB s y = false) ∧ Below w.heap.size w wr) (fun i _ => r.ribs.length - (intOf i).toNat)
  case atStart => exact ⟨0, Nat.zero_le _, rfl, fun j y hj => by omega, Below.refl _ _⟩
  case round =>
    obtain ⟨k, hk, rfl, hno, hB⟩ := hrel
    by_cases hlt2 : k < r.ribs.length
    · obtain ⟨x, hx⟩ : ∃ x, r.ribs[k]? = some x := ⟨_, List.getElem?_eq_getElem hlt2⟩
      obtain ⟨g, o, rfl, hgb, hc1, hc2, hc3, hc4, hc5⟩ := HA.out k x hx
      rw [← hB.cell (p := ⟨g, o + k * 5, none⟩) hgb] at hc1
      rw [← hB.cell (p := ⟨g, o + k * 5 + 1, none⟩) hgb] at hc2
      rw [← hB.cell (p := ⟨g, o + k * 5 + 2, none⟩) hgb] at hc3
      rw [← hB.cell (p := ⟨g, o + k * 5 + 3, none⟩) hgb] at hc4
      rw [← hB.cell (p := ⟨g, o + k * 5 + 4, none⟩) hgb] at hc5
      have C := Lib.hid (ribOf_any s x B wr (HB.out x (List.mem_of_getElem? hx)) (Nat.lt_of_lt_of_le hlt hB.size) ((hB.cell (p := ⟨B, 0, none⟩) hlt).trans H0.out) ((hB.cell (p := ⟨B, 3, none⟩) hlt).trans H3.out))
      have Hx := Lib.hid hx
      clear hx
      cases hf : ribOfB s x
      · rw [hf] at C
        have hno2 : Hid (∀ j y, j < k + 1 → r.ribs[j]? = some y → ribOfB s y = false) := fun j y hj hy => by
          by_cases e : j = k
          · subst e
            have := Hx.out.symm.trans hy
            injection this with this
            rw [← this]; exact hf
          · exact hno.out j y (by omega) hy
        clear hf
        go_wp2_with fail
        refine C.out.mono ?_
        rintro e w3 ⟨rfl, hb3⟩
        go_wp2
        go_roundw
        case rel => exact ⟨k + 1, by omega, by go_num, hno2, hB.trans (hb3.mono hB.size)⟩
        case measure => simp [intOf]; omega
      · rw [hf] at C
        have Hn : Hid (idxD r s = k) := by
          show idxD r s = k
          unfold idxD
          rw [findIdx_at hno Hx.out hf]
        clear hf
        go_wp2_with fail
        refine C.out.mono ?_
        rintro e w3 ⟨rfl, hb3⟩
        go_wp2
        go_ret
        exact ⟨ri Hn.out, hB.trans (hb3.mono hB.size)⟩
    · have Hn : Hid (idxD r s = -1) := by
        show idxD r s = -1
        unfold idxD
        rw [findIdx_no (fun j y hj hy => hno.out j y (by omega) hy)]
      go_wp2
      go_ret
      exact ⟨ri Hn.out, hB⟩

theorem ribs_bound {r : RunD} (h : checkE r = 0) : ∀ b ∈ r.ribs, 0 ≤ b.col ∧ b.col ≤ 1000 ∧ 0 ≤ b.width ∧ b.width ≤ 1000 := fun b hb => by
  obtain ⟨k, hk, rfl⟩ := List.getElem_of_mem hb
  have h1 := rib_ok h hk
  rw [List.getD_eq_getElem?_getD, List.getElem?_eq_getElem hk] at h1
  simp only [Option.getD_some] at h1
  have := h1.col0; have := h1.col2; have := h1.width0; have := h1.width1
  omega

set_option maxHeartbeats 1000000 in
theorem ribbonOf_any (v : Value) (r : RunD) (s : SpotD) (w : World) (h : RRun w.heap.size w v r) (hok : checkE r = 0) :
    Calls Try.prog 70 #[v, s.val] w fun e w' => e = .returned (.int .i64 (idxD r s)) ∧ Below w.heap.size w w' := by
  have hmf : ∀ (fn : Fn) (first cap : Array Value) (w : World), (Instr.makeFunc fn first cap).run Try.prog w = .ok (.func fn first cap) w := fun _ _ _ _ => rfl
  obtain ⟨v1, v2, v3, rfl, -, hr, -⟩ := h
  have Hr := Lib.hid hr
  have HB := Lib.hid (ribs_bound hok)
  clear hr hok
  obtain ⟨sw, ss, sr, sc⟩ := s
  have b2 : ∀ o o', Below w.heap.size w ((w.alloc o).alloc o') := fun o o' => ((Below.refl _ _).alloc (Nat.le_refl _) _).alloc (by simp) _
  have C : ∀ o, Calls Try.prog 82 #[v2, .func (.func 83) #[] #[.pointer (some ⟨w.heap.size + 1, 0, none⟩)]] ((w.alloc o).alloc (.cells #[.int .i64 sw, .int .i64 ss, .int .i64 sr, .int .i64 sc] 53)) fun e w' => e = .returned (.int .i64 (idxD r ⟨sw, ss, sr, sc⟩)) ∧ Below ((w.alloc o).alloc (.cells #[.int .i64 sw, .int .i64 ss, .int .i64 sr, .int .i64 sc] 53)).heap.size ((w.alloc o).alloc (.cells #[.int .i64 sw, .int .i64 ss, .int .i64 sr, .int .i64 sc] 53)) w' := fun o => by
    have hk := Blk.new (w.alloc o) 53 #[.int .i64 sw, .int .i64 ss, .int .i64 sr, .int .i64 sc]
    rw [World.size_alloc] at hk
    exact indexFunc_any v2 r ⟨sw, ss, sr, sc⟩ (w.heap.size + 1) _ (Rd.more (Hr.out.below (b2 _ _)) (by simp; omega)) (by simp) HB.out (cellOf hk 0 rfl) (cellOf hk 3 rfl)
  have HC := Lib.hid C
  have HB2 := Lib.hid b2
  have z2 : ∀ o o', w.heap.size ≤ ((w.alloc o).alloc o').heap.size := fun o o' => by simp; omega
  have HZ := Lib.hid z2
  clear C b2 z2
  unfold SpotD.val
  go_enter Try.func70, Try.ntmps70
  go_wp2_with fail
  refine (HC.out _).mono ?_
  rintro e w3 ⟨rfl, hb3⟩
  go_wp2
  go_ret
  exact ⟨rfl, (HB2.out _ _).trans (hb3.mono (HZ.out _ _))⟩
end Go.Proofs.Ytdbfhdncjblleaa
