/-
  THE CHECKS OF A RUN: its stacks; Collected.
-/
import Derived.Test.YtdbfhdncjblleaaG
namespace Go.Proofs.Ytdbfhdncjblleaa
open Go.RowKit

/-- Block s is the row of what is stacked. -/
def Tab1 (s : Nat) (t : TypeId) (w : World) (f : Nat → Bool) : Prop := ∃ cs, w.heap[s]? = some (.cells cs t (0, 0)) ∧ cs.size = 32 ∧ ∀ a, a < 32 → cs[a]? = some (.bool (f a))
section
variable {s : Nat} {t : TypeId} {w w' : World} {f g : Nat → Bool}
theorem Tab1.lt (h : Tab1 s t w f) : s < w.heap.size := by
  obtain ⟨cs, h, -, -⟩ := h
  exact (Array.getElem?_eq_some_iff.1 h).1
theorem Tab1.below (h : Tab1 s t w f) {B : Nat} (hb : Below B w w') (hs : s < B) : Tab1 s t w' f := by
  obtain ⟨cs, h, h1, h2⟩ := h
  exact ⟨cs, (hb.block s hs).trans h, h1, h2⟩
theorem Tab1.cell (h : Tab1 s t w f) {a : Nat} (ha : a < 32) : w.cell? ⟨s, a, none⟩ = some (.bool (f a)) ∧ w.frozen? ⟨s, a, none⟩ = false := by
  obtain ⟨cs, h, h1, h2⟩ := h
  refine ⟨?_, by simp [World.frozen?, h]⟩
  rw [cell_of_row w s _ cs t (0, 0) h]
  exact h2 a ha
theorem Tab1.set_ (h : Tab1 s t w f) {a : Nat} (ha : a < 32) (hg : ∀ a', a' < 32 → g a' = (f a' || decide (a' = a))) : Tab1 s t (w.setCell ⟨s, a, none⟩ (.bool true)) g := by
  obtain ⟨cs, h, h1, h2⟩ := h
  refine ⟨cs.setIfInBounds a (.bool true), by simp [World.setCell, Array.getElem?_modify, h], by simpa using h1, fun a' ha' => ?_⟩
  rw [Array.getElem?_setIfInBounds, hg a' ha']
  by_cases he : a = a'
  · subst he
    rw [if_pos rfl, if_pos (by omega)]; simp
  · rw [if_neg he, h2 a' ha']
    have : decide (a' = a) = false := by simp; omega
    rw [this, Bool.or_false]
theorem Tab1.same (h : Tab1 s t w f) (hfg : ∀ a, a < 32 → f a = g a) : Tab1 s t w g := by
  obtain ⟨cs, h, h1, h2⟩ := h
  exact ⟨cs, h, h1, fun a ha => by rw [h2 a ha, hfg a ha]⟩
end

def doneL (r : RunD) (k m : Nat) : List Int := (r.stacks.take k).flatten ++ (r.stacks.getD k []).take m
def itemB (r : RunD) (k m : Nat) : Bool := decide (0 ≤ (r.stacks.getD k []).getD m 0 ∧ (r.stacks.getD k []).getD m 0 < r.ribs.length) && !(doneL r k m).contains ((r.stacks.getD k []).getD m 0)
def stackB (r : RunD) (k : Nat) : Bool := decide ((r.stacks.getD k []).length ≠ 0) && (List.range (r.stacks.getD k []).length).all (itemB r k)
def stacksE (r : RunD) : Int := if (List.range r.stacks.length).all (stackB r) && (List.range r.ribs.length).all (fun i => r.stacks.flatten.contains (i : Int)) then 0 else 20

theorem stacks_bad {r : RunD} {k : Nat} (hk : k < r.stacks.length) (h : stackB r k = false) : stacksE r = 20 := by
  unfold stacksE
  rw [range_not hk h]; rfl
theorem stacks_item {r : RunD} {k m : Nat} (hk : k < r.stacks.length) (hm : m < (r.stacks.getD k []).length) (h : itemB r k m = false) : stacksE r = 20 :=
  stacks_bad hk (by unfold stackB; rw [range_not hm h, Bool.and_false])
theorem stacks_open {r : RunD} {i : Nat} (hi : i < r.ribs.length) (h : r.stacks.flatten.contains (i : Int) = false) : stacksE r = 20 := by
  unfold stacksE
  rw [range_not (f := fun i => r.stacks.flatten.contains (i : Int)) hi h, Bool.and_false]; rfl
theorem stacks_ok {r : RunD} (h1 : Hid ((List.range r.stacks.length).all (stackB r) = true)) (h2 : Hid ((List.range r.ribs.length).all (fun i => r.stacks.flatten.contains (i : Int)) = true)) : stacksE r = 0 := by
  unfold stacksE
  rw [h1.out, h2.out]; rfl
theorem done_zero (r : RunD) (k : Nat) : doneL r k 0 = (r.stacks.take k).flatten := by simp [doneL]
theorem done_next {r : RunD} {k m : Nat} {l : List Int} (hl : r.stacks[k]? = some l) (hm : m < l.length) (i : Nat) : (doneL r k (m + 1)).contains (i : Int) = ((doneL r k m).contains (i : Int) || decide ((i : Int) = l.getD m 0)) := by
  unfold doneL
  rw [getD_of hl, List.take_succ_eq_append_getElem hm, ← List.append_assoc, Bool.eq_iff_iff]
  simp only [List.contains_iff_mem, List.mem_append, List.mem_singleton, Bool.or_eq_true, decide_eq_true_eq, List.getD_eq_getElem?_getD, List.getElem?_eq_getElem hm, Option.getD_some]
theorem done_end {r : RunD} {k : Nat} {l : List Int} (hl : r.stacks[k]? = some l) : doneL r k l.length = (r.stacks.take (k + 1)).flatten := by
  obtain ⟨hk, rfl⟩ := List.getElem?_eq_some_iff.1 hl
  unfold doneL
  rw [getD_of hl, List.take_length, List.take_succ_eq_append_getElem hk, List.flatten_append]
  simp

set_option maxHeartbeats 2000000 in
theorem checkStacks_any (v : Value) (r : RunD) (w : World) (h : RRun w.heap.size w v r) (h32 : r.ribs.length ≤ 32) :
    Calls Try.prog 66 #[v] w fun e w' => e = .returned (.int .i64 (stacksE r)) ∧ Below w.heap.size w w' := by
  obtain ⟨v1, v2, v3, rfl, hw, hr, hs⟩ := h
  obtain ⟨A2, c2, rfl, hA2⟩ := slice_len hr
  obtain ⟨A3, c3, rfl, hA3, hA⟩ := hs.open_
  have HA := Lib.hid hA
  clear hw hr hs hA
  go_enter Try.func66, Try.ntmps66
  go_wp2
  have b0 : Below w.heap.size w (w.alloc (.cells #[v1, .slice A2 r.ribs.length c2, .slice A3 r.stacks.length c3, .bool r.coll] 111)) := (Below.refl _ _).alloc (Nat.le_refl _) _
  have c0 := box4 (w := w) (a := v1) (b := .slice A2 r.ribs.length c2) (c := .slice A3 r.stacks.length c3) (d := .bool r.coll) (t := 111) 1 _ rfl
  have z0 : (w.alloc (.cells #[v1, .slice A2 r.ribs.length c2, .slice A3 r.stacks.length c3, .bool r.coll] 111)).heap.size = w.heap.size + 1 := by simp
  generalize w.alloc (.cells #[v1, .slice A2 r.ribs.length c2, .slice A3 r.stacks.length c3, .bool r.coll] 111) = w1 at *
  have HT0 : ∃ w2 : World, w1.alloc (.cells (Array.replicate 32 (.bool false)) 153) = w2 ∧ Tab1 (w.heap.size + 1) 153 w2 (fun i => (r.stacks.take 0).flatten.contains (i : Int)) ∧ Below (w.heap.size + 1) w1 w2 := by
    refine ⟨_, rfl, ⟨Array.replicate 32 (.bool false), by rw [← z0]; exact heap_alloc_new w1 _, by simp, fun a ha => ?_⟩, (Below.refl _ _).alloc (by omega) _⟩
    rw [Array.getElem?_replicate, if_pos (by omega)]
    simp
  obtain ⟨w2, e2, hT0, hB0⟩ := HT0
  simp only [Array.replicate_succ, Array.replicate_zero, List.push_toArray, List.nil_append, List.cons_append] at e2
  rw [e2]
  clear e2
  have C0 := Lib.hid c0
  clear c0
  go_loopw [13] (fun i wr => ∃ k : Nat, k ≤ r.stacks.length ∧ i = .int .i64 k ∧ Hid ((List.range k).all (stackB r) = true) ∧ Tab1 (w.heap.size + 1) 153 wr (fun i => (r.stacks.take k).flatten.contains (i : Int)) ∧ Below (w.heap.size + 1) w1 wr) (fun i _ => r.stacks.length - (intOf i).toNat)
  case atStart => exact ⟨0, Nat.zero_le _, rfl, rfl, hT0, hB0⟩
  case round =>
    obtain ⟨k, hk, rfl, ht, hT, hB⟩ := hrel
    have hBw : Below w.heap.size w wr := b0.trans (hB.mono (by omega))
    by_cases hlt : k < r.stacks.length
    · obtain ⟨x, hx⟩ : ∃ x, r.stacks[k]? = some x := ⟨_, List.getElem?_eq_getElem hlt⟩
      obtain ⟨g, o, u, rfl, hb, hc1, hp⟩ := HA.out k x hx
      rw [← hBw.cell (p := ⟨g, o + k, none⟩) hb] at hc1
      obtain ⟨A5, c5, rfl, hA5, hA6⟩ := hp.open_
      have Hx := Lib.hid hx
      have HA6 := Lib.hid hA6
      clear hx hA6 hp
      by_cases h0 : x.length = 0
      · have Hn := Lib.hid (stacks_bad hlt (by unfold stackB; rw [getD_of Hx.out, h0]; rfl))
        have h0' : ((x.length : Int) == 0) = true := by rw [h0]; rfl
        clear h0
        go_wp2
        go_ret
        exact ⟨ri Hn.out, hBw⟩
      · have h0' : ((x.length : Int) == 0) = false := by rw [beq_eq_false_iff_ne]; omega
        have hT' := hT.same (g := fun i => (doneL r k 0).contains (i : Int)) fun a _ => by rw [done_zero]
        go_wp2
        go_loopw [22] (fun i wr => ∃ m : Nat, m ≤ x.length ∧ i = .int .i64 m ∧ Hid ((List.range m).all (itemB r k) = true) ∧ Tab1 (w.heap.size + 1) 153 wr (fun i => (doneL r k m).contains (i : Int)) ∧ Below (w.heap.size + 1) w1 wr) (fun i _ => x.length - (intOf i).toNat)
        case atStart => exact ⟨0, Nat.zero_le _, rfl, rfl, hT', hB⟩
        case round =>
          clear hT hT' hB hBw hc1
          obtain ⟨m, hm, rfl, hq, hT, hB⟩ := hrel
          have hBw : Below w.heap.size w wr := b0.trans (hB.mono (by omega))
          have zr : w.heap.size + 1 < wr.heap.size := hT.lt
          by_cases hmt : m < x.length
          · obtain ⟨g2, o2, y, rfl, hb2, hc2, hy⟩ := HA6.out m hmt
            rw [← hBw.cell (p := ⟨g2, o2 + m, none⟩) hb2] at hc2
            have d1 := (hB.cell (p := ⟨w.heap.size, 1, none⟩) (by simp)).trans C0.out
            have hml : m < (r.stacks.getD k []).length := by rw [getD_of Hx.out]; exact hmt
            have hyy : (r.stacks.getD k []).getD m 0 = y := by rw [getD_of Hx.out]; exact hy.out
            have Hyy := Lib.hid hyy
            have Hml := Lib.hid hml
            clear hyy hml
            by_cases hy1 : 0 ≤ y
            case neg =>
              have Hn := Lib.hid (stacks_item hlt Hml.out (by unfold itemB; rw [Hyy.out, decide_eq_false (by omega)]; rfl))
              go_wp2
              go_ret
              exact ⟨ri Hn.out, hBw⟩
            by_cases hy2 : y < r.ribs.length
            case neg =>
              have Hn := Lib.hid (stacks_item hlt Hml.out (by unfold itemB; rw [Hyy.out, decide_eq_false (by omega)]; rfl))
              go_wp2
              go_ret
              exact ⟨ri Hn.out, hBw⟩
            obtain ⟨a, rfl⟩ := Int.eq_ofNat_of_zero_le hy1
            obtain ⟨t1, t2⟩ := hT.cell (a := a) (by omega)
            have i1 : (a : Int) < 32 := by omega
            cases hcov : (doneL r k m).contains (a : Int)
            · simp only [hcov] at t1
              have hT2 := hT.set_ (a := a) (g := fun i => (doneL r k (m + 1)).contains (i : Int)) (by omega) fun a' _ => by
                rw [done_next Hx.out hmt, hy.out]
                congr 1
                exact decide_eq_decide.2 (by omega)
              have hi : itemB r k m = true := by unfold itemB; rw [Hyy.out, hcov, decide_eq_true (by omega)]; rfl
              have Hi := Lib.hid hi
              clear hi hcov
              go_wp2
              go_roundw
              case rel => exact ⟨m + 1, by omega, by go_num, range_next hq Hi.out, hT2, hB.setCell (p := ⟨w.heap.size + 1, a, none⟩) (Nat.le_refl _) _⟩
              case measure => simp [intOf]; omega
            · simp only [hcov] at t1
              have Hn := Lib.hid (stacks_item hlt Hml.out (by unfold itemB; rw [Hyy.out, hcov]; simp))
              clear hcov
              go_wp2
              go_ret
              exact ⟨ri Hn.out, hBw⟩
          · have hT2 := hT.same (g := fun i => (r.stacks.take (k + 1)).flatten.contains (i : Int)) fun a _ => by
              rw [show m = x.length by omega, done_end Hx.out]
            have hgood : stackB r k = true := by
              unfold stackB
              have := hq.out
              rw [show m = x.length by omega] at this
              rw [getD_of Hx.out, this]
              simpa using h0
            have Hgood := Lib.hid hgood
            clear hgood
            go_wp2
            go_roundw
            case rel => exact ⟨k + 1, by omega, by go_num, range_next ht Hgood.out, hT2, hB⟩
            case measure => simp [intOf]; omega
    · have hT2 := hT.same (g := fun i => r.stacks.flatten.contains (i : Int)) fun a _ => by rw [List.take_of_length_le (by omega)]
      have hd : Hid ((List.range r.stacks.length).all (stackB r) = true) := by
        have := ht.out
        rwa [show k = r.stacks.length by omega] at this
      clear ht hT
      have d1 := (hB.cell (p := ⟨w.heap.size, 1, none⟩) (by simp)).trans C0.out
      go_wp2
      go_loop [49] (fun i => ∃ k : Nat, k ≤ r.ribs.length ∧ i = .int .i64 k ∧ Hid ((List.range k).all (fun i => r.stacks.flatten.contains (i : Int)) = true)) (fun i => r.ribs.length - (intOf i).toNat)
      case atStart => exact ⟨0, Nat.zero_le _, rfl, rfl⟩
      case round =>
        obtain ⟨m, hm, rfl, hcv⟩ := hrel
        by_cases hlt2 : m < r.ribs.length
        · obtain ⟨t1, t2⟩ := hT2.cell (a := m) (by omega)
          have i1 : (m : Int) < 32 := by omega
          cases hcov : r.stacks.flatten.contains (m : Int)
          · simp only [hcov] at t1
            have Hn := Lib.hid (stacks_open hlt2 hcov)
            clear hcov
            go_wp2
            go_ret
            exact ⟨ri Hn.out, hBw⟩
          · simp only [hcov] at t1
            have Hc := Lib.hid hcov
            clear hcov
            go_wp2
            go_round
            case rel => exact ⟨m + 1, by omega, by go_num, range_next hcv Hc.out⟩
            case measure => simp [intOf]; omega
        · have Hn := Lib.hid (stacks_ok hd (by
            have := hcv.out
            rwa [show m = r.ribs.length by omega] at this))
          go_wp2
          go_ret
          exact ⟨ri Hn.out, hBw⟩

def collE (r : RunD) : Int := if r.coll && decide (rows0 r ≠ 2) then 20 else 0

set_option maxHeartbeats 400000 in
/-- The closure over the box b of the run. -/
theorem collected_any (b : Nat) (v1 v2 v3 : Value) (r : RunD) (w : World) (hw : RWebs w.heap.size w v1 r.webs) (h0 : 0 < r.webs.length)
    (c0 : w.cell? ⟨b, 0, none⟩ = some v1) (c1 : w.cell? ⟨b, 1, none⟩ = some v2) (c2 : w.cell? ⟨b, 2, none⟩ = some v3) (c3 : w.cell? ⟨b, 3, none⟩ = some (.bool r.coll)) :
    Calls Try.prog 62 #[.pointer (some ⟨b, 0, none⟩)] w fun e w' => e = .returned (.int .i64 (collE r)) ∧ w = w' := by
  obtain ⟨A, c, rfl, hA1, hA⟩ := hw.open_
  obtain ⟨x, hx⟩ : ∃ x, r.webs[0]? = some x := ⟨_, List.getElem?_eq_getElem h0⟩
  obtain ⟨g, o, u, rfl, hb, hc1, hc2, hc3, hp⟩ := hA 0 x hx
  simp only [Nat.zero_mul, Nat.add_zero] at hc2
  have h0' : (0 : Int) < r.webs.length := by omega
  have Hr : rows0 r = x.rows := by unfold rows0; rw [getD_of hx]
  have HR := Lib.hid Hr
  clear Hr hA hx hp hc1 hc3
  cases hcoll : r.coll
  · rw [hcoll] at c3
    have Hn : Hid (collE r = 0) := by show collE r = 0; unfold collE; rw [hcoll]; rfl
    clear hcoll
    go_enter Try.func62, Try.ntmps62
    go_wp2
    go_ret
    exact ⟨ri Hn.out, rfl⟩
  · rw [hcoll] at c3
    by_cases h2 : x.rows = 2
    · have Hn : Hid (collE r = 0) := by show collE r = 0; unfold collE; rw [hcoll, HR.out, h2]; rfl
      rw [h2] at hc2
      clear hcoll h2
      go_enter Try.func62, Try.ntmps62
      go_wp2
      go_ret
      exact ⟨ri Hn.out, rfl⟩
    · have Hn : Hid (collE r = 20) := by show collE r = 20; unfold collE; rw [hcoll, HR.out, decide_eq_true h2]; rfl
      have h2' : (x.rows != 2) = true := by simpa using h2
      clear hcoll h2
      go_enter Try.func62, Try.ntmps62
      go_wp2
      go_ret
      exact ⟨ri Hn.out, rfl⟩

end Go.Proofs.Ytdbfhdncjblleaa
