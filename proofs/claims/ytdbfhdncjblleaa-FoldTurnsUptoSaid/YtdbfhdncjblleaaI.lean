/-
  Check: the parts in their order.
-/
import Derived.Test.YtdbfhdncjblleaaH
namespace Go.Proofs.Ytdbfhdncjblleaa
open Go.RowKit

def partE (r : RunD) : Nat → Int
  | 0 => numbersE r
  | 1 => websE r
  | 2 => ribsE r
  | 3 => stacksE r
  | _ => collE r
def checkE (r : RunD) : Int := if partE r 0 ≠ 0 then partE r 0 else if partE r 1 ≠ 0 then partE r 1 else if partE r 2 ≠ 0 then partE r 2 else if partE r 3 ≠ 0 then partE r 3 else partE r 4

theorem check_bad {r : RunD} {k : Nat} (hk : k < 5) (h : ∀ j, j < k → partE r j = 0) (hn : partE r k ≠ 0) : checkE r = partE r k := by
  unfold checkE
  match k, hk with
  | 0, _ => rw [if_pos hn]
  | 1, _ => rw [if_neg (by rw [h 0 (by omega)]; simp), if_pos hn]
  | 2, _ => rw [if_neg (by rw [h 0 (by omega)]; simp), if_neg (by rw [h 1 (by omega)]; simp), if_pos hn]
  | 3, _ => rw [if_neg (by rw [h 0 (by omega)]; simp), if_neg (by rw [h 1 (by omega)]; simp), if_neg (by rw [h 2 (by omega)]; simp), if_pos hn]
  | 4, _ => rw [if_neg (by rw [h 0 (by omega)]; simp), if_neg (by rw [h 1 (by omega)]; simp), if_neg (by rw [h 2 (by omega)]; simp), if_neg (by rw [h 3 (by omega)]; simp)]
theorem check_ok {r : RunD} (h : ∀ j, j < 5 → partE r j = 0) : checkE r = 0 := by
  unfold checkE
  rw [if_neg (by rw [h 0 (by omega)]; simp), if_neg (by rw [h 1 (by omega)]; simp), if_neg (by rw [h 2 (by omega)]; simp), if_neg (by rw [h 3 (by omega)]; simp), h 4 (by omega)]
theorem numbers_ok {r : RunD} (h : partE r 0 = 0) : 1 ≤ r.webs.length ∧ r.webs.length ≤ 8 ∧ 1 ≤ r.ribs.length ∧ r.ribs.length ≤ 32 ∧ 1 ≤ r.stacks.length ∧ r.stacks.length ≤ 4 := by
  unfold partE numbersE at h
  cases hb : numbersB r with
  | false => rw [hb] at h; cases h
  | true =>
    simp only [numbersB, Bool.and_eq_true, decide_eq_true_eq] at hb
    omega
theorem webs_ok {r : RunD} (h : partE r 1 = 0) : ∀ y ∈ r.webs, 1 ≤ y.cols ∧ y.cols ≤ 4 ∧ 1 ≤ y.rows ∧ y.rows ≤ 2 ∧ y.rows = rows0 r ∧ (y.plates.length : Int) = 2 * y.rows * y.cols ∧ ∀ p ∈ y.plates, 0 ≤ p.page ∧ p.page ≤ 128 := by
  unfold partE websE at h
  cases hb : websB r with
  | false => rw [hb] at h; cases h
  | true =>
    intro y hy
    have := List.all_eq_true.1 hb y hy
    simp only [webB, sizeB, Bool.and_eq_true, decide_eq_true_eq] at this
    obtain ⟨⟨h1, h2⟩, h3⟩ := this
    refine ⟨h1.1, h1.2.1, h1.2.2.1, h1.2.2.2.1, h1.2.2.2.2, h2, fun p hp => ?_⟩
    have := List.all_eq_true.1 h3 p hp
    simpa [isPageB] using this

theorem part_next {r : RunD} {k : Nat} (h : Hid (∀ j, j < k → partE r j = 0)) (hk : partE r k = 0) : Hid (∀ j, j < k + 1 → partE r j = 0) := fun j hj => by
  by_cases e : j = k
  · rw [e]; exact hk
  · exact h.out j (by omega)

/-- What each part comes to, by its number. -/
theorem part0 (v : Value) (r : RunD) (w : World) (h : RRun w.heap.size w v r) : Calls Try.prog 63 #[v] w fun e w' => e = .returned (.int .i64 (partE r 0)) ∧ Below w.heap.size w w' := checkNumbers_any v r w h
theorem part1 (v : Value) (r : RunD) (w : World) (h : RRun w.heap.size w v r) : Calls Try.prog 64 #[v] w fun e w' => e = .returned (.int .i64 (partE r 1)) ∧ Below w.heap.size w w' := checkWebs_any v r w h
theorem part2 (v : Value) (r : RunD) (w : World) (h : RRun w.heap.size w v r) (hp : Hid (∀ j, j < 2 → partE r j = 0)) : Calls Try.prog 65 #[v] w fun e w' => e = .returned (.int .i64 (partE r 2)) ∧ Below w.heap.size w w' :=
  checkRibbons_any v r w h (fun y hy => ⟨(webs_ok (hp.out 1 (by omega)) y hy).1, (webs_ok (hp.out 1 (by omega)) y hy).2.1⟩) (numbers_ok (hp.out 0 (by omega))).2.1
theorem part3 (v : Value) (r : RunD) (w : World) (h : RRun w.heap.size w v r) (hp : Hid (∀ j, j < 3 → partE r j = 0)) : Calls Try.prog 66 #[v] w fun e w' => e = .returned (.int .i64 (partE r 3)) ∧ Below w.heap.size w w' :=
  checkStacks_any v r w h (numbers_ok (hp.out 0 (by omega))).2.2.2.1

set_option maxHeartbeats 1000000 in
theorem check_any (v : Value) (r : RunD) (w : World) (h : RRun w.heap.size w v r) :
    Calls Try.prog 42 #[v] w fun e w' => e = .returned (.int .i64 (checkE r)) ∧ Below w.heap.size w w' := by
  have hrun := Lib.hid h
  obtain ⟨v1, v2, v3, rfl, hw, hr, hs⟩ := h
  have Hw := Lib.hid hw
  clear hw hr hs
  have hmf : ∀ (fn : Fn) (first cap : Array Value) (w : World), (Instr.makeFunc fn first cap).run Try.prog w = .ok (.func fn first cap) w := fun _ _ _ _ => rfl
  have b0 : Below w.heap.size w ((w.alloc (.cells #[v1, v2, v3, .bool r.coll] 111)).alloc (.cells #[.func (.func 63) #[.agg #[v1, v2, v3, .bool r.coll]] #[], .func (.func 64) #[.agg #[v1, v2, v3, .bool r.coll]] #[],
      .func (.func 65) #[.agg #[v1, v2, v3, .bool r.coll]] #[], .func (.func 66) #[.agg #[v1, v2, v3, .bool r.coll]] #[], .func (.func 62) #[] #[.pointer (some ⟨w.heap.size, 0, none⟩)]] 112)) := ((Below.refl _ _).alloc (Nat.le_refl _) _).alloc (by simp) _
  have c0 : ∀ j x, #[v1, v2, v3, .bool r.coll][j]? = some x → ((w.alloc (.cells #[v1, v2, v3, .bool r.coll] 111)).alloc (.cells #[.func (.func 63) #[.agg #[v1, v2, v3, .bool r.coll]] #[], .func (.func 64) #[.agg #[v1, v2, v3, .bool r.coll]] #[],
      .func (.func 65) #[.agg #[v1, v2, v3, .bool r.coll]] #[], .func (.func 66) #[.agg #[v1, v2, v3, .bool r.coll]] #[], .func (.func 62) #[] #[.pointer (some ⟨w.heap.size, 0, none⟩)]] 112)).cell? ⟨w.heap.size, j, none⟩ = some x := fun j x hx => by
    rw [World.cell?_alloc_past _ _ _ (by simp)]; exact box4 j x hx
  have c1 : ∀ j x, #[Value.func (.func 63) #[.agg #[v1, v2, v3, .bool r.coll]] #[], .func (.func 64) #[.agg #[v1, v2, v3, .bool r.coll]] #[],
      .func (.func 65) #[.agg #[v1, v2, v3, .bool r.coll]] #[], .func (.func 66) #[.agg #[v1, v2, v3, .bool r.coll]] #[], .func (.func 62) #[] #[.pointer (some ⟨w.heap.size, 0, none⟩)]][j]? = some x → ((w.alloc (.cells #[v1, v2, v3, .bool r.coll] 111)).alloc (.cells #[.func (.func 63) #[.agg #[v1, v2, v3, .bool r.coll]] #[], .func (.func 64) #[.agg #[v1, v2, v3, .bool r.coll]] #[],
      .func (.func 65) #[.agg #[v1, v2, v3, .bool r.coll]] #[], .func (.func 66) #[.agg #[v1, v2, v3, .bool r.coll]] #[], .func (.func 62) #[] #[.pointer (some ⟨w.heap.size, 0, none⟩)]] 112)).cell? ⟨w.heap.size + 1, j, none⟩ = some x := fun j x hx => by
    rw [World.cell?_alloc_at _ _ _ _ (by simp), hx]
  have C0 := Lib.hid c0
  have C1 := Lib.hid c1
  have B0 := Lib.hid b0
  clear c0 c1 b0
  go_enter Try.func42, Try.ntmps42
  go_wp2
  obtain ⟨w2, e2⟩ : ∃ w2, w2 = ((w.alloc (.cells #[v1, v2, v3, .bool r.coll] 111)).alloc (.cells #[.func (.func 63) #[.agg #[v1, v2, v3, .bool r.coll]] #[], .func (.func 64) #[.agg #[v1, v2, v3, .bool r.coll]] #[],
      .func (.func 65) #[.agg #[v1, v2, v3, .bool r.coll]] #[], .func (.func 66) #[.agg #[v1, v2, v3, .bool r.coll]] #[], .func (.func 62) #[] #[.pointer (some ⟨w.heap.size, 0, none⟩)]] 112)) := ⟨_, rfl⟩
  have z2 : w2.heap.size = w.heap.size + 2 := by rw [e2]; simp
  rw [← e2]
  rw [← e2] at C0 C1 B0
  have Z2 := Lib.hid z2
  clear e2 z2
  go_loopw [19] (fun i wr => ∃ k : Nat, k ≤ 5 ∧ i = .int .i64 k ∧ Hid (∀ j, j < k → partE r j = 0) ∧ Below (w.heap.size + 2) w2 wr) (fun i _ => 5 - (intOf i).toNat)
  case atStart => exact ⟨0, by omega, rfl, fun j hj => by omega, Below.refl _ _⟩
  case round =>
    obtain ⟨k, hk, rfl, hp, hB⟩ := hrel
    have hBw : Below w.heap.size w wr := B0.out.trans (hB.mono (by omega))
    have hrw : RRun wr.heap.size wr (.agg #[v1, v2, v3, .bool r.coll]) r := (hrun.out.below hBw).more hBw.size
    have f0 := fun x h => (hB.cell (p := ⟨w.heap.size + 1, k, none⟩) (by simp)).trans (C1.out k x h)
    have zr : w.heap.size + 2 ≤ wr.heap.size := by have := hB.size; rw [Z2.out] at this; exact this
    have hbk : ∀ w', Below wr.heap.size wr w' → Below (w.heap.size + 2) w2 w' := fun w' h => hB.trans (h.mono zr)
    have hbw : ∀ w', Below wr.heap.size wr w' → Below w.heap.size w w' := fun w' h => hBw.trans (h.mono (by omega))
    have Hbk := Lib.hid hbk
    have Hbw := Lib.hid hbw
    clear hbk hbw
    by_cases h5 : k = 5
    · subst h5
      have Hn := Lib.hid (check_ok hp.out)
      clear f0
      go_wp2
      go_ret
      exact ⟨ri Hn.out, hBw⟩
    obtain rfl | rfl | rfl | rfl | rfl : k = 0 ∨ k = 1 ∨ k = 2 ∨ k = 3 ∨ k = 4 := by omega
    · have f1 := f0 _ rfl
      clear f0
      have C := Lib.hid (part0 _ r wr hrw)
      by_cases hz : partE r 0 = 0
      · have Hz := Lib.hid hz
        rw [hz] at C
        clear hz
        go_wp2_with fail
        refine C.out.mono ?_
        rintro e w3 ⟨rfl, hb3⟩
        go_wp2
        go_roundw
        case rel => exact ⟨0 + 1, by omega, by go_num, part_next hp Hz.out, Hbk.out _ hb3⟩
        case measure => simp [intOf]
      · have Hn := Lib.hid (check_bad (k := 0) (by omega) hp.out hz)
        have hz' : (partE r 0 != 0) = true := by simpa using hz
        clear hz
        generalize partE r 0 = e0 at *
        go_wp2_with fail
        refine C.out.mono ?_
        rintro e w3 ⟨rfl, hb3⟩
        go_wp2
        go_ret
        exact ⟨ri Hn.out, Hbw.out _ hb3⟩
    · have f1 := f0 _ rfl
      clear f0
      have C := Lib.hid (part1 _ r wr hrw)
      by_cases hz : partE r 1 = 0
      · have Hz := Lib.hid hz
        rw [hz] at C
        clear hz
        go_wp2_with fail
        refine C.out.mono ?_
        rintro e w3 ⟨rfl, hb3⟩
        go_wp2
        go_roundw
        case rel => exact ⟨1 + 1, by omega, by go_num, part_next hp Hz.out, Hbk.out _ hb3⟩
        case measure => simp [intOf]
      · have Hn := Lib.hid (check_bad (k := 1) (by omega) hp.out hz)
        have hz' : (partE r 1 != 0) = true := by simpa using hz
        clear hz
        generalize partE r 1 = e1 at *
        go_wp2_with fail
        refine C.out.mono ?_
        rintro e w3 ⟨rfl, hb3⟩
        go_wp2
        go_ret
        exact ⟨ri Hn.out, Hbw.out _ hb3⟩
    · have f1 := f0 _ rfl
      clear f0
      have C := Lib.hid (part2 _ r wr hrw hp)
      by_cases hz : partE r 2 = 0
      · have Hz := Lib.hid hz
        rw [hz] at C
        clear hz
        go_wp2_with fail
        refine C.out.mono ?_
        rintro e w3 ⟨rfl, hb3⟩
        go_wp2
        go_roundw
        case rel => exact ⟨2 + 1, by omega, by go_num, part_next hp Hz.out, Hbk.out _ hb3⟩
        case measure => simp [intOf]
      · have Hn := Lib.hid (check_bad (k := 2) (by omega) hp.out hz)
        have hz' : (partE r 2 != 0) = true := by simpa using hz
        clear hz
        generalize partE r 2 = e2 at *
        go_wp2_with fail
        refine C.out.mono ?_
        rintro e w3 ⟨rfl, hb3⟩
        go_wp2
        go_ret
        exact ⟨ri Hn.out, Hbw.out _ hb3⟩
    · have f1 := f0 _ rfl
      clear f0
      have C := Lib.hid (part3 _ r wr hrw hp)
      by_cases hz : partE r 3 = 0
      · have Hz := Lib.hid hz
        rw [hz] at C
        clear hz
        go_wp2_with fail
        refine C.out.mono ?_
        rintro e w3 ⟨rfl, hb3⟩
        go_wp2
        go_roundw
        case rel => exact ⟨3 + 1, by omega, by go_num, part_next hp Hz.out, Hbk.out _ hb3⟩
        case measure => simp [intOf]
      · have Hn := Lib.hid (check_bad (k := 3) (by omega) hp.out hz)
        have hz' : (partE r 3 != 0) = true := by simpa using hz
        clear hz
        generalize partE r 3 = e3 at *
        go_wp2_with fail
        refine C.out.mono ?_
        rintro e w3 ⟨rfl, hb3⟩
        go_wp2
        go_ret
        exact ⟨ri Hn.out, Hbw.out _ hb3⟩
    · have f1 := f0 _ rfl
      clear f0
      have d0 := (hB.cell (p := ⟨w.heap.size, 0, none⟩) (by simp)).trans (C0.out 0 _ rfl)
      have d1 := (hB.cell (p := ⟨w.heap.size, 1, none⟩) (by simp)).trans (C0.out 1 _ rfl)
      have d2 := (hB.cell (p := ⟨w.heap.size, 2, none⟩) (by simp)).trans (C0.out 2 _ rfl)
      have d3 := (hB.cell (p := ⟨w.heap.size, 3, none⟩) (by simp)).trans (C0.out 3 _ rfl)
      have C : Hid (Calls Try.prog 62 #[.pointer (some ⟨w.heap.size, 0, none⟩)] wr fun e w' => e = .returned (.int .i64 (partE r 4)) ∧ wr = w') := Lib.hid (collected_any w.heap.size v1 v2 v3 r wr ((Hw.out.below hBw).more hBw.size) (numbers_ok (hp.out 0 (by omega))).1 d0 d1 d2 d3)
      clear d0 d1 d2 d3
      by_cases hz : partE r 4 = 0
      · have Hz := Lib.hid hz
        rw [hz] at C
        clear hz
        go_wp2_with fail
        refine C.out.mono ?_
        rintro e w3 ⟨rfl, rfl⟩
        go_wp2
        go_roundw
        case rel => exact ⟨4 + 1, by omega, by go_num, part_next hp Hz.out, hB⟩
        case measure => simp [intOf]
      · have Hn := Lib.hid (check_bad (k := 4) (by omega) hp.out hz)
        have hz' : (partE r 4 != 0) = true := by simpa using hz
        clear hz
        generalize partE r 4 = e4 at *
        go_wp2_with fail
        refine C.out.mono ?_
        rintro e w3 ⟨rfl, rfl⟩
        go_wp2
        go_ret
        exact ⟨ri Hn.out, hBw⟩

set_option maxHeartbeats 400000 in
theorem Check_any (v : Value) (r : RunD) (w : World) (h : RRun w.heap.size w v r) :
    Calls Try.prog 16 #[v] w fun e w' => e = .returned (.int .i64 (checkE r)) ∧ Below w.heap.size w w' := by
  have hrun := Lib.hid h
  obtain ⟨v1, v2, v3, rfl, -, -, -⟩ := h
  have b0 : ∀ o, Below w.heap.size w (w.alloc o) := fun o => (Below.refl _ _).alloc (Nat.le_refl _) _
  have hr : ∀ o, RRun (w.alloc o).heap.size (w.alloc o) (.agg #[v1, v2, v3, .bool r.coll]) r := fun o => (hrun.out.below (b0 o)).more (by simp)
  go_enter Try.func16, Try.ntmps16
  go_wp2_with fail
  refine (check_any _ r _ (hr _)).mono ?_
  rintro e w' ⟨rfl, hb⟩
  go_wp2
  go_ret
  exact ⟨rfl, (b0 _).trans (hb.mono (by simp))⟩
end Go.Proofs.Ytdbfhdncjblleaa
