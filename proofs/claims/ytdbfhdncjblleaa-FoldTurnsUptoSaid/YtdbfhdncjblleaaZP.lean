/-
  slices.EqualFunc with the closure that compares a number with a length.
-/
import Derived.Test.YtdbfhdncjblleaaC
namespace Go.Proofs.Ytdbfhdncjblleaa
open Go.RowKit

set_option maxHeartbeats 400000 in
theorem isLen_any (n : Int) (v : Value) (l : List Int) (w : World) (h : RInts w.heap.size w v l) :
    Calls Try.prog 74 #[.int .i64 n, v] w fun e w' => e = .returned (.bool (decide (n = (l.length : Int)))) ∧ w = w' := by
  obtain ⟨A, c, rfl, hA, -⟩ := RInts.open_ h
  by_cases hn : n = (l.length : Int)
  · go_enter Try.func74, Try.ntmps74
    go_wp2
    go_ret
    exact ⟨rb (by simp [hn]), rfl⟩
  · go_enter Try.func74, Try.ntmps74
    go_wp2
    go_ret
    exact ⟨rb (by simp [hn]), rfl⟩

def lensD (m : List (List Int)) : List Int := m.map fun x => (x.length : Int)
theorem lens_at {m : List (List Int)} {k : Nat} {x : List Int} (h : m[k]? = some x) : (lensD m)[k]? = some (x.length : Int) := by
  unfold lensD; rw [List.getElem?_map, h]; rfl
theorem lens_len (m : List (List Int)) : (lensD m).length = m.length := by unfold lensD; rw [List.length_map]
theorem eq_take_next {l m : List Int} {k : Nat} {x : Int} (h : Hid (l.take k = m.take k)) (hl : l[k]? = some x) (hm : m[k]? = some x) : Hid (l.take (k + 1) = m.take (k + 1)) := by
  show l.take (k + 1) = m.take (k + 1)
  rw [List.take_add_one, List.take_add_one, hl, hm, h.out]
theorem ne_at9 {l m : List Int} {k : Nat} {x y : Int} (hl : l[k]? = some x) (hm : m[k]? = some y) (he : ¬ x = y) : ¬ l = m := fun e => he (by rw [e, hm] at hl; exact (Option.some.inj hl).symm)
theorem ne_len9 {l m : List Int} (h : ¬ (l.length : Int) = (m.length : Int)) : ¬ l = m := fun e => h (by rw [e])

set_option maxHeartbeats 1000000 in
theorem equalFunc_any (a b : Value) (l : List Int) (m : List (List Int)) (w : World) (ha : RInts w.heap.size w a l) (hb : RIntss w.heap.size w b m) :
    Calls Try.prog 73 #[a, b, .func (.func 74) #[] #[]] w fun e w' => e = .returned (.bool (decide (l = lensD m))) ∧ w = w' := by
  obtain ⟨A, c, rfl, hA1, hA⟩ := RInts.open_ ha
  obtain ⟨A2, c2, rfl, hA2, hA3⟩ := hb.open_
  have HA := Lib.hid hA
  have HA3 := Lib.hid hA3
  clear hA hA3 ha hb
  by_cases hl : (l.length : Int) = (m.length : Int)
  case neg =>
    have Hn : Hid (¬ l = lensD m) := ne_len9 (by rw [lens_len]; exact hl)
    have hl' : ((l.length : Int) != (m.length : Int)) = true := by simpa using hl
    clear hl
    go_enter Try.func73, Try.ntmps73
    go_wp2
    go_ret
    exact ⟨rb (decide_eq_false Hn.out), rfl⟩
  have hl' : ((l.length : Int) != (m.length : Int)) = false := by simpa using hl
  have Hl := Lib.hid hl
  clear hl
  go_enter Try.func73, Try.ntmps73
  go_wp2
  clear hl'
  go_loop [17] (fun i => ∃ k : Nat, k ≤ l.length ∧ i = .int .i64 k ∧ Hid (l.take k = (lensD m).take k)) (fun i => l.length - (intOf i).toNat)
  case atStart => exact ⟨0, Nat.zero_le _, rfl, rfl⟩
  case round =>
    obtain ⟨k, hk, rfl, ht⟩ := hrel
    by_cases hlt : k < l.length
    · obtain ⟨g, o, y, rfl, hgb, hc1, hy⟩ := HA.out k hlt
      obtain ⟨x, hx⟩ : ∃ x, m[k]? = some x := ⟨_, List.getElem?_eq_getElem (by have := Hl.out; omega)⟩
      obtain ⟨g2, o2, u, rfl, hgb2, hc2, hp⟩ := HA3.out k x hx
      have hy2 : Hid (l[k]? = some y) := by
        show l[k]? = some y
        have := hy.out
        simpa [List.getD_eq_getElem?_getD, List.getElem?_eq_getElem hlt] using this
      have Hx := Lib.hid (lens_at hx)
      have C := Lib.hid (isLen_any y u x w hp)
      have hkm : (k : Int) < (m.length : Int) := by have := Hl.out; omega
      clear hx hp
      by_cases he : y = (x.length : Int)
      · rw [decide_eq_true he] at C
        have Ht := eq_take_next ht hy2.out (by rw [he]; exact Hx.out)
        clear he
        go_wp2_with fail
        refine C.out.mono ?_
        rintro e w' ⟨rfl, rfl⟩
        go_wp2
        go_round
        case rel => exact ⟨k + 1, by omega, by go_num, Ht⟩
        case measure => simp [intOf]; omega
      · rw [decide_eq_false he] at C
        have Hn : Hid (¬ l = lensD m) := ne_at9 hy2.out Hx.out he
        clear he
        go_wp2_with fail
        refine C.out.mono ?_
        rintro e w' ⟨rfl, rfl⟩
        go_wp2
        go_ret
        exact ⟨rb (decide_eq_false Hn.out), rfl⟩
    · have Hn : Hid (l = lensD m) := by
        show l = lensD m
        have h1 := ht.out
        have h2 := Hl.out
        rw [List.take_of_length_le (by omega), List.take_of_length_le (by rw [lens_len]; omega)] at h1
        exact h1
      go_wp2
      go_ret
      exact ⟨rb (decide_eq_true Hn.out), rfl⟩
end Go.Proofs.Ytdbfhdncjblleaa
