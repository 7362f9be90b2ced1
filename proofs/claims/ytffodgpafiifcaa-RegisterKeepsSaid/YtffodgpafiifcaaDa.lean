/-
  What a mark finds: cmp.Less, slices.BinarySearch, the closure of finder.
-/
import Derived.Test.YtffodgpafiifcaaCb
namespace Go.Proofs.Ytffodgpafiifcaa
open Go.RowKit

set_option maxHeartbeats 400000 in
theorem isNaN1_any (x : Int) (w : World) : Calls Try.prog 76 #[.int .i64 x] w fun e w' => e = .returned (.bool false) ∧ w = w' := by
  go_enter Try.func76, Try.ntmps76
  go_wp2
  go_ret
  exact ⟨by simp, rfl⟩
set_option maxHeartbeats 400000 in
theorem isNaN2_any (x : Int) (w : World) : Calls Try.prog 75 #[.int .i64 x] w fun e w' => e = .returned (.bool false) ∧ w = w' := by
  go_enter Try.func75, Try.ntmps75
  go_wp2
  go_ret
  exact ⟨by simp, rfl⟩
set_option maxHeartbeats 400000 in
theorem less_any (x y : Int) (w : World) : Calls Try.prog 74 #[.int .i64 x, .int .i64 y] w fun e w' => e = .returned (.bool (decide (x < y))) ∧ w = w' := by
  go_enter Try.func74, Try.ntmps74
  go_wp2_with fail
  refine (isNaN1_any x _).mono ?_
  rintro e w' ⟨rfl, rfl⟩
  go_wp2
  go_ret
  exact ⟨rfl, rfl⟩

def Ascends (l : List Int) : Prop := ∀ (i j : Nat) (x y : Int), i < j → l[i]? = some x → l[j]? = some y → x < y
/-- The number i parts what is less than t from what is not. -/
def Parts (l : List Int) (t : Int) (i : Nat) : Prop := i ≤ l.length ∧ (∀ (j : Nat) (x : Int), j < i → l[j]? = some x → x < t) ∧ ∀ (j : Nat) (x : Int), i ≤ j → l[j]? = some x → t ≤ x
def BsRet (l : List Int) (t : Int) (w : World) (e : Ending) (w' : World) : Prop := ∃ (i : Nat) (b : Bool), e = .returned (.tuple #[.int .i64 i, .bool b]) ∧ Parts l t i ∧ w = w'

set_option maxRecDepth 100000 in
set_option maxHeartbeats 2000000 in
theorem search_any (v : Value) (l : List Int) (t : Int) (w : World) (h : RInts w.heap.size w v l) (hs : Ascends l) (hl : l.length ≤ 1000000) :
    Calls Try.prog 72 #[v, .int .i64 t] w (BsRet l t w) := by
  obtain ⟨A, c, rfl, -, hA⟩ := h.open_
  have HA := Lib.hid hA
  have HS := Lib.hid hs
  obtain ⟨n, hn⟩ : ∃ n, l.length = n := ⟨_, rfl⟩
  have Hn := Lib.hid hn
  rw [hn] at hl ⊢
  clear h hA hs hn
  go_enter Try.func72, Try.ntmps72
  go_wp2
  go_loop [7, 8, 9] (fun i j _ => ∃ a b : Nat, a ≤ b ∧ b ≤ n ∧ i = .int .i64 a ∧ j = .int .i64 b ∧ Hid ((∀ (k : Nat) (x : Int), k < a → l[k]? = some x → x < t) ∧ ∀ (k : Nat) (x : Int), b ≤ k → l[k]? = some x → t ≤ x)) (fun i j _ => (intOf j).toNat - (intOf i).toNat)
  case atStart => exact ⟨0, n, Nat.zero_le _, Nat.le_refl _, rfl, rfl, ⟨fun k x hk => by omega, fun k x hk hx => by have := (List.getElem?_eq_some_iff.1 hx).1; rw [Hn.out] at this; omega⟩⟩
  case round =>
    obtain ⟨a, b, hab, hbn, rfl, rfl, HI⟩ := hrel
    by_cases hlt : a < b
    · obtain ⟨m, hm⟩ : ∃ m, (a + b) / 2 = m := ⟨_, rfl⟩
      have hm1 : a ≤ m ∧ m < b := by omega
      have hmi : ((a : Int) + (b : Int)) / 2 = (m : Int) := by omega
      obtain ⟨g, o, x, rfl, hg, cx, hx⟩ := HA.out m (by rw [Hn.out]; omega)
      have hlx : l[m]? = some x := by
        have h1 := hx.out
        have h2 : m < l.length := by rw [Hn.out]; omega
        rw [List.getD_eq_getElem?_getD, List.getElem?_eq_getElem h2, Option.getD_some] at h1
        rw [List.getElem?_eq_getElem h2, h1]
      have HLx := Lib.hid hlx
      have im : (m : Int) < (n : Int) := by omega
      clear hm hx hlx
      go_wp2_with fail
      refine (less_any x t _).mono ?_
      rintro e w' ⟨rfl, rfl⟩
      by_cases hxt : x < t
      · have HN : Hid ((∀ (k : Nat) (y : Int), k < m + 1 → l[k]? = some y → y < t) ∧ ∀ (k : Nat) (y : Int), b ≤ k → l[k]? = some y → t ≤ y) := ⟨fun k y hk hy => by
          by_cases hkm : k = m
          · subst hkm
            rw [HLx.out] at hy
            cases hy
            exact hxt
          · have := HS.out k m y x (by omega) hy HLx.out
            omega, HI.out.2⟩
        have hd : decide (x < t) = true := by simpa using hxt
        clear hxt
        go_wp2
        go_roundw
        case rel => exact ⟨m + 1, b, by omega, hbn, by go_num, rfl, HN⟩
        case measure => simp [intOf]; omega
      · have HN : Hid ((∀ (k : Nat) (y : Int), k < a → l[k]? = some y → y < t) ∧ ∀ (k : Nat) (y : Int), m ≤ k → l[k]? = some y → t ≤ y) := ⟨HI.out.1, fun k y hk hy => by
          by_cases hkm : k = m
          · subst hkm
            rw [HLx.out] at hy
            cases hy
            omega
          · have := HS.out m k x y (by omega) HLx.out hy
            omega⟩
        have hd : decide (x < t) = false := by simpa using hxt
        clear hxt
        go_wp2
        go_roundw
        case rel => exact ⟨a, m, by omega, by omega, rfl, rfl, HN⟩
        case measure => simp [intOf]; omega
    · have hab' : a = b := by omega
      subst hab'
      have HP : Hid (Parts l t a) := ⟨by rw [Hn.out]; exact hbn, HI.out.1, HI.out.2⟩
      clear HI
      by_cases han : a < n
      · obtain ⟨g, o, x, rfl, hg, cx, hx⟩ := HA.out a (by rw [Hn.out]; omega)
        clear hx
        by_cases hxt : x = t
        · subst hxt
          go_wp2
          go_ret2
          exact ⟨a, _, rfl, HP.out, rfl⟩
        · have hd : (x == t) = false := by simpa using hxt
          clear hxt
          go_wp2_with fail
          refine (isNaN2_any x _).mono ?_
          rintro e w' ⟨rfl, rfl⟩
          go_wp2
          go_ret2
          exact ⟨a, _, rfl, HP.out, rfl⟩
      · go_wp2
        go_ret2
        exact ⟨a, _, rfl, HP.out, rfl⟩
end Go.Proofs.Ytffodgpafiifcaa
