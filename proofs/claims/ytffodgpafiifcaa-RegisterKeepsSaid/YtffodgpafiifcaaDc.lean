/-
  count: how many marks a shift finds.
-/
import Derived.Test.YtffodgpafiifcaaDb
namespace Go.Proofs.Ytffodgpafiifcaa
open Go.RowKit

def foundB (seen : List Int) (W s m : Int) : Bool := findD seen (m + s - W) (m + s + W) != lostD
def countD (marks : List Int) (W : Int) (seen : List Int) (s : Int) : Nat := (marks.filter (foundB seen W s)).length
theorem countD_next {marks : List Int} {W s x : Int} {seen : List Int} {k : Nat} (h : marks[k]? = some x) : countD (marks.take (k + 1)) W seen s = countD (marks.take k) W seen s + if foundB seen W s x then 1 else 0 := by
  unfold countD
  rw [take_snoc_get h, List.filter_append, List.length_append]
  cases hb : foundB seen W s x <;> simp [List.filter_cons, hb]
theorem countD_le (marks : List Int) (W : Int) (seen : List Int) (s : Int) : countD marks W seen s ≤ marks.length := List.length_filter_le _ _

/-- What a closure of finder needs. -/
structure FindOk (w : World) (Bs Bp : Nat) (seen : List Int) (W : Int) : Prop where
  seenv : ∃ vs, w.cell? ⟨Bs, 0, none⟩ = some vs ∧ RInts w.heap.size w vs seen
  wind : w.cell? ⟨Bp, 1, none⟩ = some (.int .i64 W)
  ls : Bs < w.heap.size
  lp : Bp < w.heap.size
theorem FindOk.below {w w' : World} {Bs Bp : Nat} {seen : List Int} {W : Int} (h : FindOk w Bs Bp seen W) (hb : Below w.heap.size w w') : FindOk w' Bs Bp seen W := by
  obtain ⟨vs, h1, h2⟩ := h.seenv
  exact ⟨⟨vs, (hb.cell (p := ⟨Bs, 0, none⟩) h.ls).trans h1, (h2.below hb).more hb.size⟩, (hb.cell (p := ⟨Bp, 1, none⟩) h.lp).trans h.wind, Nat.lt_of_lt_of_le h.ls hb.size, Nat.lt_of_lt_of_le h.lp hb.size⟩
structure SeenOk (seen : List Int) (W : Int) : Prop where
  asc : Ascends seen
  len : seen.length ≤ 1000000
  wind : 0 ≤ W ∧ W ≤ 5000
theorem find_call {w : World} {Bs Bp : Nat} {seen : List Int} {W : Int} (h : FindOk w Bs Bp seen W) (hs : SeenOk seen W) (place : Int) (hp : -1000000 ≤ place ∧ place ≤ 1000000) :
    Calls Try.prog 71 #[.int .i64 place, .pointer (some ⟨Bs, 0, none⟩), .pointer (some ⟨Bp, 0, none⟩)] w fun e w' => e = .returned (.int .i64 (findD seen (place - W) (place + W))) ∧ Below w.heap.size w w' := by
  obtain ⟨vs, h1, h2⟩ := h.seenv
  refine (finder1_any place W Bs Bp vs seen w h1 h2 hs.asc hs.len h.wind hs.wind hp).mono ?_
  rintro e w' ⟨rfl, n, rfl⟩
  exact ⟨rfl, below_drewN (Below.refl _ _) n⟩

set_option maxRecDepth 100000 in
set_option maxHeartbeats 2000000 in
theorem count_any (v : Value) (marks : List Int) (W s : Int) (Bs Bp : Nat) (seen : List Int) (w : World) (hm : RInts w.heap.size w v marks) (hl : marks.length ≤ 1000000) (hmk : ∀ x ∈ marks, 0 ≤ x ∧ x ≤ 100000) (hs : -2000 ≤ s ∧ s ≤ 2000) (hf : FindOk w Bs Bp seen W) (ho : SeenOk seen W) :
    Calls Try.prog 70 #[.agg #[v, .int .i64 W], .func (.func 71) #[] #[.pointer (some ⟨Bs, 0, none⟩), .pointer (some ⟨Bp, 0, none⟩)], .int .i64 s] w fun e w' => e = .returned (.int .i64 (countD marks W seen s)) ∧ Below w.heap.size w w' := by
  obtain ⟨A, c, rfl, -, hA⟩ := hm.open_
  have HA := Lib.hid hA
  have HM := Lib.hid hmk
  have HO := Lib.hid ho
  have HF := Lib.hid hf
  obtain ⟨n, hn⟩ : ∃ n, marks.length = n := ⟨_, rfl⟩
  have Hn := Lib.hid hn
  obtain ⟨w1, e1, B1, V1⟩ : ∃ w1, w.alloc (.cells #[.slice A n c, .int .i64 W] 87) = w1 ∧ Below w.heap.size w w1 ∧ Blk w1 w.heap.size 87 #[.slice A n c, .int .i64 W] := ⟨_, rfl, below_alloc _ _, Blk.new _ _ _⟩
  have E1 := Lib.hid e1
  have v0 := cellOf V1 0 (x := .slice A n c) rfl
  have HB := Lib.hid B1
  rw [hn] at hl ⊢
  obtain ⟨hs1, hs2⟩ := hs
  clear hm hA hmk ho hf hn e1 V1 B1
  go_enter Try.func70, Try.ntmps70
  go_upto_region 2 with fail
  rw [E1.out]
  go_wp2
  clear v0
  go_loopw [7, 9, 13] (fun m _ i wr => ∃ k : Nat, k ≤ n ∧ i = .int .i64 k ∧ m = .int .i64 (countD (marks.take k) W seen s) ∧ Below w.heap.size w wr) (fun _ _ i _ => n - (intOf i).toNat)
  case atStart => exact ⟨0, Nat.zero_le _, rfl, rfl, HB.out⟩
  case round =>
    obtain ⟨k, hk, rfl, rfl, hb⟩ := hrel
    have hc := countD_le (marks.take k) W seen s
    rw [List.length_take] at hc
    by_cases hlt : k < n
    · obtain ⟨g, o, x, rfl, hg, cx, hx⟩ := HA.out k (by rw [Hn.out]; exact hlt)
      have hlx : marks[k]? = some x := by
        have h1 := hx.out
        have h2 : k < marks.length := by rw [Hn.out]; exact hlt
        rw [List.getD_eq_getElem?_getD, List.getElem?_eq_getElem h2, Option.getD_some] at h1
        rw [List.getElem?_eq_getElem h2, h1]
      have hxb := HM.out x (List.mem_of_getElem? hlx)
      have HN := Lib.hid (countD_next (W := W) (s := s) (seen := seen) hlx)
      have C1 := Lib.hid (find_call (HF.out.below hb) HO.out (x + s) (by omega))
      have cx' := (hb.cell (p := ⟨g, o + k, none⟩) hg).trans cx
      have Hb := Lib.hid hb
      generalize countD (marks.take k) W seen s = q at *
      obtain ⟨f, hf⟩ : ∃ f, findD seen (x + s - W) (x + s + W) = f := ⟨_, rfl⟩
      have hfb : foundB seen W s x = (f != lostD) := by unfold foundB; rw [hf]
      rw [hf] at C1
      rw [hfb] at HN
      clear hx hlx hb cx hf hfb
      go_wp2_with fail
      refine C1.out.mono ?_
      rintro e w3 ⟨rfl, hb3⟩
      have HB3 := Lib.hid (Hb.out.trans (hb3.mono Hb.out.size))
      clear hb3 cx'
      by_cases hfl : f = 1000000000
      · have hd : (f != 1000000000) = false := by simpa using hfl
        have hE : (f != lostD) = false := hd
        rw [hE] at HN
        clear hfl hE
        go_wp2
        go_roundw
        case rel => exact ⟨k + 1, by omega, by go_num, by rw [HN.out]; simp, HB3.out⟩
        case measure => simp [intOf]; omega
      · have hd : (f != 1000000000) = true := by simpa using hfl
        have hE : (f != lostD) = true := hd
        rw [hE] at HN
        clear hfl hE
        go_wp2
        go_roundw
        case rel => exact ⟨k + 1, by omega, by go_num, by rw [HN.out]; simp, HB3.out⟩
        case measure => simp [intOf]; omega
    · have hk' : k = n := by omega
      subst hk'
      have hT : marks.take k = marks := List.take_of_length_le (by rw [Hn.out]; omega)
      rw [hT]
      have Hb := Lib.hid hb
      clear hT hb hc
      go_wp2
      go_ret
      exact ⟨rfl, Hb.out⟩
end Go.Proofs.Ytffodgpafiifcaa
