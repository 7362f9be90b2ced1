/-
  The examples' runs, as data.
-/
import Derived.Test.YtdbfhdncjblleaaZX
namespace Go.Proofs.Ytdbfhdncjblleaa
open Go.RowKit

def pl0 : PlateD := ⟨0, false⟩
def oneD : RunD := ⟨[⟨2, 1, [pl0, pl0, pl0, pl0]⟩], [⟨0, 0, 2, false, false⟩], [[0]], false⟩
def twoD : RunD := ⟨[⟨2, 1, [pl0, pl0, pl0, pl0]⟩, ⟨1, 1, [pl0, pl0]⟩], [⟨0, 0, 2, false, false⟩, ⟨1, 0, 1, false, false⟩], [[0, 1]], false⟩
def colD : RunD := ⟨[⟨2, 2, [pl0, pl0, pl0, pl0, pl0, pl0, pl0, pl0]⟩], [⟨0, 0, 2, false, false⟩], [[0]], true⟩
def fillD (a b c d : Int) (t : Bool) : RunD := ⟨[⟨2, 1, [⟨a, false⟩, ⟨b, false⟩, ⟨c, false⟩, ⟨d, false⟩]⟩], [⟨0, 0, 2, t, false⟩], [[0]], false⟩

theorem one_check : checkE oneD = 0 := by decide +kernel
theorem one_turn : turnE oneD 0 = 0 := by decide +kernel
theorem turn_small : SmallRun (turnD oneD 0) := by
  refine ⟨by decide, by decide, by decide, ?_, ?_⟩
  · show ∀ x ∈ oneD.webs, x.plates.length ≤ 1000
    decide
  · show ∀ s ∈ oneD.stacks, s.length ≤ 1000
    decide
theorem one_fill : fillE oneD [[1, 2, 3, 4]] = 0 := by decide +kernel
theorem turn_fill : fillE (turnD oneD 0) [[1, 2, 3, 4]] = 0 := by decide +kernel
theorem four {α : Type} {l : List α} (h : l.length = 4) : ∃ a b c d, l = [a, b, c, d] := by
  match l, h with
  | [a, b, c, d], _ => exact ⟨a, b, c, d, rfl⟩
theorem shape_one {r r' : RunD} {product : List (List Int)} (hw : r.webs = oneD.webs) (h : Filled r product r') : ∃ a b c d, r' = ⟨[⟨2, 1, [a, b, c, d]⟩], r.ribs, r.stacks, r.coll⟩ := by
  obtain ⟨h1, h2, h3, h4, -⟩ := h
  obtain ⟨ws, rs, ss, cc⟩ := r'
  dsimp only at h1 h2 h3 h4
  subst h1 h2 h3
  rw [hw] at h4
  obtain ⟨h5, h6⟩ := h4
  obtain ⟨x', k1, k2, k3, k4⟩ := h6 0 _ rfl
  obtain ⟨a, b, c, d, e⟩ := four (l := x'.plates) k4
  obtain ⟨xc, xr, xp⟩ := x'
  dsimp only at k2 k3 e
  subst k2 k3 e
  match ws, h5, k1 with
  | [y], _, k1 =>
    simp only [List.getElem?_cons_zero, Option.some.injEq] at k1
    subst k1
    exact ⟨a, b, c, d, rfl⟩
theorem filled_one {r' : RunD} (h : Filled oneD [[1, 2, 3, 4]] r') : r' = fillD 3 2 4 1 false := by
  obtain ⟨a, b, c, d, rfl⟩ := shape_one rfl h
  have hp := h.2.2.2.2
  have e1 := hp (⟨0, 1, 0, 1⟩, ⟨0, 0, 0⟩) (by decide +kernel)
  have e2 := hp (⟨0, 0, 0, 1⟩, ⟨0, 0, 1⟩) (by decide +kernel)
  have e3 := hp (⟨0, 0, 0, 0⟩, ⟨0, 0, 2⟩) (by decide +kernel)
  have e4 := hp (⟨0, 1, 0, 0⟩, ⟨0, 0, 3⟩) (by decide +kernel)
  replace e1 : d = ⟨1, false⟩ := e1
  replace e2 : b = ⟨2, false⟩ := e2
  replace e3 : a = ⟨3, false⟩ := e3
  replace e4 : c = ⟨4, false⟩ := e4
  subst e1 e2 e3 e4
  rfl
theorem filled_turn {r' : RunD} (h : Filled (turnD oneD 0) [[1, 2, 3, 4]] r') : r' = fillD 1 4 2 3 true := by
  obtain ⟨a, b, c, d, rfl⟩ := shape_one (r := turnD oneD 0) rfl h
  have hp := h.2.2.2.2
  have e1 := hp (⟨0, 0, 0, 0⟩, ⟨0, 0, 0⟩) (by decide +kernel)
  have e2 := hp (⟨0, 1, 0, 0⟩, ⟨0, 0, 1⟩) (by decide +kernel)
  have e3 := hp (⟨0, 1, 0, 1⟩, ⟨0, 0, 2⟩) (by decide +kernel)
  have e4 := hp (⟨0, 0, 0, 1⟩, ⟨0, 0, 3⟩) (by decide +kernel)
  replace e1 : a = ⟨1, false⟩ := e1
  replace e2 : c = ⟨2, false⟩ := e2
  replace e3 : d = ⟨3, false⟩ := e3
  replace e4 : b = ⟨4, false⟩ := e4
  subst e1 e2 e3 e4
  rfl
theorem fill_small (a b c d : Int) (t : Bool) : SmallRun (fillD a b c d t) := by
  unfold fillD
  refine ⟨Nat.le_of_ble_eq_true rfl, Nat.le_of_ble_eq_true rfl, Nat.le_of_ble_eq_true rfl, fun x hx => ?_, fun s hs => ?_⟩
  · rw [List.mem_singleton] at hx; subst hx; exact Nat.le_of_ble_eq_true rfl
  · rw [List.mem_singleton] at hs; subst hs; exact Nat.le_of_ble_eq_true rfl
theorem one_right : ∀ r', Filled oneD [[1, 2, 3, 4]] r' → SmallRun r' ∧ (∃ x, r'.webs[0]? = some x ∧ x.plates = [3, 2, 4, 1].map fun p => ⟨p, false⟩) ∧ rightV r' [[1, 2, 3, 4]] = .tuple #[.bool true, .int .i64 0] := fun r' h => by
  rw [filled_one h]
  refine ⟨fill_small _ _ _ _ _, ⟨_, rfl, rfl⟩, ?_⟩
  unfold rightV
  rw [if_neg (by decide +kernel), if_neg (by decide +kernel), if_neg (by decide +kernel), show rightB (fillD 3 2 4 1 false) [[1, 2, 3, 4]] = true by decide +kernel]
theorem turn_right : ∀ r', Filled (turnD oneD 0) [[1, 2, 3, 4]] r' → SmallRun r' ∧ (∃ x, r'.webs[0]? = some x ∧ x.plates = [1, 4, 2, 3].map fun p => ⟨p, false⟩) ∧ rightV r' [[1, 2, 3, 4]] = .tuple #[.bool true, .int .i64 0] := fun r' h => by
  rw [filled_turn h]
  refine ⟨fill_small _ _ _ _ _, ⟨_, rfl, rfl⟩, ?_⟩
  unfold rightV
  rw [if_neg (by decide +kernel), if_neg (by decide +kernel), if_neg (by decide +kernel), show rightB (fillD 1 4 2 3 true) [[1, 2, 3, 4]] = true by decide +kernel]
theorem one_gang : gangedD oneD = [⟨0, 0, 1⟩] := by decide +kernel
theorem two_check : checkE twoD = 0 := by decide +kernel
theorem two_gang : gangedD twoD = [] := by decide +kernel
theorem two_sizes : sizesD twoD = [6] := by decide +kernel
theorem two_where : whereD twoD ⟨0, 0, 2⟩ = (⟨1, 1, 0, 0⟩, 0) := by decide +kernel
theorem col_check : checkE colD = 0 := by decide +kernel
theorem col_sizes : sizesD colD = [4, 4] := by decide +kernel
theorem col_cut : CutRet colD 5 = .tuple #[.int .i64 2, .int .i64 1, .int .i64 0] := by
  unfold CutRet
  rw [if_neg (by decide +kernel), if_neg (by decide), if_pos (by decide)]
  rfl

theorem rd_blk {B : Nat} {W : World} {g k n c : Nat} {t : TypeId} {cs : Array Value} (h : Blk W g t cs) (hg : g < B) (hl : cs.toList.length = n * k) (hm : n ≤ 1000) : Rd B W k (.slice (some ⟨g, 0, none⟩) n c) n cs.toList :=
  ⟨_, _, rfl, hl, by simp only [maxLen]; omega, fun _ => ⟨g, 0, rfl, hg, fun j u hu => by rw [Nat.zero_add, h.cell j]; simpa using hu⟩⟩
theorem one_reads {W : World} {n B : Nat} (h : OneAt W n) (hB : n + 5 ≤ B) : RRun B W (oneV n) oneD := by
  obtain ⟨h1, h2, h3, h4, h5⟩ := h
  refine ⟨_, _, _, rfl, ⟨[.slice (some ⟨n, 0, none⟩) 4 4], rd_blk h2 (by omega) rfl (by omega), rfl, fun i u x hu hx => ?_⟩, rd_blk h3 (by omega) rfl (by omega), ⟨[.slice (some ⟨n + 3, 0, none⟩) 1 1], rd_blk h5 (by omega) rfl (by omega), rfl, fun i u x hu hx => ?_⟩⟩
  · have hi : i = 0 := by have := (List.getElem?_eq_some_iff.1 hu).1; simpa using this
    subst hi
    simp only [List.getElem?_cons_zero, Option.some.injEq] at hu
    subst hu
    replace hx : some (⟨2, 1, [pl0, pl0, pl0, pl0]⟩ : WebD) = some x := hx
    injection hx with hx
    subst hx
    exact rd_blk h1 (by omega) rfl (by omega)
  · have hi : i = 0 := by have := (List.getElem?_eq_some_iff.1 hu).1; simpa using this
    subst hi
    simp only [List.getElem?_cons_zero, Option.some.injEq] at hu
    subst hu
    replace hx : some ([0] : List Int) = some x := hx
    injection hx with hx
    subst hx
    exact rd_blk h4 (by omega) rfl (by omega)
theorem OneAt.below {W W' : World} {n B : Nat} (h : OneAt W n) (hb : Below B W W') (hn : n + 5 ≤ B) : OneAt W' n := by
  obtain ⟨h1, h2, h3, h4, h5⟩ := h
  exact ⟨h1.below hb (by omega), h2.below hb (by omega), h3.below hb (by omega), h4.below hb (by omega), h5.below hb (by omega)⟩
end Go.Proofs.Ytdbfhdncjblleaa
