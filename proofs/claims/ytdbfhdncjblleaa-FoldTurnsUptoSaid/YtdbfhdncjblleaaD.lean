/-
  THE DATA OF PACKAGE fold AND HOW THEY LIE IN MEMORY.
-/
import Derived.Test.YtdbfhdncjblleaaA
namespace Go.Proofs.Ytdbfhdncjblleaa
open Go.RowKit

structure PlateD where
  page : Int
  up : Bool
  deriving DecidableEq, Inhabited
structure RibD where
  web : Int
  col : Int
  width : Int
  turned : Bool
  left : Bool
  deriving DecidableEq, Inhabited
structure WebD where
  cols : Int
  rows : Int
  plates : List PlateD
  deriving DecidableEq, Inhabited
structure RunD where
  webs : List WebD
  ribs : List RibD
  stacks : List (List Int)
  coll : Bool
  deriving DecidableEq, Inhabited

def PlateD.cells (p : PlateD) : List Value := [.int .i64 p.page, .bool p.up]
def RibD.cells (x : RibD) : List Value := [.int .i64 x.web, .int .i64 x.col, .int .i64 x.width, .bool x.turned, .bool x.left]
def webCells (x : WebD) (v : Value) : List Value := [.int .i64 x.cols, .int .i64 x.rows, v]

/-- Rows of k cells each, one behind the other. -/
theorem flat_get {α : Type} (f : α → List Value) (k : Nat) (hk : ∀ x, (f x).length = k) (l : List α) : (l.flatMap f).length = l.length * k := by
  induction l with
  | nil => simp
  | cons x l ih => simp [List.flatMap_cons, hk, ih, Nat.add_mul, Nat.add_comm]
theorem flat_at {α : Type} (f : α → List Value) (k : Nat) (hk : ∀ x, (f x).length = k) : ∀ (l : List α) (i j : Nat) (x : α), l[i]? = some x → j < k → (l.flatMap f)[i * k + j]? = (f x)[j]?
  | [], i, j, x, h, _ => by simp at h
  | y :: l, 0, j, x, h, hj => by
    simp only [List.getElem?_cons_zero, Option.some.injEq] at h
    subst h
    rw [List.flatMap_cons, Nat.zero_mul, Nat.zero_add, List.getElem?_append_left (by rw [hk]; exact hj)]
  | y :: l, i + 1, j, x, h, hj => by
    rw [List.flatMap_cons, List.getElem?_append_right (by rw [hk, Nat.add_mul]; omega), hk]
    have e : (i + 1) * k + j - k = i * k + j := by rw [Nat.add_mul]; omega
    rw [e]
    exact flat_at f k hk l i j x (by simpa using h) hj

def RPlates (B : Nat) (w : World) (v : Value) (l : List PlateD) : Prop := Rd B w 2 v l.length (l.flatMap PlateD.cells)
def RRibs (B : Nat) (w : World) (v : Value) (l : List RibD) : Prop := Rd B w 5 v l.length (l.flatMap RibD.cells)
/-- A slice of slices: its cells, and what each reads as. -/
def RAll {α : Type} (R : Nat → World → Value → α → Prop) (B : Nat) (w : World) (v : Value) (l : List α) : Prop :=
  ∃ vs : List Value, Rd B w 1 v l.length vs ∧ vs.length = l.length ∧ ∀ (i : Nat) (u : Value) (x : α), vs[i]? = some u → l[i]? = some x → R B w u x
def RIntss (B : Nat) (w : World) (v : Value) (l : List (List Int)) : Prop := RAll RInts B w v l
def RWebs (B : Nat) (w : World) (v : Value) (l : List WebD) : Prop :=
  ∃ vs : List Value, Rd B w 3 v l.length ((l.zip vs).flatMap fun x => webCells x.1 x.2) ∧ vs.length = l.length ∧ ∀ (i : Nat) (u : Value) (x : WebD), vs[i]? = some u → l[i]? = some x → RPlates B w u x.plates
def RRun (B : Nat) (w : World) (v : Value) (r : RunD) : Prop :=
  ∃ v1 v2 v3, v = .agg #[v1, v2, v3, .bool r.coll] ∧ RWebs B w v1 r.webs ∧ RRibs B w v2 r.ribs ∧ RIntss B w v3 r.stacks

section
variable {B B' : Nat} {w w' : World} {v : Value}
theorem RPlates.keep {l : List PlateD} (h : RPlates B w v l) (hk : ∀ p : Addr, p.block < B → w'.cell? p = w.cell? p) : RPlates B w' v l := Rd.keep h hk
theorem RRibs.keep {l : List RibD} (h : RRibs B w v l) (hk : ∀ p : Addr, p.block < B → w'.cell? p = w.cell? p) : RRibs B w' v l := Rd.keep h hk
theorem RAll.keep {α : Type} {R : Nat → World → Value → α → Prop} {l : List α} (h : RAll R B w v l) (hk : ∀ p : Addr, p.block < B → w'.cell? p = w.cell? p) (hR : ∀ u x, R B w u x → R B w' u x) : RAll R B w' v l := by
  obtain ⟨vs, h1, h2, h3⟩ := h
  exact ⟨vs, h1.keep hk, h2, fun i u x hu hx => hR _ _ (h3 i u x hu hx)⟩
theorem RAll.more {α : Type} {R : Nat → World → Value → α → Prop} {l : List α} (h : RAll R B w v l) (hB : B ≤ B') (hR : ∀ u x, R B w u x → R B' w u x) : RAll R B' w v l := by
  obtain ⟨vs, h1, h2, h3⟩ := h
  exact ⟨vs, h1.more hB, h2, fun i u x hu hx => hR _ _ (h3 i u x hu hx)⟩
theorem RIntss.keep {l : List (List Int)} (h : RIntss B w v l) (hk : ∀ p : Addr, p.block < B → w'.cell? p = w.cell? p) : RIntss B w' v l := RAll.keep h hk fun _ _ hr => Rd.keep hr hk
theorem RIntss.more {l : List (List Int)} (h : RIntss B w v l) (hB : B ≤ B') : RIntss B' w v l := RAll.more h hB fun _ _ hr => Rd.more hr hB
theorem RWebs.keep {l : List WebD} (h : RWebs B w v l) (hk : ∀ p : Addr, p.block < B → w'.cell? p = w.cell? p) : RWebs B w' v l := by
  obtain ⟨vs, h1, h2, h3⟩ := h
  exact ⟨vs, h1.keep hk, h2, fun i u x hu hx => (h3 i u x hu hx).keep hk⟩
theorem RWebs.more {l : List WebD} (h : RWebs B w v l) (hB : B ≤ B') : RWebs B' w v l := by
  obtain ⟨vs, h1, h2, h3⟩ := h
  exact ⟨vs, h1.more hB, h2, fun i u x hu hx => Rd.more (h3 i u x hu hx) hB⟩
theorem RRun.keep {r : RunD} (h : RRun B w v r) (hk : ∀ p : Addr, p.block < B → w'.cell? p = w.cell? p) : RRun B w' v r := by
  obtain ⟨v1, v2, v3, rfl, h1, h2, h3⟩ := h
  exact ⟨v1, v2, v3, rfl, h1.keep hk, h2.keep hk, h3.keep hk⟩
theorem RRun.more {r : RunD} (h : RRun B w v r) (hB : B ≤ B') : RRun B' w v r := by
  obtain ⟨v1, v2, v3, rfl, h1, h2, h3⟩ := h
  exact ⟨v1, v2, v3, rfl, h1.more hB, Rd.more h2 hB, h3.more hB⟩
theorem RRun.below {r : RunD} (h : RRun B w v r) (hb : Below B w w') : RRun B w' v r := h.keep fun _ hp => hb.cell hp
theorem RIntss.below {l : List (List Int)} (h : RIntss B w v l) (hb : Below B w w') : RIntss B w' v l := h.keep fun _ hp => hb.cell hp
theorem RWebs.below {l : List WebD} (h : RWebs B w v l) (hb : Below B w w') : RWebs B w' v l := h.keep fun _ hp => hb.cell hp
theorem RRibs.below {l : List RibD} (h : RRibs B w v l) (hb : Below B w w') : RRibs B w' v l := h.keep fun _ hp => hb.cell hp

/-- A web of a list: its three cells. -/
theorem RWebs.open_ {l : List WebD} (h : RWebs B w v l) : ∃ A c, v = .slice A l.length c ∧ l.length ≤ 9223372036854775807 ∧
    ∀ k x, l[k]? = some x → ∃ g o u, A = some ⟨g, o, none⟩ ∧ g < B ∧ w.cell? ⟨g, o + k * 3, none⟩ = some (.int .i64 x.cols) ∧ w.cell? ⟨g, o + k * 3 + 1, none⟩ = some (.int .i64 x.rows) ∧ w.cell? ⟨g, o + k * 3 + 2, none⟩ = some u ∧ RPlates B w u x.plates := by
  obtain ⟨vs, ⟨A, c, rfl, -, hm, hr⟩, hl, hp⟩ := h
  refine ⟨A, c, rfl, by simpa [maxLen] using hm, fun k x hx => ?_⟩
  have hk : k < l.length := (List.getElem?_eq_some_iff.1 hx).1
  obtain ⟨g, o, hA, hb, hc⟩ := hr (by omega)
  have hv : vs[k]? = some (vs[k]'(by omega)) := List.getElem?_eq_getElem (by omega)
  have hz : (l.zip vs)[k]? = some (x, vs[k]'(by omega)) := by rw [List.getElem?_zip_eq_some]; exact ⟨hx, hv⟩
  have hf := fun j hj => flat_at (fun x : WebD × Value => webCells x.1 x.2) 3 (fun _ => rfl) _ k j _ hz hj
  exact ⟨g, o, _, hA, hb, hc _ _ (hf 0 (by omega)), hc _ _ (hf 1 (by omega)), hc _ _ (hf 2 (by omega)), hp k _ x hv hx⟩
theorem RPlates.open_ {l : List PlateD} (h : RPlates B w v l) : ∃ A c, v = .slice A l.length c ∧ l.length ≤ 9223372036854775807 ∧
    ∀ k x, l[k]? = some x → ∃ g o, A = some ⟨g, o, none⟩ ∧ g < B ∧ w.cell? ⟨g, o + k * 2, none⟩ = some (.int .i64 x.page) ∧ w.cell? ⟨g, o + k * 2 + 1, none⟩ = some (.bool x.up) := by
  obtain ⟨A, c, rfl, -, hm, hr⟩ := h
  refine ⟨A, c, rfl, by simpa [maxLen] using hm, fun k x hx => ?_⟩
  have hk : k < l.length := (List.getElem?_eq_some_iff.1 hx).1
  obtain ⟨g, o, hA, hb, hc⟩ := hr (by omega)
  have hf := fun j hj => flat_at PlateD.cells 2 (fun _ => rfl) _ k j _ hx hj
  exact ⟨g, o, hA, hb, hc _ _ (hf 0 (by omega)), hc _ _ (hf 1 (by omega))⟩
theorem RRibs.open_ {l : List RibD} (h : RRibs B w v l) : ∃ A c, v = .slice A l.length c ∧ l.length ≤ 9223372036854775807 ∧
    ∀ k x, l[k]? = some x → ∃ g o, A = some ⟨g, o, none⟩ ∧ g < B ∧ w.cell? ⟨g, o + k * 5, none⟩ = some (.int .i64 x.web) ∧ w.cell? ⟨g, o + k * 5 + 1, none⟩ = some (.int .i64 x.col) ∧ w.cell? ⟨g, o + k * 5 + 2, none⟩ = some (.int .i64 x.width) ∧
      w.cell? ⟨g, o + k * 5 + 3, none⟩ = some (.bool x.turned) ∧ w.cell? ⟨g, o + k * 5 + 4, none⟩ = some (.bool x.left) := by
  obtain ⟨A, c, rfl, -, hm, hr⟩ := h
  refine ⟨A, c, rfl, by simpa [maxLen] using hm, fun k x hx => ?_⟩
  have hk : k < l.length := (List.getElem?_eq_some_iff.1 hx).1
  obtain ⟨g, o, hA, hb, hc⟩ := hr (by omega)
  have hf := fun j hj => flat_at RibD.cells 5 (fun _ => rfl) _ k j _ hx hj
  exact ⟨g, o, hA, hb, hc _ _ (hf 0 (by omega)), hc _ _ (hf 1 (by omega)), hc _ _ (hf 2 (by omega)), hc _ _ (hf 3 (by omega)), hc _ _ (hf 4 (by omega))⟩
theorem RAll.open_ {α : Type} {R : Nat → World → Value → α → Prop} {l : List α} (h : RAll R B w v l) : ∃ A c, v = .slice A l.length c ∧ l.length ≤ 9223372036854775807 ∧
    ∀ k x, l[k]? = some x → ∃ g o u, A = some ⟨g, o, none⟩ ∧ g < B ∧ w.cell? ⟨g, o + k, none⟩ = some u ∧ R B w u x := by
  obtain ⟨vs, ⟨A, c, rfl, -, hm, hr⟩, hl, hp⟩ := h
  refine ⟨A, c, rfl, by simpa [maxLen] using hm, fun k x hx => ?_⟩
  have hk : k < l.length := (List.getElem?_eq_some_iff.1 hx).1
  obtain ⟨g, o, hA, hb, hc⟩ := hr (by omega)
  have hv : vs[k]? = some (vs[k]'(by omega)) := List.getElem?_eq_getElem (by omega)
  exact ⟨g, o, _, hA, hb, hc k _ hv, hp k _ x hv hx⟩
end

end Go.Proofs.Ytdbfhdncjblleaa
