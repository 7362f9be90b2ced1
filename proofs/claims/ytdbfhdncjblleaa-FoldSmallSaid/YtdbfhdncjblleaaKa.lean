/-
  WORDS FOR MEMORY, no dump: a slice value that reads as a list of cells, nil let in; it is kept where its blocks are.
  THE LEAVES OF PACKAGE fold: contracts of the small functions.
  THE DATA OF PACKAGE fold AND HOW THEY LIE IN MEMORY.
  Big; hasPages.
  THE CHECKS OF A RUN, first part: hasPages, checkNumbers, fits, checkWebs.
  THE CHECKS OF A RUN: a ribbon's fit.
  THE CHECKS OF A RUN: its webs.
  slices.EqualFunc with the closure that compares a number with a length.
  plateIndex.
-/
import Derived.WalkKit
import Derived.WalkSpells
import Derived.Deep.AppendLies
import Derived.Lib.Hide
import Derived.BigQuiet
import Derived.Deep.QuietTactic
import Derived.WalkLawsBesides
import Derived.Test.YtdbfhdncjblleaaRows
namespace Go.Proofs.Ytdbfhdncjblleaa
open Go.RowKit

theorem addBlock (a : Addr) (n : Nat) : (a.add n).block = a.block := by unfold Addr.add; split <;> rfl
theorem addAdd (a : Addr) (i j : Nat) : (a.add i).add j = a.add (i + j) := by
  unfold Addr.add
  by_cases hi : i = 0 <;> by_cases hj : j = 0 <;> simp [hi, hj, Nat.add_assoc]

/-- The slice value v holds n elements of k cells each, all below block B: the cells xs. -/
def Rd (B : Nat) (w : World) (k : Nat) (v : Value) (n : Nat) (xs : List Value) : Prop :=
  ∃ A c, v = .slice A n c ∧ xs.length = n * k ∧ n ≤ maxLen ∧ (0 < n → ∃ g o, A = some ⟨g, o, none⟩ ∧ g < B ∧ ∀ j u, xs[j]? = some u → w.cell? ⟨g, o + j, none⟩ = some u)

section
variable {B B' : Nat} {w w' : World} {k n : Nat} {v : Value} {xs : List Value}
theorem Rd.keep (h : Rd B w k v n xs) (hk : ∀ p : Addr, p.block < B → w'.cell? p = w.cell? p) : Rd B w' k v n xs := by
  obtain ⟨A, c, hv, hl, hm, hr⟩ := h
  refine ⟨A, c, hv, hl, hm, fun h0 => ?_⟩
  obtain ⟨g, o, hA, hF, hc⟩ := hr h0
  exact ⟨g, o, hA, hF, fun j u hu => (hk _ hF).trans (hc j u hu)⟩
theorem Rd.more (h : Rd B w k v n xs) (hB : B ≤ B') : Rd B' w k v n xs := by
  obtain ⟨A, c, hv, hl, hm, hr⟩ := h
  refine ⟨A, c, hv, hl, hm, fun h0 => ?_⟩
  obtain ⟨g, o, hA, hF1, hc⟩ := hr h0
  exact ⟨g, o, hA, by omega, hc⟩
theorem Rd.below (h : Rd B w k v n xs) (hb : Below B w w') : Rd B w' k v n xs := h.keep fun p hp => hb.cell (p := p) hp
theorem Rd.nil : Rd B w k (.slice none 0 0) 0 [] := ⟨none, 0, rfl, by simp, by simp [maxLen], fun h => absurd h (by omega)⟩
/-- What a call of one's own has made reads. -/
theorem Rd.own {base : Nat} {e : TypeId} (h : w.ownsRow base e k v n xs) (hn : n ≤ maxLen) : Rd w.heap.size w k v n xs := by
  have hc := fun g => h.cells (g := g)
  have hlt := h.lt
  rcases h.2 with ⟨rfl, rfl⟩ | ⟨g, cap, cur, rfl, hb, hg, _⟩
  · exact ⟨none, 0, rfl, h.1, hn, fun h0 => absurd h0 (by omega)⟩
  · refine ⟨_, _, rfl, h.1, hn, fun _ => ⟨g, 0, rfl, (hlt g rfl).2, fun j u hu => ?_⟩⟩
    have := hc g rfl j u hu
    rwa [show (⟨g, 0, none⟩ : Addr).add j = ⟨g, 0 + j, none⟩ from by unfold Addr.add; split <;> simp_all] at this
end

theorem cell_far (w : World) (p a : Addr) (v : Value) (h : p.block ≠ a.block) : (w.setCell p v).cell? a = w.cell? a := World.cell?_of_block (Below.heap_setCell w p v a.block (Ne.symm h))

/-- The cells of a block that has just been made. -/
theorem cells_new (w : World) (cs : Array Value) (t : TypeId) : ∀ j u, cs.toList[j]? = some u → (w.alloc (.cells cs t)).cell? ((⟨w.heap.size, 0, none⟩ : Addr).add j) = some u := by
  intro j u hu
  rw [show (⟨w.heap.size, 0, none⟩ : Addr).add j = ⟨w.heap.size, j, none⟩ from by unfold Addr.add; split <;> simp_all, World.cell?_alloc_at _ _ _ _ rfl]
  simpa using hu

theorem below_drewN {B : Nat} {a w : World} (h : Below B a w) (n : Nat) : Below B a (w.drewN n) := ⟨h.os, h.tape, h.output, h.size, h.block⟩

end Go.Proofs.Ytdbfhdncjblleaa
namespace Go.Proofs.Ytdbfhdncjblleaa
open Go.RowKit

def isPageB (p : Int) : Bool := decide (0 ≤ p) && decide (p ≤ 128)

set_option maxHeartbeats 400000 in
theorem isPage_any (p : Int) (w : World) :
    Calls Try.prog 72 #[.int .i64 p] w fun e w' => e = .returned (.bool (isPageB p)) ∧ w = w' := by
  by_cases h1 : 0 ≤ p
  · by_cases h2 : p ≤ 128
    · go_enter Try.func72, Try.ntmps72
      go_wp2
      go_ret
      exact ⟨by simp [isPageB, h1, h2], rfl⟩
    · go_enter Try.func72, Try.ntmps72
      go_wp2
      go_ret
      exact ⟨by simp [isPageB, h1, h2], rfl⟩
  · go_enter Try.func72, Try.ntmps72
    go_wp2
    go_ret
    exact ⟨by have : ¬ 0 ≤ p := by omega
              simp [isPageB, this], rfl⟩

set_option maxHeartbeats 400000 in
theorem pick_any (x n : Int) (hn : 1 ≤ n) (hn2 : n ≤ 1000000) (w : World) :
    Calls Try.prog 39 #[.int .i64 x, .int .i64 n] w fun e w' => e = .returned (.int .i64 (x % n)) ∧ w = w' := by
  have h3 : x % n = if x.tmod n < 0 then x.tmod n + n else x.tmod n := by
    rw [Int.tmod_eq_emod]
    have := Int.emod_nonneg x (show n ≠ 0 by omega)
    have := Int.emod_lt_of_pos x (show 0 < n by omega)
    have : (n.natAbs : Int) = n := Int.natAbs_of_nonneg (by omega)
    split <;> split <;> omega
  have h4 : -1000000 < x.tmod n ∧ x.tmod n < 1000000 := by
    have := Int.emod_nonneg x (show n ≠ 0 by omega)
    have := Int.emod_lt_of_pos x (show 0 < n by omega)
    rw [Int.tmod_eq_emod]
    have : (n.natAbs : Int) = n := Int.natAbs_of_nonneg (by omega)
    split <;> omega
  obtain ⟨h5, h6⟩ := h4
  have H := Lib.hid h3; clear h3
  by_cases hx : x.tmod n < 0
  · go_enter Try.func39, Try.ntmps39
    go_wp2
    go_ret
    exact ⟨by rw [H.out, if_pos hx]; go_num, rfl⟩
  · go_enter Try.func39, Try.ntmps39
    go_wp2
    go_ret
    exact ⟨by rw [H.out, if_neg (by omega)]; rfl, rfl⟩

/-- A slice of numbers. -/
def RInts (B : Nat) (w : World) (v : Value) (l : List Int) : Prop := Rd B w 1 v l.length (l.map (Value.int .i64))

theorem RInts.below {B : Nat} {w w' : World} {v : Value} {l : List Int} (h : RInts B w v l) (hb : Below B w w') : RInts B w' v l := Rd.below h hb
theorem RInts.more {B B' : Nat} {w : World} {v : Value} {l : List Int} (h : RInts B w v l) (hB : B ≤ B') : RInts B' w v l := Rd.more h hB

/-- The shape, and each cell. -/
theorem RInts.open_ {B : Nat} {w : World} {v : Value} {l : List Int} (h : RInts B w v l) : ∃ A c, v = .slice A l.length c ∧ l.length ≤ 9223372036854775807 ∧
    ∀ k, k < l.length → ∃ g o x, A = some ⟨g, o, none⟩ ∧ g < B ∧ w.cell? ⟨g, o + k, none⟩ = some (.int .i64 x) ∧ Hid (l.getD k 0 = x) := by
  obtain ⟨A, c, rfl, -, hlm, hr⟩ := h
  refine ⟨A, c, rfl, by simpa [maxLen] using hlm, fun k hk => ?_⟩
  obtain ⟨g, o, hA, hb, hc⟩ := hr (by omega)
  exact ⟨g, o, _, hA, hb, hc k _ (by simp [hk]), rfl⟩

theorem take_all {α : Type} {l m : List α} {n : Nat} (h : l.take n = m.take n) (hl : l.length ≤ n) (hm : m.length ≤ n) : l = m := by
  rwa [List.take_of_length_le hl, List.take_of_length_le hm] at h
theorem take_next {l m : List Int} {k : Nat} (h : l.take k = m.take k) (hl : k < l.length) (hm : k < m.length) (he : l.getD k 0 = m.getD k 0) : l.take (k + 1) = m.take (k + 1) := by
  simp only [List.getD_eq_getElem?_getD, List.getElem?_eq_getElem hl, List.getElem?_eq_getElem hm, Option.getD_some] at he
  rw [List.take_succ_eq_append_getElem hl, List.take_succ_eq_append_getElem hm, h, he]
theorem ne_at {l m : List Int} {k : Nat} (hl : k < l.length) (hm : k < m.length) (he : ¬ l.getD k 0 = m.getD k 0) : l ≠ m := fun h => he (by rw [h])

set_option maxHeartbeats 400000 in
theorem sameInts_any (a b : Value) (l m : List Int) (w : World) (ha : RInts w.heap.size w a l) (hb : RInts w.heap.size w b m) :
    Calls Try.prog 20 #[a, b] w fun e w' => e = .returned (.bool (decide (l = m))) ∧ Below w.heap.size w w' := by
  obtain ⟨A, c, rfl, hlm, hr⟩ := ha.open_
  obtain ⟨B, d, rfl, hmm, hs⟩ := hb.open_
  by_cases hne : l.length = m.length
  · obtain ⟨n, hn⟩ : ∃ n, l.length = n := ⟨_, rfl⟩
    have hm : m.length = n := by omega
    rw [hn] at hr hlm ⊢
    rw [hm] at hs hmm ⊢
    have Hn := Lib.hid hn
    have Hm := Lib.hid hm
    clear hn hm hne
    go_enter Try.func20, Try.ntmps20
    go_wp2
    go_loopw [5] (fun i wr => ∃ k : Nat, k ≤ n ∧ i = .int .i64 k ∧ Hid (l.take k = m.take k) ∧ Below w.heap.size w wr) (fun i _ => n - (intOf i).toNat)
    case atStart => exact ⟨0, Nat.zero_le _, rfl, rfl, Below.refl _ _⟩
    case round =>
      obtain ⟨k, hk, rfl, ht, hB⟩ := hrel
      by_cases hlt : k < n
      · obtain ⟨g, o, x, rfl, hb1, hc, hx⟩ := hr k hlt
        obtain ⟨g2, o2, y, rfl, hb2, hd, hy⟩ := hs k hlt
        rw [← hB.cell (p := ⟨g, o + k, none⟩) hb1] at hc
        rw [← hB.cell (p := ⟨g2, o2 + k, none⟩) hb2] at hd
        clear hr hs ha hb
        by_cases he : x = y
        · subst he
          go_wp2
          go_quiet (fail)
          go_wp2
          go_roundw
          case rel => exact ⟨k + 1, by omega, by go_num, take_next ht (by rw [Hn.out]; exact hlt) (by rw [Hm.out]; exact hlt) (by rw [hx.out, hy.out]), below_drewN hB _⟩
          case measure => simp [intOf]; omega
        · have he2 : (x != y) = true := by simp [he]
          go_wp2
          go_quiet (fail)
          go_wp2
          go_ret
          exact ⟨by simp [ne_at (k := k) (l := l) (m := m) (by rw [Hn.out]; exact hlt) (by rw [Hm.out]; exact hlt) (by rw [hx.out, hy.out]; exact he)], below_drewN hB _⟩
      · go_wp2
        go_ret
        exact ⟨by simp [take_all ht.out (by rw [Hn.out]; omega) (by rw [Hm.out]; omega)], hB⟩
  · go_enter Try.func20, Try.ntmps20
    go_wp2
    go_ret
    exact ⟨by simp [show l ≠ m from fun h => hne (by rw [h])], Below.refl _ _⟩

end Go.Proofs.Ytdbfhdncjblleaa
namespace Go.Proofs.Ytdbfhdncjblleaa
open Go.RowKit

structure PlateD where
  page : Int
  up : Bool
  deriving DecidableEq, Inhabited
structure RibD where
  web : Int
  col : Int
  width : Int
  turned : Bool
  left : Bool
  deriving DecidableEq, Inhabited
structure WebD where
  cols : Int
  rows : Int
  plates : List PlateD
  deriving DecidableEq, Inhabited
structure RunD where
  webs : List WebD
  ribs : List RibD
  stacks : List (List Int)
  coll : Bool
  deriving DecidableEq, Inhabited

def PlateD.cells (p : PlateD) : List Value := [.int .i64 p.page, .bool p.up]
def RibD.cells (x : RibD) : List Value := [.int .i64 x.web, .int .i64 x.col, .int .i64 x.width, .bool x.turned, .bool x.left]
def webCells (x : WebD) (v : Value) : List Value := [.int .i64 x.cols, .int .i64 x.rows, v]

/-- Rows of k cells each, one behind the other. -/
theorem flat_get {α : Type} (f : α → List Value) (k : Nat) (hk : ∀ x, (f x).length = k) (l : List α) : (l.flatMap f).length = l.length * k := by
  induction l with
  | nil => simp
  | cons x l ih => simp [List.flatMap_cons, hk, ih, Nat.add_mul, Nat.add_comm]
theorem flat_at {α : Type} (f : α → List Value) (k : Nat) (hk : ∀ x, (f x).length = k) : ∀ (l : List α) (i j : Nat) (x : α), l[i]? = some x → j < k → (l.flatMap f)[i * k + j]? = (f x)[j]?
  | [], i, j, x, h, _ => by simp at h
  | y :: l, 0, j, x, h, hj => by
    simp only [List.getElem?_cons_zero, Option.some.injEq] at h
    subst h
    rw [List.flatMap_cons, Nat.zero_mul, Nat.zero_add, List.getElem?_append_left (by rw [hk]; exact hj)]
  | y :: l, i + 1, j, x, h, hj => by
    rw [List.flatMap_cons, List.getElem?_append_right (by rw [hk, Nat.add_mul]; omega), hk]
    have e : (i + 1) * k + j - k = i * k + j := by rw [Nat.add_mul]; omega
    rw [e]
    exact flat_at f k hk l i j x (by simpa using h) hj

def RPlates (B : Nat) (w : World) (v : Value) (l : List PlateD) : Prop := Rd B w 2 v l.length (l.flatMap PlateD.cells)
def RRibs (B : Nat) (w : World) (v : Value) (l : List RibD) : Prop := Rd B w 5 v l.length (l.flatMap RibD.cells)
/-- A slice of slices: its cells, and what each reads as. -/
def RAll {α : Type} (R : Nat → World → Value → α → Prop) (B : Nat) (w : World) (v : Value) (l : List α) : Prop :=
  ∃ vs : List Value, Rd B w 1 v l.length vs ∧ vs.length = l.length ∧ ∀ (i : Nat) (u : Value) (x : α), vs[i]? = some u → l[i]? = some x → R B w u x
def RIntss (B : Nat) (w : World) (v : Value) (l : List (List Int)) : Prop := RAll RInts B w v l
def RWebs (B : Nat) (w : World) (v : Value) (l : List WebD) : Prop :=
  ∃ vs : List Value, Rd B w 3 v l.length ((l.zip vs).flatMap fun x => webCells x.1 x.2) ∧ vs.length = l.length ∧ ∀ (i : Nat) (u : Value) (x : WebD), vs[i]? = some u → l[i]? = some x → RPlates B w u x.plates
def RRun (B : Nat) (w : World) (v : Value) (r : RunD) : Prop :=
  ∃ v1 v2 v3, v = .agg #[v1, v2, v3, .bool r.coll] ∧ RWebs B w v1 r.webs ∧ RRibs B w v2 r.ribs ∧ RIntss B w v3 r.stacks

section
variable {B B' : Nat} {w w' : World} {v : Value}
theorem RPlates.keep {l : List PlateD} (h : RPlates B w v l) (hk : ∀ p : Addr, p.block < B → w'.cell? p = w.cell? p) : RPlates B w' v l := Rd.keep h hk
theorem RRibs.keep {l : List RibD} (h : RRibs B w v l) (hk : ∀ p : Addr, p.block < B → w'.cell? p = w.cell? p) : RRibs B w' v l := Rd.keep h hk
theorem RAll.keep {α : Type} {R : Nat → World → Value → α → Prop} {l : List α} (h : RAll R B w v l) (hk : ∀ p : Addr, p.block < B → w'.cell? p = w.cell? p) (hR : ∀ u x, R B w u x → R B w' u x) : RAll R B w' v l := by
  obtain ⟨vs, h1, h2, h3⟩ := h
  exact ⟨vs, h1.keep hk, h2, fun i u x hu hx => hR _ _ (h3 i u x hu hx)⟩
theorem RAll.more {α : Type} {R : Nat → World → Value → α → Prop} {l : List α} (h : RAll R B w v l) (hB : B ≤ B') (hR : ∀ u x, R B w u x → R B' w u x) : RAll R B' w v l := by
  obtain ⟨vs, h1, h2, h3⟩ := h
  exact ⟨vs, h1.more hB, h2, fun i u x hu hx => hR _ _ (h3 i u x hu hx)⟩
theorem RIntss.keep {l : List (List Int)} (h : RIntss B w v l) (hk : ∀ p : Addr, p.block < B → w'.cell? p = w.cell? p) : RIntss B w' v l := RAll.keep h hk fun _ _ hr => Rd.keep hr hk
theorem RIntss.more {l : List (List Int)} (h : RIntss B w v l) (hB : B ≤ B') : RIntss B' w v l := RAll.more h hB fun _ _ hr => Rd.more hr hB
theorem RWebs.keep {l : List WebD} (h : RWebs B w v l) (hk : ∀ p : Addr, p.block < B → w'.cell? p = w.cell? p) : RWebs B w' v l := by
  obtain ⟨vs, h1, h2, h3⟩ := h
  exact ⟨vs, h1.keep hk, h2, fun i u x hu hx => (h3 i u x hu hx).keep hk⟩
theorem RWebs.more {l : List WebD} (h : RWebs B w v l) (hB : B ≤ B') : RWebs B' w v l := by
  obtain ⟨vs, h1, h2, h3⟩ := h
  exact ⟨vs, h1.more hB, h2, fun i u x hu hx => Rd.more (h3 i u x hu hx) hB⟩
theorem RRun.keep {r : RunD} (h : RRun B w v r) (hk : ∀ p : Addr, p.block < B → w'.cell? p = w.cell? p) : RRun B w' v r := by
  obtain ⟨v1, v2, v3, rfl, h1, h2, h3⟩ := h
  exact ⟨v1, v2, v3, rfl, h1.keep hk, h2.keep hk, h3.keep hk⟩
theorem RRun.more {r : RunD} (h : RRun B w v r) (hB : B ≤ B') : RRun B' w v r := by
  obtain ⟨v1, v2, v3, rfl, h1, h2, h3⟩ := h
  exact ⟨v1, v2, v3, rfl, h1.more hB, Rd.more h2 hB, h3.more hB⟩
theorem RRun.below {r : RunD} (h : RRun B w v r) (hb : Below B w w') : RRun B w' v r := h.keep fun _ hp => hb.cell hp
theorem RIntss.below {l : List (List Int)} (h : RIntss B w v l) (hb : Below B w w') : RIntss B w' v l := h.keep fun _ hp => hb.cell hp
theorem RWebs.below {l : List WebD} (h : RWebs B w v l) (hb : Below B w w') : RWebs B w' v l := h.keep fun _ hp => hb.cell hp
theorem RRibs.below {l : List RibD} (h : RRibs B w v l) (hb : Below B w w') : RRibs B w' v l := h.keep fun _ hp => hb.cell hp

/-- A web of a list: its three cells. -/
theorem RWebs.open_ {l : List WebD} (h : RWebs B w v l) : ∃ A c, v = .slice A l.length c ∧ l.length ≤ 9223372036854775807 ∧
    ∀ k x, l[k]? = some x → ∃ g o u, A = some ⟨g, o, none⟩ ∧ g < B ∧ w.cell? ⟨g, o + k * 3, none⟩ = some (.int .i64 x.cols) ∧ w.cell? ⟨g, o + k * 3 + 1, none⟩ = some (.int .i64 x.rows) ∧ w.cell? ⟨g, o + k * 3 + 2, none⟩ = some u ∧ RPlates B w u x.plates := by
  obtain ⟨vs, ⟨A, c, rfl, -, hm, hr⟩, hl, hp⟩ := h
  refine ⟨A, c, rfl, by simpa [maxLen] using hm, fun k x hx => ?_⟩
  have hk : k < l.length := (List.getElem?_eq_some_iff.1 hx).1
  obtain ⟨g, o, hA, hb, hc⟩ := hr (by omega)
  have hv : vs[k]? = some (vs[k]'(by omega)) := List.getElem?_eq_getElem (by omega)
  have hz : (l.zip vs)[k]? = some (x, vs[k]'(by omega)) := by rw [List.getElem?_zip_eq_some]; exact ⟨hx, hv⟩
  have hf := fun j hj => flat_at (fun x : WebD × Value => webCells x.1 x.2) 3 (fun _ => rfl) _ k j _ hz hj
  exact ⟨g, o, _, hA, hb, hc _ _ (hf 0 (by omega)), hc _ _ (hf 1 (by omega)), hc _ _ (hf 2 (by omega)), hp k _ x hv hx⟩
theorem RPlates.open_ {l : List PlateD} (h : RPlates B w v l) : ∃ A c, v = .slice A l.length c ∧ l.length ≤ 9223372036854775807 ∧
    ∀ k x, l[k]? = some x → ∃ g o, A = some ⟨g, o, none⟩ ∧ g < B ∧ w.cell? ⟨g, o + k * 2, none⟩ = some (.int .i64 x.page) ∧ w.cell? ⟨g, o + k * 2 + 1, none⟩ = some (.bool x.up) := by
  obtain ⟨A, c, rfl, -, hm, hr⟩ := h
  refine ⟨A, c, rfl, by simpa [maxLen] using hm, fun k x hx => ?_⟩
  have hk : k < l.length := (List.getElem?_eq_some_iff.1 hx).1
  obtain ⟨g, o, hA, hb, hc⟩ := hr (by omega)
  have hf := fun j hj => flat_at PlateD.cells 2 (fun _ => rfl) _ k j _ hx hj
  exact ⟨g, o, hA, hb, hc _ _ (hf 0 (by omega)), hc _ _ (hf 1 (by omega))⟩
theorem RRibs.open_ {l : List RibD} (h : RRibs B w v l) : ∃ A c, v = .slice A l.length c ∧ l.length ≤ 9223372036854775807 ∧
    ∀ k x, l[k]? = some x → ∃ g o, A = some ⟨g, o, none⟩ ∧ g < B ∧ w.cell? ⟨g, o + k * 5, none⟩ = some (.int .i64 x.web) ∧ w.cell? ⟨g, o + k * 5 + 1, none⟩ = some (.int .i64 x.col) ∧ w.cell? ⟨g, o + k * 5 + 2, none⟩ = some (.int .i64 x.width) ∧
      w.cell? ⟨g, o + k * 5 + 3, none⟩ = some (.bool x.turned) ∧ w.cell? ⟨g, o + k * 5 + 4, none⟩ = some (.bool x.left) := by
  obtain ⟨A, c, rfl, -, hm, hr⟩ := h
  refine ⟨A, c, rfl, by simpa [maxLen] using hm, fun k x hx => ?_⟩
  have hk : k < l.length := (List.getElem?_eq_some_iff.1 hx).1
  obtain ⟨g, o, hA, hb, hc⟩ := hr (by omega)
  have hf := fun j hj => flat_at RibD.cells 5 (fun _ => rfl) _ k j _ hx hj
  exact ⟨g, o, hA, hb, hc _ _ (hf 0 (by omega)), hc _ _ (hf 1 (by omega)), hc _ _ (hf 2 (by omega)), hc _ _ (hf 3 (by omega)), hc _ _ (hf 4 (by omega))⟩
theorem RAll.open_ {α : Type} {R : Nat → World → Value → α → Prop} {l : List α} (h : RAll R B w v l) : ∃ A c, v = .slice A l.length c ∧ l.length ≤ 9223372036854775807 ∧
    ∀ k x, l[k]? = some x → ∃ g o u, A = some ⟨g, o, none⟩ ∧ g < B ∧ w.cell? ⟨g, o + k, none⟩ = some u ∧ R B w u x := by
  obtain ⟨vs, ⟨A, c, rfl, -, hm, hr⟩, hl, hp⟩ := h
  refine ⟨A, c, rfl, by simpa [maxLen] using hm, fun k x hx => ?_⟩
  have hk : k < l.length := (List.getElem?_eq_some_iff.1 hx).1
  obtain ⟨g, o, hA, hb, hc⟩ := hr (by omega)
  have hv : vs[k]? = some (vs[k]'(by omega)) := List.getElem?_eq_getElem (by omega)
  exact ⟨g, o, _, hA, hb, hc k _ hv, hp k _ x hv hx⟩
end

end Go.Proofs.Ytdbfhdncjblleaa
namespace Go.Proofs.Ytdbfhdncjblleaa
open Go.RowKit

def bigB (r : RunD) : Bool := decide (40 < r.webs.length) || decide (40 < r.ribs.length) || decide (40 < r.stacks.length) || r.webs.any (fun x => decide (40 < x.plates.length)) || r.stacks.any (fun x => decide (40 < x.length))

theorem rb {a b : Bool} (h : b = a) : Ending.returned (.bool a) = Ending.returned (.bool b) := by rw [h]
theorem any_next {α : Type} {f : α → Bool} {l : List α} {k : Nat} {x : α} (h : Hid ((l.take k).any f = false)) (hx : l[k]? = some x) (hf : f x = false) : Hid ((l.take (k + 1)).any f = false) := by
  obtain ⟨hk, rfl⟩ := List.getElem?_eq_some_iff.1 hx
  show (l.take (k + 1)).any f = false
  rw [List.take_succ_eq_append_getElem hk, List.any_append, h.out]
  simp [hf]
theorem any_end {α : Type} {f : α → Bool} {l : List α} {k : Nat} (h : Hid ((l.take k).any f = false)) (hk : l.length ≤ k) : Hid (l.any f = false) := by
  show l.any f = false
  have := h.out
  rwa [List.take_of_length_le hk] at this
theorem big_web {r : RunD} {k : Nat} {x : WebD} (hx : r.webs[k]? = some x) (h : 40 < x.plates.length) : bigB r = true := by
  have : r.webs.any (fun x => decide (40 < x.plates.length)) = true := List.any_eq_true.2 ⟨x, List.mem_of_getElem? hx, by simpa using h⟩
  simp only [bigB, this, Bool.or_true, Bool.true_or]
theorem big_stack {r : RunD} {k : Nat} {x : List Int} (hx : r.stacks[k]? = some x) (h : 40 < x.length) : bigB r = true := by
  have : r.stacks.any (fun x => decide (40 < x.length)) = true := List.any_eq_true.2 ⟨x, List.mem_of_getElem? hx, by simpa using h⟩
  simp only [bigB, this, Bool.or_true]
theorem big_not {r : RunD} (h1 : ¬ 40 < r.webs.length) (h2 : ¬ 40 < r.ribs.length) (h3 : ¬ 40 < r.stacks.length) (h4 : Hid (r.webs.any (fun x => decide (40 < x.plates.length)) = false)) (h5 : Hid (r.stacks.any (fun x => decide (40 < x.length)) = false)) : bigB r = false := by
  unfold bigB
  rw [h4.out, h5.out]
  simp only [h1, h2, h3, decide_false, Bool.or_self]

theorem slice_len {B : Nat} {w : World} {k n : Nat} {v : Value} {xs : List Value} (h : Rd B w k v n xs) : ∃ A c, v = .slice A n c ∧ n ≤ 9223372036854775807 := by
  obtain ⟨A, c, rfl, -, hm, -⟩ := h
  exact ⟨A, c, rfl, by simpa [maxLen] using hm⟩

set_option maxHeartbeats 400000 in
theorem big_any (v : Value) (r : RunD) (w : World) (h : RRun w.heap.size w v r) :
    Calls Try.prog 10 #[v] w fun e w' => e = .returned (.bool (bigB r)) ∧ Below w.heap.size w w' := by
  obtain ⟨v1, v2, v3, rfl, hw, hr, hs⟩ := h
  obtain ⟨A, c, rfl, hA1, hA⟩ := hw.open_
  obtain ⟨A2, c2, rfl, hA2⟩ := slice_len hr
  obtain ⟨A3, c3, rfl, hA3, hA4⟩ := hs.open_
  by_cases h1 : 40 < r.webs.length
  · go_enter Try.func10, Try.ntmps10
    go_wp2
    go_ret
    exact ⟨by simp [bigB, h1], (Below.refl _ _).alloc (Nat.le_refl _) _⟩
  by_cases h2 : 40 < r.ribs.length
  · go_enter Try.func10, Try.ntmps10
    go_wp2
    go_ret
    exact ⟨by simp [bigB, h2], (Below.refl _ _).alloc (Nat.le_refl _) _⟩
  by_cases h3 : 40 < r.stacks.length
  · go_enter Try.func10, Try.ntmps10
    go_wp2
    go_ret
    exact ⟨by simp [bigB, h3], (Below.refl _ _).alloc (Nat.le_refl _) _⟩
  go_enter Try.func10, Try.ntmps10
  go_wp2
  go_loop [3] (fun i => ∃ k : Nat, k ≤ r.webs.length ∧ i = .int .i64 k ∧ Hid ((r.webs.take k).any (fun x => decide (40 < x.plates.length)) = false)) (fun i => r.webs.length - (intOf i).toNat)
  case atStart => exact ⟨0, Nat.zero_le _, rfl, rfl⟩
  case round =>
    obtain ⟨k, hk, rfl, ht⟩ := hrel
    by_cases hlt : k < r.webs.length
    · obtain ⟨x, hx⟩ : ∃ x, r.webs[k]? = some x := ⟨_, List.getElem?_eq_getElem hlt⟩
      obtain ⟨g, o, u, rfl, hb, hc1, hc2, hc3, hp⟩ := hA k x hx
      obtain ⟨A5, c5, rfl, hA5⟩ := slice_len hp
      have Hx := Lib.hid hx
      clear hx
      by_cases h5 : 40 < x.plates.length
      · go_wp2
        go_ret
        exact ⟨rb (big_web (Hx.out) h5), (Below.refl _ _).alloc (Nat.le_refl _) _⟩
      · go_wp2
        go_round
        case rel => exact ⟨k + 1, by omega, by go_num, any_next ht Hx.out (by simpa using h5)⟩
        case measure => simp [intOf]; omega
    · have Ht := any_end ht (by omega)
      go_wp2
      go_loop [4] (fun i => ∃ k : Nat, k ≤ r.stacks.length ∧ i = .int .i64 k ∧ Hid ((r.stacks.take k).any (fun x => decide (40 < x.length)) = false)) (fun i => r.stacks.length - (intOf i).toNat)
      case atStart => exact ⟨0, Nat.zero_le _, rfl, rfl⟩
      case round =>
        obtain ⟨m, hm, rfl, hs1⟩ := hrel
        by_cases hmt : m < r.stacks.length
        · obtain ⟨x, hx⟩ : ∃ x, r.stacks[m]? = some x := ⟨_, List.getElem?_eq_getElem hmt⟩
          obtain ⟨g, o, u, rfl, hb, hc1, hp⟩ := hA4 m x hx
          obtain ⟨A5, c5, rfl, hA5⟩ := slice_len hp
          have Hx := Lib.hid hx
          clear hx
          by_cases h5 : 40 < x.length
          · go_wp2
            go_ret
            exact ⟨rb (big_stack (Hx.out) h5), (Below.refl _ _).alloc (Nat.le_refl _) _⟩
          · go_wp2
            go_round
            case rel => exact ⟨m + 1, by omega, by go_num, any_next hs1 Hx.out (by simpa using h5)⟩
            case measure => simp [intOf]; omega
        · have Hs := any_end hs1 (by omega)
          go_wp2
          go_ret
          exact ⟨rb (big_not h1 h2 h3 Ht Hs), (Below.refl _ _).alloc (Nat.le_refl _) _⟩

/-- The four cells of a run in its box. -/
theorem box4 {w : World} {a b c d : Value} {t : TypeId} (j : Nat) (x : Value) (h : #[a, b, c, d][j]? = some x) : (w.alloc (.cells #[a, b, c, d] t)).cell? ⟨w.heap.size, j, none⟩ = some x := by
  rw [World.cell?_alloc_at _ _ _ _ rfl, h]

end Go.Proofs.Ytdbfhdncjblleaa
namespace Go.Proofs.Ytdbfhdncjblleaa
open Go.RowKit

theorem ri {a b : Int} (h : b = a) : Ending.returned (.int .i64 a) = Ending.returned (.int .i64 b) := by rw [h]

def hasPagesB (l : List (List Int)) : Bool := l.all fun x => x.all isPageB

theorem all_next {α : Type} {f : α → Bool} {l : List α} {k : Nat} {x : α} (h : Hid ((l.take k).all f = true)) (hx : l[k]? = some x) (hf : f x = true) : Hid ((l.take (k + 1)).all f = true) := by
  obtain ⟨hk, rfl⟩ := List.getElem?_eq_some_iff.1 hx
  show (l.take (k + 1)).all f = true
  rw [List.take_succ_eq_append_getElem hk, List.all_append, h.out]
  simp [hf]
theorem all_end {α : Type} {f : α → Bool} {l : List α} {k : Nat} (h : Hid ((l.take k).all f = true)) (hk : l.length ≤ k) : Hid (l.all f = true) := by
  show l.all f = true
  have := h.out
  rwa [List.take_of_length_le hk] at this
theorem all_not {α : Type} {f : α → Bool} {l : List α} {k : Nat} {x : α} (hx : l[k]? = some x) (hf : f x = false) : l.all f = false := by
  cases h : l.all f with
  | false => rfl
  | true =>
    have := List.all_eq_true.1 h x (List.mem_of_getElem? hx)
    rw [hf] at this
    cases this

set_option maxHeartbeats 400000 in
theorem hasPages_any (v : Value) (l : List (List Int)) (w : World) (h : RIntss w.heap.size w v l) :
    Calls Try.prog 54 #[v] w fun e w' => e = .returned (.bool (hasPagesB l)) ∧ w = w' := by
  obtain ⟨A, c, rfl, hA1, hA⟩ := h.open_
  go_enter Try.func54, Try.ntmps54
  go_wp2
  go_loop [9] (fun i => ∃ k : Nat, k ≤ l.length ∧ i = .int .i64 k ∧ Hid ((l.take k).all (fun x => x.all isPageB) = true)) (fun i => l.length - (intOf i).toNat)
  case atStart => exact ⟨0, Nat.zero_le _, rfl, rfl⟩
  case round =>
    obtain ⟨k, hk, rfl, ht⟩ := hrel
    by_cases hlt : k < l.length
    · obtain ⟨x, hx⟩ : ∃ x, l[k]? = some x := ⟨_, List.getElem?_eq_getElem hlt⟩
      obtain ⟨g, o, u, rfl, hb, hc1, hp⟩ := hA k x hx
      obtain ⟨A5, c5, rfl, hA5, hA6⟩ := RInts.open_ hp
      have Hx := Lib.hid hx
      clear hx
      go_wp2
      go_loop [15] (fun i => ∃ m : Nat, m ≤ x.length ∧ i = .int .i64 m ∧ Hid ((x.take m).all isPageB = true)) (fun i => x.length - (intOf i).toNat)
      case atStart => exact ⟨0, Nat.zero_le _, rfl, rfl⟩
      case round =>
        obtain ⟨m, hm, rfl, hs⟩ := hrel
        by_cases hmt : m < x.length
        · obtain ⟨g2, o2, y, rfl, hb2, hc2, hy⟩ := hA6 m hmt
          have Hy : Hid (x[m]? = some y) := by
            show x[m]? = some y
            have := hy.out
            simpa [List.getD_eq_getElem?_getD, List.getElem?_eq_getElem hmt] using this
          clear hA hA6
          cases hpg : isPageB y
          · go_wp2_with (go_at_call 72; refine (isPage_any _ _).mono ?_; rintro e w' ⟨rfl, rfl⟩)
            go_ret
            exact ⟨rb (all_not Hx.out (all_not Hy.out hpg)), rfl⟩
          · go_wp2_with (go_at_call 72; refine (isPage_any _ _).mono ?_; rintro e w' ⟨rfl, rfl⟩)
            go_round
            case rel => exact ⟨m + 1, by omega, by go_num, all_next hs Hy.out hpg⟩
            case measure => simp [intOf]; omega
        · have Hs := all_end hs (by omega)
          go_wp2
          go_round
          case rel => exact ⟨k + 1, by omega, by go_num, all_next ht Hx.out Hs.out⟩
          case measure => simp [intOf]; omega
    · have Ht := all_end ht (by omega)
      go_wp2
      go_ret
      exact ⟨rb (Ht.out), rfl⟩

set_option maxHeartbeats 400000 in
theorem allowed_any (n m : Int) (w : World) :
    Calls Try.prog 78 #[.int .i64 n, .int .i64 m] w fun e w' => e = .returned (.bool (decide (1 ≤ n ∧ n ≤ m))) ∧ w = w' := by
  by_cases h1 : 1 ≤ n
  · by_cases h2 : n ≤ m
    · go_enter Try.func78, Try.ntmps78
      go_wp2
      go_ret
      exact ⟨rb (by simp [h1, h2]), rfl⟩
    · go_enter Try.func78, Try.ntmps78
      go_wp2
      go_ret
      exact ⟨rb (by simp [h1, h2]), rfl⟩
  · go_enter Try.func78, Try.ntmps78
    go_wp2
    go_ret
    exact ⟨rb (by simp [show ¬ 1 ≤ n by omega]), rfl⟩

def numbersB (r : RunD) : Bool := decide (1 ≤ r.webs.length ∧ r.webs.length ≤ 8) && decide (1 ≤ r.ribs.length ∧ r.ribs.length ≤ 32) && decide (1 ≤ r.stacks.length ∧ r.stacks.length ≤ 4)

def numbersE (r : RunD) : Int := if numbersB r then 0 else 2

theorem allowed_yes (n m : Int) (h : 1 ≤ n ∧ n ≤ m) (w : World) :
    Calls Try.prog 78 #[.int .i64 n, .int .i64 m] w fun e w' => e = .returned (.bool true) ∧ w = w' :=
  (allowed_any n m w).mono fun e w' ⟨he, hw⟩ => ⟨he.trans (by simp [h.1, h.2]), hw⟩
theorem allowed_no (n m : Int) (h : ¬ (1 ≤ n ∧ n ≤ m)) (w : World) :
    Calls Try.prog 78 #[.int .i64 n, .int .i64 m] w fun e w' => e = .returned (.bool false) ∧ w = w' :=
  (allowed_any n m w).mono fun e w' ⟨he, hw⟩ => ⟨he.trans (by rw [decide_eq_false h]), hw⟩

set_option maxHeartbeats 400000 in
theorem checkNumbers_any (v : Value) (r : RunD) (w : World) (h : RRun w.heap.size w v r) :
    Calls Try.prog 63 #[v] w fun e w' => e = .returned (.int .i64 (numbersE r)) ∧ Below w.heap.size w w' := by
  obtain ⟨v1, v2, v3, rfl, hw, hr, hs⟩ := h
  obtain ⟨A, c, rfl, hA1, -⟩ := hw.open_
  obtain ⟨A2, c2, rfl, hA2⟩ := slice_len hr
  obtain ⟨A3, c3, rfl, hA3, -⟩ := hs.open_
  by_cases h1 : 1 ≤ (r.webs.length : Int) ∧ (r.webs.length : Int) ≤ 8
  · by_cases h2 : 1 ≤ (r.ribs.length : Int) ∧ (r.ribs.length : Int) ≤ 32
    · by_cases h3 : 1 ≤ (r.stacks.length : Int) ∧ (r.stacks.length : Int) ≤ 4
      · have hn : numbersE r = 0 := by
          rw [numbersE, if_pos]; simp only [numbersB, Bool.and_eq_true, decide_eq_true_eq]; omega
        have C1 := Lib.hid (allowed_yes _ _ h1); have C2 := Lib.hid (allowed_yes _ _ h2); have C3 := Lib.hid (allowed_yes _ _ h3)
        have Hn := Lib.hid hn
        clear h1 h2 h3 hn
        go_enter Try.func63, Try.ntmps63
        go_wp2_with fail
        refine (C1.out _).mono ?_; rintro e w' ⟨rfl, rfl⟩
        go_wp2_with fail
        refine (C2.out _).mono ?_; rintro e w' ⟨rfl, rfl⟩
        go_wp2_with fail
        refine (C3.out _).mono ?_; rintro e w' ⟨rfl, rfl⟩
        go_wp2
        go_ret
        exact ⟨ri Hn.out, (Below.refl _ _).alloc (Nat.le_refl _) _⟩
      · have hn : numbersE r = 2 := by
          rw [numbersE, if_neg]; simp only [numbersB, Bool.and_eq_true, decide_eq_true_eq]; omega
        have C1 := Lib.hid (allowed_yes _ _ h1); have C2 := Lib.hid (allowed_yes _ _ h2); have C3 := Lib.hid (allowed_no _ _ h3)
        have Hn := Lib.hid hn
        clear h1 h2 h3 hn
        go_enter Try.func63, Try.ntmps63
        go_wp2_with fail
        refine (C1.out _).mono ?_; rintro e w' ⟨rfl, rfl⟩
        go_wp2_with fail
        refine (C2.out _).mono ?_; rintro e w' ⟨rfl, rfl⟩
        go_wp2_with fail
        refine (C3.out _).mono ?_; rintro e w' ⟨rfl, rfl⟩
        go_wp2
        go_ret
        exact ⟨ri Hn.out, (Below.refl _ _).alloc (Nat.le_refl _) _⟩
    · have hn : numbersE r = 2 := by
        rw [numbersE, if_neg]; simp only [numbersB, Bool.and_eq_true, decide_eq_true_eq]; omega
      have C1 := Lib.hid (allowed_yes _ _ h1); have C2 := Lib.hid (allowed_no _ _ h2)
      have Hn := Lib.hid hn
      clear h1 h2 hn
      go_enter Try.func63, Try.ntmps63
      go_wp2_with fail
      refine (C1.out _).mono ?_; rintro e w' ⟨rfl, rfl⟩
      go_wp2_with fail
      refine (C2.out _).mono ?_; rintro e w' ⟨rfl, rfl⟩
      go_wp2
      go_ret
      exact ⟨ri Hn.out, (Below.refl _ _).alloc (Nat.le_refl _) _⟩
  · have hn : numbersE r = 2 := by
      rw [numbersE, if_neg]; simp only [numbersB, Bool.and_eq_true, decide_eq_true_eq]; omega
    have C1 := Lib.hid (allowed_no _ _ h1)
    have Hn := Lib.hid hn
    clear h1 hn
    go_enter Try.func63, Try.ntmps63
    go_wp2_with fail
    refine (C1.out _).mono ?_; rintro e w' ⟨rfl, rfl⟩
    go_wp2
    go_ret
    exact ⟨ri Hn.out, (Below.refl _ _).alloc (Nat.le_refl _) _⟩

end Go.Proofs.Ytdbfhdncjblleaa
namespace Go.Proofs.Ytdbfhdncjblleaa
open Go.RowKit

def fitsB (r : RunD) (x : RibD) : Bool :=
  decide (0 ≤ x.web ∧ x.web < r.webs.length ∧ 1 ≤ x.width ∧ x.width ≤ 2) && !(decide (x.width = 2) && x.left) && decide (0 ≤ x.col ∧ x.col ≤ (r.webs.getD x.web.toNat default).cols - x.width)

set_option maxHeartbeats 800000 in
theorem fits_any (v : Value) (r : RunD) (x : RibD) (w : World) (h : RRun w.heap.size w v r) (hcols : ∀ y ∈ r.webs, 1 ≤ y.cols ∧ y.cols ≤ 4) :
    Calls Try.prog 79 #[v, .agg #[.int .i64 x.web, .int .i64 x.col, .int .i64 x.width, .bool x.turned, .bool x.left]] w fun e w' => e = .returned (.bool (fitsB r x)) ∧ Below w.heap.size w w' := by
  obtain ⟨v1, v2, v3, rfl, hw, hr, hs⟩ := h
  obtain ⟨A, c, rfl, hA1, hA⟩ := hw.open_
  obtain ⟨web, col, width, turned, left⟩ := x
  have hend : ∀ w1 w2 : World, Below w.heap.size w ((w.alloc (.cells #[.slice A r.webs.length c, v2, v3, .bool r.coll] 111)).alloc (.cells #[.int .i64 web, .int .i64 col, .int .i64 width, .bool turned, .bool left] 91)) :=
    fun _ _ => ((Below.refl _ _).alloc (Nat.le_refl _) _).alloc (by simp) _
  by_cases h1 : 0 ≤ web
  case neg =>
    go_enter Try.func79, Try.ntmps79
    go_wp2
    go_ret
    exact ⟨rb (by simp [fitsB]; omega), hend w w⟩
  by_cases h2 : web < r.webs.length
  case neg =>
    go_enter Try.func79, Try.ntmps79
    go_wp2
    go_ret
    exact ⟨rb (by simp [fitsB]; omega), hend w w⟩
  by_cases h3 : 1 ≤ width
  case neg =>
    go_enter Try.func79, Try.ntmps79
    go_wp2
    go_ret
    exact ⟨rb (by simp [fitsB]; omega), hend w w⟩
  by_cases h4 : width ≤ 2
  case neg =>
    go_enter Try.func79, Try.ntmps79
    go_wp2
    go_ret
    exact ⟨rb (by simp [fitsB]; omega), hend w w⟩
  obtain ⟨k, rfl⟩ := Int.eq_ofNat_of_zero_le h1
  have hk : k < r.webs.length := by omega
  obtain ⟨x, hx⟩ : ∃ x, r.webs[k]? = some x := ⟨_, List.getElem?_eq_getElem hk⟩
  obtain ⟨g, o, u, rfl, hb, hc1, hc2, hc3, hp⟩ := hA k x hx
  have hxm := hcols x (List.mem_of_getElem? hx)
  have Hx : Hid (r.webs.getD k default = x) := by
    show r.webs.getD k default = x
    rw [List.getD_eq_getElem?_getD, hx]; rfl
  clear hx hA
  by_cases h5 : width = 2 ∧ left = true
  · obtain ⟨rfl, rfl⟩ := h5
    go_enter Try.func79, Try.ntmps79
    go_wp2
    go_ret
    exact ⟨rb (by simp [fitsB]), hend w w⟩
  by_cases h6 : 0 ≤ col
  case neg =>
    have hd : decide (0 ≤ col) = false := by simpa using h6
    by_cases h7 : width = 2
    · have h8 : left = false := by simpa [h7] using h5
      subst h7 h8
      go_enter Try.func79, Try.ntmps79
      go_wp2
      go_quiet (fail)
      go_wp2
      go_ret
      exact ⟨rb (by simp [fitsB]; omega), below_drewN (hend w w) _⟩
    · have h7' : (width == 2) = false := by simpa using h7
      go_enter Try.func79, Try.ntmps79
      go_wp2
      go_quiet (fail)
      go_wp2
      go_ret
      exact ⟨rb (by simp [fitsB]; omega), below_drewN (hend w w) _⟩
  have hres : fitsB r ⟨k, col, width, turned, left⟩ = decide (col ≤ x.cols - width) := by
    have e1 : (!(decide (width = 2) && left)) = true := by
      cases left <;> simp at h5 ⊢
      exact h5
    have e2 : decide (0 ≤ (k : Int) ∧ (k : Int) < r.webs.length ∧ 1 ≤ width ∧ width ≤ 2) = true := by simp; omega
    simp only [fitsB, e1, e2, Bool.true_and, Int.toNat_natCast, Hx.out, h6, true_and]
  have Hres := Lib.hid hres
  clear hres
  by_cases h7 : width = 2
  · have h8 : left = false := by simpa [h7] using h5
    subst h7 h8
    clear h5 h3 h4
    go_enter Try.func79, Try.ntmps79
    go_wp2
    go_quiet (fail)
    go_wp2
    go_ret
    exact ⟨rb Hres.out, below_drewN (hend w w) _⟩
  · have h7' : (width == 2) = false := by simpa using h7
    go_enter Try.func79, Try.ntmps79
    go_wp2
    go_quiet (fail)
    go_wp2
    go_ret
    exact ⟨rb Hres.out, below_drewN (hend w w) _⟩

end Go.Proofs.Ytdbfhdncjblleaa
namespace Go.Proofs.Ytdbfhdncjblleaa
open Go.RowKit

def sizeB (rows0 : Int) (x : WebD) : Bool := decide (1 ≤ x.cols ∧ x.cols ≤ 4 ∧ 1 ≤ x.rows ∧ x.rows ≤ 2 ∧ x.rows = rows0)
def webB (rows0 : Int) (x : WebD) : Bool := sizeB rows0 x && decide ((x.plates.length : Int) = 2 * x.rows * x.cols) && x.plates.all fun p => isPageB p.page
def rows0 (r : RunD) : Int := (r.webs.getD 0 default).rows
def websB (r : RunD) : Bool := r.webs.all (webB (rows0 r))
def websE (r : RunD) : Int := if websB r then 0 else 6
theorem websE_no {r : RunD} {k : Nat} {x : WebD} (hx : r.webs[k]? = some x) (h : webB (rows0 r) x = false) : websE r = 6 := by
  unfold websE websB
  rw [all_not hx h]; rfl
theorem websE_yes {r : RunD} (h : Hid (r.webs.all (webB (rows0 r)) = true)) : websE r = 0 := by
  unfold websE websB
  rw [h.out]; rfl

set_option maxHeartbeats 1000000 in
theorem checkWebs_any (v : Value) (r : RunD) (w : World) (h : RRun w.heap.size w v r) :
    Calls Try.prog 64 #[v] w fun e w' => e = .returned (.int .i64 (websE r)) ∧ Below w.heap.size w w' := by
  obtain ⟨v1, v2, v3, rfl, hw, hr, hs⟩ := h
  obtain ⟨A, c, rfl, hA1, hA⟩ := hw.open_
  clear hr hs
  have c0 := box4 (w := w) (a := .slice A r.webs.length c) (b := v2) (c := v3) (d := .bool r.coll) (t := 111) 0 _ rfl
  have b0 : Below w.heap.size w (w.alloc (.cells #[.slice A r.webs.length c, v2, v3, .bool r.coll] 111)) := (Below.refl _ _).alloc (Nat.le_refl _) _
  have z0 : (w.alloc (.cells #[.slice A r.webs.length c, v2, v3, .bool r.coll] 111)).heap.size = w.heap.size + 1 := by simp
  go_enter Try.func64, Try.ntmps64
  go_wp2
  generalize hw1 : w.alloc (.cells #[.slice A r.webs.length c, v2, v3, .bool r.coll] 111) = w1 at *
  clear hw1
  go_loopw [11] (fun i wr => ∃ k : Nat, k ≤ r.webs.length ∧ i = .int .i64 k ∧ Hid ((r.webs.take k).all (webB (rows0 r)) = true) ∧ Below (w.heap.size + 1) w1 wr) (fun i _ => r.webs.length - (intOf i).toNat)
  case atStart => exact ⟨0, Nat.zero_le _, rfl, rfl, Below.refl _ _⟩
  case round =>
    obtain ⟨k, hk, rfl, ht, hB⟩ := hrel
    have hBw : Below w.heap.size w wr := b0.trans (hB.mono (by omega))
    have c1 : wr.cell? ⟨w.heap.size, 0, none⟩ = some (.slice A r.webs.length c) := (hB.cell (p := ⟨w.heap.size, 0, none⟩) (by simp)).trans c0
    have zr : w.heap.size + 1 ≤ wr.heap.size := by have := hB.size; omega
    by_cases hlt : k < r.webs.length
    · obtain ⟨x, hx⟩ : ∃ x, r.webs[k]? = some x := ⟨_, List.getElem?_eq_getElem hlt⟩
      obtain ⟨y, hy⟩ : ∃ y, r.webs[0]? = some y := ⟨_, List.getElem?_eq_getElem (by omega)⟩
      obtain ⟨g, o, u, rfl, hb, hc1, hc2, hc3, hp⟩ := hA k x hx
      obtain ⟨g2, o2, u2, he2, hb2, hd1, hd2, hd3, -⟩ := hA 0 y hy
      obtain ⟨rfl, rfl⟩ : g2 = g ∧ o2 = o := by simp at he2; omega
      obtain ⟨A5, c5, rfl, hA5, hA6⟩ := hp.open_
      rw [← hBw.cell (p := ⟨g2, o2 + k * 3, none⟩) hb] at hc1
      rw [← hBw.cell (p := ⟨g2, o2 + k * 3 + 1, none⟩) hb] at hc2
      rw [← hBw.cell (p := ⟨g2, o2 + k * 3 + 2, none⟩) hb] at hc3
      rw [← hBw.cell (p := ⟨g2, o2 + 0 * 3 + 1, none⟩) hb] at hd2
      simp only [Nat.zero_mul, Nat.add_zero] at hd2
      have Hr : Hid (rows0 r = y.rows) := by
        show (r.webs.getD 0 default).rows = y.rows
        rw [List.getD_eq_getElem?_getD, hy]; rfl
      have Hx := Lib.hid hx
      clear hx hy he2 hA hd1 hd3 hp hw
      have hz : (0 : Int) < (r.webs.length : Int) := by omega
      have zr2 : w.heap.size < wr.heap.size := by omega
      have zr3 : g2 < wr.heap.size := by omega
      obtain ⟨cols, rows, plates⟩ := x
      obtain ⟨cols0, rows00, plates0⟩ := y
      dsimp only at hc1 hc2 hc3 hd2 Hr hA5 hA6
      have hno : sizeB rows00 ⟨cols, rows, plates⟩ = false → websE r = 6 := fun h => websE_no Hx.out (by rw [Hr.out, webB, h]; rfl)
      have hEnd : ∀ o n, Below w.heap.size w ((wr.alloc o).drewN n) := fun o n => below_drewN (hBw.alloc (by omega) _) _
      by_cases h1 : 1 ≤ cols
      case neg =>
        have Hn := Lib.hid (hno (by simp [sizeB]; omega))
        have d1 : decide (cols < 1) = true := by simp; omega
        clear hno
        go_wp2
        go_quiet (fail)
        go_wp2
        go_ret
        exact ⟨ri Hn.out, hEnd _ _⟩
      by_cases h2 : cols ≤ 4
      case neg =>
        have Hn := Lib.hid (hno (by simp [sizeB]; omega))
        have d1 : decide (cols < 1) = false := by simp; omega
        have d2 : decide (4 < cols) = true := by simp; omega
        clear hno
        go_wp2
        go_quiet (fail)
        go_wp2
        go_ret
        exact ⟨ri Hn.out, hEnd _ _⟩
      by_cases h3 : 1 ≤ rows
      case neg =>
        have Hn := Lib.hid (hno (by simp [sizeB]; omega))
        have d1 : decide (cols < 1) = false := by simp; omega
        have d2 : decide (4 < cols) = false := by simp; omega
        have d3 : decide (rows < 1) = true := by simp; omega
        clear hno
        go_wp2
        go_quiet (fail)
        go_wp2
        go_ret
        exact ⟨ri Hn.out, hEnd _ _⟩
      by_cases h4 : rows ≤ 2
      case neg =>
        have Hn := Lib.hid (hno (by simp [sizeB]; omega))
        have d1 : decide (cols < 1) = false := by simp; omega
        have d2 : decide (4 < cols) = false := by simp; omega
        have d3 : decide (rows < 1) = false := by simp; omega
        have d4 : decide (2 < rows) = true := by simp; omega
        clear hno
        go_wp2
        go_quiet (fail)
        go_wp2
        go_ret
        exact ⟨ri Hn.out, hEnd _ _⟩
      by_cases h5 : rows = rows00
      case neg =>
        have Hn := Lib.hid (hno (by simp [sizeB]; omega))
        have d1 : decide (cols < 1) = false := by simp; omega
        have d2 : decide (4 < cols) = false := by simp; omega
        have d3 : decide (rows < 1) = false := by simp; omega
        have d4 : decide (2 < rows) = false := by simp; omega
        have d5 : (rows != rows00) = true := by simp; omega
        clear hno h5
        go_wp2
        go_quiet (fail)
        go_wp2
        go_ret
        exact ⟨ri Hn.out, hEnd _ _⟩
      subst h5
      clear hno
      have d1 : decide (cols < 1) = false := by simp; omega
      have d2 : decide (4 < cols) = false := by simp; omega
      have d3 : decide (rows < 1) = false := by simp; omega
      have d4 : decide (2 < rows) = false := by simp; omega
      have d5 : (rows != rows) = false := by simp
      have hs : sizeB rows ⟨cols, rows, plates⟩ = true := by simp [sizeB]; omega
      have Hs2 := Lib.hid hs
      clear hs
      have Hp : 2 * rows * cols ≤ 16 ∧ 2 ≤ 2 * rows * cols := by
        obtain rfl | rfl : rows = 1 ∨ rows = 2 := by omega
        · omega
        · omega
      obtain ⟨Hp1, Hp2⟩ := Hp
      by_cases h6 : (plates.length : Int) = 2 * rows * cols
      case neg =>
        have Hn := Lib.hid (websE_no Hx.out (by rw [Hr.out, webB, decide_eq_false h6]; simp))
        have d6 : ((plates.length : Int) != 2 * rows * cols) = true := by simpa using h6
        clear h6
        go_wp2
        go_quiet (fail)
        go_wp2
        go_ret
        exact ⟨ri Hn.out, hEnd _ _⟩
      have H6 := Lib.hid h6
      have d6 : ((plates.length : Int) != 2 * rows * cols) = false := by simpa using h6
      clear h6
      go_wp2
      go_quiet (fail)
      go_wp2
      have hB2 : ∀ o n, Below (w.heap.size + 1) w1 ((wr.alloc o).drewN n) := fun o n => below_drewN (hB.alloc (by omega) _) _
      have hBp := hB2 (Obj.cells #[Value.int IntKind.i64 cols, Value.int IntKind.i64 rows, Value.slice A5 plates.length c5] 87) nq
      clear hB2 hEnd hc1 hc2 hc3 hd2 zr2 zr3 zr c1 hBw hB
      generalize (wr.alloc (Obj.cells #[Value.int IntKind.i64 cols, Value.int IntKind.i64 rows, Value.slice A5 plates.length c5] 87)).drewN nq = w2 at *
      go_loopw [57] (fun i wq => ∃ m : Nat, m ≤ plates.length ∧ i = .int .i64 m ∧ Hid ((plates.take m).all (fun p => isPageB p.page) = true) ∧ Below (w.heap.size + 1) w1 wq) (fun i _ => plates.length - (intOf i).toNat)
      case atStart => exact ⟨0, Nat.zero_le _, rfl, rfl, hBp⟩
      case round =>
        obtain ⟨m, hm, rfl, hq, hBq⟩ := hrel
        have hBw : Below w.heap.size w wr := b0.trans (hBq.mono (by omega))
        have zr : w.heap.size + 1 ≤ wr.heap.size := by have := hBq.size; omega
        by_cases hmt : m < plates.length
        · obtain ⟨x, hx⟩ : ∃ x, plates[m]? = some x := ⟨_, List.getElem?_eq_getElem hmt⟩
          obtain ⟨g, o, rfl, hb3, hc1, hc2⟩ := hA6 m x hx
          have Hx3 := Lib.hid hx
          clear hx hA6
          rw [← hBw.cell (p := ⟨g, o + m * 2, none⟩) hb3] at hc1
          rw [← hBw.cell (p := ⟨g, o + m * 2 + 1, none⟩) hb3] at hc2
          have hEnd : ∀ o, Below w.heap.size w (wr.alloc o) := fun o => hBw.alloc (by omega) _
          obtain ⟨page, up⟩ := x
          dsimp only at hc1 hc2
          cases hpg : isPageB page
          · have Hn := Lib.hid (websE_no Hx.out (by rw [webB, all_not Hx3.out hpg, Bool.and_false]))
            go_wp2_with (go_at_call 72; refine (isPage_any _ _).mono ?_; rintro e w' ⟨rfl, rfl⟩)
            go_ret
            exact ⟨ri Hn.out, hEnd _⟩
          · go_wp2_with (go_at_call 72; refine (isPage_any _ _).mono ?_; rintro e w' ⟨rfl, rfl⟩)
            go_roundw
            case rel => exact ⟨m + 1, by omega, by go_num, all_next hq Hx3.out hpg, hBq.alloc (by omega) _⟩
            case measure => simp [intOf]; omega
        · have Hs := all_end hq (by omega)
          have Hw : webB (rows0 r) ⟨cols, rows, plates⟩ = true := by
            rw [webB, Hr.out, Hs.out, Hs2.out, Bool.and_true, Bool.true_and]
            exact decide_eq_true H6.out
          have HW := Lib.hid Hw
          clear Hw
          go_wp2
          go_roundw
          case rel => exact ⟨k + 1, by omega, by go_num, all_next ht Hx.out HW.out, hBq⟩
          case measure => simp [intOf]; omega
    · have Ht := websE_yes (all_end ht (by omega))
      have HT := Lib.hid Ht
      clear Ht
      go_wp2
      go_ret
      exact ⟨ri HT.out, hBw⟩
end Go.Proofs.Ytdbfhdncjblleaa
namespace Go.Proofs.Ytdbfhdncjblleaa
open Go.RowKit

set_option maxHeartbeats 400000 in
theorem isLen_any (n : Int) (v : Value) (l : List Int) (w : World) (h : RInts w.heap.size w v l) :
    Calls Try.prog 74 #[.int .i64 n, v] w fun e w' => e = .returned (.bool (decide (n = (l.length : Int)))) ∧ w = w' := by
  obtain ⟨A, c, rfl, hA, -⟩ := RInts.open_ h
  by_cases hn : n = (l.length : Int)
  · go_enter Try.func74, Try.ntmps74
    go_wp2
    go_ret
    exact ⟨rb (by simp [hn]), rfl⟩
  · go_enter Try.func74, Try.ntmps74
    go_wp2
    go_ret
    exact ⟨rb (by simp [hn]), rfl⟩

def lensD (m : List (List Int)) : List Int := m.map fun x => (x.length : Int)
theorem lens_at {m : List (List Int)} {k : Nat} {x : List Int} (h : m[k]? = some x) : (lensD m)[k]? = some (x.length : Int) := by
  unfold lensD; rw [List.getElem?_map, h]; rfl
theorem lens_len (m : List (List Int)) : (lensD m).length = m.length := by unfold lensD; rw [List.length_map]
theorem eq_take_next {l m : List Int} {k : Nat} {x : Int} (h : Hid (l.take k = m.take k)) (hl : l[k]? = some x) (hm : m[k]? = some x) : Hid (l.take (k + 1) = m.take (k + 1)) := by
  show l.take (k + 1) = m.take (k + 1)
  rw [List.take_add_one, List.take_add_one, hl, hm, h.out]
theorem ne_at9 {l m : List Int} {k : Nat} {x y : Int} (hl : l[k]? = some x) (hm : m[k]? = some y) (he : ¬ x = y) : ¬ l = m := fun e => he (by rw [e, hm] at hl; exact (Option.some.inj hl).symm)
theorem ne_len9 {l m : List Int} (h : ¬ (l.length : Int) = (m.length : Int)) : ¬ l = m := fun e => h (by rw [e])

set_option maxHeartbeats 1000000 in
theorem equalFunc_any (a b : Value) (l : List Int) (m : List (List Int)) (w : World) (ha : RInts w.heap.size w a l) (hb : RIntss w.heap.size w b m) :
    Calls Try.prog 73 #[a, b, .func (.func 74) #[] #[]] w fun e w' => e = .returned (.bool (decide (l = lensD m))) ∧ w = w' := by
  obtain ⟨A, c, rfl, hA1, hA⟩ := RInts.open_ ha
  obtain ⟨A2, c2, rfl, hA2, hA3⟩ := hb.open_
  have HA := Lib.hid hA
  have HA3 := Lib.hid hA3
  clear hA hA3 ha hb
  by_cases hl : (l.length : Int) = (m.length : Int)
  case neg =>
    have Hn : Hid (¬ l = lensD m) := ne_len9 (by rw [lens_len]; exact hl)
    have hl' : ((l.length : Int) != (m.length : Int)) = true := by simpa using hl
    clear hl
    go_enter Try.func73, Try.ntmps73
    go_wp2
    go_ret
    exact ⟨rb (decide_eq_false Hn.out), rfl⟩
  have hl' : ((l.length : Int) != (m.length : Int)) = false := by simpa using hl
  have Hl := Lib.hid hl
  clear hl
  go_enter Try.func73, Try.ntmps73
  go_wp2
  clear hl'
  go_loop [17] (fun i => ∃ k : Nat, k ≤ l.length ∧ i = .int .i64 k ∧ Hid (l.take k = (lensD m).take k)) (fun i => l.length - (intOf i).toNat)
  case atStart => exact ⟨0, Nat.zero_le _, rfl, rfl⟩
  case round =>
    obtain ⟨k, hk, rfl, ht⟩ := hrel
    by_cases hlt : k < l.length
    · obtain ⟨g, o, y, rfl, hgb, hc1, hy⟩ := HA.out k hlt
      obtain ⟨x, hx⟩ : ∃ x, m[k]? = some x := ⟨_, List.getElem?_eq_getElem (by have := Hl.out; omega)⟩
      obtain ⟨g2, o2, u, rfl, hgb2, hc2, hp⟩ := HA3.out k x hx
      have hy2 : Hid (l[k]? = some y) := by
        show l[k]? = some y
        have := hy.out
        simpa [List.getD_eq_getElem?_getD, List.getElem?_eq_getElem hlt] using this
      have Hx := Lib.hid (lens_at hx)
      have C := Lib.hid (isLen_any y u x w hp)
      have hkm : (k : Int) < (m.length : Int) := by have := Hl.out; omega
      clear hx hp
      by_cases he : y = (x.length : Int)
      · rw [decide_eq_true he] at C
        have Ht := eq_take_next ht hy2.out (by rw [he]; exact Hx.out)
        clear he
        go_wp2_with fail
        refine C.out.mono ?_
        rintro e w' ⟨rfl, rfl⟩
        go_wp2
        go_round
        case rel => exact ⟨k + 1, by omega, by go_num, Ht⟩
        case measure => simp [intOf]; omega
      · rw [decide_eq_false he] at C
        have Hn : Hid (¬ l = lensD m) := ne_at9 hy2.out Hx.out he
        clear he
        go_wp2_with fail
        refine C.out.mono ?_
        rintro e w' ⟨rfl, rfl⟩
        go_wp2
        go_ret
        exact ⟨rb (decide_eq_false Hn.out), rfl⟩
    · have Hn : Hid (l = lensD m) := by
        show l = lensD m
        have h1 := ht.out
        have h2 := Hl.out
        rw [List.take_of_length_le (by omega), List.take_of_length_le (by rw [lens_len]; omega)] at h1
        exact h1
      go_wp2
      go_ret
      exact ⟨rb (decide_eq_true Hn.out), rfl⟩
end Go.Proofs.Ytdbfhdncjblleaa
namespace Go.Proofs.Ytdbfhdncjblleaa
open Go.RowKit

set_option maxHeartbeats 400000 in
theorem plateIndex_any (cols rows web side row col : Int) (u : Value) (w : World) (h1 : 0 ≤ side * rows ∧ side * rows ≤ 1000) (h2 : 0 ≤ side * rows + row ∧ side * rows + row ≤ 1000)
    (h3 : 0 ≤ (side * rows + row) * cols ∧ (side * rows + row) * cols ≤ 1000) (h4 : 0 ≤ (side * rows + row) * cols + col ∧ (side * rows + row) * cols + col ≤ 1000) :
    Calls Try.prog 59 #[.agg #[.int .i64 cols, .int .i64 rows, u], .agg #[.int .i64 web, .int .i64 side, .int .i64 row, .int .i64 col]] w fun e w' => e = .returned (.int .i64 ((side * rows + row) * cols + col)) ∧ Below w.heap.size w w' := by
  have k1 : IntKind.i64.wrap (side * rows) = side * rows := IntWalk.i64_in _ ⟨by omega, by omega⟩
  have k2 : IntKind.i64.wrap (side * rows + row) = side * rows + row := IntWalk.i64_in _ ⟨by omega, by omega⟩
  have k3 : IntKind.i64.wrap ((side * rows + row) * cols) = (side * rows + row) * cols := IntWalk.i64_in _ ⟨by omega, by omega⟩
  have k4 : IntKind.i64.wrap ((side * rows + row) * cols + col) = (side * rows + row) * cols + col := IntWalk.i64_in _ ⟨by omega, by omega⟩
  clear h1 h2 h3 h4
  go_enter Try.func59, Try.ntmps59
  go_wp2
  go_ret
  exact ⟨rfl, ((Below.refl _ _).alloc (Nat.le_refl _) _).alloc (by simp) _⟩
end Go.Proofs.Ytdbfhdncjblleaa
