/-
  A desk in memory; what Read must answer.
-/
import Derived.Test.YtffodgpafiifcaaOc
import Derived.Test.YtffodgpafiifcaaOd
import Derived.Test.YtffodgpafiifcaaKa
namespace Go.Proofs.Ytffodgpafiifcaa
open Go.RowKit

def Qd (d : DeskD) (i : Nat) : List Int := queueD (((d.loops[i]?).map LoopD.dead).getD 0).toNat (histD d.copies i)
theorem Qd_at {d : DeskD} {i : Nat} {l : LoopD} (h : d.loops[i]? = some l) : Qd d i = queueD l.dead.toNat (histD d.copies i) := by unfold Qd; rw [h]; rfl
def DeskD.add (d : DeskD) (c : CopyD) : DeskD := { d with copies := d.copies ++ [c] }
def zeroC : CopyD := ⟨false, 0, [], []⟩
def readWith (d : DeskD) (g : Bool) (s : Int) (errs : List Int) : CopyD := ⟨g, s, errs, movesD d.loops (Qd d) errs⟩
def readBad (d : DeskD) : CopyD := readWith d false 0 (List.replicate d.loops.length lostD)
def readGood (d : DeskD) (s : Int) (found : List Int) : CopyD := readWith d (decide (farD (errsD d.marks found d.loops.length) ≤ d.limit)) s (errsD d.marks found d.loops.length)
def BadFit (d : DeskD) (found : List Int) (ct : Int) : Prop := found.getD 0 0 = lostD ∨ 2 * ct < (d.marks.length : Int)
/-- What Read must answer. -/
def ReadIs (d : DeskD) (seen : List Int) (c : CopyD) (code : Int) (d' : DeskD) : Prop :=
  (d.copies.length = 5000 ∧ c = zeroC ∧ code = 2 ∧ d' = d) ∨
  (d.copies.length ≠ 5000 ∧ ∃ (s ct : Int) (l : List Int) (err : Int), FitIs d.marks d.W seen s ct l err ∧
    ((err ≠ 0 ∧ c = zeroC ∧ code = err ∧ d' = d) ∨ (err = 0 ∧ BadFit d l ct ∧ c = readBad d ∧ code = 4 ∧ d' = d.add c) ∨ (err = 0 ∧ ¬ BadFit d l ct ∧ c = readGood d s l ∧ code = 0 ∧ d' = d.add c)))
theorem ReadIs.one {d : DeskD} {seen : List Int} {c c' : CopyD} {code code' : Int} {d1 d2 : DeskD} (h : ReadIs d seen c code d1) (h' : ReadIs d seen c' code' d2) : c = c' ∧ code = code' ∧ d1 = d2 := by
  rcases h with ⟨h1, rfl, rfl, rfl⟩ | ⟨h1, s, ct, l, err, hf, h2⟩
  · rcases h' with ⟨g1, rfl, rfl, rfl⟩ | ⟨g1, -⟩
    · exact ⟨rfl, rfl, rfl⟩
    · exact absurd h1 g1
  · rcases h' with ⟨g1, -⟩ | ⟨g1, s', ct', l', err', hf', g2⟩
    · exact absurd g1 h1
    · obtain ⟨rfl, rfl, rfl, rfl⟩ := hf.one hf'
      rcases h2 with ⟨a1, rfl, rfl, rfl⟩ | ⟨a1, a2, rfl, rfl, rfl⟩ | ⟨a1, a2, rfl, rfl, rfl⟩ <;> rcases g2 with ⟨b1, rfl, rfl, rfl⟩ | ⟨b1, b2, rfl, rfl, rfl⟩ | ⟨b1, b2, rfl, rfl, rfl⟩ <;>
        first | exact ⟨rfl, rfl, rfl⟩ | exact absurd a1 b1 | exact absurd b1 a1 | exact absurd a2 b2 | exact absurd b2 a2

structure DeskOk (d : DeskD) : Prop where
  allow : AllowOk d.marks d.W
  many : 2 ≤ d.marks.length ∧ d.marks.length ≤ 12
  len : d.loops.length + 1 = d.marks.length
  loops : ∀ l ∈ d.loops, LoopOk l
  limit : 0 ≤ d.limit ∧ d.limit ≤ 1000000
  play : d.copies.length ≤ 5000
  each : ∀ c ∈ d.copies, c.errors.length = d.loops.length ∧ c.moves.length = d.loops.length ∧ ∀ y ∈ c.moves, y ≤ 10000 ∧ -10000 ≤ y
theorem hist_bound {d : DeskD} (h : DeskOk d) (i : Nat) : ∀ y ∈ histD d.copies i, y ≤ 10000 ∧ -10000 ≤ y := fun y hy => by
  obtain ⟨c, hc, rfl⟩ := List.mem_map.1 hy
  exact getD_within (m := 10000) (by omega) (h.each c hc).2.2 i
theorem Qd_ok {d : DeskD} (h : DeskOk d) {i : Nat} {l : LoopD} (hl : d.loops[i]? = some l) : (Qd d i).length ≤ 1000 ∧ ∀ y ∈ Qd d i, y ≤ 10000 ∧ -10000 ≤ y := by
  rw [Qd_at hl]
  have hd := (h.loops l (List.mem_of_getElem? hl)).2.1
  exact ⟨by rw [queueD_len]; omega, queueD_mem (by omega) (hist_bound h i)⟩
theorem Qd_next {d : DeskD} {g : Bool} {s : Int} {errs : List Int} {i : Nat} {l : LoopD} (hl : d.loops[i]? = some l) : ∃ x, Qd d i ++ [moveD l (Qd d i) (errs.getD i 0)] = x :: Qd (d.add (readWith d g s errs)) i := by
  have hl' : (d.add (readWith d g s errs)).loops[i]? = some l := hl
  rw [Qd_at hl']
  have e : histD (d.add (readWith d g s errs)).copies i = histD d.copies i ++ [moveD l (Qd d i) (errs.getD i 0)] := by
    unfold histD DeskD.add readWith
    rw [List.map_append]
    rw [List.map_cons, List.map_nil, List.getD_eq_getElem?_getD]
    show _ ++ [((movesD d.loops (Qd d) errs)[i]?).getD 0] = _
    rw [movesD_at hl]
    rfl
  rw [e]
  have := queueD_next l.dead.toNat (histD d.copies i) (moveD l (Qd d i) (errs.getD i 0))
  rw [← Qd_at hl] at this
  exact this
theorem movesD_mem {d : DeskD} (h : DeskOk d) {errs : List Int} : ∀ y ∈ movesD d.loops (Qd d) errs, y ≤ 10000 ∧ -10000 ≤ y := fun y hy => by
  obtain ⟨x, hx, rfl⟩ := List.mem_map.1 hy
  obtain ⟨i, hi, e⟩ := List.getElem_of_mem hx
  have hl : x.1 ∈ d.loops := by
    have := (List.mem_zipIdx hx).2.2
    rw [this]
    exact List.getElem_mem _
  obtain ⟨-, -, -, -, -, -, h1, -, h2⟩ := h.loops x.1 hl
  exact moveD_le ⟨h1, h2⟩ _ _
theorem DeskOk.add {d : DeskD} (h : DeskOk d) (hp : d.copies.length < 5000) {g : Bool} {s : Int} {errs : List Int} (he : errs.length = d.loops.length) : DeskOk (d.add (readWith d g s errs)) := by
  refine ⟨h.allow, h.many, h.len, h.loops, h.limit, ?_, fun c hc => ?_⟩
  · unfold DeskD.add
    rw [List.length_append]
    simp only [List.length_singleton]
    omega
  · rcases List.mem_append.1 hc with hc | hc
    · exact h.each c hc
    · rw [List.mem_singleton] at hc
      subst hc
      exact ⟨he, movesD_len _ _ _, movesD_mem h⟩

/-- The cells of copies, with their rows. -/
def rowsC (cs : List CopyD) (es : List (Value × Value)) : List Value := (cs.zip es).flatMap fun x => [.bool x.1.good, .int .i64 x.1.shift, x.2.1, x.2.2]
theorem rowsC_snoc {cs : List CopyD} {es : List (Value × Value)} (h : es.length = cs.length) (c : CopyD) (e : Value × Value) : rowsC (cs ++ [c]) (es ++ [e]) = rowsC cs es ++ [.bool c.good, .int .i64 c.shift, e.1, e.2] := by
  unfold rowsC
  rw [List.zip_append h.symm, List.flatMap_append]
  simp
/-- The blocks of rows that nothing writes again. -/
def RowF (mv : Value) (es : List (Value × Value)) (k : Nat) : Prop := mv.ownBlock = some k ∨ ∃ e ∈ es, e.1.ownBlock = some k ∨ e.2.ownBlock = some k
def deskCells (D : Nat) (d : DeskD) (mv cv pv : Value) : Array Value := #[mv, .int .i64 d.W, .pointer (some ⟨D, 0, none⟩), cv, .int .i64 d.limit, pv]
structure DeskAt (base : Nat) (w : World) (D : Nat) (d : DeskD) (mv cv pv : Value) (Cs : List Nat) (vs : List Value) (es : List (Value × Value)) : Prop where
  low : base ≤ D
  desk : Blk w D 90 (deskCells D d mv cv pv)
  marks : OInts base w mv d.marks
  ptrs : w.ownsRow base 108 1 cv d.loops.length (Cs.map fun C => .pointer (some ⟨C, 0, none⟩))
  ctls : CtlsAt base w d.loops (Qd d) Cs vs
  rows : w.ownsRow base 72 4 pv d.copies.length (rowsC d.copies es)
  len : es.length = d.copies.length
  each : ∀ (i : Nat) (c : CopyD) (e : Value × Value), d.copies[i]? = some c → es[i]? = some e → OInts base w e.1 c.errors ∧ OInts base w e.2 c.moves
  apart : ∀ k, RowF mv es k → ¬ CtlF Cs vs k
/-- All blocks of a desk. -/
def Foot (D : Nat) (mv cv pv : Value) (Cs : List Nat) (vs : List Value) (es : List (Value × Value)) (k : Nat) : Prop := k = D ∨ cv.ownBlock = some k ∨ pv.ownBlock = some k ∨ RowF mv es k ∨ CtlF Cs vs k
section
variable {base D : Nat} {w w' : World} {d : DeskD} {mv cv pv : Value} {Cs : List Nat} {vs : List Value} {es : List (Value × Value)} {S : Nat → Prop}
theorem ownsRow_keep {b k n : Nat} {e : TypeId} {v : Value} {xs : List Value} (h : w.ownsRow b e k v n xs) (hk : KeptBut S w w') (hs : ∀ j, v.ownBlock = some j → ¬ S j) : w'.ownsRow b e k v n xs := ownsRow_keptBut h hk fun g _ hg _ => hs g hg
theorem DeskAt.keep (h : DeskAt base w D d mv cv pv Cs vs es) (hk : KeptBut S w w') (hS : ∀ k, Foot D mv cv pv Cs vs es k → ¬ S k) : DeskAt base w' D d mv cv pv Cs vs es :=
  ⟨h.low, hk.blk h.desk (hS D (.inl rfl)), ownsRow_keep h.marks hk fun j hj => hS j (.inr (.inr (.inr (.inl (.inl hj))))), ownsRow_keep h.ptrs hk fun j hj => hS j (.inr (.inl hj)),
    h.ctls.keep hk fun j hj => hS j (.inr (.inr (.inr (.inr hj)))), ownsRow_keep h.rows hk fun j hj => hS j (.inr (.inr (.inl hj))), h.len,
    fun i c e hc he => ⟨ownsRow_keep (h.each i c e hc he).1 hk fun j hj => hS j (.inr (.inr (.inr (.inl (.inr ⟨e, List.mem_of_getElem? he, .inl hj⟩))))), ownsRow_keep (h.each i c e hc he).2 hk fun j hj => hS j (.inr (.inr (.inr (.inl (.inr ⟨e, List.mem_of_getElem? he, .inr hj⟩)))))⟩, h.apart⟩
theorem DeskAt.below (h : DeskAt base w D d mv cv pv Cs vs es) (hb : Below w.heap.size w w') : DeskAt base w' D d mv cv pv Cs vs es := h.keep (S := fun _ => False) (KeptBut.of_below hb) fun _ _ => id
theorem DeskAt.each_at (h : DeskAt base w D d mv cv pv Cs vs es) {e : Value × Value} (he : e ∈ es) : ∃ c, c ∈ d.copies ∧ OInts base w e.1 c.errors ∧ OInts base w e.2 c.moves := by
  obtain ⟨i, hi, rfl⟩ := List.getElem_of_mem he
  have hi' : i < d.copies.length := by rw [← h.len]; exact hi
  exact ⟨d.copies[i], List.getElem_mem _, h.each i _ _ (List.getElem?_eq_getElem hi') (List.getElem?_eq_getElem hi)⟩
theorem DeskAt.foot_lt (h : DeskAt base w D d mv cv pv Cs vs es) {k : Nat} (hk : Foot D mv cv pv Cs vs es k) : base ≤ k ∧ k < w.heap.size := by
  rcases hk with rfl | hk | hk | (hk | ⟨e, he, hk⟩) | hk
  · exact ⟨h.low, h.desk.lt⟩
  · exact h.ptrs.lt k hk
  · exact h.rows.lt k hk
  · exact h.marks.lt k hk
  · obtain ⟨c, -, h1, h2⟩ := h.each_at he
    rcases hk with hk | hk
    · exact h1.lt k hk
    · exact h2.lt k hk
  · exact h.ctls.lt hk
end
end Go.Proofs.Ytffodgpafiifcaa
