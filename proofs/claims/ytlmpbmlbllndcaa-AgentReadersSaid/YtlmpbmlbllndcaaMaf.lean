/-
  Plain: what methods say; scores; accounts; histories made of numbers.
  What stays of memory when some blocks are written.
  Bytes that read as a list; regions and loops of a function's text.
-/
import Derived.Test.YtlmpbmlbllndcaaMae
import Derived.Test.YtlmpbmlbllndcaaMaa
namespace Go.Proofs.Ytlmpbmlbllndcaa

structure MethD where
  kind : Int
  days : Int
deriving DecidableEq
def MethD.okB (m : MethD) : Bool := if m.kind = 1 then decide (m.days = 1) else decide (1 ≤ m.kind ∧ m.kind ≤ 4) && decide (1 ≤ m.days ∧ m.days ≤ 60)
def MethD.apart (m : MethD) : Int := if m.kind = 3 then 7 else 1
theorem MethD.apart_bd (m : MethD) : 1 ≤ m.apart ∧ m.apart ≤ 7 := by unfold MethD.apart; split <;> omega
theorem MethD.ok_bd {m : MethD} (h : m.okB = true) : (1 ≤ m.kind ∧ m.kind ≤ 4) ∧ (1 ≤ m.days ∧ m.days ≤ 60) ∧ (m.kind = 1 → m.days = 1) := by
  unfold MethD.okB at h
  by_cases hk : m.kind = 1
  · rw [if_pos hk] at h
    have := of_decide_eq_true h
    omega
  · rw [if_neg hk, Bool.and_eq_true, decide_eq_true_eq, decide_eq_true_eq] at h
    omega
def soldAt (h : List DayD) (i : Int) : Int := ((h[i.toNat]?).map DayD.sold).getD 0
/-- What was sold on the first k days at which a method looks. -/
def lookTo (m : MethD) (h : List DayD) (day : Int) (k : Nat) : List Int := (List.range k).map fun i : Nat => soldAt h (day - ((i : Int) + 1) * m.apart)
def lookL (m : MethD) (h : List DayD) (day : Int) : List Int := lookTo m h day m.days.toNat
theorem lookTo_len (m : MethD) (h : List DayD) (day : Int) (k : Nat) : (lookTo m h day k).length = k := by simp [lookTo]
theorem lookTo_next (m : MethD) (h : List DayD) (day : Int) (k : Nat) : lookTo m h day (k + 1) = lookTo m h day k ++ [soldAt h (day - ((k : Int) + 1) * m.apart)] := by
  unfold lookTo
  rw [List.range_succ, List.map_append]
  rfl
def maxL (l : List Int) : Int := l.foldl max 0
def meanL (l : List Int) : Int := (sumI l + l.length - 1) / l.length
/-- Whether a method says something of a day. -/
def MethD.says (m : MethD) (day : Int) : Bool := !decide (day < m.days * m.apart)
/-- What a method says of a day. -/
def MethD.said (m : MethD) (h : List DayD) (day : Int) : Int := if m.kind = 4 then maxL (lookL m h day) else meanL (lookL m h day)
theorem sumI_snoc (l : List Int) (x : Int) : sumI (l ++ [x]) = sumI l + x := by
  induction l with
  | nil => simp [sumI]
  | cons y l ih => rw [List.cons_append, sumI_cons, sumI_cons, ih]; omega
theorem maxL_snoc (l : List Int) (x : Int) : maxL (l ++ [x]) = max (maxL l) x := by simp [maxL, List.foldl_append]
theorem sumI_bd {l : List Int} {B : Int} (h : ∀ x ∈ l, 0 ≤ x ∧ x ≤ B) : 0 ≤ sumI l ∧ sumI l ≤ B * l.length := by
  induction l with
  | nil => simp [sumI]
  | cons y l ih =>
    have h1 := ih fun x hx => h x (List.mem_cons_of_mem _ hx)
    have h2 := h y List.mem_cons_self
    rw [sumI_cons, List.length_cons]
    push_cast
    rw [Int.mul_add]
    omega
theorem soldAt_bd {h : List DayD} (hl : ∀ d ∈ h, d.ok) (i : Int) : 0 ≤ soldAt h i ∧ soldAt h i ≤ 10000 := by
  unfold soldAt
  cases e : h[i.toNat]? with
  | none => simp
  | some d =>
    obtain ⟨h1, h2, h3, h4⟩ := hl d (List.mem_of_getElem? e)
    simp only [Option.map_some, Option.getD_some, DayD.sold]
    omega
theorem lookTo_bd {h : List DayD} (hl : ∀ d ∈ h, d.ok) (m : MethD) (day : Int) (k : Nat) : ∀ x ∈ lookTo m h day k, 0 ≤ x ∧ x ≤ 10000 := fun x hx => by
  obtain ⟨i, -, rfl⟩ := List.mem_map.1 hx
  exact soldAt_bd hl _
theorem maxL_bd {l : List Int} {B : Int} (hB : 0 ≤ B) (h : ∀ x ∈ l, 0 ≤ x ∧ x ≤ B) : 0 ≤ maxL l ∧ maxL l ≤ B := by
  unfold maxL
  suffices H : ∀ (l : List Int) (a : Int), 0 ≤ a → a ≤ B → (∀ x ∈ l, 0 ≤ x ∧ x ≤ B) → 0 ≤ l.foldl max a ∧ l.foldl max a ≤ B from H l 0 (Int.le_refl _) hB h
  intro l
  induction l with
  | nil => intro a h1 h2 _; exact ⟨h1, h2⟩
  | cons y l ih =>
    intro a h1 h2 h3
    have := h3 y List.mem_cons_self
    exact ih (max a y) (by omega) (by omega) fun x hx => h3 x (List.mem_cons_of_mem _ hx)
theorem said_bd {m : MethD} {h : List DayD} (hm : m.okB = true) (hl : ∀ d ∈ h, d.ok) (day : Int) : 0 ≤ m.said h day ∧ m.said h day ≤ 10000 := by
  obtain ⟨-, h2, -⟩ := m.ok_bd hm
  have hb := lookTo_bd hl m day m.days.toNat
  unfold MethD.said lookL
  split
  · exact maxL_bd (by omega) hb
  · have h3 := sumI_bd hb
    unfold meanL
    rw [lookTo_len] at h3 ⊢
    have h4 : ((m.days.toNat : Nat) : Int) = m.days := by omega
    rw [h4] at h3 ⊢
    constructor
    · exact Int.ediv_nonneg (by omega) (by omega)
    · have : (sumI (lookTo m h day m.days.toNat) + m.days - 1) / m.days < 10001 := Int.ediv_lt_of_lt_mul (by omega) (by omega)
      omega
/-- What was supplied, came back in time, and late. -/
def supTo (h : List DayD) : Int := sumI (h.map DayD.sup)
def retTo (h : List DayD) : Int := sumI (h.map DayD.ret)
/-- A day made of two numbers. -/
def dayOf (x y : Int) : DayD := ⟨x % 60, if 0 < y % 3 then y % (x % 60 + 1) else 0⟩
def histTo (l : List Int) (k : Nat) : List DayD := (List.range k).map fun i => dayOf (l.getD (2 * i) 0) (l.getD (2 * i + 1) 0)
def nDays (l : List Int) : Nat := min 60 (l.length / 2)
def histD (l : List Int) : List DayD := histTo l (nDays l)
theorem histTo_len (l : List Int) (k : Nat) : (histTo l k).length = k := by simp [histTo]
theorem histTo_next (l : List Int) (k : Nat) : histTo l (k + 1) = histTo l k ++ [dayOf (l.getD (2 * k) 0) (l.getD (2 * k + 1) 0)] := by
  unfold histTo
  rw [List.range_succ, List.map_append]
  rfl
theorem day_ok (x y : Int) : (dayOf x y).ok ∧ (dayOf x y).sup ≤ 59 := by
  have h1 : 0 ≤ y % (x % 60 + 1) := Int.emod_nonneg _ (by omega)
  have h2 : y % (x % 60 + 1) < x % 60 + 1 := Int.emod_lt_of_pos _ (by omega)
  unfold DayD.ok dayOf
  simp only
  split <;> omega
theorem hist_ok (l : List Int) (k : Nat) : ∀ d ∈ histTo l k, d.ok ∧ d.sup ≤ 59 := fun d hd => by
  obtain ⟨i, -, rfl⟩ := List.mem_map.1 hd
  exact day_ok _ _
end Go.Proofs.Ytlmpbmlbllndcaa

namespace Go.Proofs.Ytlmpbmlbllndcaa
open Go.RowKit

/-- All blocks that lay there lie as they lay, but those of S. -/
structure KeptBut (S : Nat → Prop) (w w' : World) : Prop where
  os : w'.os = w.os
  tape : w'.tape = w.tape
  output : w'.output = w.output
  size : w.heap.size ≤ w'.heap.size
  block : ∀ k, k < w.heap.size → ¬ S k → w'.heap[k]? = w.heap[k]?
section
variable {S T : Nat → Prop} {w w' w'' : World}
theorem KeptBut.refl (S : Nat → Prop) (w : World) : KeptBut S w w := ⟨rfl, rfl, rfl, Nat.le_refl _, fun _ _ _ => rfl⟩
theorem KeptBut.below (h : KeptBut S w w') {B : Nat} (hS : ∀ k, S k → B ≤ k) (hB : B ≤ w.heap.size) : Below B w w' := ⟨h.os, h.tape, h.output, h.size, fun k hk => h.block k (by omega) fun hs => by have := hS k hs; omega⟩
theorem KeptBut.grown {row : Option Nat} (h : w.grownBy w' row) (hS : ∀ k, some k = row → S k) : KeptBut S w w' := ⟨h.os, h.tape, h.output, h.size, fun k hk hs => h.block k hk fun e => hs (hS k e)⟩
theorem KeptBut.of_below (h : Below w.heap.size w w') : KeptBut S w w' := ⟨h.os, h.tape, h.output, h.size, fun k hk _ => h.block k hk⟩
theorem KeptBut.setCell {p : Addr} (h : S p.block) (u : Value) : KeptBut S w (w.setCell p u) := ⟨rfl, rfl, rfl, by simp [World.setCell], fun k _ hs => Below.heap_setCell _ _ _ _ fun e => hs (e ▸ h)⟩
theorem KeptBut.trans (h : KeptBut S w w') (k : KeptBut T w' w'') (hT : ∀ i, i < w.heap.size → T i → S i) : KeptBut S w w'' :=
  ⟨k.os.trans h.os, k.tape.trans h.tape, k.output.trans h.output, Nat.le_trans h.size k.size, fun i hi hs => (k.block i (Nat.lt_of_lt_of_le hi h.size) fun ht => hs (hT i hi ht)).trans (h.block i hi hs)⟩
theorem KeptBut.mono (h : KeptBut S w w') (hT : ∀ i, i < w.heap.size → S i → T i) : KeptBut T w w' := ⟨h.os, h.tape, h.output, h.size, fun k hk hs => h.block k hk fun e => hs (hT k hk e)⟩
theorem KeptBut.blk (h : KeptBut S w w') {b : Nat} {t : TypeId} {cs : Array Value} (hB : Blk w b t cs) (hs : ¬ S b) : Blk w' b t cs := (h.block b hB.lt hs).trans hB
theorem KeptBut.cell (h : KeptBut S w w') {p : Addr} (hp : p.block < w.heap.size) (hs : ¬ S p.block) : w'.cell? p = w.cell? p := World.cell?_of_block (h.block p.block hp hs)
end
theorem ownsRow_keptBut {S : Nat → Prop} {w w' : World} {base k n : Nat} {e : TypeId} {v : Value} {xs : List Value} (h : w.ownsRow base e k v n xs) (hk : KeptBut S w w') (hS : ∀ g cs, v.ownBlock = some g → Blk w g e cs → ¬ S g) : w'.ownsRow base e k v n xs := by
  refine ⟨h.1, ?_⟩
  rcases h.2 with h2 | ⟨g, cap, cur, rfl, hb, hg, r⟩
  · exact .inl h2
  · exact .inr ⟨g, cap, cur, rfl, hb, hk.blk hg (hS g cur rfl hg), r⟩
theorem Blk.ne {w : World} {a b : Nat} {s t : TypeId} {cs ds : Array Value} (h : Blk w a s cs) (k : Blk w b t ds) (hne : s ≠ t) : a ≠ b := fun e => by
  subst e
  have := h.symm.trans k
  simp at this
  exact hne this.2
end Go.Proofs.Ytlmpbmlbllndcaa

namespace Go.Proofs.Ytlmpbmlbllndcaa
open Go.RowKit

def Bytes (l : List Int) : Prop := ∀ x ∈ l, 0 ≤ x ∧ x ≤ 255
def RBytes (B : Nat) (w : World) (v : Value) (l : List Int) : Prop := Rd B w 1 v l.length (l.map (Value.int .u8))
theorem RBytes.keep {B : Nat} {w w' : World} {v : Value} {l : List Int} (h : RBytes B w v l) (hk : ∀ p : Addr, p.block < B → w'.cell? p = w.cell? p) : RBytes B w' v l := Rd.keep h hk
theorem RBytes.open_ {B : Nat} {w : World} {v : Value} {l : List Int} (h : RBytes B w v l) : ∃ A c, v = .slice A l.length c ∧ l.length ≤ 9223372036854775807 ∧
    ∀ k, k < l.length → ∃ g o, A = some ⟨g, o, none⟩ ∧ g < B ∧ w.cell? ⟨g, o + k, none⟩ = some (.int .u8 (l.getD k 0)) := by
  obtain ⟨A, c, rfl, -, hlm, hr⟩ := h
  refine ⟨A, c, rfl, by simpa [maxLen] using hlm, fun k hk => ?_⟩
  obtain ⟨g, o, hA, hb, hc⟩ := hr (by omega)
  refine ⟨g, o, hA, hb, hc k _ ?_⟩
  rw [List.getElem?_map, List.getElem?_eq_getElem hk, List.getD_eq_getElem?_getD, List.getElem?_eq_getElem hk]
  rfl
def firstRegion : Code → Option Nat
  | .region i _ _ => some i
  | .seq a _ => firstRegion a
  | .cond _ a _ => firstRegion a
  | .loop c => firstRegion c
  | .block _ c => firstRegion c
  | .scope c => firstRegion c
  | _ => none
def loopAt (n : Nat) : Code → Option Code
  | .seq a b => match loopAt n a with
    | some c => some c
    | none => loopAt n b
  | .cond _ a b => match loopAt n a with
    | some c => some c
    | none => loopAt n b
  | .loop c => if firstRegion c = some n then some c else loopAt n c
  | .block _ c => loopAt n c
  | .scope c => loopAt n c
  | _ => none
def regionAt (n : Nat) : Code → Option Code
  | .region i ops d => if i = n then some (.region i ops d) else none
  | .seq a b => match regionAt n a with
    | some c => some c
    | none => regionAt n b
  | .cond _ a b => match regionAt n a with
    | some c => some c
    | none => regionAt n b
  | .loop c => regionAt n c
  | .block _ c => regionAt n c
  | .scope c => regionAt n c
  | .rangeFunc _ _ a c => match regionAt n a with
    | some c => some c
    | none => regionAt n c
  | _ => none
theorem sbelow_al {A W : World} (h : Below A.heap.size A W) (o : Obj) : Below A.heap.size A (W.alloc o) := h.alloc h.size o
theorem ownsRow_own {w : World} {base k n g : Nat} {e : TypeId} {v : Value} {xs : List Value} (h : w.ownsRow base e k v n xs) (hg : v.ownBlock = some g) : base ≤ g ∧ ∃ cs, Blk w g e cs := by
  rcases h.2 with h2 | ⟨g', cap, cur, rfl, hb, hg', -⟩
  · rw [h2.1] at hg; cases hg
  · cases hg
    exact ⟨hb, _, hg'⟩
end Go.Proofs.Ytlmpbmlbllndcaa
