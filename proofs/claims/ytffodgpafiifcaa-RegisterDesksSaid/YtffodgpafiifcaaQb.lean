/-
  What the reference's Read reads and makes; appending a row of anything.
-/
import Derived.Test.YtffodgpafiifcaaQa
import Derived.Test.YtffodgpafiifcaaIe
import Derived.Test.YtffodgpafiifcaaJc
import Derived.Test.YtffodgpafiifcaaJg
namespace Go.Proofs.Ytffodgpafiifcaa
open Go.RowKit

theorem run_append_rows (t ty e : TypeId) (base size bytes : Nat) (i : TypeInfo) (z : Value) (ht : Try.prog.underlying t = some (.slice e)) (hi : Try.prog.info? e = some i) (hz : i.zero = some z)
    (hsize : i.size = size) (hby : i.bytes = bytes) (hzs : z.cells.size = size) (hsz : 0 < size) (hbb : bytes ≤ 100) (w : World) (v y : Value) (n m : Nat) (xs ys : List Value) (B : Nat) (hown : w.ownsRow base e size v n xs) (hy : Rd B w size y m ys) (h1 : ∀ u ∈ ys, u.oneCell' = true) (hl : n + m ≤ 1000000) (hbase : base ≤ w.heap.size) :
    ∃ v' w', (Builtin.append_ #[t, t] ty #[v, y]).run Try.prog w = .ok v' w' ∧ w'.ownsRow base e size v' (n + m) (xs ++ ys) ∧ w.grownBy w' v.ownBlock := by
  by_cases h0 : m = 0
  · subst h0
    obtain ⟨A2, c2, rfl, hly, -, -⟩ := hy
    have hys : ys = [] := List.length_eq_zero_iff.1 (by omega)
    subst hys
    have hform : ∃ A c, v = .slice A n c ∧ n ≤ c := by
      rcases hown.2 with ⟨rfl, h0⟩ | ⟨g, cap, cur, rfl, _, _, hc, _⟩
      · exact ⟨none, 0, by rw [h0], by omega⟩
      · exact ⟨_, _, rfl, hc⟩
    obtain ⟨A, c, rfl, hc⟩ := hform
    have hsrc : Src Try.prog i.size t (.slice A2 0 c2) 0 [] w := by
      cases A2 with
      | none => exact Src.ofNil w ht c2
      | some a => exact Src.ofSlice w ht a 0 c2 [] (by simp) (fun j u hu => by simp at hu) (by simp)
    exact ⟨_, w, run_append_nothing w t t ty _ i ht hi A n c hc _ hsrc, by simpa using hown, World.grownBy.refl w _⟩
  · have hpos : 0 < m := by omega
    obtain ⟨A2, c2, rfl, hly, -, hr⟩ := hy
    obtain ⟨g, o, rfl, -, hc⟩ := hr hpos
    obtain ⟨g', cap, w', hrun, h2, h3, -, -⟩ := run_append_lies (P := Try.prog) w t ty base e i z size bytes ht hi hz hsize hby hzs hsz v n xs hown ⟨g, o, none⟩ m c2 ys hly
      (fun j u hu => by
        have h1 := hc j u hu
        have hadd : (⟨g, o, none⟩ : Addr).add j = ⟨g, o + j, none⟩ := by unfold Addr.add; split <;> simp_all
        rw [hadd]; exact h1) h1 hpos (by simp only [maxLen]; omega) (by have : (n + m) * bytes ≤ 1000000 * 100 := Nat.mul_le_mul hl hbb; omega) hbase _ rfl
    exact ⟨_, w', hrun, h2, h3⟩
theorem wpList_append_rows {w : World} {ops : Array Oper} {rest : List Oper} {o : Oper} {a : Act} {Q : Exit → Act → World → Prop} (hgd : o.guard = none) (s x : Operand) (t e : TypeId)
    (ho : o.op = .call { callee := .builtin .append, args := #[s, x], argTypes := #[t, t] })
    (base size bytes : Nat) (i : TypeInfo) (z : Value) (ht : Try.prog.underlying t = some (.slice e)) (hi : Try.prog.info? e = some i) (hz : i.zero = some z)
    (hsize : i.size = size) (hby : i.bytes = bytes) (hzs : z.cells.size = size) (hsz : 0 < size) (hbb : bytes ≤ 100) (v y : Value) (xs ys : List Value) (n m k B : Nat) (hs : a.eval s = v) (hx : a.eval x = y) (hown : w.ownsRow base e size v n xs) (hy : Rd B w size y m ys) (h1 : ∀ u ∈ ys, u.oneCell' = true) (hk : n + m = k) (hl : k ≤ 1000000) (hbase : base ≤ w.heap.size)
    (h : ∀ A c w', w'.ownsRow base e size (.slice A k c) k (xs ++ ys) → w.grownBy w' v.ownBlock → wpList Try.prog ops Q rest (a.put o.dst (.slice A k c)) w') : wpList Try.prog ops Q (o :: rest) a w := by
  subst hk
  obtain ⟨v', w', hr, h2, h3⟩ := run_append_rows t o.type e base size bytes i z ht hi hz hsize hby hzs hsz hbb w v y n m xs ys B hown hy h1 hl hbase
  obtain ⟨A, c, rfl⟩ := ownsRow_form h2
  refine wpList_plain hgd fun K' hK' => ?_
  unfold Oper.wp execOp
  simp only [ho, resolve, invoke, builtin, Sem.run_bind, Sem.run_pure, Result.andThen_ok, List.map_toArray, List.map_cons, List.map_nil, hs, hx, hr]
  exact hK' _ _ (h A c w' h2 h3)

/-- A desk of the reference, as it reads. -/
structure RDesk (B : Nat) (w : World) (mp ml pc : Value) (d : DeskD) (es : List (Value × Value)) : Prop where
  marks : RInts B w mp d.marks
  loops : RLoops B w ml d.loops
  rows : Rd B w 4 pc d.copies.length (rowsC d.copies es)
  len : es.length = d.copies.length
  each : ∀ (i : Nat) (c : CopyD) (e : Value × Value), d.copies[i]? = some c → es[i]? = some e → RInts B w e.1 c.errors ∧ RInts B w e.2 c.moves
section
variable {B B' : Nat} {w w' : World} {mp ml pc : Value} {d : DeskD} {es : List (Value × Value)}
theorem RDesk.below (h : RDesk B w mp ml pc d es) (hb : Below B w w') : RDesk B w' mp ml pc d es :=
  ⟨h.marks.below hb, Rd.below h.loops hb, h.rows.below hb, h.len, fun i c e hc he => ⟨(h.each i c e hc he).1.below hb, (h.each i c e hc he).2.below hb⟩⟩
theorem RDesk.more (h : RDesk B w mp ml pc d es) (hB : B ≤ B') : RDesk B' w mp ml pc d es :=
  ⟨h.marks.more hB, Rd.more h.loops hB, h.rows.more hB, h.len, fun i c e hc he => ⟨(h.each i c e hc he).1.more hB, (h.each i c e hc he).2.more hB⟩⟩
theorem RDesk.later (h : RDesk w.heap.size w mp ml pc d es) (hb : Below w.heap.size w w') : RDesk w'.heap.size w' mp ml pc d es := (h.below hb).more hb.size
theorem rd_form {k n : Nat} {v : Value} {xs : List Value} (h : Rd B w k v n xs) : ∃ A c, v = .slice A n c := by obtain ⟨A, c, e, -⟩ := h; exact ⟨A, c, e⟩
/-- Copy k of a desk. -/
theorem RDesk.at {A : Option Addr} {n cap : Nat} (h : RDesk B w mp ml (.slice A n cap) d es) {k : Nat} {c : CopyD} (hc : d.copies[k]? = some c) :
    ∃ g o ve vm, A = some ⟨g, o, none⟩ ∧ g < B ∧ w.cell? ⟨g, o + k * 4, none⟩ = some (.bool c.good) ∧ w.cell? ⟨g, o + k * 4 + 1, none⟩ = some (.int .i64 c.shift) ∧ w.cell? ⟨g, o + k * 4 + 2, none⟩ = some ve ∧ w.cell? ⟨g, o + k * 4 + 3, none⟩ = some vm ∧
      RInts B w ve c.errors ∧ RInts B w vm c.moves := by
  have hk := (List.getElem?_eq_some_iff.1 hc).1
  have hk2 : k < es.length := by rw [h.len]; exact hk
  have he : es[k]? = some es[k] := List.getElem?_eq_getElem hk2
  obtain ⟨h1, h2⟩ := h.each k c _ hc he
  obtain ⟨A', c', e', -, hlm, hr⟩ := h.rows
  cases e'
  obtain ⟨g, o, hA, hb, hcl⟩ := hr (by omega)
  have hz : (d.copies.zip es)[k]? = some (c, es[k]) := by rw [List.getElem?_zip_eq_some]; exact ⟨hc, he⟩
  have hf := fun j (hj : j < 4) => flat_at (fun x : CopyD × (Value × Value) => [Value.bool x.1.good, Value.int .i64 x.1.shift, x.2.1, x.2.2]) 4 (fun _ => rfl) (d.copies.zip es) k j _ hz hj
  refine ⟨g, o, es[k].1, es[k].2, hA, hb, ?_, ?_, ?_, ?_, h1, h2⟩
  · exact hcl (k * 4) _ (by have := hf 0 (by omega); simpa [rowsC] using this)
  · have := hcl (k * 4 + 1) (.int .i64 c.shift) (by have := hf 1 (by omega); simpa [rowsC] using this)
    rwa [← Nat.add_assoc] at this
  · have := hcl (k * 4 + 2) es[k].1 (by have := hf 2 (by omega); simpa [rowsC] using this)
    rwa [← Nat.add_assoc] at this
  · have := hcl (k * 4 + 3) es[k].2 (by have := hf 3 (by omega); simpa [rowsC] using this)
    rwa [← Nat.add_assoc] at this
theorem RDesk.one (h : RDesk B w mp ml pc d es) : ∀ u ∈ rowsC d.copies es, u.oneCell' = true := fun u hu => by
  obtain ⟨x, hx, hux⟩ := List.mem_flatMap.1 hu
  obtain ⟨i, hi, e⟩ := List.getElem_of_mem hx
  rw [List.length_zip] at hi
  have h1 : d.copies[i]? = some d.copies[i] := List.getElem?_eq_getElem (by omega)
  have h2 : es[i]? = some es[i] := List.getElem?_eq_getElem (by omega)
  obtain ⟨a1, a2⟩ := h.each i _ _ h1 h2
  rw [List.getElem_zip] at e
  subst e
  obtain ⟨A, c, q1⟩ := rd_form a1
  obtain ⟨A', c', q2⟩ := rd_form a2
  simp only [List.mem_cons, List.not_mem_nil, or_false] at hux
  rcases hux with rfl | rfl | rfl | rfl
  · rfl
  · rfl
  · rw [q1]; rfl
  · rw [q2]; rfl
end
/-- An answer of the reference's Read. -/
def RefReadRet (mp ml pc : Value) (d : DeskD) (es : List (Value × Value)) (seen : List Int) (w : World) (e : Ending) (w' : World) : Prop :=
  ∃ (c : CopyD) (code : Int) (d' : DeskD) (pc' ue um : Value), e = .returned (.tuple #[.agg #[mp, ml, .int .i64 d.W, .int .i64 d.limit, pc'], .agg #[.bool c.good, .int .i64 c.shift, ue, um], .int .i64 code]) ∧ ReadIs d seen c code d' ∧
    ((d' = d ∧ pc' = pc) ∨ (d' = d.add c ∧ w'.ownsRow w.heap.size 75 4 pc' (d.copies.length + 1) (rowsC (d.copies ++ [c]) (es ++ [(ue, um)])))) ∧
    OInts w.heap.size w' ue c.errors ∧ OInts w.heap.size w' um c.moves ∧ Below w.heap.size w w'

/-- The answer is stored. -/
theorem kb2_set {w X : World} {b c k j : Nat} {u : Value} (h : KeptBut (fun k => k = b ∨ k = c) w X) (hk : k = b ∨ k = c) : KeptBut (fun k => k = b ∨ k = c) w (X.setCell ⟨k, j, none⟩ u) := h.trans (KeptBut.setCell (S := fun k => k = b ∨ k = c) (p := ⟨k, j, none⟩) hk u) fun _ _ h => h
def Sto (b1 b2 : Nat) (X : World) (x0 x1 x2 x3 x4 y0 y1 y2 y3 : Value) : World :=
  ((((((((X.setCell ⟨b1, 0, none⟩ x0).setCell ⟨b1, 1, none⟩ x1).setCell ⟨b1, 2, none⟩ x2).setCell ⟨b1, 3, none⟩ x3).setCell ⟨b1, 4, none⟩ x4).setCell ⟨b2, 0, none⟩ y0).setCell ⟨b2, 1, none⟩ y1).setCell ⟨b2, 2, none⟩ y2).setCell ⟨b2, 3, none⟩ y3
theorem sto_is {w X : World} {b1 b2 : Nat} {cs1 cs2 : Array Value} (hc1 : cs1.size = 5) (hc2 : cs2.size = 4) (K1 : Blk X b1 68 cs1) (K2 : Blk X b2 75 cs2) (B : Below w.heap.size w X) (h1 : w.heap.size ≤ b1) (h2 : w.heap.size ≤ b2) (x0 x1 x2 x3 x4 y0 y1 y2 y3 : Value) :
    ∃ Y, Sto b1 b2 X x0 x1 x2 x3 x4 y0 y1 y2 y3 = Y ∧ Blk Y b1 68 #[x0, x1, x2, x3, x4] ∧ Blk Y b2 75 #[y0, y1, y2, y3] ∧ Below w.heap.size w Y ∧ KeptBut (fun k => k = b1 ∨ k = b2) X Y := by
  obtain ⟨a, b', c, d, e, rfl⟩ : ∃ a b' c d e, cs1 = #[a, b', c, d, e] := by
    rcases cs1 with ⟨l⟩
    match l, hc1 with
    | [a, b', c, d, e], _ => exact ⟨a, b', c, d, e, rfl⟩
  obtain ⟨a', b'', c', d', rfl⟩ : ∃ a b' c d, cs2 = #[a, b', c, d] := by
    rcases cs2 with ⟨l⟩
    match l, hc2 with
    | [a, b', c, d], _ => exact ⟨a, b', c, d, rfl⟩
  have hne : b1 ≠ b2 := Blk.ne K1 K2 (by decide)
  have k1 := ((((K1.put 0 x0).put 1 x1).put 2 x2).put 3 x3).put 4 x4
  have k2 := ((((K2.far (p := ⟨b1, 0, none⟩) hne.symm x0).far (p := ⟨b1, 1, none⟩) hne.symm x1).far (p := ⟨b1, 2, none⟩) hne.symm x2).far (p := ⟨b1, 3, none⟩) hne.symm x3).far (p := ⟨b1, 4, none⟩) hne.symm x4
  refine ⟨_, rfl, (((k1.far (p := ⟨b2, 0, none⟩) hne y0).far (p := ⟨b2, 1, none⟩) hne y1).far (p := ⟨b2, 2, none⟩) hne y2).far (p := ⟨b2, 3, none⟩) hne y3, (((k2.put 0 y0).put 1 y1).put 2 y2).put 3 y3, ?_, ?_⟩
  · exact below_set4 (below_far (below_set4 B h1 _ _ _ _) h1) h2 _ _ _ _
  · have hb1 : b1 = b1 ∨ b1 = b2 := .inl rfl
    have hb2 : b2 = b1 ∨ b2 = b2 := .inr rfl
    exact kb2_set (kb2_set (kb2_set (kb2_set (kb2_set (kb2_set (kb2_set (kb2_set (kb2_set (KeptBut.refl _ _) hb1) hb1) hb1) hb1) hb1) hb2) hb2) hb2) hb2

/-- The copy in the making. -/
def gTo (bad : Bool) (lim : Int) (errs : List Int) (k : Nat) : Bool := !bad && decide (farD (errs.take k) ≤ lim)
theorem gTo_zero (bad : Bool) {lim : Int} (hl : 0 ≤ lim) (errs : List Int) : gTo bad lim errs 0 = !bad := by
  unfold gTo
  rw [List.take_zero, decide_eq_true (show farD [] ≤ lim from hl), Bool.and_true]
theorem gTo_out {bad : Bool} {lim x : Int} {errs : List Int} {k : Nat} (h : errs[k]? = some x) (hx : ¬ (x ≤ lim ∧ -lim ≤ x)) : gTo bad lim errs (k + 1) = false := by
  unfold gTo
  rw [take_one h, farD_snoc]
  have : ¬ max (farD (errs.take k)) (max x (-x)) ≤ lim := by omega
  rw [decide_eq_false this, Bool.and_false]
theorem gTo_in {bad : Bool} {lim x : Int} {errs : List Int} {k : Nat} (h : errs[k]? = some x) (hx : x ≤ lim ∧ -lim ≤ x) : gTo bad lim errs (k + 1) = gTo bad lim errs k := by
  unfold gTo
  rw [take_one h, farD_snoc]
  congr 1
  exact decide_eq_decide.2 (by omega)
def RdLoop (wA : World) (b9 : Nat) (S0 : Int) (bad : Bool) (lim : Int) (errs moves : List Int) (k : Nat) (X : World) : Prop :=
  ∃ u v, Two wA u v (errs.take k) (moves.take k) X ∧ Blk X b9 75 #[.bool (gTo bad lim errs k), .int .i64 S0, u, v]
theorem Two.set {wA X : World} {u v x : Value} {l m : List Int} {b j : Nat} {cs : Array Value} (h : Two wA u v l m X) (hK : Blk X b 75 cs) (hb : wA.heap.size ≤ b) : Two wA u v l m (X.setCell ⟨b, j, none⟩ x) :=
  ⟨below_far h.1 hb, ownsRow_grew h.2.1 (Grew.set hK j x) (by decide), ownsRow_grew h.2.2.1 (Grew.set hK j x) (by decide), h.2.2.2⟩
theorem histD_next {cs : List CopyD} {t : Nat} {c : CopyD} (h : cs[t]? = some c) (k : Nat) : histD (cs.take (t + 1)) k = histD (cs.take t) k ++ [c.moves.getD k 0] := by
  unfold histD
  rw [take_one h, List.map_append]
  rfl
theorem move_is {d : DeskD} {l : LoopD} {k : Nat} {x : Int} (h : d.loops[k]? = some l) (hx : x ≠ lostD) : clampD l.step (x + lastSum (histD d.copies k) l.dead.toNat) = moveD l (Qd d k) x := by
  unfold moveD
  rw [if_neg hx, Qd_at h, queueD_sum]
theorem move_lost (l : LoopD) (q : List Int) : moveD l q lostD = 0 := if_pos rfl
theorem infoRefCopy : (Try.prog.info? 75).map (fun i => (i.zero, i.size, i.bytes)) = some (some (.agg #[.bool false, .int .i64 0, .slice none 0 0, .slice none 0 0]), 4, 64) := by kernel_rfl
end Go.Proofs.Ytffodgpafiifcaa
