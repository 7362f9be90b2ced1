/-
  Shares: the comparison of two agents' parts.
  Where the library's DeleteFunc lies in the program (its laying was printed by lay-plain.mjs); those who want a copy, less one.
  Shares, plain: those who want a copy as numbers; the row of what is given.
-/
import Derived.Test.YtlmpbmlbllndcaaMba
import Derived.Shelf.SlGeneric
import Derived.Shelf.SlLaysH
import Derived.Ground.SlgfProg
import Derived.Shelf.SlicesE.DeleteFunc
import Derived.Laws.CopyOwn
import Derived.Maps.AppendAt
namespace Go.Proofs.Ytlmpbmlbllndcaa
open Go.RowKit
attribute [local go_sem] Oper.semAt_some

/-- What the comparison of parts reads: what was given, and the orders. -/
structure ShSt (Gb gr Lb : Nat) (l : List OrdD) (g : List Int) (w : World) : Prop where
  box : ∃ lv, Blk w Lb 30 #[lv] ∧ ∃ B, ROrds B w lv l
  gbox : Blk w Gb 31 #[.slice (some ⟨gr, 0, none⟩) l.length l.length]
  row : Blk w gr 3 (g.map (Value.int .i64)).toArray
  len : g.length = l.length
theorem ShSt.cells {Gb gr Lb : Nat} {l : List OrdD} {g : List Int} {w : World} (h : ShSt Gb gr Lb l g w) : ∃ A c, w.cell? ⟨Lb, 0, none⟩ = some (.slice A l.length c) ∧ w.cell? ⟨Gb, 0, none⟩ = some (.slice (some ⟨gr, 0, none⟩) l.length l.length) ∧ l.length ≤ 9223372036854775807 ∧
    (∀ k x, l[k]? = some x → ∃ b o, A = some ⟨b, o, none⟩ ∧ w.cell? ⟨b, o + k * 3 + 1, none⟩ = some (.int .i64 x.cop)) ∧ (∀ k, k < l.length → w.cell? ⟨gr, k, none⟩ = some (.int .i64 (g.getD k 0))) := by
  obtain ⟨lv, h1, B, A, c, rfl, -, hm, hr⟩ := h.box
  refine ⟨A, c, cellOf h1 0 rfl, cellOf h.gbox 0 rfl, by simpa [maxLen] using hm, fun k x hx => ?_, fun k hk => ?_⟩
  · have hk : k < l.length := (List.getElem?_eq_some_iff.1 hx).1
    obtain ⟨b, o, hA, -, hc⟩ := hr (by omega)
    exact ⟨b, o, hA, hc _ _ (flat_at OrdD.cells 3 (fun _ => rfl) _ k 1 _ hx (by omega))⟩
  · refine cellOf h.row k ?_
    have hk2 : k < g.length := by rw [h.len]; exact hk
    simp only [List.getElem?_toArray, List.getElem?_map, List.getElem?_eq_getElem hk2, Option.map_some, List.getD_eq_getElem?_getD, Option.getD_some]
theorem copAt_of {l : List OrdD} {k : Nat} {x : OrdD} (h : l[k]? = some x) : copAt l k = x.cop := by
  unfold copAt; rw [h]; rfl
set_option maxRecDepth 100000 in
set_option maxHeartbeats 4000000 in
theorem byPart_any {Gb gr Lb : Nat} {l : List OrdD} {g : List Int} (i j : Nat) (hi : i < l.length) (hj : j < l.length) (hd : ∀ o ∈ l, o.ok) (hg : ∀ k, k < l.length → 0 ≤ g.getD k 0 ∧ g.getD k 0 ≤ 10000) (w : World) (h : ShSt Gb gr Lb l g w) :
    Calls Try.prog 129 #[.int .i64 i, .int .i64 j, .pointer (some ⟨Gb, 0, none⟩), .pointer (some ⟨Lb, 0, none⟩)] w fun e w' => e = .returned (.int .i64 (cmpI (g.getD i 0 * copAt l j) (g.getD j 0 * copAt l i))) ∧ ∃ q, w' = w.drewN q := by
  obtain ⟨A, c, c0, c1, hlm, hL, hG⟩ := h.cells
  obtain ⟨n, hn⟩ : ∃ n, l.length = n := ⟨_, rfl⟩
  obtain ⟨x, hx⟩ : ∃ x, l[i]? = some x := ⟨_, List.getElem?_eq_getElem hi⟩
  obtain ⟨y, hy⟩ : ∃ x, l[j]? = some x := ⟨_, List.getElem?_eq_getElem hj⟩
  obtain ⟨b, o, rfl, c2⟩ := hL i x hx
  obtain ⟨b', o', e, c3⟩ := hL j y hy
  cases e
  have c4 := hG i hi
  have c5 := hG j hj
  rw [copAt_of hx, copAt_of hy]
  obtain ⟨p1, p2⟩ := hg i hi
  obtain ⟨q1, q2⟩ := hg j hj
  obtain ⟨-, ⟨a1, a2⟩, -⟩ := hd x (List.mem_of_getElem? hx)
  obtain ⟨-, ⟨b1, b2⟩, -⟩ := hd y (List.mem_of_getElem? hy)
  obtain ⟨xc, hxc⟩ : ∃ z, x.cop = z := ⟨_, rfl⟩
  obtain ⟨yc, hyc⟩ : ∃ z, y.cop = z := ⟨_, rfl⟩
  obtain ⟨gi, hgi⟩ : ∃ z, g.getD i 0 = z := ⟨_, rfl⟩
  obtain ⟨gj, hgj⟩ : ∃ z, g.getD j 0 = z := ⟨_, rfl⟩
  rw [hxc] at a1 a2 c2 ⊢
  rw [hyc] at b1 b2 c3 ⊢
  rw [hgi] at p1 p2 c4 ⊢
  rw [hgj] at q1 q2 c5 ⊢
  rw [hn] at hi hj hlm c0 c1
  have m1 : 0 ≤ gi * yc ∧ gi * yc ≤ 1000000000000 := ⟨Int.mul_nonneg p1 b1, Int.le_trans (Int.mul_le_mul p2 b2 b1 (by omega)) (by omega)⟩
  have m2 : 0 ≤ gj * xc ∧ gj * xc ≤ 1000000000000 := ⟨Int.mul_nonneg q1 a1, Int.le_trans (Int.mul_le_mul q2 a2 a1 (by omega)) (by omega)⟩
  have C := Lib.hid (fun w => parts_any gi xc gj yc m1 m2 w)
  have i0 : (0 : Int) ≤ (i : Int) := by omega
  have i1 : (i : Int) < (n : Int) := by omega
  have j0 : (0 : Int) ≤ (j : Int) := by omega
  have j1 : (j : Int) < (n : Int) := by omega
  clear h hL hG hx hy hd hg hxc hyc hgi hgj hn m1 m2 p1 p2 q1 q2 a1 a2 b1 b2
  go_enter Try.func129, Try.ntmps129
  go_upto_region 1 with fail
  go_quiet ((go_at_call 120; exact Calls.quiet_of_same (C.out _)))
  go_wp2_with fail
  go_ret
  exact ⟨rfl, _, rfl⟩
end Go.Proofs.Ytlmpbmlbllndcaa

namespace Go.Proofs.Ytlmpbmlbllndcaa
open Go.Shelf

def delL_ren : Go.Shelf.Ren := ⟨fun | 10 => 131 | 6 => 146 | n => n, fun | 22 => 31 | 23 => 3 | 25 => 171 | 3 => 3 | 4 => 4 | 0 => 0 | n => n, fun | n => n⟩
theorem delL : Go.Proofs.SlLaysH.n10 Try.prog delL_ren := {
  mixed := by kernel_rfl
  f6 := ⟨Try.f146.name, by decide, Try.func146.trans (congrArg some (by kernel_rfl))⟩
  f10 := ⟨Try.f131.name, by decide, Try.func131.trans (congrArg some (by kernel_rfl))⟩
  t0 := Try.underlying0
  a0 := Try.isAgg0
  z0 := Try.sizeOf0
  v0 := Try.zeroValue0
  t3 := Try.underlying3
  a3 := Try.isAgg3
  z3 := Try.sizeOf3
  v3 := Try.zeroValue3
  t4 := Try.underlying4
  a4 := Try.isAgg4
  z4 := Try.sizeOf4
  v4 := Try.zeroValue4
  t22 := Try.underlying31
  a22 := Try.isAgg31
  z22 := Try.sizeOf31
  v22 := Try.zeroValue31
  a23 := Try.isAgg3
  z23 := Try.sizeOf3
  t25 := Try.underlying171
  a25 := Try.isAgg171
  z25 := Try.sizeOf171
  v25 := Try.zeroValue171 }
open Go.RowKit
attribute [local go_sem] Oper.semAt_some
set_option maxHeartbeats 1000000 in
theorem isNext_any (next x : Int) (nb : Nat) (W : World) (hc : W.cell? ⟨nb, 0, none⟩ = some (.int .i64 next)) : FnGives Try.prog 132 #[.pointer (some ⟨nb, 0, none⟩)] #[.int .i64 x] (.bool (x == next)) W := by
  show Calls Try.prog 132 #[.int .i64 x, .pointer (some ⟨nb, 0, none⟩)] W _
  go_enter Try.func132, Try.ntmps132
  go_wp2
  go_ret
  exact ⟨rfl, 0, rfl⟩
/-- A row that holds numbers, of which the function may write. -/
def WRow (b : Nat) (L : List Int) (w : World) : Prop := Sort.Holds (Value.int .i64) w b 0 L.toArray
theorem keptBut_putRow (w : World) (q b : Nat) (d : Array Int) : KeptBut (fun k => k = b) w (Sort.putRow (Value.int .i64) (Sort.ahead w q) b 0 d) :=
  ⟨rfl, rfl, rfl, by simp [Sort.ahead], fun k hk hs => by
    show ((Sort.ahead w q).heap.modify b _)[k]? = _
    rw [Array.getElem?_modify, if_neg (fun e => hs e.symm)]
    rfl⟩
theorem WRow.cell {b : Nat} {L : List Int} {w : World} (h : WRow b L w) {k : Nat} {x : Int} (hx : L[k]? = some x) : w.cell? ⟨b, k, none⟩ = some (.int .i64 x) := by
  obtain ⟨hk, rfl⟩ := List.getElem?_eq_some_iff.1 hx
  have := (h k (by simpa using hk)).1
  rw [Nat.zero_add, getElem!_pos L.toArray k (by simpa using hk)] at this
  simpa using this
theorem WRow.kept {b : Nat} {L : List Int} {w w' : World} {S : Nat → Prop} (h : WRow b L w) (hb : b < w.heap.size) (hk : KeptBut S w w') (hs : ¬ S b) : WRow b L w' := fun j hj => by
  obtain ⟨h1, h2⟩ := h j hj
  have e := hk.block b hb hs
  exact ⟨(World.cell?_of_block e).trans h1, by
    unfold World.frozen? at h2 ⊢
    simp only [e]
    exact h2⟩
set_option maxHeartbeats 1000000 in
theorem del_any (next : Int) (nb b cp : Nat) (L : List Int) (w : World) (hn : nb < w.heap.size) (hne : nb ≠ b) (hc : w.cell? ⟨nb, 0, none⟩ = some (.int .i64 next)) (hW : WRow b L w) (hb : b < w.heap.size) (hl : L.length ≤ 9223372036854775807) (hcp : L.length ≤ cp) :
    Calls Try.prog 131 #[.slice (some ⟨b, 0, none⟩) L.length cp, .func (.func 132) #[] #[.pointer (some ⟨nb, 0, none⟩)]] w fun e w' =>
      e = .returned (.slice (some ⟨b, 0, none⟩) (L.filter fun x => !(x == next)).length cp) ∧ WRow b (L.filter fun x => !(x == next)) w' ∧ KeptBut (fun k => k = b) w w' := by
  have eg : ∀ args w, (callFunc 132 args).run Try.prog w = .ok (.enter 132 args) w := enters_of Try.func132 (by kernel_rfl) rfl
  have hcon := AnyE.slices_DeleteFunc delL (Value.int .i64) (fun _ => rfl) (fun x => x == next) 132 #[.pointer (some ⟨nb, 0, none⟩)] eg 0 Try.zeroValue3 b 0 cp L.toArray w
    (fun W x hB => isNext_any next x nb W ((hB.cell (p := ⟨nb, 0, none⟩) hn).trans hc))
    (fun n os dk x _ => isNext_any next x nb _ (by
      unfold sortWorld
      rw [Sort.cell?_grow _ _ _ (by show nb < (Sort.putRow _ _ _ _ _).heap.size; rw [Sort.size_putRow]; exact hn), Sort.cell?_putRow_other _ _ b 0 _ _ (Or.inl hne)]
      exact hc)) hW (by simpa using hl) (by simpa using hcp)
  change Calls Try.prog 131 _ _ _ at hcon
  refine Calls.mono hcon ?_
  rintro e w' ⟨rfl, q, rfl⟩
  refine ⟨rfl, fun j hj => ?_, keptBut_putRow w q b _⟩
  have hle : (L.filter fun x => !(x == next)).length ≤ L.length := List.length_filter_le _ _
  have hs : ((L.filter fun x => !(x == next)) ++ List.replicate (L.toArray.size - (L.filter fun x => !(x == next)).length) 0).toArray.size = L.toArray.size := by simp; omega
  have hj1 : j < (L.filter fun x => !(x == next)).length := by simpa using hj
  have h1 := Sort.holds_putRow (Value.int .i64) (Sort.ahead w q) b 0 L.toArray _ (Sort.holds_ahead (Value.int .i64) w q b 0 L.toArray hW) hs j (by rw [hs]; simp; omega)
  refine ⟨?_, h1.2⟩
  rw [h1.1, getElem!_pos _ j (by rw [hs]; simp; omega), getElem!_pos _ j hj]
  congr 1
  simp [List.getElem_append, hj1]
end Go.Proofs.Ytlmpbmlbllndcaa

namespace Go.Proofs.Ytlmpbmlbllndcaa
open Go.RowKit
attribute [local go_sem] Oper.semAt_some

theorem makeInts (k : Nat) (hk : k ≤ 1000000) (u : World) : (Instr.makeSlice 31 (.int .i64 k) (.int .i64 k)).run Try.prog u =
      .ok (.slice (some ⟨u.heap.size, 0, none⟩) k k) (u.alloc (.cells (Array.replicate k (.int .i64 0)) 3)) := by
  obtain ⟨i0, hi, hz0, hz1, hz2⟩ := info_parts infoInt0
  have h := run_make (P := Try.prog) u 31 3 i0 (.int .i64 0) Try.underlying31 hi hz0 .i64 .i64 (k : Int) (k : Int) (by omega) (Int.le_refl _) (by rw [hz2]; omega) (by omega)
  rw [Int.toNat_natCast] at h
  have e : madeCells (Value.cells (.int .i64 0)) (k * i0.size) = Array.replicate k (.int .i64 0) := by
    rw [hz1, Nat.mul_one]
    apply Array.ext
    · simp [madeCells]
    · intro i h1 h2
      simp [madeCells, Value.cells, Nat.mod_one]
  rw [e] at h
  exact h
def WL (l : List OrdD) (g : List Int) : List Int := (wantL l g).map fun i : Nat => (i : Int)
/-- Those that want more than their least, of the first k. -/
def wk (l : List OrdD) (k : Nat) : List Int := ((List.range k).filter fun i => decide (leastAt l i < copAt l i)).map fun i : Nat => (i : Int)
theorem wk_next (l : List OrdD) (k : Nat) : wk l (k + 1) = if leastAt l k < copAt l k then wk l k ++ [(k : Int)] else wk l k := by
  unfold wk
  rw [List.range_succ, List.filter_append, List.map_append]
  by_cases h : leastAt l k < copAt l k
  · rw [if_pos h, List.filter_cons_of_pos (by simpa using h)]
    rfl
  · rw [if_neg h, List.filter_cons_of_neg (by simpa using h)]
    simp
theorem wk_len (l : List OrdD) (k : Nat) : (wk l k).length ≤ k := by
  unfold wk
  rw [List.length_map]
  exact Nat.le_trans (List.length_filter_le _ _) (by simp)
theorem leastAt_of {l : List OrdD} {k : Nat} {x : OrdD} (h : l[k]? = some x) : leastAt l k = x.least := by
  unfold leastAt; rw [h]; rfl
theorem wk_all {l : List OrdD} {g : List Int} (hg : ∀ i, i < l.length → g.getD i 0 = leastAt l i) : wk l l.length = WL l g := by
  unfold wk WL wantL
  congr 1
  refine List.filter_congr fun i hi => ?_
  rw [hg i (List.mem_range.1 hi)]
/-- The part's comparison of numbers. -/
def cfP (l : List OrdD) (g : List Int) (a b : Int) : Int := cmpI (g.getD a.toNat 0 * copAt l b.toNat) (g.getD b.toNat 0 * copAt l a.toNat)
theorem leastTo_map {α β : Type} {lt : α → α → Bool} {lt' : β → β → Bool} (f : α → β) (h : ∀ x y, lt' (f x) (f y) = lt x y) : ∀ (l : List α) (b : Option α), leastTo lt' (b.map f) (l.map f) = (leastTo lt b l).map f
  | [], _ => rfl
  | x :: l, none => leastTo_map f h l (some x)
  | x :: l, some b => by
    show leastTo lt' (some (if lt' (f x) (f b) then f x else f b)) (l.map f) = _
    rw [h]
    have : (if lt x b = true then f x else f b) = f (if lt x b = true then x else b) := by by_cases e : lt x b = true <;> simp [e]
    rw [this]
    exact leastTo_map f h l (some (if lt x b then x else b))
theorem cfP_less (l : List OrdD) (g : List Int) (i j : Nat) : decide (cfP l g (i : Int) (j : Int) < 0) = lessP l g i j := by
  unfold cfP lessP
  rw [Int.toNat_natCast, Int.toNat_natCast]
  obtain ⟨p, hp⟩ : ∃ p, g.getD i 0 * copAt l j = p := ⟨_, rfl⟩
  obtain ⟨q, hq⟩ : ∃ p, g.getD j 0 * copAt l i = p := ⟨_, rfl⟩
  rw [hp, hq]
  unfold cmpI
  by_cases h : p < q
  · rw [if_pos h, decide_eq_true h]; rfl
  · rw [if_neg h, decide_eq_false h]
    split <;> rfl
theorem pick_lst {l : List OrdD} {g : List Int} {i : Nat} (h : pickS l g = some i) : lstI (cfP l g) (WL l g) (WL l g).length = (i : Int) ∧ 0 < (WL l g).length := by
  have hm := leastTo_mem h
  constructor
  · unfold lstI
    rw [List.take_length]
    have := leastTo_map (lt' := fun x y => decide (cfP l g x y < 0)) (fun i : Nat => (i : Int)) (fun x y => cfP_less l g x y) (wantL l g) none
    unfold WL
    rw [show (none : Option Int) = (none : Option Nat).map (fun i : Nat => (i : Int)) from rfl, this]
    have h' : leastTo (lessP l g) none (wantL l g) = some i := h
    rw [h']
    rfl
  · unfold WL
    rw [List.length_map]
    exact List.length_pos_of_mem hm
theorem pick_len {l : List OrdD} {g : List Int} (h : pickS l g = none) : (WL l g).length = 0 := by
  have := leastTo_none h
  unfold WL
  rw [this]
  rfl
theorem want_step {l : List OrdD} {g : List Int} {i : Nat} (hi : i < g.length) (hw : i ∈ wantL l g) (hg : ∀ k, k < l.length → g.getD k 0 ≤ copAt l k) : WL l (g.set i (g.getD i 0 + 1)) = if g.getD i 0 + 1 = copAt l i then (WL l g).filter fun x => !(x == (i : Int)) else WL l g := by
  obtain ⟨h1, h2⟩ := want_mem.1 hw
  unfold WL
  by_cases h : g.getD i 0 + 1 = copAt l i
  · rw [if_pos h, List.filter_map]
    congr 1
    unfold wantL
    rw [List.filter_filter]
    refine List.filter_congr fun k hk => ?_
    rw [getD_set hi]
    by_cases e : k = i
    · subst e
      rw [if_pos rfl, h, decide_eq_false (Int.lt_irrefl _)]
      simp
    · have : ((k : Int) == (i : Int)) = false := by simp; omega
      rw [if_neg e]
      simp [this]
  · rw [if_neg h]
    congr 1
    unfold wantL
    refine List.filter_congr fun k hk => ?_
    rw [getD_set hi]
    by_cases e : k = i
    · subst e
      rw [if_pos rfl]
      rw [decide_eq_true (show g.getD k 0 + 1 < copAt l k by omega), decide_eq_true h2]
    · rw [if_neg e]
theorem steps_stop {l : List OrdD} {g : List Int} {t : Nat} (h : pickS l (stepsS l t g) = none) : ∀ m, stepsS l (t + m) g = stepsS l t g
  | 0 => rfl
  | m + 1 => by
    show stepS l (stepsS l (t + m) g) = _
    rw [steps_stop h m]
    unfold stepS
    rw [h]
theorem step_pick {l : List OrdD} {g : List Int} {i : Nat} (h : pickS l g = some i) : stepS l g = g.set i (g.getD i 0 + 1) := by
  unfold stepS
  rw [h]
/-- The worlds of a share: the box of the orders, the box of what is given and its row. -/
structure ShW (w : World) (Gb gr Lb : Nat) (lv : Value) (l : List OrdD) (g : List Int) (X : World) : Prop where
  low : Below w.heap.size w X
  box : Blk X Lb 30 #[lv]
  gbox : Blk X Gb 31 #[.slice (some ⟨gr, 0, none⟩) l.length l.length]
  row : Blk X gr 3 (g.map (Value.int .i64)).toArray
  len : g.length = l.length
  new : w.heap.size ≤ gr
theorem ShW.st {w X : World} {Gb gr Lb : Nat} {lv : Value} {l : List OrdD} {g : List Int} (h : ShW w Gb gr Lb lv l g X) (hr : ROrds w.heap.size w lv l) : ShSt Gb gr Lb l g X :=
  ⟨⟨lv, h.box, w.heap.size, Rd.keep hr fun p hp => h.low.cell hp⟩, h.gbox, h.row, h.len⟩
theorem ShW.below {w X Y : World} {Gb gr Lb : Nat} {lv : Value} {l : List OrdD} {g : List Int} (h : ShW w Gb gr Lb lv l g X) (hb : Below X.heap.size X Y) : ShW w Gb gr Lb lv l g Y :=
  ⟨h.low.trans (hb.mono h.low.size), h.box.below hb h.box.lt, h.gbox.below hb h.gbox.lt, h.row.below hb h.row.lt, h.len, h.new⟩
theorem ShW.kept {w X Y : World} {Gb gr Lb b : Nat} {lv : Value} {l : List OrdD} {g : List Int} (h : ShW w Gb gr Lb lv l g X) (hk : KeptBut (fun k => k = b) X Y) (hb : w.heap.size ≤ b) (h1 : b ≠ gr) (h2 : b ≠ Gb) (h3 : b ≠ Lb) : ShW w Gb gr Lb lv l g Y :=
  ⟨h.low.trans (hk.below (fun k hk => by subst hk; exact hb) h.low.size), hk.blk h.box (fun e => h3 e.symm), hk.blk h.gbox (fun e => h2 e.symm), hk.blk h.row (fun e => h1 e.symm), h.len, h.new⟩
theorem ShW.keptS {w X Y : World} {Gb gr Lb : Nat} {lv : Value} {l : List OrdD} {g : List Int} {S : Nat → Prop} (h : ShW w Gb gr Lb lv l g X) (hk : KeptBut S X Y) (hS : ∀ k, S k → w.heap.size ≤ k ∧ k ≠ gr ∧ k ≠ Gb ∧ k ≠ Lb) : ShW w Gb gr Lb lv l g Y :=
  ⟨h.low.trans (hk.below (fun k hk => (hS k hk).1) h.low.size), hk.blk h.box (fun e => (hS _ e).2.2.2 rfl), hk.blk h.gbox (fun e => (hS _ e).2.2.1 rfl), hk.blk h.row (fun e => (hS _ e).2.1 rfl), h.len, h.new⟩
theorem ShW.set {w X : World} {Gb gr Lb : Nat} {lv : Value} {l : List OrdD} {g : List Int} (h : ShW w Gb gr Lb lv l g X) (i : Nat) (x : Int) : ShW w Gb gr Lb lv l (g.set i x) (X.setCell ⟨gr, i, none⟩ (.int .i64 x)) ∧ KeptBut (fun k => k = gr) X (X.setCell ⟨gr, i, none⟩ (.int .i64 x)) := by
  have hk : KeptBut (fun k => k = gr) X (X.setCell ⟨gr, i, none⟩ (.int .i64 x)) := KeptBut.setCell (S := fun g => g = gr) rfl _
  refine ⟨⟨h.low.trans (hk.below (fun k hk => by subst hk; exact h.new) h.low.size), hk.blk h.box (fun e => by subst e; exact Blk.ne h.box h.row (by decide) rfl), hk.blk h.gbox (fun e => by subst e; exact Blk.ne h.gbox h.row (by decide) rfl), ?_, by rw [List.length_set]; exact h.len, h.new⟩, hk⟩
  have := h.row.put i (.int .i64 x)
  rw [List.map_set]
  simpa using this
/-- The slice of those who want more. -/
def Wants (w : World) (Gb gr Lb : Nat) (L : List Int) (v : Value) (X : World) : Prop :=
  ∃ A cp, v = .slice A L.length cp ∧ L.length ≤ cp ∧ cp ≤ maxLen ∧ (0 < L.length → ∃ b, A = some ⟨b, 0, none⟩ ∧ w.heap.size ≤ b ∧ b < X.heap.size ∧ b ≠ gr ∧ b ≠ Gb ∧ b ≠ Lb ∧ WRow b L X)
theorem Wants.of_own {w X : World} {base Gb gr Lb : Nat} {L : List Int} {v : Value} (h : X.ownsRow base 3 1 v L.length (L.map (Value.int .i64))) (h1 : gr < base) (h2 : Gb < base) (h3 : Lb < base) (h4 : w.heap.size ≤ base) : Wants w Gb gr Lb L v X := by
  rcases h.2 with ⟨rfl, h0⟩ | ⟨g, cap, cur, rfl, hb, hg, hc1, hc2, hc3, hc4⟩
  · exact ⟨none, 0, by rw [h0], by omega, by simp, fun h => by omega⟩
  · refine ⟨_, cap, rfl, hc1, hc2, fun _ => ⟨g, rfl, by omega, Blk.lt hg, by omega, by omega, by omega, fun j hj => ?_⟩⟩
    have hj' : j < L.length := by simpa using hj
    refine ⟨?_, Blk.frozen hg _⟩
    rw [Nat.zero_add, Blk.cell hg j, getElem!_pos L.toArray j hj]
    have e : (cur.toList.take (L.length * 1))[j]? = (L.map (Value.int .i64))[j]? := by rw [hc4]
    rw [List.getElem?_take, if_pos (by omega), List.getElem?_map, List.getElem?_eq_getElem hj'] at e
    simpa using e
theorem Wants.reads {w X : World} {Gb gr Lb : Nat} {L : List Int} {v : Value} (h : Wants w Gb gr Lb L v X) : RInts X.heap.size X v L := by
  obtain ⟨A, cp, rfl, h1, h2, h3⟩ := h
  refine ⟨A, cp, rfl, ?_, ?_, fun h0 => ?_⟩
  all_goals skip
  case refine_3 =>
    obtain ⟨b, hA, -, hb, -, -, -, hW⟩ := h3 (by simpa using h0)
    refine ⟨b, 0, hA, hb, fun j u hu => ?_⟩
    rw [List.getElem?_map] at hu
    cases hx : L[j]? with
    | none => rw [hx] at hu; cases hu
    | some x =>
      rw [hx] at hu
      cases hu
      simpa using hW.cell hx
  all_goals first | (simp; done) | omega
theorem Wants.kept {w X Y : World} {Gb gr Lb : Nat} {L : List Int} {v : Value} {S : Nat → Prop} (h : Wants w Gb gr Lb L v X) (hk : KeptBut S X Y) (hS : ∀ b, S b → b = gr ∨ b = Gb ∨ b = Lb ∨ X.heap.size ≤ b) : Wants w Gb gr Lb L v Y := by
  obtain ⟨A, cp, rfl, h1, h2, h3⟩ := h
  refine ⟨A, cp, rfl, h1, h2, fun h0 => ?_⟩
  obtain ⟨b, hA, hb1, hb2, n1, n2, n3, hW⟩ := h3 h0
  refine ⟨b, hA, hb1, Nat.lt_of_lt_of_le hb2 hk.size, n1, n2, n3, hW.kept hb2 hk fun hs => ?_⟩
  rcases hS b hs with e | e | e | e
  · exact n1 e
  · exact n2 e
  · exact n3 e
  · omega
end Go.Proofs.Ytlmpbmlbllndcaa
