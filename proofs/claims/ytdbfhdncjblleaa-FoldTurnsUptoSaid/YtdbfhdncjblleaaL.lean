/-
  spots: the spots of a stack in a row.
-/
import Derived.Test.YtdbfhdncjblleaaK
namespace Go.Proofs.Ytdbfhdncjblleaa
open Go.RowKit Go.Shelf
attribute [local go_sem] Oper.semAt_some

theorem infoSpot : (Try.prog.info? 53).map (fun i => (i.zero, i.size, i.bytes)) = some (some (.agg #[.int .i64 0, .int .i64 0, .int .i64 0, .int .i64 0]), 4, 32) := by kernel_rfl

theorem idx2 (a b : Int) (w : World) : (Instr.index 159 (.agg #[.int .i64 a, .int .i64 b]) (.int .i64 0)).run Try.prog w = .ok (.int .i64 a) w := by kernel_rfl
theorem idx2' (a b : Int) (w : World) : (Instr.index 159 (.agg #[.int .i64 a, .int .i64 b]) (.int .i64 1)).run Try.prog w = .ok (.int .i64 b) w := by kernel_rfl

def outD (row : Int) (l : List HalfD) : List SpotD := l.flatMap (halfSpots row)
def cellsOf (l : List SpotD) : List Value := l.flatMap SpotD.cells
theorem outD_len (row : Int) (l : List HalfD) : (outD row l).length = 2 * l.length := by
  unfold outD
  induction l with
  | nil => rfl
  | cons x l ih => rw [List.flatMap_cons, List.length_append, ih]; simp [halfSpots]; omega

theorem outD_snoc (row : Int) (pre : List HalfD) (x : HalfD) : outD row (pre ++ [x]) = outD row pre ++ halfSpots row x := by simp [outD]
theorem cellsOf_len (l : List SpotD) : (cellsOf l).length = l.length * 4 := flat_get SpotD.cells 4 (fun _ => rfl) l
theorem ownsRow_base {w : World} {b b' : Nat} {e : TypeId} {k n : Nat} {v : Value} {xs : List Value} (h : w.ownsRow b e k v n xs) (hb : b' ≤ b) : w.ownsRow b' e k v n xs := by
  refine ⟨h.1, ?_⟩
  rcases h.2 with h2 | ⟨g, cap, cur, hv, hg, r⟩
  · exact .inl h2
  · exact .inr ⟨g, cap, cur, hv, by omega, r⟩
theorem grownBy_below {A B : World} (h : Below A.heap.size A B) (row : Option Nat) : A.grownBy B row := ⟨h.os, h.tape, h.output, h.size, fun i hi _ => h.block i hi⟩
/-- Behind an append to a row of our own, the value stored back into its box: all that lies elsewhere lies as it lay. -/
theorem appended2 {W w1 : World} {n₀ B : Nat} {t e : TypeId} {size : Nat} {v v' : Value} {k m : Nat} {xs ys : List Value} {tmp : Obj}
    (hv : Boxed W B t v) (hte : t ≠ e) (hrow : W.ownsRow n₀ e size v k xs)
    (hown' : w1.ownsRow n₀ e size v' m ys) (hgrow : (W.alloc tmp).grownBy w1 v.ownBlock) :
    Boxed w1 B t v ∧ Boxed (w1.setCell ⟨B, 0, none⟩ v') B t v' ∧ (w1.setCell ⟨B, 0, none⟩ v').ownsRow n₀ e size v' m ys ∧ KeepsOthers W (w1.setCell ⟨B, 0, none⟩ v') ∧
      (∀ i, i < W.heap.size → i ≠ B → some i ≠ v.ownBlock → (w1.setCell ⟨B, 0, none⟩ v').heap[i]? = W.heap[i]?) ∧ W.heap.size ≤ w1.heap.size ∧ (∀ n, n ≤ n₀ → n ≤ B → n ≤ W.heap.size → Below n W (w1.setCell ⟨B, 0, none⟩ v')) := by
  have hv1 : Boxed w1 B t v := (hv.alloc tmp).kept hgrow (hv.not_row hte hrow)
  have hsz : W.heap.size ≤ w1.heap.size := by have := hgrow.size; simp at this; omega
  have hnb : ∀ j, v.ownBlock = some j → n₀ ≤ j := fun j ej => by
    rcases hrow.2 with ⟨rfl, _⟩ | ⟨g, cap, cur, rfl, hb, _⟩
    · simp [Value.ownBlock] at ej
    · obtain rfl : g = j := by simpa [Value.ownBlock] using ej
      exact hb
  refine ⟨hv1, hv1.set v', hown'.kept (grownBy_setCell' w1 B v') (.inr (hv1.not_row hte hown').symm), ?_, fun i hi hB hne => ?_, hsz, fun n h1 h2 h3 => ?_⟩
  · refine ((KeepsOthers.alloc W tmp).trans (KeepsOthers.of_grownBy hgrow fun j o ej hj => ?_)).trans (KeepsOthers.setCell _ _ _)
    rcases (hrow.alloc tmp).2 with ⟨rfl, _⟩ | ⟨g, cap, cur, rfl, _, hgb, _⟩
    · simp [Value.ownBlock] at ej
    · obtain rfl : g = j := by simpa [Value.ownBlock] using ej
      rw [hgb] at hj; cases hj; rfl
  · rw [Below.heap_setCell _ _ _ i hB, hgrow.block i (by simp; omega) hne, Below.heap_alloc W tmp i hi]
  · exact ((((Below.refl n W).alloc h3 tmp).grown hgrow (by simp; omega) fun j ej => by have := hnb j ej; omega)).setCell (p := ⟨B, 0, none⟩) h2 v'

/-- The four cells of a half in its box. -/
def Box4 (W : World) (B : Nat) (t : TypeId) (a b c d : Value) : Prop := W.heap[B]? = some (.cells #[a, b, c, d] t (0, 0))
theorem Box4.cell {W : World} {B : Nat} {t : TypeId} {a b c d : Value} (h : Box4 W B t a b c d) (j : Nat) : W.cell? ⟨B, j, none⟩ = #[a, b, c, d][j]? := cell_of_row W B j _ t (0, 0) h

theorem not_row' {W : World} {B : Nat} {t e : TypeId} {cs : Array Value} {fr : Nat × Nat} (h : W.heap[B]? = some (.cells cs t fr)) (hte : t ≠ e) {base size k : Nat} {v : Value} {xs : List Value} (hr : W.ownsRow base e size v k xs) : some B ≠ v.ownBlock := by
  rcases hr.2 with ⟨rfl, _⟩ | ⟨g, cap, cur, rfl, _, hgb, _⟩
  · simp [Value.ownBlock]
  · intro e'
    obtain rfl : B = g := by simpa [Value.ownBlock] using e'
    have := h.symm.trans hgb
    simp at this
    exact hte this.2.1

/-- What one spot more does to all that the round keeps. -/
theorem step_in {W wr w1 w W0 : World} {b1 b2 b3 b4 Bx m : Nat} {row : Int} {x : HalfD} {u v' : Value} {tI tO tS tH : TypeId} {xs ys : List Value} {tmp : Obj}
    (l0 : w.heap.size < b1) (l1 : b1 < b2) (l2 : b2 < b3) (l3 : b3 < b4) (l4 : b4 < W0.heap.size) (hBx : W0.heap.size ≤ Bx) (hI : tI ≠ tS) (hO : tO ≠ tS) (hH : tH ≠ tS)
    (hu1 : Boxed wr b2 tO u) (hu2 : wr.ownsRow W0.heap.size tS 4 u m xs) (hu3 : Boxed wr b1 tI (.int .i64 row)) (bX : Box4 wr Bx tH (.int .i64 x.web) (.int .i64 x.col) (.int .i64 x.s0) (.int .i64 x.s1))
    (hkf : KeepsFrom W0.heap.size W wr) (hks : KeepS (fun k => k < w.heap.size ∨ k = b3 ∨ k = b4) W wr) (hu4 : Below w.heap.size w wr) (hu5 : W0.heap.size ≤ wr.heap.size)
    (hown' : w1.ownsRow W0.heap.size tS 4 v' (m + 1) ys) (hgrow : (wr.alloc tmp).grownBy w1 u.ownBlock) {zs : List Value} (hz : ys = zs) :
    (∃ u, Boxed (w1.setCell ⟨b2, 0, none⟩ v') b2 tO u ∧ (w1.setCell ⟨b2, 0, none⟩ v').ownsRow W0.heap.size tS 4 u (m + 1) zs) ∧ Boxed (w1.setCell ⟨b2, 0, none⟩ v') b1 tI (.int .i64 row) ∧
      Box4 (w1.setCell ⟨b2, 0, none⟩ v') Bx tH (.int .i64 x.web) (.int .i64 x.col) (.int .i64 x.s0) (.int .i64 x.s1) ∧ KeepsFrom W0.heap.size W (w1.setCell ⟨b2, 0, none⟩ v') ∧
      KeepS (fun k => k < w.heap.size ∨ k = b3 ∨ k = b4) W (w1.setCell ⟨b2, 0, none⟩ v') ∧ Below w.heap.size w (w1.setCell ⟨b2, 0, none⟩ v') ∧ W0.heap.size ≤ (w1.setCell ⟨b2, 0, none⟩ v').heap.size := by
  obtain ⟨-, hv2, hr2, hk2, hsame, hsz, hbel⟩ := appended2 hu1 hO hu2 hown' hgrow
  have hlt := hu2.lt
  subst hz
  refine ⟨⟨_, hv2, hr2⟩, (hsame b1 hu3.lt (by omega) (hu3.not_row hI hu2)).trans hu3, (hsame Bx (Array.getElem?_eq_some_iff.1 bX).1 (by omega) (not_row' bX hH hu2)).trans bX, hkf.trans (hk2.from _), ?_, hu4.trans (hbel _ (by omega) (by omega) (by omega)), by simp [World.setCell]; omega⟩
  refine hks.trans ⟨by simp [World.setCell]; omega, fun k hk => hsame k (by omega) (by omega) fun e => ?_⟩
  have := (hlt k e.symm).1
  omega

set_option maxRecDepth 100000 in
set_option maxHeartbeats 2000000 in
theorem spots_any (v vs : Value) (r : RunD) (stack : List Int) (row : Int) (w : World) (h : RRun w.heap.size w v r) (hs : RInts w.heap.size w vs stack) (hl32 : stack.length ≤ 1000000)
    (hribs : ∀ i ∈ stack, 0 ≤ i ∧ i < r.ribs.length) (hrb : ∀ i ∈ stack, 0 ≤ (ribAt r i).col ∧ (ribAt r i).col ≤ 1000 ∧ 0 ≤ (ribAt r i).width ∧ (ribAt r i).width ≤ 1000) :
    Calls Try.prog 80 #[v, vs, .int .i64 row] w fun e w' => ∃ u, e = .returned u ∧ w'.ownsRow w.heap.size 53 4 u (spotsD r stack row).length (cellsOf (spotsD r stack row)) ∧ Below w.heap.size w w' := by
  obtain ⟨i0, hi, hz0, hz1, hz2⟩ := info_parts infoSpot
  have hst := Lib.hid hs
  have HR := Lib.hid hribs
  have HB := Lib.hid hrb
  obtain ⟨v1, v2, v3, rfl, -, hrr, -⟩ := h
  have hrib := Lib.hid hrr
  obtain ⟨A, ca, rfl, -⟩ := slice_len hs
  clear hs hribs hrb hrr
  have k0 := idx2
  have k1 := idx2'
  refine (callsIn_wide (n := 10)).1 ?_
  refine callsIn_of_wp_marks Try.func80 rfl trivial ?_ rfl
  simp only [Try.ntmps80, List.size_toArray, List.length_cons, List.length_nil, Nat.reduceAdd, Nat.reduceSub, Array.replicate_succ, Array.replicate_zero, List.push_toArray, List.append_toArray, List.nil_append, List.cons_append]
  gi_wp2_with fail
  refine ⟨trivial, callsIn_wide.2 ((halves_any v1 v2 v3 r.coll A stack.length ca _).mono ?_)⟩
  rintro e w3 ⟨rfl, rfl⟩
  gi_wp2_with fail
  have F0 : ∃ W0, ((((w.alloc (.cells #[v1, v2, v3, .bool r.coll] 111)).alloc (.cells #[.int .i64 row] 3)).alloc (.cells #[.slice none 0 0] 127)).alloc (.cells #[v1, v2, v3, .bool r.coll] 111)).alloc (.cells #[.slice A stack.length ca] 48) = W0 ∧
      W0.heap.size = w.heap.size + 5 ∧ Boxed W0 (w.heap.size + 1) 3 (.int .i64 row) ∧ Boxed W0 (w.heap.size + 1 + 1) 127 (.slice none 0 0) ∧ W0.cell? ⟨w.heap.size + 1 + 1 + 1 + 1, 0, none⟩ = some (.slice A stack.length ca) ∧ W0.cell? ⟨w.heap.size + 1 + 1 + 1, 1, none⟩ = some v2 ∧ Below w.heap.size w W0 := by
    refine ⟨_, rfl, by simp, ?_, ?_, ?_, ?_, ?_⟩
    · have := Boxed.new (w.alloc (.cells #[v1, v2, v3, .bool r.coll] 111)) 3 (.int .i64 row)
      rw [World.size_alloc] at this
      exact ((this.alloc _).alloc _).alloc _
    · have := Boxed.new ((w.alloc (.cells #[v1, v2, v3, .bool r.coll] 111)).alloc (.cells #[.int .i64 row] 3)) 127 (.slice none 0 0)
      rw [World.size_alloc, World.size_alloc] at this
      exact (this.alloc _).alloc _
    · rw [World.cell?_alloc_at _ _ _ _ (by simp)]; rfl
    · rw [World.cell?_alloc_past _ _ _ (by simp), World.cell?_alloc_at _ _ _ _ (by simp)]; rfl
    · exact ((((((Below.refl _ w).alloc (Nat.le_refl _) _).alloc (by simp) _).alloc (by simp; omega) _).alloc (by simp; omega) _).alloc (by simp; omega) _)
  obtain ⟨W0, e0, hz, hbR, hbO, hcS, hcW, hB0⟩ := F0
  rw [e0]
  clear e0
  generalize e4 : w.heap.size + 1 + 1 + 1 + 1 = b4 at *
  generalize e3 : w.heap.size + 1 + 1 + 1 = b3 at *
  generalize e2 : w.heap.size + 1 + 1 = b2 at *
  generalize e1 : w.heap.size + 1 = b1 at *
  have l1 : b1 < b2 := by omega
  have l2 : b2 < b3 := by omega
  have l3 : b3 < b4 := by omega
  have l4 : b4 < W0.heap.size := by omega
  have l0 : w.heap.size < b1 := by omega
  clear e4 e3 e2 e1 hz
  refine wpIn_rangeFunc_ownH rfl (by omega) (gf := 85) (lb := #[.pointer (some ⟨b4, 0, none⟩), .pointer (some ⟨b3, 0, none⟩)]) rfl trivial (enters_of Try.func85 (by kernel_rfl) rfl)
    (encs := fun x : HalfD => #[x.val]) (Kp := KeepS (fun k => k < w.heap.size ∨ k = b3 ∨ k = b4)) (S := fun ys => ys = halvesD r stack) (Sp := fun _ => True) (N := 2 * stack.length) (w0 := W0)
    (fun l J Jx W hW hJ hJx hY h0 => iter_in 9 (by omega) l w.heap.size b4 b3 (fun k => k < w.heap.size ∨ k = b3 ∨ k = b4) v1 v2 v3 (.slice A stack.length ca) r stack J Jx (fun pre X Y hX hXY => hJ pre X Y none hX (grownBy_below hXY none) (fun r e => by cases e)) (.inr (.inr rfl)) (.inr (.inl rfl)) (fun k hk => .inl hk)
      HR.out HB.out hY W (by have := hW.size; omega) (fun k hk => by have := hW.size; omega) ((hW.cell (p := ⟨b4, 0, none⟩) l4).trans hcS) ((hW.cell (p := ⟨b3, 1, none⟩) (by show b3 < _; omega)).trans hcW)
      (hst.out.below (hB0.trans (hW.mono (by omega)))) (hrib.out.below (hB0.trans (hW.mono (by omega)))) h0)
    (fun h k => h.trans k) (fun W l o o' hl ho _ _ => ⟨by simp, fun k hk => World.putObj_heap_other (by omega)⟩) (Below.refl _ _) (fun _ => rfl)
    (fun pre W => ((∃ u, Boxed W b2 127 u ∧ W.ownsRow W0.heap.size 53 4 u (outD row pre).length (cellsOf (outD row pre)) ∧ True) ∧ Boxed W b1 3 (.int .i64 row)) ∧ (Below w.heap.size w W ∧ W0.heap.size ≤ W.heap.size))
    (fun _ _ _ => False)
    (OwnFrom.and (OwnFrom.and (Own.from (holdsRow_own W0.heap.size b2 _ _ 4 (fun pre => (outD row pre).length) (fun pre => cellsOf (outD row pre)) (fun _ _ => True)) _) (Own.from (boxed_own b1 _ (fun _ => .int .i64 row)) _))
      (OwnFrom.and (ownFrom_below (Nat.le_refl _) (by omega)) (fun _ _ _ _ hs hg _ => Nat.le_trans hs hg.size)))
    (fun _ _ _ _ _ hs _ _ => hs)
    ⟨⟨⟨_, hbO, World.ownsRow_nil _ _ _ _, trivial⟩, hbR⟩, hB0, Nat.le_refl _⟩
    (fun x a' W => ∃ Bx, W0.heap.size ≤ Bx ∧ Box4 W Bx 161 (.int .i64 x.web) (.int .i64 x.col) (.int .i64 x.s0) (.int .i64 x.s1) ∧ a' = { tmps := #[.agg #[v1, v2, v3, .bool r.coll], .slice A stack.length ca, .int .i64 row, .pointer (some ⟨w.heap.size, 0, none⟩), undef, .pointer (some ⟨b1, 0, none⟩), .slice none 0 0, .pointer (some ⟨b2, 0, none⟩), .pointer (some ⟨Bx, 0, none⟩), undef, undef,
      .agg #[v1, v2, v3, .bool r.coll], .slice A stack.length ca, .func (.func 85) #[] #[.pointer (some ⟨b4, 0, none⟩), .pointer (some ⟨b3, 0, none⟩)], x.val, undef, undef, undef, undef, undef, undef, undef, undef, undef, undef, undef, undef, undef, undef, undef, undef, undef], defers := [] })
    (fun x a' _ X Y row hs hg hr => by
      obtain ⟨Bx, h1, h2, h3⟩ := hs
      refine ⟨Bx, h1, (hg.block Bx (Array.getElem?_eq_some_iff.1 h2).1 (fun e => ?_)).trans h2, h3⟩
      obtain ⟨-, o, ho, hc⟩ := hr Bx e.symm
      rw [show X.heap[Bx]? = _ from h2] at ho; cases ho; cases hc)
    ?assign ?body ?done ?stop
  case assign =>
    rintro l pre x W K ⟨⟨⟨u, hu1, hu2, -⟩, hu3⟩, hu4, hu5⟩ hK
    unfold HalfD.val at hK ⊢
    gi_wp2
    exact hK _ _ ((KeepsOthers.alloc _ _).from _) ((KeepS.refl _ W).alloc (fun k hk => by omega) _) ⟨⟨⟨u, hu1.alloc _, hu2.alloc _, trivial⟩, hu3.alloc _⟩, hu4.alloc (by omega) _, by simp; omega⟩ ⟨W.heap.size, hu5, World.alloc_heap_new W _, rfl⟩
  case stop =>
    rintro D c pre W _ _ h _
    exact h.elim
  case done =>
    rintro D ys W hD rfl ⟨⟨⟨u, hu1, hu2, -⟩, hu3⟩, hu4, hu5⟩ hK
    have hc := hu1.cell
    gi_wp2
    refine ⟨by simp, .inl ⟨_, _, rfl, run_takeDeferred hK, ?_⟩⟩
    exact ⟨_, results_tmp rfl _ _ _, u, rfl, ownsRow_base (ownsRow_putObj hu2 _ hK rfl) (by omega), hu4.trans (belowK_b (w := w) (Nat.le_refl _) W D _ _ (by omega) hK rfl rfl)⟩
  case body =>
    rintro l pre x a' W hl ⟨rr, hr⟩ ⟨⟨⟨u, hu1, hu2, -⟩, hu3⟩, hu4, hu5⟩ ⟨Bx, hBx, bX, rfl⟩ hlen
    have hol := outD_len row pre
    have hcount : (outD row pre).length ≤ 4000000 := by omega
    have Hol := Lib.hid hol
    clear hol
    have x2 : W.cell? ⟨Bx, 2, none⟩ = some (.int .i64 x.s0) := bX.cell 2
    have x3 : W.cell? ⟨Bx, 3, none⟩ = some (.int .i64 x.s1) := bX.cell 3
    gi_wp2
    clear x2 x3
    gi_loopw [17] (fun i wr => ∃ k : Nat, k ≤ 2 ∧ i = .int .i64 k ∧ (∃ u, Boxed wr b2 127 u ∧ wr.ownsRow W0.heap.size 53 4 u ((outD row pre).length + k) (cellsOf (outD row pre ++ (halfSpots row x).take k))) ∧ Boxed wr b1 3 (.int .i64 row) ∧
      Box4 wr Bx 161 (.int .i64 x.web) (.int .i64 x.col) (.int .i64 x.s0) (.int .i64 x.s1) ∧ KeepsFrom W0.heap.size W wr ∧ KeepS (fun k => k < w.heap.size ∨ k = b3 ∨ k = b4) W wr ∧ Below w.heap.size w wr ∧ W0.heap.size ≤ wr.heap.size) (fun i _ => 2 - (intOf i).toNat)
    case atStart => exact ⟨0, by omega, rfl, ⟨u, hu1, by simpa using hu2⟩, hu3, bX, KeepsFrom.refl _ _, KeepS.refl _ _, hu4, hu5⟩
    case round =>
      clear hu1 hu2 hu3 hu4 hu5 bX
      obtain ⟨k, hk, rfl, ⟨u, hu1, hu2⟩, hu3, bX, hkf, hks, hu4, hu5⟩ := hrel
      have hc := hu1.cell
      have hr1 := hu3.cell
      have x0 : wr.cell? ⟨Bx, 0, none⟩ = some (.int .i64 x.web) := bX.cell 0
      have x1 : wr.cell? ⟨Bx, 1, none⟩ = some (.int .i64 x.col) := bX.cell 1
      obtain rfl | rfl | rfl : k = 0 ∨ k = 1 ∨ k = 2 := by omega
      · have HE : Hid (cellsOf (outD row pre ++ (halfSpots row x).take 0) ++ [.int .i64 x.web, .int .i64 x.s0, .int .i64 row, .int .i64 x.col] = cellsOf (outD row pre ++ (halfSpots row x).take 1)) := by
          show cellsOf (outD row pre ++ (halfSpots row x).take 0) ++ [.int .i64 x.web, .int .i64 x.s0, .int .i64 row, .int .i64 x.col] = cellsOf (outD row pre ++ (halfSpots row x).take 1)
          simp [cellsOf, halfSpots, SpotD.cells]
        gi_wp2_with (gi_at_builtin; refine wpListIn_append_own _ rfl _ _ 127 rfl W0.heap.size 53 i0 (.agg #[.int .i64 0, .int .i64 0, .int .i64 0, .int .i64 0]) 4 32 Try.underlying127 hi hz0 hz1 hz2 rfl (by decide) _ _ _ rfl (hu2.alloc _) ⟨wr.heap.size, 0, none⟩ 1 1 [.int .i64 x.web, .int .i64 x.s0, .int .i64 row, .int .i64 x.col] rfl rfl (cells_new _ _ _) (by simp [Value.oneCell']) (by simp only [maxLen]; omega) (by omega) (by simp; omega) ?_; intro v' w1 hown' hgrow _; obtain ⟨g', cap', rfl⟩ := ownsRow_succ hown'; have hv1 := (appended2 hu1 (by decide) hu2 hown' hgrow).1; have hc1 := hv1.cell; have hf1 := hv1.frozen; have HS := Lib.hid (step_in l0 l1 l2 l3 l4 hBx (by decide) (by decide) (by decide) hu1 hu2 hu3 bX hkf hks hu4 hu5 hown' hgrow HE.out))
        obtain ⟨hs1, hs2, hs3, hs4, hs5, hs6, hs7⟩ := HS.out
        go_roundw
        case rel => exact ⟨1, by omega, rfl, hs1, hs2, hs3, hs4, hs5, hs6, hs7⟩
        case measure => simp [intOf]
      · have HE : Hid (cellsOf (outD row pre ++ (halfSpots row x).take 1) ++ [.int .i64 x.web, .int .i64 x.s1, .int .i64 row, .int .i64 x.col] = cellsOf (outD row pre ++ (halfSpots row x).take 2)) := by
          show cellsOf (outD row pre ++ (halfSpots row x).take 1) ++ [.int .i64 x.web, .int .i64 x.s1, .int .i64 row, .int .i64 x.col] = cellsOf (outD row pre ++ (halfSpots row x).take 2)
          simp [cellsOf, halfSpots, SpotD.cells]
        gi_wp2_with (gi_at_builtin; refine wpListIn_append_own _ rfl _ _ 127 rfl W0.heap.size 53 i0 (.agg #[.int .i64 0, .int .i64 0, .int .i64 0, .int .i64 0]) 4 32 Try.underlying127 hi hz0 hz1 hz2 rfl (by decide) _ _ _ rfl (hu2.alloc _) ⟨wr.heap.size, 0, none⟩ 1 1 [.int .i64 x.web, .int .i64 x.s1, .int .i64 row, .int .i64 x.col] rfl rfl (cells_new _ _ _) (by simp [Value.oneCell']) (by simp only [maxLen]; omega) (by omega) (by simp; omega) ?_; intro v' w1 hown' hgrow _; obtain ⟨g', cap', rfl⟩ := ownsRow_succ hown'; have hv1 := (appended2 hu1 (by decide) hu2 hown' hgrow).1; have hc1 := hv1.cell; have hf1 := hv1.frozen; have HS := Lib.hid (step_in l0 l1 l2 l3 l4 hBx (by decide) (by decide) (by decide) hu1 hu2 hu3 bX hkf hks hu4 hu5 hown' hgrow HE.out))
        obtain ⟨hs1, hs2, hs3, hs4, hs5, hs6, hs7⟩ := HS.out
        go_roundw
        case rel => exact ⟨2, by omega, rfl, hs1, hs2, hs3, hs4, hs5, hs6, hs7⟩
        case measure => simp [intOf]
      · have HE : Hid (outD row pre ++ (halfSpots row x).take 2 = outD row (pre ++ [x])) := by
          show outD row pre ++ (halfSpots row x).take 2 = outD row (pre ++ [x])
          rw [outD_snoc]; rfl
        have HN : Hid ((outD row (pre ++ [x])).length = (outD row pre).length + 2) := by
          show (outD row (pre ++ [x])).length = (outD row pre).length + 2
          rw [outD_snoc, List.length_append]; rfl
        have HF : (∃ u, Boxed wr b2 127 u ∧ wr.ownsRow W0.heap.size 53 4 u (outD row (pre ++ [x])).length (cellsOf (outD row (pre ++ [x]))) ∧ True) := ⟨u, hu1, by rw [HN.out, ← HE.out]; exact hu2, trivial⟩
        have HF2 := Lib.hid HF
        clear HF
        gi_wp2
        exact ⟨hkf, hks, ⟨HF2.out, hu3⟩, hu4, hu5⟩
end Go.Proofs.Ytdbfhdncjblleaa
