/-
  FoldFills, plain: a run is filled in one way only; the cells of a run of one's own that the law writes.
-/
import Derived.Test.YtdbfhdncjblleaaSc
import Derived.Test.YtdbfhdncjblleaaKp
import Derived.Test.YtdbfhdncjblleaaRw
namespace Go.Proofs.Ytdbfhdncjblleaa
open Go.RowKit

theorem filled_webs {r r' : RunD} {product : List (List Int)} (h : Filled r product r') : r' = { r with webs := r'.webs } := by
  obtain ⟨h1, h2, h3, -⟩ := h
  cases r'
  cases r
  simp only at h1 h2 h3
  subst h1 h2 h3
  rfl
theorem filled_same {r r1 r2 : RunD} {product : List (List Int)} (h : checkE r = 0) (h1 : Filled r product r1) (h2 : Filled r product r2) : r1 = r2 := by
  have e : r1.webs = r2.webs := by
    refine List.ext_getElem? fun m => ?_
    rcases Nat.lt_or_ge m r.webs.length with hm | hm
    · obtain ⟨x, hx⟩ : ∃ x, r.webs[m]? = some x := ⟨_, List.getElem?_eq_getElem hm⟩
      obtain ⟨x1, a1, a2, a3, a4⟩ := h1.2.2.2.1.2 m x hx
      obtain ⟨x2, b1, b2, b3, b4⟩ := h2.2.2.2.1.2 m x hx
      rw [a1, b1]
      have hp : x1.plates = x2.plates := by
        refine List.ext_getElem? fun k => ?_
        rcases Nat.lt_or_ge k x.plates.length with hk | hk
        · obtain ⟨s, p, hm2, ho, ek⟩ := place_of h hx hk
          obtain ⟨y1, c1, -, -, -, c2⟩ := filled_plate h1 hm2 ho
          obtain ⟨y2, d1, -, -, -, d2⟩ := filled_plate h2 hm2 ho
          rw [ek] at c2 d2
          obtain rfl := Option.some.inj (a1.symm.trans c1)
          obtain rfl := Option.some.inj (b1.symm.trans d1)
          rw [c2, d2]
        · rw [List.getElem?_eq_none (by omega), List.getElem?_eq_none (by omega)]
      cases x1
      cases x2
      simp only at a2 a3 b2 b3 hp
      rw [a2, a3, b2, b3, hp]
    · rw [List.getElem?_eq_none (by have := h1.2.2.2.1.1; omega), List.getElem?_eq_none (by have := h2.2.2.2.1.1; omega)]
  rw [filled_webs h1, filled_webs h2, e]
theorem small_filled {r r' : RunD} {product : List (List Int)} (hs : SmallRun r) (h : Filled r product r') : SmallRun r' := by
  obtain ⟨h1, h2, h3, h4, -⟩ := h
  refine ⟨by rw [h4.1]; exact hs.1, by rw [h1]; exact hs.2.1, by rw [h2]; exact hs.2.2.1, fun x hx => ?_, by rw [h2]; exact hs.2.2.2.2⟩
  obtain ⟨i, hi, rfl⟩ := List.getElem_of_mem hx
  obtain ⟨y, hy⟩ : ∃ y, r.webs[i]? = some y := ⟨_, List.getElem?_eq_getElem (by rw [← h4.1]; exact hi)⟩
  obtain ⟨x', k1, -, -, k4⟩ := h4.2 i y hy
  rw [List.getElem?_eq_getElem hi] at k1
  injection k1 with k1
  rw [k1, k4]
  exact hs.2.2.2.1 y (List.mem_of_getElem? hy)
theorem small_turn {r : RunD} (hs : SmallRun r) (i : Int) : SmallRun (turnD r i) :=
  ⟨hs.1, by unfold turnD; simp only [List.length_set]; exact hs.2.1, hs.2.2.1, hs.2.2.2.1, hs.2.2.2.2⟩
def zeroRun : RunD := ⟨[], [], [], false⟩
theorem zero_small : SmallRun zeroRun := ⟨by decide, by decide, by decide, fun x hx => by simp [zeroRun] at hx, fun x hx => by simp [zeroRun] at hx⟩
theorem zero_own {B : Nat} {w : World} : ORun B w runRet0 zeroRun :=
  ⟨.slice none 0 0, [], .slice none 0 0, .slice none 0 0, rfl, ⟨World.ownsRow_nil _ _ _ _, rfl, fun i u x h => by simp at h, fun i j u u' g h => by simp at h⟩, World.ownsRow_nil _ _ _ _, ⟨[], OAll.nil⟩⟩
theorem right_form (r : RunD) (product : List (List Int)) : ∃ b z, rightV r product = .tuple #[.bool b, .int .i64 z] := by
  unfold rightV
  split
  · exact ⟨_, _, rfl⟩
  · split
    · exact ⟨_, _, rfl⟩
    · split
      · exact ⟨_, _, rfl⟩
      · exact ⟨_, _, rfl⟩
theorem orun_reads {b : Nat} {w : World} {v : Value} {r : RunD} (h : ORun b w v r) : RRun w.heap.size w v r := by
  obtain ⟨v1, vs, v2, v3, rfl, ⟨h1, h2, h3, -⟩, h4, ws, h5⟩ := h
  exact ⟨_, _, _, rfl, ⟨vs, Rd.own h1 (own_le h1), h2, fun i u x hu hx => Rd.own (h3 i u x hu hx) (own_le (h3 i u x hu hx))⟩, Rd.own h4 (own_le h4), OAll.reads h5 fun _ _ hr => Rd.own hr (own_le hr)⟩
theorem orunR_reads {b : Nat} {w : World} {v1 v2 v3 : Value} {vs : List Value} {r : RunD} (h1 : OWebsR b w v1 vs r.webs) (h2 : ORibsR b w v2 r.ribs) (h3 : RIntss w.heap.size w v3 r.stacks) : RRun w.heap.size w (.agg #[v1, v2, v3, .bool r.coll]) r :=
  ⟨_, _, _, rfl, h1.reads, Rd.own h2 (own_le h2), h3⟩
theorem fill_ret {r : RunD} {product : List (List Int)} {w w' : World} {e : Ending} (h : FillRet r product w e w') : ∃ u ra, e = .returned (.tuple #[u, .int .i64 (fillE r product)]) ∧ ORun w.heap.size w' u ra ∧ (fillE r product = 0 → Filled r product ra) ∧ (fillE r product ≠ 0 → ra = zeroRun) ∧ Below w.heap.size w w' := by
  obtain ⟨u, he, h0, h1, hb⟩ := h
  by_cases hf : fillE r product = 0
  · obtain ⟨r', h2, h3⟩ := h0 hf
    exact ⟨u, r', he, h3, fun _ => h2, fun h => absurd hf h, hb⟩
  · rw [h1 hf] at he
    exact ⟨_, zeroRun, he, zero_own, fun h => absurd h hf, fun _ => rfl, hb⟩
theorem rfill_ret {A3 : Option Addr} {c3 : Nat} {r : RunD} {product : List (List Int)} {w w' : World} {e : Ending} (h : RFillRet A3 c3 r product w e w') (hst : RIntss w.heap.size w (.slice A3 r.stacks.length c3) r.stacks) :
    ∃ u ra, e = .returned (.tuple #[u, .int .i64 (fillE r product)]) ∧ RRun w'.heap.size w' u ra ∧ (fillE r product = 0 → Filled r product ra) ∧ (fillE r product ≠ 0 → ra = zeroRun) ∧ Below w.heap.size w w' := by
  obtain ⟨u, he, h0, h1, hb⟩ := h
  by_cases hf : fillE r product = 0
  · obtain ⟨r', v1, vs, v2, h2, rfl, h3, h4⟩ := h0 hf
    refine ⟨_, r', he, ?_, fun _ => h2, fun h => absurd hf h, hb⟩
    have e2 := h2.2.1
    have e3 := h2.2.2.1
    have := orunR_reads (r := r') (v3 := .slice A3 r.stacks.length c3) h3 h4 (by rw [e2]; exact (hst.below hb).more hb.size)
    rwa [e3] at this
  · rw [h1 hf] at he
    exact ⟨_, zeroRun, he, orun_reads (b := w'.heap.size) zero_own, fun h => absurd h hf, fun _ => rfl, hb⟩
theorem turn_ret {r : RunD} {i : Int} {w w' : World} {e : Ending} (h : TurnRet r i w e w') : ∃ u, e = .returned (.tuple #[u, .int .i64 (turnE r i)]) ∧ ORun w.heap.size w' u (if turnE r i = 0 then turnD r i else zeroRun) ∧ Below w.heap.size w w' := by
  obtain ⟨u, he, h0, h1, hb⟩ := h
  by_cases hf : turnE r i = 0
  · rw [if_pos hf]
    exact ⟨u, he, h0 hf, hb⟩
  · rw [h1 hf] at he
    rw [if_neg hf]
    exact ⟨_, he, zero_own, hb⟩
theorem rturn_ret {A3 : Option Addr} {c3 : Nat} {r : RunD} {i : Int} {w w' : World} {e : Ending} (h : RTurnRet A3 c3 r i w e w') (hst : RIntss w.heap.size w (.slice A3 r.stacks.length c3) r.stacks) :
    ∃ u, e = .returned (.tuple #[u, .int .i64 (turnE r i)]) ∧ RRun w'.heap.size w' u (if turnE r i = 0 then turnD r i else zeroRun) ∧ Below w.heap.size w w' := by
  obtain ⟨u, he, h0, h1, hb⟩ := h
  by_cases hf : turnE r i = 0
  · rw [if_pos hf]
    obtain ⟨v1, vs, v2, rfl, h3, h4⟩ := h0 hf
    exact ⟨_, he, orunR_reads (r := turnD r i) (v3 := .slice A3 r.stacks.length c3) h3 h4 ((hst.below hb).more hb.size), hb⟩
  · rw [h1 hf] at he
    rw [if_neg hf]
    exact ⟨_, he, orun_reads (b := w'.heap.size) zero_own, hb⟩

/-! ### The cells that the law writes -/
theorem blk_set {X : World} {g : Nat} {t : TypeId} {cs : Array Value} (h : Blk X g t cs) (g' o : Nat) (z : Value) : ∃ cs', Blk (X.setCell ⟨g', o, none⟩ z) g t cs' ∧ cs'.size = cs.size := by
  by_cases e : g = g'
  · subst e
    exact ⟨_, h.put o z, by simp⟩
  · exact ⟨cs, h.far (p := ⟨g', o, none⟩) e z, rfl⟩
/-- The webs of a run: each with a row of plates that may be written. -/
def WSh (B : Nat) (X : World) (A : Option Addr) (n : Nat) (T : Nat → Option Addr × Nat × Nat) : Prop :=
  ∀ i, i < n → ∃ g cs, A = some ⟨g, 0, none⟩ ∧ Blk X g 87 cs ∧ cs[i * 3 + 2]? = some (.slice (T i).1 (T i).2.1 (T i).2.2) ∧ (T i).2.1 ≤ 1000 ∧
    ∀ k, k < (T i).2.1 → ∃ g2 cs2, (T i).1 = some ⟨g2, 0, none⟩ ∧ B ≤ g2 ∧ Blk X g2 89 cs2 ∧ k * 2 < cs2.size
def RbSh (B : Nat) (X : World) (A : Option Addr) (n : Nat) : Prop :=
  ∀ i, i < n → ∃ g cs, A = some ⟨g, 0, none⟩ ∧ B ≤ g ∧ Blk X g 91 cs ∧ i * 5 + 1 < cs.size
theorem WSh.set {B : Nat} {X : World} {A : Option Addr} {n : Nat} {T : Nat → Option Addr × Nat × Nat} (h : WSh B X A n T) {g' : Nat} {t : TypeId} {c : Array Value} (hb : Blk X g' t c) (ht : t ≠ 87) (o : Nat) (z : Value) : WSh B (X.setCell ⟨g', o, none⟩ z) A n T := fun i hi => by
  obtain ⟨g, cs, rfl, h1, h2, h3, h4⟩ := h i hi
  refine ⟨g, cs, rfl, h1.far (p := ⟨g', o, none⟩) (blk_ne h1 hb (Ne.symm ht)) z, h2, h3, fun k hk => ?_⟩
  obtain ⟨g2, cs2, e, h5, h6, h7⟩ := h4 k hk
  obtain ⟨cs', h8, h9⟩ := blk_set h6 g' o z
  exact ⟨g2, cs', e, h5, h8, by omega⟩
theorem RbSh.set {B : Nat} {X : World} {A : Option Addr} {n : Nat} (h : RbSh B X A n) (g' o : Nat) (z : Value) : RbSh B (X.setCell ⟨g', o, none⟩ z) A n := fun i hi => by
  obtain ⟨g, cs, rfl, h1, h2, h3⟩ := h i hi
  obtain ⟨cs', h8, h9⟩ := blk_set h2 g' o z
  exact ⟨g, cs', rfl, h1, h8, by omega⟩
theorem WSh.below {B : Nat} {X X' : World} {A : Option Addr} {n : Nat} {T : Nat → Option Addr × Nat × Nat} (h : WSh B X A n T) (hb : Below X.heap.size X X') : WSh B X' A n T := fun i hi => by
  obtain ⟨g, cs, rfl, h1, h2, h3, h4⟩ := h i hi
  refine ⟨g, cs, rfl, h1.below hb h1.lt, h2, h3, fun k hk => ?_⟩
  obtain ⟨g2, cs2, e, h5, h6, h7⟩ := h4 k hk
  exact ⟨g2, cs2, e, h5, h6.below hb h6.lt, h7⟩
theorem RbSh.below {B : Nat} {X X' : World} {A : Option Addr} {n : Nat} (h : RbSh B X A n) (hb : Below X.heap.size X X') : RbSh B X' A n := fun i hi => by
  obtain ⟨g, cs, rfl, h1, h2, h3⟩ := h i hi
  exact ⟨g, cs, rfl, h1, h2.below hb h2.lt, h3⟩
theorem row_blk {B k n c g : Nat} {X : World} {e : TypeId} {xs : List Value} (h : X.ownsRow B e k (.slice (some ⟨g, 0, none⟩) n c) n xs) : ∃ cs, Blk X g e cs := by
  rcases h.2 with ⟨h2, -⟩ | ⟨g', cap, cur, he, hb, hh, -⟩
  · cases h2
  · cases he
    exact ⟨cur, hh⟩
theorem row_size {B k n c g : Nat} {X : World} {e : TypeId} {xs : List Value} (h : X.ownsRow B e k (.slice (some ⟨g, 0, none⟩) n c) n xs) {cs : Array Value} (hb : Blk X g e cs) {j : Nat} {u : Value} (hj : xs[j]? = some u) : cs[j]? = some u := by
  have := h.cells (g := g) rfl j u hj
  rw [add0] at this
  rw [← hb.cell j]; exact this
theorem owebs_at {base : Nat} {w : World} {v : Value} {vs : List Value} {l : List WebD} (h : OWebs base w v vs l) {m : Nat} {x : WebD} (hx : l[m]? = some x) :
    ∃ u, vs[m]? = some u ∧ OPlates base w u x.plates ∧ ∀ g n c, v = .slice (some ⟨g, 0, none⟩) n c → w.cell? ⟨g, m * 3 + 2, none⟩ = some u := by
  obtain ⟨h1, h2, h3, h4⟩ := h
  have hm := (List.getElem?_eq_some_iff.1 hx).1
  have hv : vs[m]? = some (vs[m]'(by omega)) := List.getElem?_eq_getElem (by omega)
  refine ⟨_, hv, h3 m _ x hv hx, fun g n c e => ?_⟩
  subst e
  obtain ⟨u, k1, -, -, -, k2⟩ := OWebs.at ⟨h1, h2, h3, h4⟩ hx
  obtain rfl := Option.some.inj (k1.symm.trans hv)
  exact k2
theorem orun_shape {B : Nat} {X : World} {u : Value} {r : RunD} (h : ORun B X u r) (hs : SmallRun r) : ∃ A1 c1 A2 c2 A3 c3 T, u = .agg #[.slice A1 r.webs.length c1, .slice A2 r.ribs.length c2, .slice A3 r.stacks.length c3, .bool r.coll] ∧ WSh B X A1 r.webs.length T ∧ RbSh B X A2 r.ribs.length := by
  obtain ⟨v1, vs, v2, v3, rfl, hW, hR, ws, hS⟩ := h
  obtain ⟨A1, c1, rfl⟩ := ownsRow_form hW.1
  obtain ⟨A2, c2, rfl⟩ := ownsRow_form hR
  obtain ⟨A3, c3, rfl⟩ := ownsRow_form hS.1
  have hT : ∀ i, ∃ t : Option Addr × Nat × Nat, ∀ x : WebD, r.webs[i]? = some x → vs[i]? = some (Value.slice t.1 t.2.1 t.2.2) ∧ t.2.1 = x.plates.length := fun i => by
    rcases Nat.lt_or_ge i r.webs.length with hi | hi
    · obtain ⟨x, hx⟩ : ∃ x, r.webs[i]? = some x := ⟨_, List.getElem?_eq_getElem hi⟩
      obtain ⟨u, hu, hop, -⟩ := owebs_at hW hx
      obtain ⟨A, c, rfl⟩ := ownsRow_form hop
      refine ⟨(A, x.plates.length, c), fun y hy => ?_⟩
      obtain rfl := Option.some.inj (hx.symm.trans hy)
      exact ⟨hu, rfl⟩
    · exact ⟨(none, 0, 0), fun x hx => by rw [List.getElem?_eq_none hi] at hx; cases hx⟩
  obtain ⟨T, hT⟩ := Classical.skolem.1 hT
  refine ⟨A1, c1, A2, c2, A3, c3, T, rfl, fun i hi => ?_, fun i hi => ?_⟩
  · obtain ⟨x, hx⟩ : ∃ x, r.webs[i]? = some x := ⟨_, List.getElem?_eq_getElem hi⟩
    obtain ⟨g, rfl, -, -⟩ := ownsRow_block hW.1 (by omega)
    obtain ⟨cs, hcs⟩ := row_blk hW.1
    obtain ⟨t1, t2⟩ := hT i x hx
    obtain ⟨u, hu, hop, j2⟩ := owebs_at hW hx
    have j2 := j2 _ _ _ rfl
    obtain rfl := Option.some.inj (t1.symm.trans hu)
    rw [hcs.cell] at j2
    refine ⟨g, cs, rfl, hcs, j2, by rw [t2]; exact hs.2.2.2.1 x (List.mem_of_getElem? hx), fun k hk => ?_⟩
    rw [t2] at hop hk
    obtain ⟨g2, e2, hg2, -⟩ := ownsRow_block hop (by omega)
    rw [e2] at hop
    obtain ⟨cs2, hcs2⟩ := row_blk hop
    have hf := flat_at PlateD.cells 2 (fun _ => rfl) x.plates k 0 _ (List.getElem?_eq_getElem hk) (by omega)
    have := row_size hop hcs2 (j := k * 2) hf
    exact ⟨g2, cs2, e2, hg2, hcs2, (Array.getElem?_eq_some_iff.1 this).1⟩
  · obtain ⟨g, rfl, hg, -⟩ := ownsRow_block hR (by omega)
    obtain ⟨cs, hcs⟩ := row_blk hR
    have hf := flat_at RibD.cells 5 (fun _ => rfl) r.ribs i 1 _ (List.getElem?_eq_getElem hi) (by omega)
    have := row_size hR hcs hf
    exact ⟨g, cs, rfl, hg, hcs, (Array.getElem?_eq_some_iff.1 this).1⟩

/-- A run as it lies in the row that the law goes over. -/
structure YRun where
  A1 : Option Addr
  n1 : Nat
  c1 : Nat
  A2 : Option Addr
  n2 : Nat
  c2 : Nat
  A3 : Option Addr
  n3 : Nat
  c3 : Nat
  coll : Bool
  T : Nat → Option Addr × Nat × Nat
def YRun.cells (y : YRun) : List Value := [.slice y.A1 y.n1 y.c1, .slice y.A2 y.n2 y.c2, .slice y.A3 y.n3 y.c3, .bool y.coll]
def MSt (w : World) (gS : Nat) (y0 y1 : YRun) (X : World) : Prop :=
  Below w.heap.size w X ∧ Blk X gS 36 (y0.cells ++ y1.cells).toArray ∧ (WSh w.heap.size X y0.A1 y0.n1 y0.T ∧ RbSh w.heap.size X y0.A2 y0.n2) ∧ WSh w.heap.size X y1.A1 y1.n1 y1.T ∧ RbSh w.heap.size X y1.A2 y1.n2
theorem MSt.below {w X X' : World} {gS : Nat} {y0 y1 : YRun} (h : MSt w gS y0 y1 X) (hb : Below X.heap.size X X') : MSt w gS y0 y1 X' := by
  obtain ⟨h1, h2, ⟨h3, h4⟩, h5, h6⟩ := h
  exact ⟨h1.trans (hb.mono h1.size), h2.below hb h2.lt, ⟨h3.below hb, h4.below hb⟩, h5.below hb, h6.below hb⟩
theorem MSt.set {w X : World} {gS : Nat} {y0 y1 : YRun} (h : MSt w gS y0 y1 X) {g' : Nat} {t : TypeId} {c : Array Value} (hb : Blk X g' t c) (ht : t ≠ 87) (ht2 : t ≠ 36) (hg : w.heap.size ≤ g') (o : Nat) (z : Value) : MSt w gS y0 y1 (X.setCell ⟨g', o, none⟩ z) := by
  obtain ⟨h1, h2, ⟨h3, h4⟩, h5, h6⟩ := h
  exact ⟨h1.setCell (p := ⟨g', o, none⟩) hg z, h2.far (p := ⟨g', o, none⟩) (blk_ne h2 hb (Ne.symm ht2)) z, ⟨h3.set hb ht o z, h4.set g' o z⟩, h5.set hb ht o z, h6.set g' o z⟩
/-- One of the two. -/
def yAt (y0 y1 : YRun) (j : Nat) : YRun := if j = 0 then y0 else y1
theorem MSt.at {w X : World} {gS : Nat} {y0 y1 : YRun} (h : MSt w gS y0 y1 X) {j : Nat} (hj : j < 2) :
    X.cell? ⟨gS, j * 4, none⟩ = some (.slice (yAt y0 y1 j).A1 (yAt y0 y1 j).n1 (yAt y0 y1 j).c1) ∧ X.cell? ⟨gS, j * 4 + 1, none⟩ = some (.slice (yAt y0 y1 j).A2 (yAt y0 y1 j).n2 (yAt y0 y1 j).c2) ∧ X.cell? ⟨gS, j * 4 + 2, none⟩ = some (.slice (yAt y0 y1 j).A3 (yAt y0 y1 j).n3 (yAt y0 y1 j).c3) ∧ X.cell? ⟨gS, j * 4 + 3, none⟩ = some (.bool (yAt y0 y1 j).coll) ∧
    WSh w.heap.size X (yAt y0 y1 j).A1 (yAt y0 y1 j).n1 (yAt y0 y1 j).T ∧ RbSh w.heap.size X (yAt y0 y1 j).A2 (yAt y0 y1 j).n2 := by
  obtain ⟨h1, h2, ⟨h3, h4⟩, h5, h6⟩ := h
  rcases (show j = 0 ∨ j = 1 by omega) with rfl | rfl
  · exact ⟨cellOf h2 _ rfl, cellOf h2 _ rfl, cellOf h2 _ rfl, cellOf h2 _ rfl, h3, h4⟩
  · exact ⟨cellOf h2 _ rfl, cellOf h2 _ rfl, cellOf h2 _ rfl, cellOf h2 _ rfl, h5, h6⟩
end Go.Proofs.Ytdbfhdncjblleaa
