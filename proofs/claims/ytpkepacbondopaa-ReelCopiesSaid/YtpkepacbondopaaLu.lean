/-
  A round of thrown: the spans of one web.
-/
import Derived.RangeFuncFrom
import Derived.Test.YtpkepacbondopaaLi
import Derived.Test.YtpkepacbondopaaLj
import Derived.Test.YtpkepacbondopaaLl
import Derived.Test.YtpkepacbondopaaTi
import Derived.Test.YtpkepacbondopaaLv
import Derived.Sort.CutIn
namespace Go.Proofs.Ytpkepacbondopaa
open Go.RowKit Go.Shelf
attribute [local go_sem] Oper.semAt_some

def firstRegion : Code → Option Nat
  | .region i _ _ => some i
  | .seq a _ => firstRegion a
  | .cond _ a _ => firstRegion a
  | .loop c => firstRegion c
  | .block _ c => firstRegion c
  | .scope c => firstRegion c
  | _ => none
def loopAt (n : Nat) : Code → Option Code
  | .seq a b => match loopAt n a with
    | some c => some c
    | none => loopAt n b
  | .cond _ a b => match loopAt n a with
    | some c => some c
    | none => loopAt n b
  | .loop c => if firstRegion c = some n then some c else loopAt n c
  | .block _ c => loopAt n c
  | .scope c => loopAt n c
  | _ => none
noncomputable def thLoop (k : Nat) : Code := (Try.f74.body.bind (loopAt k)).getD .skip

/-- What a splice throws out of the first n copies. -/
def clipS (p : PressD) (n : Int) (x : WebD) (a : Int) : Option Sp :=
  if max (p.span x a).lo 0 ≤ min (p.span x a).hi (n - 1) then some ⟨max (p.span x a).lo 0, min (p.span x a).hi (n - 1)⟩ else none
def webSpans (p : PressD) (n : Int) (x : WebD) : List Sp := if x.before + x.after = 0 then [] else x.places.filterMap (clipS p n x)
def spansTo (p : PressD) (n : Int) (k : Nat) : List Sp := (p.webs.take k).flatMap (webSpans p n)
theorem spansTo_next {p : PressD} {n : Int} {k : Nat} {x : WebD} (h : p.webs[k]? = some x) : spansTo p n (k + 1) = spansTo p n k ++ webSpans p n x := by
  unfold spansTo
  rw [take_snoc_get h, List.flatMap_append]
  simp
theorem webSpans_none {p : PressD} {n : Int} {x : WebD} (h : x.before + x.after = 0) : webSpans p n x = [] := by unfold webSpans; rw [if_pos h]
theorem webSpans_some {p : PressD} {n : Int} {x : WebD} (h : ¬ x.before + x.after = 0) : webSpans p n x = x.places.filterMap (clipS p n x) := by unfold webSpans; rw [if_neg h]

/-- The blocks of deferred calls that the ranges have laid. -/
def DsOk (base : Nat) (ds : List Deferred) (X : World) : Prop := ∃ Ds : List Nat, ds = Ds.map (fun D => { target := .collected D, args := #[] }) ∧ Ds.Nodup ∧ ∀ D ∈ Ds, base ≤ D ∧ X.heap[D]? = some (.deferred (some []))
/-- What lies there between two webs. -/
structure ThSt (w : World) (p : PressD) (u : Value) (n : Int) (ds : List Deferred) (l : List Sp) (X : World) : Prop where
  below_ : Below w.heap.size w X
  press : Blk X w.heap.size 24 #[.int .i64 p.cut, .int .i64 p.margin, u]
  num : Blk X (w.heap.size + 1) 3 #[.int .i64 n]
  defs : DsOk w.heap.size ds X
  row : ∃ v, Blk X (w.heap.size + 1 + 1) 41 #[v] ∧ OSpans w.heap.size X v l
theorem DsOk.keep {base : Nat} {ds : List Deferred} {X Y : World} (h : DsOk base ds X) (hk : ∀ D, base ≤ D → X.heap[D]? = some (.deferred (some [])) → Y.heap[D]? = X.heap[D]?) : DsOk base ds Y := by
  obtain ⟨Ds, h1, h2, h3⟩ := h
  exact ⟨Ds, h1, h2, fun D hD => ⟨(h3 D hD).1, (hk D (h3 D hD).1 (h3 D hD).2).trans (h3 D hD).2⟩⟩
theorem ThSt.below {w : World} {p : PressD} {u : Value} {n : Int} {ds : List Deferred} {l : List Sp} {X Y : World} (h : ThSt w p u n ds l X) (hb : Below X.heap.size X Y) : ThSt w p u n ds l Y := by
  obtain ⟨h1, h2, h3, h4, v, h5, h6⟩ := h
  exact ⟨h1.trans (hb.mono h1.size), h2.below hb h2.lt, h3.below hb h3.lt, h4.keep fun D _ hD => hb.block D (Array.getElem?_eq_some_iff.1 hD).1, v, h5.below hb h5.lt, ownsRow_below h6 hb⟩
theorem blk_grown {X Y : World} {b : Nat} {t : TypeId} {cs : Array Value} {row : Option Nat} {B : Nat} (h : Blk X b t cs) (hg : X.grownBy Y row) (hr : ∀ r, row = some r → B ≤ r ∧ ∃ o : Obj, X.heap[r]? = some o ∧ o.isCells = false) : Blk Y b t cs := by
  refine (hg.block b h.lt fun e => ?_).trans h
  obtain ⟨-, o, ho, hc⟩ := hr b e.symm
  have := h.symm.trans ho
  simp at this
  subst this
  cases hc
theorem ThSt.grown {w : World} {p : PressD} {u : Value} {n : Int} {ds : List Deferred} {l : List Sp} {X Y : World} {row : Option Nat} {B : Nat} (h : ThSt w p u n ds l X) (hg : X.grownBy Y row) (hr : ∀ r, row = some r → B ≤ r ∧ ∃ o : Obj, X.heap[r]? = some o ∧ o.isCells = false) (hB : w.heap.size ≤ B)
    (hlt : ∀ D, ({ target := .collected D, args := #[] } : Deferred) ∈ ds → D < B) : ThSt w p u n ds l Y := by
  obtain ⟨h1, h2, h3, ⟨Ds, h4, h4n, h4a⟩, v, h5, h6⟩ := h
  refine ⟨h1.grown hg h1.size (fun j hj => by have := (hr j hj).1; omega), blk_grown h2 hg hr, blk_grown h3 hg hr, ⟨Ds, h4, h4n, fun D hD => ⟨(h4a D hD).1, ?_⟩⟩, v, blk_grown h5 hg hr, ?_⟩
  · have hD' : D < B := hlt D (by rw [h4]; exact List.mem_map.2 ⟨D, hD, rfl⟩)
    refine (hg.block D (Array.getElem?_eq_some_iff.1 (h4a D hD).2).1 fun e => ?_).trans (h4a D hD).2
    have := (hr D e.symm).1
    omega
  · refine ownsRow_keptBut h6 (KeptBut.grown (S := fun k => some k = row) hg fun k hk => hk) fun g cs _ hB' e => ?_
    obtain ⟨-, o, ho, hc⟩ := hr g e.symm
    have := hB'.symm.trans ho
    simp at this
    subst this
    cases hc
theorem ThSt.lt {w : World} {p : PressD} {u : Value} {n : Int} {ds : List Deferred} {l : List Sp} {X : World} (h : ThSt w p u n ds l X) : ∀ D, ({ target := .collected D, args := #[] } : Deferred) ∈ ds → D < X.heap.size := by
  intro D hD
  obtain ⟨Ds, h4, -, h4a⟩ := h.defs
  rw [h4] at hD
  obtain ⟨D', hD', e⟩ := List.mem_map.1 hD
  cases e
  exact (Array.getElem?_eq_some_iff.1 (h4a D hD').2).1
/-- A range more has laid its block. -/
theorem ThSt.range {w : World} {p : PressD} {u : Value} {n : Int} {ds : List Deferred} {l : List Sp} {X : World} {D : Nat} (h : ThSt w p u n ds l X) (hlt : ∀ D', ({ target := .collected D', args := #[] } : Deferred) ∈ ds → D' < D) (hw : w.heap.size ≤ D) (hK : X.heap[D]? = some (.deferred (some []))) : ThSt w p u n ({ target := .collected D, args := #[] } :: ds) l X := by
  obtain ⟨h1, h2, h3, ⟨Ds, h4, h4n, h4a⟩, h5⟩ := h
  refine ⟨h1, h2, h3, ⟨D :: Ds, by rw [h4]; rfl, List.nodup_cons.2 ⟨fun hD => ?_, h4n⟩, fun D' hD => ?_⟩, h5⟩
  · have := hlt D (by rw [h4]; exact List.mem_map.2 ⟨D, hD, rfl⟩)
    omega
  · rcases List.mem_cons.1 hD with rfl | hD
    · exact ⟨hw, hK⟩
    · exact h4a D' hD
theorem spansTo_len {p : PressD} {n : Int} (hp : p.Ok) (k : Nat) : (spansTo p n k).length ≤ 120 := by
  unfold spansTo
  rw [List.length_flatMap]
  have h1 : ∀ x ∈ p.webs.take k, (webSpans p n x).length ≤ 20 := fun x hx => by
    unfold webSpans
    split
    · simp
    · refine Nat.le_trans (List.length_filterMap_le _ _) ?_
      unfold WebD.places
      rw [placesTo_len]
      have := hp.reels x (List.mem_of_mem_take hx)
      omega
  have h2 : ∀ (l : List WebD), (∀ x ∈ l, (webSpans p n x).length ≤ 20) → (l.map fun x => (webSpans p n x).length).sum ≤ 20 * l.length := by
    intro l
    induction l with
    | nil => intro _; simp
    | cons y l ih =>
      intro h
      have h3 := h y (List.mem_cons_self ..)
      have h4 := ih fun x hx => h x (List.mem_cons_of_mem _ hx)
      simp only [List.map_cons, List.sum_cons, List.length_cons]
      omega
  have h3 := h2 _ h1
  have h4 : (p.webs.take k).length ≤ 6 := Nat.le_trans (List.length_take_le' ..) hp.webs.2
  omega
theorem span_bound {p : PressD} {x : WebD} {y : Int} (hp : p.Ok) (hx : x.ok) (hy : 0 ≤ y ∧ y ≤ 400000000) : (-400000 ≤ (y - x.before - x.off) / p.cut - p.margin ∧ (y - x.before - x.off) / p.cut - p.margin ≤ 400000000) ∧ (-400000 ≤ (y + x.after - 1 - x.off) / p.cut + p.margin ∧ (y + x.after - 1 - x.off) / p.cut + p.margin ≤ 420000000) := by
  obtain ⟨⟨h1, h2⟩, ⟨h3, h4⟩, h5, h6⟩ := hx
  have hc := hp.cut
  have hm := hp.margin
  have a1 : -300000 ≤ (y - x.before - x.off) / p.cut := Int.le_ediv_of_mul_le (by omega) (by omega)
  have a2 : (y - x.before - x.off) / p.cut ≤ 400000000 := Int.ediv_le_of_le_mul (by omega) (by omega)
  have a3 : -300000 ≤ (y + x.after - 1 - x.off) / p.cut := Int.le_ediv_of_mul_le (by omega) (by omega)
  have a4 : (y + x.after - 1 - x.off) / p.cut ≤ 410000000 := Int.ediv_le_of_le_mul (by omega) (by omega)
  omega

theorem ownsRow_own {w : World} {base k n g : Nat} {e : TypeId} {v : Value} {xs : List Value} (h : w.ownsRow base e k v n xs) (hg : v.ownBlock = some g) : base ≤ g ∧ ∃ cs, Blk w g e cs := by
  rcases h.2 with h2 | ⟨g', cap, cur, rfl, hb, hg', -⟩
  · rw [h2.1] at hg; cases hg
  · cases hg
    exact ⟨hb, _, hg'⟩
/-- A round that throws a span. -/
theorem ThSt.next {w : World} {p : PressD} {u : Value} {n : Int} {ds : List Deferred} {L : List Sp} {Y WF Z : World} {WB : Nat} {wcs : Array Value} {tmp : Obj} {v v' : Value} {s : Sp} (h : ThSt w p u n ds L Y) (hw : Blk Y WB 47 wcs) (hb : Below Y.heap.size Y WF)
    (hv : Blk Y (w.heap.size + 1 + 1) 41 #[v]) (hO : OSpans w.heap.size Y v L) (hg : (WF.alloc tmp).grownBy Z v.ownBlock) (ho : Z.ownsRow w.heap.size 45 2 v' (L.length + 1) (L.flatMap Sp.cells ++ [.int .i64 s.lo, .int .i64 s.hi])) :
    KeepsOthers Y (Z.setCell ⟨w.heap.size + 1 + 1, 0, none⟩ v') ∧ KpR w.heap.size Y (Z.setCell ⟨w.heap.size + 1 + 1, 0, none⟩ v') ∧ ThSt w p u n ds (L ++ [s]) (Z.setCell ⟨w.heap.size + 1 + 1, 0, none⟩ v') ∧ Blk (Z.setCell ⟨w.heap.size + 1 + 1, 0, none⟩ v') WB 47 wcs := by
  have hS : ∀ k, some k = v.ownBlock → w.heap.size ≤ k ∧ ∃ cs, Blk Y k 45 cs := fun k hk => ownsRow_own hO hk.symm
  have hK1 : KeptBut (fun k => some k = v.ownBlock) Y Z := by
    have h1 : KeptBut (fun k => some k = v.ownBlock) Y (WF.alloc tmp) := (KeptBut.mono (S := fun _ => False) ⟨(hb.alloc hb.size tmp).os, (hb.alloc hb.size tmp).tape, (hb.alloc hb.size tmp).output, (hb.alloc hb.size tmp).size, fun k hk _ => (hb.alloc hb.size tmp).block k hk⟩ fun _ _ h => h.elim)
    exact h1.trans (KeptBut.grown (S := fun k => some k = v.ownBlock) hg fun k hk => hk) fun i _ hi => hi
  have hK : KeptBut (fun k => k = w.heap.size + 1 + 1 ∨ some k = v.ownBlock) Y (Z.setCell ⟨w.heap.size + 1 + 1, 0, none⟩ v') :=
    (hK1.mono fun i _ hi => Or.inr hi).trans (KeptBut.setCell (S := fun k => k = w.heap.size + 1 + 1) rfl v') fun i _ hi => Or.inl hi
  have hSt : ∀ k t cs, Blk Y k t cs → (k = w.heap.size + 1 + 1 ∨ some k = v.ownBlock) → t = 41 ∨ t = 45 := fun k t cs hB hk => by
    rcases hk with rfl | hk
    · have := hB.symm.trans hv
      simp at this
      exact .inl this.2
    · obtain ⟨-, cs', hB'⟩ := hS k hk
      have := hB.symm.trans hB'
      simp at this
      exact .inr this.2
  have hbk : ∀ k t cs, Blk Y k t cs → t ≠ 41 → t ≠ 45 → Blk (Z.setCell ⟨w.heap.size + 1 + 1, 0, none⟩ v') k t cs := fun k t cs hB h1 h2 => hK.blk hB fun hk => (hSt k t cs hB hk).elim h1 h2
  obtain ⟨h1, h2, h3, ⟨Ds, h4, h4n, h4a⟩, -⟩ := h
  have hoth : KeepsOthers Y (Z.setCell ⟨w.heap.size + 1 + 1, 0, none⟩ v') := ⟨hK.size, fun k o hk hc => (hK.block k (Array.getElem?_eq_some_iff.1 hk).1 fun hk' => by
    rcases hk' with rfl | hk'
    · have := hk.symm.trans hv
      simp at this
      subst this
      cases hc
    · obtain ⟨-, cs', hB'⟩ := hS k hk'
      have := hk.symm.trans hB'
      simp at this
      subst this
      cases hc).trans hk⟩
  have hZ : Blk Z (w.heap.size + 1 + 1) 41 #[v] := hK1.blk hv fun hk => by
    obtain ⟨-, cs', hB'⟩ := hS _ hk
    have := hv.symm.trans hB'
    simp at this
  refine ⟨hoth, ⟨hK.below (fun k hk => ?_) h1.size, fun g cs fr hg => hK.block g (Array.getElem?_eq_some_iff.1 hg).1 fun hk => ?_⟩, ⟨h1.trans (hK.below (fun k hk => ?_) h1.size), hbk _ _ _ h2 (by decide) (by decide), hbk _ _ _ h3 (by decide) (by decide), ⟨Ds, h4, h4n, fun D hD => ⟨(h4a D hD).1, hoth.same D _ (h4a D hD).2 rfl⟩⟩, v', ?_, ?_⟩, hbk _ _ _ hw (by decide) (by decide)⟩
  · rcases hk with rfl | hk
    · omega
    · exact (hS k hk).1
  · rcases hk with rfl | hk
    · have := hg.symm.trans hv
      simp at this
    · obtain ⟨-, cs', hB'⟩ := hS _ hk
      have := hg.symm.trans hB'
      simp at this
  · rcases hk with rfl | hk
    · omega
    · exact (hS k hk).1
  · exact hZ.put 0 v'
  · have ho' : OSpans w.heap.size Z v' (L ++ [s]) := by
      unfold OSpans
      rw [List.flatMap_append, List.length_append]
      exact ho
    refine ownsRow_keptBut ho' (KeptBut.setCell (S := fun k => k = w.heap.size + 1 + 1) rfl v') fun g cs _ hB e => ?_
    subst e
    have := hZ.symm.trans hB
    simp at this
theorem KeepsOthers.of_below {Y W : World} (h : Below Y.heap.size Y W) : KeepsOthers Y W := ⟨h.size, fun k o hk _ => (h.block k (Array.getElem?_eq_some_iff.1 hk).1).trans hk⟩
theorem KpR.of_below {n₀ : Nat} {Y W : World} (h : Below Y.heap.size Y W) (hn : n₀ ≤ Y.heap.size) : KpR n₀ Y W := ⟨⟨h.os, h.tape, h.output, h.size, fun k hk => h.block k (by omega)⟩, fun g cs fr hg => h.block g (Array.getElem?_eq_some_iff.1 hg).1⟩


set_option maxRecDepth 1000000 in
set_option maxHeartbeats 4000000 in
theorem thrown_round (u0 u1 u4 u6 u7 u8 u9 u10 u14 u15 u16 u17 u18 u19 u20 u21 u22 u23 u24 u25 u26 u27 u28 u29 u30 u31 u32 u33 u34 u35 u36 u37 u38 u39 u40 u41 u42 u43 u44 u45 u46 u47 u48 u49 u50 u51 u52 u53 : Value) {p : PressD} {n : Int} {m c k : Nat} {A : Option Addr} {ds : List Deferred} {w X : World} {Q : Exit → Act → World → Prop}
    (hp : Hid p.Ok) (hn : 0 ≤ n ∧ n ≤ 1000000) (hm : Hid (p.webs.length = m)) (hm6 : m ≤ 6) (hk : k < m) (hW : Hid (RWebs w.heap.size w (.slice A m c) p.webs)) (hst : Hid (ThSt w p (.slice A m c) n ds (spansTo p n k) X))
    (hQ : Hid (∀ (x7 x8 x9 x14 x15 x16 x17 x18 x19 x20 x21 x22 x23 x24 x25 x26 x27 x28 x29 x30 x31 x32 x33 x34 x35 x36 x37 x38 x39 x40 x41 x42 x43 x44 x45 x46 x47 x48 x49 : Value) (ds' : List Deferred) (Y : World), ThSt w p (.slice A m c) n ds' (spansTo p n (k + 1)) Y → Q .normal ⟨List.toArray (u0 :: u1 :: (.pointer (some ⟨w.heap.size, 0, none⟩)) :: (.pointer (some ⟨w.heap.size + 1, 0, none⟩)) :: u4 :: (.pointer (some ⟨w.heap.size + 1 + 1, 0, none⟩)) :: u6 :: x7 :: x8 :: x9 :: u10 :: (.slice A m c) :: (.int .i64 (m : Int)) :: (.int .i64 ((k : Int) + 1)) :: x14 :: x15 :: x16 :: x17 :: x18 :: x19 :: x20 :: x21 :: x22 :: x23 :: x24 :: x25 :: x26 :: x27 :: x28 :: x29 :: x30 :: x31 :: x32 :: x33 :: x34 :: x35 :: x36 :: x37 :: x38 :: x39 :: x40 :: x41 :: x42 :: x43 :: x44 :: x45 :: x46 :: x47 :: x48 :: x49 :: u50 :: u51 :: u52 :: u53 :: []), ds'⟩ Y)) :
    Code.wp Try.prog (thLoop 3) Q ⟨List.toArray (u0 :: u1 :: (.pointer (some ⟨w.heap.size, 0, none⟩)) :: (.pointer (some ⟨w.heap.size + 1, 0, none⟩)) :: u4 :: (.pointer (some ⟨w.heap.size + 1 + 1, 0, none⟩)) :: u6 :: u7 :: u8 :: u9 :: u10 :: (.slice A m c) :: (.int .i64 (m : Int)) :: (.int .i64 (k : Int)) :: u14 :: u15 :: u16 :: u17 :: u18 :: u19 :: u20 :: u21 :: u22 :: u23 :: u24 :: u25 :: u26 :: u27 :: u28 :: u29 :: u30 :: u31 :: u32 :: u33 :: u34 :: u35 :: u36 :: u37 :: u38 :: u39 :: u40 :: u41 :: u42 :: u43 :: u44 :: u45 :: u46 :: u47 :: u48 :: u49 :: u50 :: u51 :: u52 :: u53 :: []), ds⟩ X := by
  have hki : (k : Int) < (m : Int) := by omega
  obtain ⟨x, hx⟩ : ∃ x, p.webs[k]? = some x := ⟨_, List.getElem?_eq_getElem (by rw [hm.out]; exact hk)⟩
  have hmem := List.mem_of_getElem? hx
  have hxo := hp.out.web x hmem
  have hxr := hp.out.reel x hmem
  have hxl := hp.out.reels x hmem
  obtain ⟨A', c', e1, -, hr⟩ := hW.out.open_
  injection e1 with e1 e2 e3
  subst e1
  subst e3
  obtain ⟨b, o, A2, c2', rfl, hb, c0, c1, c2, c3, hrr⟩ := hr k x hx
  have hBw := hst.out.below_
  rw [← hBw.cell (p := ⟨b, o + k * 4, none⟩) hb] at c0
  rw [← hBw.cell (p := ⟨b, o + k * 4 + 1, none⟩) hb] at c1
  rw [← hBw.cell (p := ⟨b, o + k * 4 + 2, none⟩) hb] at c2
  rw [← hBw.cell (p := ⟨b, o + k * 4 + 3, none⟩) hb] at c3
  have F1 : ∃ X1, X.alloc (.cells #[.slice A2 x.reels.length c2', .int .i64 x.off, .int .i64 x.before, .int .i64 x.after] 47) = X1 ∧ Below X.heap.size X X1 ∧ Blk X1 X.heap.size 47 #[.slice A2 x.reels.length c2', .int .i64 x.off, .int .i64 x.before, .int .i64 x.after] := ⟨_, rfl, below_alloc _ _, Blk.new _ _ _⟩
  obtain ⟨X1, e1, hb1, B1⟩ := F1
  have HRR := Lib.hid hrr
  have E1 := Lib.hid e1
  have HK1 := Lib.hid B1
  have HB1 := Lib.hid hb1
  have HS1 := Lib.hid (hst.out.below hb1)
  have HX := Lib.hid (spansTo_next (n := n) hx)
  have HXO := Lib.hid hxo
  have HXR := Lib.hid hxr
  have HXL := Lib.hid hxl
  clear hx hmem hxr hxl hr hBw hb1 e1 hrr e2
  obtain ⟨⟨ho1, ho2⟩, ⟨hb1, hb2⟩, ha1, ha2⟩ := hxo
  conv => arg 2; whnf
  go_upto_region 5 with fail
  rw [E1.out]
  clear c0 c1 c2 c3
  have d0 := cellOf B1 0 (x := .slice A2 x.reels.length c2') rfl
  have d1 := cellOf B1 1 (x := .int .i64 x.off) rfl
  have d2 := cellOf B1 2 (x := .int .i64 x.before) rfl
  have d3 := cellOf B1 3 (x := .int .i64 x.after) rfl
  clear B1
  by_cases hz : x.before + x.after = 0
  · have hz' : (x.before + x.after == 0) = true := by simpa using hz
    have HN : Hid (ThSt w p (.slice (some ⟨b, o, none⟩) m c) n ds (spansTo p n (k + 1)) X1) := by show ThSt _ _ _ _ _ _ _; rw [HX.out, webSpans_none hz]; simpa using HS1.out
    clear hz
    go_wp2_with fail
    exact hQ.out _ _ _ _ _ _ _ _ _ _ _ _ _ _ _ _ _ _ _ _ _ _ _ _ _ _ _ _ _ _ _ _ _ _ _ _ _ _ _ _ _ HN.out
  have hz' : (x.before + x.after == 0) = false := by simpa using hz
  have HZ := Lib.hid hz
  clear hz
  go_wp2_with fail
  refine (splices_any x A2 x.reels.length c2' _).mono ?_
  rintro _ W3 ⟨rfl, hW3⟩
  have hb3 : Below X1.heap.size X1 W3 := by rw [hW3]; exact below_alloc _ _
  have hK3 : Blk W3 X1.heap.size 47 #[.slice A2 x.reels.length c2', .int .i64 x.off, .int .i64 x.before, .int .i64 x.after] := by rw [hW3]; exact Blk.new _ _ _
  have HK3 := Lib.hid hK3
  have HS3 := Lib.hid (HS1.out.below hb3)
  have HKw := Lib.hid (HK1.out.below hb3 HK1.out.lt)
  clear hW3 hb3 hK3 d0 d1 d2 d3
  obtain ⟨WB, hWB⟩ : ∃ b, X.heap.size = b := ⟨_, rfl⟩
  obtain ⟨SW, hSW⟩ : ∃ b, X1.heap.size = b := ⟨_, rfl⟩
  rw [hWB] at HKw
  rw [hSW] at HK3
  have hnW : w.heap.size ≤ W3.heap.size := HS3.out.below_.size
  have hrW : RReels w.heap.size W3 (.slice A2 x.reels.length c2') x.reels := Rd.below HRR.out HS3.out.below_
  have hseq := splices_stops 9 (by omega) x A2 c2' SW w.heap.size W3 HK3.out.lt hnW (cellOf HK3.out 0 rfl) hrW HXR.out HXL.out
  have HLt := Lib.hid HS3.out.lt
  have hI0 : ThSt w p (.slice (some ⟨b, o, none⟩) m c) n ds (spansTo p n k ++ (([] : List Pl).map (·.1)).filterMap (clipS p n x)) W3 ∧ Blk W3 WB 47 #[.slice A2 x.reels.length c2', .int .i64 x.off, .int .i64 x.before, .int .i64 x.after] := ⟨by simpa using HS3.out, HKw.out⟩
  go_wp2_with fail
  have HWB := Lib.hid hWB
  have HSW := Lib.hid hSW
  clear hWB hSW
  refine (wpIn_wide (n := 10)).1 ?_
  refine wpIn_rangeFunc_ownF rfl (by omega) (gf := 121) (lb := #[.pointer (some ⟨SW, 0, none⟩)]) rfl trivial (enters_of Try.func121 (by kernel_rfl) rfl)
    hseq KpR.trans (KpR.putObj hnW) (Below.refl _ _) (fun _ => rfl)
    (fun pre Y => ThSt w p (.slice (some ⟨b, o, none⟩) m c) n ds (spansTo p n k ++ (pre.map (·.1)).filterMap (clipS p n x)) Y ∧ Blk Y WB 47 #[.slice A2 x.reels.length c2', .int .i64 x.off, .int .i64 x.before, .int .i64 x.after]) (fun _ _ _ => False)
    (fun s A B row hs hg hr => ⟨hs.1.grown hg hr hnW HLt.out, blk_grown hs.2 hg hr⟩) (fun _ _ _ _ _ hs _ _ => hs) hI0
    (fun y : Pl => { tmps := List.toArray (u0 :: u1 :: (.pointer (some ⟨w.heap.size, 0, none⟩)) :: (.pointer (some ⟨w.heap.size + 1, 0, none⟩)) :: u4 :: (.pointer (some ⟨w.heap.size + 1 + 1, 0, none⟩)) :: u6 :: (.pointer (some ⟨WB, 0, none⟩)) :: (.int .i64 y.1) :: u9 :: u10 :: (.slice (some ⟨b, o, none⟩) m c) :: (.int .i64 (m : Int)) :: (.int .i64 (k : Int)) :: (.bool true) :: (.pointer (some ⟨b, o + k * 4, none⟩)) :: (.agg #[.slice A2 x.reels.length c2', .int .i64 x.off, .int .i64 x.before, .int .i64 x.after]) :: (.pointer (some ⟨WB, 2, none⟩)) :: (.int .i64 x.before) :: (.pointer (some ⟨WB, 3, none⟩)) :: (.int .i64 x.after) :: (.int .i64 (x.before + x.after)) :: (.bool false) :: (.agg #[.slice A2 x.reels.length c2', .int .i64 x.off, .int .i64 x.before, .int .i64 x.after]) :: (.func (.func 121) #[] #[.pointer (some ⟨SW, 0, none⟩)]) :: (.int .i64 y.1) :: u26 :: u27 :: u28 :: u29 :: u30 :: u31 :: u32 :: u33 :: u34 :: u35 :: u36 :: u37 :: u38 :: u39 :: u40 :: u41 :: u42 :: u43 :: u44 :: u45 :: u46 :: u47 :: u48 :: u49 :: u50 :: u51 :: u52 :: u53 :: []), defers := [] }) ?assign ?body ?done ?stop
  case assign =>
    intro l y Y K hK
    gi_wp2
    exact hK
  case body =>
    rintro l pre ⟨y, hy1, hy2⟩ Y ⟨hst9, hw9⟩ hlen
    dsimp only
    obtain ⟨L, hL⟩ : ∃ L, spansTo p n k ++ (pre.map (·.1)).filterMap (clipS p n x) = L := ⟨_, rfl⟩
    have hL2 : spansTo p n k ++ ((pre ++ [(⟨y, hy1, hy2⟩ : Pl)]).map (·.1)).filterMap (clipS p n x) = L ++ (clipS p n x y).toList := by
      have h1 : (([(⟨y, hy1, hy2⟩ : Pl)]).map (·.1)).filterMap (clipS p n x) = (clipS p n x y).toList := by cases h : clipS p n x y <;> simp [h]
      rw [← hL, List.map_append, List.filterMap_append, h1, List.append_assoc]
    have hLl : L.length ≤ 200 := by
      rw [← hL, List.length_append]
      have h1 := spansTo_len (n := n) hp.out k
      have h2 := List.length_filterMap_le (clipS p n x) (pre.map (·.1))
      rw [List.length_map] at h2
      omega
    rw [hL] at hst9
    have HL2 := Lib.hid hL2
    have HS9 := Lib.hid hst9
    have HW9 := Lib.hid hw9
    obtain ⟨v, hSB, hO⟩ := hst9.row
    obtain ⟨Av, cv, rfl⟩ := ownsRow_form hO
    have p0 := cellOf hst9.press 0 (x := .int .i64 p.cut) rfl
    have p1 := cellOf hst9.press 1 (x := .int .i64 p.margin) rfl
    have p2 := cellOf hst9.press 2 (x := .slice (some ⟨b, o, none⟩) m c) rfl
    have x0 := cellOf hw9 0 (x := .slice A2 x.reels.length c2') rfl
    have x1 := cellOf hw9 1 (x := .int .i64 x.off) rfl
    have x2 := cellOf hw9 2 (x := .int .i64 x.before) rfl
    have x3 := cellOf hw9 3 (x := .int .i64 x.after) rfl
    obtain ⟨lo, hlo⟩ : ∃ lo, (y - x.before - x.off) / p.cut - p.margin = lo := ⟨_, rfl⟩
    obtain ⟨hi, hhi⟩ : ∃ hi, (y + x.after - 1 - x.off) / p.cut + p.margin = hi := ⟨_, rfl⟩
    have CT := thrownBy_any p.cut p.margin x.off x.before x.after y (some ⟨b, o, none⟩) A2 m c x.reels.length c2' hp.out.cut hp.out.margin ⟨ho1, ho2⟩ ⟨hb1, hb2⟩ ⟨ha1, ha2⟩ ⟨hy1, hy2⟩ Y
    rw [hlo, hhi] at CT
    have hbd := span_bound hp.out HXO.out ⟨hy1, hy2⟩
    rw [hlo, hhi] at hbd
    have HC : Hid (clipS p n x y = if max lo 0 ≤ min hi (n - 1) then some ⟨max lo 0, min hi (n - 1)⟩ else none) := by show _ = _; unfold clipS PressD.span; rw [hlo, hhi]
    have CT := Lib.hid CT
    have HO := Lib.hid hO
    have HSB := Lib.hid hSB
    clear hL hL2 hst9 hw9 hlen hlo hhi hO hSB hI0 hseq hrW
    gi_wp2_with fail
    refine ⟨trivial, (CallsIn.inRound l (callsIn_wide.2 CT.out)).mono ?_⟩
    rintro _ Y1 ⟨rfl, hb9⟩
    clear p0 p1 p2 x0 x1 x2 x3
    have F2 : ∃ Y2, Y1.alloc (.cells #[.int .i64 lo, .int .i64 hi] 45) = Y2 ∧ Below Y1.heap.size Y1 Y2 ∧ Blk Y2 Y1.heap.size 45 #[.int .i64 lo, .int .i64 hi] := ⟨_, rfl, below_alloc _ _, Blk.new _ _ _⟩
    obtain ⟨Y2, e2, hb2, B2⟩ := F2
    have E2 := Lib.hid e2
    have hY2 : Below Y.heap.size Y Y2 := hb9.trans (hb2.mono hb9.size)
    have HY2 := Lib.hid hY2
    have HS2 := Lib.hid (HS9.out.below hY2)
    have HW2 := Lib.hid (HW9.out.below hY2 HW9.out.lt)
    have HK2 := Lib.hid B2
    have hYY1 := hb9.size
    clear e2 hb2 hb9 hY2
    gi_upto_region 9 with fail
    rw [E2.out]
    have n0 := cellOf HS2.out.num 0 (x := .int .i64 n) rfl
    have hne : w.heap.size + 1 ≠ Y1.heap.size := by
      have := HS2.out.num
      intro h
      rw [h] at this
      have h2 := this.symm.trans B2
      simp at h2
    have kw : IntKind.i64.wrap (n - 1) = n - 1 := IntWalk.i64_in _ ⟨by omega, by omega⟩
    obtain ⟨lo', hlo'⟩ : ∃ z, (if lo < 0 then (0 : Int) else lo) = z := ⟨_, rfl⟩
    obtain ⟨hi', hhi'⟩ : ∃ z, (if n - 1 < hi then n - 1 else hi) = z := ⟨_, rfl⟩
    have HC' : Hid (clipS p n x y = if lo' ≤ hi' then some ⟨lo', hi'⟩ else none) := by
      show _ = _
      rw [HC.out, show max lo 0 = lo' by rw [← hlo']; split <;> omega, show min hi (n - 1) = hi' by rw [← hhi']; split <;> omega]
    have B0 : Blk Y2.drew Y1.heap.size 45 #[.int .i64 lo, .int .i64 hi] := B2
    have B0' : Blk (Y2.drew.setCell ⟨Y1.heap.size, 0, none⟩ (.int .i64 lo')) Y1.heap.size 45 #[.int .i64 lo', .int .i64 hi] := B0.put 0 _
    have BF : Blk ((Y2.drew.setCell ⟨Y1.heap.size, 0, none⟩ (.int .i64 lo')).setCell ⟨Y1.heap.size, 1, none⟩ (.int .i64 hi')) Y1.heap.size 45 #[.int .i64 lo', .int .i64 hi'] := B0'.put 1 _
    have hYF : Below Y.heap.size Y ((Y2.drew.setCell ⟨Y1.heap.size, 0, none⟩ (.int .i64 lo')).setCell ⟨Y1.heap.size, 1, none⟩ (.int .i64 hi')) := by
      have hYd : Below Y.heap.size Y Y2.drew := ⟨HY2.out.os, HY2.out.tape, HY2.out.output, HY2.out.size, HY2.out.block⟩
      exact (hYd.setCell (p := ⟨Y1.heap.size, 0, none⟩) hYY1 _).setCell (p := ⟨Y1.heap.size, 1, none⟩) hYY1 _
    have hF : Th9F (w.heap.size + 1) Y1.heap.size lo hi n lo' hi' Y2.drew :=
      ⟨cellOf B0 0 rfl, B0.frozen 0, cellOf B0 1 rfl, n0, (cell_far _ _ _ _ (Ne.symm hne)).trans n0, cellOf B0' 1 rfl, B0'.frozen 1, kw, hlo', hhi'⟩
    refine wpIn_code (d := th9code) (by kernel_rfl) (th9_region hF ?_ rfl)
    obtain ⟨SP, hSP⟩ : ∃ b, Y1.heap.size = b := ⟨_, rfl⟩
    obtain ⟨WF, hWF⟩ : ∃ W, ((Y2.drew.setCell ⟨Y1.heap.size, 0, none⟩ (.int .i64 lo')).setCell ⟨Y1.heap.size, 1, none⟩ (.int .i64 hi')) = W := ⟨_, rfl⟩
    rw [hWF] at BF hYF
    rw [hWF]
    rw [hSP] at BF
    rw [hSP]
    have HSF := Lib.hid (HS9.out.below hYF)
    have HWF := Lib.hid (HW9.out.below hYF HW9.out.lt)
    have HYF := Lib.hid hYF
    have HBF := Lib.hid BF
    have HE1 := Lib.hid hSP
    have HE2 := Lib.hid hWF
    clear hWF hSP BF hYF hF B0 B0' B2 n0 hlo' hhi' kw hne hYY1
    have s0 := cellOf HBF.out 0 (x := .int .i64 lo') rfl
    have s1 := cellOf HBF.out 1 (x := .int .i64 hi') rfl
    by_cases hcc : lo' ≤ hi'
    · obtain ⟨i0, hi0, hz0, hz1, hz2⟩ := info_parts infoSpan
      have HOn := Lib.hid (ownsRow_below HO.out HYF.out)
      have HZn : Hid (w.heap.size ≤ WF.heap.size) := HSF.out.below_.size
      have HLL := Lib.hid hLl
      have HAp : Hid (∀ Z v' tmp, (WF.alloc tmp).grownBy Z (Value.slice Av L.length cv).ownBlock → Z.ownsRow w.heap.size 45 2 v' (L.length + 1) (L.flatMap Sp.cells ++ [.int .i64 lo', .int .i64 hi']) → KeepsOthers Y (Z.setCell ⟨w.heap.size + 1 + 1, 0, none⟩ v') ∧ KpR w.heap.size Y (Z.setCell ⟨w.heap.size + 1 + 1, 0, none⟩ v') ∧ ThSt w p (.slice (some ⟨b, o, none⟩) m c) n ds (L ++ [⟨lo', hi'⟩]) (Z.setCell ⟨w.heap.size + 1 + 1, 0, none⟩ v') ∧ Blk (Z.setCell ⟨w.heap.size + 1 + 1, 0, none⟩ v') WB 47 #[.slice A2 x.reels.length c2', .int .i64 x.off, .int .i64 x.before, .int .i64 x.after]) := fun Z v' tmp hg ho => HS9.out.next HW9.out HYF.out HSB.out HO.out hg ho
      have HCC : Hid (clipS p n x y = some ⟨lo', hi'⟩) := by show _ = _; rw [HC'.out, if_pos hcc]
      have hsb := cellOf (HSB.out.below HYF.out HSB.out.lt) 0 (x := .slice Av L.length cv) rfl
      have hsf := (HSB.out.below HYF.out HSB.out.lt).frozen 0
      have hgrowcell : Hid (∀ tmp Z, (WF.alloc tmp).grownBy Z (Value.slice Av L.length cv).ownBlock → ∃ q, Z.cell? ⟨w.heap.size + 1 + 1, 0, none⟩ = some q ∧ Z.frozen? ⟨w.heap.size + 1 + 1, 0, none⟩ = false) := fun tmp Z hg => by
        have hB0 : Blk (WF.alloc tmp) (w.heap.size + 1 + 1) 41 #[.slice Av L.length cv] := (HSB.out.below HYF.out HSB.out.lt).below (below_alloc _ _) (HSB.out.below HYF.out HSB.out.lt).lt
        have hB1 : Blk Z (w.heap.size + 1 + 1) 41 #[.slice Av L.length cv] := (hg.block _ hB0.lt fun hk => by
          obtain ⟨-, cs', hB'⟩ := ownsRow_own HO.out hk.symm
          have := HSB.out.symm.trans hB'
          simp at this).trans hB0
        exact ⟨_, cellOf hB1 0 rfl, hB1.frozen 0⟩
      clear HSF HSB HO
      gi_wp2_with (gi_at_builtin; refine wpListIn_append_own _ rfl _ _ 41 rfl w.heap.size 45 i0 _ 2 16 sliceSpan hi0 hz0 hz1 hz2 rfl (by decide) (.slice Av L.length cv) L.length (L.flatMap Sp.cells) rfl (HOn.out.alloc _) ⟨WF.heap.size, 0, none⟩ 1 1 [.int .i64 lo', .int .i64 hi'] rfl rfl (cells_new _ _ _) (by simp [Value.oneCell']) (by simp only [maxLen]; omega) (by omega) (by have := HZn.out; simp; omega) ?_; intro v2' w10 hown' hgrow _; obtain ⟨g', cap', rfl⟩ := ownsRow_succ hown'; obtain ⟨q9, c9, f9⟩ := hgrowcell.out _ _ hgrow)
      have hN := HAp.out _ _ _ hgrow hown'
      refine ⟨hN.1, hN.2.1, ?_, hN.2.2.2⟩
      show ThSt w p (.slice (some ⟨b, o, none⟩) m c) n ds (spansTo p n k ++ ((pre ++ [(⟨y, hy1, hy2⟩ : Pl)]).map (·.1)).filterMap (clipS p n x)) _
      rw [HL2.out, HCC.out]
      exact hN.2.2.1
    · have HCC : Hid (clipS p n x y = none) := by show _ = _; rw [HC'.out, if_neg hcc]
      gi_wp2_with fail
      refine ⟨KeepsOthers.of_below HYF.out, KpR.of_below HYF.out HS9.out.below_.size, ?_, HWF.out⟩
      show ThSt w p (.slice (some ⟨b, o, none⟩) m c) n ds (spansTo p n k ++ ((pre ++ [(⟨y, hy1, hy2⟩ : Pl)]).map (·.1)).filterMap (clipS p n x)) _
      rw [HL2.out, HCC.out]
      simpa using HSF.out
  case done =>
    rintro D ys Y hD rfl ⟨hst9, -⟩ hK
    rw [placesS_val HXR.out HXL.out] at hst9
    have HN : Hid (ThSt w p (.slice (some ⟨b, o, none⟩) m c) n ({ target := .collected D, args := #[] } :: ds) (spansTo p n (k + 1)) Y) := by
      show ThSt _ _ _ _ _ _ _
      rw [HX.out, webSpans_some HZ.out]
      exact hst9.range (fun D' hD' => Nat.lt_of_lt_of_le (HLt.out D' hD') hD) (Nat.le_trans hnW hD) hK
    clear hst9 hK hD hI0 hseq hrW
    go_wp2_with fail
    exact hQ.out _ _ _ _ _ _ _ _ _ _ _ _ _ _ _ _ _ _ _ _ _ _ _ _ _ _ _ _ _ _ _ _ _ _ _ _ _ _ _ _ _ HN.out
  case stop =>
    rintro D c pre Y _ _ h _
    exact h.elim
end Go.Proofs.Ytpkepacbondopaa
