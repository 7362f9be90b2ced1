/-
  slices.Clone at three types.
  clone: what it leaves.
  clone: the walk.
  Turn.
-/
import Derived.Lib.SliceRun
import Derived.Deep.DeepCutAuto
import Derived.Deep.AppendLies
import Derived.Deep.RegionLaw
import Derived.Deep.RegionHeld3
import Derived.Deep.RegionWith
import Derived.RegionTactic
import Derived.StillTailTactics
import Derived.Test.YtdbfhdncjblleaaKf
namespace Go.Proofs.Ytdbfhdncjblleaa
open Go.RowKit

theorem rd_slice {B k n : Nat} {w : World} {v : Value} {xs : List Value} (h : Rd B w k v n xs) : ∃ A c, v = .slice A n c ∧ xs.length = n * k ∧ (0 < n → A ≠ none) ∧ ∀ a, A = some a → ∀ j u, xs[j]? = some u → w.cell? (a.add j) = some u := by
  obtain ⟨A, c, rfl, hl, -, hr⟩ := h
  refine ⟨A, c, rfl, hl, fun hn => ?_, fun a ha j u hu => ?_⟩
  · obtain ⟨g, o, rfl, -⟩ := hr hn
    simp
  · have hj : j < xs.length := (List.getElem?_eq_some_iff.1 hu).1
    have hn : 0 < n := by
      rcases Nat.eq_zero_or_pos n with h | h
      · rw [h] at hl; omega
      · exact h
    obtain ⟨g, o, hA, hb, hc⟩ := hr hn
    rw [ha] at hA
    cases hA
    rw [Addr.add_lit]
    exact hc j u hu
def CloneRet (t : TypeId) (k n : Nat) (xs : List Value) (w : World) (e : Ending) (w' : World) : Prop :=
  ∃ v', e = .returned v' ∧ w'.ownsRow w.heap.size t k v' n xs ∧ Below w.heap.size w w'

theorem sliceRibs : Try.prog.underlying 34 = some (.slice 91) := by kernel_rfl
theorem slicePlates : Try.prog.underlying 85 = some (.slice 89) := by kernel_rfl
theorem sliceInts : Try.prog.underlying 48 = some (.slice 3) := by kernel_rfl
theorem infoRib : (Try.prog.info? 91).map (fun i => (i.zero, i.size, i.bytes)) = some (some (.agg #[.int .i64 0, .int .i64 0, .int .i64 0, .bool false, .bool false]), 5, 32) := by kernel_rfl
theorem infoPlate0 : (Try.prog.info? 89).map (fun i => (i.zero, i.size, i.bytes)) = some (some (.agg #[.int .i64 0, .bool false]), 2, 16) := by kernel_rfl
theorem infoInt0 : (Try.prog.info? 3).map (fun i => (i.zero, i.size, i.bytes)) = some (some (.int .i64 0), 1, 8) := by kernel_rfl

set_option maxHeartbeats 2000000 in
set_option maxRecDepth 100000 in
theorem cloneInts_any (v : Value) (n : Nat) (xs : List Value) (w : World) (h : Rd w.heap.size w 1 v n xs) (h1 : ∀ u ∈ xs, u.oneCell' = true) (hn : n ≤ 1000000) :
    Calls Try.prog 77 #[v] w (CloneRet 3 1 n xs w) := by
  obtain ⟨i0, hi, hz0, hz1, hz2⟩ := info_parts infoInt0
  obtain ⟨A, c, rfl, hl, h0, hc⟩ := rd_slice h
  have q : ∀ (w : World) (a : Option Addr) (n c n' c' : Nat), (binOp .eql 48 (.slice a n c) (.slice none n' c')).run Try.prog w = .ok (.bool a.isNone) w := fun w a n c n' c' => Lib.run_eql_slice_nil w _ _ a n c n' c' sliceInts
  have u22 : ∀ w, Sem.run Try.prog (underlying 48) w = .ok (TypeDesc.slice 3) w := run_underlying sliceInts
  rcases A with - | a
  · have : n = 0 := by
      rcases Nat.eq_zero_or_pos n with h | h
      · exact h
      · exact absurd rfl (h0 h)
    subst this
    have hx : xs = [] := List.eq_nil_of_length_eq_zero (by omega)
    subst hx
    clear h h0 hc
    go_enter Try.func77, Try.ntmps77
    go_wp2
    go_ret
    exact ⟨_, rfl, World.ownsRow_nil _ _ _ _, Below.refl _ _⟩
  · have HC := Lib.hid (hc a rfl)
    clear h h0 hc
    go_enter Try.func77, Try.ntmps77
    go_wp2_with (at_builtin; refine wpList_append_own _ rfl _ _ 48 rfl w.heap.size 3 i0 _ 1 8 sliceInts hi hz0 hz1 hz2 rfl (by decide) _ _ _ rfl (World.ownsRow_made w #[] 0 (Nat.le_refl _) (Nat.zero_le _) rfl) a n c xs rfl hl ?qc2 h1 ?qc4 ?qc5 ?qc6 ?_)
    case qc2 =>
      intro j u hj
      exact Lib.cell?_alloc_some _ (HC.out j u hj)
    case qc4 => unfold maxLen; omega
    case qc5 => omega
    case qc6 => simp
    intro v' w1 hown hgrow hnil
    go_wp2
    go_ret
    exact ⟨v', rfl, by simpa using hown, ((Below.refl _ w).alloc (Nat.le_refl _) _).grown hgrow (by simp) (by intro k hk; simp [Value.ownBlock] at hk; omega)⟩

set_option maxHeartbeats 2000000 in
set_option maxRecDepth 100000 in
theorem clonePlates_any (v : Value) (n : Nat) (xs : List Value) (w : World) (h : Rd w.heap.size w 2 v n xs) (h1 : ∀ u ∈ xs, u.oneCell' = true) (hn : n ≤ 1000000) :
    Calls Try.prog 76 #[v] w (CloneRet 89 2 n xs w) := by
  obtain ⟨i0, hi, hz0, hz1, hz2⟩ := info_parts infoPlate0
  obtain ⟨A, c, rfl, hl, h0, hc⟩ := rd_slice h
  have q : ∀ (w : World) (a : Option Addr) (n c n' c' : Nat), (binOp .eql 85 (.slice a n c) (.slice none n' c')).run Try.prog w = .ok (.bool a.isNone) w := fun w a n c n' c' => Lib.run_eql_slice_nil w _ _ a n c n' c' slicePlates
  have u22 : ∀ w, Sem.run Try.prog (underlying 85) w = .ok (TypeDesc.slice 89) w := run_underlying slicePlates
  rcases A with - | a
  · have : n = 0 := by
      rcases Nat.eq_zero_or_pos n with h | h
      · exact h
      · exact absurd rfl (h0 h)
    subst this
    have hx : xs = [] := List.eq_nil_of_length_eq_zero (by omega)
    subst hx
    clear h h0 hc
    go_enter Try.func76, Try.ntmps76
    go_wp2
    go_ret
    exact ⟨_, rfl, World.ownsRow_nil _ _ _ _, Below.refl _ _⟩
  · have HC := Lib.hid (hc a rfl)
    clear h h0 hc
    go_enter Try.func76, Try.ntmps76
    go_wp2_with (at_builtin; refine wpList_append_own _ rfl _ _ 85 rfl w.heap.size 89 i0 _ 2 16 slicePlates hi hz0 hz1 hz2 rfl (by decide) _ _ _ rfl (World.ownsRow_made w #[] 0 (Nat.le_refl _) (Nat.zero_le _) rfl) a n c xs rfl hl ?qc2 h1 ?qc4 ?qc5 ?qc6 ?_)
    case qc2 =>
      intro j u hj
      exact Lib.cell?_alloc_some _ (HC.out j u hj)
    case qc4 => unfold maxLen; omega
    case qc5 => omega
    case qc6 => simp
    intro v' w1 hown hgrow hnil
    go_wp2
    go_ret
    exact ⟨v', rfl, by simpa using hown, ((Below.refl _ w).alloc (Nat.le_refl _) _).grown hgrow (by simp) (by intro k hk; simp [Value.ownBlock] at hk; omega)⟩

set_option maxHeartbeats 2000000 in
set_option maxRecDepth 100000 in
theorem cloneRibs_any (v : Value) (n : Nat) (xs : List Value) (w : World) (h : Rd w.heap.size w 5 v n xs) (h1 : ∀ u ∈ xs, u.oneCell' = true) (hn : n ≤ 1000000) :
    Calls Try.prog 75 #[v] w (CloneRet 91 5 n xs w) := by
  obtain ⟨i0, hi, hz0, hz1, hz2⟩ := info_parts infoRib
  obtain ⟨A, c, rfl, hl, h0, hc⟩ := rd_slice h
  have q : ∀ (w : World) (a : Option Addr) (n c n' c' : Nat), (binOp .eql 34 (.slice a n c) (.slice none n' c')).run Try.prog w = .ok (.bool a.isNone) w := fun w a n c n' c' => Lib.run_eql_slice_nil w _ _ a n c n' c' sliceRibs
  have u22 : ∀ w, Sem.run Try.prog (underlying 34) w = .ok (TypeDesc.slice 91) w := run_underlying sliceRibs
  rcases A with - | a
  · have : n = 0 := by
      rcases Nat.eq_zero_or_pos n with h | h
      · exact h
      · exact absurd rfl (h0 h)
    subst this
    have hx : xs = [] := List.eq_nil_of_length_eq_zero (by omega)
    subst hx
    clear h h0 hc
    go_enter Try.func75, Try.ntmps75
    go_wp2
    go_ret
    exact ⟨_, rfl, World.ownsRow_nil _ _ _ _, Below.refl _ _⟩
  · have HC := Lib.hid (hc a rfl)
    clear h h0 hc
    go_enter Try.func75, Try.ntmps75
    go_wp2_with (at_builtin; refine wpList_append_own _ rfl _ _ 34 rfl w.heap.size 91 i0 _ 5 32 sliceRibs hi hz0 hz1 hz2 rfl (by decide) _ _ _ rfl (World.ownsRow_made w #[] 0 (Nat.le_refl _) (Nat.zero_le _) rfl) a n c xs rfl hl ?qc2 h1 ?qc4 ?qc5 ?qc6 ?_)
    case qc2 =>
      intro j u hj
      exact Lib.cell?_alloc_some _ (HC.out j u hj)
    case qc4 => unfold maxLen; omega
    case qc5 => omega
    case qc6 => simp
    intro v' w1 hown hgrow hnil
    go_wp2
    go_ret
    exact ⟨v', rfl, by simpa using hown, ((Below.refl _ w).alloc (Nat.le_refl _) _).grown hgrow (by simp) (by intro k hk; simp [Value.ownBlock] at hk; omega)⟩

end Go.Proofs.Ytdbfhdncjblleaa
namespace Go.Proofs.Ytdbfhdncjblleaa
open Go.RowKit

def OPlates (base : Nat) (w : World) (v : Value) (l : List PlateD) : Prop := w.ownsRow base 89 2 v l.length (l.flatMap PlateD.cells)
def ORibs (base : Nat) (w : World) (v : Value) (l : List RibD) : Prop := w.ownsRow base 91 5 v l.length (l.flatMap RibD.cells)
def OInts (base : Nat) (w : World) (v : Value) (l : List Int) : Prop := w.ownsRow base 3 1 v l.length (l.map (Value.int .i64))
def OIntss (base : Nat) (w : World) (v : Value) (l : List (List Int)) : Prop := ∃ vs, OAll (OInts base) 48 base w v vs l
def webFlat (l : List WebD) (vs : List Value) : List Value := (l.zip vs).flatMap fun x => webCells x.1 x.2
/-- Webs of one's own; no two webs' plates lie in one block. -/
def OWebs (base : Nat) (w : World) (v : Value) (vs : List Value) (l : List WebD) : Prop :=
  w.ownsRow base 87 3 v l.length (webFlat l vs) ∧ vs.length = l.length ∧ (∀ (i : Nat) (u : Value) (x : WebD), vs[i]? = some u → l[i]? = some x → OPlates base w u x.plates) ∧
    ∀ (i j : Nat) (u u' : Value) (g : Nat), vs[i]? = some u → vs[j]? = some u' → u.ownBlock = some g → u'.ownBlock = some g → i = j
def ORun (base : Nat) (w : World) (v : Value) (r : RunD) : Prop :=
  ∃ v1 vs v2 v3, v = .agg #[v1, v2, v3, .bool r.coll] ∧ OWebs base w v1 vs r.webs ∧ ORibs base w v2 r.ribs ∧ OIntss base w v3 r.stacks

theorem Grew.set {w : World} {B : Nat} {t : TypeId} {cs : Array Value} (h : Blk w B t cs) (j : Nat) (u : Value) : Grew t w (w.setCell ⟨B, j, none⟩ u) := fun g cs' t' fr hg hne => by
  have hgb : g ≠ B := by
    rintro rfl
    unfold Blk at h
    rw [h] at hg
    cases hg
    exact hne rfl
  exact Below.heap_setCell w ⟨B, j, none⟩ u g hgb
theorem Blk.grew {w w1 : World} {B : Nat} {t e : TypeId} {cs : Array Value} (h : Blk w B t cs) (hg : Grew e w w1) (hne : t ≠ e) : Blk w1 B t cs := (hg B cs t (0, 0) h hne).trans h
theorem Grew.alloc {w : World} (e : TypeId) (o : Obj) : Grew e w (w.alloc o) := Grew.of_below ((Below.refl _ _).alloc (Nat.le_refl _) o)

section
variable {base b' : Nat} {w w1 : World} {v : Value} {e : TypeId}
theorem OIntss.grew {l : List (List Int)} (h : OIntss base w v l) (hg : Grew e w w1) (h1 : 48 ≠ e) (h2 : 3 ≠ e) : OIntss base w1 v l := by
  obtain ⟨vs, h⟩ := h
  exact ⟨vs, h.keep hg h1 fun _ _ hr => ownsRow_grew hr hg h2⟩
theorem OIntss.below {l : List (List Int)} (h : OIntss base w v l) (hb : Below w.heap.size w w1) : OIntss base w1 v l := by
  obtain ⟨vs, h⟩ := h
  exact ⟨vs, h.below hb fun _ _ hr => ownsRow_below hr hb⟩
theorem OWebs.grew {vs : List Value} {l : List WebD} (h : OWebs base w v vs l) (hg : Grew e w w1) (h1 : 87 ≠ e) (h2 : 89 ≠ e) : OWebs base w1 v vs l :=
  ⟨ownsRow_grew h.1 hg h1, h.2.1, fun i u x hu hx => ownsRow_grew (h.2.2.1 i u x hu hx) hg h2, h.2.2.2⟩
theorem OWebs.below {vs : List Value} {l : List WebD} (h : OWebs base w v vs l) (hb : Below w.heap.size w w1) : OWebs base w1 v vs l :=
  ⟨ownsRow_below h.1 hb, h.2.1, fun i u x hu hx => ownsRow_below (h.2.2.1 i u x hu hx) hb, h.2.2.2⟩
theorem OWebs.nil : OWebs base w (.slice none 0 0) [] [] := ⟨World.ownsRow_nil _ _ _ _, rfl, fun i u x h => by simp at h, fun i j u u' g h => by simp at h⟩
theorem webFlat_snoc {l : List WebD} {vs : List Value} (h : vs.length = l.length) (x : WebD) (u : Value) : webFlat (l ++ [x]) (vs ++ [u]) = webFlat l vs ++ webCells x u := by
  unfold webFlat
  rw [List.zip_append h.symm, List.flatMap_append]; simp
theorem snoc_get {α : Type} {l : List α} {y x : α} {i : Nat} (h : (l ++ [y])[i]? = some x) : (i < l.length ∧ l[i]? = some x) ∨ (i = l.length ∧ x = y) := by
  rcases Nat.lt_or_ge i l.length with hi | hi
  · rw [List.getElem?_append_left hi] at h
    exact .inl ⟨hi, h⟩
  · rw [List.getElem?_append_right hi] at h
    have h0 : i - l.length = 0 := by
      rcases Nat.eq_zero_or_pos (i - l.length) with h0 | h0
      · exact h0
      · rw [List.getElem?_eq_none (by simp; omega)] at h; cases h
    rw [h0] at h
    simp only [List.getElem?_cons_zero, Option.some.injEq] at h
    exact .inr ⟨by omega, h.symm⟩
/-- One web more: its plates lie in newer memory than all before. -/
theorem OWebs.append {vs : List Value} {l : List WebD} {v' u : Value} {x : WebD} {b0 : Nat} (h : OWebs base w v vs l) (hlt : ∀ (i : Nat) (u' : Value) (g : Nat), vs[i]? = some u' → u'.ownBlock = some g → g < b0)
    (hu : OPlates base w u x.plates) (hge : ∀ g, u.ownBlock = some g → b0 ≤ g) (hg : Grew 87 w w1) (hown : w1.ownsRow base 87 3 v' (l.length + 1) (webFlat l vs ++ webCells x u)) :
    OWebs base w1 v' (vs ++ [u]) (l ++ [x]) := by
  obtain ⟨h1, h2, h3, h4⟩ := h
  refine ⟨by rw [webFlat_snoc h2, List.length_append]; exact hown, by simp [h2], fun i u' x' hu' hx' => ?_, fun i j u1 u2 g hi hj e1 e2 => ?_⟩
  · rcases snoc_get hu' with ⟨hi, hu'⟩ | ⟨hi, rfl⟩
    · rcases snoc_get hx' with ⟨-, hx'⟩ | ⟨hi', -⟩
      · exact ownsRow_grew (h3 i u' x' hu' hx') hg (by decide)
      · omega
    · rcases snoc_get hx' with ⟨hi', -⟩ | ⟨-, rfl⟩
      · omega
      · exact ownsRow_grew hu hg (by decide)
  · rcases snoc_get hi with ⟨hi0, hi1⟩ | ⟨hi0, hi1⟩ <;> rcases snoc_get hj with ⟨hj0, hj1⟩ | ⟨hj0, hj1⟩
    · exact h4 i j u1 u2 g hi1 hj1 e1 e2
    · have h5 := hlt i u1 g hi1 e1
      have h6 := hge g (by rw [← hj1]; exact e2)
      omega
    · have h5 := hlt j u2 g hj1 e2
      have h6 := hge g (by rw [← hi1]; exact e1)
      omega
    · omega
theorem OWebs.lts {vs : List Value} {l : List WebD} (h : OWebs base w v vs l) : ∀ (i : Nat) (u' : Value) (g : Nat), vs[i]? = some u' → u'.ownBlock = some g → g < w.heap.size := fun i u' g hu hg => by
  have hi := (List.getElem?_eq_some_iff.1 hu).1
  have hl := h.2.1
  exact ((h.2.2.1 i u' _ hu (List.getElem?_eq_getElem (by omega))).lt g hg).2
theorem OIntss.append {vs : List Value} {l : List (List Int)} {v' u : Value} {x : List Int} (h : OAll (OInts base) 48 base w v vs l) (hu : OInts base w u x) (hg : Grew 48 w w1) (hown : w1.ownsRow base 48 1 v' (l.length + 1) (vs ++ [u])) : OIntss base w1 v' (l ++ [x]) :=
  ⟨_, h.append (fun _ _ hr => ownsRow_grew hr hg (by decide)) hu hown⟩
end

/-- What clone has made so far. -/
def CloneSt (w : World) (r : RunD) (box : Array Value) (B : Nat) (v1 : Value) (vs : List Value) (l1 : List WebD) (v2 v3 : Value) (l3 : List (List Int)) (X : World) : Prop :=
  Blk X B 36 #[v1, v2, v3, .bool r.coll] ∧ OWebs w.heap.size X v1 vs l1 ∧ ORibs w.heap.size X v2 r.ribs ∧ OIntss w.heap.size X v3 l3 ∧ Below w.heap.size w X ∧
    Blk X w.heap.size 36 box ∧ Blk X (w.heap.size + 1) 36 #[.slice none 0 0, .slice none 0 0, .slice none 0 0, .bool false] ∧ w.heap.size + 1 < B
theorem CloneSt.below {w X X' : World} {r : RunD} {box : Array Value} {B : Nat} {v1 : Value} {vs : List Value} {l1 : List WebD} {v2 v3 : Value} {l3 : List (List Int)} (h : CloneSt w r box B v1 vs l1 v2 v3 l3 X) (hb : Below X.heap.size X X') :
    CloneSt w r box B v1 vs l1 v2 v3 l3 X' := by
  obtain ⟨h1, h2, h3, h4, h5, h6, h7, h8⟩ := h
  exact ⟨h1.below hb h1.lt, h2.below hb, ownsRow_below h3 hb, h4.below hb, h5.trans (hb.mono h5.size), h6.below hb h6.lt, h7.below hb h7.lt, h8⟩
/-- A web is added. -/
theorem CloneSt.web {w X X1 : World} {r : RunD} {box : Array Value} {B : Nat} {v1 v1' u : Value} {vs : List Value} {l1 : List WebD} {v2 v3 : Value} {l3 : List (List Int)} {x : WebD} {b0 : Nat} {tmp : Obj} (h : CloneSt w r box B v1 vs l1 v2 v3 l3 X)
    (hlt : ∀ (i : Nat) (u' : Value) (g : Nat), vs[i]? = some u' → u'.ownBlock = some g → g < b0) (hu : OPlates w.heap.size X u x.plates) (hge : ∀ g, u.ownBlock = some g → b0 ≤ g)
    (hg : (X.alloc tmp).grownBy X1 v1.ownBlock) (hown : X1.ownsRow w.heap.size 87 3 v1' (l1.length + 1) (webFlat l1 vs ++ webCells x u)) :
    CloneSt w r box B v1' (vs ++ [u]) (l1 ++ [x]) v2 v3 l3 (X1.setCell ⟨B, 0, none⟩ v1') := by
  obtain ⟨h1, h2, h3, h4, h5, h6, h7, h8⟩ := h
  have hgr : Grew 87 X X1 := Grew.of_append h2.1 hg
  have hB1 := h1.grew hgr (by decide)
  have hgs := Grew.set hB1 0 v1'
  have hb1 : Below w.heap.size w X1 := (h5.alloc h5.size tmp).grown hg (by have := h5.size; simp; omega) fun k hk => (h2.1.lt k hk).1
  refine ⟨?_, (h2.append hlt hu hge hgr hown).grew hgs (by decide) (by decide), ownsRow_grew (ownsRow_grew h3 hgr (by decide)) hgs (by decide), (h4.grew hgr (by decide) (by decide)).grew hgs (by decide) (by decide), hb1.setCell (p := ⟨B, 0, none⟩) (by show w.heap.size ≤ B; omega) _, (h6.grew hgr (by decide)).far (by show w.heap.size ≠ B; omega) _, (h7.grew hgr (by decide)).far (by show w.heap.size + 1 ≠ B; omega) _, h8⟩
  exact hB1.put 0 v1'
/-- A stack is added. -/
theorem CloneSt.stack {w X X1 : World} {r : RunD} {box : Array Value} {B : Nat} {v1 v3' u : Value} {vs ws : List Value} {l1 : List WebD} {v2 v3 : Value} {l3 : List (List Int)} {x : List Int} {tmp : Obj} (h : CloneSt w r box B v1 vs l1 v2 v3 l3 X)
    (ho : OAll (OInts w.heap.size) 48 w.heap.size X v3 ws l3) (hu : OInts w.heap.size X u x)
    (hg : (X.alloc tmp).grownBy X1 v3.ownBlock) (hown : X1.ownsRow w.heap.size 48 1 v3' (l3.length + 1) (ws ++ [u])) :
    CloneSt w r box B v1 vs l1 v2 v3' (l3 ++ [x]) (X1.setCell ⟨B, 2, none⟩ v3') := by
  obtain ⟨h1, h2, h3, h4, h5, h6, h7, h8⟩ := h
  have hgr : Grew 48 X X1 := Grew.of_append ho.1 hg
  have hB1 := h1.grew hgr (by decide)
  have hgs := Grew.set hB1 2 v3'
  have hb1 : Below w.heap.size w X1 := (h5.alloc h5.size tmp).grown hg (by have := h5.size; simp; omega) fun k hk => (ho.1.lt k hk).1
  refine ⟨?_, (h2.grew hgr (by decide) (by decide)).grew hgs (by decide) (by decide), ownsRow_grew (ownsRow_grew h3 hgr (by decide)) hgs (by decide), (OIntss.append ho hu hgr hown).grew hgs (by decide) (by decide), hb1.setCell (p := ⟨B, 2, none⟩) (by show w.heap.size ≤ B; omega) _, (h6.grew hgr (by decide)).far (by show w.heap.size ≠ B; omega) _, (h7.grew hgr (by decide)).far (by show w.heap.size + 1 ≠ B; omega) _, h8⟩
  exact hB1.put 2 v3'

end Go.Proofs.Ytdbfhdncjblleaa
namespace Go.Proofs.Ytdbfhdncjblleaa
open Go.RowKit

def SmallRun (r : RunD) : Prop := r.webs.length ≤ 1000 ∧ r.ribs.length ≤ 1000 ∧ r.stacks.length ≤ 1000 ∧ (∀ x ∈ r.webs, x.plates.length ≤ 1000) ∧ ∀ s ∈ r.stacks, s.length ≤ 1000
def CloneCut (w : World) (r : RunD) (box : Array Value) (s3 : Value) (wx : World) : Prop :=
  ∃ B v2, s3 = .pointer (some ⟨B, 0, none⟩) ∧ CloneSt w r box B (.slice none 0 0) [] [] v2 (.slice none 0 0) [] wx
theorem clone_cutA {w W0 w4 : World} {r : RunD} {box : Array Value} {u : Value} (z0 : W0.heap.size = w.heap.size + 2) (B0 : Below w.heap.size w W0) (V0 : Blk W0 w.heap.size 36 box) (V1 : Blk W0 (w.heap.size + 1) 36 #[.slice none 0 0, .slice none 0 0, .slice none 0 0, .bool false])
    (h04 : Below W0.heap.size W0 w4) (hu : ORibs w.heap.size w4 u r.ribs) : CloneCut w r box (.pointer (some ⟨w4.heap.size, 0, none⟩)) (w4.alloc (.cells #[.slice none 0 0, u, .slice none 0 0, .bool r.coll] 36)) := by
  have s4 := h04.size
  have hb := B0.trans (h04.mono B0.size)
  have ha : Below w4.heap.size w4 (w4.alloc (.cells #[.slice none 0 0, u, .slice none 0 0, .bool r.coll] 36)) := (Below.refl _ _).alloc (Nat.le_refl _) _
  exact ⟨_, u, rfl, Blk.new _ _ _, OWebs.nil, ownsRow_below hu ha, ⟨[], OAll.nil⟩, hb.trans (ha.mono hb.size), (V0.below h04 (by omega)).alloc _, (V1.below h04 (by omega)).alloc _, by omega⟩
theorem clone_cutB {w W0 w4 : World} {r : RunD} {box : Array Value} {u : Value} (z0 : W0.heap.size = w.heap.size + 2) (B0 : Below w.heap.size w W0) (V0 : Blk W0 w.heap.size 36 box) (V1 : Blk W0 (w.heap.size + 1) 36 #[.slice none 0 0, .slice none 0 0, .slice none 0 0, .bool false])
    (h04 : Below W0.heap.size W0 w4) (hu : ORibs w.heap.size w4 u r.ribs) (z4 : Blk w4 W0.heap.size 36 #[.slice none 0 0, .slice none 0 0, .slice none 0 0, .bool false]) :
    CloneCut w r box (.pointer (some ⟨W0.heap.size, 0, none⟩)) ((((w4.setCell ⟨W0.heap.size, 0, none⟩ (.slice none 0 0)).setCell ⟨W0.heap.size, 1, none⟩ u).setCell ⟨W0.heap.size, 2, none⟩ (.slice none 0 0)).setCell ⟨W0.heap.size, 3, none⟩ (.bool r.coll)) := by
  have s4 := h04.size
  have hb := B0.trans (h04.mono B0.size)
  have k1 := z4.put 0 (.slice none 0 0)
  have k2 := k1.put 1 u
  have k3 := k2.put 2 (.slice none 0 0)
  refine ⟨_, u, rfl, k3.put 3 (.bool r.coll), OWebs.nil, ?_, ⟨[], OAll.nil⟩, below_set4 hb B0.size _ _ _ _, ?_, ?_, by omega⟩
  · exact ownsRow_grew (ownsRow_grew (ownsRow_grew (ownsRow_grew hu (Grew.set z4 0 _) (by decide)) (Grew.set k1 1 _) (by decide)) (Grew.set k2 2 _) (by decide)) (Grew.set k3 3 _) (by decide)
  · have hne : w.heap.size ≠ W0.heap.size := by omega
    exact ((((V0.below h04 (by omega)).far (p := ⟨W0.heap.size, 0, none⟩) hne _).far (p := ⟨W0.heap.size, 1, none⟩) hne _).far (p := ⟨W0.heap.size, 2, none⟩) hne _).far (p := ⟨W0.heap.size, 3, none⟩) hne _
  · have hne : w.heap.size + 1 ≠ W0.heap.size := by omega
    exact ((((V1.below h04 (by omega)).far (p := ⟨W0.heap.size, 0, none⟩) hne _).far (p := ⟨W0.heap.size, 1, none⟩) hne _).far (p := ⟨W0.heap.size, 2, none⟩) hne _).far (p := ⟨W0.heap.size, 3, none⟩) hne _
theorem CloneSt.final {w X : World} {r : RunD} {box : Array Value} {B : Nat} {v1 : Value} {vs : List Value} {v2 v3 : Value} (h : CloneSt w r box B v1 vs r.webs v2 v3 r.stacks X) :
    ORun w.heap.size ((((X.setCell ⟨w.heap.size + 1, 0, none⟩ v1).setCell ⟨w.heap.size + 1, 1, none⟩ v2).setCell ⟨w.heap.size + 1, 2, none⟩ v3).setCell ⟨w.heap.size + 1, 3, none⟩ (.bool r.coll)) (.agg #[v1, v2, v3, .bool r.coll]) r ∧
    Below w.heap.size w ((((X.setCell ⟨w.heap.size + 1, 0, none⟩ v1).setCell ⟨w.heap.size + 1, 1, none⟩ v2).setCell ⟨w.heap.size + 1, 2, none⟩ v3).setCell ⟨w.heap.size + 1, 3, none⟩ (.bool r.coll)) := by
  obtain ⟨h1, h2, h3, h4, h5, h6, h7, h8⟩ := h
  have k1 := h7.put 0 v1
  have k2 := k1.put 1 v2
  have k3 := k2.put 2 v3
  have g1 := Grew.set h7 0 v1
  have g2 := Grew.set k1 1 v2
  have g3 := Grew.set k2 2 v3
  have g4 := Grew.set k3 3 (.bool r.coll)
  have g := ((g1.trans g2).trans g3).trans g4
  exact ⟨⟨v1, vs, v2, v3, rfl, h2.grew g (by decide) (by decide), ownsRow_grew h3 g (by decide), h4.grew g (by decide) (by decide)⟩, below_set4 h5 (by omega) _ _ _ _⟩
theorem rib_cells_one (l : List RibD) : ∀ u ∈ l.flatMap RibD.cells, u.oneCell' = true := fun u hu => by
  obtain ⟨x, -, hx⟩ := List.mem_flatMap.1 hu
  simp only [RibD.cells, List.mem_cons, List.not_mem_nil, or_false] at hx
  rcases hx with rfl | rfl | rfl | rfl | rfl <;> rfl
theorem plate_cells_one (l : List PlateD) : ∀ u ∈ l.flatMap PlateD.cells, u.oneCell' = true := fun u hu => by
  obtain ⟨x, -, hx⟩ := List.mem_flatMap.1 hu
  simp only [PlateD.cells, List.mem_cons, List.not_mem_nil, or_false] at hx
  rcases hx with rfl | rfl <;> rfl
theorem int_cells_one (l : List Int) : ∀ u ∈ l.map (Value.int .i64), u.oneCell' = true := fun u hu => by
  obtain ⟨x, -, rfl⟩ := List.mem_map.1 hu
  rfl

theorem infoWeb0 : (Try.prog.info? 87).map (fun i => (i.zero, i.size, i.bytes)) = some (some (.agg #[.int .i64 0, .int .i64 0, .slice none 0 0]), 3, 40) := by kernel_rfl
theorem infoInts0 : (Try.prog.info? 48).map (fun i => (i.zero, i.size, i.bytes)) = some (some (.slice none 0 0), 1, 24) := by kernel_rfl
theorem RRun.webs {B : Nat} {w : World} {r : RunD} {v1 v2 v3 : Value} (h : RRun B w (.agg #[v1, v2, v3, .bool r.coll]) r) : RWebs B w v1 r.webs := by
  obtain ⟨u1, u2, u3, e, h1, -, -⟩ := h
  cases e
  exact h1
theorem RRun.stacks {B : Nat} {w : World} {r : RunD} {v1 v2 v3 : Value} (h : RRun B w (.agg #[v1, v2, v3, .bool r.coll]) r) : RIntss B w v3 r.stacks := by
  obtain ⟨u1, u2, u3, e, -, -, h1⟩ := h
  cases e
  exact h1

set_option maxRecDepth 100000 in
set_option maxHeartbeats 2000000 in
theorem clone_any (v : Value) (r : RunD) (w : World) (h : RRun w.heap.size w v r) (hs : SmallRun r) : Calls Try.prog 58 #[v] w fun e w' => ∃ u, e = .returned u ∧ ORun w.heap.size w' u r ∧ Below w.heap.size w w' := by
  have hrun := Lib.hid h
  obtain ⟨A1, c1, A2, c2, A3, c3, rfl⟩ := h.shape
  have hr2 : Rd w.heap.size w 5 (.slice A2 r.ribs.length c2) r.ribs.length (r.ribs.flatMap RibD.cells) := by
    obtain ⟨v1, v2, v3, e, -, h2, -⟩ := h
    cases e
    exact h2
  clear h
  have F0 : ∃ W0, (w.alloc (.cells #[.slice A1 r.webs.length c1, .slice A2 r.ribs.length c2, .slice A3 r.stacks.length c3, .bool r.coll] 36)).alloc (.cells #[.slice none 0 0, .slice none 0 0, .slice none 0 0, .bool false] 36) = W0 ∧
      W0.heap.size = w.heap.size + 2 ∧ Below w.heap.size w W0 ∧ Blk W0 w.heap.size 36 #[.slice A1 r.webs.length c1, .slice A2 r.ribs.length c2, .slice A3 r.stacks.length c3, .bool r.coll] ∧
      Blk W0 (w.heap.size + 1) 36 #[.slice none 0 0, .slice none 0 0, .slice none 0 0, .bool false] := by
    refine ⟨_, rfl, by simp, ((Below.refl _ _).alloc (Nat.le_refl _) _).alloc (by simp) _, (Blk.new _ _ _).alloc _, ?_⟩
    have := Blk.new (w.alloc (.cells #[.slice A1 r.webs.length c1, .slice A2 r.ribs.length c2, .slice A3 r.stacks.length c3, .bool r.coll] 36)) 36 #[.slice none 0 0, .slice none 0 0, .slice none 0 0, .bool false]
    rw [World.size_alloc] at this
    exact this
  obtain ⟨W0, e0, z0, B0, V0, V1⟩ := F0
  have hc : ∀ X, Below W0.heap.size W0 X → Calls Try.prog 75 #[.slice A2 r.ribs.length c2] X fun e w' => ∃ u, e = .returned u ∧ ORibs w.heap.size w' u r.ribs ∧ Below X.heap.size X w' := fun X hX => by
    have hb := B0.trans (hX.mono B0.size)
    refine (cloneRibs_any _ _ _ X ((hr2.below hb).more hb.size) (rib_cells_one _) (by have := hs.2.1; omega)).mono ?_
    rintro e w' ⟨u, he, hu, hbu⟩
    exact ⟨u, he, ownsRow_base hu hb.size, hbu⟩
  have z4 : ∀ w4, Below (W0.alloc (.cells #[.slice none 0 0, .slice none 0 0, .slice none 0 0, .bool false] 36)).drew.heap.size (W0.alloc (.cells #[.slice none 0 0, .slice none 0 0, .slice none 0 0, .bool false] 36)).drew w4 → Blk w4 W0.heap.size 36 #[.slice none 0 0, .slice none 0 0, .slice none 0 0, .bool false] ∧ w4.cell? ⟨W0.heap.size, 0, none⟩ = some (.slice none 0 0) ∧ w4.cell? ⟨W0.heap.size, 1, none⟩ = some (.slice none 0 0) ∧ w4.cell? ⟨W0.heap.size, 2, none⟩ = some (.slice none 0 0) ∧ w4.cell? ⟨W0.heap.size, 3, none⟩ = some (.bool false) ∧
      w4.frozen? ⟨W0.heap.size, 0, none⟩ = false ∧ w4.frozen? ⟨W0.heap.size, 1, none⟩ = false ∧ w4.frozen? ⟨W0.heap.size, 2, none⟩ = false ∧ w4.frozen? ⟨W0.heap.size, 3, none⟩ = false := fun w4 h => by
    have hk : Blk w4 W0.heap.size 36 #[.slice none 0 0, .slice none 0 0, .slice none 0 0, .bool false] := (Blk.new W0 _ _).below (W := (W0.alloc (.cells #[.slice none 0 0, .slice none 0 0, .slice none 0 0, .bool false] 36)).drew) h (by show W0.heap.size < (W0.alloc _).heap.size; rw [World.size_alloc]; omega)
    exact ⟨hk, hk.cell 0, hk.cell 1, hk.cell 2, hk.cell 3, hk.frozen 0, hk.frozen 1, hk.frozen 2, hk.frozen 3⟩
  have za : ∀ o, W0.heap.size ≤ (W0.alloc o).heap.size := fun o => by simp
  have v1 := cellOf V0 1 (x := .slice A2 r.ribs.length c2) rfl
  have v3 := cellOf V0 3 (x := .bool r.coll) rfl
  have n0 : w.heap.size < W0.heap.size := by omega
  have E0 := Lib.hid e0
  have Z0 := Lib.hid z0
  have HC := Lib.hid hc
  have Z4 := Lib.hid z4
  have ZA := Lib.hid za
  have HV0 := Lib.hid V0
  have HV1 := Lib.hid V1
  have HS := Lib.hid hs
  clear e0 z0 hc z4 za V0 V1 hs hr2
  go_enter Try.func58, Try.ntmps58
  go_upto_region 1 with fail
  rw [E0.out]
  go_cut [3] (fun s3 wx => CloneCut w r #[.slice A1 r.webs.length c1, .slice A2 r.ribs.length c2, .slice A3 r.stacks.length c3, .bool r.coll] s3 wx)
  case first =>
    go_region_with (go_at_call 75; refine (HC.out _ ?_).mono ?_; (first | exact (Below.refl _ _).drew | exact ((Below.refl _ _).alloc (Nat.le_refl _) _).drew); rintro e w4 ⟨u, rfl, hu, hb4⟩; obtain ⟨A7, c7, rfl⟩ := ownsRow_form hu; have h04 : Below W0.heap.size W0 w4 := (by first | exact ((Below.refl W0.heap.size W0).drew).trans (hb4.mono (Nat.le_refl _)) | exact (((Below.refl W0.heap.size W0).alloc (Nat.le_refl _) _).drew).trans (hb4.mono (ZA.out _))); have y1 := (h04.cell (p := ⟨w.heap.size, 1, none⟩) n0).trans v1; have y3 := (h04.cell (p := ⟨w.heap.size, 3, none⟩) n0).trans v3; have n5 := Nat.lt_of_lt_of_le n0 h04.size; (first | (refine (fun H => ?_) (Z4.out w4 hb4); obtain ⟨z9, k0, k1, k2, k3, g0, g1, g2, g3⟩ := H) | skip))
    all_goals (go_wp2_with fail; go_meet; first | with_reducible exact clone_cutA Z0.out B0 HV0.out HV1.out h04 hu | with_reducible exact clone_cutB Z0.out B0 HV0.out HV1.out h04 hu z9)
  case rest =>
  obtain ⟨B, v2, rfl, hst⟩ := hcut
  obtain ⟨A7, c7, rfl⟩ := ownsRow_form hst.2.2.1
  obtain ⟨i1, hi1, hw0, hw1, hw2⟩ := info_parts infoWeb0
  obtain ⟨i2, hi2, hs0, hs1, hs2⟩ := info_parts infoInts0
  have hpc : ∀ X A c (l : List PlateD), Below w.heap.size w X → RPlates w.heap.size w (.slice A l.length c) l → l.length ≤ 1000 → Calls Try.prog 76 #[.slice A l.length c] X fun e w' => ∃ u, e = .returned u ∧ OPlates X.heap.size w' u l ∧ Below X.heap.size X w' := fun X A c l hX hp hl => by
    refine (clonePlates_any _ _ _ X (Rd.more (Rd.below hp hX) hX.size) (plate_cells_one _) (by omega)).mono ?_
    rintro e w' ⟨u, he, hu, hbu⟩
    exact ⟨u, he, hu, hbu⟩
  have HPC := Lib.hid hpc
  obtain ⟨Ax, cx, ea, -, hA⟩ := (hrun.out.webs).open_
  cases ea
  have HA := Lib.hid hA
  have v0 := cellOf hst.2.2.2.2.2.1 0 (x := .slice A1 r.webs.length c1) rfl
  have HST := Lib.hid hst
  have BWX := Lib.hid hst.2.2.2.2.1
  clear hpc hA hst v1 v3 n0 B0
  go_wp2
  clear v0
  go_loopw [17] (fun i wr => ∃ (k : Nat) (v1 : Value) (vs : List Value), k ≤ r.webs.length ∧ i = .int .i64 k ∧ CloneSt w r #[.slice A1 r.webs.length c1, .slice A2 r.ribs.length c2, .slice A3 r.stacks.length c3, .bool r.coll] B v1 vs (r.webs.take k) (.slice A7 r.ribs.length c7) (.slice none 0 0) [] wr) (fun i _ => r.webs.length - (intOf i).toNat)
  case atStart => exact ⟨0, _, _, Nat.zero_le _, rfl, HST.out⟩
  case round =>
    obtain ⟨k, v1, vs, hk, rfl, hst⟩ := hrel
    clear HST
    have hBw : Below w.heap.size w wr := hst.2.2.2.2.1
    by_cases hlt : k < r.webs.length
    · obtain ⟨x, hx⟩ : ∃ x, r.webs[k]? = some x := ⟨_, List.getElem?_eq_getElem hlt⟩
      obtain ⟨g, o, u, rfl, hb, hc1, hc2, hc3, hp⟩ := HA.out k x hx
      rw [← hBw.cell (p := ⟨g, o + k * 3, none⟩) hb] at hc1
      rw [← hBw.cell (p := ⟨g, o + k * 3 + 1, none⟩) hb] at hc2
      rw [← hBw.cell (p := ⟨g, o + k * 3 + 2, none⟩) hb] at hc3
      obtain ⟨A5, c5, rfl, -⟩ := rd_slice hp
      have hpl : x.plates.length ≤ 1000 := HS.out.2.2.2.1 x (List.mem_of_getElem? hx)
      have HP := Lib.hid hp
      have HT : Hid (r.webs.take (k + 1) = r.webs.take k ++ [x]) := by
        show r.webs.take (k + 1) = r.webs.take k ++ [x]
        rw [List.take_add_one, hx]; rfl
      have HL : Hid ((r.webs.take k).length = k) := by show (r.webs.take k).length = k; rw [List.length_take]; omega
      have hk1 : k ≤ 1000 := by have := HS.out.1; omega
      obtain ⟨Av, cv, rfl⟩ := ownsRow_form hst.2.1.1
      rw [HL.out] at hst
      have HST := Lib.hid hst
      clear hx hp hst
      go_wp2_with fail
      refine (HPC.out _ _ _ _ (hBw.alloc hBw.size _) HP.out hpl).mono ?_
      rintro e w2 ⟨u', rfl, hu, hb2⟩
      obtain ⟨A8, c8, rfl⟩ := ownsRow_form hu
      have hsz : (wr.alloc (.cells #[.int .i64 x.cols, .int .i64 x.rows, .slice A5 x.plates.length c5] 87)).heap.size = wr.heap.size + 1 := by simp
      have hbk : Blk w2 wr.heap.size 87 #[.int .i64 x.cols, .int .i64 x.rows, .slice A5 x.plates.length c5] := (Blk.new wr _ _).below hb2 (by rw [hsz]; omega)
      have hb3 : Below wr.heap.size wr w2 := ((Below.refl wr.heap.size wr).alloc (Nat.le_refl _) _).trans (hb2.mono (by rw [hsz]; omega))
      have hb4 : Below wr.heap.size wr (w2.setCell ⟨wr.heap.size, 2, none⟩ (.slice A8 x.plates.length c8)) := hb3.setCell (p := ⟨wr.heap.size, 2, none⟩) (Nat.le_refl _) _
      have hst3 := HST.out.below hb4
      have hBlt : B < wr.heap.size := HST.out.1.lt
      have hu3 : OPlates w.heap.size (w2.setCell ⟨wr.heap.size, 2, none⟩ (.slice A8 x.plates.length c8)) (.slice A8 x.plates.length c8) x.plates := ownsRow_base (ownsRow_grew hu (Grew.set hbk 2 _) (by decide)) (by rw [hsz]; have := hBw.size; omega)
      have hge : ∀ g, (Value.slice A8 x.plates.length c8).ownBlock = some g → wr.heap.size ≤ g := fun g hg => by have := (hu.lt g hg).1; rw [hsz] at this; omega
      have hlts := HST.out.2.1.lts
      have e0 := (hbk.put 2 (.slice A8 x.plates.length c8)).cell 0
      have e1 := (hbk.put 2 (.slice A8 x.plates.length c8)).cell 1
      have e2 := (hbk.put 2 (.slice A8 x.plates.length c8)).cell 2
      have q0 := cellOf hst3.1 0 (x := .slice Av k cv) rfl
      have y2 := cellOf hbk 2 (x := .slice A5 x.plates.length c5) rfl
      have y0 := cellOf hbk 0 (x := .int .i64 x.cols) rfl
      have y1 := cellOf hbk 1 (x := .int .i64 x.rows) rfl
      have yB := cellOf (HST.out.below hb3).1 0 (x := .slice Av k cv) rfl
      have f2 := hbk.frozen 2
      have hne : B ≠ wr.heap.size := by omega
      have hne' : wr.heap.size ≠ B := by omega
      have hown := hst3.2.1.1
      rw [HL.out] at hown
      have hsz3 : w.heap.size ≤ w2.heap.size := Nat.le_trans hBw.size hb3.size
      have hnew : ∀ j y, [Value.int .i64 x.cols, .int .i64 x.rows, .slice A8 x.plates.length c8][j]? = some y → ((w2.setCell ⟨wr.heap.size, 2, none⟩ (.slice A8 x.plates.length c8)).alloc (.cells #[.int .i64 x.cols, .int .i64 x.rows, .slice A8 x.plates.length c8] 87)).cell? ((⟨w2.heap.size, 0, none⟩ : Addr).add j) = some y := by
        have h9 := cells_new (w2.setCell ⟨wr.heap.size, 2, none⟩ (.slice A8 x.plates.length c8)) #[.int .i64 x.cols, .int .i64 x.rows, .slice A8 x.plates.length c8] 87
        rw [World.size_setCell] at h9
        exact h9
      have HNEW := Lib.hid hnew
      have HST3 := Lib.hid hst3
      have HU3 := Lib.hid hu3
      have HGE := Lib.hid hge
      have HLTS := Lib.hid hlts
      clear hnew hst3 hu hu3 hge hlts hb2 hb4 hbk e0 e1 e2 q0 hsz
      go_wp2_with (at_builtin; refine wpList_append_own _ rfl _ _ 33 rfl w.heap.size 87 i1 _ 3 40 Try.underlying33 hi1 hw0 hw1 hw2 rfl (by decide) _ _ _ rfl (hown.alloc _) ⟨w2.heap.size, 0, none⟩ 1 1 [.int .i64 x.cols, .int .i64 x.rows, .slice A8 x.plates.length c8] rfl rfl HNEW.out (by simp [Value.oneCell']) (by simp only [maxLen]; omega) (by omega) (by simp; omega) ?_; intro v' w4 hown' hgrow _; have p0 : Blk w4 B 36 #[.slice Av k cv, .slice A7 r.ribs.length c7, .slice none 0 0, .bool r.coll] := HST3.out.1.grew (Grew.of_append hown hgrow) (by decide); have p1 := cellOf p0 0 (x := .slice Av k cv) rfl; have p2 := p0.frozen 0; obtain ⟨A9, c9, rfl⟩ := ownsRow_form hown')
      have hst4 := HST3.out.web (x := x) HLTS.out HU3.out HGE.out hgrow (by rw [HL.out]; exact hown')
      rw [← HT.out] at hst4
      clear hown hown' hgrow p0
      go_wp2
      go_roundw
      case rel => exact ⟨k + 1, _, _, by omega, by go_num, hst4⟩
      case measure => simp [intOf]; omega
    · have hall : r.webs.take k = r.webs := List.take_of_length_le (by omega)
      rw [hall] at hst
      obtain ⟨Av, cv, rfl⟩ := ownsRow_form hst.2.1.1
      have hpi : ∀ X A c (l : List Int), Below w.heap.size w X → RInts w.heap.size w (.slice A l.length c) l → l.length ≤ 1000 → Calls Try.prog 77 #[.slice A l.length c] X fun e w' => ∃ u, e = .returned u ∧ OInts X.heap.size w' u l ∧ Below X.heap.size X w' := fun X A c l hX hp hl => by
        refine (cloneInts_any _ _ _ X (Rd.more (Rd.below hp hX) hX.size) (int_cells_one _) (by omega)).mono ?_
        rintro e w' ⟨u, he, hu, hbu⟩
        exact ⟨u, he, hu, hbu⟩
      have HPI := Lib.hid hpi
      obtain ⟨Ay, cy, ey, -, hI⟩ := (hrun.out.stacks).open_
      cases ey
      have HI := Lib.hid hI
      have v0 := cellOf hst.2.2.2.2.2.1 2 (x := .slice A3 r.stacks.length c3) rfl
      have HST := Lib.hid hst
      clear hpi hI hst hk hall
      go_wp2
      clear v0 hlt
      go_loopw [35] (fun i wr => ∃ (k : Nat) (v3 : Value), k ≤ r.stacks.length ∧ i = .int .i64 k ∧ CloneSt w r #[.slice A1 r.webs.length c1, .slice A2 r.ribs.length c2, .slice A3 r.stacks.length c3, .bool r.coll] B (.slice Av r.webs.length cv) vs r.webs (.slice A7 r.ribs.length c7) v3 (r.stacks.take k) wr) (fun i _ => r.stacks.length - (intOf i).toNat)
      case atStart => exact ⟨0, _, Nat.zero_le _, rfl, HST.out⟩
      case round =>
        obtain ⟨k, v3, hk, rfl, hst⟩ := hrel
        clear HST
        have hBw : Below w.heap.size w wr := hst.2.2.2.2.1
        by_cases hlt : k < r.stacks.length
        · obtain ⟨x, hx⟩ : ∃ x, r.stacks[k]? = some x := ⟨_, List.getElem?_eq_getElem hlt⟩
          obtain ⟨g, o, u, rfl, hb, hc1, hp⟩ := HI.out k x hx
          rw [← hBw.cell (p := ⟨g, o + k, none⟩) hb] at hc1
          obtain ⟨A5, c5, rfl, -⟩ := rd_slice hp
          have hpl : x.length ≤ 1000 := HS.out.2.2.2.2 x (List.mem_of_getElem? hx)
          have HP := Lib.hid hp
          have HT : Hid (r.stacks.take (k + 1) = r.stacks.take k ++ [x]) := by
            show r.stacks.take (k + 1) = r.stacks.take k ++ [x]
            rw [List.take_add_one, hx]; rfl
          have HL : Hid ((r.stacks.take k).length = k) := by show (r.stacks.take k).length = k; rw [List.length_take]; omega
          have hk1 : k ≤ 1000 := by have := HS.out.2.2.1; omega
          obtain ⟨ws, hws⟩ := hst.2.2.2.1
          obtain ⟨Aw, cw, rfl⟩ := ownsRow_form hws.1
          rw [HL.out] at hst hws
          have HST := Lib.hid hst
          have hown := hws.1
          rw [HL.out] at hown
          have HWS := Lib.hid hws
          have hBlt : B < wr.heap.size := hst.1.lt
          have hfacts : ∀ X, Below wr.heap.size wr X → X.cell? ⟨B, 2, none⟩ = some (.slice Aw k cw) := fun X hX => cellOf (hst.1.below hX hBlt) 2 rfl
          have HF := Lib.hid hfacts
          have hcall : ∀ X, Below wr.heap.size wr X → Calls Try.prog 77 #[.slice A5 x.length c5] X fun e w' => ∃ A c, e = .returned (.slice A x.length c) ∧ OInts w.heap.size w' (.slice A x.length c) x ∧ Below wr.heap.size wr w' := fun X hX => by
            have hX2 := hBw.trans (hX.mono hBw.size)
            refine (HPI.out X _ _ _ hX2 HP.out hpl).mono ?_
            rintro e w' ⟨u, he, hu, hbu⟩
            obtain ⟨A, c, rfl⟩ := ownsRow_form hu
            exact ⟨A, c, he, ownsRow_base hu hX2.size, hX.trans (hbu.mono hX.size)⟩
          have HC := Lib.hid hcall
          have e2 := HF.out wr (Below.refl _ _)
          clear hx hp hst hws hfacts hcall hb
          go_wp2_with fail
          go_region_law (first | (refine step_append_lies _ (by rfl) _ _ _ (by rfl) w.heap.size 48 i2 (.slice none 0 0) 1 24 Try.underlying24 hi2 hs0 hs1 hs2 rfl (by decide) (.slice Aw k cw) k ws (by rfl) (by first | exact (ownsRow_below hown h5).alloc _ | exact ((ownsRow_below hown h5).alloc _).drew) ⟨w5.heap.size, 0, none⟩ 1 1 [.slice A8 x.length c8] (by rfl) (by rfl) (World.news_of_block (cs := #[.slice A8 x.length c8]) (t := 48) (fr := (0, 0)) (heap_alloc_new w5 _)) (by simp [Value.oneCell']) (by omega) (by simp only [maxLen]; omega) (by omega) (by have := h5.size; have := hBw.size; simp; omega) (w5.heap.size + 1) (by simp) ?_; intro g9 c9 w6 hown' hgrow hat hlt9; have p0 : Blk w6 B 36 #[.slice Av r.webs.length cv, .slice A7 r.ribs.length c7, .slice Aw k cw, .bool r.coll] := (HST.out.below h5).1.grew (Grew.of_append (ownsRow_below hown h5) hgrow) (by decide); have p1 := cellOf p0 2 (x := .slice Aw k cw) rfl; have p2 := p0.frozen 2) | (go_simp; go_at_call 77; refine (HC.out _ ?_).mono ?_; (first | assumption | exact Below.refl _ _ | exact (Below.refl _ _).drew); rintro e w5 ⟨A8, c8, rfl, hu, h5⟩; have y2 := HF.out w5 h5; have y3 := fun o => HF.out (w5.alloc o) (h5.alloc h5.size o)))
          all_goals
            have hst6 := (HST.out.below h5).stack (x := x) (HWS.out.below h5 fun _ _ hr => ownsRow_below hr h5) hu hgrow (by rw [HL.out]; exact hown')
            rw [← HT.out] at hst6
            clear hown hown' hgrow p0 hu
            go_wp2
            go_roundw
            case rel => exact ⟨k + 1, _, by omega, by go_num, hst6⟩
            case measure => simp [intOf]; omega
        · have hall : r.stacks.take k = r.stacks := List.take_of_length_le (by omega)
          rw [hall] at hst
          obtain ⟨ws, hws⟩ := hst.2.2.2.1
          obtain ⟨Aw, cw, rfl⟩ := ownsRow_form hws.1
          have hfin := hst.final
          have HFin := Lib.hid hfin
          have b0 := cellOf hst.1 0 (x := .slice Av r.webs.length cv) rfl
          have b1 := cellOf hst.1 1 (x := .slice A7 r.ribs.length c7) rfl
          have b2 := cellOf hst.1 2 (x := .slice Aw r.stacks.length cw) rfl
          have b3 := cellOf hst.1 3 (x := .bool r.coll) rfl
          have d0 := cellOf hst.2.2.2.2.2.2.1 0 (x := .slice none 0 0) rfl
          have d1 := cellOf hst.2.2.2.2.2.2.1 1 (x := .slice none 0 0) rfl
          have d2 := cellOf hst.2.2.2.2.2.2.1 2 (x := .slice none 0 0) rfl
          have d3 := cellOf hst.2.2.2.2.2.2.1 3 (x := .bool false) rfl
          have f0 := hst.2.2.2.2.2.2.1.frozen 0
          have f1 := hst.2.2.2.2.2.2.1.frozen 1
          have f2 := hst.2.2.2.2.2.2.1.frozen 2
          have f3 := hst.2.2.2.2.2.2.1.frozen 3
          clear hst hfin hws hall
          go_wp2
          refine bodyPost_ret (v := .agg #[.slice Av r.webs.length cv, .slice A7 r.ribs.length c7, .slice Aw r.stacks.length cw, .bool r.coll]) (by simp [results, Try.results58, go_sem, d0, d1, d2, d3]) rfl ⟨_, rfl, HFin.out⟩

end Go.Proofs.Ytdbfhdncjblleaa
namespace Go.Proofs.Ytdbfhdncjblleaa
open Go.RowKit

theorem small_ok {r : RunD} (h : checkE r = 0) : SmallRun r := by
  have hn := numbers_ok (parts_ok h 0 (by omega))
  have hw := webs_ok (parts_ok h 1 (by omega))
  refine ⟨by omega, by omega, by omega, fun x hx => ?_, fun s hs => ?_⟩
  · obtain ⟨h1, h2, h3, h4, -, h5, -⟩ := hw x hx
    have h6 : 2 * x.rows * x.cols ≤ 4 * 4 := Int.mul_le_mul (by omega) h2 (by omega) (by omega)
    omega
  · obtain ⟨k, hk, rfl⟩ := List.getElem_of_mem hs
    have := stack_len h (List.getElem?_eq_getElem hk)
    omega

def turnRib (x : RibD) : RibD := { x with turned := !x.turned }
def turnD (r : RunD) (i : Int) : RunD := { r with ribs := r.ribs.set i.toNat (turnRib (r.ribs.getD i.toNat default)) }
def turnE (r : RunD) (i : Int) : Int := if checkE r ≠ 0 then checkE r else if i < 0 ∨ (r.ribs.length : Int) ≤ i then 6 else 0
def runRet0 : Value := .agg #[.slice none 0 0, .slice none 0 0, .slice none 0 0, .bool false]
/-- What Turn gives. -/
def TurnRet (r : RunD) (i : Int) (w : World) (e : Ending) (w' : World) : Prop :=
  ∃ u, e = .returned (.tuple #[u, .int .i64 (turnE r i)]) ∧ (turnE r i = 0 → ORun w.heap.size w' u (turnD r i)) ∧ (turnE r i ≠ 0 → u = runRet0) ∧ Below w.heap.size w w'

theorem rib_set : ∀ (l : List RibD) (i : Nat) (x : RibD) (b : Bool), l[i]? = some x → (l.flatMap RibD.cells).set (i * 5 + 3) (.bool b) = (l.set i { x with turned := b }).flatMap RibD.cells
  | [], i, x, b, h => by simp at h
  | y :: l, 0, x, b, h => by
    simp only [List.getElem?_cons_zero, Option.some.injEq] at h
    subst h
    simp [List.flatMap_cons, RibD.cells]
  | y :: l, i + 1, x, b, h => by
    rw [List.set_cons_succ, List.flatMap_cons, List.flatMap_cons, ← rib_set l i x b (by simpa using h), List.set_append_right (h := by simp [RibD.cells]; omega)]
    congr 2
    simp [RibD.cells]; omega
theorem ownsRow_block {base n k c : Nat} {w : World} {e : TypeId} {A : Option Addr} {xs : List Value} (h : w.ownsRow base e k (.slice A n c) n xs) (hn : 0 < n) : ∃ g, A = some ⟨g, 0, none⟩ ∧ base ≤ g ∧ g < w.heap.size := by
  rcases h.2 with ⟨-, h2⟩ | ⟨g, cap, cur, he, hb, hh, -⟩
  · omega
  · cases he
    exact ⟨g, rfl, hb, (Array.getElem?_eq_some_iff.1 hh).1⟩
/-- The ribbon's bool is stored. -/
theorem ORibs.set {base : Nat} {w : World} {l : List RibD} {g n c : Nat} (h : ORibs base w (.slice (some ⟨g, 0, none⟩) n c) l) {i : Nat} {x : RibD} (hx : l[i]? = some x) (b : Bool) :
    ORibs base (w.setCell ⟨g, i * 5 + 3, none⟩ (.bool b)) (.slice (some ⟨g, 0, none⟩) n c) (l.set i { x with turned := b }) ∧ ∃ cs, Blk w g 91 cs := by
  unfold ORibs at h ⊢
  obtain ⟨h1, h2⟩ := h
  rcases h2 with ⟨h2, -⟩ | ⟨g', cap, cur, he, hb, hh, hn, hm, hs, ht⟩
  · cases h2
  · cases he
    have hk : Blk w g 91 cur := hh
    refine ⟨⟨?_, .inr ⟨g, c, _, by simp, hb, hk.put (i * 5 + 3) (.bool b), by simpa using hn, hm, by simpa using hs, ?_⟩⟩, cur, hk⟩
    · rw [← rib_set l i x b hx, List.length_set, List.length_set]; exact h1
    · rw [List.length_set, ← rib_set l i x b hx, ← ht, Array.toList_setIfInBounds, List.take_set]

theorem ORun.reads {b : Nat} {w : World} {v : Value} {r : RunD} (h : ORun b w v r) (hs : SmallRun r) : RRun w.heap.size w v r := by
  obtain ⟨v1, vs, v2, v3, rfl, ⟨h1, h2, h3, -⟩, h4, ws, h5, h6⟩ := h
  have hm : ∀ n, n ≤ 1000 → n ≤ maxLen := fun n hn => by simp only [maxLen]; omega
  exact ⟨_, _, _, rfl, ⟨vs, Rd.own h1 (hm _ hs.1), h2, fun i u x hu hx => Rd.own (h3 i u x hu hx) (hm _ (hs.2.2.2.1 x (List.mem_of_getElem? hx)))⟩, Rd.own h4 (hm _ hs.2.1),
    ws, Rd.own h5 (hm _ hs.2.2.1), by simpa using h5.1, fun i u x hu hx => Rd.own (h6 i u x hu hx) (hm _ (hs.2.2.2.2 x (List.mem_of_getElem? hx)))⟩

theorem ORun.drew {b : Nat} {w : World} {v : Value} {r : RunD} (h : ORun b w v r) : ORun b w.drew v r := h
theorem ORun.base_ {b b' : Nat} {w : World} {v : Value} {r : RunD} (h : ORun b w v r) (hb : b' ≤ b) : ORun b' w v r := by
  obtain ⟨v1, vs, v2, v3, rfl, ⟨h1, h2, h3, h4⟩, h5, ws, h6⟩ := h
  exact ⟨v1, vs, v2, v3, rfl, ⟨ownsRow_base h1 hb, h2, fun i u x hu hx => ownsRow_base (h3 i u x hu hx) hb, h4⟩, ownsRow_base h5 hb, ws, h6.base_ hb fun _ _ h => ownsRow_base h hb⟩
theorem fin_turn {w w3 X : World} {g : Nat} {r r' : RunD} {v1 v2 v3 : Value} {vs : List Value} {l : List RibD} (h7 : Blk X (w.heap.size + 1) 36 #[.slice none 0 0, .slice none 0 0, .slice none 0 0, .bool false])
    (h1 : OWebs w3.heap.size X v1 vs r.webs) (h2 : ORibs w3.heap.size X v2 l) (h3 : OIntss w3.heap.size X v3 r.stacks) (hb : w.heap.size ≤ w3.heap.size) (h5 : Below w.heap.size w X) (e1 : r'.webs = r.webs) (e2 : r'.ribs = l) (e3 : r'.stacks = r.stacks) (e4 : r'.coll = r.coll) :
    ORun w.heap.size ((((X.setCell ⟨w.heap.size + 1, 0, none⟩ v1).setCell ⟨w.heap.size + 1, 1, none⟩ v2).setCell ⟨w.heap.size + 1, 2, none⟩ v3).setCell ⟨w.heap.size + 1, 3, none⟩ (.bool r.coll)).drew (.agg #[v1, v2, v3, .bool r.coll]) r' ∧
    Below w.heap.size w ((((X.setCell ⟨w.heap.size + 1, 0, none⟩ v1).setCell ⟨w.heap.size + 1, 1, none⟩ v2).setCell ⟨w.heap.size + 1, 2, none⟩ v3).setCell ⟨w.heap.size + 1, 3, none⟩ (.bool r.coll)).drew := by
  have k1 := h7.put 0 v1
  have k2 := k1.put 1 v2
  have k3 := k2.put 2 v3
  have gr := (((Grew.set h7 0 v1).trans (Grew.set k1 1 v2)).trans (Grew.set k2 2 v3)).trans (Grew.set k3 3 (.bool r.coll))
  refine ⟨(ORun.base_ ⟨v1, vs, v2, v3, by rw [e4], by rw [e1]; exact h1.grew gr (by decide) (by decide), by rw [e2]; exact ownsRow_grew h2 gr (by decide), by rw [e3]; exact h3.grew gr (by decide) (by decide)⟩ hb).drew, (below_set4 h5 (by omega) _ _ _ _).drew⟩

set_option maxRecDepth 100000 in
set_option maxHeartbeats 2000000 in
theorem Turn_any (v : Value) (r : RunD) (i : Int) (w : World) (h : RRun w.heap.size w v r) : Calls Try.prog 35 #[v, .int .i64 i] w (TurnRet r i w) := by
  have hrun := Lib.hid h
  obtain ⟨A1, c1, A2, c2, A3, c3, rfl⟩ := h.shape
  clear h
  have F0 : ∃ W0, (w.alloc (.cells #[.slice A1 r.webs.length c1, .slice A2 r.ribs.length c2, .slice A3 r.stacks.length c3, .bool r.coll] 36)).alloc (.cells #[.slice none 0 0, .slice none 0 0, .slice none 0 0, .bool false] 36) = W0 ∧
      W0.heap.size = w.heap.size + 2 ∧ Below w.heap.size w W0 ∧ Blk W0 w.heap.size 36 #[.slice A1 r.webs.length c1, .slice A2 r.ribs.length c2, .slice A3 r.stacks.length c3, .bool r.coll] ∧
      Blk W0 (w.heap.size + 1) 36 #[.slice none 0 0, .slice none 0 0, .slice none 0 0, .bool false] := by
    refine ⟨_, rfl, by simp, ((Below.refl _ _).alloc (Nat.le_refl _) _).alloc (by simp) _, (Blk.new _ _ _).alloc _, ?_⟩
    have := Blk.new (w.alloc (.cells #[.slice A1 r.webs.length c1, .slice A2 r.ribs.length c2, .slice A3 r.stacks.length c3, .bool r.coll] 36)) 36 #[.slice none 0 0, .slice none 0 0, .slice none 0 0, .bool false]
    rw [World.size_alloc] at this
    exact this
  obtain ⟨W0, e0, z0, B0, V0, V1⟩ := F0
  have E0 := Lib.hid e0
  have Z0 := Lib.hid z0
  clear e0 z0
  go_enter Try.func35, Try.ntmps35
  go_wp2_with fail
  rw [E0.out]
  refine (Check_any _ r _ ((hrun.out.below B0).more B0.size)).mono ?_
  rintro e w3 ⟨rfl, hb3⟩
  have V3 := V0.below hb3 (by rw [Z0.out]; omega)
  have R3 := V1.below hb3 (by rw [Z0.out]; omega)
  have B3 : Below w.heap.size w w3 := B0.trans (hb3.mono B0.size)
  clear V0 V1 B0 E0 hb3
  have hne2 : w.heap.size + 1 ≠ w.heap.size := by omega
  have d0 := cellOf R3 0 (x := .slice none 0 0) rfl
  have d1 := cellOf R3 1 (x := .slice none 0 0) rfl
  have d2 := cellOf R3 2 (x := .slice none 0 0) rfl
  have d3 := cellOf R3 3 (x := .bool false) rfl
  have f0 := R3.frozen 0
  have f1 := R3.frozen 1
  have f2 := R3.frozen 2
  have f3 := R3.frozen 3
  by_cases hck : checkE r = 0
  case neg =>
    have hck' : (checkE r != 0) = true := by simpa using hck
    have hE : turnE r i = checkE r := by unfold turnE; rw [if_pos hck]
    have HR : ∀ w', Below w.heap.size w w' → TurnRet r i w (.returned (.tuple #[runRet0, .int .i64 (checkE r)])) w' := fun w' hb => ⟨_, by rw [hE], fun h => absurd (hE ▸ h) hck, fun _ => rfl, hb⟩
    have HR' := Lib.hid HR
    have HB := Lib.hid (below_set4 B3 (Nat.le_succ w.heap.size) (.slice none 0 0) (.slice none 0 0) (.slice none 0 0) (.bool false))
    clear hck hE HR V3 R3
    generalize checkE r = ck at *
    go_wp2
    refine bodyPost_ret (v := .tuple #[runRet0, .int .i64 ck]) (by simp [results, Try.results35, go_sem, d0, d1, d2, d3, runRet0]) rfl (HR'.out _ HB.out)
  have Hok := Lib.hid hck
  rw [hck]
  have v1 := cellOf V3 1 (x := .slice A2 r.ribs.length c2) rfl
  by_cases hr1 : i < 0
  · have hE : turnE r i = 6 := by unfold turnE; rw [if_neg (by rw [hck]; simp), if_pos (.inl hr1)]
    have HR : ∀ w', Below w.heap.size w w' → TurnRet r i w (.returned (.tuple #[runRet0, .int .i64 6])) w' := fun w' hb => ⟨_, by rw [hE], fun h => absurd h (by rw [hE]; decide), fun _ => rfl, hb⟩
    have HR' := Lib.hid HR
    have HB := Lib.hid (below_set4 B3 (Nat.le_succ w.heap.size) (.slice none 0 0) (.slice none 0 0) (.slice none 0 0) (.bool false))
    clear hck hE HR V3 R3
    go_wp2
    refine bodyPost_ret (v := .tuple #[runRet0, .int .i64 6]) (by simp [results, Try.results35, go_sem, d0, d1, d2, d3, runRet0]) rfl (HR'.out _ HB.out)
  by_cases hr2 : (r.ribs.length : Int) ≤ i
  · have hE : turnE r i = 6 := by unfold turnE; rw [if_neg (by rw [hck]; simp), if_pos (.inr hr2)]
    have HR : ∀ w', Below w.heap.size w w' → TurnRet r i w (.returned (.tuple #[runRet0, .int .i64 6])) w' := fun w' hb => ⟨_, by rw [hE], fun h => absurd h (by rw [hE]; decide), fun _ => rfl, hb⟩
    have HR' := Lib.hid HR
    have HB := Lib.hid (below_set4 B3 (Nat.le_succ w.heap.size) (.slice none 0 0) (.slice none 0 0) (.slice none 0 0) (.bool false))
    clear hck hE HR V3 R3
    go_wp2
    refine bodyPost_ret (v := .tuple #[runRet0, .int .i64 6]) (by simp [results, Try.results35, go_sem, d0, d1, d2, d3, runRet0]) rfl (HR'.out _ HB.out)
  obtain ⟨k, rfl⟩ : ∃ k : Nat, i = k := ⟨i.toNat, by omega⟩
  have hk : k < r.ribs.length := by omega
  have HE : Hid (turnE r k = 0) := by show turnE r k = 0; unfold turnE; rw [if_neg (by rw [hck]; simp), if_neg (by omega)]
  obtain ⟨x, hx⟩ : ∃ x, r.ribs[k]? = some x := ⟨_, List.getElem?_eq_getElem hk⟩
  have HX := Lib.hid hx
  have hi1 : (k : Int) < (r.ribs.length : Int) := by omega
  have hcl := clone_any _ r w3 ((hrun.out.below B3).more B3.size) (small_ok hck)
  have HC := Lib.hid hcl
  have v0 := cellOf V3 0 (x := .slice A1 r.webs.length c1) rfl
  have v2 := cellOf V3 2 (x := .slice A3 r.stacks.length c3) rfl
  have v3 := cellOf V3 3 (x := .bool r.coll) rfl
  have HV3 := Lib.hid V3
  have HR3 := Lib.hid R3
  have n1 : w.heap.size + 1 < w3.heap.size := R3.lt
  clear hck hr1 hcl hx V3 R3
  go_wp2_with fail
  refine HC.out.mono ?_
  rintro e w4 ⟨u, rfl, hu, hb4⟩
  have B4 : Below w.heap.size w w4 := B3.trans (hb4.mono B3.size)
  obtain ⟨u1, vs, u2, u3, rfl, ow, orb, os⟩ := hu
  obtain ⟨D1, m1, rfl⟩ := ownsRow_form ow.1
  obtain ⟨D2, m2, rfl⟩ := ownsRow_form orb
  obtain ⟨D3, m3, rfl⟩ : ∃ A c, u3 = .slice A r.stacks.length c := by
    obtain ⟨ws, hws⟩ := os
    exact ownsRow_form hws.1
  obtain ⟨g, rfl, hg0, hg1⟩ := ownsRow_block orb (by omega)
  obtain ⟨hset, cs, hcs⟩ := orb.set HX.out (!x.turned)
  have hcell : w4.cell? ⟨g, k * 5 + 3, none⟩ = some (.bool x.turned) := by
    have := orb.cells (g := g) rfl (k * 5 + 3) (.bool x.turned) (flat_at RibD.cells 5 (fun _ => rfl) _ k 3 _ HX.out (by omega))
    rwa [Addr.add_lit, Nat.zero_add] at this
  have F5 : ∃ w5, w4.alloc (.cells #[.slice D1 r.webs.length m1, .slice (some ⟨g, 0, none⟩) r.ribs.length m2, .slice D3 r.stacks.length m3, .bool r.coll] 36) = w5 ∧ Below w4.heap.size w4 w5 ∧ w5.heap.size = w4.heap.size + 1 ∧
      Blk w5 w4.heap.size 36 #[.slice D1 r.webs.length m1, .slice (some ⟨g, 0, none⟩) r.ribs.length m2, .slice D3 r.stacks.length m3, .bool r.coll] :=
    ⟨_, rfl, (Below.refl _ _).alloc (Nat.le_refl _) _, by simp, Blk.new _ _ _⟩
  obtain ⟨w5, e5, hb5, z5, V5⟩ := F5
  have E5 := Lib.hid e5
  clear e5
  have V3 := HV3.out
  have R3 := HR3.out
  have R5 := (R3.below hb4 R3.lt).below hb5 (by have := hb4.size; omega)
  clear d0 d1 d2 d3 f0 f1 f2 f3 v0 v1 v2 v3 V3 R3
  go_upto_region 7 with fail
  rw [E5.out]
  have y1 := cellOf V5 1 (x := .slice (some ⟨g, 0, none⟩) r.ribs.length m2) rfl
  have y2 : w5.cell? ⟨g, k * 5 + 3, none⟩ = some (.bool x.turned) := (hb5.cell (p := ⟨g, k * 5 + 3, none⟩) hg1).trans hcell
  have y3 : w5.frozen? ⟨g, k * 5 + 3, none⟩ = false := (hcs.below hb5 hg1).frozen _
  go_still_tail 12, (by kernel_rfl)
  change wpList _ _ _ _ _ w5.drew
  have q0 := cellOf V5 0 (x := .slice D1 r.webs.length m1) rfl
  have q2 := cellOf V5 2 (x := .slice D3 r.stacks.length m3) rfl
  have q3 := cellOf V5 3 (x := .bool r.coll) rfl
  have t0 := cellOf R5 0 (x := .slice none 0 0) rfl
  have t1 := cellOf R5 1 (x := .slice none 0 0) rfl
  have t2 := cellOf R5 2 (x := .slice none 0 0) rfl
  have t3 := cellOf R5 3 (x := .bool false) rfl
  have f0 := R5.frozen 0
  have f1 := R5.frozen 1
  have f2 := R5.frozen 2
  have f3 := R5.frozen 3
  have hz4 := hb4.size
  have ha1 : w.heap.size + 1 ≠ g := by omega
  have ha2 : w4.heap.size ≠ g := by omega
  have ha3 : w4.heap.size ≠ w.heap.size + 1 := by omega
  have ha4 : g ≠ w.heap.size + 1 := by omega
  have ha5 : g ≠ w4.heap.size := by omega
  have hT : turnD r k = { r with ribs := r.ribs.set k { x with turned := !x.turned } } := by
    unfold turnD turnRib
    rw [Int.toNat_natCast, getD_of HX.out]
  have hX5 := ORibs.set (ownsRow_below orb hb5) HX.out (!x.turned)
  have gr1 : Grew 91 w5 (w5.setCell ⟨g, k * 5 + 3, none⟩ (.bool !x.turned)) := Grew.set (hcs.below hb5 hg1) _ _
  have hfin := fin_turn (g := g) (r' := turnD r k) (R5.grew gr1 (by decide)) ((ow.below hb5).grew gr1 (by decide) (by decide)) hX5.1 ((os.below hb5).grew gr1 (by decide) (by decide)) B3.size
    (((B4.trans (hb5.mono B4.size)).setCell (p := ⟨g, k * 5 + 3, none⟩) (by show w.heap.size ≤ g; have := B3.size; omega) (.bool !x.turned))) (by rw [hT]) (by rw [hT]) (by rw [hT]) (by rw [hT])
  have HFin := Lib.hid hfin
  clear hcell hset hcs orb ow os hT hX5 gr1 hfin
  go_wp2
  refine bodyPost_ret (v := .tuple #[.agg #[.slice D1 r.webs.length m1, .slice (some ⟨g, 0, none⟩) r.ribs.length m2, .slice D3 r.stacks.length m3, .bool r.coll], .int .i64 0]) (by simp [results, Try.results35, go_sem, t0, t1, t2, t3, ha1]) rfl ⟨_, by rw [HE.out], fun _ => HFin.out.1, fun h => absurd HE.out h, HFin.out.2⟩

end Go.Proofs.Ytdbfhdncjblleaa
