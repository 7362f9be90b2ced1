/-
  The library's sort at spans of one's own.
-/
import Derived.Shelf.SlSortCmp.NoneTotal
import Derived.Sort.OwnSortedInts
import Derived.Test.YtpkepacbondopaaLs
namespace Go.Proofs.Ytpkepacbondopaa
open Go.RowKit Go.Shelf Go.Sort

theorem flatK_list (l : List Sp) : (flatK Sp.cells 2 l.toArray).toList = l.flatMap Sp.cells := by
  have hl := flat_get Sp.cells 2 (fun _ => rfl) l
  refine List.ext_getElem? fun t => ?_
  by_cases ht : t < l.length * 2
  · have h1 := get_flatK Sp.cells 2 l.toArray t (by simpa using ht)
    have hk : t / 2 < l.length := by omega
    have h2 := flat_at Sp.cells 2 (fun _ => rfl) l (t / 2) (t % 2) l[t / 2] (List.getElem?_eq_getElem hk) (Nat.mod_lt _ (by omega))
    rw [show t / 2 * 2 + t % 2 = t by omega] at h2
    rw [h2]
    have h3 : (flatK Sp.cells 2 l.toArray)[t]? = some ((flatK Sp.cells 2 l.toArray)[t]!) := by
      rw [getElem!_pos _ t (by simpa using ht), Array.getElem?_eq_getElem]
    rw [Array.getElem?_toList, h3, h1]
    have h4 : l.toArray[t / 2]! = l[t / 2] := by rw [getElem!_pos _ _ (by simpa using hk)]; simp
    rw [h4]
    rcases Nat.mod_two_eq_zero_or_one t with h5 | h5 <;> rw [h5] <;> rfl
  · rw [List.getElem?_eq_none (by simp; omega), List.getElem?_eq_none (by omega)]

theorem holds_row {w : World} {g : Nat} {cur : Array Value} {e : TypeId} {xs : List Value} {F : Array Value} (hb : w.heap[g]? = some (.cells cur e (0, 0))) (ht : cur.toList.take xs.length = xs) (hF : F.toList = xs) : Holds (id : Value → Value) w g 0 F := by
  intro j hj
  have hj' : j < xs.length := by rw [← hF]; simpa using hj
  refine ⟨?_, by simp [World.frozen?, hb]⟩
  have h1 : (cur.toList.take xs.length)[j]? = xs[j]? := by rw [ht]
  rw [List.getElem?_take_of_lt hj'] at h1
  simp only [World.cell?, hb, Nat.zero_add]
  simp only [Option.isSome_none, Bool.false_eq_true, if_false]
  rw [← Array.getElem?_toList, h1, ← hF, Array.getElem?_toList, getElem!_pos F j hj, Array.getElem?_eq_getElem]
  rfl
theorem heap_sortedF {w : World} {g n : Nat} {os : Array Obj} {cur : Array Value} {e : TypeId} {fr : Nat × Nat} (d : Array Value) (hb : w.heap[g]? = some (.cells cur e fr)) :
    (grow (putRow (id : Value → Value) (Sort.ahead w n) g 0 d) os).heap[g]? = some (.cells (putCells id 0 d cur) e fr) := by
  have hg : g < w.heap.size := (Array.getElem?_eq_some_iff.1 hb).1
  rw [heap_grow_old _ _ (by simpa using hg)]
  simp [putRow, mapBlock, Sort.ahead, Array.getElem?_modify, hb, onCells]
theorem kept_sortedF {w : World} {g n : Nat} {os : Array Obj} (d : Array Value) : KeptBut (fun k => k = g) w (grow (putRow (id : Value → Value) (Sort.ahead w n) g 0 d) os) := by
  refine ⟨rfl, rfl, rfl, by simp, fun k hk hne => ?_⟩
  rw [heap_grow_old _ _ (by simpa using hk)]
  have : g ≠ k := fun e => hne e.symm
  simp [putRow, mapBlock, Sort.ahead, Array.getElem?_modify, this]
theorem take_putCellsF (cur F : Array Value) (h : F.size ≤ cur.size) : (putCells (id : Value → Value) 0 F cur).toList.take F.size = F.toList := by
  apply List.ext_getElem?
  intro j
  by_cases hj : j < F.size
  · rw [List.getElem?_take_of_lt hj, Array.getElem?_toList]
    simp [putCells, hj, show j < cur.size by omega]
  · rw [List.getElem?_take_eq_none (by omega), List.getElem?_eq_none (by simp; omega)]
theorem ownsRow_sortedF {w : World} {base g cap n m k : Nat} {e : TypeId} {os : Array Obj} {xs : List Value} {F : Array Value} (h : w.ownsRow base e k (.slice (some ⟨g, 0, none⟩) m cap) m xs) (hF : F.size = m * k) :
    (grow (putRow (id : Value → Value) (Sort.ahead w n) g 0 F) os).ownsRow base e k (.slice (some ⟨g, 0, none⟩) m cap) m F.toList := by
  rcases h.2 with ⟨h2, -⟩ | ⟨g', cap', cur, hv, hb, hg, h1, h2, h3, h4⟩
  · cases h2
  · cases hv
    have hmk : m * k ≤ cap * k := Nat.mul_le_mul_right k h1
    exact ⟨by simpa using hF, .inr ⟨g, cap, _, rfl, hb, heap_sortedF _ hg, h1, h2, by simp [putCells, h3], by rw [← hF]; exact take_putCellsF cur F (by omega)⟩⟩

def cmpD (x y : Sp) : Int := Lib.compareInt x.lo y.lo
theorem cmp_lt (x y : Sp) : ltOf cmpD x y = decide (x.lo < y.lo) := by
  unfold ltOf cmpD Lib.compareInt
  by_cases h1 : x.lo < y.lo
  · simp [h1]
  · by_cases h2 : y.lo < x.lo <;> simp [h1, h2]
theorem cmp_swo : SWO (ltOf cmpD) where
  irrefl x := by rw [cmp_lt]; simp
  trans x y z h1 h2 := by rw [cmp_lt] at *; simp at *; omega
  ntrans x y z h1 h2 := by rw [cmp_lt] at *; simp at *; omega

set_option maxHeartbeats 1000000 in
theorem thrown1_any (x y : Sp) (W : World) : Calls Try.prog 116 #[.agg #[.int .i64 x.lo, .int .i64 x.hi], .agg #[.int .i64 y.lo, .int .i64 y.hi]] W fun e w' => e = .returned (.int .i64 (cmpD x y)) ∧ ∃ q os', w' = grow (W.drewN q) os' := by
  have hcon := fun W' => AnyG.cmp_Compare_int cmpL x.lo y.lo W'
  change ∀ W', Calls Try.prog 117 _ _ _ at hcon
  unfold cmpD
  generalize Lib.compareInt x.lo y.lo = r at hcon ⊢
  obtain ⟨x1, x2⟩ := x
  obtain ⟨y1, y2⟩ := y
  simp only at hcon
  go_enter Try.func116, Try.ntmps116
  go_wp2_with (go_at_call 117; refine (hcon _).mono ?_; rintro e w' ⟨rfl, rfl⟩)
  go_ret
  exact ⟨rfl, 0, _, by rw [alloc_eq_grow, alloc_eq_grow, grow_grow]; rfl⟩

/-- What the sort leaves of a row of one's own. -/
def SortRet (base : Nat) (w : World) (v : Value) (l : List Sp) (e : Ending) (w' : World) : Prop :=
  e = .returned (.tuple #[]) ∧ ∃ l', l'.Perm l ∧ l'.Pairwise (fun a b => a.lo ≤ b.lo) ∧ OSpans base w' v l' ∧ KeptBut (fun k => some k = v.ownBlock) w w'
theorem sort_any (base : Nat) (l : List Sp) (v : Value) (w : World) (h : OSpans base w v l) (hl : l.length ≤ 1000) :
    Calls Try.prog 115 #[v, .func (.func 116) #[] #[]] w (SortRet base w v l) := by
  rcases Nat.eq_zero_or_pos l.length with h0 | h0
  · obtain rfl := List.eq_nil_of_length_eq_zero h0
    obtain ⟨A, c, rfl⟩ := ownsRow_form h
    have hc := AnyF.slices_SortFunc_none sortL A c (.func (.func 116) #[] #[]) w
    change Calls Try.prog 115 _ _ _ at hc
    refine hc.mono ?_
    rintro e w' ⟨rfl, rfl⟩
    exact ⟨rfl, [], List.Perm.refl _, List.Pairwise.nil, h, KeptBut.refl _ _⟩
  · obtain ⟨A, c, rfl⟩ := ownsRow_form h
    obtain ⟨g, rfl, hg, hgz⟩ := ownsRow_block h h0
    have hH : HoldsK Sp.cells 2 w g 0 l.toArray := by
      rcases h.2 with ⟨h2, -⟩ | ⟨g', cap', cur, hv, hb, hgg, h1, h2, h3, h4⟩
      · cases h2
      · cases hv
        refine holds_row (xs := l.flatMap Sp.cells) hgg ?_ (flatK_list l)
        rw [flat_get Sp.cells 2 (fun _ => rfl) l]
        exact h4
    have eg : ∀ args w, (callFunc 116 args).run Try.prog w = .ok (.enter 116 args) w := enters_of Try.func116 (by kernel_rfl) rfl
    have hcon := AnyQ.slices_SortFunc sortL 2 Try.isAgg45 Try.sizeOf45 Sp.cells (fun _ => rfl) (fun x v hv => by simp [Sp.cells] at hv; rcases hv with rfl | rfl <;> rfl) cmpD cmp_swo 116 #[] g 0 c l.toArray w eg (fun _ _ _ _ x y => thrown1_any x y _) hH hgz (by simp; omega)
    change Calls Try.prog 115 _ _ _ at hcon
    simp only [List.size_toArray] at hcon
    refine hcon.mono ?_
    rintro e w' ⟨rfl, d', n, os, hp, hs, rfl⟩
    have hsz : d'.size = l.length := by simpa using hp.1
    have hdl : d'.toList.Perm l := by
      have := hp.2.2
      rw [show d'.extract 0 l.length = d' by rw [← hsz]; simp] at this
      simpa using this
    have hF : (flatK Sp.cells 2 d').toList = d'.toList.flatMap Sp.cells := by
      have := flatK_list d'.toList
      simpa using this
    refine ⟨rfl, d'.toList, hdl, ?_, ?_, ?_⟩
    · rw [List.pairwise_iff_getElem]
      intro i j hi hj hij
      have hi' : i < d'.size := by simpa using hi
      have hj' : j < d'.size := by simpa using hj
      have := hs i j (Nat.zero_le _) hij (by omega)
      rw [cmp_lt, getElem!_pos d' i hi', getElem!_pos d' j hj'] at this
      simp at this
      simpa using this
    · have h9 := ownsRow_sortedF (n := n) (os := os) h (F := flatK Sp.cells 2 d') (by rw [size_flatK, hsz])
      rw [hF] at h9
      unfold OSpans
      rw [show d'.toList.length = l.length by simpa using hsz]
      exact h9
    · exact (kept_sortedF (n := n) (os := os) (g := g) (w := w) (flatK Sp.cells 2 d')).mono fun k _ hk => by subst hk; rfl
end Go.Proofs.Ytpkepacbondopaa
