/-
  prices: its state, a round.
-/
import Derived.RangeFuncFrom
import Derived.Test.YtpkepacbondopaaLu
import Derived.Test.YtpkepacbondopaaMc
import Derived.Test.YtpkepacbondopaaMe
namespace Go.Proofs.Ytpkepacbondopaa
open Go.RowKit Go.Shelf
attribute [local go_sem] Oper.semAt_some

noncomputable def prLoop (k : Nat) : Code := (Try.f85.body.bind (loopAt k)).getD .skip
/-- The weeks up to which an order can be, in the order of the iterator. -/
def batchN (s : SupD) (a : Nat) : List Nat := (if okE s a s.need.length then [s.need.length] else []) ++ ((List.range (s.need.length - a - 1)).filter fun j => okE s a (a + 1 + j)).map fun j => a + 1 + j
theorem batchN_val {s : SupD} {a : Nat} (ha : a < s.need.length) : (batchesTo s a ha s.need.length).map (·.1) = batchN s a := by
  unfold batchesTo batchN
  rw [List.map_append, List.map_map]
  congr 1
  · split
    · simp [bt_val (s := s) (a := a) (ha := ha) (e := s.need.length) ⟨ha, Nat.le_refl _⟩]
    · rfl
  · refine List.map_congr_left fun j hj => ?_
    have := List.mem_range.1 (List.mem_filter.1 hj).1
    exact bt_val ⟨by omega, by omega⟩
def big : Int := 9223372036854775807
def stepE (s : SupD) (a : Nat) (L : List Int) (e : Nat) : List Int := L.set e (min (L.getD e 0) (L.getD a 0 + costE s a e))
def weekP (s : SupD) (a : Nat) (L : List Int) : List Int := (batchN s a).foldl (stepE s a) L
def pricesTo (s : SupD) (k : Nat) : List Int := (List.range k).foldl (fun L a => weekP s a L) (0 :: List.replicate s.need.length big)
theorem pricesTo_next (s : SupD) (k : Nat) : pricesTo s (k + 1) = weekP s k (pricesTo s k) := by unfold pricesTo; rw [List.range_succ, List.foldl_append]; rfl
/-- The prices so far: none is out of the numbers' reach, and those of the weeks to the k-th are small. -/
structure PrB (s : SupD) (k : Nat) (L : List Int) : Prop where
  len : L.length = s.need.length + 1
  all : ∀ j, 0 ≤ L.getD j 0 ∧ L.getD j 0 ≤ big
  low : ∀ j, j ≤ k → L.getD j 0 ≤ 500000000 * (j : Int)
theorem getD_set (L : List Int) (i j : Nat) (x : Int) : (L.set i x).getD j 0 = if i = j ∧ i < L.length then x else L.getD j 0 := by
  rw [List.getD_eq_getElem?_getD, List.getElem?_set, List.getD_eq_getElem?_getD]
  by_cases h : i = j
  · subst h
    by_cases h2 : i < L.length
    · simp [h2]
    · simp [h2, List.getElem?_eq_none (Nat.le_of_not_lt h2)]
  · simp [h]
theorem SupD.Ok.costE_bound {s : SupD} (h : s.Ok) {a e : Nat} (h1 : a < e) (h2 : e ≤ s.need.length) : 0 ≤ costE s a e ∧ costE s a e ≤ 450000000 := by
  have h3 := h.weeks
  have h4 := h.cost a (e - a - 1) (by omega)
  unfold costE
  have : ((e - a - 1 : Nat) : Int) ≤ 19 := by omega
  omega
theorem PrB.step {s : SupD} (hs : s.Ok) {k : Nat} {L : List Int} (h : PrB s k L) {e : Nat} (h1 : k < e) (h2 : e ≤ s.need.length) : PrB s k (stepE s k L e) ∧ (stepE s k L e).getD k 0 = L.getD k 0 := by
  have hc := hs.costE_bound h1 h2
  have hlen := h.len
  have hE : ∀ j, (stepE s k L e).getD j 0 = if e = j then min (L.getD e 0) (L.getD k 0 + costE s k e) else L.getD j 0 := fun j => by
    unfold stepE
    rw [getD_set]
    by_cases hj : e = j
    · rw [if_pos ⟨hj, by omega⟩, if_pos hj]
    · rw [if_neg (fun h => hj h.1), if_neg hj]
  refine ⟨⟨by unfold stepE; rw [List.length_set]; exact hlen, fun j => ?_, fun j hj => ?_⟩, ?_⟩
  · rw [hE]
    have h3 := h.all e
    have h4 := h.all k
    have h5 := h.all j
    split <;> omega
  · rw [hE, if_neg (by omega)]
    exact h.low j hj
  · rw [hE, if_neg (by omega)]
theorem foldl_step {s : SupD} (hs : s.Ok) {k : Nat} : ∀ (l : List Nat) {L : List Int}, (∀ e ∈ l, k < e ∧ e ≤ s.need.length) → PrB s k L → PrB s k (l.foldl (stepE s k) L) ∧ (l.foldl (stepE s k) L).getD k 0 = L.getD k 0 ∧ (∀ j, (l.foldl (stepE s k) L).getD j 0 ≤ L.getD j 0) ∧ ∀ e ∈ l, (l.foldl (stepE s k) L).getD e 0 ≤ L.getD k 0 + costE s k e
  | [], L, _, h => ⟨h, rfl, fun _ => Int.le_refl _, fun _ h => by cases h⟩
  | e :: l, L, hl, h => by
    obtain ⟨h1, h2⟩ := hl e (List.mem_cons_self ..)
    obtain ⟨h3, h4⟩ := h.step hs h1 h2
    obtain ⟨h5, h6, h7, h8⟩ := foldl_step hs l (fun x hx => hl x (List.mem_cons_of_mem _ hx)) h3
    have hlen := h.len
    have hE : ∀ j, (stepE s k L e).getD j 0 = if e = j then min (L.getD e 0) (L.getD k 0 + costE s k e) else L.getD j 0 := fun j => by
      unfold stepE
      rw [getD_set]
      by_cases hj : e = j
      · rw [if_pos ⟨hj, by omega⟩, if_pos hj]
      · rw [if_neg (fun h => hj h.1), if_neg hj]
    refine ⟨h5, h6.trans h4, fun j => Int.le_trans (h7 j) ?_, fun x hx => ?_⟩
    · rw [hE]
      split
      · rename_i h; subst h; omega
      · exact Int.le_refl _
    · rcases List.mem_cons.1 hx with rfl | hx
      · refine Int.le_trans (h7 x) ?_
        rw [hE, if_pos rfl]
        omega
      · rw [← h4]; exact h8 x hx
theorem batchN_mem {s : SupD} {a e : Nat} (ha : a < s.need.length) (h : e ∈ batchN s a) : a < e ∧ e ≤ s.need.length := by
  unfold batchN at h
  rcases List.mem_append.1 h with h | h
  · split at h
    · rw [List.mem_singleton.1 h]; exact ⟨ha, Nat.le_refl _⟩
    · cases h
  · obtain ⟨j, hj, rfl⟩ := List.mem_map.1 h
    have := List.mem_range.1 (List.mem_filter.1 hj).1
    omega
theorem okE_next {s : SupD} (hs : s.Ok) (a : Nat) : okE s a (a + 1) = true := by
  unfold okE
  rw [show a + 1 - a - 1 = 0 by omega]
  unfold SupD.kept
  have := hs.room
  exact decide_eq_true (by omega)
theorem batchN_next {s : SupD} (hs : s.Ok) {a : Nat} (ha : a < s.need.length) : a + 1 ∈ batchN s a := by
  unfold batchN
  by_cases h : a + 1 = s.need.length
  · refine List.mem_append_left _ ?_
    have := okE_next hs a
    rw [h] at this
    rw [if_pos this, h]
    exact List.mem_singleton.2 rfl
  · refine List.mem_append_right _ (List.mem_map.2 ⟨0, List.mem_filter.2 ⟨List.mem_range.2 (by omega), by simpa using okE_next hs a⟩, rfl⟩)
theorem PrB.next {s : SupD} (hs : s.Ok) {k : Nat} (hk : k < s.need.length) {L : List Int} (h : PrB s k L) : PrB s (k + 1) (weekP s k L) := by
  obtain ⟨h1, h2, h3, h4⟩ := foldl_step hs (batchN s k) (fun e he => batchN_mem hk he) h
  refine ⟨h1.len, h1.all, fun j hj => ?_⟩
  rcases Nat.lt_or_ge j (k + 1) with hj' | hj'
  · exact h1.low j (by omega)
  · obtain rfl : j = k + 1 := by omega
    have h5 := h4 (k + 1) (batchN_next hs hk)
    have h6 := h.low k (Nat.le_refl _)
    have h7 := hs.costE_bound (a := k) (e := k + 1) (by omega) (by omega)
    unfold weekP
    omega
theorem PrB.start (s : SupD) : PrB s 0 (0 :: List.replicate s.need.length big) := by
  have hE : ∀ j, (0 :: List.replicate s.need.length big).getD j 0 = 0 ∨ (0 :: List.replicate s.need.length big).getD j 0 = big := fun j => by
    cases j with
    | zero => exact .inl rfl
    | succ j =>
      rw [List.getD_cons_succ, List.getD_eq_getElem?_getD, List.getElem?_replicate]
      split
      · exact .inr rfl
      · exact .inl rfl
  refine ⟨by simp, fun j => ?_, fun j hj => ?_⟩
  · rcases hE j with h | h <;> rw [h] <;> decide
  · obtain rfl : j = 0 := by omega
    show (0 : Int) ≤ 500000000 * ((0 : Nat) : Int)
    omega
theorem pricesTo_ok {s : SupD} (hs : s.Ok) : ∀ k, k ≤ s.need.length → PrB s k (pricesTo s k)
  | 0, _ => PrB.start s
  | k + 1, hk => by
    rw [pricesTo_next]
    exact (pricesTo_ok hs k (by omega)).next hs (by omega)


/-- What lies there between two weeks. -/
structure PrSt (w : World) (s : SupD) (An Ao : Option Addr) (cn co PB G c : Nat) (ds : List Deferred) (L : List Int) (X : World) : Prop where
  below_ : Below w.heap.size w X
  sup : Blk X w.heap.size 33 #[.slice An s.need.length cn, .slice Ao s.need.length co, .int .i64 s.keep, .int .i64 s.room]
  box : Blk X PB 30 #[.slice (some ⟨G, 0, none⟩) (s.need.length + 1) c]
  base : w.heap.size ≤ PB
  row : X.ownsRow w.heap.size 3 1 (.slice (some ⟨G, 0, none⟩) (s.need.length + 1) c) (s.need.length + 1) (L.map (Value.int .i64))
  defs : DsOk w.heap.size ds X
section
variable {w : World} {s : SupD} {An Ao : Option Addr} {cn co PB G c : Nat} {ds : List Deferred} {L : List Int} {X Y : World}
theorem PrSt.below (h : PrSt w s An Ao cn co PB G c ds L X) (hb : Below X.heap.size X Y) : PrSt w s An Ao cn co PB G c ds L Y := by
  obtain ⟨h1, h2, h3, h4, h5, h6⟩ := h
  exact ⟨h1.trans (hb.mono h1.size), h2.below hb h2.lt, h3.below hb h3.lt, h4, ownsRow_below h5 hb, h6.keep fun D _ hD => hb.block D (Array.getElem?_eq_some_iff.1 hD).1⟩
theorem PrSt.grow {row : Option Nat} {B : Nat} (h : PrSt w s An Ao cn co PB G c ds L X) (hg : X.grownBy Y row) (hr : ∀ r, row = some r → B ≤ r ∧ ∃ o : Obj, X.heap[r]? = some o ∧ o.isCells = false) (hB : w.heap.size ≤ B)
    (hlt : ∀ D, ({ target := .collected D, args := #[] } : Deferred) ∈ ds → D < B) : PrSt w s An Ao cn co PB G c ds L Y := by
  obtain ⟨h1, h2, h3, h4, h5, Ds, h6, h6n, h6a⟩ := h
  refine ⟨h1.grown hg h1.size (fun j hj => by have := (hr j hj).1; omega), blk_grown h2 hg hr, blk_grown h3 hg hr, h4, ?_, Ds, h6, h6n, fun D hD => ⟨(h6a D hD).1, ?_⟩⟩
  · refine ownsRow_keptBut h5 (KeptBut.grown (S := fun k => some k = row) hg fun k hk => hk) fun g cs _ hB' e => ?_
    obtain ⟨-, o, ho, hc⟩ := hr g e.symm
    have := hB'.symm.trans ho
    simp at this
    subst this
    cases hc
  · have hD' : D < B := hlt D (by rw [h6]; exact List.mem_map.2 ⟨D, hD, rfl⟩)
    refine (hg.block D (Array.getElem?_eq_some_iff.1 (h6a D hD).2).1 fun e => ?_).trans (h6a D hD).2
    have := (hr D e.symm).1
    omega
theorem PrSt.lt (h : PrSt w s An Ao cn co PB G c ds L X) : ∀ D, ({ target := .collected D, args := #[] } : Deferred) ∈ ds → D < X.heap.size := by
  intro D hD
  obtain ⟨Ds, h4, -, h4a⟩ := h.defs
  rw [h4] at hD
  obtain ⟨D', hD', e⟩ := List.mem_map.1 hD
  cases e
  exact (Array.getElem?_eq_some_iff.1 (h4a D hD').2).1
theorem PrSt.range {D : Nat} (h : PrSt w s An Ao cn co PB G c ds L X) (hlt : ∀ D', ({ target := .collected D', args := #[] } : Deferred) ∈ ds → D' < D) (hw : w.heap.size ≤ D) (hK : X.heap[D]? = some (.deferred (some []))) : PrSt w s An Ao cn co PB G c ({ target := .collected D, args := #[] } :: ds) L X := by
  obtain ⟨h1, h2, h3, h4, h5, Ds, h6, h6n, h6a⟩ := h
  refine ⟨h1, h2, h3, h4, h5, D :: Ds, by rw [h6]; rfl, List.nodup_cons.2 ⟨fun hD => ?_, h6n⟩, fun D' hD => ?_⟩
  · have := hlt D (by rw [h6]; exact List.mem_map.2 ⟨D, hD, rfl⟩)
    omega
  · rcases List.mem_cons.1 hD with rfl | hD
    · exact ⟨hw, hK⟩
    · exact h6a D' hD
theorem PrSt.G_lt (h : PrSt w s An Ao cn co PB G c ds L X) : w.heap.size ≤ G ∧ G < X.heap.size ∧ ∃ cs, Blk X G 3 cs := by
  obtain ⟨h1, cs, h2⟩ := ownsRow_own h.row (g := G) rfl
  exact ⟨h1, h2.lt, cs, h2⟩
theorem PrSt.cell (h : PrSt w s An Ao cn co PB G c ds L X) {j : Nat} (hj : j < s.need.length + 1) : X.cell? ⟨G, j, none⟩ = some (.int .i64 (L.getD j 0)) := by
  have hl : L.length = s.need.length + 1 := by have := h.row.1; simpa using this
  have := h.row.cells (g := G) rfl j (.int .i64 (L.getD j 0)) (by rw [List.getElem?_map, List.getD_eq_getElem?_getD, List.getElem?_eq_getElem (by omega)]; rfl)
  rwa [Addr.add_lit, Nat.zero_add] at this
theorem PrSt.put (h : PrSt w s An Ao cn co PB G c ds L X) {j : Nat} (hj : j < s.need.length + 1) (x : Int) : PrSt w s An Ao cn co PB G c ds (L.set j x) (X.setCell ⟨G, j, none⟩ (.int .i64 x)) ∧ KeptBut (fun k => k = G) X (X.setCell ⟨G, j, none⟩ (.int .i64 x)) := by
  obtain ⟨hG, -, cs, hB⟩ := h.G_lt
  obtain ⟨h1, h2, h3, h4, h5, h6⟩ := h
  have hK : KeptBut (fun k => k = G) X (X.setCell ⟨G, j, none⟩ (.int .i64 x)) := KeptBut.setCell (S := fun k => k = G) rfl _
  refine ⟨⟨h1.trans (hK.below (fun k hk => by omega) h1.size), hK.blk h2 (fun e => ?_), hK.blk h3 (fun e => ?_), h4, ?_, h6.keep fun D _ hD => hK.block D (Array.getElem?_eq_some_iff.1 hD).1 fun e => ?_⟩, hK⟩
  · exact Blk.ne h2 hB (by decide) e
  · exact Blk.ne h3 hB (by decide) e
  · have := ownsRow_put h5 (j := j) (by omega) (.int .i64 x)
    rw [List.map_set]
    exact this
  · subst e
    have := hB.symm.trans hD
    simp at this
end
theorem batches_any (s : SupD) (An Ao : Option Addr) (n cn co : Nat) (a : Int) (w : World) : Calls Try.prog 87 #[.agg #[.slice An n cn, .slice Ao n co, .int .i64 s.keep, .int .i64 s.room], .int .i64 a] w fun e w' =>
    e = .returned (.func (.func 132) #[] #[.pointer (some ⟨w.heap.size, 0, none⟩), .pointer (some ⟨w.heap.size + 1, 0, none⟩)]) ∧ Hid (Below w.heap.size w w' ∧ Blk w' w.heap.size 33 #[.slice An n cn, .slice Ao n co, .int .i64 s.keep, .int .i64 s.room] ∧ Blk w' (w.heap.size + 1) 3 #[.int .i64 a]) := by
  have hmf : ∀ (fn : Fn) (first cap : Array Value) (w : World), (Instr.makeFunc fn first cap).run Try.prog w = .ok (.func fn first cap) w := fun _ _ _ _ => rfl
  have F : ∃ W, (w.alloc (.cells #[.slice An n cn, .slice Ao n co, .int .i64 s.keep, .int .i64 s.room] 33)).alloc (.cells #[.int .i64 a] 3) = W ∧ Hid (Below w.heap.size w W ∧ Blk W w.heap.size 33 #[.slice An n cn, .slice Ao n co, .int .i64 s.keep, .int .i64 s.room] ∧ Blk W (w.heap.size + 1) 3 #[.int .i64 a]) := by
    refine ⟨_, rfl, ?_⟩
    have b1 := below_alloc w (.cells #[.slice An n cn, .slice Ao n co, .int .i64 s.keep, .int .i64 s.room] 33)
    have k1 := Blk.new w 33 #[.slice An n cn, .slice Ao n co, .int .i64 s.keep, .int .i64 s.room]
    obtain ⟨X1, e1⟩ : ∃ X, w.alloc (.cells #[.slice An n cn, .slice Ao n co, .int .i64 s.keep, .int .i64 s.room] 33) = X := ⟨_, rfl⟩
    have z1 : X1.heap.size = w.heap.size + 1 := by rw [← e1]; simp
    rw [e1] at b1 k1 ⊢
    have b2 := below_alloc X1 (.cells #[.int .i64 a] 3)
    have k2 := Blk.new X1 3 #[.int .i64 a]
    rw [z1] at k2
    exact ⟨b1.trans (b2.mono b1.size), k1.below b2 k1.lt, k2⟩
  obtain ⟨W, e, hW⟩ := F
  have E := Lib.hid e
  clear e
  go_enter Try.func87, Try.ntmps87
  go_upto_region 1 with fail
  rw [E.out]
  go_wp2
  go_ret
  exact ⟨rfl, hW⟩

end Go.Proofs.Ytpkepacbondopaa
