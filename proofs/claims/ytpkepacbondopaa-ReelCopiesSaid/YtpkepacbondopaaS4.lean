/-
  ReelCopies: for any press, any web and any numbers of copies the call returns true, and each argument reads as it did.
  No bound is asked of the arguments.
-/
import Derived.Test.YtpkepacbondopaaS3
import Derived.OrdersHeld
import Derived.Deep.RegionHeld
import Derived.StillTail
import Derived.Test.YtpkepacbondopaaLa
import Derived.Deep.AppendLies
import Derived.Deep.RegionHeld3
import Derived.WalkLawsBesides
import Derived.Test.YtpkepacbondopaaOd
namespace Go.Proofs.Ytpkepacbondopaa
section
variable {P : Program} {ops : Array Oper} {Q : Exit → Act → World → Prop} {md : Region.Mode} {S : World → Prop} {n : Nat}

/-- Whatever order is picked; S holds behind each of the first n operations. -/
def wpAnyT (P : Program) (md : Region.Mode) (ops : Array Oper) (Q : Exit → Act → World → Prop) (n : Nat) (S : World → Prop) : Nat → Array Bool → Act → World → Prop
  | 0, listed, a, w => Region.ready md ops listed = [] ∧ Q .normal a w
  | f + 1, listed, a, w => (Region.ready md ops listed = [] → Q .normal a w) ∧ ∀ i ∈ Region.ready md ops listed, wpOp P ops Q i (fun a' w' => (i < n → S w') ∧ wpAnyT P md ops Q n S f (listed.setIfInBounds i true) a' w') a w
theorem wpAny_of_T : ∀ (f : Nat) (listed : Array Bool) (a : Act) (w : World), wpAnyT P md ops Q n S f listed a w → wpAny P md ops Q f listed a w
  | 0, _, _, _, h => h
  | f + 1, _, _, _, h => ⟨h.1, fun i hi => wpOp_mono (fun a' w' h' => wpAny_of_T f _ a' w' h'.2) (h.2 i hi)⟩
/-- The last operations, from the n-th on, stand in a row behind all the others. -/
def lastB (md : Region.Mode) (ops : Array Oper) (n : Nat) : Bool := Region.sinkB md ops n && Region.chainB md ops n && decide (n < ops.size)
/-- A set of operations that have come up: with each all that it waits for, none of the last ones. -/
def invB (md : Region.Mode) (ops : Array Oper) (n : Nat) (listed : Array Bool) : Bool :=
  decide (listed.size = ops.size) && ((List.range ops.size).all fun j => !listed.getD j false || ((ops[j]?).map fun o => o.after.all fun e => !Region.binds md e || listed.getD e.on false).getD true) && ((List.range ops.size).all fun t => decide (t < n) || !listed.getD t true)
theorem invB_spec {listed : Array Bool} (h : invB md ops n listed = true) : HeadInv md ops n listed := by
  unfold invB at h
  simp only [Bool.and_eq_true, decide_eq_true_eq] at h
  obtain ⟨⟨h1, h2⟩, h3⟩ := h
  refine ⟨h1, fun j oj hj hl e he hb => ?_, fun t ht ht' => ?_⟩
  · have h4 := List.all_eq_true.1 h2 j (List.mem_range.2 (Array.getElem?_eq_some_iff.1 hj).1)
    rw [hl, hj] at h4
    have h5 : oj.after.all (fun e => !Region.binds md e || listed.getD e.on false) = true := h4
    have h6 := Array.all_eq_true'.1 h5 e he
    rw [hb] at h6
    exact h6
  · have h4 := List.all_eq_true.1 h3 t (List.mem_range.2 ht')
    rw [Bool.or_eq_true, decide_eq_true_eq, Bool.not_eq_true'] at h4
    exact h4.resolve_left (by omega)
theorem last_waits {i j : Nat} {listed : Array Bool} (hB : lastB md ops n = true) (inv : HeadInv md ops n listed) (hi : i < n) (hun : listed.getD i true = false) (hj : j ∈ Region.ready md ops listed) : j < n := by
  unfold lastB at hB
  simp only [Bool.and_eq_true, decide_eq_true_eq] at hB
  rcases Nat.lt_or_ge j n with h | h
  · exact h
  · exact absurd hj (tail_waits hB.1.1 hB.1.2 hB.2 inv _ i rfl hi hun j h)
theorem wpAnyT_first {i : Nat} {oi : Oper} {v : Value} (hi : ops[i]? = some oi) (hsel : ∀ (j : Nat) (o : Oper) cs b, ops[j]? = some o → o.op ≠ .select cs b)
    (hQ : ∀ c a w, Q (.panic c) (a.put oi.dst v) w → Q (.panic c) a w) (hB : lastB md ops n = true) (hin : i < n) :
    ∀ (f : Nat) (listed : Array Bool) (a : Act) (w : World), HeadInv md ops n listed →
      (∀ j oj, ops[j]? = some oj → j ≠ i → listed.getD j true = false → (∀ e ∈ oj.after, Region.binds md e = true → e.on ≠ i) → oi.apart ops oj = true) →
      i ∈ Region.ready md ops listed → YieldsIf P ops S oi v a → S w →
      wpAnyT P md ops Q n S f (listed.setIfInBounds i true) (a.put oi.dst v) w → wpAnyT P md ops Q n S (f + 1) listed a w
  | 0, listed, a, w, inv, _, hr, hy, hS, H => by
    refine ⟨fun h => (by rw [h] at hr; cases hr), fun j hj => ?_⟩
    by_cases hji : j = i
    · subst hji; exact hy.wpOp hi hS ⟨fun _ => hS, H⟩
    · have h0 := ready_mono hj hji
      rw [H.1] at h0
      cases h0
  | f + 1, listed, a, w, inv, hfree, hr, hy, hS, H => by
    have hun := (mem_ready.1 hr).1
    refine ⟨fun h => (by rw [h] at hr; cases hr), fun j hj => ?_⟩
    by_cases hji : j = i
    · subst hji; exact hy.wpOp hi hS ⟨fun _ => hS, H⟩
    · have hjn := last_waits hB inv hin hun hj
      have h1 := H.2 j (ready_mono hj hji)
      obtain ⟨hjun, oj, hoj, hall⟩ := mem_ready.1 hj
      have hnot : ∀ e ∈ oj.after, Region.binds md e = true → e.on ≠ i := fun e he hb heq => by
        have h2 := hall e he hb
        rw [heq, getD_both hun] at h2
        cases h2
      have h2 := wpOp_putIf hoj (hfree j oj hoj hji hjun hnot) (fun cs b => hsel i oi cs b hi) (fun cs b => hsel j oj cs b hoj) hQ hy h1
      refine wpOp_mono (fun a' w' h3 => ⟨fun _ => h3.2.1 hjn, wpAnyT_first hi hsel hQ hB hin f (listed.setIfInBounds j true) a' w' (inv.set hj hjn) (fun k ok hk hki hkun hno => hfree k ok hk hki ?_ hno) (ready_mono hr (Ne.symm hji)) h3.1 (h3.2.1 hjn) ?_⟩) h2
      · by_cases hjk : j = k
        · subst hjk; exact hjun
        · rw [getD_set_ne true hjk] at hkun; exact hkun
      · rw [Array.setIfInBounds_comm _ _ hji]
        exact h3.2.2
theorem wpAnyT_take {i : Nat} {oi : Oper} {v : Value} {f : Nat} {listed : Array Bool} {a : Act} {w : World} (hB : lastB md ops n = true) (hI : invB md ops n listed = true) (hi : ops[i]? = some oi)
    (hs : Region.noSelect ops = true) (hf : Region.free md ops listed i = true) (hr : (Region.ready md ops listed).contains i = true) (hin : i < n)
    (hQ : ∀ c a w, Q (.panic c) (a.put oi.dst v) w → Q (.panic c) a w) (hy : YieldsIf P ops S oi v a) (hS : S w)
    (h : wpAnyT P md ops Q n S f (listed.setIfInBounds i true) (a.put oi.dst v) w) : wpAnyT P md ops Q n S (f + 1) listed a w :=
  wpAnyT_first hi (Region.noSelect_spec hs) hQ hB hin f listed a w (invB_spec hI) (Region.free_spec hi hf) (by simpa using hr) hy hS h
theorem wpAnyT_last {f : Nat} {listed : Array Bool} {a : Act} {w : World} (hl : (Region.ready md ops listed).all (fun j => decide (n ≤ j)) = true) (hd : ∀ i ∈ Region.ready md ops listed, wpOp P ops Q i (fun a' w' => wpAnyT P md ops Q n S f (listed.setIfInBounds i true) a' w') a w) (hne : Region.ready md ops listed ≠ []) : wpAnyT P md ops Q n S (f + 1) listed a w :=
  ⟨fun h => absurd h hne, fun i hi => wpOp_mono (fun a' w' h' => ⟨fun hin => (by have h9 := List.all_eq_true.1 hl i hi; simp at h9; omega), h'⟩) (hd i hi)⟩
/-- What follows an operation: S shown (of the first n), then the rest. -/
def NextT (P : Program) (md : Region.Mode) (ops : Array Oper) (Q : Exit → Act → World → Prop) (n : Nat) (S : World → Prop) (f : Nat) (listed : Array Bool) (i : Nat) (a : Act) (w : World) : Prop :=
  ∀ K' : Act → World → Prop, Shut (∀ a w, (i < n → S w) → (S w → wpAnyT P md ops Q n S f (listed.setIfInBounds i true) a w) → (n ≤ i → wpAnyT P md ops Q n S f (listed.setIfInBounds i true) a w) → K' a w) → ∀ o, ops[i]? = some o → if Region.wanted o (yielded ops a.tmps) = true then Oper.wp P o a w K' Q else K' (a.put o.dst undef) w
theorem NextT.wpOp {f i : Nat} {listed : Array Bool} {a : Act} {w : World} {o : Oper} (ho : ops[i]? = some o) (h : NextT P md ops Q n S f listed i a w) :
    wpOp P ops Q i (fun a' w' => (i < n → S w') ∧ wpAnyT P md ops Q n S f (listed.setIfInBounds i true) a' w') a w :=
  wpOp_step ho fun K' hK => h K' (fun a w h1 h2 h3 => hK a w ⟨h1, by rcases Nat.lt_or_ge i n with hlt | hge; exact h2 (h1 hlt); exact h3 hge⟩) o ho
theorem wpAnyT_one {i : Nat} {f : Nat} {listed : Array Bool} {a : Act} {w : World} {o : Oper} (hr : Region.ready md ops listed = [i]) (ho : ops[i]? = some o) (h : NextT P md ops Q n S f listed i a w) : wpAnyT P md ops Q n S (f + 1) listed a w :=
  ⟨fun h0 => (by rw [hr] at h0; cases h0), fun j hj => by
    rw [hr] at hj
    obtain rfl := List.mem_singleton.1 hj
    exact h.wpOp ho⟩
theorem wpAnyT_two {i j : Nat} {f : Nat} {listed : Array Bool} {a : Act} {w : World} {o o' : Oper} (hr : Region.ready md ops listed = [i, j]) (ho : ops[i]? = some o) (ho' : ops[j]? = some o') (h : NextT P md ops Q n S f listed i a w) (h' : NextT P md ops Q n S f listed j a w) : wpAnyT P md ops Q n S (f + 1) listed a w :=
  ⟨fun h0 => (by rw [hr] at h0; cases h0), fun k hk => by
    rw [hr] at hk
    rcases List.mem_cons.1 hk with rfl | hk
    · exact h.wpOp ho
    · obtain rfl := List.mem_singleton.1 hk
      exact h'.wpOp ho'⟩
theorem wpAnyT_done {listed : Array Bool} {a : Act} {w : World} (hr : Region.ready md ops listed = []) (h : Q .normal a w) : ∀ f, wpAnyT P md ops Q n S f listed a w
  | 0 => ⟨hr, h⟩
  | _ + 1 => ⟨fun _ => h, by rw [hr]; simp⟩
theorem wpAnyT_of_any : ∀ (f : Nat) (listed : Array Bool) (a : Act) (w : World), (∀ i, i < n → listed.getD i true = true) → wpAny P md ops Q f listed a w → wpAnyT P md ops Q n S f listed a w
  | 0, _, _, _, _, h => h
  | f + 1, listed, a, w, hl, h => by
    refine ⟨h.1, fun i hi => wpOp_mono (fun a' w' h' => ⟨fun hin => ?_, wpAnyT_of_any f _ a' w' (fun j hj => ?_) h'⟩) (h.2 i hi)⟩
    · have h1 := (mem_ready.1 hi).1
      rw [hl i hin] at h1
      cases h1
    · by_cases hij : i = j
      · subst hij
        have h1 := (mem_ready.1 hi).1
        rw [hl i hj] at h1
        cases h1
      · rw [getD_set_ne true hij]; exact hl j hj
theorem wpAnyT_tail {f : Nat} {listed : Array Bool} {a : Act} {w : World} (hl : (List.range n).all (fun i => listed.getD i true) = true) (h : wpAny P md ops Q f listed a w) : wpAnyT P md ops Q n S f listed a w :=
  wpAnyT_of_any f listed a w (fun i hi => List.all_eq_true.1 hl i (List.mem_range.2 hi)) h
theorem wpAnyT_seq {l : List Oper} {k : Nat} {listed : Array Bool} {a : Act} {w : World} (hl : (List.range n).all (fun i => listed.getD i true) = true) (ho : ops.toList.drop k = l) (hB : Region.seqB md ops l.length k listed = true) (h : wpList P ops Q l a w) : wpAnyT P md ops Q n S l.length listed a w :=
  wpAnyT_tail hl (wpAny_of_seq l k listed a w (fun j => by rw [← ho]; simp [List.getElem?_drop]) hB h)
theorem wp_region_T {id : Nat} {a : Act} {w : World} (n : Nat) (S : World → Prop) (hm : P.follows .mixedOrders = true) (hS : S w.drew)
    (h : S w.drew → wpAnyT P .any ops Q n S ops.size (Array.replicate ops.size false) a w.drew) : (Code.region id ops true).wp P Q a w :=
  wp_region_any hm (wpAny_of_T _ _ _ _ (h hS))
end
end Go.Proofs.Ytpkepacbondopaa

namespace Go.Proofs.Ytpkepacbondopaa
open Go.RowKit Go.Shelf
attribute [local go_sem] Oper.semAt_some

theorem sliceWebR : Try.prog.underlying 103 = some (.slice 188) := by kernel_rfl
theorem infoWebR : (Try.prog.info? 188).map (fun i => (i.zero, i.size, i.bytes)) = some (some (.agg #[.slice none 0 0, .int .i64 0, .int .i64 0, .int .i64 0]), 4, 48) := by kernel_rfl
/-- Webs of one's own with their reels, of any types. -/
def OWt (tw tr : TypeId) (base : Nat) (w : World) (v : Value) (l : List WebD) : Prop :=
  ∃ vs : List Value, w.ownsRow base tw 4 v l.length ((l.zip vs).flatMap fun x => webCells x.1 x.2) ∧ vs.length = l.length ∧ ∀ (i : Nat) (u : Value) (x : WebD), vs[i]? = some u → l[i]? = some x → w.ownsRow base tr 4 u x.reels.length (x.reels.flatMap ReelD.cells)
section
variable {tw tr : TypeId} {base : Nat} {w w' : World} {v : Value} {l : List WebD}
theorem OWt.keep (h : OWt tw tr base w v l) {S : Nat → Prop} (hk : KeptBut S w w') (hS : ∀ g cs t, Blk w g t cs → (t = tw ∨ t = tr) → ¬ S g) : OWt tw tr base w' v l := by
  obtain ⟨vs, h1, h2, h3⟩ := h
  exact ⟨vs, ownsRow_keptBut h1 hk fun g cs _ hB => hS g cs _ hB (.inl rfl), h2, fun i u x hu hx => ownsRow_keptBut (h3 i u x hu hx) hk fun g cs _ hB => hS g cs _ hB (.inr rfl)⟩
theorem OWt.below (h : OWt tw tr base w v l) (hb : Below w.heap.size w w') : OWt tw tr base w' v l := h.keep (KeptBut.of_below (S := fun _ => False) hb) fun _ _ _ _ _ h => h
theorem OWt.reads (h : OWt tw tr base w v l) : RWebs w.heap.size w v l := by
  obtain ⟨vs, h1, h2, h3⟩ := h
  exact ⟨vs, Rd.own h1 (own_le h1), h2, fun i u x hu hx => Rd.own (h3 i u x hu hx) (own_le (h3 i u x hu hx))⟩
theorem OWt.nil : OWt tw tr base w (.slice none 0 0) [] := ⟨[], World.ownsRow_nil _ _ _ _, rfl, fun i u x hu => by simp at hu⟩
theorem OWt.form (h : OWt tw tr base w v l) : ∃ A c, v = .slice A l.length c := by
  obtain ⟨vs, h1, -⟩ := h
  exact ownsRow_form h1
/-- A web put behind the others. -/
theorem OWt.app {vs : List Value} {x : WebD} {vr v' : Value} {k : Nat} (hk : l.length = k) (h1 : w.ownsRow base tw 4 v k ((l.zip vs).flatMap fun x => webCells x.1 x.2)) (h2 : vs.length = l.length) (h3 : ∀ (i : Nat) (u : Value) (x : WebD), vs[i]? = some u → l[i]? = some x → w.ownsRow base tr 4 u x.reels.length (x.reels.flatMap ReelD.cells))
    (hr : w.ownsRow base tr 4 vr x.reels.length (x.reels.flatMap ReelD.cells)) (hne : tr ≠ tw) (hK : KeptBut (fun g => some g = v.ownBlock) w w')
    (ho : w'.ownsRow base tw 4 v' (k + 1) (((l.zip vs).flatMap fun x => webCells x.1 x.2) ++ webCells x vr)) : OWt tw tr base w' v' (l ++ [x]) := by
  have hkeep : ∀ u xs n, w.ownsRow base tr 4 u n xs → w'.ownsRow base tr 4 u n xs := fun u xs n hu => ownsRow_keptBut hu hK fun g cs _ hB e => by
    obtain ⟨-, cs', hB'⟩ := ownsRow_own h1 e.symm
    exact Blk.ne hB hB' hne rfl
  subst hk
  refine ⟨vs ++ [vr], ?_, by simp [h2], fun i u y hu hy => ?_⟩
  · rw [List.zip_append h2.symm, List.flatMap_append, List.length_append]
    simpa using ho
  · rcases snoc_get hu with ⟨hi, hu⟩ | ⟨hi, rfl⟩
    · rcases snoc_get hy with ⟨hi', hy⟩ | ⟨hi', rfl⟩
      · exact hkeep _ _ _ (h3 i u y hu hy)
      · omega
    · rcases snoc_get hy with ⟨hi', hy⟩ | ⟨hi', rfl⟩
      · omega
      · exact hkeep _ _ _ hr
end
/-- Two presses in the making: a and b lie in their Webs. -/
structure CpSt (w : World) (p : PressD) (C2 C3 Ob Rb : Nat) (a b : Value) (j k : Nat) (Y : World) : Prop where
  low : Below w.heap.size w Y
  res2 : Blk Y C2 24 #[.int .i64 0, .int .i64 0, .slice none 0 0]
  res3 : Blk Y C3 105 #[.int .i64 0, .int .i64 0, .slice none 0 0]
  own : Blk Y Ob 24 #[.int .i64 p.cut, .int .i64 p.margin, a]
  ref : Blk Y Rb 105 #[.int .i64 p.cut, .int .i64 p.margin, b]
  at_ : w.heap.size ≤ C2 ∧ w.heap.size ≤ C3 ∧ w.heap.size ≤ Ob ∧ w.heap.size ≤ Rb ∧ C2 ≠ Ob ∧ C3 ≠ Rb
  webs : OWt 47 58 w.heap.size Y a (p.webs.take j)
  webr : OWt 188 128 w.heap.size Y b (p.webs.take k)
section
variable {w Y Z : World} {p : PressD} {C2 C3 Ob Rb j k : Nat} {a b : Value}
theorem CpSt.below (h : CpSt w p C2 C3 Ob Rb a b j k Y) (hb : Below Y.heap.size Y Z) : CpSt w p C2 C3 Ob Rb a b j k Z :=
  ⟨h.low.trans (hb.mono h.low.size), h.res2.below hb h.res2.lt, h.res3.below hb h.res3.lt, h.own.below hb h.own.lt, h.ref.below hb h.ref.lt, h.at_, h.webs.below hb, h.webr.below hb⟩
theorem CpSt.all (h : CpSt w p C2 C3 Ob Rb a b j k Y) : Hid (∀ Z, Below Y.heap.size Y Z → CpSt w p C2 C3 Ob Rb a b j k Z) := fun _ hZ => h.below hZ
/-- A web was put behind those of the first press, and the new row written into it. -/
theorem CpSt.app1 {vs : List Value} {x : WebD} {vr v' : Value} (h : CpSt w p C2 C3 Ob Rb a b k k Y) (hx : p.webs[k]? = some x) (hkl : (p.webs.take k).length = k) (h1 : Y.ownsRow w.heap.size 47 4 a k (((p.webs.take k).zip vs).flatMap fun x => webCells x.1 x.2)) (h2 : vs.length = (p.webs.take k).length) (h3 : ∀ (i : Nat) (u : Value) (x : WebD), vs[i]? = some u → (p.webs.take k)[i]? = some x → Y.ownsRow w.heap.size 58 4 u x.reels.length (x.reels.flatMap ReelD.cells))
    (hr : Y.ownsRow w.heap.size 58 4 vr x.reels.length (x.reels.flatMap ReelD.cells)) (hK : KeptBut (fun g => some g = a.ownBlock) Y Z)
    (ho : Z.ownsRow w.heap.size 47 4 v' (k + 1) ((((p.webs.take k).zip vs).flatMap fun x => webCells x.1 x.2) ++ webCells x vr)) :
    CpSt w p C2 C3 Ob Rb v' b (k + 1) k (Z.setCell ⟨Ob, 2, none⟩ v') ∧ Blk Z Ob 24 #[.int .i64 p.cut, .int .i64 p.margin, a] := by
  have hS : ∀ g, some g = a.ownBlock → w.heap.size ≤ g ∧ ∃ cs, Blk Y g 47 cs := fun g hg => ownsRow_own h1 hg.symm
  have hKe : ∀ b t cs, Blk Y b t cs → t ≠ 47 → Blk Z b t cs := fun b t cs hB hne => hK.blk hB fun e => by
    obtain ⟨-, cs', hB'⟩ := hS b e
    exact Blk.ne hB hB' hne rfl
  have hZ : Below w.heap.size w Z := h.low.trans (hK.below (fun g hg => (hS g hg).1) h.low.size)
  have hK2 : KeptBut (fun g => g = Ob) Z (Z.setCell ⟨Ob, 2, none⟩ v') := KeptBut.setCell (S := fun g => g = Ob) rfl v'
  have o1 := hKe _ _ _ h.own (by decide)
  have c2 := hKe _ _ _ h.res2 (by decide)
  have c3 := hKe _ _ _ h.res3 (by decide)
  have r1 := hKe _ _ _ h.ref (by decide)
  have hne : ∀ g cs t, Blk Z g t cs → t ≠ 24 → ¬ g = Ob := fun g cs t hB ht e => by subst e; exact Blk.ne hB o1 ht rfl
  obtain ⟨a1, a2, a3, a4, a5, a6⟩ := h.at_
  refine ⟨⟨hZ.trans (hK2.below (fun g hg => by rw [hg]; exact a3) hZ.size), hK2.blk c2 a5, hK2.blk c3 (hne _ _ _ c3 (by decide)), o1.put 2 v', hK2.blk r1 (hne _ _ _ r1 (by decide)), h.at_, ?_, ?_⟩, o1⟩
  · have hT : p.webs.take (k + 1) = p.webs.take k ++ [x] := by rw [List.take_add_one, hx]; rfl
    rw [hT]
    exact (OWt.app hkl h1 h2 h3 hr (by decide) hK ho).keep hK2 fun g cs t hB ht => hne g cs t hB (by rcases ht with rfl | rfl <;> decide)
  · exact (h.webr.keep hK fun g cs t hB ht e => by
      obtain ⟨-, cs', hB'⟩ := hS g e
      exact Blk.ne hB hB' (by rcases ht with rfl | rfl <;> decide) rfl).keep hK2 fun g cs t hB ht => hne g cs t hB (by rcases ht with rfl | rfl <;> decide)
/-- A web was put behind those of the second press, and the new row written into it. -/
theorem CpSt.app2 {vs : List Value} {x : WebD} {vr v' : Value} {j : Nat} (h : CpSt w p C2 C3 Ob Rb a b j k Y) (hx : p.webs[k]? = some x) (hkl : (p.webs.take k).length = k) (h1 : Y.ownsRow w.heap.size 188 4 b k (((p.webs.take k).zip vs).flatMap fun x => webCells x.1 x.2)) (h2 : vs.length = (p.webs.take k).length) (h3 : ∀ (i : Nat) (u : Value) (x : WebD), vs[i]? = some u → (p.webs.take k)[i]? = some x → Y.ownsRow w.heap.size 128 4 u x.reels.length (x.reels.flatMap ReelD.cells))
    (hr : Y.ownsRow w.heap.size 128 4 vr x.reels.length (x.reels.flatMap ReelD.cells)) (hK : KeptBut (fun g => some g = b.ownBlock) Y Z)
    (ho : Z.ownsRow w.heap.size 188 4 v' (k + 1) ((((p.webs.take k).zip vs).flatMap fun x => webCells x.1 x.2) ++ webCells x vr)) :
    CpSt w p C2 C3 Ob Rb a v' j (k + 1) (Z.setCell ⟨Rb, 2, none⟩ v') ∧ Blk Z Rb 105 #[.int .i64 p.cut, .int .i64 p.margin, b] := by
  have hS : ∀ g, some g = b.ownBlock → w.heap.size ≤ g ∧ ∃ cs, Blk Y g 188 cs := fun g hg => ownsRow_own h1 hg.symm
  have hKe : ∀ b t cs, Blk Y b t cs → t ≠ 188 → Blk Z b t cs := fun b t cs hB hne => hK.blk hB fun e => by
    obtain ⟨-, cs', hB'⟩ := hS b e
    exact Blk.ne hB hB' hne rfl
  have hZ : Below w.heap.size w Z := h.low.trans (hK.below (fun g hg => (hS g hg).1) h.low.size)
  have hK2 : KeptBut (fun g => g = Rb) Z (Z.setCell ⟨Rb, 2, none⟩ v') := KeptBut.setCell (S := fun g => g = Rb) rfl v'
  have o1 := hKe _ _ _ h.own (by decide)
  have c2 := hKe _ _ _ h.res2 (by decide)
  have c3 := hKe _ _ _ h.res3 (by decide)
  have r1 := hKe _ _ _ h.ref (by decide)
  have hne : ∀ g cs t, Blk Z g t cs → t ≠ 105 → ¬ g = Rb := fun g cs t hB ht e => by subst e; exact Blk.ne hB r1 ht rfl
  obtain ⟨a1, a2, a3, a4, a5, a6⟩ := h.at_
  refine ⟨⟨hZ.trans (hK2.below (fun g hg => by rw [hg]; exact a4) hZ.size), hK2.blk c2 (hne _ _ _ c2 (by decide)), hK2.blk c3 a6, hK2.blk o1 (hne _ _ _ o1 (by decide)), r1.put 2 v', h.at_, ?_, ?_⟩, r1⟩
  · exact (h.webs.keep hK fun g cs t hB ht e => by
      obtain ⟨-, cs', hB'⟩ := hS g e
      exact Blk.ne hB hB' (by rcases ht with rfl | rfl <;> decide) rfl).keep hK2 fun g cs t hB ht => hne g cs t hB (by rcases ht with rfl | rfl <;> decide)
  · have hT : p.webs.take (k + 1) = p.webs.take k ++ [x] := by rw [List.take_add_one, hx]; rfl
    rw [hT]
    exact (OWt.app hkl h1 h2 h3 hr (by decide) hK ho).keep hK2 fun g cs t hB ht => hne g cs t hB (by rcases ht with rfl | rfl <;> decide)
/-- What copied answers, once both presses are put into the results. -/
theorem CpSt.done (h : CpSt w p C2 C3 Ob Rb a b j k Y) (hj : p.webs.length ≤ j) (hk : p.webs.length ≤ k) {S : Nat → Prop} (hK : KeptBut S Y Z) (hS : ∀ g, S g → g = C2 ∨ g = C3) : RWebs Z.heap.size Z a p.webs ∧ RWebs Z.heap.size Z b p.webs ∧ Below w.heap.size w Z := by
  have hne : ∀ g cs t, Blk Y g t cs → (t ≠ 24 ∧ t ≠ 105) → ¬ S g := fun g cs t hB ht e => by
    rcases hS g e with rfl | rfl
    · exact Blk.ne hB h.res2 ht.1 rfl
    · exact Blk.ne hB h.res3 ht.2 rfl
  have h1 := h.webs.keep hK fun g cs t hB ht => hne g cs t hB (by rcases ht with rfl | rfl <;> decide)
  have h2 := h.webr.keep hK fun g cs t hB ht => hne g cs t hB (by rcases ht with rfl | rfl <;> decide)
  rw [List.take_of_length_le hj] at h1
  rw [List.take_of_length_le hk] at h2
  exact ⟨h1.reads, h2.reads, h.low.trans (hK.below (fun g hg => by obtain ⟨a1, a2, -⟩ := h.at_; rcases hS g hg with rfl | rfl <;> assumption) h.low.size)⟩
end
end Go.Proofs.Ytpkepacbondopaa

namespace Go.Proofs.Ytpkepacbondopaa
open Go.RowKit Go.Shelf
attribute [local go_sem] Oper.semAt_some

theorem below_al {A W : World} (h : Below A.heap.size A W) (o : Obj) : Below A.heap.size A (W.alloc o) := h.alloc h.size o
noncomputable def cpRegion (k : Nat) : Code := (Try.f43.body.bind (regionAt k)).getD .skip
set_option maxRecDepth 1000000 in
set_option maxHeartbeats 4000000 in
theorem cop_r5 (u0 u1 u2 u3 u5 u6 u8 u9 u10 u11 u12 u13 u14 u15 u16 u17 u18 u19 u20 u21 u22 u23 u24 u25 u26 u27 u28 u29 u30 u31 u32 u33 u34 u35 u36 u37 u38 u39 u40 u41 u42 u43 u44 u45 u46 u47 u48 u49 u50 u51 u52 u53 u54 u55 u56 u57 u58 u59 u60 u61 u62 u63 u64 u65 u66 u67 u68 u69 u70 u71 u72 : Value) {C2 C3 Ob Rb Wb k n2 cr cv : Nat} {Av Ar : Option Addr} {b : Value} {p : PressD} {x : WebD} {w X : World} {Q : Exit → Act → World → Prop}
    (hk : k ≤ 1000) (hkl : (p.webs.take k).length = k) (hx : p.webs[k]? = some x) (hxl : x.reels.length = n2) (hn2 : n2 ≤ 1000000)
    (hst : Hid (CpSt w p C2 C3 Ob Rb (.slice Av k cv) b k k X)) (hW : Hid (Blk X Wb 47 #[(.slice Ar n2 cr), (.int .i64 x.off), (.int .i64 x.before), (.int .i64 x.after)])) (hWo : ∀ g, (Value.slice Av k cv).ownBlock = some g → g ≠ Wb)
    (hR : Hid (RReels w.heap.size w (.slice Ar n2 cr) x.reels))
    (hQ : Hid (∀ (x28 x29 x30 x31 x32 x33 x34 x35 x36 x37 x38 x39 x40 x41 x42 : Value) (g c : Nat) (Y : World), Hid (CpSt w p C2 C3 Ob Rb (.slice (some ⟨g, 0, none⟩) (k + 1) c) b (k + 1) k Y ∧ Blk Y Wb 47 #[(.slice Ar n2 cr), (.int .i64 x.off), (.int .i64 x.before), (.int .i64 x.after)] ∧ X.heap.size ≤ Y.heap.size) → Q .normal ⟨List.toArray (u0 :: u1 :: u2 :: u3 :: (.pointer (some ⟨Ob, 0, none⟩)) :: u5 :: u6 :: (.pointer (some ⟨Wb, 0, none⟩)) :: u8 :: u9 :: u10 :: u11 :: u12 :: u13 :: u14 :: u15 :: u16 :: u17 :: u18 :: u19 :: u20 :: u21 :: u22 :: u23 :: u24 :: u25 :: u26 :: u27 :: x28 :: x29 :: x30 :: x31 :: x32 :: x33 :: x34 :: x35 :: x36 :: x37 :: x38 :: x39 :: x40 :: x41 :: x42 :: u43 :: u44 :: u45 :: u46 :: u47 :: u48 :: u49 :: u50 :: u51 :: u52 :: u53 :: u54 :: u55 :: u56 :: u57 :: u58 :: u59 :: u60 :: u61 :: u62 :: u63 :: u64 :: u65 :: u66 :: u67 :: u68 :: u69 :: u70 :: u71 :: u72 :: []), []⟩ Y)) :
    Code.wp Try.prog (cpRegion 5) Q ⟨List.toArray (u0 :: u1 :: u2 :: u3 :: (.pointer (some ⟨Ob, 0, none⟩)) :: u5 :: u6 :: (.pointer (some ⟨Wb, 0, none⟩)) :: u8 :: u9 :: u10 :: u11 :: u12 :: u13 :: u14 :: u15 :: u16 :: u17 :: u18 :: u19 :: u20 :: u21 :: u22 :: u23 :: u24 :: u25 :: u26 :: u27 :: u28 :: u29 :: u30 :: u31 :: u32 :: u33 :: u34 :: u35 :: u36 :: u37 :: u38 :: u39 :: u40 :: u41 :: u42 :: u43 :: u44 :: u45 :: u46 :: u47 :: u48 :: u49 :: u50 :: u51 :: u52 :: u53 :: u54 :: u55 :: u56 :: u57 :: u58 :: u59 :: u60 :: u61 :: u62 :: u63 :: u64 :: u65 :: u66 :: u67 :: u68 :: u69 :: u70 :: u71 :: u72 :: []), []⟩ X := by
  obtain ⟨i0, hi0, hz0, hz1, hz2⟩ := info_parts infoWeb
  have HM : Hid (∀ Z, Below X.heap.size X Z → CpSt w p C2 C3 Ob Rb (.slice Av k cv) b k k Z) := fun Z hZ => hst.out.below hZ
  obtain ⟨vs, v1, v2, v3⟩ := hst.out.webs
  rw [hkl] at v1
  have HV : Hid (∀ Z, Below X.heap.size X Z → Z.ownsRow w.heap.size 47 4 (.slice Av k cv) k (((p.webs.take k).zip vs).flatMap fun x => webCells x.1 x.2) ∧ ∀ (i : Nat) (u : Value) (x : WebD), vs[i]? = some u → (p.webs.take k)[i]? = some x → Z.ownsRow w.heap.size 58 4 u x.reels.length (x.reels.flatMap ReelD.cells)) := fun Z hZ => ⟨ownsRow_below v1 hZ, fun i u x hu hx => ownsRow_below (v3 i u x hu hx) hZ⟩
  have HS : Hid (∀ Z, Below X.heap.size X Z → (Z.cell? ⟨Ob, 2, none⟩ = some (.slice Av k cv) ∧ Z.cell? ⟨Wb, 0, none⟩ = some (.slice Ar n2 cr) ∧ Z.cell? ⟨Wb, 1, none⟩ = some (.int .i64 x.off) ∧ Z.cell? ⟨Wb, 2, none⟩ = some (.int .i64 x.before) ∧ Z.cell? ⟨Wb, 3, none⟩ = some (.int .i64 x.after))) := fun Z hZ => by
    have h1 := (HM.out Z hZ).own
    have h2 := hW.out.below hZ hW.out.lt
    exact ⟨cellOf h1 2 rfl, cellOf h2 0 rfl, cellOf h2 1 rfl, cellOf h2 2 rfl, cellOf h2 3 rfl⟩
  have CL : Hid (∀ W0, Below X.heap.size X W0 → Calls Try.prog 57 #[.slice Ar n2 cr] W0 fun e w' => ∃ A c, e = .returned (.slice A n2 c) ∧ Hid (Below X.heap.size X w') ∧ Hid (w'.ownsRow w.heap.size 58 4 (.slice A n2 c) n2 (x.reels.flatMap ReelD.cells))) := fun W0 hZ => by
    have h1 := hst.out.low.trans (hZ.mono hst.out.low.size)
    refine (cloneReels_any _ x.reels W0 (Rd.more (Rd.below hR.out h1) h1.size) (by omega)).mono ?_
    rintro e w' ⟨u, rfl, ho, hb⟩
    unfold OReelsP at ho
    obtain ⟨A, c, rfl⟩ := ownsRow_form ho
    rw [hxl] at ho ⊢
    exact ⟨A, c, rfl, hZ.trans (hb.mono hZ.size), ownsRow_base ho h1.size⟩
  have HAPP : Hid (∀ (Y : World) (Ac : Option Addr) (cc : Nat), Below X.heap.size X Y → Y.ownsRow w.heap.size 58 4 (.slice Ac n2 cc) n2 (x.reels.flatMap ReelD.cells) → ∀ (tmp : Obj) (v' : Value) (W9 : World), (Y.alloc tmp).grownBy W9 (Value.slice Av k cv).ownBlock → W9.ownsRow w.heap.size 47 4 v' (k + 1) ((((p.webs.take k).zip vs).flatMap fun x => webCells x.1 x.2) ++ [.slice Ac n2 cc, .int .i64 x.off, .int .i64 x.before, .int .i64 x.after]) →
      Hid (CpSt w p C2 C3 Ob Rb v' b (k + 1) k (W9.setCell ⟨Ob, 2, none⟩ v') ∧ Blk (W9.setCell ⟨Ob, 2, none⟩ v') Wb 47 #[(.slice Ar n2 cr), (.int .i64 x.off), (.int .i64 x.before), (.int .i64 x.after)] ∧ X.heap.size ≤ (W9.setCell ⟨Ob, 2, none⟩ v').heap.size) ∧ Blk W9 Ob 24 #[.int .i64 p.cut, .int .i64 p.margin, (.slice Av k cv)] ∧ (W9.cell? ⟨Ob, 2, none⟩ = some (.slice Av k cv) ∧ W9.cell? ⟨Wb, 0, none⟩ = some (.slice Ar n2 cr) ∧ W9.cell? ⟨Wb, 1, none⟩ = some (.int .i64 x.off) ∧ W9.cell? ⟨Wb, 2, none⟩ = some (.int .i64 x.before) ∧ W9.cell? ⟨Wb, 3, none⟩ = some (.int .i64 x.after)) ∧ True) := fun Y Ac cc hY hro tmp v' W9 hg ho => by
    have hZ : Below X.heap.size X (Y.alloc tmp) := below_al hY tmp
    have hK : KeptBut (fun g => some g = (Value.slice Av k cv).ownBlock) (Y.alloc tmp) W9 := KeptBut.grown (S := fun g => some g = (Value.slice Av k cv).ownBlock) hg fun g hg => hg
    have hr' : (Y.alloc tmp).ownsRow w.heap.size 58 4 (.slice Ac n2 cc) x.reels.length (x.reels.flatMap ReelD.cells) := by rw [hxl]; exact ownsRow_below hro (below_alloc _ _)
    obtain ⟨h1, h2⟩ := (HM.out _ hZ).app1 hx hkl (HV.out _ hZ).1 v2 (HV.out _ hZ).2 hr' hK ho
    have hw1 := hK.blk (hW.out.below hZ hW.out.lt) fun e => hWo _ e.symm rfl
    have hw2 : Blk (W9.setCell ⟨Ob, 2, none⟩ v') Wb 47 _ := (KeptBut.setCell (S := fun g => g = Ob) (w := W9) (p := ⟨Ob, 2, none⟩) rfl v').blk hw1 fun e => by subst e; exact Blk.ne hw1 h2 (by decide) rfl
    exact ⟨⟨h1, hw2, by have h3 := hK.size; have h4 := hZ.size; simp [World.setCell]; omega⟩, h2, ⟨cellOf h2 2 rfl, cellOf hw1 0 rfl, cellOf hw1 1 rfl, cellOf hw1 2 rfl, cellOf hw1 3 rfl⟩, trivial⟩
  have HD0 : Hid (Below X.heap.size X X.drew) := (Below.refl _ _).drew
  have HQ := hQ
  clear hkl hx hxl hst hW hWo hR hQ v1 v2 v3
  conv => arg 2; whnf
  refine wp_region_noPanic ?_
  refine wp_region_T 14 (fun X => (X.cell? ⟨Ob, 2, none⟩ = some (.slice Av k cv) ∧ X.cell? ⟨Wb, 0, none⟩ = some (.slice Ar n2 cr) ∧ X.cell? ⟨Wb, 1, none⟩ = some (.int .i64 x.off) ∧ X.cell? ⟨Wb, 2, none⟩ = some (.int .i64 x.before) ∧ X.cell? ⟨Wb, 3, none⟩ = some (.int .i64 x.after))) (by kernel_rfl) (by exact HS.out _ (by repeat (first | exact Below.refl _ _ | refine below_al ?_ _ | refine Below.drew ?_))) (fun hHeld => ?_)
  refine wpAnyT_take (i := 0) (v := ?v0n1) (by kernel_rfl) (by kernel_rfl) rfl (by kernel_rfl) (by kernel_rfl) (by kernel_rfl) (by decide) (fun _ _ _ h => h) (Or.inl ⟨by rfl, ?y0n1⟩) hHeld ?r0n1
  case y0n1 =>
    intro W hSw
    try dsimp only at hSw
    go_simp
    try with_reducible rfl
  simp only [Act.put, List.setIfInBounds_toArray, List.set_cons_zero, List.set_cons_succ]
  refine wpAnyT_take (i := 1) (v := ?v1n2) (by kernel_rfl) (by kernel_rfl) rfl (by kernel_rfl) (by kernel_rfl) (by kernel_rfl) (by decide) (fun _ _ _ h => h) (Or.inl ⟨by rfl, ?y1n2⟩) hHeld ?r1n2
  case y1n2 =>
    intro W hSw
    try dsimp only at hSw
    go_simp
    try with_reducible rfl
  simp only [Act.put, List.setIfInBounds_toArray, List.set_cons_zero, List.set_cons_succ]
  refine wpAnyT_take (i := 2) (v := ?v2n3) (by kernel_rfl) (by kernel_rfl) rfl (by kernel_rfl) (by kernel_rfl) (by kernel_rfl) (by decide) (fun _ _ _ h => h) (Or.inl ⟨by rfl, ?y2n3⟩) hHeld ?r2n3
  case y2n3 =>
    intro W hSw
    try dsimp only at hSw
    go_simp
    try with_reducible rfl
  simp only [Act.put, List.setIfInBounds_toArray, List.set_cons_zero, List.set_cons_succ]
  refine wpAnyT_take (i := 3) (v := ?v3n4) (by kernel_rfl) (by kernel_rfl) rfl (by kernel_rfl) (by kernel_rfl) (by kernel_rfl) (by decide) (fun _ _ _ h => h) (Or.inl ⟨by rfl, ?y3n4⟩) hHeld ?r3n4
  case y3n4 =>
    intro W hSw
    try dsimp only at hSw
    go_simp
    try with_reducible rfl
  simp only [Act.put, List.setIfInBounds_toArray, List.set_cons_zero, List.set_cons_succ]
  refine wpAnyT_take (i := 5) (v := ?v5n5) (by kernel_rfl) (by kernel_rfl) rfl (by kernel_rfl) (by kernel_rfl) (by kernel_rfl) (by decide) (fun _ _ _ h => h) (Or.inl ⟨by rfl, ?y5n5⟩) hHeld ?r5n5
  case y5n5 =>
    intro W hSw
    try dsimp only at hSw
    go_simp
    try with_reducible rfl
  simp only [Act.put, List.setIfInBounds_toArray, List.set_cons_zero, List.set_cons_succ]
  refine wpAnyT_take (i := 6) (v := ?v6n6) (by kernel_rfl) (by kernel_rfl) rfl (by kernel_rfl) (by kernel_rfl) (by kernel_rfl) (by decide) (fun _ _ _ h => h) (Or.inl ⟨by rfl, ?y6n6⟩) hHeld ?r6n6
  case y6n6 =>
    intro W hSw
    try dsimp only at hSw
    go_simp
    try with_reducible rfl
  simp only [Act.put, List.setIfInBounds_toArray, List.set_cons_zero, List.set_cons_succ]
  refine wpAnyT_take (i := 7) (v := ?v7n7) (by kernel_rfl) (by kernel_rfl) rfl (by kernel_rfl) (by kernel_rfl) (by kernel_rfl) (by decide) (fun _ _ _ h => h) (Or.inl ⟨by rfl, ?y7n7⟩) hHeld ?r7n7
  case y7n7 =>
    intro W hSw
    try dsimp only at hSw
    go_simp
    try with_reducible rfl
  simp only [Act.put, List.setIfInBounds_toArray, List.set_cons_zero, List.set_cons_succ]
  refine wpAnyT_take (i := 8) (v := ?v8n8) (by kernel_rfl) (by kernel_rfl) rfl (by kernel_rfl) (by kernel_rfl) (by kernel_rfl) (by decide) (fun _ _ _ h => h) (Or.inl ⟨by rfl, ?y8n8⟩) hHeld ?r8n8
  case y8n8 =>
    intro W hSw
    try dsimp only at hSw
    go_simp
    try with_reducible rfl
  simp only [Act.put, List.setIfInBounds_toArray, List.set_cons_zero, List.set_cons_succ]
  refine wpAnyT_take (i := 9) (v := ?v9n9) (by kernel_rfl) (by kernel_rfl) rfl (by kernel_rfl) (by kernel_rfl) (by kernel_rfl) (by decide) (fun _ _ _ h => h) (Or.inl ⟨by rfl, ?y9n9⟩) hHeld ?r9n9
  case y9n9 =>
    intro W hSw
    try dsimp only at hSw
    go_simp
    try with_reducible rfl
  simp only [Act.put, List.setIfInBounds_toArray, List.set_cons_zero, List.set_cons_succ]
  refine wpAnyT_take (i := 10) (v := ?v10n10) (by kernel_rfl) (by kernel_rfl) rfl (by kernel_rfl) (by kernel_rfl) (by kernel_rfl) (by decide) (fun _ _ _ h => h) (Or.inl ⟨by rfl, ?y10n10⟩) hHeld ?r10n10
  case y10n10 =>
    intro W hSw
    try dsimp only at hSw
    go_simp
    try with_reducible rfl
  simp only [Act.put, List.setIfInBounds_toArray, List.set_cons_zero, List.set_cons_succ]
  refine wpAnyT_one (i := 4) (by kernel_rfl) rfl ?_
  intro K hK o ho
  cases ho
  go_simp
  go_at_call 57
  with_reducible refine (CL.out _ HD0.out).mono ?_
  rintro _ Y ⟨Ac, cc, rfl, HY, HRW⟩
  go_wp2_with fail
  refine hK.out _ _ (fun _ => ?_) (fun hHeld => ?_) (fun h => absurd h (by decide))
  · (first | exact HS1.out | exact HS.out _ (by repeat (first | exact Below.refl _ _ | exact HY.out | refine below_al ?_ _ | refine Below.drew ?_)))
  clear hK K
  try simp only [Act.put, List.setIfInBounds_toArray, List.set_cons_zero, List.set_cons_succ]
  refine wpAnyT_take (i := 11) (v := ?v11n11) (by kernel_rfl) (by kernel_rfl) rfl (by kernel_rfl) (by kernel_rfl) (by kernel_rfl) (by decide) (fun _ _ _ h => h) (Or.inl ⟨by rfl, ?y11n11⟩) hHeld ?r11n11
  case y11n11 =>
    intro W hSw
    try dsimp only at hSw
    go_simp
    try with_reducible rfl
  simp only [Act.put, List.setIfInBounds_toArray, List.set_cons_zero, List.set_cons_succ]
  refine wpAnyT_one (i := 12) (by kernel_rfl) rfl ?_
  intro K hK o ho
  cases ho
  go_simp
  refine hK.out _ _ (fun _ => ?_) (fun hHeld => ?_) (fun h => absurd h (by decide))
  · (first | exact HS1.out | exact HS.out _ (by repeat (first | exact Below.refl _ _ | exact HY.out | refine below_al ?_ _ | refine Below.drew ?_)))
  clear hK K
  try simp only [Act.put, List.setIfInBounds_toArray, List.set_cons_zero, List.set_cons_succ]
  refine wpAnyT_one (i := 13) (by kernel_rfl) rfl ?_
  intro K hK o ho
  cases ho
  refine step_append_lies _ (by rfl) _ _ 22 (by rfl) w.heap.size 47 i0 (.agg #[.slice none 0 0, .int .i64 0, .int .i64 0, .int .i64 0]) 4 48 sliceWeb hi0 hz0 hz1 hz2 (by rfl) (by decide) (.slice Av k cv) k (((p.webs.take k).zip vs).flatMap fun x => webCells x.1 x.2) (by rfl) (HV.out _ (by repeat (first | exact Below.refl _ _ | exact HY.out | refine below_al ?_ _ | refine Below.drew ?_))).1 _ 1 1 [.slice Ac n2 cc, .int .i64 x.off, .int .i64 x.before, .int .i64 x.after] (by rfl) (by rfl) (World.news_of_block (cs := #[.slice Ac n2 cc, .int .i64 x.off, .int .i64 x.before, .int .i64 x.after]) (t := 47) (fr := (0, 0)) (Blk.new _ _ _)) (by simp [Value.oneCell']) (by omega) (by simp only [maxLen]; omega) (by omega) ((HM.out _ (by repeat (first | exact Below.refl _ _ | exact HY.out | refine below_al ?_ _ | refine Below.drew ?_))).low.size) _ rfl ?_
  intro g9 c9 W9 hown9 hgrow9 hat9 hlt9
  have HF := Lib.hid (HAPP.out Y Ac cc HY.out HRW.out _ _ _ hgrow9 hown9)
  have HS1 : Hid ((W9.cell? ⟨Ob, 2, none⟩ = some (.slice Av k cv) ∧ W9.cell? ⟨Wb, 0, none⟩ = some (.slice Ar n2 cr) ∧ W9.cell? ⟨Wb, 1, none⟩ = some (.int .i64 x.off) ∧ W9.cell? ⟨Wb, 2, none⟩ = some (.int .i64 x.before) ∧ W9.cell? ⟨Wb, 3, none⟩ = some (.int .i64 x.after))) := HF.out.2.2.1
  clear hown9 hgrow9 hat9 hlt9
  refine hK.out _ _ (fun _ => ?_) (fun hHeld => ?_) (fun h => absurd h (by decide))
  · (first | exact HS1.out | exact HS.out _ (by repeat (first | exact Below.refl _ _ | exact HY.out | refine below_al ?_ _ | refine Below.drew ?_)))
  clear hK K
  try simp only [Act.put, List.setIfInBounds_toArray, List.set_cons_zero, List.set_cons_succ]
  have f0 := cellOf HF.out.2.1 2 (x := (.slice Av k cv)) rfl
  have f1 := HF.out.2.1.frozen 2
  have HFP := HF.out.1
  clear HF
  refine wpAnyT_seq (k := 14) (by kernel_rfl) rfl (by kernel_rfl) ?_
  go_wp2_with fail
  refine NoPanic.normal ?_
  exact HQ.out _ _ _ _ _ _ _ _ _ _ _ _ _ _ _ _ _ _ HFP
end Go.Proofs.Ytpkepacbondopaa

namespace Go.Proofs.Ytpkepacbondopaa
open Go.RowKit Go.Shelf
attribute [local go_sem] Oper.semAt_some

theorem reels_at6 {w : World} {A : Option Addr} {m c : Nat} {l : List ReelD} (h : RReels w.heap.size w (.slice A m c) l) : Hid (∀ k x, l[k]? = some x → ∃ g o, A = some ⟨g, o, none⟩ ∧ Hid (∀ X, Below w.heap.size w X → X.cell? ⟨g, o + k * 4, none⟩ = some (.int .i64 x.id) ∧ X.cell? ⟨g, o + k * 4 + 1, none⟩ = some (.int .i64 x.width) ∧ X.cell? ⟨g, o + k * 4 + 2, none⟩ = some (.int .i64 x.length) ∧ X.cell? ⟨g, o + k * 4 + 3, none⟩ = some (.int .i64 x.core))) := fun k x hx => by
  obtain ⟨A', c', e, -, hr⟩ := h.open_
  injection e with e1 e2 e3
  subst e1
  obtain ⟨g, o, rfl, hg, c0, c1, c2', c3⟩ := hr k x hx
  exact ⟨g, o, rfl, fun X hX => ⟨(hX.cell (p := ⟨g, o + k * 4, none⟩) hg).trans c0, (hX.cell (p := ⟨g, o + k * 4 + 1, none⟩) hg).trans c1, (hX.cell (p := ⟨g, o + k * 4 + 2, none⟩) hg).trans c2', (hX.cell (p := ⟨g, o + k * 4 + 3, none⟩) hg).trans c3⟩⟩
/-- What lies there when the function has begun: the press that came in, the two results. -/
structure Cp0 (w : World) (p : PressD) (u : Value) (X : World) : Prop where
  low : Below w.heap.size w X
  arg : Blk X w.heap.size 24 #[.int .i64 p.cut, .int .i64 p.margin, u]
  res2 : Blk X (w.heap.size + 1) 24 #[.int .i64 0, .int .i64 0, .slice none 0 0]
  res3 : Blk X (w.heap.size + 1 + 1) 105 #[.int .i64 0, .int .i64 0, .slice none 0 0]
/-- The two presses once they are made. -/
def CpAt (w : World) (p : PressD) (u q4 q5 : Value) (X : World) : Prop := ∃ Ob Rb, q4 = .pointer (some ⟨Ob, 0, none⟩) ∧ q5 = .pointer (some ⟨Rb, 0, none⟩) ∧ Hid (Cp0 w p u X) ∧ Hid (CpSt w p (w.heap.size + 1) (w.heap.size + 1 + 1) Ob Rb (.slice none 0 0) (.slice none 0 0) 0 0 X)
section
variable {w W0 : World} {p : PressD} {u : Value}
theorem Cp0.below (h : Cp0 w p u W0) {X : World} (hb : Below W0.heap.size W0 X) : Cp0 w p u X := ⟨h.low.trans (hb.mono h.low.size), h.arg.below hb h.arg.lt, h.res2.below hb h.res2.lt, h.res3.below hb h.res3.lt⟩
theorem cp_at (h : Cp0 w p u W0) {X : World} (hb : Below W0.heap.size W0 X) {Ob Rb : Nat} (h1 : Blk X Ob 24 #[.int .i64 p.cut, .int .i64 p.margin, .slice none 0 0]) (h2 : Blk X Rb 105 #[.int .i64 p.cut, .int .i64 p.margin, .slice none 0 0]) (hO : W0.heap.size ≤ Ob) (hR : W0.heap.size ≤ Rb) : CpAt w p u (.pointer (some ⟨Ob, 0, none⟩)) (.pointer (some ⟨Rb, 0, none⟩)) X := by
  have h3 := h.below hb
  have l2 := h.res2.lt
  have l3 := h.res3.lt
  exact ⟨Ob, Rb, rfl, rfl, h3, h3.low, h3.res2, h3.res3, h1, h2, ⟨by omega, by omega, by omega, by omega, by omega, by omega⟩, OWt.nil, OWt.nil⟩
theorem cp_new1 (h : Cp0 w p u W0) {s s1 : Nat} (hs : W0.heap.size = s) (hs1 : s + 1 = s1) : CpAt w p u (.pointer (some ⟨s, 0, none⟩)) (.pointer (some ⟨s1, 0, none⟩)) ((W0.drew.alloc (.cells #[.int .i64 p.cut, .int .i64 p.margin, .slice none 0 0] 24)).alloc (.cells #[.int .i64 p.cut, .int .i64 p.margin, .slice none 0 0] 105)) := by
  subst hs; subst hs1
  exact cp_at h (below_al (below_al ((Below.refl _ _).drew) _) _) ((blk_new (by simp) _ _).alloc _) (blk_new (by simp) _ _) (Nat.le_refl _) (by omega)
theorem cp_new2 (h : Cp0 w p u W0) {s s1 : Nat} (hs : W0.heap.size = s) (hs1 : s + 1 = s1) : CpAt w p u (.pointer (some ⟨s1, 0, none⟩)) (.pointer (some ⟨s, 0, none⟩)) ((W0.drew.alloc (.cells #[.int .i64 p.cut, .int .i64 p.margin, .slice none 0 0] 105)).alloc (.cells #[.int .i64 p.cut, .int .i64 p.margin, .slice none 0 0] 24)) := by
  subst hs; subst hs1
  exact cp_at h (below_al (below_al ((Below.refl _ _).drew) _) _) (blk_new (by simp) _ _) ((blk_new (by simp) _ _).alloc _) (by omega) (Nat.le_refl _)
end
/-- What lies there between two rounds. -/
def CpRel (w : World) (p : PressD) (Ob Rb k : Nat) (X : World) : Prop := ∃ a b, CpSt w p (w.heap.size + 1) (w.heap.size + 1 + 1) Ob Rb a b k k X
/-- A web of the second press in the making. -/
structure InSt (Y : World) (x : WebD) (v : Value) (j : Nat) (Z : World) : Prop where
  low : Below Y.heap.size Y Z
  web : Blk Z Y.heap.size 188 #[v, .int .i64 x.off, .int .i64 x.before, .int .i64 x.after]
  row : Z.ownsRow Y.heap.size 128 4 v j ((x.reels.take j).flatMap ReelD.cells)
theorem InSt.below {Y Z Z' : World} {x : WebD} {v : Value} {j : Nat} (h : InSt Y x v j Z) (hb : Below Z.heap.size Z Z') : InSt Y x v j Z' := ⟨h.low.trans (hb.mono h.low.size), h.web.below hb h.web.lt, ownsRow_below h.row hb⟩
theorem InSt.app {Y Z Z' : World} {x : WebD} {y : ReelD} {v v' : Value} {j : Nat} {tmp : Obj} (h : InSt Y x v j Z) (hy : x.reels[j]? = some y) (hg : (Z.alloc tmp).grownBy Z' v.ownBlock) (ho : Z'.ownsRow Y.heap.size 128 4 v' (j + 1) ((x.reels.take j).flatMap ReelD.cells ++ y.cells)) :
    InSt Y x v' (j + 1) (Z'.setCell ⟨Y.heap.size, 0, none⟩ v') ∧ Blk Z' Y.heap.size 188 #[v, .int .i64 x.off, .int .i64 x.before, .int .i64 x.after] := by
  have h' := h.below (below_alloc Z tmp)
  have hS : ∀ g, some g = v.ownBlock → Y.heap.size ≤ g ∧ ∃ cs, Blk (Z.alloc tmp) g 128 cs := fun g hg => ownsRow_own h'.row hg.symm
  have hK : KeptBut (fun g => some g = v.ownBlock) (Z.alloc tmp) Z' := KeptBut.grown (S := fun g => some g = v.ownBlock) hg fun g hg => hg
  have hw : Blk Z' Y.heap.size 188 _ := hK.blk h'.web fun e => by
    obtain ⟨-, cs, hB⟩ := hS _ e
    exact Blk.ne h'.web hB (by decide) rfl
  have hZ : Below Y.heap.size Y Z' := h'.low.trans (hK.below (fun g hg => (hS g hg).1) h'.low.size)
  have hK2 : KeptBut (fun g => g = Y.heap.size) Z' (Z'.setCell ⟨Y.heap.size, 0, none⟩ v') := KeptBut.setCell (S := fun g => g = Y.heap.size) rfl v'
  refine ⟨⟨hZ.trans (hK2.below (fun g hg => by omega) hZ.size), hw.put 0 v', ?_⟩, hw⟩
  have hT : x.reels.take (j + 1) = x.reels.take j ++ [y] := by rw [List.take_add_one, hy]; rfl
  rw [hT, List.flatMap_append]
  exact ownsRow_keptBut (by simpa using ho) hK2 fun g cs _ hB e => by subst e; exact Blk.ne hB hw (by decide) rfl
theorem kb_set {S : Nat → Prop} {X Y : World} (h : KeptBut S X Y) {q : Addr} (hp : S q.block) (u : Value) : KeptBut S X (Y.setCell q u) := h.trans (KeptBut.setCell hp u) fun _ _ h => h
theorem kb_drew {S : Nat → Prop} {X Y : World} (h : KeptBut S X Y) : KeptBut S X Y.drew := ⟨h.os, h.tape, h.output, h.size, h.block⟩
set_option maxRecDepth 1000000 in
set_option maxHeartbeats 4000000 in
theorem copied_any (p : PressD) (h8 : p.webs.length ≤ 8) (hfr : FewR p.webs) (v : Value) (w : World) (h : RPress w.heap.size w v p) :
    Calls Try.prog 43 #[v] w (CopRet p p.webs.length w) := by
  obtain ⟨u, rfl, hw⟩ := h
  obtain ⟨A, c, rfl, hlm, -⟩ := hw.open_
  have HR := webs_later hw
  obtain ⟨n, hn⟩ : ∃ n, p.webs.length = n := ⟨_, rfl⟩
  have HN := Lib.hid hn
  have HFR := Lib.hid hfr
  rw [hn] at hlm h8 ⊢
  have F0 : ∃ W0, ((w.alloc (.cells #[.int .i64 p.cut, .int .i64 p.margin, .slice A n c] 24)).alloc (.cells #[.int .i64 0, .int .i64 0, .slice none 0 0] 24)).alloc (.cells #[.int .i64 0, .int .i64 0, .slice none 0 0] 105) = W0 ∧ Hid (Cp0 w p (.slice A n c) W0) := by
    refine ⟨_, rfl, sbelow_al (sbelow_al (below_alloc _ _) _) _, ((Blk.new _ _ _).alloc _).alloc _, (blk_new (by simp) _ _).alloc _, blk_new (by simp) _ _⟩
  obtain ⟨W0, e0, HB0⟩ := F0
  have E0 := Lib.hid e0
  clear e0 hw hn hfr
  go_enter Try.func43, Try.ntmps43
  go_upto_region 1 with fail
  rw [E0.out]
  clear E0
  obtain ⟨s0, hs0⟩ : ∃ s, W0.heap.size = s := ⟨_, rfl⟩
  have HS0 := Lib.hid hs0
  clear hs0
  go_cut [4, 5] from 11 to 20 (fun q4 q5 wx => CpAt w p (.slice A n c) q4 q5 wx)
  case first =>
    have S1 : W0.cell? ⟨w.heap.size, 0, none⟩ = some (.int .i64 p.cut) ∧ W0.cell? ⟨w.heap.size, 1, none⟩ = some (.int .i64 p.margin) := ⟨cellOf HB0.out.arg 0 rfl, cellOf HB0.out.arg 1 rfl⟩
    have b0 : w.heap.size < W0.heap.size := HB0.out.arg.lt
    go_region_held3 (fun X => X.cell? ⟨w.heap.size, 0, none⟩ = some (.int .i64 p.cut) ∧ X.cell? ⟨w.heap.size, 1, none⟩ = some (.int .i64 p.margin)) (first | with_reducible exact S1 | go_keep) (fail)
    all_goals
      clear S1 b0
      go_wp2_with fail
      go_meet
      first
        | exact cp_new1 HB0.out rfl rfl
        | exact cp_new2 HB0.out rfl rfl
  case rest =>
  obtain ⟨Ob, Rb, rfl, rfl, H0, H1⟩ := hcut
  obtain ⟨W1, rfl⟩ : ∃ X : World, X = wc := ⟨_, rfl⟩
  have z2 := cellOf H0.out.arg 2 (x := .slice A n c) rfl
  go_wp2_with fail
  go_loopw [24] (fun i wr => ∃ k : Nat, k ≤ n ∧ i = .int .i64 k ∧ Hid (CpRel w p Ob Rb k wr)) (fun i _ => n - (intOf i).toNat)
  case atStart => exact ⟨0, Nat.zero_le _, rfl, ⟨_, _, H1.out⟩⟩
  case round =>
  clear z2 H0 H1
  obtain ⟨k, hk, rfl, hB⟩ := hrel
  obtain ⟨X, rfl⟩ : ∃ X : World, X = wr := ⟨_, rfl⟩
  obtain ⟨a, b, hst⟩ := hB.out
  have hkl : (p.webs.take k).length = k := by rw [List.length_take, HN.out]; omega
  obtain ⟨Av, cv, rfl⟩ := hst.webs.form
  obtain ⟨Bv, dv, rfl⟩ := hst.webr.form
  rw [hkl] at hst
  have HST := Lib.hid hst
  have HKL := Lib.hid hkl
  clear hst hkl hB
  by_cases hlt : k < n
  · obtain ⟨x, hx⟩ : ∃ x, p.webs[k]? = some x := ⟨_, List.getElem?_eq_getElem (by rw [HN.out]; exact hlt)⟩
    obtain ⟨g, o, A2, c2, rfl, HX⟩ := HR.out k x hx
    have hm30 : x.reels.length ≤ 30 := HFR.out x (List.mem_of_getElem? hx)
    have HRX : Hid (RReels w.heap.size w (.slice A2 x.reels.length c2) x.reels) := (HX.out w (Below.refl _ _)).2.2.2.2
    obtain ⟨c0, c1, c2', c3, -⟩ := HX.out X HST.out.low
    obtain ⟨m, hm⟩ : ∃ m, x.reels.length = m := ⟨_, rfl⟩
    rw [hm] at c0 hm30 HRX
    have HM := Lib.hid hm
    have HXK := Lib.hid hx
    have F1 : ∃ X1, X.alloc (.cells #[.slice A2 m c2, .int .i64 x.off, .int .i64 x.before, .int .i64 x.after] 47) = X1 ∧ Hid (Below X.heap.size X X1) ∧ Hid (Blk X1 X.heap.size 47 #[.slice A2 m c2, .int .i64 x.off, .int .i64 x.before, .int .i64 x.after]) := ⟨_, rfl, below_alloc _ _, Blk.new _ _ _⟩
    obtain ⟨X1, e1, HX1, HK1⟩ := F1
    have E1 := Lib.hid e1
    have HST1 : Hid (CpSt w p (w.heap.size + 1) (w.heap.size + 1 + 1) Ob Rb (.slice Av k cv) (.slice Bv k dv) k k X1) := HST.out.below HX1.out
    have HWO : Hid (∀ g, (Value.slice Av k cv).ownBlock = some g → g ≠ X.heap.size) := fun g hg => by
      obtain ⟨vs, v1, -⟩ := HST.out.webs
      have := (v1.lt g hg).2
      omega
    obtain ⟨sX, hsX⟩ : ∃ s, X.heap.size = s := ⟨_, rfl⟩
    rw [hsX] at HK1 HWO
    have HSX := Lib.hid hsX
    have k0 : (0 : Int) ≤ (k : Int) := by omega
    have k1 : (k : Int) < (n : Int) := by omega
    clear hx hm e1 hsX HX
    go_upto_region 5 with fail
    rw [E1.out, HSX.out]
    clear E1 c0 c1 c2' c3
    refine cop_r5 _ _ _ _ _ _ _ _ _ _ _ _ _ _ _ _ _ _ _ _ _ _ _ _ _ _ _ _ _ _ _ _ _ _ _ _ _ _ _ _ _ _ _ _ _ _ _ _ _ _ _ _ _ _ _ _ _ _ _ _ _ _ _ _ _ _ _ _ _ _ _ (by omega) HKL.out HXK.out HM.out (by omega) HST1 HK1 HWO.out HRX (Lib.hid ?_)
    intro _ _ _ _ _ _ _ _ _ _ _ _ _ _ _ g5 c5 Y HY
    have HYS := Lib.hid HY.out.1
    have HYW := Lib.hid HY.out.2.1
    have y0 := cellOf HYW.out 0 (x := .slice A2 m c2) rfl
    have y1 := cellOf HYW.out 1 (x := .int .i64 x.off) rfl
    have y2 := cellOf HYW.out 2 (x := .int .i64 x.before) rfl
    have y3 := cellOf HYW.out 3 (x := .int .i64 x.after) rfl
    have F2 : ∃ Z0, Y.alloc (.cells #[.slice none 0 0, .int .i64 x.off, .int .i64 x.before, .int .i64 x.after] 188) = Z0 ∧ Hid (InSt Y x (.slice none 0 0) 0 Z0) := ⟨_, rfl, below_alloc _ _, Blk.new _ _ _, World.ownsRow_nil _ _ _ _⟩
    obtain ⟨Z0, e2, HZ0⟩ := F2
    have E2 := Lib.hid e2
    have z0 := cellOf (HYW.out.below HZ0.out.low HYW.out.lt) 0 (x := .slice A2 m c2) rfl
    obtain ⟨sY, hsY⟩ : ∃ s, Y.heap.size = s := ⟨_, rfl⟩
    have HSY := Lib.hid hsY
    clear e2 hsY HY HST HST1 HX1 HK1 HWO HSX
    go_upto_region 7 with fail
    rw [E2.out, HSY.out]
    clear E2 y0 y1 y2 y3
    go_wp2_with fail
    go_loopw [53] (fun i wr => ∃ j : Nat, j ≤ m ∧ i = .int .i64 j ∧ Hid (∃ v, InSt Y x v j wr)) (fun i _ => m - (intOf i).toNat)
    case atStart => exact ⟨0, Nat.zero_le _, rfl, ⟨_, HZ0.out⟩⟩
    case round =>
    clear z0 HZ0
    obtain ⟨j, hj, rfl, hIn⟩ := hrel
    obtain ⟨Z, rfl⟩ : ∃ X : World, X = wr := ⟨_, rfl⟩
    obtain ⟨v, hin⟩ := hIn.out
    obtain ⟨Ai, ci, rfl⟩ := ownsRow_form hin.row
    have HIN := Lib.hid hin
    have HZL : Hid (Below w.heap.size w Z) := HYS.out.low.trans (hin.low.mono HYS.out.low.size)
    clear hin hIn
    by_cases hjm : j < m
    · obtain ⟨y, hy⟩ : ∃ y, x.reels[j]? = some y := ⟨_, List.getElem?_eq_getElem (by rw [HM.out]; exact hjm)⟩
      obtain ⟨g', o', rfl, HXR⟩ := (reels_at6 HRX.out).out j y hy
      obtain ⟨c0, c1, c2', c3⟩ := HXR.out Z HZL.out
      have HYY := Lib.hid hy
      have F3 : ∃ Z1, Z.alloc (.cells #[.int .i64 y.id, .int .i64 y.width, .int .i64 y.length, .int .i64 y.core] 58) = Z1 ∧ Hid (Below Z.heap.size Z Z1) ∧ Hid (Blk Z1 Z.heap.size 58 #[.int .i64 y.id, .int .i64 y.width, .int .i64 y.length, .int .i64 y.core]) := ⟨_, rfl, below_alloc _ _, Blk.new _ _ _⟩
      obtain ⟨Z1, e3, HZ1, HKR⟩ := F3
      have E3 := Lib.hid e3
      have HIN1 := Lib.hid (HIN.out.below HZ1.out)
      have r0 := cellOf HKR.out 0 (x := .int .i64 y.id) rfl
      have r1 := cellOf HKR.out 1 (x := .int .i64 y.width) rfl
      have r2 := cellOf HKR.out 2 (x := .int .i64 y.length) rfl
      have r3 := cellOf HKR.out 3 (x := .int .i64 y.core) rfl
      have HW1 := Lib.hid HIN1.out.web
      rw [HSY.out] at HW1
      have w0 := cellOf HW1.out 0 (x := .slice Ai j ci) rfl
      obtain ⟨i0, hi0, hz0, hz1, hz2⟩ := info_parts infoReelR
      have HO : Hid (Z1.ownsRow Y.heap.size 128 4 (.slice Ai j ci) j ((x.reels.take j).flatMap ReelD.cells)) := HIN1.out.row
      have HZY : Hid (Y.heap.size ≤ Z1.heap.size) := HIN1.out.low.size
      have HAP : Hid (∀ (v' : Value) (W9 : World) (tmp : Obj), (Z1.alloc tmp).grownBy W9 (Value.slice Ai j ci).ownBlock → W9.ownsRow Y.heap.size 128 4 v' (j + 1) ((x.reels.take j).flatMap ReelD.cells ++ [.int .i64 y.id, .int .i64 y.width, .int .i64 y.length, .int .i64 y.core]) → Hid (InSt Y x v' (j + 1) (W9.setCell ⟨sY, 0, none⟩ v')) ∧ (W9.cell? ⟨sY, 0, none⟩ = some (.slice Ai j ci) ∧ W9.frozen? ⟨sY, 0, none⟩ = false)) := fun v' W9 tmp hg ho => by
        obtain ⟨h1, h2⟩ := HIN1.out.app HYY.out hg ho
        rw [HSY.out] at h1 h2
        exact ⟨h1, cellOf h2 0 rfl, h2.frozen 0⟩
      have j0 : (0 : Int) ≤ (j : Int) := by omega
      have j1 : (j : Int) < (m : Int) := by omega
      clear hy e3 HXR HZ1 HKR HIN HIN1 HW1
      go_upto_region 10 with fail
      rw [E3.out]
      clear E3 c0 c1 c2' c3
      go_wp2_with (at_builtin; refine wpList_append_own _ rfl _ _ 127 rfl Y.heap.size 128 i0 _ 4 32 sliceReelR hi0 hz0 hz1 hz2 rfl (by decide) (.slice Ai j ci) j ((x.reels.take j).flatMap ReelD.cells) rfl (HO.out.alloc _) ⟨Z1.heap.size, 0, none⟩ 1 1 [.int .i64 y.id, .int .i64 y.width, .int .i64 y.length, .int .i64 y.core] rfl rfl (cells_new _ _ _) (by simp [Value.oneCell']) (by simp only [maxLen]; omega) (by omega) (by have := HZY.out; simp; omega) ?_; intro v2' w10 hown' hgro _; obtain ⟨Av2, cv2, rfl⟩ := ownsRow_form hown'; obtain ⟨hfin, q0, q1⟩ := HAP.out _ _ _ hgro hown'; clear hown' hgro)
      clear q0 q1 w0 r0 r1 r2 r3
      go_roundw
      case rel => exact ⟨j + 1, by omega, by go_num, ⟨_, hfin.out⟩⟩
      case measure => simp [intOf]; omega
    · obtain rfl : m = j := by omega
      have HCS := Lib.hid (HYS.out.below HIN.out.low)
      obtain ⟨i0, hi0, hz0, hz1, hz2⟩ := info_parts infoWebR
      obtain ⟨vs, v1, v2, v3⟩ := HCS.out.webr
      rw [HKL.out] at v1
      have HO := Lib.hid v1
      have HV2 := Lib.hid v2
      have HV3 := Lib.hid v3
      have HZY : Hid (w.heap.size ≤ Z.heap.size) := HZL.out.size
      have HAP : Hid (∀ (v' : Value) (W9 : World) (tmp : Obj), (Z.alloc tmp).grownBy W9 (Value.slice Bv k dv).ownBlock → W9.ownsRow w.heap.size 188 4 v' (k + 1) ((((p.webs.take k).zip vs).flatMap fun x => webCells x.1 x.2) ++ [.slice Ai m ci, .int .i64 x.off, .int .i64 x.before, .int .i64 x.after]) → Hid (CpRel w p Ob Rb (k + 1) (W9.setCell ⟨Rb, 2, none⟩ v')) ∧ (W9.cell? ⟨Rb, 2, none⟩ = some (.slice Bv k dv) ∧ W9.frozen? ⟨Rb, 2, none⟩ = false)) := fun v' W9 tmp hg ho => by
        have hb := below_alloc Z tmp
        have hr : (Z.alloc tmp).ownsRow w.heap.size 128 4 (.slice Ai m ci) x.reels.length (x.reels.flatMap ReelD.cells) := by
          have h1 := ownsRow_base (ownsRow_below HIN.out.row hb) HYS.out.low.size
          rw [List.take_of_length_le (by rw [HM.out]; exact Nat.le_refl _)] at h1
          rw [HM.out]
          exact h1
        obtain ⟨h1, h2⟩ := (HCS.out.below hb).app2 (x := x) HXK.out HKL.out (ownsRow_below HO.out hb) HV2.out (fun i u x hu hx => ownsRow_below (HV3.out i u x hu hx) hb) hr (KeptBut.grown (S := fun g => some g = (Value.slice Bv k dv).ownBlock) hg fun g hg => hg) ho
        exact ⟨⟨_, _, h1⟩, cellOf h2 2 rfl, h2.frozen 2⟩
      have HW1 := Lib.hid HIN.out.web
      rw [HSY.out] at HW1
      have w0 := cellOf HW1.out 0 (x := .slice Ai m ci) rfl
      have w1 := cellOf HW1.out 1 (x := .int .i64 x.off) rfl
      have w2 := cellOf HW1.out 2 (x := .int .i64 x.before) rfl
      have w3 := cellOf HW1.out 3 (x := .int .i64 x.after) rfl
      have p2 := cellOf HCS.out.ref 2 (x := .slice Bv k dv) rfl
      clear v1 v2 v3 HW1 HIN HYS HYW HCS HRX
      go_wp2_with (at_builtin; refine wpList_append_own _ rfl _ _ 103 rfl w.heap.size 188 i0 _ 4 48 sliceWebR hi0 hz0 hz1 hz2 rfl (by decide) (.slice Bv k dv) k (((p.webs.take k).zip vs).flatMap fun x => webCells x.1 x.2) rfl (HO.out.alloc _) ⟨Z.heap.size, 0, none⟩ 1 1 [.slice Ai m ci, .int .i64 x.off, .int .i64 x.before, .int .i64 x.after] rfl rfl (cells_new _ _ _) (by simp [Value.oneCell']) (by simp only [maxLen]; omega) (by omega) (by have := HZY.out; simp; omega) ?_; intro v2' w10 hown' hgro _; obtain ⟨Av2, cv2, rfl⟩ := ownsRow_form hown'; obtain ⟨hfin, q0, q1⟩ := HAP.out _ _ _ hgro hown'; clear hown' hgro)
      clear q0 q1 w0 w1 w2 w3 p2
      go_roundw
      case rel => exact ⟨k + 1, by omega, by go_num, hfin⟩
      case measure => simp [intOf]; omega
  · have hkn : k = n := by omega
    have HFIN : Hid (∀ (Z : World) (S : Nat → Prop), KeptBut S X Z → (∀ g, S g → g = w.heap.size + 1 ∨ g = w.heap.size + 1 + 1) → CopRet p n w (.returned (.tuple #[.agg #[.int .i64 p.cut, .int .i64 p.margin, .slice Av k cv], .agg #[.int .i64 p.cut, .int .i64 p.margin, .slice Bv k dv]])) Z) := fun Z S hK hS => by
      subst hkn
      exact ⟨_, _, _, _, rfl, HST.out.done (by rw [HN.out]; exact Nat.le_refl _) (by rw [HN.out]; exact Nat.le_refl _) hK hS⟩
    have o0 := cellOf HST.out.own 0 (x := .int .i64 p.cut) rfl
    have o1 := cellOf HST.out.own 1 (x := .int .i64 p.margin) rfl
    have o2 := cellOf HST.out.own 2 (x := .slice Av k cv) rfl
    have q0 := cellOf HST.out.ref 0 (x := .int .i64 p.cut) rfl
    have q1 := cellOf HST.out.ref 1 (x := .int .i64 p.margin) rfl
    have q2 := cellOf HST.out.ref 2 (x := .slice Bv k dv) rfl
    clear hkn
    have c0 := cellOf HST.out.res2 0 (x := .int .i64 0) rfl
    have c1 := cellOf HST.out.res2 1 (x := .int .i64 0) rfl
    have c2 := cellOf HST.out.res2 2 (x := .slice none 0 0) rfl
    have cf0 := HST.out.res2.frozen 0
    have cf1 := HST.out.res2.frozen 1
    have cf2 := HST.out.res2.frozen 2
    have d0 := cellOf HST.out.res3 0 (x := .int .i64 0) rfl
    have d1 := cellOf HST.out.res3 1 (x := .int .i64 0) rfl
    have d2 := cellOf HST.out.res3 2 (x := .slice none 0 0) rfl
    have df0 := HST.out.res3.frozen 0
    have df1 := HST.out.res3.frozen 1
    have df2 := HST.out.res3.frozen 2
    have n1 : Ob ≠ w.heap.size + 1 := (HST.out.at_.2.2.2.2.1).symm
    have n2 : Ob ≠ w.heap.size + 1 + 1 := Blk.ne HST.out.own HST.out.res3 (by decide)
    have n3 : Rb ≠ w.heap.size + 1 := Blk.ne HST.out.ref HST.out.res2 (by decide)
    have n4 : Rb ≠ w.heap.size + 1 + 1 := (HST.out.at_.2.2.2.2.2).symm
    have HSK : Hid (∀ Z, KeptBut (fun g => g = w.heap.size + 1 ∨ g = w.heap.size + 1 + 1) X Z → Z.cell? ⟨Ob, 0, none⟩ = some (.int .i64 p.cut) ∧ Z.cell? ⟨Ob, 1, none⟩ = some (.int .i64 p.margin) ∧ Z.cell? ⟨Ob, 2, none⟩ = some (.slice Av k cv) ∧ Z.cell? ⟨Rb, 0, none⟩ = some (.int .i64 p.cut) ∧ Z.cell? ⟨Rb, 1, none⟩ = some (.int .i64 p.margin) ∧ Z.cell? ⟨Rb, 2, none⟩ = some (.slice Bv k dv)) := fun Z hK => by
      have h1 := hK.blk HST.out.own (by rintro (h | h); exact n1 h; exact n2 h)
      have h2 := hK.blk HST.out.ref (by rintro (h | h); exact n3 h; exact n4 h)
      exact ⟨cellOf h1 0 rfl, cellOf h1 1 rfl, cellOf h1 2 rfl, cellOf h2 0 rfl, cellOf h2 1 rfl, cellOf h2 2 rfl⟩
    go_upto_region 14 with fail
    go_region_held3 (fun X => X.cell? ⟨Ob, 0, none⟩ = some (.int .i64 p.cut) ∧ X.cell? ⟨Ob, 1, none⟩ = some (.int .i64 p.margin) ∧ X.cell? ⟨Ob, 2, none⟩ = some (.slice Av k cv) ∧ X.cell? ⟨Rb, 0, none⟩ = some (.int .i64 p.cut) ∧ X.cell? ⟨Rb, 1, none⟩ = some (.int .i64 p.margin) ∧ X.cell? ⟨Rb, 2, none⟩ = some (.slice Bv k dv)) ((refine HSK.out _ ?_; repeat (first | with_reducible exact KeptBut.refl _ _ | with_reducible refine kb_drew ?_ | with_reducible refine kb_set ?_ (.inl rfl) _ | with_reducible refine kb_set ?_ (.inr rfl) _))) (fail)
    all_goals
      clear o0 o1 o2 q0 q1 q2
      go_wp2_with fail
      refine bodyPost_ret (v := .tuple #[.agg #[(.int .i64 p.cut), (.int .i64 p.margin), (.slice Av k cv)], .agg #[(.int .i64 p.cut), (.int .i64 p.margin), (.slice Bv k dv)]]) (by simp [results, Try.results43, go_sem, c0, c1, c2, d0, d1, d2]) rfl (HFIN.out _ _ ?_ (fun g h => h))
      repeat (first | with_reducible exact KeptBut.refl _ _ | with_reducible refine kb_drew ?_ | with_reducible refine kb_set ?_ (.inl rfl) _ | with_reducible refine kb_set ?_ (.inr rfl) _)
end Go.Proofs.Ytpkepacbondopaa

namespace Go.Proofs.Ytpkepacbondopaa
open Go.ChangeShapes Go.WideShapes Go.ChangeAt Go.RowKit Go.Joins

set_option maxRecDepth 100000 in
theorem copies_contract (H : Type) (enc : TypeId × Value → H) (W : World) (base : Nat) (args : Array Value) (ds gs : List (DataW H)) (before : List MemPlace)
    (hval : ∀ (j : Nat) t v, Try.f3.params[j]? = some t → args[j]? = some v → Value.okWide Try.prog W .any base t v)
    (hW : DataW.Whole enc Try.prog Try.f3.params.toList Rows.reelCopiesSpec.vars false W args.toList ds gs before) :
    Calls Try.prog 3 args W fun e W' => ∃ v, e = .returned v ∧ Rows.reelCopiesSpec.post enc Try.prog Try.f3 false true false false W args v W' := by
  have hW' := hW
  obtain ⟨p, q, hA0, hV, rfl, hfz, hnd⟩ := hW
  have hA : DataW.TrodAll enc Try.prog W 0 (fun _ => true) true Try.f3.params.toList args.toList ds p := hA0
  rw [Try.params3] at hA hval
  obtain ⟨v0, vs0, d0, ds0, p0, q0, hargs0, rfl, rfl, h0, r0⟩ := trodAll_cons hA
  obtain ⟨v1, vs1, d1, ds1, p1, q1, hargs1, rfl, rfl, h1, r1⟩ := trodAll_cons r0
  obtain ⟨v2, vs2, d2, ds2, p2, q2, hargs2, rfl, rfl, h2, r2⟩ := trodAll_cons r1
  obtain ⟨v3, vs3, d3, ds3, p3, q3, hargs3, rfl, rfl, h3, r3⟩ := trodAll_cons r2
  obtain ⟨rfl, rfl, rfl⟩ := trodAll_nil r3
  subst hargs3
  obtain rfl : args = #[v0, v1, v2, v3] := by cases args; simp_all
  obtain ⟨rfl, rfl⟩ := trodVars_none hV
  obtain ⟨a1, rfl, rfl, rfl, w1⟩ := open_int Try.underlying3 (hval 1 3 v1 rfl rfl) h1
  have b1 := (Lit.wf_int_iff _ _).1 w1
  obtain ⟨a2, rfl, rfl, rfl, w2⟩ := open_int Try.underlying3 (hval 2 3 v2 rfl rfl) h2
  have b2 := (Lit.wf_int_iff _ _).1 w2
  obtain ⟨a3, rfl, rfl, rfl, w3⟩ := open_int Try.underlying3 (hval 3 3 v3 rfl rfl) h3
  have b3 := (Lit.wf_int_iff _ _).1 w3
  clear hA0
  simp only [List.append_nil] at hW'
  obtain ⟨l0, hr0⟩ := press_arg (hval 0 24 v0 rfl rfl) h0
  have hlt0 : ∀ x ∈ p0, x.block < W.heap.size := fun x hx => by
    simpa using hW'.lt x (by simp [hx])
  have hargs0 : ∀ (W' : World), Below W.heap.size W W' → DataW.Trod enc Try.prog W' 0 (fun b => decide (b < W.heap.size)) true 24 v0 d0 p0 :=
    fun W' hn => Below.trod laidOutN (by kernel_rfl) (of_decide_eq_true (by kernel_rfl)) h0 hn fun x hx => hlt0 x hx
  refine (ReelCopies_over l0 a1 a2 a3 (fun h9 v w h => copied_any l0 h9.1 h9.2 v w h) v0 W hr0).mono fun e W' ⟨he, hnx⟩ => ?_
  subst he
  exact ⟨_, rfl, _, _, _, [], p0 ++ ([] ++ ([] ++ ([] ++ ([])))), [], hW', trodAll_cons_mk (shut_bool Try.underlying4 _) trodAll_mk0, trodAll_cons_mk (hargs0 _ hnx) (trodAll_cons_mk (shut_int Try.underlying3 w1) (trodAll_cons_mk (shut_int Try.underlying3 w2) (trodAll_cons_mk (shut_int Try.underlying3 w3) (trodAll_mk0)))), rfl, hnx.frame _, fun h => by cases h⟩

set_option maxRecDepth 100000 in
theorem copies_lifted (os : Os) (started : os.Started) (H : Type) (enc : TypeId × Value → H) :
    ReturnsInHanded {} Try.checked os 3 .any (Rows.reelCopiesSpec.pre6 enc Try.prog Try.f3 Rows.reelCopiesRow.domain false) (Rows.reelCopiesSpec.post enc Try.prog Try.f3 false true false false) := by
  refine returnsInHanded_of_change (C := Try.checked) ownN started (by kernel_rfl) Try.func3
    (ChangeSpec.witness6 (enc := enc) (C := Try.checked) false ⟨#[], #[.agg #[.int .i64 0, .int .i64 0, .slice none 0 0], .int .i64 0, .int .i64 0, .int .i64 0], []⟩ 8 (by kernel_rfl) (by kernel_rfl) (by kernel_rfl) (by kernel_rfl)) ?_
  intro W base args ds gs before hval hW _ _
  exact copies_contract H enc W base args ds gs before hval hW

theorem copies_proved : Rows.ReelCopiesSaid :=
  OpenClaim.holds_of_wide 3 Try.f3 rfl rfl rfl rfl rfl rfl rfl ⟨rfl, rfl, rfl, rfl, rfl⟩ rfl rfl rfl rfl rfl (by kernel_rfl) Try.func3 (by kernel_rfl)
    (of_decide_eq_true (by kernel_rfl)) (by unfold Func.isWrapper; first | (rw [if_pos (by decide +kernel)]; kernel_rfl) | (rw [if_neg (by decide +kernel)]; exact ⟨rfl, rfl⟩))
    (fun os started H enc _ => copies_lifted os started H enc)
#print axioms copies_proved
end Go.Proofs.Ytpkepacbondopaa
