/-
  Subscriber.isRight, copies; Copies, Gets.
  Subscribers side by side in memory.
  Accounts: the closure that adds a line.
  A region that draws its order, whose last operations all wait for the first ones: loads may be taken first although the last ones write their cells.
-/
import Derived.Test.YtlmpbmlbllndcaaMam
import Derived.Deep.RegionLawGrows
import Derived.Test.YtlmpbmlbllndcaaMak
import Derived.OrdersHeld
import Derived.Deep.RegionHeld
import Derived.StillTail
import Derived.Test.YtlmpbmlbllndcaaMaa
namespace Go.Proofs.Ytlmpbmlbllndcaa
open Go.RowKit
attribute [local go_sem] Oper.semAt_some

/-- A subscriber in memory. -/
def RSub (B : Nat) (w : World) (v : Value) (s : SubD) : Prop := ∃ u, v = .agg #[.int .i64 s.id, .int .i64 s.from_, .int .i64 s.to_, .int .i64 s.days, u] ∧ RSpans B w u s.hol
theorem RSub.below {B : Nat} {w w' : World} {v : Value} {s : SubD} (h : RSub B w v s) (hb : Below B w w') : RSub B w' v s := by
  obtain ⟨u, rfl, h⟩ := h
  exact ⟨u, rfl, Rd.below h hb⟩
theorem RSub.more {B B' : Nat} {w : World} {v : Value} {s : SubD} (h : RSub B w v s) (hB : B ≤ B') : RSub B' w v s := by
  obtain ⟨u, rfl, h⟩ := h
  exact ⟨u, rfl, Rd.more h hB⟩
/-- Whether a subscriber is allowed. -/
def subB (s : SubD) : Bool := ((inB s.id 0 1000000 && dayB s.from_ s.to_) && inB s.days 1 127) && holB s.hol
theorem subB_ok {s : SubD} (h : subB s = true) : s.Ok := by
  unfold subB holB at h
  simp only [Bool.and_eq_true, inB_iff, dayB_iff, decide_eq_true_eq] at h
  obtain ⟨⟨⟨h1, h2⟩, h3⟩, h4, h5⟩ := h
  exact ⟨h1, h2, h3, h4, holR_ok h5⟩
theorem subB_of {s : SubD} (h : s.Ok) : subB s = true := by
  unfold subB holB
  simp only [Bool.and_eq_true, inB_iff, dayB_iff, decide_eq_true_eq]
  exact ⟨⟨⟨h.id, h.from_⟩, h.days⟩, h.hol.1, holR_of (Int.le_refl _) h.hol.2⟩
set_option maxRecDepth 100000 in
set_option maxHeartbeats 4000000 in
theorem subRight_any (s : SubD) (v : Value) (w : World) (h : RSub w.heap.size w v s) : Calls Try.prog 89 #[v] w fun e w' => e = .returned (.bool (subB s)) ∧ Below w.heap.size w w' := by
  obtain ⟨u, rfl, hs⟩ := h
  obtain ⟨A, c, rfl, -, -⟩ := spans_later hs
  obtain ⟨n, hn⟩ : ∃ n, s.hol.length = n := ⟨_, rfl⟩
  rw [hn] at hs
  rw [hn]
  obtain ⟨id, hid⟩ : ∃ x, s.id = x := ⟨_, rfl⟩
  obtain ⟨fr, hfr⟩ : ∃ x, s.from_ = x := ⟨_, rfl⟩
  obtain ⟨to_, hto⟩ : ∃ x, s.to_ = x := ⟨_, rfl⟩
  obtain ⟨dy, hdy⟩ : ∃ x, s.days = x := ⟨_, rfl⟩
  obtain ⟨b1, hb1⟩ : ∃ b, inB id 0 1000000 = b := ⟨_, rfl⟩
  obtain ⟨b2, hb2⟩ : ∃ b, dayB fr to_ = b := ⟨_, rfl⟩
  obtain ⟨b3, hb3⟩ : ∃ b, inB dy 1 127 = b := ⟨_, rfl⟩
  obtain ⟨b4, hb4⟩ : ∃ b, holB s.hol = b := ⟨_, rfl⟩
  have HE : Hid (subB s = (((b1 && b2) && b3) && b4)) := by show _ = _; rw [← hb1, ← hb2, ← hb3, ← hb4, ← hid, ← hfr, ← hto, ← hdy]; rfl
  have F0 : ∃ W0, w.alloc (.cells #[.int .i64 id, .int .i64 fr, .int .i64 to_, .int .i64 dy, .slice A n c] 42) = W0 ∧ Hid (Below w.heap.size w W0) ∧ Hid (Blk W0 w.heap.size 42 #[.int .i64 id, .int .i64 fr, .int .i64 to_, .int .i64 dy, .slice A n c]) := ⟨_, rfl, below_alloc _ _, Blk.new _ _ _⟩
  obtain ⟨W0, e0, HB0, HK0⟩ := F0
  have E0 := Lib.hid e0
  have C1 := Lib.hid (fun w => within_any id 0 1000000 w)
  have C2 := Lib.hid (fun w => areDays_any fr to_ w)
  have C3 := Lib.hid (fun w => within_any dy 1 127 w)
  have C4 := Lib.hid (areHol_any s.hol (.slice A n c) W0 ((Rd.below hs HB0.out).more HB0.out.size))
  rw [hb1] at C1
  rw [hb2] at C2
  rw [hb3] at C3
  rw [hb4] at C4
  have z0 := cellOf HK0.out 0 (x := .int .i64 id) rfl
  have z1 := cellOf HK0.out 1 (x := .int .i64 fr) rfl
  have z2 := cellOf HK0.out 2 (x := .int .i64 to_) rfl
  have z3 := cellOf HK0.out 3 (x := .int .i64 dy) rfl
  have z4 := cellOf HK0.out 4 (x := .slice A n c) rfl
  rw [hid, hfr, hto, hdy]
  clear hs hn hid hfr hto hdy hb1 hb2 hb3 hb4 e0
  cases b1
  · go_enter Try.func89, Try.ntmps89
    go_upto_region 1 with fail
    rw [E0.out]
    go_wp2_with fail
    refine (C1.out _).mono ?_
    rintro _ _ ⟨rfl, rfl⟩
    go_wp2_with fail
    go_ret
    exact ⟨rb (HE.out.trans rfl), HB0.out⟩
  cases b2
  · go_enter Try.func89, Try.ntmps89
    go_upto_region 1 with fail
    rw [E0.out]
    go_wp2_with fail
    refine (C1.out _).mono ?_
    rintro _ _ ⟨rfl, rfl⟩
    go_wp2_with fail
    refine (C2.out _).mono ?_
    rintro _ _ ⟨rfl, rfl⟩
    go_wp2_with fail
    go_ret
    exact ⟨rb (HE.out.trans rfl), HB0.out⟩
  cases b3
  · go_enter Try.func89, Try.ntmps89
    go_upto_region 1 with fail
    rw [E0.out]
    go_wp2_with fail
    refine (C1.out _).mono ?_
    rintro _ _ ⟨rfl, rfl⟩
    go_wp2_with fail
    refine (C2.out _).mono ?_
    rintro _ _ ⟨rfl, rfl⟩
    go_wp2_with fail
    refine (C3.out _).mono ?_
    rintro _ _ ⟨rfl, rfl⟩
    go_wp2_with fail
    go_ret
    exact ⟨rb (HE.out.trans rfl), HB0.out⟩
  have HE2 : Hid (subB s = b4) := by show _ = _; rw [HE.out]; simp
  clear HE
  go_enter Try.func89, Try.ntmps89
  go_upto_region 1 with fail
  rw [E0.out]
  go_wp2_with fail
  refine (C1.out _).mono ?_
  rintro _ _ ⟨rfl, rfl⟩
  go_wp2_with fail
  refine (C2.out _).mono ?_
  rintro _ _ ⟨rfl, rfl⟩
  go_wp2_with fail
  refine (C3.out _).mono ?_
  rintro _ _ ⟨rfl, rfl⟩
  go_wp2_with fail
  refine C4.out.mono ?_
  rintro _ W1 ⟨rfl, hb⟩
  have HBW : Hid (Below w.heap.size w W1) := HB0.out.trans (hb.mono HB0.out.size)
  clear hb z0 z1 z2 z3 z4 C4
  go_wp2_with fail
  go_ret
  exact ⟨rb HE2.out, HBW.out⟩
theorem copF_bd (s : SubD) {a b : Int} (ha : 0 ≤ a) (hb : b ≤ 20000) : ∀ k, k ≤ 20 → -30000 * (k + 1) ≤ copF s a b k ∧ copF s a b k ≤ 30000 * (k + 1)
  | 0, _ => by
    have := wkF_bd s.days (max a s.from_) (min b s.to_) (by omega) (by omega)
    show _ ≤ wkF _ _ _ ∧ wkF _ _ _ ≤ _
    omega
  | k + 1, h => by
    have h1 := copF_bd s ha hb k (by omega)
    have h2 := wkF_bd s.days (max (max a s.from_) ((s.hol[k]?).map SpanD.lo |>.getD 0)) (min (min b s.to_) ((s.hol[k]?).map SpanD.hi |>.getD 0)) (by omega) (by omega)
    show _ ≤ copF s a b k - wkF _ _ _ ∧ copF s a b k - wkF _ _ _ ≤ _
    push_cast
    omega
end Go.Proofs.Ytlmpbmlbllndcaa

namespace Go.Proofs.Ytlmpbmlbllndcaa
open Go.RowKit

def subCells (x : SubD × Value) : List Value := [.int .i64 x.1.id, .int .i64 x.1.from_, .int .i64 x.1.to_, .int .i64 x.1.days, x.2]
/-- Subscribers in memory: each with a slice of spans of its own. -/
def RSubs (B : Nat) (w : World) (v : Value) (l : List SubD) : Prop :=
  ∃ us : List Value, us.length = l.length ∧ Rd B w 5 v l.length ((l.zip us).flatMap subCells) ∧ ∀ (i : Nat) (u : Value) (s : SubD), us[i]? = some u → l[i]? = some s → RSpans B w u s.hol
theorem RSubs.below {B : Nat} {w w' : World} {v : Value} {l : List SubD} (h : RSubs B w v l) (hb : Below B w w') : RSubs B w' v l := by
  obtain ⟨us, h1, h2, h3⟩ := h
  exact ⟨us, h1, Rd.below h2 hb, fun i u s hu hs => Rd.below (h3 i u s hu hs) hb⟩
theorem RSubs.more {B B' : Nat} {w : World} {v : Value} {l : List SubD} (h : RSubs B w v l) (hB : B ≤ B') : RSubs B' w v l := by
  obtain ⟨us, h1, h2, h3⟩ := h
  exact ⟨us, h1, Rd.more h2 hB, fun i u s hu hs => Rd.more (h3 i u s hu hs) hB⟩
/-- Subscribers by place, each at any later world. -/
theorem subs_later {w : World} {v : Value} {l : List SubD} (h : RSubs w.heap.size w v l) : ∃ A c, v = .slice A l.length c ∧ l.length ≤ 9223372036854775807 ∧ Hid (∀ k s, l[k]? = some s → ∃ g o u, A = some ⟨g, o, none⟩ ∧ Hid (∀ X, Below w.heap.size w X → (X.cell? ⟨g, o + k * 5, none⟩ = some (.int .i64 s.id) ∧ X.cell? ⟨g, o + k * 5 + 1, none⟩ = some (.int .i64 s.from_) ∧ X.cell? ⟨g, o + k * 5 + 2, none⟩ = some (.int .i64 s.to_) ∧ X.cell? ⟨g, o + k * 5 + 3, none⟩ = some (.int .i64 s.days) ∧ X.cell? ⟨g, o + k * 5 + 4, none⟩ = some u) ∧ RSub X.heap.size X (.agg #[.int .i64 s.id, .int .i64 s.from_, .int .i64 s.to_, .int .i64 s.days, u]) s)) := by
  obtain ⟨us, hu, ⟨A, c, rfl, -, hm, hr⟩, hs⟩ := h
  refine ⟨A, c, rfl, by simpa [maxLen] using hm, fun k s hk => ?_⟩
  have hkl : k < l.length := (List.getElem?_eq_some_iff.1 hk).1
  obtain ⟨u, hku⟩ : ∃ u, us[k]? = some u := ⟨_, List.getElem?_eq_getElem (by omega)⟩
  have hz : (l.zip us)[k]? = some (s, u) := List.getElem?_zip_eq_some.2 ⟨hk, hku⟩
  obtain ⟨g, o, hA, hb, hc⟩ := hr (by omega)
  have hf := fun j hj => flat_at subCells 5 (fun _ => rfl) _ k j _ hz hj
  refine ⟨g, o, u, hA, fun X hX => ⟨⟨(hX.cell (p := ⟨g, o + k * 5, none⟩) hb).trans (hc _ _ (hf 0 (by omega))), (hX.cell (p := ⟨g, o + k * 5 + 1, none⟩) hb).trans (hc _ _ (hf 1 (by omega))), (hX.cell (p := ⟨g, o + k * 5 + 2, none⟩) hb).trans (hc _ _ (hf 2 (by omega))), (hX.cell (p := ⟨g, o + k * 5 + 3, none⟩) hb).trans (hc _ _ (hf 3 (by omega))), (hX.cell (p := ⟨g, o + k * 5 + 4, none⟩) hb).trans (hc _ _ (hf 4 (by omega)))⟩, ⟨u, rfl, (Rd.below (hs k u s hku hk) hX).more hX.size⟩⟩⟩
end Go.Proofs.Ytlmpbmlbllndcaa

namespace Go.Proofs.Ytlmpbmlbllndcaa
open Go.RowKit
attribute [local go_sem] Oper.semAt_some

structure LineD where
  what : Int
  cop : Int
  amt : Int
def LineD.cells (x : LineD) : List Value := [.int .i64 x.what, .int .i64 x.cop, .int .i64 x.amt]
theorem sliceLine : Try.prog.underlying 78 = some (.slice 84) := by kernel_rfl
theorem infoLine : (Try.prog.info? 84).map (fun i => (i.zero, i.size, i.bytes)) = some (some (.agg #[.int .i64 0, .int .i64 0, .int .i64 0]), 3, 24) := by kernel_rfl
def OLines (base : Nat) (w : World) (v : Value) (l : List LineD) : Prop := w.ownsRow base 84 3 v l.length (l.flatMap LineD.cells)
/-- An account in the making: block Ab has its lines and their sum; a pointer to it lies in block Pb. -/
structure AcSt (base Ab Pb : Nat) (l : List LineD) (s : Int) (v : Value) (X : World) : Prop where
  acc : Blk X Ab 80 #[v, .int .i64 s]
  ptr : Blk X Pb 228 #[.pointer (some ⟨Ab, 0, none⟩)]
  row : OLines base X v l
theorem AcSt.below {base Ab Pb : Nat} {l : List LineD} {s : Int} {v : Value} {X Y : World} (h : AcSt base Ab Pb l s v X) (hb : Below X.heap.size X Y) : AcSt base Ab Pb l s v Y := ⟨h.acc.below hb h.acc.lt, h.ptr.below hb h.ptr.lt, ownsRow_below h.row hb⟩
end Go.Proofs.Ytlmpbmlbllndcaa

namespace Go.Proofs.Ytlmpbmlbllndcaa
section
variable {P : Program} {ops : Array Oper} {Q : Exit → Act → World → Prop} {md : Region.Mode} {S : World → Prop} {n : Nat}

/-- Whatever order is picked; S holds behind each of the first n operations. -/
def wpAnyT (P : Program) (md : Region.Mode) (ops : Array Oper) (Q : Exit → Act → World → Prop) (n : Nat) (S : World → Prop) : Nat → Array Bool → Act → World → Prop
  | 0, listed, a, w => Region.ready md ops listed = [] ∧ Q .normal a w
  | f + 1, listed, a, w => (Region.ready md ops listed = [] → Q .normal a w) ∧ ∀ i ∈ Region.ready md ops listed, wpOp P ops Q i (fun a' w' => (i < n → S w') ∧ wpAnyT P md ops Q n S f (listed.setIfInBounds i true) a' w') a w
theorem wpAny_of_T : ∀ (f : Nat) (listed : Array Bool) (a : Act) (w : World), wpAnyT P md ops Q n S f listed a w → wpAny P md ops Q f listed a w
  | 0, _, _, _, h => h
  | f + 1, _, _, _, h => ⟨h.1, fun i hi => wpOp_mono (fun a' w' h' => wpAny_of_T f _ a' w' h'.2) (h.2 i hi)⟩
/-- The last operations, from the n-th on, stand in a row behind all the others. -/
def lastB (md : Region.Mode) (ops : Array Oper) (n : Nat) : Bool := Region.sinkB md ops n && Region.chainB md ops n && decide (n < ops.size)
/-- A set of operations that have come up: with each all that it waits for, none of the last ones. -/
def invB (md : Region.Mode) (ops : Array Oper) (n : Nat) (listed : Array Bool) : Bool :=
  decide (listed.size = ops.size) && ((List.range ops.size).all fun j => !listed.getD j false || ((ops[j]?).map fun o => o.after.all fun e => !Region.binds md e || listed.getD e.on false).getD true) && ((List.range ops.size).all fun t => decide (t < n) || !listed.getD t true)
theorem invB_spec {listed : Array Bool} (h : invB md ops n listed = true) : HeadInv md ops n listed := by
  unfold invB at h
  simp only [Bool.and_eq_true, decide_eq_true_eq] at h
  obtain ⟨⟨h1, h2⟩, h3⟩ := h
  refine ⟨h1, fun j oj hj hl e he hb => ?_, fun t ht ht' => ?_⟩
  · have h4 := List.all_eq_true.1 h2 j (List.mem_range.2 (Array.getElem?_eq_some_iff.1 hj).1)
    rw [hl, hj] at h4
    have h5 : oj.after.all (fun e => !Region.binds md e || listed.getD e.on false) = true := h4
    have h6 := Array.all_eq_true'.1 h5 e he
    rw [hb] at h6
    exact h6
  · have h4 := List.all_eq_true.1 h3 t (List.mem_range.2 ht')
    rw [Bool.or_eq_true, decide_eq_true_eq, Bool.not_eq_true'] at h4
    exact h4.resolve_left (by omega)
theorem last_waits {i j : Nat} {listed : Array Bool} (hB : lastB md ops n = true) (inv : HeadInv md ops n listed) (hi : i < n) (hun : listed.getD i true = false) (hj : j ∈ Region.ready md ops listed) : j < n := by
  unfold lastB at hB
  simp only [Bool.and_eq_true, decide_eq_true_eq] at hB
  rcases Nat.lt_or_ge j n with h | h
  · exact h
  · exact absurd hj (tail_waits hB.1.1 hB.1.2 hB.2 inv _ i rfl hi hun j h)
theorem wpAnyT_first {i : Nat} {oi : Oper} {v : Value} (hi : ops[i]? = some oi) (hsel : ∀ (j : Nat) (o : Oper) cs b, ops[j]? = some o → o.op ≠ .select cs b)
    (hQ : ∀ c a w, Q (.panic c) (a.put oi.dst v) w → Q (.panic c) a w) (hB : lastB md ops n = true) (hin : i < n) :
    ∀ (f : Nat) (listed : Array Bool) (a : Act) (w : World), HeadInv md ops n listed →
      (∀ j oj, ops[j]? = some oj → j ≠ i → listed.getD j true = false → (∀ e ∈ oj.after, Region.binds md e = true → e.on ≠ i) → oi.apart ops oj = true) →
      i ∈ Region.ready md ops listed → YieldsIf P ops S oi v a → S w →
      wpAnyT P md ops Q n S f (listed.setIfInBounds i true) (a.put oi.dst v) w → wpAnyT P md ops Q n S (f + 1) listed a w
  | 0, listed, a, w, inv, _, hr, hy, hS, H => by
    refine ⟨fun h => (by rw [h] at hr; cases hr), fun j hj => ?_⟩
    by_cases hji : j = i
    · subst hji; exact hy.wpOp hi hS ⟨fun _ => hS, H⟩
    · have h0 := ready_mono hj hji
      rw [H.1] at h0
      cases h0
  | f + 1, listed, a, w, inv, hfree, hr, hy, hS, H => by
    have hun := (mem_ready.1 hr).1
    refine ⟨fun h => (by rw [h] at hr; cases hr), fun j hj => ?_⟩
    by_cases hji : j = i
    · subst hji; exact hy.wpOp hi hS ⟨fun _ => hS, H⟩
    · have hjn := last_waits hB inv hin hun hj
      have h1 := H.2 j (ready_mono hj hji)
      obtain ⟨hjun, oj, hoj, hall⟩ := mem_ready.1 hj
      have hnot : ∀ e ∈ oj.after, Region.binds md e = true → e.on ≠ i := fun e he hb heq => by
        have h2 := hall e he hb
        rw [heq, getD_both hun] at h2
        cases h2
      have h2 := wpOp_putIf hoj (hfree j oj hoj hji hjun hnot) (fun cs b => hsel i oi cs b hi) (fun cs b => hsel j oj cs b hoj) hQ hy h1
      refine wpOp_mono (fun a' w' h3 => ⟨fun _ => h3.2.1 hjn, wpAnyT_first hi hsel hQ hB hin f (listed.setIfInBounds j true) a' w' (inv.set hj hjn) (fun k ok hk hki hkun hno => hfree k ok hk hki ?_ hno) (ready_mono hr (Ne.symm hji)) h3.1 (h3.2.1 hjn) ?_⟩) h2
      · by_cases hjk : j = k
        · subst hjk; exact hjun
        · rw [getD_set_ne true hjk] at hkun; exact hkun
      · rw [Array.setIfInBounds_comm _ _ hji]
        exact h3.2.2
theorem wpAnyT_take {i : Nat} {oi : Oper} {v : Value} {f : Nat} {listed : Array Bool} {a : Act} {w : World} (hB : lastB md ops n = true) (hI : invB md ops n listed = true) (hi : ops[i]? = some oi)
    (hs : Region.noSelect ops = true) (hf : Region.free md ops listed i = true) (hr : (Region.ready md ops listed).contains i = true) (hin : i < n)
    (hQ : ∀ c a w, Q (.panic c) (a.put oi.dst v) w → Q (.panic c) a w) (hy : YieldsIf P ops S oi v a) (hS : S w)
    (h : wpAnyT P md ops Q n S f (listed.setIfInBounds i true) (a.put oi.dst v) w) : wpAnyT P md ops Q n S (f + 1) listed a w :=
  wpAnyT_first hi (Region.noSelect_spec hs) hQ hB hin f listed a w (invB_spec hI) (Region.free_spec hi hf) (by simpa using hr) hy hS h
theorem wpAnyT_last {f : Nat} {listed : Array Bool} {a : Act} {w : World} (hl : (Region.ready md ops listed).all (fun j => decide (n ≤ j)) = true) (hd : ∀ i ∈ Region.ready md ops listed, wpOp P ops Q i (fun a' w' => wpAnyT P md ops Q n S f (listed.setIfInBounds i true) a' w') a w) (hne : Region.ready md ops listed ≠ []) : wpAnyT P md ops Q n S (f + 1) listed a w :=
  ⟨fun h => absurd h hne, fun i hi => wpOp_mono (fun a' w' h' => ⟨fun hin => (by have h9 := List.all_eq_true.1 hl i hi; simp at h9; omega), h'⟩) (hd i hi)⟩
/-- What follows an operation: S shown (of the first n), then the rest. -/
def NextT (P : Program) (md : Region.Mode) (ops : Array Oper) (Q : Exit → Act → World → Prop) (n : Nat) (S : World → Prop) (f : Nat) (listed : Array Bool) (i : Nat) (a : Act) (w : World) : Prop :=
  ∀ K' : Act → World → Prop, Shut (∀ a w, (i < n → S w) → (S w → wpAnyT P md ops Q n S f (listed.setIfInBounds i true) a w) → (n ≤ i → wpAnyT P md ops Q n S f (listed.setIfInBounds i true) a w) → K' a w) → ∀ o, ops[i]? = some o → if Region.wanted o (yielded ops a.tmps) = true then Oper.wp P o a w K' Q else K' (a.put o.dst undef) w
theorem NextT.wpOp {f i : Nat} {listed : Array Bool} {a : Act} {w : World} {o : Oper} (ho : ops[i]? = some o) (h : NextT P md ops Q n S f listed i a w) :
    wpOp P ops Q i (fun a' w' => (i < n → S w') ∧ wpAnyT P md ops Q n S f (listed.setIfInBounds i true) a' w') a w :=
  wpOp_step ho fun K' hK => h K' (fun a w h1 h2 h3 => hK a w ⟨h1, by rcases Nat.lt_or_ge i n with hlt | hge; exact h2 (h1 hlt); exact h3 hge⟩) o ho
theorem wpAnyT_one {i : Nat} {f : Nat} {listed : Array Bool} {a : Act} {w : World} {o : Oper} (hr : Region.ready md ops listed = [i]) (ho : ops[i]? = some o) (h : NextT P md ops Q n S f listed i a w) : wpAnyT P md ops Q n S (f + 1) listed a w :=
  ⟨fun h0 => (by rw [hr] at h0; cases h0), fun j hj => by
    rw [hr] at hj
    obtain rfl := List.mem_singleton.1 hj
    exact h.wpOp ho⟩
theorem wpAnyT_two {i j : Nat} {f : Nat} {listed : Array Bool} {a : Act} {w : World} {o o' : Oper} (hr : Region.ready md ops listed = [i, j]) (ho : ops[i]? = some o) (ho' : ops[j]? = some o') (h : NextT P md ops Q n S f listed i a w) (h' : NextT P md ops Q n S f listed j a w) : wpAnyT P md ops Q n S (f + 1) listed a w :=
  ⟨fun h0 => (by rw [hr] at h0; cases h0), fun k hk => by
    rw [hr] at hk
    rcases List.mem_cons.1 hk with rfl | hk
    · exact h.wpOp ho
    · obtain rfl := List.mem_singleton.1 hk
      exact h'.wpOp ho'⟩
theorem wpAnyT_done {listed : Array Bool} {a : Act} {w : World} (hr : Region.ready md ops listed = []) (h : Q .normal a w) : ∀ f, wpAnyT P md ops Q n S f listed a w
  | 0 => ⟨hr, h⟩
  | _ + 1 => ⟨fun _ => h, by rw [hr]; simp⟩
theorem wpAnyT_of_any : ∀ (f : Nat) (listed : Array Bool) (a : Act) (w : World), (∀ i, i < n → listed.getD i true = true) → wpAny P md ops Q f listed a w → wpAnyT P md ops Q n S f listed a w
  | 0, _, _, _, _, h => h
  | f + 1, listed, a, w, hl, h => by
    refine ⟨h.1, fun i hi => wpOp_mono (fun a' w' h' => ⟨fun hin => ?_, wpAnyT_of_any f _ a' w' (fun j hj => ?_) h'⟩) (h.2 i hi)⟩
    · have h1 := (mem_ready.1 hi).1
      rw [hl i hin] at h1
      cases h1
    · by_cases hij : i = j
      · subst hij
        have h1 := (mem_ready.1 hi).1
        rw [hl i hj] at h1
        cases h1
      · rw [getD_set_ne true hij]; exact hl j hj
theorem wpAnyT_tail {f : Nat} {listed : Array Bool} {a : Act} {w : World} (hl : (List.range n).all (fun i => listed.getD i true) = true) (h : wpAny P md ops Q f listed a w) : wpAnyT P md ops Q n S f listed a w :=
  wpAnyT_of_any f listed a w (fun i hi => List.all_eq_true.1 hl i (List.mem_range.2 hi)) h
theorem wpAnyT_seq {l : List Oper} {k : Nat} {listed : Array Bool} {a : Act} {w : World} (hl : (List.range n).all (fun i => listed.getD i true) = true) (ho : ops.toList.drop k = l) (hB : Region.seqB md ops l.length k listed = true) (h : wpList P ops Q l a w) : wpAnyT P md ops Q n S l.length listed a w :=
  wpAnyT_tail hl (wpAny_of_seq l k listed a w (fun j => by rw [← ho]; simp [List.getElem?_drop]) hB h)
theorem wp_region_T {id : Nat} {a : Act} {w : World} (n : Nat) (S : World → Prop) (hm : P.follows .mixedOrders = true) (hS : S w.drew)
    (h : S w.drew → wpAnyT P .any ops Q n S ops.size (Array.replicate ops.size false) a w.drew) : (Code.region id ops true).wp P Q a w :=
  wp_region_any hm (wpAny_of_T _ _ _ _ (h hS))
end
end Go.Proofs.Ytlmpbmlbllndcaa
