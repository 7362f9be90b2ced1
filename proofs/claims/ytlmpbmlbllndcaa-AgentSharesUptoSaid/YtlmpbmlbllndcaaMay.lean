/-
  Subscriber.isRight, copies; Copies, Gets.
-/
import Derived.Test.YtlmpbmlbllndcaaMax
namespace Go.Proofs.Ytlmpbmlbllndcaa
open Go.RowKit
attribute [local go_sem] Oper.semAt_some

/-- A subscriber in memory. -/
def RSub (B : Nat) (w : World) (v : Value) (s : SubD) : Prop := ∃ u, v = .agg #[.int .i64 s.id, .int .i64 s.from_, .int .i64 s.to_, .int .i64 s.days, u] ∧ RSpans B w u s.hol
theorem RSub.below {B : Nat} {w w' : World} {v : Value} {s : SubD} (h : RSub B w v s) (hb : Below B w w') : RSub B w' v s := by
  obtain ⟨u, rfl, h⟩ := h
  exact ⟨u, rfl, Rd.below h hb⟩
theorem RSub.more {B B' : Nat} {w : World} {v : Value} {s : SubD} (h : RSub B w v s) (hB : B ≤ B') : RSub B' w v s := by
  obtain ⟨u, rfl, h⟩ := h
  exact ⟨u, rfl, Rd.more h hB⟩
/-- Whether a subscriber is allowed. -/
def subB (s : SubD) : Bool := ((inB s.id 0 1000000 && dayB s.from_ s.to_) && inB s.days 1 127) && holB s.hol
theorem subB_ok {s : SubD} (h : subB s = true) : s.Ok := by
  unfold subB holB at h
  simp only [Bool.and_eq_true, inB_iff, dayB_iff, decide_eq_true_eq] at h
  obtain ⟨⟨⟨h1, h2⟩, h3⟩, h4, h5⟩ := h
  exact ⟨h1, h2, h3, h4, holR_ok h5⟩
theorem subB_of {s : SubD} (h : s.Ok) : subB s = true := by
  unfold subB holB
  simp only [Bool.and_eq_true, inB_iff, dayB_iff, decide_eq_true_eq]
  exact ⟨⟨⟨h.id, h.from_⟩, h.days⟩, h.hol.1, holR_of (Int.le_refl _) h.hol.2⟩
set_option maxRecDepth 100000 in
set_option maxHeartbeats 4000000 in
theorem subRight_any (s : SubD) (v : Value) (w : World) (h : RSub w.heap.size w v s) : Calls Try.prog 89 #[v] w fun e w' => e = .returned (.bool (subB s)) ∧ Below w.heap.size w w' := by
  obtain ⟨u, rfl, hs⟩ := h
  obtain ⟨A, c, rfl, -, -⟩ := spans_later hs
  obtain ⟨n, hn⟩ : ∃ n, s.hol.length = n := ⟨_, rfl⟩
  rw [hn] at hs
  rw [hn]
  obtain ⟨id, hid⟩ : ∃ x, s.id = x := ⟨_, rfl⟩
  obtain ⟨fr, hfr⟩ : ∃ x, s.from_ = x := ⟨_, rfl⟩
  obtain ⟨to_, hto⟩ : ∃ x, s.to_ = x := ⟨_, rfl⟩
  obtain ⟨dy, hdy⟩ : ∃ x, s.days = x := ⟨_, rfl⟩
  obtain ⟨b1, hb1⟩ : ∃ b, inB id 0 1000000 = b := ⟨_, rfl⟩
  obtain ⟨b2, hb2⟩ : ∃ b, dayB fr to_ = b := ⟨_, rfl⟩
  obtain ⟨b3, hb3⟩ : ∃ b, inB dy 1 127 = b := ⟨_, rfl⟩
  obtain ⟨b4, hb4⟩ : ∃ b, holB s.hol = b := ⟨_, rfl⟩
  have HE : Hid (subB s = (((b1 && b2) && b3) && b4)) := by show _ = _; rw [← hb1, ← hb2, ← hb3, ← hb4, ← hid, ← hfr, ← hto, ← hdy]; rfl
  have F0 : ∃ W0, w.alloc (.cells #[.int .i64 id, .int .i64 fr, .int .i64 to_, .int .i64 dy, .slice A n c] 42) = W0 ∧ Hid (Below w.heap.size w W0) ∧ Hid (Blk W0 w.heap.size 42 #[.int .i64 id, .int .i64 fr, .int .i64 to_, .int .i64 dy, .slice A n c]) := ⟨_, rfl, below_alloc _ _, Blk.new _ _ _⟩
  obtain ⟨W0, e0, HB0, HK0⟩ := F0
  have E0 := Lib.hid e0
  have C1 := Lib.hid (fun w => within_any id 0 1000000 w)
  have C2 := Lib.hid (fun w => areDays_any fr to_ w)
  have C3 := Lib.hid (fun w => within_any dy 1 127 w)
  have C4 := Lib.hid (areHol_any s.hol (.slice A n c) W0 ((Rd.below hs HB0.out).more HB0.out.size))
  rw [hb1] at C1
  rw [hb2] at C2
  rw [hb3] at C3
  rw [hb4] at C4
  have z0 := cellOf HK0.out 0 (x := .int .i64 id) rfl
  have z1 := cellOf HK0.out 1 (x := .int .i64 fr) rfl
  have z2 := cellOf HK0.out 2 (x := .int .i64 to_) rfl
  have z3 := cellOf HK0.out 3 (x := .int .i64 dy) rfl
  have z4 := cellOf HK0.out 4 (x := .slice A n c) rfl
  rw [hid, hfr, hto, hdy]
  clear hs hn hid hfr hto hdy hb1 hb2 hb3 hb4 e0
  cases b1
  · go_enter Try.func89, Try.ntmps89
    go_upto_region 1 with fail
    rw [E0.out]
    go_wp2_with fail
    refine (C1.out _).mono ?_
    rintro _ _ ⟨rfl, rfl⟩
    go_wp2_with fail
    go_ret
    exact ⟨rb (HE.out.trans rfl), HB0.out⟩
  cases b2
  · go_enter Try.func89, Try.ntmps89
    go_upto_region 1 with fail
    rw [E0.out]
    go_wp2_with fail
    refine (C1.out _).mono ?_
    rintro _ _ ⟨rfl, rfl⟩
    go_wp2_with fail
    refine (C2.out _).mono ?_
    rintro _ _ ⟨rfl, rfl⟩
    go_wp2_with fail
    go_ret
    exact ⟨rb (HE.out.trans rfl), HB0.out⟩
  cases b3
  · go_enter Try.func89, Try.ntmps89
    go_upto_region 1 with fail
    rw [E0.out]
    go_wp2_with fail
    refine (C1.out _).mono ?_
    rintro _ _ ⟨rfl, rfl⟩
    go_wp2_with fail
    refine (C2.out _).mono ?_
    rintro _ _ ⟨rfl, rfl⟩
    go_wp2_with fail
    refine (C3.out _).mono ?_
    rintro _ _ ⟨rfl, rfl⟩
    go_wp2_with fail
    go_ret
    exact ⟨rb (HE.out.trans rfl), HB0.out⟩
  have HE2 : Hid (subB s = b4) := by show _ = _; rw [HE.out]; simp
  clear HE
  go_enter Try.func89, Try.ntmps89
  go_upto_region 1 with fail
  rw [E0.out]
  go_wp2_with fail
  refine (C1.out _).mono ?_
  rintro _ _ ⟨rfl, rfl⟩
  go_wp2_with fail
  refine (C2.out _).mono ?_
  rintro _ _ ⟨rfl, rfl⟩
  go_wp2_with fail
  refine (C3.out _).mono ?_
  rintro _ _ ⟨rfl, rfl⟩
  go_wp2_with fail
  refine C4.out.mono ?_
  rintro _ W1 ⟨rfl, hb⟩
  have HBW : Hid (Below w.heap.size w W1) := HB0.out.trans (hb.mono HB0.out.size)
  clear hb z0 z1 z2 z3 z4 C4
  go_wp2_with fail
  go_ret
  exact ⟨rb HE2.out, HBW.out⟩
theorem copF_bd (s : SubD) {a b : Int} (ha : 0 ≤ a) (hb : b ≤ 20000) : ∀ k, k ≤ 20 → -30000 * (k + 1) ≤ copF s a b k ∧ copF s a b k ≤ 30000 * (k + 1)
  | 0, _ => by
    have := wkF_bd s.days (max a s.from_) (min b s.to_) (by omega) (by omega)
    show _ ≤ wkF _ _ _ ∧ wkF _ _ _ ≤ _
    omega
  | k + 1, h => by
    have h1 := copF_bd s ha hb k (by omega)
    have h2 := wkF_bd s.days (max (max a s.from_) ((s.hol[k]?).map SpanD.lo |>.getD 0)) (min (min b s.to_) ((s.hol[k]?).map SpanD.hi |>.getD 0)) (by omega) (by omega)
    show _ ≤ copF s a b k - wkF _ _ _ ∧ copF s a b k - wkF _ _ _ ≤ _
    push_cast
    omega
end Go.Proofs.Ytlmpbmlbllndcaa
