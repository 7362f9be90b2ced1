/-
  The iterator of batches: its contract.
-/
import Derived.Test.YtpkepacbondopaaLj
import Derived.Test.YtpkepacbondopaaMb
namespace Go.Proofs.Ytpkepacbondopaa
open Go.RowKit Go.Shelf
attribute [local go_sem] Oper.semAt_some

/-- A week up to which an order can be. -/
abbrev Bt (s : SupD) (a : Nat) := { e : Nat // a < e ∧ e ≤ s.need.length }
def bt (s : SupD) (a : Nat) (ha : a < s.need.length) (e : Nat) : Bt s a := if h : a < e ∧ e ≤ s.need.length then ⟨e, h⟩ else ⟨s.need.length, ha, Nat.le_refl _⟩
theorem bt_val {s : SupD} {a : Nat} {ha : a < s.need.length} {e : Nat} (h : a < e ∧ e ≤ s.need.length) : (bt s a ha e).1 = e := by unfold bt; rw [dif_pos h]
def okE (s : SupD) (a e : Nat) : Bool := decide (s.kept a (e - a - 1) ≤ s.room)
def costE (s : SupD) (a e : Nat) : Int := s.cost a (e - a - 1)
def batchesTo (s : SupD) (a : Nat) (ha : a < s.need.length) (q : Nat) : List (Bt s a) :=
  (if okE s a s.need.length then [bt s a ha s.need.length] else []) ++ ((List.range (q - a - 1)).filter fun j => okE s a (a + 1 + j)).map fun j => bt s a ha (a + 1 + j)
theorem batchesTo_yes {s : SupD} {a : Nat} {ha : a < s.need.length} {q : Nat} (hq : a < q) (h : okE s a q = true) : batchesTo s a ha (q + 1) = batchesTo s a ha q ++ [bt s a ha q] := by
  obtain ⟨k, rfl⟩ : ∃ k, q = a + 1 + k := ⟨q - a - 1, by omega⟩
  unfold batchesTo
  rw [show a + 1 + k + 1 - a - 1 = k + 1 by omega, show a + 1 + k - a - 1 = k by omega, List.range_succ, List.filter_append, List.map_append, List.append_assoc]
  simp [h]
theorem batchesTo_no {s : SupD} {a : Nat} {ha : a < s.need.length} {q : Nat} (hq : a < q) (h : okE s a q = false) : batchesTo s a ha (q + 1) = batchesTo s a ha q := by
  obtain ⟨k, rfl⟩ : ∃ k, q = a + 1 + k := ⟨q - a - 1, by omega⟩
  unfold batchesTo
  rw [show a + 1 + k + 1 - a - 1 = k + 1 by omega, show a + 1 + k - a - 1 = k by omega, List.range_succ, List.filter_append, List.map_append]
  simp [h]
theorem batchesTo_pre {s : SupD} {a : Nat} {ha : a < s.need.length} {q : Nat} : ∀ d, a < q → batchesTo s a ha q <+: batchesTo s a ha (q + d)
  | 0, _ => List.prefix_refl _
  | d + 1, hq => by
    have h1 := batchesTo_pre (s := s) (ha := ha) d hq
    cases h : okE s a (q + d)
    · rw [← Nat.add_assoc, batchesTo_no (by omega) h]; exact h1
    · rw [← Nat.add_assoc, batchesTo_yes (by omega) h]; exact h1.trans (List.prefix_append _ _)
theorem batchesTo_start {s : SupD} {a : Nat} {ha : a < s.need.length} : batchesTo s a ha (a + 1) = if okE s a s.need.length then [bt s a ha s.need.length] else [] := by
  unfold batchesTo
  rw [show a + 1 - a - 1 = 0 by omega]
  simp
theorem batchesTo_len {s : SupD} {a : Nat} {ha : a < s.need.length} {q : Nat} : (batchesTo s a ha q).length ≤ 1 + (q - a - 1) := by
  unfold batchesTo
  rw [List.length_append, List.length_map]
  have h1 := List.length_filter_le (fun j => okE s a (a + 1 + j)) (List.range (q - a - 1))
  rw [List.length_range] at h1
  split <;> simp <;> omega
/-- What a round keeps: what lay below n₀, and the two boxes. -/
def KpB (n₀ Bs Bi : Nat) (W W' : World) : Prop := Below n₀ W W' ∧ W'.heap[Bs]? = W.heap[Bs]? ∧ W'.heap[Bi]? = W.heap[Bi]?
theorem KpB.refl (n₀ Bs Bi : Nat) (W : World) : KpB n₀ Bs Bi W W := ⟨Below.refl _ _, rfl, rfl⟩
theorem KpB.trans {n₀ Bs Bi : Nat} {A B C : World} (h : KpB n₀ Bs Bi A B) (k : KpB n₀ Bs Bi B C) : KpB n₀ Bs Bi A C := ⟨h.1.trans k.1, k.2.1.trans h.2.1, k.2.2.trans h.2.2⟩
theorem KpB.of_below {n₀ Bs Bi : Nat} {A B : World} (h : Below A.heap.size A B) (hn : n₀ ≤ A.heap.size) (h1 : Bs < A.heap.size) (h2 : Bi < A.heap.size) : KpB n₀ Bs Bi A B := ⟨⟨h.os, h.tape, h.output, h.size, fun k hk => h.block k (by omega)⟩, h.block Bs h1, h.block Bi h2⟩
theorem KpB.putObj {n₀ Bs Bi : Nat} {w0 : World} (hB : n₀ ≤ w0.heap.size) (h1 : Bs < w0.heap.size) (h2 : Bi < w0.heap.size) (W : World) (l : Nat) (o o' : Obj) (hl : w0.heap.size ≤ l) (ho : W.heap[l]? = some o) (hc : o.isCells = false) (hw : o.isWalk = false) : KpB n₀ Bs Bi W (W.putObj l o') :=
  ⟨belowK_b hB W l o o' hl ho hc hw, World.putObj_heap_other (by omega), World.putObj_heap_other (by omega)⟩

set_option maxRecDepth 100000 in
set_option maxHeartbeats 4000000 in
theorem batches_stops (n : Nat) (hn : 3 ≤ n) (s : SupD) (hs : s.Ok) (a : Nat) (ha : a < s.need.length) (An Ao : Option Addr) (ca cb : Nat) (Bs Bi n₀ : Nat) (w : World) (hBs : Blk w Bs 33 #[.slice An s.need.length ca, .slice Ao s.need.length cb, .int .i64 s.keep, .int .i64 s.room]) (hBi : Blk w Bi 3 #[.int .i64 (a : Int)]) (hn₀ : n₀ ≤ w.heap.size)
    (hr : RSup n₀ w (.agg #[.slice An s.need.length ca, .slice Ao s.need.length cb, .int .i64 s.keep, .int .i64 s.room]) s) :
    SeqStopsK Fence.wide n Try.prog 132 #[.pointer (some ⟨Bs, 0, none⟩), .pointer (some ⟨Bi, 0, none⟩)] (fun y : Bt s a => #[.int .i64 (y.1 : Int), .int .i64 (costE s a y.1)]) (KpB n₀ Bs Bi) (fun ys => ys = batchesTo s a ha s.need.length) (fun pre => pre <+: batchesTo s a ha s.need.length) 21 w := by
  intro l J Jx W hW hJ hJx hY h0
  have hKs : Blk W Bs 33 _ := hBs.below hW hBs.lt
  have hKi : Blk W Bi 3 _ := hBi.below hW hBi.lt
  have HrW := Lib.hid (RSup.below hr (hW.mono hn₀))
  have hW9 : n₀ ≤ W.heap.size := Nat.le_trans hn₀ hW.size
  have HKs := Lib.hid hKs
  have HKi := Lib.hid hKi
  have HY := Lib.hid hY
  have HS := Lib.hid hs
  have hw20 := hs.weeks
  have H0 : Hid (J [] W) := h0
  have hAb : Hid (∀ s X Y, J s X → Below X.heap.size X Y → J s Y) := fun s X Y hs hb => hJ s X Y none hs (grownBy_below hb none) (fun r e => by cases e)
  have HBat : Hid (∀ e X, a < e → e ≤ s.need.length → KpB n₀ Bs Bi W X → Calls Try.prog 90 #[.agg #[.slice An s.need.length ca, .slice Ao s.need.length cb, .int .i64 s.keep, .int .i64 s.room], .int .i64 (a : Int), .int .i64 (e : Int)] X fun r w' => r = .returned (.tuple #[.int .i64 (costE s a e), .bool (okE s a e)]) ∧ Hid (Below X.heap.size X w')) := fun e X h1 h2 hX => by
    refine (batch_any s hs a e h1 h2 _ X (RSup.more (HrW.out.below hX.1) (Nat.le_trans hW9 hX.1.size))).mono ?_
    rintro r w' ⟨rfl, hb⟩
    exact ⟨rfl, hb⟩
  have hzs : Bs < W.heap.size := hKs.lt
  have hzi : Bi < W.heap.size := hKi.lt
  have HCells : Hid (∀ X, KpB n₀ Bs Bi W X → (X.cell? ⟨Bs, 0, none⟩ = some (.slice An s.need.length ca) ∧ X.cell? ⟨Bs, 1, none⟩ = some (.slice Ao s.need.length cb) ∧ X.cell? ⟨Bs, 2, none⟩ = some (.int .i64 s.keep) ∧ X.cell? ⟨Bs, 3, none⟩ = some (.int .i64 s.room)) ∧ X.cell? ⟨Bi, 0, none⟩ = some (.int .i64 (a : Int))) := fun X hX => by
    have q1 : Blk X Bs 33 _ := hX.2.1.trans HKs.out
    have q2 : Blk X Bi 3 _ := hX.2.2.trans HKi.out
    exact ⟨⟨cellOf q1 0 rfl, cellOf q1 1 rfl, cellOf q1 2 rfl, cellOf q1 3 rfl⟩, cellOf q2 0 rfl⟩
  obtain ⟨m, hm⟩ : ∃ m, s.need.length = m := ⟨_, rfl⟩
  have Hm := Lib.hid hm
  have ham : a < m := by omega
  obtain ⟨⟨s0, s1, s2, s3⟩, i0⟩ := HCells.out W (KpB.refl _ _ _ _)
  rw [hm] at s0 s1 HCells HBat hw20
  have C1 := Lib.hid (HBat.out m W ham (Nat.le_refl _) (KpB.refl _ _ _ _))
  obtain ⟨b0, hb0⟩ : ∃ b, okE s a m = b := ⟨_, rfl⟩
  rw [hb0] at C1
  have Hb0 := Lib.hid hb0
  clear hm hKs hKi hY hs h0 hJ hJx hBs hBi hr hW hb0
  refine callsIn_of_wp Try.func132 rfl trivial ?_ rfl
  simp only [Try.ntmps132, List.size_toArray, List.length_cons, List.length_nil, Nat.reduceAdd, Nat.reduceSub, Array.replicate_succ, Array.replicate_zero, List.push_toArray, List.append_toArray, List.nil_append, List.cons_append]
  gi_wp2_with fail
  refine ⟨trivial, fun _ => by omega, (callsIn_wide.2 C1.out).mono ?_⟩
  rintro _ W1 ⟨rfl, hb1⟩
  have HK1 : Hid (KpB n₀ Bs Bi W W1) := KpB.of_below hb1.out hW9 hzs hzi
  have HJ1 : Hid (J [] W1) := hAb.out _ _ _ H0.out hb1.out
  clear hb1 C1 H0 s0 s1 s2 s3 i0
  cases b0
  · have HJ2 : Hid (J (batchesTo s a ha (a + 1)) W1) := by show J _ _; rw [batchesTo_start, Hm.out, Hb0.out]; exact HJ1.out
    have HK2 := HK1
    clear HJ1 HK1
    obtain ⟨⟨s0, s1, s2, s3⟩, i0⟩ := HCells.out W1 HK2.out
    gi_wp2_with fail
    refine ⟨fun _ h => (by cases h), ?_⟩
    gi_wp2_with fail
    clear s0 s1 s2 s3 i0
    gi_loopw [7] (fun i wr => ∃ q : Nat, a < q ∧ q ≤ m ∧ i = .int .i64 (q : Int) ∧ Hid (J (batchesTo s a ha q) wr) ∧ Hid (KpB n₀ Bs Bi W wr)) (fun i _ => m - (intOf i).toNat)
    case atStart => exact ⟨a + 1, by omega, by omega, by go_num, HJ2, HK2⟩
    case round =>
    clear HJ2 HK2
    obtain ⟨q, hq1, hq2, rfl, hJq, hKq⟩ := hrel
    by_cases hlt : q < m
    case neg =>
      have hfin : Hid (∃ ys, ys = batchesTo s a ha s.need.length ∧ J ys wr) := ⟨_, rfl, by rw [Hm.out, ← show q = m by omega]; exact hJq.out⟩
      gi_wp2
      go_end0
      exact ⟨⟨_, rfl⟩, .inl hfin.out⟩
    have hS := HCells.out wr hKq.out
    obtain ⟨⟨s0, s1, s2, s3⟩, i0⟩ := hS
    have CB := HBat.out q wr hq1 (by omega) hKq.out
    obtain ⟨b1, hb1⟩ : ∃ b, okE s a q = b := ⟨_, rfl⟩
    rw [hb1] at CB
    have CB := Lib.hid CB
    have Hb1 := Lib.hid hb1
    clear hb1
    gi_wp2_with fail
    refine ⟨trivial, fun _ => by omega, (callsIn_wide.2 CB.out).mono ?_⟩
    rintro _ W5 ⟨rfl, hb5⟩
    have hzr : W.heap.size ≤ wr.heap.size := hKq.out.1.size
    have HK5 : Hid (KpB n₀ Bs Bi W W5) := hKq.out.trans (KpB.of_below hb5.out (by omega) (by omega) (by omega))
    have HJ5 : Hid (J (batchesTo s a ha q) W5) := hAb.out _ _ _ hJq.out hb5.out
    clear hb5 CB hJq hKq s0 s1 s2 s3 i0
    cases b1
    · have HJ6 : Hid (J (batchesTo s a ha (q + 1)) W5) := by show J _ _; rw [batchesTo_no hq1 Hb1.out]; exact HJ5.out
      clear HJ5
      gi_wp2_with fail
      refine ⟨fun _ h => (by cases h), ?_⟩
      gi_wp2_with fail
      go_roundw
      case rel => exact ⟨q + 1, by omega, by omega, by go_num, HJ6, HK5⟩
      case measure => simp [intOf]; omega
    · obtain ⟨fn, tmps, assign, body, hy, hR⟩ := HY.out (batchesTo s a ha q) (bt s a ha q) W5 HJ5.out (by have := batchesTo_len (s := s) (ha := ha) (q := q); omega)
      rw [bt_val ⟨hq1, by rw [Hm.out]; omega⟩] at hy
      gi_wp2_with fail
      refine ⟨fun _ => by omega, hR.mono ?_⟩
      rintro e W6 (⟨rfl, hJ6, hb6⟩ | ⟨rfl, hJx6⟩)
      · have HJ7 : Hid (J (batchesTo s a ha (q + 1)) W6) := by show J _ W6; rw [batchesTo_yes hq1 Hb1.out]; exact hJ6
        have HK7 : Hid (KpB n₀ Bs Bi W W6) := HK5.out.trans hb6
        clear hJ6 hb6 HK5 HJ5 hy hR
        gi_wp2_with fail
        go_roundw
        case rel => exact ⟨q + 1, by omega, by omega, by go_num, HJ7, HK7⟩
        case measure => simp [intOf]; omega
      · have HX : Hid (∃ pre, pre <+: batchesTo s a ha s.need.length ∧ Jx pre W6) := ⟨_, by
          rw [← batchesTo_yes hq1 Hb1.out, Hm.out]
          have := batchesTo_pre (s := s) (ha := ha) (q := q + 1) (m - (q + 1)) (by omega)
          rwa [show q + 1 + (m - (q + 1)) = m by omega] at this, hJx6⟩
        clear hJx6 hy hR
        gi_wp2
        refine bodyPost_ret (results_none rfl _ _ _) rfl ?_
        exact ⟨⟨_, rfl⟩, .inr HX.out⟩
  · obtain ⟨fn, tmps, assign, body, hy, hR⟩ := HY.out [] (bt s a ha m) W1 HJ1.out (by simp)
    rw [bt_val ⟨ham, by rw [Hm.out]; exact Nat.le_refl _⟩] at hy
    gi_wp2_with fail
    refine ⟨fun _ => by omega, hR.mono ?_⟩
    rintro e W2 (⟨rfl, hJ4, hb4⟩ | ⟨rfl, hJx4⟩)
    · have HJ2 : Hid (J (batchesTo s a ha (a + 1)) W2) := by show J _ W2; rw [batchesTo_start, Hm.out, Hb0.out]; exact hJ4
      have HK2 : Hid (KpB n₀ Bs Bi W W2) := HK1.out.trans hb4
      clear hJ4 hb4 HJ1 HK1 hy hR
      obtain ⟨⟨s0, s1, s2, s3⟩, i0⟩ := HCells.out W2 HK2.out
      gi_wp2_with fail
      clear s0 s1 s2 s3 i0
      gi_loopw [7] (fun i wr => ∃ q : Nat, a < q ∧ q ≤ m ∧ i = .int .i64 (q : Int) ∧ Hid (J (batchesTo s a ha q) wr) ∧ Hid (KpB n₀ Bs Bi W wr)) (fun i _ => m - (intOf i).toNat)
      case atStart => exact ⟨a + 1, by omega, by omega, by go_num, HJ2, HK2⟩
      case round =>
      clear HJ2 HK2
      obtain ⟨q, hq1, hq2, rfl, hJq, hKq⟩ := hrel
      by_cases hlt : q < m
      case neg =>
        have hfin : Hid (∃ ys, ys = batchesTo s a ha s.need.length ∧ J ys wr) := ⟨_, rfl, by rw [Hm.out, ← show q = m by omega]; exact hJq.out⟩
        gi_wp2
        go_end0
        exact ⟨⟨_, rfl⟩, .inl hfin.out⟩
      have hS := HCells.out wr hKq.out
      obtain ⟨⟨s0, s1, s2, s3⟩, i0⟩ := hS
      have CB := HBat.out q wr hq1 (by omega) hKq.out
      obtain ⟨b1, hb1⟩ : ∃ b, okE s a q = b := ⟨_, rfl⟩
      rw [hb1] at CB
      have CB := Lib.hid CB
      have Hb1 := Lib.hid hb1
      clear hb1
      gi_wp2_with fail
      refine ⟨trivial, fun _ => by omega, (callsIn_wide.2 CB.out).mono ?_⟩
      rintro _ W5 ⟨rfl, hb5⟩
      have hzr : W.heap.size ≤ wr.heap.size := hKq.out.1.size
      have HK5 : Hid (KpB n₀ Bs Bi W W5) := hKq.out.trans (KpB.of_below hb5.out (by omega) (by omega) (by omega))
      have HJ5 : Hid (J (batchesTo s a ha q) W5) := hAb.out _ _ _ hJq.out hb5.out
      clear hb5 CB hJq hKq s0 s1 s2 s3 i0
      cases b1
      · have HJ6 : Hid (J (batchesTo s a ha (q + 1)) W5) := by show J _ _; rw [batchesTo_no hq1 Hb1.out]; exact HJ5.out
        clear HJ5
        gi_wp2_with fail
        refine ⟨fun _ h => (by cases h), ?_⟩
        gi_wp2_with fail
        go_roundw
        case rel => exact ⟨q + 1, by omega, by omega, by go_num, HJ6, HK5⟩
        case measure => simp [intOf]; omega
      · obtain ⟨fn, tmps, assign, body, hy, hR⟩ := HY.out (batchesTo s a ha q) (bt s a ha q) W5 HJ5.out (by have := batchesTo_len (s := s) (ha := ha) (q := q); omega)
        rw [bt_val ⟨hq1, by rw [Hm.out]; omega⟩] at hy
        gi_wp2_with fail
        refine ⟨fun _ => by omega, hR.mono ?_⟩
        rintro e W6 (⟨rfl, hJ6, hb6⟩ | ⟨rfl, hJx6⟩)
        · have HJ7 : Hid (J (batchesTo s a ha (q + 1)) W6) := by show J _ W6; rw [batchesTo_yes hq1 Hb1.out]; exact hJ6
          have HK7 : Hid (KpB n₀ Bs Bi W W6) := HK5.out.trans hb6
          clear hJ6 hb6 HK5 HJ5 hy hR
          gi_wp2_with fail
          go_roundw
          case rel => exact ⟨q + 1, by omega, by omega, by go_num, HJ7, HK7⟩
          case measure => simp [intOf]; omega
        · have HX : Hid (∃ pre, pre <+: batchesTo s a ha s.need.length ∧ Jx pre W6) := ⟨_, by
            rw [← batchesTo_yes hq1 Hb1.out, Hm.out]
            have := batchesTo_pre (s := s) (ha := ha) (q := q + 1) (m - (q + 1)) (by omega)
            rwa [show q + 1 + (m - (q + 1)) = m by omega] at this, hJx6⟩
          clear hJx6 hy hR
          gi_wp2
          refine bodyPost_ret (results_none rfl _ _ _) rfl ?_
          exact ⟨⟨_, rfl⟩, .inr HX.out⟩
    · have HX : Hid (∃ pre, pre <+: batchesTo s a ha s.need.length ∧ Jx pre W2) := ⟨_, by
        have h1 := batchesTo_pre (s := s) (ha := ha) (q := a + 1) (m - (a + 1)) (by omega)
        rw [show a + 1 + (m - (a + 1)) = m by omega, batchesTo_start, Hm.out, Hb0.out] at h1
        rw [Hm.out]
        exact h1, hJx4⟩
      clear hJx4 hy hR
      gi_wp2
      refine bodyPost_ret (results_none rfl _ _ _) rfl ?_
      exact ⟨⟨_, rfl⟩, .inr HX.out⟩
end Go.Proofs.Ytpkepacbondopaa
