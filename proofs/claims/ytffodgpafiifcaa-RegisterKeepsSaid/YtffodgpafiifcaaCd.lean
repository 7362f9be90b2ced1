/-
  A control at work: newControl, decide, delay; its queue.
-/
import Derived.Test.YtffodgpafiifcaaCc
namespace Go.Proofs.Ytffodgpafiifcaa
open Go.RowKit

/-- All blocks that lay there lie as they lay, but those of S. -/
structure KeptBut (S : Nat → Prop) (w w' : World) : Prop where
  os : w'.os = w.os
  tape : w'.tape = w.tape
  output : w'.output = w.output
  size : w.heap.size ≤ w'.heap.size
  block : ∀ k, k < w.heap.size → ¬ S k → w'.heap[k]? = w.heap[k]?
section
variable {S T : Nat → Prop} {w w' w'' : World}
theorem KeptBut.refl (S : Nat → Prop) (w : World) : KeptBut S w w := ⟨rfl, rfl, rfl, Nat.le_refl _, fun _ _ _ => rfl⟩
theorem KeptBut.below (h : KeptBut S w w') {B : Nat} (hS : ∀ k, S k → B ≤ k) (hB : B ≤ w.heap.size) : Below B w w' := ⟨h.os, h.tape, h.output, h.size, fun k hk => h.block k (by omega) fun hs => by have := hS k hs; omega⟩
theorem KeptBut.grown {row : Option Nat} (h : w.grownBy w' row) (hS : ∀ k, some k = row → S k) : KeptBut S w w' := ⟨h.os, h.tape, h.output, h.size, fun k hk hs => h.block k hk fun e => hs (hS k e)⟩
theorem KeptBut.of_below (h : Below w.heap.size w w') : KeptBut S w w' := ⟨h.os, h.tape, h.output, h.size, fun k hk _ => h.block k hk⟩
theorem KeptBut.setCell {p : Addr} (h : S p.block) (u : Value) : KeptBut S w (w.setCell p u) := ⟨rfl, rfl, rfl, by simp [World.setCell], fun k _ hs => Below.heap_setCell _ _ _ _ fun e => hs (e ▸ h)⟩
theorem KeptBut.trans (h : KeptBut S w w') (k : KeptBut T w' w'') (hT : ∀ i, i < w.heap.size → T i → S i) : KeptBut S w w'' :=
  ⟨k.os.trans h.os, k.tape.trans h.tape, k.output.trans h.output, Nat.le_trans h.size k.size, fun i hi hs => (k.block i (Nat.lt_of_lt_of_le hi h.size) fun ht => hs (hT i hi ht)).trans (h.block i hi hs)⟩
theorem KeptBut.mono (h : KeptBut S w w') (hT : ∀ i, i < w.heap.size → S i → T i) : KeptBut T w w' := ⟨h.os, h.tape, h.output, h.size, fun k hk hs => h.block k hk fun e => hs (hT k hk e)⟩
theorem KeptBut.blk (h : KeptBut S w w') {b : Nat} {t : TypeId} {cs : Array Value} (hB : Blk w b t cs) (hs : ¬ S b) : Blk w' b t cs := (h.block b hB.lt hs).trans hB
end

/-- At the operation. -/
theorem wp_append_q {P : Program} (w : World) {o : Oper} {a : Act} {K : Act → World → Prop} {Q : Exit → Act → World → Prop} (s x : Operand) (t : TypeId)
    (ho : o.op = .call { callee := .builtin .append, args := #[s, x], argTypes := #[t, t] })
    (base : Nat) (e : TypeId) (i : TypeInfo) (z : Value) (bytes : Nat) (ht : P.underlying t = some (.slice e)) (hi : P.info? e = some i) (hz : i.zero = some z)
    (hsize : i.size = 1) (hby : i.bytes = bytes) (hzs : z.cells.size = 1)
    (v : Value) (n : Nat) (xs : List Value) (hs : a.eval s = v) (hown : QRow base e w v n xs)
    (ad : Addr) (c : Nat) (u : Value) (hx : a.eval x = .slice (some ad) 1 c) (hu : w.cell? ad = some u) (h1 : u.oneCell' = true)
    (h63 : n + 1 ≤ maxLen) (hbytes : (n + 1) * bytes ≤ 140737488355328) (hbase : base ≤ w.heap.size)
    (h : ∀ g o' cap w', QRow base e w' (.slice (some ⟨g, o', none⟩) (n + 1) cap) (n + 1) (xs ++ [u]) → w.grownBy w' v.ownBlock → (v.ownBlock = some g ∨ w.heap.size ≤ g) → K (a.put o.dst (.slice (some ⟨g, o', none⟩) (n + 1) cap)) w') : o.wp P a w K Q := by
  obtain ⟨v', w', hr, h2, h3, h4, g, o', cap, rfl⟩ := run_append_q (P := P) w t o.type base e i z bytes ht hi hz hsize hby hzs v n xs hown ad c u hu h1 h63 hbytes hbase
  unfold Oper.wp execOp
  simp only [ho, resolve, invoke, builtin, Sem.run_bind, Sem.run_pure, Result.andThen_ok, List.map_toArray, List.map_cons, List.map_nil, hs, hx, hr]
  refine h g o' cap w' h2 h3 ?_
  rcases h4 with h4 | ⟨k, h4, h5⟩
  · exact .inl h4.symm
  · obtain rfl : g = k := by simpa [Value.ownBlock] using h4
    exact .inr h5
theorem wpList_append_q {P : Program} (w : World) {ops : Array Oper} {rest : List Oper} {o : Oper} {a : Act} {Q : Exit → Act → World → Prop} (hgd : o.guard = none) (s x : Operand) (t : TypeId)
    (ho : o.op = .call { callee := .builtin .append, args := #[s, x], argTypes := #[t, t] })
    (base : Nat) (e : TypeId) (i : TypeInfo) (z : Value) (bytes : Nat) (ht : P.underlying t = some (.slice e)) (hi : P.info? e = some i) (hz : i.zero = some z)
    (hsize : i.size = 1) (hby : i.bytes = bytes) (hzs : z.cells.size = 1)
    (v : Value) (n : Nat) (xs : List Value) (hs : a.eval s = v) (hown : QRow base e w v n xs)
    (ad : Addr) (c : Nat) (u : Value) (hx : a.eval x = .slice (some ad) 1 c) (hu : w.cell? ad = some u) (h1 : u.oneCell' = true)
    (h63 : n + 1 ≤ maxLen) (hbytes : (n + 1) * bytes ≤ 140737488355328) (hbase : base ≤ w.heap.size)
    (h : ∀ g o' cap w', QRow base e w' (.slice (some ⟨g, o', none⟩) (n + 1) cap) (n + 1) (xs ++ [u]) → w.grownBy w' v.ownBlock → (v.ownBlock = some g ∨ w.heap.size ≤ g) → wpList P ops Q rest (a.put o.dst (.slice (some ⟨g, o', none⟩) (n + 1) cap)) w') : wpList P ops Q (o :: rest) a w :=
  wpList_plain hgd fun _ hK => wp_append_q w s x t ho base e i z bytes ht hi hz hsize hby hzs v n xs hs hown ad c u hx hu h1 h63 hbytes hbase fun g o' cap w' h2 h3 h4 => hK _ _ (h g o' cap w' h2 h3 h4)

/-- A control in its block, with its queue. -/
def ctlCells (l : LoopD) (v : Value) : Array Value := #[.int .i64 l.dead, .int .i64 l.noise, .int .i64 l.blur, .int .i64 l.step, v]
def Ctl (base : Nat) (w : World) (C : Nat) (l : LoopD) (v : Value) (q : List Int) : Prop :=
  base ≤ C ∧ Blk w C 123 (ctlCells l v) ∧ QRow base 3 w v q.length (q.map (Value.int .i64))
/-- What a call on a control leaves: nothing else is written. -/
def CtlKept (C : Nat) (v v' : Value) (w w' : World) : Prop := KeptBut (fun k => k = C ∨ some k = v.ownBlock) w w' ∧ (v'.ownBlock = v.ownBlock ∨ ∃ k, v'.ownBlock = some k ∧ w.heap.size ≤ k)
def CtlRet (base C : Nat) (l : LoopD) (v : Value) (q : List Int) (w : World) (r : Value → Prop) (e : Ending) (w' : World) : Prop := ∃ u v', e = .returned u ∧ r u ∧ Ctl base w' C l v' q ∧ CtlKept C v v' w w'

section
variable {base C : Nat} {w w' : World} {l : LoopD} {v : Value} {q : List Int}
theorem Ctl.keep (h : Ctl base w C l v q) (hb : KeptBut (fun k => k ≠ C ∧ some k ≠ v.ownBlock ∧ base ≤ k) w w') : Ctl base w' C l v q :=
  ⟨h.1, hb.blk h.2.1 (fun e => e.1 rfl), h.2.2.keep fun g cs hg hB => hb.blk hB fun e => e.2.1 hg.symm⟩
theorem Ctl.below (h : Ctl base w C l v q) (hb : Below w.heap.size w w') : Ctl base w' C l v q := ⟨h.1, h.2.1.below hb h.2.1.lt, h.2.2.below hb⟩
end

set_option maxHeartbeats 1000000 in
set_option maxRecDepth 100000 in
theorem put_any (base C : Nat) (l : LoopD) (v : Value) (q : List Int) (x : Int) (w : World) (h : Ctl base w C l v q) (hq : q.length ≤ 100000) :
    Calls Try.prog 61 #[.pointer (some ⟨C, 4, none⟩), .int .i64 x] w (CtlRet base C l v (q ++ [x]) w fun _ => True) := by
  obtain ⟨hbC, hB, hQ⟩ := h
  obtain ⟨i0, hi, hz0, hz1, hz2⟩ := info_parts infoInt0
  have c4 := cellOf hB 4 (x := v) rfl
  have HQ := Lib.hid hQ
  have HB := Lib.hid hB
  have hlt := hB.lt
  have hbz : base ≤ w.heap.size + 1 := by omega
  obtain ⟨A, c, rfl⟩ := hQ.form
  have HN := Lib.hid (hQ.other hB (by decide))
  have HC := Lib.hid hbC
  have HG : Hid (∀ w1, (w.alloc (.cells #[.int .i64 x] 3)).grownBy w1 (Value.slice A q.length c).ownBlock → Blk w1 C 123 (ctlCells l (.slice A q.length c))) := fun w1 hg =>
    (hg.block C (by simp; omega) HN.out).trans (hB.alloc _)
  clear hB hQ hbC
  go_enter Try.func61, Try.ntmps61
  go_wp2_with (at_builtin; refine wpList_append_q _ rfl _ _ 24 rfl base 3 i0 _ 8 sliceInts hi hz0 hz1 hz2 rfl (.slice A q.length c) q.length (q.map (Value.int .i64)) rfl (HQ.out.alloc _) ⟨w.heap.size, 0, none⟩ 1 (.int .i64 x) rfl (by simp) (by simp [Value.oneCell']) (by simp only [maxLen]; omega) (by omega) (by simp; omega) ?_; intro g o' cap w1 hown hgrow hat; have B1 := HG.out w1 hgrow; have p4 := cellOf B1 4 (x := .slice A q.length c) rfl; have f4 := B1.frozen 4)
  have hS : CtlRet base C l (.slice A q.length c) (q ++ [x]) w (fun _ => True) (.returned (.tuple #[])) (w1.setCell ⟨C, 4, none⟩ (.slice (some ⟨g, o', none⟩) (q.length + 1) cap)) := by
    refine ⟨_, .slice (some ⟨g, o', none⟩) (q.length + 1) cap, rfl, trivial, ⟨HC.out, B1.put 4 _, ?_⟩, ?_, ?_⟩
    · have := hown.set_other B1 (by decide) 4 (.slice (some ⟨g, o', none⟩) (q.length + 1) cap)
      rw [List.length_append, List.map_append]
      exact this
    · refine KeptBut.trans (T := fun k => k = C ∨ some k = (Value.slice A q.length c).ownBlock) ((KeptBut.of_below (below_alloc w _)).trans (KeptBut.grown (S := fun k => k = C ∨ some k = (Value.slice A q.length c).ownBlock) hgrow fun k hk => .inr hk) fun i _ hi => hi) (KeptBut.setCell (.inl rfl) _) fun i _ hi => hi
    · rcases hat with hat | hat
      · exact .inl hat.symm
      · exact .inr ⟨g, rfl, by simp at hat; omega⟩
  have HS := Lib.hid hS
  clear hS hown hgrow hat B1 p4 f4
  go_end0
  exact HS.out

set_option maxRecDepth 100000 in
set_option maxHeartbeats 1000000 in
theorem take_any (base C : Nat) (l : LoopD) (v : Value) (x : Int) (q : List Int) (w : World) (h : Ctl base w C l v (x :: q)) (hq : q.length ≤ 100000) :
    Calls Try.prog 62 #[.pointer (some ⟨C, 4, none⟩)] w (CtlRet base C l v q w fun u => u = .int .i64 x) := by
  obtain ⟨hbC, hB, hQ⟩ := h
  have c4 := cellOf hB 4 (x := v) rfl
  have f4 := hB.frozen 4
  obtain ⟨A, c, rfl⟩ := hQ.form
  obtain ⟨g, o, rfl, cx, hg1, hg2⟩ := hQ.at rfl (j := 0) (u := .int .i64 x) rfl
  have hne := hQ.other hB (by decide)
  have hne : C ≠ g := fun e => hne (by rw [e]; rfl)
  rw [List.length_cons] at *
  obtain ⟨hT, hc1⟩ := QRow.tail hQ
  have hS : ∀ A, A = some (⟨g, o + 1, none⟩ : Addr) ∨ (c = 1 ∧ A = some (⟨g, o, none⟩ : Addr)) → CtlRet base C l (.slice (some ⟨g, o, none⟩) (q.length + 1) c) q w (fun u => u = .int .i64 x) (.returned (.int .i64 x)) (w.setCell ⟨C, 4, none⟩ (.slice A q.length (c - 1))) := by
    intro A hA
    have hQ' := (hT A hA).set_other hB (by decide) 4 (.slice A q.length (c - 1))
    refine ⟨_, .slice A q.length (c - 1), rfl, rfl, ⟨hbC, hB.put 4 _, hQ'⟩, KeptBut.setCell (.inl rfl) _, .inl ?_⟩
    rcases hA with rfl | ⟨-, rfl⟩ <;> rfl
  have HS := Lib.hid hS
  have hlc : q.length + 1 ≤ c := by
    rcases hQ.2 with ⟨h2, -⟩ | ⟨_, _, _, _, h2, -, -, h3, -⟩
    · cases h2
    · cases h2; exact h3
  simp only [Nat.add_zero] at cx
  clear hS hT hQ hB hbC
  by_cases hone : c = 1
  · subst hone
    have hq0 : q = [] := List.eq_nil_of_length_eq_zero (by omega)
    subst hq0
    have HX := Lib.hid (HS.out (some ⟨g, o, none⟩) (.inr ⟨rfl, rfl⟩))
    clear HS
    go_enter Try.func62, Try.ntmps62
    go_wp2
    go_ret
    exact HX.out
  · go_enter Try.func62, Try.ntmps62
    go_wp2
    go_ret
    exact HS.out (some ⟨g, o + 1, none⟩) (.inl rfl)

theorem CtlKept.trans {C : Nat} {v v' v'' : Value} {w w' w'' : World} (h : CtlKept C v v' w w') (k : CtlKept C v' v'' w' w'') : CtlKept C v v'' w w'' := by
  refine ⟨h.1.trans k.1 fun i hi hs => ?_, ?_⟩
  · rcases hs with rfl | hs
    · exact .inl rfl
    · rcases h.2 with h2 | ⟨j, h2, h3⟩
      · exact .inr (by rw [hs, h2])
      · rw [h2] at hs
        have : i = j := by simpa using hs
        omega
  · rcases k.2 with k2 | ⟨j, k2, k3⟩
    · rcases h.2 with h2 | ⟨j, h2, h3⟩
      · exact .inl (k2.trans h2)
      · exact .inr ⟨j, k2.trans h2, h3⟩
    · exact .inr ⟨j, k2, Nat.le_trans h.1.size k3⟩

set_option maxRecDepth 100000 in
set_option maxHeartbeats 1000000 in
theorem delay_any (base C : Nat) (l : LoopD) (v : Value) (x m : Int) (q q' : List Int) (w : World) (h : Ctl base w C l v q) (hq : q.length ≤ 100000) (hx : q ++ [m] = x :: q') :
    Calls Try.prog 47 #[.pointer (some ⟨C, 0, none⟩), .int .i64 m] w (CtlRet base C l v q' w fun u => u = .int .i64 x) := by
  have C1 := Lib.hid (put_any base C l v q m w h hq)
  have hl := congrArg List.length hx
  rw [List.length_append, List.length_cons] at hl
  have HX := Lib.hid hx
  have HL : q'.length ≤ 100000 := by simp at hl; omega
  clear h hq hl hx
  go_enter Try.func47, Try.ntmps47
  go_wp2_with fail
  refine C1.out.mono ?_
  rintro e w2 ⟨u, v', rfl, -, hc, hk⟩
  rw [HX.out] at hc
  have C2 := Lib.hid (take_any base C l v' x q' w2 hc HL)
  have HK := Lib.hid hk
  clear hc hk
  go_wp2_with fail
  refine C2.out.mono ?_
  rintro e w3 ⟨u, v'', rfl, rfl, hc, hk⟩
  have HS : Hid (CtlRet base C l v q' w (fun u => u = .int .i64 x) (.returned (.int .i64 x)) w3) := ⟨_, v'', rfl, rfl, hc, HK.out.trans hk⟩
  clear hc hk
  go_wp2
  go_ret
  exact HS.out

theorem clamp_cases (s v : Int) (hs : 0 ≤ s) : (v < -s ∧ clampD s v = s) ∨ (¬ v < -s ∧ s < v ∧ clampD s v = -s) ∨ (¬ v < -s ∧ ¬ s < v ∧ clampD s v = -v) := by unfold clampD; omega

set_option maxRecDepth 100000 in
set_option maxHeartbeats 2000000 in
theorem decide_any (base C : Nat) (l : LoopD) (v : Value) (q : List Int) (x : Int) (w : World) (h : Ctl base w C l v q) (hq : q.length ≤ 1000) (hs : 1 ≤ l.step ∧ l.step ≤ 10000) (hqs : ∀ y ∈ q, y ≤ 10000 ∧ -10000 ≤ y) (hx : x ≤ 1000000000000 ∧ -1000000000000 ≤ x) :
    Calls Try.prog 46 #[.pointer (some ⟨C, 0, none⟩), .int .i64 x] w fun e w' => e = .returned (.int .i64 (clampD l.step (x + q.sum))) ∧ ∃ n, w' = w.drewN n := by
  obtain ⟨-, hB, hQ⟩ := h
  have c4 := cellOf hB 4 (x := v) rfl
  have c3 := cellOf hB 3 (x := .int .i64 l.step) rfl
  obtain ⟨A, c, rfl⟩ := hQ.form
  obtain ⟨n, hn⟩ : ∃ n, q.length = n := ⟨_, rfl⟩
  have hat := fun j (u : Int) (hu : q[j]? = some u) => hQ.at rfl (j := j) (u := .int .i64 u) (by rw [List.getElem?_map, hu]; rfl)
  have HAt := Lib.hid hat
  have Hn := Lib.hid hn
  have HQS := Lib.hid hqs
  rw [hn] at c4 hq
  clear hat hB hQ hn hqs
  obtain ⟨hs1, hs2⟩ := hs
  obtain ⟨hx1, hx2⟩ := hx
  have hsum : ∀ k, k ≤ n → (q.take k).sum ≤ 10000 * k ∧ -(10000 * k) ≤ (q.take k).sum := by
    intro k
    induction k with
    | zero => intro _; simp
    | succ k ih =>
      intro hk
      have h1 := ih (by omega)
      have h2 : k < q.length := by rw [Hn.out]; omega
      have h3 := HQS.out q[k] (List.getElem_mem h2)
      rw [List.take_succ_eq_append_getElem h2, sum_snoc]
      omega
  have HSm := Lib.hid hsum
  clear hsum
  go_enter Try.func46, Try.ntmps46
  go_wp2
  go_loop [5, 7, 15] (fun m _ i => ∃ k : Nat, k ≤ n ∧ i = .int .i64 k ∧ m = .int .i64 (x + (q.take k).sum)) (fun _ _ i => n - (intOf i).toNat)
  case atStart => exact ⟨0, Nat.zero_le _, rfl, by simp⟩
  case round =>
    obtain ⟨k, hk, rfl, rfl⟩ := hrel
    have hb := HSm.out k hk
    by_cases hlt : k < n
    · have h2 : k < q.length := by rw [Hn.out]; exact hlt
      obtain ⟨g, o, rfl, cx, -, hgl⟩ := HAt.out k q[k] (List.getElem?_eq_getElem h2)
      have hN : Hid ((q.take (k + 1)).sum = (q.take k).sum + q[k]) := by show _ = _; rw [List.take_succ_eq_append_getElem h2, sum_snoc]
      have h3 := HQS.out q[k] (List.getElem_mem h2)
      generalize q[k] = y at *
      generalize (q.take k).sum = z at *
      clear h2
      go_wp2
      refine ⟨⟨k + 1, by omega, by go_num, ?_⟩, by simp [intOf]; omega⟩
      rw [hN.out, Int.add_assoc]
    · have hk' : k = n := by omega
      subst hk'
      have hT : q.take k = q := List.take_of_length_le (by rw [Hn.out]; omega)
      rw [hT] at hb ⊢
      clear hT
      obtain ⟨z, hz⟩ : ∃ z, q.sum = z := ⟨_, rfl⟩
      have Hz := Lib.hid hz
      rw [hz] at hb ⊢
      clear hz
      rcases clamp_cases l.step (x + z) (by omega) with ⟨k1, k2⟩ | ⟨k1, k2, k3⟩ | ⟨k1, k2, k3⟩
      · have HE : Hid (clampD l.step (x + q.sum) = l.step) := by show _ = _; rw [Hz.out]; exact k2
        clear k2
        go_upto_region 7 with fail
        go_quiet (fail)
        go_wp2
        go_ret
        exact ⟨ri HE.out, _, rfl⟩
      · have HE : Hid (clampD l.step (x + q.sum) = -l.step) := by show _ = _; rw [Hz.out]; exact k3
        clear k3
        go_upto_region 7 with fail
        go_quiet (fail)
        go_wp2
        go_ret
        exact ⟨ri HE.out, _, rfl⟩
      · have HE : Hid (clampD l.step (x + q.sum) = -(x + z)) := by show _ = _; rw [Hz.out]; exact k3
        clear k3
        go_upto_region 7 with fail
        go_quiet (fail)
        go_wp2
        go_ret
        exact ⟨ri HE.out, _, rfl⟩
end Go.Proofs.Ytffodgpafiifcaa
