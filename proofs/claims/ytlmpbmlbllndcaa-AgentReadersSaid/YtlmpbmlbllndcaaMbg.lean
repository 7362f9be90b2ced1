/-
  slices.Clone and slices.Equal of complaints and of spans.
-/
import Derived.Test.YtlmpbmlbllndcaaMba
import Derived.Test.YtlmpbmlbllndcaaMbf
namespace Go.Proofs.Ytlmpbmlbllndcaa
open Go.RowKit
attribute [local go_sem] Oper.semAt_some

theorem sliceCmpc : Try.prog.underlying 38 = some (.slice 91) := by kernel_rfl
theorem infoCmpc : (Try.prog.info? 91).map (fun i => (i.zero, i.size, i.bytes)) = some (some (.agg #[.int .i64 0, .int .i64 0]), 2, 16) := by kernel_rfl
theorem Cmp_ones (l : List CmpD) : ∀ x ∈ l.flatMap CmpD.cells, x.oneCell' = true := by
  intro x hx
  obtain ⟨d, -, h⟩ := List.mem_flatMap.1 hx
  simp only [CmpD.cells, List.mem_cons, List.not_mem_nil, or_false] at h
  rcases h with rfl | rfl <;> rfl
set_option maxHeartbeats 4000000 in
set_option maxRecDepth 100000 in
theorem cloneCmp_any (l : List CmpD) (hl : l.length ≤ 2000000) (v : Value) (w : World) (h : RCmps w.heap.size w v l) :
    Calls Try.prog 64 #[v] w fun e w' => ∃ u, e = .returned u ∧ w'.ownsRow w.heap.size 91 2 u l.length (l.flatMap CmpD.cells) ∧ Below w.heap.size w w' := by
  obtain ⟨i0, hi, hz0, hz1, hz2⟩ := info_parts infoCmpc
  obtain ⟨A, c, rfl, hx, hm, hr⟩ := h
  have q : ∀ (w : World) (a : Option Addr) (n c n' c' : Nat), (binOp .eql 38 (.slice a n c) (.slice none n' c')).run Try.prog w = .ok (.bool a.isNone) w := fun w a n c n' c' => Lib.run_eql_slice_nil w _ _ a n c n' c' sliceCmpc
  have u22 : ∀ w, Sem.run Try.prog (underlying 38) w = .ok (TypeDesc.slice 91) w := run_underlying sliceCmpc
  rcases A with - | a
  · have : l.length = 0 := by
      rcases Nat.eq_zero_or_pos l.length with h | h
      · exact h
      · obtain ⟨g, o, e, -⟩ := hr h
        cases e
    have hx : l = [] := List.eq_nil_of_length_eq_zero this
    subst hx
    clear hr
    go_enter Try.func64, Try.ntmps64
    go_wp2
    go_ret
    exact ⟨_, rfl, World.ownsRow_nil _ _ _ _, Below.refl _ _⟩
  · have HC : Hid (∀ j u, (l.flatMap CmpD.cells)[j]? = some u → w.cell? (a.add j) = some u) := fun j u hj => by
      have hpos : 0 < l.length := by
        rcases Nat.eq_zero_or_pos l.length with h | h
        · rw [List.eq_nil_of_length_eq_zero h] at hj
          simp at hj
        · exact h
      obtain ⟨g, o, e, -, hc⟩ := hr hpos
      cases e
      have := hc j u hj
      by_cases h0 : j = 0
      · subst h0; simpa [Addr.add] using this
      · simpa [Addr.add, h0] using this
    obtain ⟨n, hnn⟩ : ∃ n, l.length = n := ⟨_, rfl⟩
    have HN := Lib.hid hnn
    rw [hnn] at hl hx ⊢
    clear hr hm hnn
    go_enter Try.func64, Try.ntmps64
    go_wp2_with (at_builtin; refine wpList_append_own _ rfl _ _ 38 rfl w.heap.size 91 i0 _ 2 16 sliceCmpc hi hz0 hz1 hz2 rfl (by decide) _ _ _ rfl (World.ownsRow_made w #[] 0 (Nat.le_refl _) (Nat.zero_le _) rfl) a n c (l.flatMap CmpD.cells) rfl hx ?qc2 (Cmp_ones l) ?qc4 ?qc5 ?qc6 ?_)
    case qc2 =>
      intro j u hj
      exact Lib.cell?_alloc_some _ (HC.out j u hj)
    case qc4 => unfold maxLen; omega
    case qc5 => omega
    case qc6 => simp
    intro v' w1 hown hgrow hnil
    have HR : Hid (w1.ownsRow w.heap.size 91 2 v' n (l.flatMap CmpD.cells)) := Lib.hid (by simpa using hown)
    go_wp2
    go_ret
    exact ⟨v', rfl, HR.out, ((Below.refl _ w).alloc (Nat.le_refl _) _).grown hgrow (by simp) (by intro k hk; simp [Value.ownBlock] at hk; omega)⟩
theorem fieldsCmpc : Try.prog.underlying 91 = some (.struct (Try.prog.fieldsOf 91)) := by kernel_rfl
theorem heldCmpc : Try.prog.stoodInHeld 91 = false := by kernel_rfl
theorem flCmpc : (Try.prog.fieldsOf 91).toList.map (fun f => (f.name != "_", f.type, f.offset)) = [(true, 3, 0), (true, 3, 1)] := by kernel_rfl
theorem eqVCmp (a b a' b' : Int) (w : World) : (Op.equalIn 10000 91 (.agg #[.int .i64 a, .int .i64 b]) (.agg #[.int .i64 a', .int .i64 b'])).run Try.prog w = .ok (a == a' && b == b') w := by
  rw [run_equalIn_agg w 9999 _ _ _ fieldsCmpc heldCmpc]
  have hl := flCmpc
  generalize (Try.prog.fieldsOf 91).toList = fs at hl ⊢
  obtain ⟨f0, r0, rfl, h0, hl⟩ := List.map_eq_cons_iff.1 hl
  obtain ⟨f1, r1, rfl, h1, hl⟩ := List.map_eq_cons_iff.1 hl
  obtain rfl := List.map_eq_nil_iff.1 hl
  simp only [Prod.mk.injEq, bne_iff_ne, ne_eq] at h0 h1
  obtain ⟨n0, t0, o0⟩ := h0
  obtain ⟨n1, t1, o1⟩ := h1
  clear hl
  have hi : Try.prog.underlying 3 = some (.int .i64) := by kernel_rfl
  simp [Op.eqFields, n0, n1, t0, t1, o0, o1, go_sem]
  by_cases h1 : a = a' <;> by_cases h2 : b = b' <;> simp [h1, h2]
theorem neVCmp (a b a' b' : Int) (w : World) : (binOp .neq 91 (.agg #[.int .i64 a, .int .i64 b]) (.agg #[.int .i64 a', .int .i64 b'])).run Try.prog w = .ok (.bool !(a == a' && b == b')) w := by
  simp [go_sem, eqVCmp]
set_option maxRecDepth 100000 in
set_option maxHeartbeats 2000000 in
theorem eqLCmp_any (a b : Value) (l m : List CmpD) (w : World) (ha : RCmps w.heap.size w a l) (hb : RCmps w.heap.size w b m) :
    Calls Try.prog 67 #[a, b] w fun e w' => e = .returned (.bool (decide (l = m))) ∧ Below w.heap.size w w' := by
  obtain ⟨A, c, rfl, hlm, HD⟩ := cmps_later ha
  obtain ⟨B, d, rfl, hmm, HE⟩ := cmps_later hb
  clear ha hb
  by_cases hne : l.length = m.length
  · obtain ⟨n, hn⟩ : ∃ n, l.length = n := ⟨_, rfl⟩
    have hm : m.length = n := by omega
    rw [hn] at hlm ⊢
    rw [hm] at hmm ⊢
    have Hn := Lib.hid hn
    have Hm := Lib.hid hm
    clear hn hm hne
    go_enter Try.func67, Try.ntmps67
    go_wp2
    go_loopw [13] (fun i wr => ∃ k : Nat, k ≤ n ∧ i = .int .i64 k ∧ Hid (l.take k = m.take k) ∧ Hid (Below w.heap.size w wr)) (fun i _ => n - (intOf i).toNat)
    case atStart => exact ⟨0, Nat.zero_le _, rfl, rfl, Below.refl _ _⟩
    case round =>
      obtain ⟨k, hk, rfl, ht, hB⟩ := hrel
      by_cases hlt : k < n
      · obtain ⟨x, hx⟩ : ∃ x, l[k]? = some x := ⟨_, List.getElem?_eq_getElem (by rw [Hn.out]; exact hlt)⟩
        obtain ⟨y, hy⟩ : ∃ x, m[k]? = some x := ⟨_, List.getElem?_eq_getElem (by rw [Hm.out]; exact hlt)⟩
        obtain ⟨g, o, rfl, hc⟩ := HD.out k x hx
        obtain ⟨g2, o2, rfl, hd⟩ := HE.out k y hy
        obtain ⟨c1, c2⟩ := hc.out wr hB.out
        obtain ⟨d1, d2⟩ := hd.out wr hB.out
        have HX := Lib.hid hx
        have HY := Lib.hid hy
        clear hc hd hx hy HD HE
        have ne := neVCmp x.sub x.day y.sub y.day
        by_cases he : x = y
        · subst he
          have ne2 : ∀ w, (binOp .neq 91 (.agg #[.int .i64 x.sub, .int .i64 x.day]) (.agg #[.int .i64 x.sub, .int .i64 x.day])).run Try.prog w = .ok (.bool false) w := fun w => by rw [ne]; simp
          clear ne
          go_wp2
          go_quiet (fail)
          go_wp2
          go_roundw
          case rel => exact ⟨k + 1, by omega, by go_num, take_same ht.out HX.out HY.out, below_drewN hB.out _⟩
          case measure => simp [intOf]; omega
        · have ne2 : ∀ w, (binOp .neq 91 (.agg #[.int .i64 x.sub, .int .i64 x.day]) (.agg #[.int .i64 y.sub, .int .i64 y.day])).run Try.prog w = .ok (.bool true) w := fun w => by
            rw [ne]
            have hb : (x.sub == y.sub && x.day == y.day) = false := by
              cases x; cases y
              simp only [CmpD.mk.injEq] at he
              rw [Bool.eq_false_iff]
              intro h
              rw [Bool.and_eq_true] at h
              exact he ⟨eq_of_beq h.1, eq_of_beq h.2⟩
            rw [hb]
            rfl
          clear ne
          go_wp2
          go_quiet (fail)
          go_wp2
          go_ret
          exact ⟨by simp [ne_by HX.out HY.out he], below_drewN hB.out _⟩
      · go_wp2
        go_ret
        exact ⟨by simp [take_all ht.out (by rw [Hn.out]; omega) (by rw [Hm.out]; omega)], hB.out⟩
  · have hnb : ((l.length : Int) != (m.length : Int)) = true := by simp; omega
    go_enter Try.func67, Try.ntmps67
    go_wp2
    go_ret
    exact ⟨by simp [show ¬ l = m from fun h => hne (by rw [h])], Below.refl _ _⟩
theorem sliceSpnc : Try.prog.underlying 40 = some (.slice 87) := by kernel_rfl
theorem infoSpnc : (Try.prog.info? 87).map (fun i => (i.zero, i.size, i.bytes)) = some (some (.agg #[.int .i64 0, .int .i64 0]), 2, 16) := by kernel_rfl
theorem Spn_ones (l : List SpanD) : ∀ x ∈ l.flatMap SpanD.cells, x.oneCell' = true := by
  intro x hx
  obtain ⟨d, -, h⟩ := List.mem_flatMap.1 hx
  simp only [SpanD.cells, List.mem_cons, List.not_mem_nil, or_false] at h
  rcases h with rfl | rfl <;> rfl
set_option maxHeartbeats 4000000 in
set_option maxRecDepth 100000 in
theorem cloneSpn_any (l : List SpanD) (hl : l.length ≤ 2000000) (v : Value) (w : World) (h : RSpans w.heap.size w v l) :
    Calls Try.prog 106 #[v] w fun e w' => ∃ u, e = .returned u ∧ w'.ownsRow w.heap.size 87 2 u l.length (l.flatMap SpanD.cells) ∧ Below w.heap.size w w' := by
  obtain ⟨i0, hi, hz0, hz1, hz2⟩ := info_parts infoSpnc
  obtain ⟨A, c, rfl, hx, hm, hr⟩ := h
  have q : ∀ (w : World) (a : Option Addr) (n c n' c' : Nat), (binOp .eql 40 (.slice a n c) (.slice none n' c')).run Try.prog w = .ok (.bool a.isNone) w := fun w a n c n' c' => Lib.run_eql_slice_nil w _ _ a n c n' c' sliceSpnc
  have u22 : ∀ w, Sem.run Try.prog (underlying 40) w = .ok (TypeDesc.slice 87) w := run_underlying sliceSpnc
  rcases A with - | a
  · have : l.length = 0 := by
      rcases Nat.eq_zero_or_pos l.length with h | h
      · exact h
      · obtain ⟨g, o, e, -⟩ := hr h
        cases e
    have hx : l = [] := List.eq_nil_of_length_eq_zero this
    subst hx
    clear hr
    go_enter Try.func106, Try.ntmps106
    go_wp2
    go_ret
    exact ⟨_, rfl, World.ownsRow_nil _ _ _ _, Below.refl _ _⟩
  · have HC : Hid (∀ j u, (l.flatMap SpanD.cells)[j]? = some u → w.cell? (a.add j) = some u) := fun j u hj => by
      have hpos : 0 < l.length := by
        rcases Nat.eq_zero_or_pos l.length with h | h
        · rw [List.eq_nil_of_length_eq_zero h] at hj
          simp at hj
        · exact h
      obtain ⟨g, o, e, -, hc⟩ := hr hpos
      cases e
      have := hc j u hj
      by_cases h0 : j = 0
      · subst h0; simpa [Addr.add] using this
      · simpa [Addr.add, h0] using this
    obtain ⟨n, hnn⟩ : ∃ n, l.length = n := ⟨_, rfl⟩
    have HN := Lib.hid hnn
    rw [hnn] at hl hx ⊢
    clear hr hm hnn
    go_enter Try.func106, Try.ntmps106
    go_wp2_with (at_builtin; refine wpList_append_own _ rfl _ _ 40 rfl w.heap.size 87 i0 _ 2 16 sliceSpnc hi hz0 hz1 hz2 rfl (by decide) _ _ _ rfl (World.ownsRow_made w #[] 0 (Nat.le_refl _) (Nat.zero_le _) rfl) a n c (l.flatMap SpanD.cells) rfl hx ?qc2 (Spn_ones l) ?qc4 ?qc5 ?qc6 ?_)
    case qc2 =>
      intro j u hj
      exact Lib.cell?_alloc_some _ (HC.out j u hj)
    case qc4 => unfold maxLen; omega
    case qc5 => omega
    case qc6 => simp
    intro v' w1 hown hgrow hnil
    have HR : Hid (w1.ownsRow w.heap.size 87 2 v' n (l.flatMap SpanD.cells)) := Lib.hid (by simpa using hown)
    go_wp2
    go_ret
    exact ⟨v', rfl, HR.out, ((Below.refl _ w).alloc (Nat.le_refl _) _).grown hgrow (by simp) (by intro k hk; simp [Value.ownBlock] at hk; omega)⟩
theorem fieldsSpnc : Try.prog.underlying 87 = some (.struct (Try.prog.fieldsOf 87)) := by kernel_rfl
theorem heldSpnc : Try.prog.stoodInHeld 87 = false := by kernel_rfl
theorem flSpnc : (Try.prog.fieldsOf 87).toList.map (fun f => (f.name != "_", f.type, f.offset)) = [(true, 3, 0), (true, 3, 1)] := by kernel_rfl
theorem eqVSpn (a b a' b' : Int) (w : World) : (Op.equalIn 10000 87 (.agg #[.int .i64 a, .int .i64 b]) (.agg #[.int .i64 a', .int .i64 b'])).run Try.prog w = .ok (a == a' && b == b') w := by
  rw [run_equalIn_agg w 9999 _ _ _ fieldsSpnc heldSpnc]
  have hl := flSpnc
  generalize (Try.prog.fieldsOf 87).toList = fs at hl ⊢
  obtain ⟨f0, r0, rfl, h0, hl⟩ := List.map_eq_cons_iff.1 hl
  obtain ⟨f1, r1, rfl, h1, hl⟩ := List.map_eq_cons_iff.1 hl
  obtain rfl := List.map_eq_nil_iff.1 hl
  simp only [Prod.mk.injEq, bne_iff_ne, ne_eq] at h0 h1
  obtain ⟨n0, t0, o0⟩ := h0
  obtain ⟨n1, t1, o1⟩ := h1
  clear hl
  have hi : Try.prog.underlying 3 = some (.int .i64) := by kernel_rfl
  simp [Op.eqFields, n0, n1, t0, t1, o0, o1, go_sem]
  by_cases h1 : a = a' <;> by_cases h2 : b = b' <;> simp [h1, h2]
theorem neVSpn (a b a' b' : Int) (w : World) : (binOp .neq 87 (.agg #[.int .i64 a, .int .i64 b]) (.agg #[.int .i64 a', .int .i64 b'])).run Try.prog w = .ok (.bool !(a == a' && b == b')) w := by
  simp [go_sem, eqVSpn]
set_option maxRecDepth 100000 in
set_option maxHeartbeats 2000000 in
theorem eqLSpn_any (a b : Value) (l m : List SpanD) (w : World) (ha : RSpans w.heap.size w a l) (hb : RSpans w.heap.size w b m) :
    Calls Try.prog 70 #[a, b] w fun e w' => e = .returned (.bool (decide (l = m))) ∧ Below w.heap.size w w' := by
  obtain ⟨A, c, rfl, hlm, HD⟩ := spans_later ha
  obtain ⟨B, d, rfl, hmm, HE⟩ := spans_later hb
  clear ha hb
  by_cases hne : l.length = m.length
  · obtain ⟨n, hn⟩ : ∃ n, l.length = n := ⟨_, rfl⟩
    have hm : m.length = n := by omega
    rw [hn] at hlm ⊢
    rw [hm] at hmm ⊢
    have Hn := Lib.hid hn
    have Hm := Lib.hid hm
    clear hn hm hne
    go_enter Try.func70, Try.ntmps70
    go_wp2
    go_loopw [13] (fun i wr => ∃ k : Nat, k ≤ n ∧ i = .int .i64 k ∧ Hid (l.take k = m.take k) ∧ Hid (Below w.heap.size w wr)) (fun i _ => n - (intOf i).toNat)
    case atStart => exact ⟨0, Nat.zero_le _, rfl, rfl, Below.refl _ _⟩
    case round =>
      obtain ⟨k, hk, rfl, ht, hB⟩ := hrel
      by_cases hlt : k < n
      · obtain ⟨x, hx⟩ : ∃ x, l[k]? = some x := ⟨_, List.getElem?_eq_getElem (by rw [Hn.out]; exact hlt)⟩
        obtain ⟨y, hy⟩ : ∃ x, m[k]? = some x := ⟨_, List.getElem?_eq_getElem (by rw [Hm.out]; exact hlt)⟩
        obtain ⟨g, o, rfl, hc⟩ := HD.out k x hx
        obtain ⟨g2, o2, rfl, hd⟩ := HE.out k y hy
        obtain ⟨c1, c2⟩ := hc.out wr hB.out
        obtain ⟨d1, d2⟩ := hd.out wr hB.out
        have HX := Lib.hid hx
        have HY := Lib.hid hy
        clear hc hd hx hy HD HE
        have ne := neVSpn x.lo x.hi y.lo y.hi
        by_cases he : x = y
        · subst he
          have ne2 : ∀ w, (binOp .neq 87 (.agg #[.int .i64 x.lo, .int .i64 x.hi]) (.agg #[.int .i64 x.lo, .int .i64 x.hi])).run Try.prog w = .ok (.bool false) w := fun w => by rw [ne]; simp
          clear ne
          go_wp2
          go_quiet (fail)
          go_wp2
          go_roundw
          case rel => exact ⟨k + 1, by omega, by go_num, take_same ht.out HX.out HY.out, below_drewN hB.out _⟩
          case measure => simp [intOf]; omega
        · have ne2 : ∀ w, (binOp .neq 87 (.agg #[.int .i64 x.lo, .int .i64 x.hi]) (.agg #[.int .i64 y.lo, .int .i64 y.hi])).run Try.prog w = .ok (.bool true) w := fun w => by
            rw [ne]
            have hb : (x.lo == y.lo && x.hi == y.hi) = false := by
              cases x; cases y
              simp only [SpanD.mk.injEq] at he
              rw [Bool.eq_false_iff]
              intro h
              rw [Bool.and_eq_true] at h
              exact he ⟨eq_of_beq h.1, eq_of_beq h.2⟩
            rw [hb]
            rfl
          clear ne
          go_wp2
          go_quiet (fail)
          go_wp2
          go_ret
          exact ⟨by simp [ne_by HX.out HY.out he], below_drewN hB.out _⟩
      · go_wp2
        go_ret
        exact ⟨by simp [take_all ht.out (by rw [Hn.out]; omega) (by rw [Hm.out]; omega)], hB.out⟩
  · have hnb : ((l.length : Int) != (m.length : Int)) = true := by simp; omega
    go_enter Try.func70, Try.ntmps70
    go_wp2
    go_ret
    exact ⟨by simp [show ¬ l = m from fun h => hne (by rw [h])], Below.refl _ _⟩
end Go.Proofs.Ytlmpbmlbllndcaa
