/-
  slices.Clone and slices.Equal of methods.
  days: the same history of the reference.
-/
import Derived.Test.YtlmpbmlbllndcaaMbh
import Derived.Test.YtlmpbmlbllndcaaMbp
namespace Go.Proofs.Ytlmpbmlbllndcaa
open Go.RowKit
attribute [local go_sem] Oper.semAt_some

theorem sliceMeth' : Try.prog.underlying 28 = some (.slice 56) := by kernel_rfl
theorem infoMeth' : (Try.prog.info? 56).map (fun i => (i.zero, i.size, i.bytes)) = some (some (.agg #[.int .i64 0, .int .i64 0]), 2, 16) := by kernel_rfl
theorem meths_ones (l : List MethD) : ∀ x ∈ l.flatMap MethD.cells, x.oneCell' = true := by
  intro x hx
  obtain ⟨d, -, h⟩ := List.mem_flatMap.1 hx
  simp only [MethD.cells, List.mem_cons, List.not_mem_nil, or_false] at h
  rcases h with rfl | rfl <;> rfl
set_option maxHeartbeats 4000000 in
set_option maxRecDepth 100000 in
theorem cloneMeths_any (l : List MethD) (hl : l.length ≤ 2000000) (v : Value) (w : World) (h : RMeths w.heap.size w v l) :
    Calls Try.prog 49 #[v] w fun e w' => ∃ u, e = .returned u ∧ w'.ownsRow w.heap.size 56 2 u l.length (l.flatMap MethD.cells) ∧ Below w.heap.size w w' := by
  obtain ⟨i0, hi, hz0, hz1, hz2⟩ := info_parts infoMeth'
  obtain ⟨A, c, rfl, hx, hm, hr⟩ := h
  have q : ∀ (w : World) (a : Option Addr) (n c n' c' : Nat), (binOp .eql 28 (.slice a n c) (.slice none n' c')).run Try.prog w = .ok (.bool a.isNone) w := fun w a n c n' c' => Lib.run_eql_slice_nil w _ _ a n c n' c' sliceMeth'
  have u22 : ∀ w, Sem.run Try.prog (underlying 28) w = .ok (TypeDesc.slice 56) w := run_underlying sliceMeth'
  rcases A with - | a
  · have : l.length = 0 := by
      rcases Nat.eq_zero_or_pos l.length with h | h
      · exact h
      · obtain ⟨g, o, e, -⟩ := hr h
        cases e
    have hx : l = [] := List.eq_nil_of_length_eq_zero this
    subst hx
    clear hr
    go_enter Try.func49, Try.ntmps49
    go_wp2
    go_ret
    exact ⟨_, rfl, World.ownsRow_nil _ _ _ _, Below.refl _ _⟩
  · have HC : Hid (∀ j u, (l.flatMap MethD.cells)[j]? = some u → w.cell? (a.add j) = some u) := fun j u hj => by
      have hpos : 0 < l.length := by
        rcases Nat.eq_zero_or_pos l.length with h | h
        · rw [List.eq_nil_of_length_eq_zero h] at hj
          simp at hj
        · exact h
      obtain ⟨g, o, e, -, hc⟩ := hr hpos
      cases e
      have := hc j u hj
      by_cases h0 : j = 0
      · subst h0; simpa [Addr.add] using this
      · simpa [Addr.add, h0] using this
    obtain ⟨n, hnn⟩ : ∃ n, l.length = n := ⟨_, rfl⟩
    have HN := Lib.hid hnn
    rw [hnn] at hl hx ⊢
    clear hr hm hnn
    go_enter Try.func49, Try.ntmps49
    go_wp2_with (at_builtin; refine wpList_append_own _ rfl _ _ 28 rfl w.heap.size 56 i0 _ 2 16 sliceMeth' hi hz0 hz1 hz2 rfl (by decide) _ _ _ rfl (World.ownsRow_made w #[] 0 (Nat.le_refl _) (Nat.zero_le _) rfl) a n c (l.flatMap MethD.cells) rfl hx ?qc2 (meths_ones l) ?qc4 ?qc5 ?qc6 ?_)
    case qc2 =>
      intro j u hj
      exact Lib.cell?_alloc_some _ (HC.out j u hj)
    case qc4 => unfold maxLen; omega
    case qc5 => omega
    case qc6 => simp
    intro v' w1 hown hgrow hnil
    have HR : Hid (w1.ownsRow w.heap.size 56 2 v' n (l.flatMap MethD.cells)) := Lib.hid (by simpa using hown)
    go_wp2
    go_ret
    exact ⟨v', rfl, HR.out, ((Below.refl _ w).alloc (Nat.le_refl _) _).grown hgrow (by simp) (by intro k hk; simp [Value.ownBlock] at hk; omega)⟩
theorem fieldsMeth : Try.prog.underlying 56 = some (.struct (Try.prog.fieldsOf 56)) := by kernel_rfl
theorem heldMeth : Try.prog.stoodInHeld 56 = false := by kernel_rfl
theorem flMeth : (Try.prog.fieldsOf 56).toList.map (fun f => (f.name != "_", f.type, f.offset)) = [(true, 3, 0), (true, 3, 1)] := by kernel_rfl
theorem eqMeth (a b a' b' : Int) (w : World) : (Op.equalIn 10000 56 (.agg #[.int .i64 a, .int .i64 b]) (.agg #[.int .i64 a', .int .i64 b'])).run Try.prog w = .ok (a == a' && b == b') w := by
  rw [run_equalIn_agg w 9999 _ _ _ fieldsMeth heldMeth]
  have hl := flMeth
  generalize (Try.prog.fieldsOf 56).toList = fs at hl ⊢
  obtain ⟨f0, r0, rfl, h0, hl⟩ := List.map_eq_cons_iff.1 hl
  obtain ⟨f1, r1, rfl, h1, hl⟩ := List.map_eq_cons_iff.1 hl
  obtain rfl := List.map_eq_nil_iff.1 hl
  simp only [Prod.mk.injEq, bne_iff_ne, ne_eq] at h0 h1
  obtain ⟨n0, t0, o0⟩ := h0
  obtain ⟨n1, t1, o1⟩ := h1
  clear hl
  have hi : Try.prog.underlying 3 = some (.int .i64) := by kernel_rfl
  simp [Op.eqFields, n0, n1, t0, t1, o0, o1, go_sem]
  by_cases h1 : a = a' <;> by_cases h2 : b = b' <;> simp [h1, h2]
theorem neMeth (a b a' b' : Int) (w : World) : (binOp .neq 56 (.agg #[.int .i64 a, .int .i64 b]) (.agg #[.int .i64 a', .int .i64 b'])).run Try.prog w = .ok (.bool !(a == a' && b == b')) w := by
  simp [go_sem, eqMeth]
set_option maxRecDepth 100000 in
set_option maxHeartbeats 2000000 in
theorem eqMeths_any (a b : Value) (l m : List MethD) (w : World) (ha : RMeths w.heap.size w a l) (hb : RMeths w.heap.size w b m) :
    Calls Try.prog 53 #[a, b] w fun e w' => e = .returned (.bool (decide (l = m))) ∧ Below w.heap.size w w' := by
  obtain ⟨A, c, rfl, hlm, HD⟩ := meths_later ha
  obtain ⟨B, d, rfl, hmm, HE⟩ := meths_later hb
  clear ha hb
  by_cases hne : l.length = m.length
  · obtain ⟨n, hn⟩ : ∃ n, l.length = n := ⟨_, rfl⟩
    have hm : m.length = n := by omega
    rw [hn] at hlm ⊢
    rw [hm] at hmm ⊢
    have Hn := Lib.hid hn
    have Hm := Lib.hid hm
    clear hn hm hne
    go_enter Try.func53, Try.ntmps53
    go_wp2
    go_loopw [13] (fun i wr => ∃ k : Nat, k ≤ n ∧ i = .int .i64 k ∧ Hid (l.take k = m.take k) ∧ Hid (Below w.heap.size w wr)) (fun i _ => n - (intOf i).toNat)
    case atStart => exact ⟨0, Nat.zero_le _, rfl, rfl, Below.refl _ _⟩
    case round =>
      obtain ⟨k, hk, rfl, ht, hB⟩ := hrel
      by_cases hlt : k < n
      · obtain ⟨x, hx⟩ : ∃ x, l[k]? = some x := ⟨_, List.getElem?_eq_getElem (by rw [Hn.out]; exact hlt)⟩
        obtain ⟨y, hy⟩ : ∃ x, m[k]? = some x := ⟨_, List.getElem?_eq_getElem (by rw [Hm.out]; exact hlt)⟩
        obtain ⟨g, o, rfl, hc⟩ := HD.out k x hx
        obtain ⟨g2, o2, rfl, hd⟩ := HE.out k y hy
        obtain ⟨c1, c2⟩ := hc.out wr hB.out
        obtain ⟨d1, d2⟩ := hd.out wr hB.out
        have HX := Lib.hid hx
        have HY := Lib.hid hy
        clear hc hd hx hy HD HE
        have ne := neMeth x.kind x.days y.kind y.days
        by_cases he : x = y
        · subst he
          have ne2 : ∀ w, (binOp .neq 56 (.agg #[.int .i64 x.kind, .int .i64 x.days]) (.agg #[.int .i64 x.kind, .int .i64 x.days])).run Try.prog w = .ok (.bool false) w := fun w => by rw [ne]; simp
          clear ne
          go_wp2
          go_quiet (fail)
          go_wp2
          go_roundw
          case rel => exact ⟨k + 1, by omega, by go_num, take_same ht.out HX.out HY.out, below_drewN hB.out _⟩
          case measure => simp [intOf]; omega
        · have ne2 : ∀ w, (binOp .neq 56 (.agg #[.int .i64 x.kind, .int .i64 x.days]) (.agg #[.int .i64 y.kind, .int .i64 y.days])).run Try.prog w = .ok (.bool true) w := fun w => by
            rw [ne]
            have hb : (x.kind == y.kind && x.days == y.days) = false := by
              cases x; cases y
              simp only [MethD.mk.injEq] at he
              rw [Bool.eq_false_iff]
              intro h
              rw [Bool.and_eq_true] at h
              exact he ⟨eq_of_beq h.1, eq_of_beq h.2⟩
            rw [hb]
            rfl
          clear ne
          go_wp2
          go_quiet (fail)
          go_wp2
          go_ret
          exact ⟨by simp [ne_by HX.out HY.out he], below_drewN hB.out _⟩
      · go_wp2
        go_ret
        exact ⟨by simp [take_all ht.out (by rw [Hn.out]; omega) (by rw [Hm.out]; omega)], hB.out⟩
  · have hnb : ((l.length : Int) != (m.length : Int)) = true := by simp; omega
    go_enter Try.func53, Try.ntmps53
    go_wp2
    go_ret
    exact ⟨by simp [show ¬ l = m from fun h => hne (by rw [h])], Below.refl _ _⟩
end Go.Proofs.Ytlmpbmlbllndcaa

namespace Go.Proofs.Ytlmpbmlbllndcaa
open Go.RowKit
attribute [local go_sem] Oper.semAt_some

theorem sliceRDay : Try.prog.underlying 96 = some (.slice 99) := by kernel_rfl
theorem infoRDay : (Try.prog.info? 99).map (fun i => (i.zero, i.size, i.bytes)) = some (some (.agg #[.int .i64 0, .int .i64 0]), 2, 16) := by kernel_rfl
set_option maxRecDepth 100000 in
set_option maxHeartbeats 4000000 in
theorem days_any (l : List DayD) (hl : l.length ≤ 2000000) (v : Value) (w : World) (h : RDays w.heap.size w v l) :
    Calls Try.prog 41 #[v] w fun e w' => ∃ A c, e = .returned (.slice A l.length c) ∧ w'.ownsRow w.heap.size 99 2 (.slice A l.length c) l.length (l.flatMap DayD.cells) ∧ Below w.heap.size w w' := by
  obtain ⟨A, c, rfl, hlm, HD⟩ := days_later h
  obtain ⟨n, hn⟩ : ∃ n, l.length = n := ⟨_, rfl⟩
  have HN := Lib.hid hn
  rw [hn] at hl hlm ⊢
  obtain ⟨i0, hi0, hz0, hz1, hz2⟩ := info_parts infoRDay
  have HO0 : Hid (w.ownsRow w.heap.size 99 2 (.slice none 0 0) 0 ((l.take 0).flatMap DayD.cells)) := World.ownsRow_nil w _ _ _
  clear h hn
  go_enter Try.func41, Try.ntmps41
  go_wp2_with fail
  go_loopw [3, 8] (fun s i wr => ∃ k : Nat, k ≤ n ∧ i = .int .i64 k ∧ Hid (wr.ownsRow w.heap.size 99 2 s k ((l.take k).flatMap DayD.cells)) ∧ Hid (Below w.heap.size w wr)) (fun _ i _ => n - (intOf i).toNat)
  case atStart => exact ⟨0, Nat.zero_le _, rfl, HO0.out, Below.refl _ _⟩
  case round =>
  clear HO0
  obtain ⟨k, hk, rfl, hO, hB⟩ := hrel
  obtain ⟨X, rfl⟩ : ∃ X : World, X = wr := ⟨_, rfl⟩
  obtain ⟨Av, cv, rfl⟩ := ownsRow_form hO.out
  by_cases hlt : k < n
  · obtain ⟨d, hd⟩ : ∃ x, l[k]? = some x := ⟨_, List.getElem?_eq_getElem (by rw [HN.out]; exact hlt)⟩
    obtain ⟨g, o, rfl, HX⟩ := HD.out k d hd
    obtain ⟨c0, c1⟩ := HX.out X hB.out
    have F1 : ∃ X1, X.alloc (.cells #[.int .i64 d.sup, .int .i64 d.ret] 24) = X1 ∧ Hid (Below X.heap.size X X1) ∧ Hid (Blk X1 X.heap.size 24 #[.int .i64 d.sup, .int .i64 d.ret]) := ⟨_, rfl, below_alloc _ _, Blk.new _ _ _⟩
    obtain ⟨X1, e1, HX1, HK1⟩ := F1
    have E1 := Lib.hid e1
    have F2 : ∃ X2, X1.alloc (.cells #[.int .i64 d.sup, .int .i64 d.ret] 99) = X2 ∧ Hid (Below X1.heap.size X1 X2) := ⟨_, rfl, below_alloc _ _⟩
    obtain ⟨X2, e2, HX2⟩ := F2
    have HC2 := Lib.hid (cells_new X1 #[.int .i64 d.sup, .int .i64 d.ret] 99)
    rw [e2] at HC2
    have E2 := Lib.hid e2
    have HO2 : Hid (X2.ownsRow w.heap.size 99 2 (.slice Av k cv) k ((l.take k).flatMap DayD.cells)) := ownsRow_below (ownsRow_below hO.out HX1.out) HX2.out
    have HB2 : Hid (Below w.heap.size w X2) := hB.out.trans ((HX1.out.trans (HX2.out.mono HX1.out.size)).mono hB.out.size)
    have HTK : Hid ((l.take (k + 1)).flatMap DayD.cells = (l.take k).flatMap DayD.cells ++ d.cells) := by
      show _ = _
      rw [List.take_add_one, hd, Option.toList_some, List.flatMap_append]
      simp
    obtain ⟨q, hq⟩ : ∃ q, X.heap.size = q := ⟨_, rfl⟩
    rw [hq] at HK1
    have HQ := Lib.hid hq
    have d0 := cellOf HK1.out 0 (x := .int .i64 d.sup) rfl
    have d1 := cellOf HK1.out 1 (x := .int .i64 d.ret) rfl
    have k0 : (0 : Int) ≤ (k : Int) := by omega
    have k1 : (k : Int) < (n : Int) := by omega
    clear hd HX e1 e2 hq hO hB HX1 HX2
    go_upto_region 5 with fail
    rw [E1.out, HQ.out]
    clear E1 c0 c1
    go_wp2_with (at_builtin; rw [E2.out]; refine wpList_append_own _ rfl _ _ 96 rfl w.heap.size 99 i0 _ 2 16 sliceRDay hi0 hz0 hz1 hz2 rfl (by decide) (.slice Av k cv) k ((l.take k).flatMap DayD.cells) rfl HO2.out ⟨X1.heap.size, 0, none⟩ 1 1 [.int .i64 d.sup, .int .i64 d.ret] rfl rfl HC2.out (by simp [Value.oneCell']) (by simp only [maxLen]; omega) (by omega) HB2.out.size ?_; intro v2 w2 hO4 hG4 hN4)
    have hB4 : Below w.heap.size w w2 := HB2.out.trans ((KeptBut.grown (S := fun j => some j = (Value.slice Av k cv).ownBlock) hG4 fun j hj => hj).below (fun i hi => (ownsRow_own HO2.out hi.symm).1) HB2.out.size)
    refine ⟨⟨k + 1, by omega, by go_num, ?_, hB4⟩, by simp [intOf]; omega⟩
    show World.ownsRow _ _ _ _ _ _ _
    rw [HTK.out]
    exact hO4
  · obtain rfl : k = n := by omega
    have HF : Hid (X.ownsRow w.heap.size 99 2 (.slice Av k cv) k (l.flatMap DayD.cells)) := by
      have h1 := hO.out
      rw [List.take_of_length_le (by rw [HN.out]; omega)] at h1
      exact h1
    have HBX := Lib.hid hB.out
    clear hO hB
    go_wp2_with fail
    go_ret
    exact ⟨Av, cv, rfl, HF.out, HBX.out⟩
end Go.Proofs.Ytlmpbmlbllndcaa
