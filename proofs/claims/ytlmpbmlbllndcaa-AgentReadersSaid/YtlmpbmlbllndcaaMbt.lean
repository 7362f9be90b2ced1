/-
  EqualFunc of lines of the program and of the reference that are alike; account.
-/
import Derived.Test.YtlmpbmlbllndcaaMbf
import Derived.Test.YtlmpbmlbllndcaaMbr
namespace Go.Proofs.Ytlmpbmlbllndcaa
open Go.RowKit
attribute [local go_sem] Oper.semAt_some

theorem fieldsRL : Try.prog.underlying 190 = some (.struct (Try.prog.fieldsOf 190)) := by kernel_rfl
theorem heldRL : Try.prog.stoodInHeld 190 = false := by kernel_rfl
theorem flRL : (Try.prog.fieldsOf 190).toList.map (fun f => (f.name != "_", f.type, f.offset)) = [(true, 3, 0), (true, 3, 1), (true, 3, 2)] := by kernel_rfl
theorem eqRLine (w : World) (a b c : Int) : (Op.equalIn 10000 190 (.agg #[.int .i64 a, .int .i64 b, .int .i64 c]) (.agg #[.int .i64 a, .int .i64 b, .int .i64 c])).run Try.prog w = .ok true w := by
  rw [run_equalIn_agg w 9999 _ _ _ fieldsRL heldRL]
  have hl := flRL
  generalize (Try.prog.fieldsOf 190).toList = fs at hl ⊢
  obtain ⟨f0, r0, rfl, h0, hl⟩ := List.map_eq_cons_iff.1 hl
  obtain ⟨f1, r1, rfl, h1, hl⟩ := List.map_eq_cons_iff.1 hl
  obtain ⟨f2, r2, rfl, h2, hl⟩ := List.map_eq_cons_iff.1 hl
  obtain rfl := List.map_eq_nil_iff.1 hl
  simp only [Prod.mk.injEq, bne_iff_ne, ne_eq] at h0 h1 h2
  obtain ⟨n0, t0, o0⟩ := h0
  obtain ⟨n1, t1, o1⟩ := h1
  obtain ⟨n2, t2, o2⟩ := h2
  clear hl
  simp [Op.eqFields, n0, n1, n2, t0, t1, t2, o0, o1, o2, go_sem]
set_option maxRecDepth 100000 in
set_option maxHeartbeats 2000000 in
theorem account1_same (x : LineD) (w : World) :
    Calls Try.prog 114 #[.agg #[.int .i64 x.what, .int .i64 x.cop, .int .i64 x.amt], .agg #[.int .i64 x.what, .int .i64 x.cop, .int .i64 x.amt]] w fun e w' => e = .returned (.bool true) ∧ Below w.heap.size w w' := by
  have F0 : ∃ W0, (w.alloc (.cells #[.int .i64 x.what, .int .i64 x.cop, .int .i64 x.amt] 84)).alloc (.cells #[.int .i64 x.what, .int .i64 x.cop, .int .i64 x.amt] 190) = W0 ∧ Hid (Below w.heap.size w W0) ∧ Hid (Blk W0 w.heap.size 84 #[.int .i64 x.what, .int .i64 x.cop, .int .i64 x.amt] ∧ Blk W0 (w.heap.size + 1) 190 #[.int .i64 x.what, .int .i64 x.cop, .int .i64 x.amt]) := by
    have k1 := Blk.new w 84 #[.int .i64 x.what, .int .i64 x.cop, .int .i64 x.amt]
    have b1 := below_alloc w (.cells #[.int .i64 x.what, .int .i64 x.cop, .int .i64 x.amt] 84)
    obtain ⟨V1, e1⟩ : ∃ V, w.alloc (.cells #[.int .i64 x.what, .int .i64 x.cop, .int .i64 x.amt] 84) = V := ⟨_, rfl⟩
    rw [e1] at k1 b1 ⊢
    have z1 : V1.heap.size = w.heap.size + 1 := by rw [← e1]; simp
    refine ⟨_, rfl, sbelow_al b1 _, k1.below (below_alloc _ _) k1.lt, ?_⟩
    rw [← z1]
    exact Blk.new _ _ _
  obtain ⟨W0, e0, HB0, HK⟩ := F0
  have E0 := Lib.hid e0
  have q0 := cellOf HK.out.1 0 (x := .int .i64 x.what) rfl
  have q1 := cellOf HK.out.1 1 (x := .int .i64 x.cop) rfl
  have q2 := cellOf HK.out.1 2 (x := .int .i64 x.amt) rfl
  have r0 := cellOf HK.out.2 0 (x := .int .i64 x.what) rfl
  have r1 := cellOf HK.out.2 1 (x := .int .i64 x.cop) rfl
  have r2 := cellOf HK.out.2 2 (x := .int .i64 x.amt) rfl
  have hse : ∀ W, (Op.equalIn 10000 190 (.agg #[.int .i64 x.what, .int .i64 x.cop, .int .i64 x.amt]) (.agg #[.int .i64 x.what, .int .i64 x.cop, .int .i64 x.amt])).run Try.prog W = .ok true W := fun W => eqRLine W _ _ _
  clear e0
  go_enter Try.func114, Try.ntmps114
  go_upto_region 1 with fail
  rw [E0.out]
  clear E0
  go_wp2_with fail
  go_ret
  exact ⟨rfl, HB0.out⟩
set_option maxRecDepth 100000 in
set_option maxHeartbeats 2000000 in
theorem eqLns_same (a b : Value) (l : List LineD) (w : World) (ha : RLns w.heap.size w a l) (hb : RLns w.heap.size w b l) :
    Calls Try.prog 113 #[a, b, .func (.func 114) #[] #[]] w fun e w' => e = .returned (.bool true) ∧ Below w.heap.size w w' := by
  obtain ⟨A, c, rfl, hlm, HA⟩ := lns_later ha
  obtain ⟨B, d, rfl, -, HB⟩ := lns_later hb
  obtain ⟨n, hn⟩ : ∃ n, l.length = n := ⟨_, rfl⟩
  rw [hn] at hlm ⊢
  have HN := Lib.hid hn
  clear ha hb hn
  go_enter Try.func113, Try.ntmps113
  go_wp2_with fail
  go_loopw [17] (fun i wr => ∃ k : Nat, k ≤ n ∧ i = .int .i64 k ∧ Hid (Below w.heap.size w wr)) (fun i _ => n - (intOf i).toNat)
  case atStart => exact ⟨0, Nat.zero_le _, rfl, Below.refl _ _⟩
  case round =>
  obtain ⟨k, hk, rfl, hB⟩ := hrel
  obtain ⟨X, rfl⟩ : ∃ X : World, X = wr := ⟨_, rfl⟩
  by_cases hlt : k < n
  · obtain ⟨x, hx⟩ : ∃ x, l[k]? = some x := ⟨_, List.getElem?_eq_getElem (by rw [HN.out]; exact hlt)⟩
    obtain ⟨g, o, rfl, HXA⟩ := HA.out k x hx
    obtain ⟨g', o', rfl, HXB⟩ := HB.out k x hx
    obtain ⟨c0, c1, c2'⟩ := HXA.out X hB.out
    have F1 : ∃ X1, X.alloc (.cells #[.int .i64 x.what, .int .i64 x.cop, .int .i64 x.amt] 84) = X1 ∧ Hid (Below X.heap.size X X1) ∧ Hid (Blk X1 X.heap.size 84 #[.int .i64 x.what, .int .i64 x.cop, .int .i64 x.amt]) := ⟨_, rfl, below_alloc _ _, Blk.new _ _ _⟩
    obtain ⟨X1, e1, HX1, HK1⟩ := F1
    have HB1 : Hid (Below w.heap.size w X1) := hB.out.trans (HX1.out.mono hB.out.size)
    obtain ⟨d0, d1, d2'⟩ := HXB.out X1 HB1.out
    have F2 : ∃ X2, X1.alloc (.cells #[.int .i64 x.what, .int .i64 x.cop, .int .i64 x.amt] 190) = X2 ∧ Hid (Below X1.heap.size X1 X2) ∧ Hid (Blk X2 X1.heap.size 190 #[.int .i64 x.what, .int .i64 x.cop, .int .i64 x.amt]) := ⟨_, rfl, below_alloc _ _, Blk.new _ _ _⟩
    obtain ⟨X2, e2, HX2, HK2⟩ := F2
    have HB2 : Hid (Below w.heap.size w X2) := HB1.out.trans (HX2.out.mono HB1.out.size)
    have C1 := Lib.hid (account1_same x X2)
    have E1 := Lib.hid e1
    have E2 := Lib.hid e2
    have hK1 := HK1.out.below HX2.out HK1.out.lt
    have q0 := cellOf hK1 0 (x := .int .i64 x.what) rfl
    have q1 := cellOf hK1 1 (x := .int .i64 x.cop) rfl
    have q2 := cellOf hK1 2 (x := .int .i64 x.amt) rfl
    have r0 := cellOf HK2.out 0 (x := .int .i64 x.what) rfl
    have r1 := cellOf HK2.out 1 (x := .int .i64 x.cop) rfl
    have r2 := cellOf HK2.out 2 (x := .int .i64 x.amt) rfl
    have k0 : (0 : Int) ≤ (k : Int) := by omega
    have k1 : (k : Int) < (n : Int) := by omega
    clear hx e1 e2 hK1
    go_upto_region 6 with fail
    rw [E1.out]
    go_upto_region 7 with fail
    rw [E2.out]
    clear c0 c1 c2' d0 d1 d2'
    go_wp2_with fail
    refine C1.out.mono ?_
    rintro _ Y ⟨rfl, hb⟩
    have HBY : Hid (Below w.heap.size w Y) := HB2.out.trans (hb.mono HB2.out.size)
    clear C1 hb q0 q1 q2 r0 r1 r2
    go_wp2_with fail
    go_roundw
    case rel => exact ⟨k + 1, by omega, by go_num, HBY⟩
    case measure => simp [intOf]; omega
  · go_wp2_with fail
    go_ret
    exact ⟨rfl, hB.out⟩
set_option maxRecDepth 100000 in
set_option maxHeartbeats 2000000 in
theorem account_same (a b : Value) (s : Int) (l : List LineD) (w : World) (ha : RLns w.heap.size w a l) (hb : RLns w.heap.size w b l) :
    Calls Try.prog 66 #[.agg #[a, .int .i64 s], .agg #[b, .int .i64 s]] w fun e w' => e = .returned (.bool true) ∧ Below w.heap.size w w' := by
  have HA := Lib.hid ha
  have HB := Lib.hid hb
  obtain ⟨A, c, rfl, -, -⟩ := lns_later ha
  obtain ⟨B, d, rfl, -, -⟩ := lns_later hb
  obtain ⟨n, hn⟩ : ∃ n, l.length = n := ⟨_, rfl⟩
  rw [hn] at HA HB ⊢
  have F0 : ∃ W0, (w.alloc (.cells #[.slice A n c, .int .i64 s] 80)).alloc (.cells #[.slice B n d, .int .i64 s] 137) = W0 ∧ Hid (Below w.heap.size w W0) ∧ Hid (Blk W0 w.heap.size 80 #[.slice A n c, .int .i64 s] ∧ Blk W0 (w.heap.size + 1) 137 #[.slice B n d, .int .i64 s]) :=
    ⟨_, rfl, sbelow_al (below_alloc _ _) _, (Blk.new _ _ _).alloc _, blk_new (by simp) _ _⟩
  obtain ⟨W0, e0, HB0, HK⟩ := F0
  have E0 := Lib.hid e0
  have q0 := cellOf HK.out.1 0 (x := .slice A n c) rfl
  have q1 := cellOf HK.out.1 1 (x := .int .i64 s) rfl
  have r0 := cellOf HK.out.2 0 (x := .slice B n d) rfl
  have r1 := cellOf HK.out.2 1 (x := .int .i64 s) rfl
  have C1 := Lib.hid (eqLns_same (.slice A n c) (.slice B n d) l W0 ((Rd.below HA.out HB0.out).more HB0.out.size) ((Rd.below HB.out HB0.out).more HB0.out.size))
  clear ha hb hn e0
  go_enter Try.func66, Try.ntmps66
  go_upto_region 1 with fail
  rw [E0.out]
  clear E0
  go_wp2_with fail
  refine C1.out.mono ?_
  rintro _ Y ⟨rfl, hb⟩
  have HBY : Hid (Below w.heap.size w Y) := HB0.out.trans (hb.mono HB0.out.size)
  clear C1 hb q0 q1 r0 r1
  go_wp2_with fail
  go_ret
  exact ⟨rfl, HBY.out⟩
end Go.Proofs.Ytlmpbmlbllndcaa
