/-
  The reference: clone, in, CheckSupply, cover, proves, prices.
-/
import Derived.Test.YtpkepacbondopaaZk
import Derived.Deep.RegionHeld3
import Derived.Deep.AppendLies
import Derived.Deep.Upon
import Derived.Deep.LoopGhost
import Derived.Test.YtpkepacbondopaaMe
namespace Go.Proofs.Ytpkepacbondopaa
open Go.RowKit
theorem below_al {A W : World} (h : Below A.heap.size A W) (o : Obj) : Below A.heap.size A (W.alloc o) := h.alloc h.size o
theorem Blk.drew_ {W : World} {b : Nat} {t : TypeId} {cs : Array Value} (h : Blk W b t cs) : Blk W.drew b t cs := h
end Go.Proofs.Ytpkepacbondopaa
namespace Go.Proofs.Ytpkepacbondopaa
open Go.RowKit
attribute [local go_sem] Oper.semAt_some

theorem run_append_ints (t ty : TypeId) (base : Nat) (i : TypeInfo) (z : Value) (ht : Try.prog.underlying t = some (.slice 3)) (hi : Try.prog.info? 3 = some i) (hz : i.zero = some z)
    (hsize : i.size = 1) (hby : i.bytes = 8) (hzs : z.cells.size = 1) (w : World) (v y : Value) (xs ys : List Int) (B : Nat) (hown : OInts base w v xs) (hy : RInts B w y ys) (hl : xs.length + ys.length ≤ 1000000) (hbase : base ≤ w.heap.size) :
    ∃ v' w', (Builtin.append_ #[t, t] ty #[v, y]).run Try.prog w = .ok v' w' ∧ OInts base w' v' (xs ++ ys) ∧ w.grownBy w' v.ownBlock := by
  by_cases h0 : ys = []
  · subst h0
    have hform : ∃ A c, v = .slice A xs.length c ∧ xs.length ≤ c := by
      rcases hown.2 with ⟨rfl, h0⟩ | ⟨g, cap, cur, rfl, _, _, hc, _⟩
      · exact ⟨none, 0, by rw [h0], by omega⟩
      · exact ⟨_, _, rfl, hc⟩
    obtain ⟨A, c, rfl, hc⟩ := hform
    have hsrc : Src Try.prog i.size t y 0 [] w := by
      obtain ⟨A2, c2, rfl, _⟩ := hy
      cases A2 with
      | none => exact Src.ofNil w ht c2
      | some a => exact Src.ofSlice w ht a 0 c2 [] (by simp) (fun j u hu => by simp at hu) (by simp)
    exact ⟨_, w, run_append_nothing w t t ty _ i ht hi A _ c hc y hsrc, by simpa using hown, World.grownBy.refl w _⟩
  · have hpos : 0 < ys.length := List.length_pos_iff.2 h0
    obtain ⟨A2, c2, rfl, -, -, hr⟩ := hy
    obtain ⟨g, o, rfl, -, hc⟩ := hr hpos
    obtain ⟨g', cap, w', hrun, h2, h3, -, -⟩ := run_append_lies (P := Try.prog) w t ty base 3 i z 1 8 ht hi hz hsize hby hzs (by omega) v xs.length (xs.map (Value.int .i64)) hown ⟨g, o, none⟩ ys.length c2 (ys.map (Value.int .i64)) (by simp)
      (fun j u hu => by
        have h1 := hc j u hu
        have hadd : (⟨g, o, none⟩ : Addr).add j = ⟨g, o + j, none⟩ := by unfold Addr.add; split <;> simp_all
        rw [hadd]; exact h1) (int_cells_one ys) hpos (by simp only [maxLen]; omega) (by omega) hbase _ rfl
    refine ⟨_, w', hrun, ?_, h3⟩
    unfold OInts
    rw [List.length_append, List.map_append]
    exact h2
theorem wpList_append_ints {w : World} {ops : Array Oper} {rest : List Oper} {o : Oper} {a : Act} {Q : Exit → Act → World → Prop} (hgd : o.guard = none) (s x : Operand) (t : TypeId)
    (ho : o.op = .call { callee := .builtin .append, args := #[s, x], argTypes := #[t, t] })
    (base : Nat) (i : TypeInfo) (z : Value) (ht : Try.prog.underlying t = some (.slice 3)) (hi : Try.prog.info? 3 = some i) (hz : i.zero = some z)
    (hsize : i.size = 1) (hby : i.bytes = 8) (hzs : z.cells.size = 1) (v y : Value) (xs ys : List Int) (B : Nat) (hs : a.eval s = v) (hx : a.eval x = y) (hown : OInts base w v xs) (hy : RInts B w y ys) (n : Nat) (hn : xs.length + ys.length = n) (hl : n ≤ 1000000) (hbase : base ≤ w.heap.size)
    (h : ∀ A c w', OInts base w' (.slice A n c) (xs ++ ys) → w.grownBy w' v.ownBlock → wpList Try.prog ops Q rest (a.put o.dst (.slice A n c)) w') : wpList Try.prog ops Q (o :: rest) a w := by
  subst hn
  obtain ⟨v', w', hr, h2, h3⟩ := run_append_ints t o.type base i z ht hi hz hsize hby hzs w v y xs ys B hown hy hl hbase
  obtain ⟨A, c, rfl⟩ := ownsRow_form h2
  have hlen : (xs ++ ys).length = xs.length + ys.length := List.length_append
  rw [hlen] at hr h2
  refine wpList_plain hgd fun K' hK' => ?_
  unfold Oper.wp execOp
  simp only [ho, resolve, invoke, builtin, Sem.run_bind, Sem.run_pure, Result.andThen_ok, List.map_toArray, List.map_cons, List.map_nil, hs, hx, hr]
  exact hK' _ _ (h A c w' h2 h3)
set_option maxHeartbeats 2000000 in
set_option maxRecDepth 100000 in
theorem cloneInts_any (v : Value) (l : List Int) (w : World) (h : RInts w.heap.size w v l) (hn : l.length ≤ 1000000) :
    Calls Try.prog 59 #[v] w fun e w' => ∃ u, e = .returned u ∧ OInts w.heap.size w' u l ∧ Below w.heap.size w w' := by
  obtain ⟨i0, hi, hz0, hz1, hz2⟩ := info_parts infoInt0
  obtain ⟨A, c, rfl, hl, h0, hc⟩ := rd_slice h
  have q : ∀ (w : World) (a : Option Addr) (n c n' c' : Nat), (binOp .eql 30 (.slice a n c) (.slice none n' c')).run Try.prog w = .ok (.bool a.isNone) w := fun w a n c n' c' => Lib.run_eql_slice_nil w _ _ a n c n' c' sliceInts
  have u22 : ∀ w, Sem.run Try.prog (underlying 30) w = .ok (TypeDesc.slice 3) w := run_underlying sliceInts
  rcases A with - | a
  · have : l.length = 0 := by
      rcases Nat.eq_zero_or_pos l.length with h | h
      · exact h
      · exact absurd rfl (h0 h)
    have hx : l = [] := List.eq_nil_of_length_eq_zero this
    subst hx
    clear h h0 hc
    go_enter Try.func59, Try.ntmps59
    go_wp2
    go_ret
    exact ⟨_, rfl, World.ownsRow_nil _ _ _ _, Below.refl _ _⟩
  · have HC := Lib.hid (hc a rfl)
    obtain ⟨n, hnn⟩ : ∃ n, l.length = n := ⟨_, rfl⟩
    have HN := Lib.hid hnn
    rw [hnn] at hn ⊢
    have hl' : (l.map (Value.int .i64)).length = n * 1 := by simp [hnn]
    clear h h0 hc hl
    go_enter Try.func59, Try.ntmps59
    go_wp2_with (at_builtin; refine wpList_append_own _ rfl _ _ 30 rfl w.heap.size 3 i0 _ 1 8 sliceInts hi hz0 hz1 hz2 rfl (by decide) _ _ _ rfl (World.ownsRow_made w #[] 0 (Nat.le_refl _) (Nat.zero_le _) rfl) a n c (l.map (Value.int .i64)) rfl hl' ?qc2 (int_cells_one l) ?qc4 ?qc5 ?qc6 ?_)
    case qc2 =>
      intro j u hj
      exact Lib.cell?_alloc_some _ (HC.out j u hj)
    case qc4 => unfold maxLen; omega
    case qc5 => omega
    case qc6 => simp
    intro v' w1 hown hgrow hnil
    have HR : Hid (OInts w.heap.size w1 v' l) := Lib.hid (by
      unfold OInts
      rw [HN.out]
      simpa using hown)
    go_wp2
    go_ret
    exact ⟨v', rfl, HR.out, ((Below.refl _ w).alloc (Nat.le_refl _) _).grown hgrow (by simp) (by intro k hk; simp [Value.ownBlock] at hk; omega)⟩


set_option maxHeartbeats 400000 in
theorem refIn_any (n lo hi : Int) (w : World) : Calls Try.prog 101 #[.int .i64 n, .int .i64 lo, .int .i64 hi] w fun e w' => e = .returned (.bool (withinB n lo hi)) ∧ w = w' := by
  by_cases h1 : lo ≤ n
  · by_cases h2 : n ≤ hi
    · go_enter Try.func101, Try.ntmps101
      go_wp2
      go_ret
      exact ⟨rb (within_t h1 h2).symm.symm, rfl⟩
    · go_enter Try.func101, Try.ntmps101
      go_wp2
      go_ret
      exact ⟨rb (within_f (by omega)), rfl⟩
  · go_enter Try.func101, Try.ntmps101
    go_wp2
    go_ret
    exact ⟨rb (within_f (by omega)), rfl⟩
theorem refIn_let {n lo hi : Int} {B : Bool} (h : withinB n lo hi = B) : ∀ W, Calls Try.prog 101 #[.int .i64 n, .int .i64 lo, .int .i64 hi] W fun e w' => e = .returned (.bool B) ∧ W = w' := fun W => by rw [← h]; exact refIn_any _ _ _ _
set_option maxRecDepth 100000 in
set_option maxHeartbeats 2000000 in
theorem refCheckSupply_any (s : SupD) (v : Value) (w : World) (h : RSup w.heap.size w v s) :
    Calls Try.prog 67 #[v] w fun e w' => e = .returned (.int .i64 (checkS s)) ∧ Below w.heap.size w w' := by
  obtain ⟨vn, vo, rfl, hN, hO⟩ := h
  obtain ⟨An, cn, rfl, hnm, hN⟩ := hN.open_
  obtain ⟨Ao, co, rfl, hom, hO⟩ := hO.open_
  obtain ⟨n, hn⟩ : ∃ n, s.need.length = n := ⟨_, rfl⟩
  obtain ⟨o, ho⟩ : ∃ n, s.order.length = n := ⟨_, rfl⟩
  obtain ⟨r, hr⟩ : ∃ r, checkS s = r := ⟨_, rfl⟩
  rw [hr]
  rw [hn] at hnm hN ⊢
  rw [ho] at hom hO ⊢
  have HN := Lib.hid hN
  have HO := Lib.hid hO
  obtain ⟨kp, hkp⟩ : ∃ x, s.keep = x := ⟨_, rfl⟩
  obtain ⟨rm, hrm⟩ : ∃ x, s.room = x := ⟨_, rfl⟩
  rw [hkp, hrm]
  obtain ⟨b1, hb1⟩ : ∃ b, withinB (n : Int) 1 20 = b := ⟨_, rfl⟩
  obtain ⟨b2, hb2⟩ : ∃ b, withinB kp 0 1000 = b := ⟨_, rfl⟩
  obtain ⟨b3, hb3⟩ : ∃ b, withinB rm 0 100000 = b := ⟨_, rfl⟩
  have C1 := Lib.hid (refIn_let hb1)
  have C2 := Lib.hid (refIn_let hb2)
  have C3 := Lib.hid (refIn_let hb3)
  have HE : Hid (r = if b1 && decide (o = n) then (if b2 && b3 then (if (List.range n).all (weekB s) then 0 else 6) else 6) else 2) := by
    show _ = _
    rw [← hr]
    unfold checkS
    rw [hn, ho, hkp, hrm, hb1, hb2, hb3]
  have F0 : ∃ W0, w.alloc (.cells #[.slice An n cn, .slice Ao o co, .int .i64 kp, .int .i64 rm] 138) = W0 ∧ Below w.heap.size w W0 ∧ Blk W0 w.heap.size 138 #[.slice An n cn, .slice Ao o co, .int .i64 kp, .int .i64 rm] := ⟨_, rfl, below_alloc _ _, Blk.new _ _ _⟩
  obtain ⟨W0, e0, hb0, B0⟩ := F0
  have E0 := Lib.hid e0
  have HB0 := Lib.hid hb0
  have s0 := cellOf B0 0 (x := .slice An n cn) rfl
  have s1 := cellOf B0 1 (x := .slice Ao o co) rfl
  have s2 := cellOf B0 2 (x := .int .i64 kp) rfl
  have s3 := cellOf B0 3 (x := .int .i64 rm) rfl
  clear hn ho hr hN hO hkp hrm e0 hb0 B0 hb1 hb2 hb3
  go_enter Try.func67, Try.ntmps67
  go_upto_region 1 with fail
  rw [E0.out]
  go_wp2_with fail
  refine (C1.out _).mono ?_
  rintro _ _ ⟨rfl, rfl⟩
  cases b1
  · have hr2 : r = 2 := HE.out
    subst hr2
    go_wp2_with fail
    go_ret
    exact ⟨rfl, HB0.out⟩
  by_cases hon : o = n
  case neg =>
    have hr2 : r = 2 := by have := HE.out; simpa [hon] using this
    subst hr2
    have hon' : ((o : Int) != (n : Int)) = true := by simp; omega
    go_wp2_with fail
    go_ret
    exact ⟨rfl, HB0.out⟩
  subst hon
  have HE2 : Hid (r = if b2 && b3 then (if (List.range o).all (weekB s) then 0 else 6) else 6) := by
    have h9 := HE.out
    rw [show (true && decide (o = o)) = true by simp, if_pos rfl] at h9
    exact h9
  clear HE
  go_wp2_with fail
  go_loopw [4] (fun i wr => ∃ k : Nat, k ≤ o ∧ i = .int .i64 (k : Int) ∧ Hid (∀ j, j < k → weekB s j = true) ∧ wr = W0) (fun i _ => o - (intOf i).toNat)
  case atStart => exact ⟨0, Nat.zero_le _, rfl, fun j hj => absurd hj (Nat.not_lt_zero _), rfl⟩
  case round =>
  obtain ⟨k, hk, rfl, hall, rfl⟩ := hrel
  by_cases hlt : k < o
  case neg =>
    have HAll : Hid ((List.range o).all (weekB s) = true) := List.all_eq_true.2 fun j hj => hall.out j (by have := List.mem_range.1 hj; omega)
    go_wp2_with fail
    refine (C2.out _).mono ?_
    rintro _ _ ⟨rfl, rfl⟩
    cases b2
    · have hr2 : r = 6 := HE2.out
      subst hr2
      go_wp2_with fail
      go_ret
      exact ⟨rfl, HB0.out⟩
    go_wp2_with fail
    refine (C3.out _).mono ?_
    rintro _ _ ⟨rfl, rfl⟩
    cases b3
    · have hr2 : r = 6 := HE2.out
      subst hr2
      go_wp2_with fail
      go_ret
      exact ⟨rfl, HB0.out⟩
    have hr2 : r = 0 := by
      have h9 : r = if (List.range o).all (weekB s) then 0 else 6 := HE2.out
      rw [h9, if_pos HAll.out]
    subst hr2
    go_wp2_with fail
    go_ret
    exact ⟨rfl, HB0.out⟩
  obtain ⟨gn, on, x, rfl, hgn, c0, hx⟩ := HN.out k hlt
  obtain ⟨go, oo, y, rfl, hgo, d0, hy⟩ := HO.out k hlt
  rw [← HB0.out.cell (p := ⟨gn, on + k, none⟩) hgn] at c0
  rw [← HB0.out.cell (p := ⟨go, oo + k, none⟩) hgo] at d0
  obtain ⟨b5, hb5⟩ : ∃ b, withinB x 0 1000 = b := ⟨_, rfl⟩
  obtain ⟨b6, hb6⟩ : ∃ b, withinB y 0 1000000 = b := ⟨_, rfl⟩
  have C5 := Lib.hid (refIn_let hb5)
  have C6 := Lib.hid (refIn_let hb6)
  have HW : Hid (weekB s k = (b5 && b6)) := by show _ = _; unfold weekB; rw [hx.out, hy.out, hb5, hb6]
  have HBad : Hid (weekB s k = false → r = 6) := fun h => by
    rw [HE2.out]
    split
    · rw [if_neg]
      intro h9
      have := List.all_eq_true.1 h9 k (List.mem_range.2 hlt)
      rw [h] at this
      cases this
    · rfl
  clear hb5 hb6
  go_wp2_with fail
  refine (C5.out _).mono ?_
  rintro _ _ ⟨rfl, rfl⟩
  cases b5
  · have hr2 : r = 6 := HBad.out (by rw [HW.out]; rfl)
    subst hr2
    go_wp2_with fail
    go_ret
    exact ⟨rfl, HB0.out⟩
  go_wp2_with fail
  refine (C6.out _).mono ?_
  rintro _ _ ⟨rfl, rfl⟩
  cases b6
  · have hr2 : r = 6 := HBad.out (by rw [HW.out]; rfl)
    subst hr2
    go_wp2_with fail
    go_ret
    exact ⟨rfl, HB0.out⟩
  have HA : Hid (∀ j, j < k + 1 → weekB s j = true) := fun j hj => by
    rcases Nat.lt_or_ge j k with h | h
    · exact hall.out j h
    · rw [show j = k by omega, HW.out]; rfl
  clear HW HBad hall C5 C6 c0 d0
  go_wp2_with fail
  go_roundw
  case rel => exact ⟨k + 1, by omega, by go_num, HA, trivial⟩
  case measure => simp [intOf]; omega
end Go.Proofs.Ytpkepacbondopaa

namespace Go.Proofs.Ytpkepacbondopaa
open Go.RowKit
attribute [local go_sem] Oper.semAt_some

/-- What is kept behind each of the first i weeks of an order that is for the weeks up to e. -/
def kS (s : SupD) (e a : Nat) : Nat → Int
  | 0 => 0
  | i + 1 => kS s e a i + s.kept (a + i) (e - (a + i) - 1)
theorem kept_add (s : SupD) (a i : Nat) : ∀ d, s.kept a (i + d) = s.kept a i + s.kept (a + i) d
  | 0 => by show _ = _ + (0 : Int); rw [Nat.add_zero, Int.add_zero]
  | d + 1 => by
    show s.kept a (i + d) + s.need.getD (a + 1 + (i + d)) 0 = s.kept a i + (s.kept (a + i) d + s.need.getD (a + i + 1 + d) 0)
    rw [kept_add s a i d, show a + 1 + (i + d) = a + i + 1 + d by omega]
    omega
theorem kS_more (s : SupD) (e a : Nat) : ∀ i, a + i ≤ e → kS s (e + 1) a i = kS s e a i + s.need.getD e 0 * (i : Int)
  | 0, _ => by simp [kS]
  | i + 1, h => by
    show kS s (e + 1) a i + s.kept (a + i) (e + 1 - (a + i) - 1) = kS s e a i + s.kept (a + i) (e - (a + i) - 1) + _
    rw [kS_more s e a i (by omega), show e + 1 - (a + i) - 1 = (e - (a + i) - 1) + 1 by omega]
    show _ + (s.kept (a + i) (e - (a + i) - 1) + s.need.getD (a + i + 1 + (e - (a + i) - 1)) 0) = _
    rw [show a + i + 1 + (e - (a + i) - 1) = e by omega, Int.natCast_add, Int.mul_add]
    omega
theorem cost_kS (s : SupD) (a : Nat) : ∀ k, s.cost a k = s.order.getD a 0 + s.keep * kS s (a + 1 + k) a (k + 1)
  | 0 => by
    show s.order.getD a 0 = _ + s.keep * (0 + s.kept (a + 0) (a + 1 + 0 - (a + 0) - 1))
    rw [show a + 1 + 0 - (a + 0) - 1 = 0 by omega]
    show _ = _ + s.keep * (0 + 0)
    simp
  | k + 1 => by
    show s.cost a k + s.keep * ((k : Int) + 1) * s.need.getD (a + 1 + k) 0 = _
    rw [cost_kS s a k]
    have h1 : kS s (a + 1 + (k + 1)) a (k + 1 + 1) = kS s (a + 1 + k) a (k + 1) + s.need.getD (a + 1 + k) 0 * ((k + 1 : Nat) : Int) := by
      show kS s (a + 1 + (k + 1)) a (k + 1) + s.kept (a + (k + 1)) (a + 1 + (k + 1) - (a + (k + 1)) - 1) = _
      rw [show a + 1 + (k + 1) - (a + (k + 1)) - 1 = 0 by omega, show a + 1 + (k + 1) = a + 1 + k + 1 by omega, kS_more s (a + 1 + k) a (k + 1) (by omega)]
      show _ + (0 : Int) = _
      omega
    have e1 : ((k + 1 : Nat) : Int) = (k : Int) + 1 := by omega
    have e2 : s.keep * (kS s (a + 1 + k) a (k + 1) + s.need.getD (a + 1 + k) 0 * ((k : Int) + 1)) = s.keep * kS s (a + 1 + k) a (k + 1) + s.keep * ((k : Int) + 1) * s.need.getD (a + 1 + k) 0 := by
      rw [Int.mul_add s.keep, Int.mul_comm (s.need.getD (a + 1 + k) 0), Int.mul_assoc]
    rw [h1, e1, e2, Int.add_assoc]
theorem kept_le {s : SupD} (hs : s.Ok) {a q e : Nat} (h1 : a ≤ q) (h2 : q < e) (he : e ≤ s.need.length) : 0 ≤ s.kept q (e - q - 1) ∧ s.kept q (e - q - 1) ≤ s.kept a (e - a - 1) ∧ s.kept q (e - q - 1) ≤ 20000 := by
  have h3 := hs.kept q (e - q - 1) (by omega)
  have h4 := hs.kept a (q - a) (by omega)
  have h5 := kept_add s a (q - a) (e - q - 1)
  rw [show q - a + (e - q - 1) = e - a - 1 by omega, show a + (q - a) = q by omega] at h5
  have h6 := hs.weeks.2
  omega
/-- What cover answers. -/
def CoverRet (s : SupD) (a e : Nat) (w : World) (r : Ending) (w' : World) : Prop := r = .returned (.tuple #[.int .i64 (if okE s a e then costE s a e else 0), .bool (okE s a e)]) ∧ Below w.heap.size w w'
set_option maxRecDepth 100000 in
set_option maxHeartbeats 4000000 in
theorem cover_any (s : SupD) (hs : s.Ok) (a e : Nat) (hae : a < e) (he : e ≤ s.need.length) (v : Value) (w : World) (h : RSup w.heap.size w v s) :
    Calls Try.prog 112 #[v, .int .i64 (a : Int), .int .i64 (e : Int)] w (CoverRet s a e w) := by
  obtain ⟨vn, vo, rfl, hN, hO⟩ := h
  obtain ⟨An, cn, rfl, hnm, hN⟩ := hN.open_
  obtain ⟨Ao, co, rfl, hom, hO⟩ := hO.open_
  obtain ⟨n, hn⟩ : ∃ n, s.need.length = n := ⟨_, rfl⟩
  have hm : s.order.length = n := hs.same.trans hn
  have hn20 := hs.weeks
  rw [hn] at hnm hN hn20 he ⊢
  rw [hm] at hom hO ⊢
  have HN := Lib.hid hN
  have Hn := Lib.hid hn
  have HS := Lib.hid hs
  obtain ⟨kp, hkp⟩ : ∃ x, s.keep = x := ⟨_, rfl⟩
  obtain ⟨rm, hrm⟩ : ∃ x, s.room = x := ⟨_, rfl⟩
  rw [hkp, hrm]
  have Hkp := Lib.hid hkp
  have Hrm := Lib.hid hrm
  have hkb := hs.keep
  have hrb := hs.room
  rw [hkp] at hkb
  rw [hrm] at hrb
  obtain ⟨go, oo, xo, rfl, hgo, co0, hxo⟩ := hO a (by omega)
  have hxob : 0 ≤ xo ∧ xo ≤ 1000000 := by have := hs.order a (by omega); rwa [hxo.out] at this
  have F0 : ∃ W0, w.alloc (.cells #[.slice An n cn, .slice (some ⟨go, oo, none⟩) n co, .int .i64 kp, .int .i64 rm] 138) = W0 ∧ Below w.heap.size w W0 ∧ Blk W0 w.heap.size 138 #[.slice An n cn, .slice (some ⟨go, oo, none⟩) n co, .int .i64 kp, .int .i64 rm] := ⟨_, rfl, below_alloc _ _, Blk.new _ _ _⟩
  obtain ⟨W0, e0, hb0, B0⟩ := F0
  have E0 := Lib.hid e0
  have HB0 := Lib.hid hb0
  rw [← hb0.cell (p := ⟨go, oo + a, none⟩) hgo] at co0
  have s0 := cellOf B0 0 (x := .slice An n cn) rfl
  have s1 := cellOf B0 1 (x := .slice (some ⟨go, oo, none⟩) n co) rfl
  have s2 := cellOf B0 2 (x := .int .i64 kp) rfl
  have s3 := cellOf B0 3 (x := .int .i64 rm) rfl
  obtain ⟨hxo1, hxo2⟩ := hxob
  obtain ⟨hkb1, hkb2⟩ := hkb
  obtain ⟨hrb1, hrb2⟩ := hrb
  have HOK : Hid (okE s a e = decide (s.kept a (e - a - 1) ≤ rm)) := by show _ = _; unfold okE; rw [Hrm.out]
  have HCF : Hid (costE s a e = xo + kp * kS s e a (e - a)) := by
    show _ = _
    unfold costE
    rw [cost_kS, hxo.out, Hkp.out, show a + 1 + (e - a - 1) = e by omega, show e - a - 1 + 1 = e - a by omega]
  clear hn hm hs hN hO hkp hrm e0 hb0 B0 hxo
  go_enter Try.func112, Try.ntmps112
  go_upto_region 1 with fail
  rw [E0.out]
  go_wp2_with fail
  clear co0
  go_loopw [8, 9] (fun c i wr => ∃ q : Nat, a ≤ q ∧ q ≤ e ∧ i = .int .i64 (q : Int) ∧ ∃ C : Int, c = .int .i64 C ∧ 0 ≤ C ∧ C ≤ 1000000 + 20000000 * ((q : Int) - a) ∧ Hid (C = xo + kp * kS s e a (q - a)) ∧ Hid (a < q → s.kept a (e - a - 1) ≤ rm) ∧ wr = W0) (fun _ i _ => e - (intOf i).toNat)
  case atStart => exact ⟨a, Nat.le_refl _, by omega, rfl, xo, rfl, hxo1, by omega, by show _ = _; rw [Nat.sub_self]; show xo = xo + kp * 0; simp, fun h => absurd h (Nat.lt_irrefl _), rfl⟩
  case round =>
  obtain ⟨q, hq1, hq2, rfl, C, rfl, hC1, hC2, hC, hFit, rfl⟩ := hrel
  by_cases hlt : q < e
  case neg =>
    obtain rfl : q = e := by omega
    have hok : okE s a q = true := by rw [HOK.out]; exact decide_eq_true (hFit.out hae)
    have HFin : Hid (CoverRet s a q w (.returned (.tuple #[.int .i64 C, .bool true])) wr) := ⟨by rw [hok, if_pos rfl, HCF.out, hC.out], HB0.out⟩
    clear hok hC hFit
    go_wp2_with fail
    go_ret2
    exact HFin.out
  have hkl := kept_le HS.out hq1 hlt (by rw [Hn.out]; exact he)
  obtain ⟨T, hT⟩ : ∃ T, s.kept q (e - q - 1) = T := ⟨_, rfl⟩
  have HT := Lib.hid hT
  rw [hT] at hkl
  obtain ⟨hk1, hk2, hk3⟩ := hkl
  have HK2 := Lib.hid hk2
  clear hT hk2
  obtain ⟨wo, rfl⟩ : ∃ wo : World, wo = wr := ⟨_, rfl⟩
  go_wp2_with fail
  go_loopw [10, 11] (fun k i wr => ∃ r : Nat, q < r ∧ r ≤ e ∧ i = .int .i64 (r : Int) ∧ ∃ K : Int, k = .int .i64 K ∧ Hid (K = s.kept q (r - q - 1)) ∧ wr = wo) (fun _ i _ => e - (intOf i).toNat)
  case atStart => exact ⟨q + 1, by omega, by omega, by go_num, 0, rfl, by show _ = _; rw [show q + 1 - q - 1 = 0 by omega]; rfl, rfl⟩
  case round =>
  obtain ⟨r, hr1, hr2, rfl, K, rfl, hK, rfl⟩ := hrel
  by_cases hlt2 : r < e
  · obtain ⟨gn, on, x, rfl, hgn, c0, hx⟩ := HN.out r (by omega)
    rw [← HB0.out.cell (p := ⟨gn, on + r, none⟩) hgn] at c0
    have hxb : 0 ≤ x ∧ x ≤ 1000 := by have := HS.out.need r (by have := Hn.out; omega); rwa [hx.out] at this
    have hKb := HS.out.kept q (r - q - 1) (by have := Hn.out; omega)
    rw [← hK.out] at hKb
    have HK1 : Hid (K + x = s.kept q (r + 1 - q - 1)) := by
      show _ = _
      rw [show r + 1 - q - 1 = (r - q - 1) + 1 by omega]
      show _ = s.kept q (r - q - 1) + s.need.getD (q + 1 + (r - q - 1)) 0
      rw [← hK.out, show q + 1 + (r - q - 1) = r by omega, hx.out]
    obtain ⟨hKb1, hKb2⟩ := hKb
    obtain ⟨hxb1, hxb2⟩ := hxb
    clear hK
    go_wp2_with fail
    go_roundw
    case rel => exact ⟨r + 1, by omega, by omega, by go_num, K + x, rfl, HK1, trivial⟩
    case measure => simp [intOf]; omega
  obtain rfl : r = e := by omega
  obtain rfl : K = T := by rw [hK.out, HT.out]
  clear hK
  by_cases hgt : K ≤ rm
  case neg =>
    have hqa : q = a := by
      rcases Nat.lt_or_ge a q with h | h
      · have := hFit.out h
        have := HK2.out
        omega
      · omega
    have hok : okE s a r = false := by
      rw [HOK.out]
      refine decide_eq_false ?_
      have h9 := HT.out
      rw [hqa] at h9
      rw [h9]
      exact hgt
    have HFin : Hid (CoverRet s a r w (.returned (.tuple #[.int .i64 0, .bool false])) wr) := ⟨by rw [hok]; rfl, HB0.out⟩
    have hgt' : rm < K := by omega
    clear hok hqa
    go_wp2_with fail
    go_ret2
    exact HFin.out
  have hFit2 : Hid (a < q + 1 → s.kept a (r - a - 1) ≤ rm) := fun _ => by
    rcases Nat.lt_or_ge a q with h | h
    · exact hFit.out h
    · have h9 := HT.out
      rw [show q = a by omega] at h9
      rw [h9]
      exact hgt
  obtain ⟨y, hy⟩ : ∃ y, K * kp = y := ⟨_, rfl⟩
  have hy1 : 0 ≤ y := by rw [← hy]; exact Int.mul_nonneg hk1 hkb1
  have hy2 : y ≤ 20000000 := by
    rw [← hy]
    exact Int.le_trans (Int.mul_le_mul_of_nonneg_right hk3 hkb1) (Int.mul_le_mul_of_nonneg_left hkb2 (show (0 : Int) ≤ 20000 by omega))
  have HC1 : Hid (C + y = xo + kp * kS s r a (q + 1 - a)) := by
    show _ = _
    rw [show q + 1 - a = (q - a) + 1 by omega]
    show _ = xo + kp * (kS s r a (q - a) + s.kept (a + (q - a)) (r - (a + (q - a)) - 1))
    rw [show a + (q - a) = q by omega, HT.out, Int.mul_add, hC.out, ← hy, Int.mul_comm K kp]
    omega
  clear hC hFit
  go_wp2_with fail
  go_roundw
  case rel => exact ⟨q + 1, by omega, by omega, by go_num, C + y, rfl, by omega, by omega, HC1, hFit2, trivial⟩
  case measure => simp [intOf]; omega
end Go.Proofs.Ytpkepacbondopaa

namespace Go.Proofs.Ytpkepacbondopaa
open Go.RowKit
attribute [local go_sem] Oper.semAt_some

/-- What Proves must answer for any supply and prices. -/
def PrvIs (s : SupD) (p : List Int) (x c : Int) : Prop :=
  (checkS s ≠ 0 ∧ x = 0 ∧ c = checkS s) ∨ (checkS s = 0 ∧ pricesB s.need.length p = false ∧ x = 0 ∧ c = 1) ∨ (checkS s = 0 ∧ pricesB s.need.length p = true ∧ ((Fea s p ∧ x = p.getD s.need.length 0 ∧ c = 0) ∨ (¬ Fea s p ∧ x = 0 ∧ c = 7)))
theorem PrvIs.one {s : SupD} {p : List Int} {x c y d : Int} (h : PrvIs s p x c) (k : PrvIs s p y d) : x = y ∧ c = d := by
  rcases h with ⟨h1, h2, h3⟩ | ⟨h1, h2, h3, h4⟩ | ⟨h1, h2, h3⟩
  · rcases k with ⟨k1, k2, k3⟩ | ⟨k1, -⟩ | ⟨k1, -⟩
    · exact ⟨h2.trans k2.symm, h3.trans k3.symm⟩
    · exact absurd k1 h1
    · exact absurd k1 h1
  · rcases k with ⟨k1, -⟩ | ⟨k1, k2, k3, k4⟩ | ⟨k1, k2, -⟩
    · exact absurd h1 k1
    · exact ⟨h3.trans k3.symm, h4.trans k4.symm⟩
    · rw [h2] at k2; cases k2
  · rcases k with ⟨k1, -⟩ | ⟨k1, k2, -⟩ | ⟨k1, k2, k3⟩
    · exact absurd h1 k1
    · rw [h2] at k2; cases k2
    · rcases h3 with ⟨a1, a2, a3⟩ | ⟨a1, a2, a3⟩ <;> rcases k3 with ⟨b1, b2, b3⟩ | ⟨b1, b2, b3⟩
      · exact ⟨a2.trans b2.symm, a3.trans b3.symm⟩
      · exact absurd a1 b1
      · exact absurd b1 a1
      · exact ⟨a2.trans b2.symm, a3.trans b3.symm⟩
def PrvR (s : SupD) (p : List Int) (w : World) (e : Ending) (w' : World) : Prop := ∃ x c, e = .returned (.tuple #[.int .i64 x, .int .i64 c]) ∧ PrvIs s p x c ∧ Below w.heap.size w w'
/-- The batches of a week, up to one of them. -/
def FeaA (s : SupD) (p : List Int) (a q : Nat) : Prop := ∀ e, a < e → e < q → okE s a e = true → p.getD e 0 ≤ p.getD a 0 + costE s a e
theorem fea_of {s : SupD} {p : List Int} (h : ∀ a, a < s.need.length → FeaA s p a (s.need.length + 1)) : Fea s p := fun a ha e he => by
  obtain ⟨⟨h1, h2⟩, h3⟩ := (mem_batchN ha).1 he
  exact h a ha e h1 (by omega) h3
theorem not_fea {s : SupD} {p : List Int} {a e : Nat} (ha : a < s.need.length) (h1 : a < e) (h2 : e ≤ s.need.length) (h3 : okE s a e = true) (h4 : p.getD a 0 + costE s a e < p.getD e 0) : ¬ Fea s p := fun h => by
  have := h a ha e ((mem_batchN ha).2 ⟨⟨h1, h2⟩, h3⟩)
  omega
set_option maxRecDepth 100000 in
set_option maxHeartbeats 4000000 in
theorem refProves_any (s : SupD) (p : List Int) (v u : Value) (w : World) (h : RSup w.heap.size w v s) (hu : RInts w.heap.size w u p) (hl : p.length ≤ 1000) :
    Calls Try.prog 71 #[v, u] w (PrvR s p w) := by
  have HSUP := h
  obtain ⟨vn, vo, rfl, hN, hO⟩ := h
  obtain ⟨An, cn, rfl, hnm, -⟩ := hN.open_
  obtain ⟨Ao, co, rfl, hom, -⟩ := hO.open_
  obtain ⟨Au, cu, rfl, hum, hr⟩ := hu.open_
  obtain ⟨m, hm⟩ : ∃ m, s.need.length = m := ⟨_, rfl⟩
  obtain ⟨o, ho⟩ : ∃ m, s.order.length = m := ⟨_, rfl⟩
  obtain ⟨n, hn⟩ : ∃ m, p.length = m := ⟨_, rfl⟩
  rw [hm] at hnm HSUP ⊢
  rw [ho] at hom HSUP ⊢
  rw [hn] at hum hr hl ⊢
  have HM := Lib.hid hm
  have Hn := Lib.hid hn
  have HR := Lib.hid hr
  have HSUP := Lib.hid HSUP
  obtain ⟨r, hrr⟩ : ∃ r, checkS s = r := ⟨_, rfl⟩
  have HC := Lib.hid hrr
  have HFF : Hid (∀ x c W, Below w.heap.size w W → PrvIs s p x c → PrvR s p w (.returned (.tuple #[.int .i64 x, .int .i64 c])) W) := fun x c W hW h => ⟨x, c, rfl, h, hW⟩
  have F0 : ∃ W0, w.alloc (.cells #[.slice An m cn, .slice Ao o co, .int .i64 s.keep, .int .i64 s.room] 138) = W0 ∧ Below w.heap.size w W0 ∧ Blk W0 w.heap.size 138 #[.slice An m cn, .slice Ao o co, .int .i64 s.keep, .int .i64 s.room] := ⟨_, rfl, below_alloc _ _, Blk.new _ _ _⟩
  obtain ⟨W0, e0, hb0, B0⟩ := F0
  have E0 := Lib.hid e0
  have CC := Lib.hid (refCheckSupply_any s _ W0 ((HSUP.out.below hb0).more hb0.size))
  rw [hrr] at CC
  have HB0 := Lib.hid hb0
  have HK0 := Lib.hid B0
  have s0 := cellOf B0 0 (x := .slice An m cn) rfl
  have s1 := cellOf B0 1 (x := .slice Ao o co) rfl
  have s2 := cellOf B0 2 (x := .int .i64 s.keep) rfl
  have s3 := cellOf B0 3 (x := .int .i64 s.room) rfl
  clear hN hO hu hr hm ho hn e0 hb0 B0 hrr
  go_enter Try.func71, Try.ntmps71
  go_upto_region 1 with fail
  rw [E0.out]
  go_wp2_with fail
  refine CC.out.mono ?_
  rintro _ W1 ⟨rfl, hb1⟩
  have HB1 : Hid (Below w.heap.size w W1) := HB0.out.trans (hb1.mono HB0.out.size)
  have HK1 := Lib.hid (HK0.out.below hb1 HK0.out.lt)
  clear hb1 s0 s1 s2 s3 CC
  by_cases hr0 : r = 0
  case neg =>
    have HX := Lib.hid (HFF.out 0 r W1 HB1.out (.inl ⟨by rw [HC.out]; exact hr0, rfl, HC.out.symm⟩))
    have hr1 : (r != 0) = true := by simpa using hr0
    clear hr0
    go_wp2_with fail
    go_ret2
    exact HX.out
  subst hr0
  have HS := Lib.hid (checkS_ok HC.out)
  have hm20 : 1 ≤ m ∧ m ≤ 20 := by have := HS.out.weeks; have := HM.out; omega
  obtain rfl : o = m := by
    have h1 := HSUP.out
    obtain ⟨a, b, e, ha, hb⟩ := h1
    obtain ⟨A', c', e', -, -⟩ := hb.open_
    rw [e'] at e
    simp only [Value.agg.injEq, Array.mk.injEq, List.cons.injEq, Value.slice.injEq] at e
    have h2 := HS.out.same
    have h3 := HM.out
    omega
  have s0 := cellOf HK1.out 0 (x := .slice An o cn) rfl
  by_cases hno : n = o + 1
  case neg =>
    have hpb : pricesB s.need.length p = false := by unfold pricesB; rw [HM.out, Hn.out]; simp [hno]
    have HX := Lib.hid (HFF.out 0 1 W1 HB1.out (.inr (.inl ⟨HC.out, hpb, rfl, rfl⟩)))
    have g1 : ((n : Int) != (o : Int) + 1) = true := by simp; omega
    clear hpb
    go_wp2_with fail
    go_ret2
    exact HX.out
  have g1 : ((n : Int) != (o : Int) + 1) = false := by simp; omega
  obtain ⟨b, ob, x0, rfl, hb, c0, hx0⟩ := HR.out 0 (by omega)
  rw [Nat.add_zero] at c0
  rw [← HB1.out.cell (p := ⟨b, ob, none⟩) hb] at c0
  by_cases hx00 : x0 = 0
  case neg =>
    have hpb : pricesB s.need.length p = false := by unfold pricesB; rw [hx0.out]; simp [hx00]
    have HX := Lib.hid (HFF.out 0 1 W1 HB1.out (.inr (.inl ⟨HC.out, hpb, rfl, rfl⟩)))
    have g2 : (x0 != 0) = true := by simpa using hx00
    have gn : (0 : Int) < (n : Int) := by omega
    clear hpb hx0
    go_wp2_with fail
    go_ret2
    exact HX.out
  subst hx00
  have gn : (0 : Int) < (n : Int) := by omega
  have hB1 := HB1.out
  have HCELL : Hid (∀ X, Below w.heap.size w X → ∀ j, j ≤ o → X.cell? ⟨b, ob + j, none⟩ = some (.int .i64 (p.getD j 0))) := fun X hX j hj => by
    obtain ⟨g', o', x, e9, hg', c0, hx⟩ := HR.out j (by omega)
    injection e9 with e9
    injection e9 with e1 e2
    subst e1
    subst e2
    rw [hx.out, hX.cell (p := ⟨b, ob + j, none⟩) hg']
    exact c0
  have HP0 := Lib.hid hx0.out
  clear hB1 hx0
  go_wp2_with fail
  clear c0 s0
  go_loopw [8] (fun i wr => ∃ k : Nat, k ≤ o + 1 ∧ i = .int .i64 (k : Int) ∧ Hid (∀ j, j < k → withinB (p.getD j 0) (-1000000000000) 1000000000000 = true) ∧ wr = W1) (fun i _ => o + 1 - (intOf i).toNat)
  case atStart => exact ⟨0, Nat.zero_le _, rfl, fun j hj => absurd hj (Nat.not_lt_zero _), rfl⟩
  case round =>
  obtain ⟨k, hk, rfl, hall, rfl⟩ := hrel
  by_cases hlt : k < o + 1
  · have c0 := HCELL.out wr HB1.out k (by omega)
    obtain ⟨y, hy⟩ : ∃ y, p.getD k 0 = y := ⟨_, rfl⟩
    rw [hy] at c0
    obtain ⟨b5, hb5⟩ : ∃ q, withinB y (-1000000000000) 1000000000000 = q := ⟨_, rfl⟩
    have C5 := Lib.hid (refIn_let hb5)
    have HW : Hid (withinB (p.getD k 0) (-1000000000000) 1000000000000 = b5) := by show _ = _; rw [hy, hb5]
    have hk9 : k ≤ o := by omega
    clear hb5 hy
    go_wp2_with fail
    refine (C5.out _).mono ?_
    rintro _ _ ⟨rfl, rfl⟩
    cases b5
    · have hpb : pricesB s.need.length p = false := by
        have h9 : p.any wideB = true := List.any_eq_true.2 ⟨p.getD k 0, by
          rw [List.getD_eq_getElem?_getD, List.getElem?_eq_getElem (by rw [Hn.out]; omega), Option.getD_some]
          exact List.getElem_mem _, by unfold wideB; rw [HW.out]; rfl⟩
        unfold pricesB
        rw [h9]
        simp
      have HX := Lib.hid (HFF.out 0 1 _ HB1.out (.inr (.inl ⟨HC.out, hpb, rfl, rfl⟩)))
      clear hpb
      go_wp2_with fail
      go_ret2
      exact HX.out
    · have HA : Hid (∀ j, j < k + 1 → withinB (p.getD j 0) (-1000000000000) 1000000000000 = true) := fun j hj => by
        rcases Nat.lt_or_ge j k with h | h
        · exact hall.out j h
        · rw [show j = k by omega]; exact HW.out
      clear hall
      go_wp2_with fail
      go_roundw
      case rel => exact ⟨k + 1, by omega, by go_num, HA, trivial⟩
      case measure => simp [intOf]; omega
  have HPB : Hid (pricesB s.need.length p = true) := by
    show _ = _
    have h9 : p.any wideB = false := List.any_eq_false.2 fun x hx => by
      obtain ⟨j, hj, rfl⟩ := List.mem_iff_getElem.1 hx
      have h2 : p[j] = p.getD j 0 := by rw [List.getD_eq_getElem?_getD, List.getElem?_eq_getElem hj, Option.getD_some]
      unfold wideB
      rw [h2, hall.out j (by have := Hn.out; omega)]
      decide
    unfold pricesB
    rw [h9, HP0.out, HM.out, Hn.out]
    simp [hno]
  have HIN : Hid (∀ j, j ≤ o → -1000000000000 ≤ p.getD j 0 ∧ p.getD j 0 ≤ 1000000000000) := fun j hj => within_iff.1 (hall.out j (by omega))
  obtain ⟨wo, rfl⟩ : ∃ wo : World, wo = wr := ⟨_, rfl⟩
  have gk : decide (k ≤ o) = false := by simp; omega
  clear hall
  go_wp2_with fail
  go_loopw [9] (fun i wr => ∃ a : Nat, a ≤ o ∧ i = .int .i64 (a : Int) ∧ Hid (∀ j, j < a → FeaA s p j (o + 1)) ∧ Hid (Below wo.heap.size wo wr)) (fun i _ => o - (intOf i).toNat)
  case atStart => exact ⟨0, Nat.zero_le _, rfl, fun j hj => absurd hj (Nat.not_lt_zero _), Below.refl _ _⟩
  case round =>
  obtain ⟨a, ha, rfl, hfa, hB⟩ := hrel
  obtain ⟨X, rfl⟩ : ∃ X : World, X = wr := ⟨_, rfl⟩
  have HBX : Hid (Below w.heap.size w X) := HB1.out.trans (hB.out.mono HB1.out.size)
  by_cases hlt : a < o
  case neg =>
    obtain rfl : a = o := by omega
    have c0 := HCELL.out X HBX.out a (Nat.le_refl _)
    obtain ⟨y, hy⟩ : ∃ y, p.getD a 0 = y := ⟨_, rfl⟩
    rw [hy] at c0
    have HX := Lib.hid (HFF.out y 0 X HBX.out (.inr (.inr ⟨HC.out, HPB.out, .inl ⟨fea_of fun j hj => by rw [HM.out] at hj ⊢; exact hfa.out j hj, by rw [HM.out, hy], rfl⟩⟩)))
    have ga : (a : Int) < (n : Int) := by omega
    clear hy hfa hB
    go_wp2_with fail
    go_ret2
    exact HX.out
  go_wp2_with fail
  go_loopw [10] (fun i wr => ∃ q : Nat, a < q ∧ q ≤ o + 1 ∧ i = .int .i64 (q : Int) ∧ Hid (FeaA s p a q) ∧ Hid (Below wo.heap.size wo wr)) (fun i _ => o + 1 - (intOf i).toNat)
  case atStart => exact ⟨a + 1, by omega, by omega, by go_num, fun e h1 h2 => by omega, hB⟩
  case round =>
  clear hB HBX
  obtain ⟨q, hq1, hq2, rfl, hfq, hB⟩ := hrel
  obtain ⟨X, rfl⟩ : ∃ X : World, X = wr := ⟨_, rfl⟩
  have HBX : Hid (Below w.heap.size w X) := HB1.out.trans (hB.out.mono HB1.out.size)
  by_cases hlt2 : q < o + 1
  case neg =>
    obtain rfl : q = o + 1 := by omega
    have HFN : Hid (∀ j, j < a + 1 → FeaA s p j (o + 1)) := fun j hj => by
      rcases Nat.lt_or_ge j a with h | h
      · exact hfa.out j h
      · rw [show j = a by omega]; exact hfq.out
    clear hfq hfa
    go_wp2_with fail
    go_roundw
    case rel => exact ⟨a + 1, by omega, by go_num, HFN, hB⟩
    case measure => simp [intOf]; omega
  have HKX := Lib.hid (HK1.out.below hB.out HK1.out.lt)
  have s0 := cellOf HKX.out 0 (x := .slice An o cn) rfl
  have s1 := cellOf HKX.out 1 (x := .slice Ao o co) rfl
  have s2 := cellOf HKX.out 2 (x := .int .i64 s.keep) rfl
  have s3 := cellOf HKX.out 3 (x := .int .i64 s.room) rfl
  have CV := Lib.hid (cover_any s HS.out a q hq1 (by rw [HM.out]; omega) _ X ((HSUP.out.below HBX.out).more HBX.out.size))
  have hcb := HS.out.costE_bound (a := a) (e := q) hq1 (by rw [HM.out]; omega)
  obtain ⟨ok, hok⟩ : ∃ x, okE s a q = x := ⟨_, rfl⟩
  obtain ⟨cs, hcs⟩ : ∃ x, costE s a q = x := ⟨_, rfl⟩
  rw [hcs] at hcb
  unfold CoverRet at CV
  rw [hok, hcs] at CV
  have HOKE := Lib.hid hok
  have HCS := Lib.hid hcs
  clear hok hcs
  go_wp2_with fail
  refine CV.out.mono ?_
  rintro _ X2 ⟨rfl, hb2⟩
  have HBX2 : Hid (Below w.heap.size w X2) := HBX.out.trans (hb2.mono HBX.out.size)
  have hB2 : Hid (Below wo.heap.size wo X2) := hB.out.trans (hb2.mono hB.out.size)
  have d0 := HCELL.out X2 HBX2.out a (by omega)
  have d1 := HCELL.out X2 HBX2.out q (by omega)
  have pa := HIN.out a (by omega)
  have pq := HIN.out q (by omega)
  obtain ⟨ya, hya⟩ : ∃ y, p.getD a 0 = y := ⟨_, rfl⟩
  obtain ⟨yq, hyq⟩ : ∃ y, p.getD q 0 = y := ⟨_, rfl⟩
  rw [hya] at d0 pa
  rw [hyq] at d1 pq
  have HYA := Lib.hid hya
  have HYQ := Lib.hid hyq
  obtain ⟨pa1, pa2⟩ := pa
  obtain ⟨pq1, pq2⟩ := pq
  obtain ⟨hcb1, hcb2⟩ := hcb
  clear hya hyq CV s0 s1 s2 s3 hb2 hB HBX HKX
  have ia : (a : Int) < (n : Int) := by omega
  have iq : (q : Int) < (n : Int) := by omega
  have ia0 : (0 : Int) ≤ (a : Int) := by omega
  have iq0 : (0 : Int) ≤ (q : Int) := by omega
  have kw : IntKind.i64.wrap (yq - ya) = yq - ya := IntWalk.i64_in _ ⟨by omega, by omega⟩
  cases ok
  · have HFN : Hid (FeaA s p a (q + 1)) := fun e h1 h2 h3 => by
      rcases Nat.lt_or_ge e q with h | h
      · exact hfq.out e h1 h h3
      · rw [show e = q by omega, HOKE.out] at h3; cases h3
    clear hfq
    go_upto_region 19 with fail
    go_cut [75] (fun s wx => s = .bool false ∧ Hid (Below X2.heap.size X2 wx))
    case first =>
      go_quiet (fail)
      go_wp2_with fail
      go_meet
      exact ⟨rfl, below_drewN (Below.refl _ _) _⟩
    case rest =>
    obtain ⟨rfl, hb9⟩ := hcut
    have hB9 : Hid (Below wo.heap.size wo wc) := hB2.out.trans (hb9.out.mono hB2.out.size)
    clear hb9 d0 d1 kw
    go_wp2_with fail
    go_roundw
    case rel =>
      first
        | exact ⟨q + 1, by omega, by omega, by go_num, HFN, hB9⟩
        | (repeat apply Exists.intro
           refine ⟨?_, rfl⟩
           exact ⟨q + 1, by omega, by omega, by go_num, HFN, hB9⟩)
    case measure => simp [intOf]; omega
  · obtain ⟨bg, hbg⟩ : ∃ x, decide (cs < yq - ya) = x := ⟨_, rfl⟩
    have HBG := Lib.hid hbg
    go_upto_region 19 with fail
    go_cut [75] (fun s wx => s = .bool bg ∧ Hid (Below X2.heap.size X2 wx))
    case first =>
      clear hbg
      go_quiet (fail)
      go_wp2_with fail
      go_meet
      exact ⟨by rw [HBG.out], below_drewN (Below.refl _ _) _⟩
    case rest =>
    obtain ⟨rfl, hb9⟩ := hcut
    have hB9 : Hid (Below wo.heap.size wo wc) := hB2.out.trans (hb9.out.mono hB2.out.size)
    have HBX9 : Hid (Below w.heap.size w wc) := HBX2.out.trans (hb9.out.mono HBX2.out.size)
    clear hb9 d0 d1 kw hbg
    cases bg
    · have HFN : Hid (FeaA s p a (q + 1)) := fun e h1 h2 h3 => by
        rcases Nat.lt_or_ge e q with h | h
        · exact hfq.out e h1 h h3
        · rw [show e = q by omega, HYQ.out, HYA.out, HCS.out]
          have := of_decide_eq_false HBG.out
          omega
      clear hfq
      go_wp2_with fail
      go_roundw
      case rel =>
        first
          | exact ⟨q + 1, by omega, by omega, by go_num, HFN, hB9⟩
          | (repeat apply Exists.intro
             refine ⟨?_, rfl⟩
             exact ⟨q + 1, by omega, by omega, by go_num, HFN, hB9⟩)
      case measure => simp [intOf]; omega
    · have HX := Lib.hid (HFF.out 0 7 wc HBX9.out (.inr (.inr ⟨HC.out, HPB.out, .inr ⟨not_fea (by rw [HM.out]; exact hlt) hq1 (by rw [HM.out]; omega) HOKE.out (by
        rw [HYA.out, HYQ.out, HCS.out]
        have := of_decide_eq_true HBG.out
        omega), rfl, rfl⟩⟩)))
      clear hfq hfa hB9 hB2
      go_wp2_with fail
      go_ret2
      exact HX.out
end Go.Proofs.Ytpkepacbondopaa

namespace Go.Proofs.Ytpkepacbondopaa
open Go.RowKit
attribute [local go_sem] Oper.semAt_some

/-- Numbers that are no less than the prices. -/
structure PI (s : SupD) (L : List Int) : Prop where
  len : L.length = s.need.length + 1
  zero : L.getD 0 0 = 0
  low : ∀ j, j ≤ s.need.length → (priceL s).getD j 0 ≤ L.getD j 0 ∧ L.getD j 0 ≤ 20000000
def sumN (L : List Int) : Nat := (L.map Int.toNat).sum
theorem sumN_set : ∀ {L : List Int} {k : Nat} {x : Int}, k < L.length → x.toNat < (L.getD k 0).toNat → sumN (L.set k x) < sumN L
  | [], k, x, h, _ => by cases h
  | a :: L, 0, x, _, h => by
    have h1 : x.toNat < a.toNat := h
    show ((x :: L).map Int.toNat).sum < ((a :: L).map Int.toNat).sum
    simp only [List.map_cons, List.sum_cons]
    omega
  | a :: L, k + 1, x, h, h2 => by
    have h3 := sumN_set (L := L) (k := k) (x := x) (by simpa using h) (by simpa using h2)
    unfold sumN at h3
    show ((a :: L.set k x).map Int.toNat).sum < ((a :: L).map Int.toNat).sum
    simp only [List.map_cons, List.sum_cons]
    omega
theorem PI.step {s : SupD} (hs : s.Ok) {L : List Int} (h : PI s L) {i k : Nat} (h1 : i < k) (h2 : k ≤ s.need.length) (h3 : okE s i k = true) (h4 : L.getD i 0 + costE s i k < L.getD k 0) : PI s (L.set k (L.getD i 0 + costE s i k)) ∧ sumN (L.set k (L.getD i 0 + costE s i k)) < sumN L := by
  have hb := price_low hs (B := 1000000) (fun k hk => (hs.order k hk).2)
  have hc := hs.costE_bound h1 h2
  have hf := priceL_fea hs i (by omega) k ((mem_batchN (by omega)).2 ⟨⟨h1, h2⟩, h3⟩)
  have hi := h.low i (by omega)
  have hk := h.low k h2
  have hbi := hb i (by omega)
  refine ⟨⟨by rw [List.length_set]; exact h.len, ?_, fun j hj => ?_⟩, sumN_set (by rw [h.len]; omega) (by omega)⟩
  · rw [getD_set, if_neg (by omega)]
    exact h.zero
  · rw [getD_set]
    split
    · rename_i h9
      rw [← h9.1]
      omega
    · exact h.low j hj
theorem PI.same {s : SupD} (hs : s.Ok) {L : List Int} (h : PI s L) (hf : Fea s L) : L = priceL s := by
  have hle : ∀ e, e ≤ s.need.length → L.getD e 0 ≤ (priceL s).getD e 0 := by
    intro e
    induction e using Nat.strongRecOn with
    | _ e ih =>
      intro he
      rcases Nat.eq_zero_or_pos e with h0 | h0
      · subst h0
        rw [h.zero, priceL_zero hs]
        omega
      · obtain ⟨a, h1, h2, h3⟩ := priceL_tight hs (e := e) h0 he
        have h4 := batchN_mem h1 h2
        have h5 := ih a h4.1 (by omega)
        have h6 := hf a h1 e h2
        omega
  refine List.ext_getElem (by rw [h.len, priceL_len hs]) fun j h1 h2 => ?_
  have h3 := hle j (by rw [h.len] at h1; omega)
  have h4 := h.low j (by rw [h.len] at h1; omega)
  have e1 : L[j] = L.getD j 0 := by rw [List.getD_eq_getElem?_getD, List.getElem?_eq_getElem h1, Option.getD_some]
  have e2 : (priceL s)[j] = (priceL s).getD j 0 := by rw [List.getD_eq_getElem?_getD, List.getElem?_eq_getElem h2, Option.getD_some]
  rw [e1, e2]
  omega
/-- The sums of the orders, up to one of them. -/
def PS (s : SupD) (k : Nat) (L : List Int) : Prop := L.length = s.need.length + 1 ∧ L.getD 0 0 = 0 ∧ ∀ j, j < k → (priceL s).getD j 0 ≤ L.getD j 0 ∧ L.getD j 0 ≤ 1000000 * (j : Int)
theorem PS.start (s : SupD) (hs : s.Ok) : PS s 1 (List.replicate (s.need.length + 1) 0) := by
  refine ⟨by simp, rfl, fun j hj => ?_⟩
  obtain rfl : j = 0 := by omega
  rw [priceL_zero hs]
  exact ⟨Int.le_refl _, by simp⟩
theorem PS.next {s : SupD} (hs : s.Ok) {k : Nat} {L : List Int} (h : PS s (k + 1) L) (hk : k < s.need.length) : PS s (k + 1 + 1) (L.set (k + 1) (L.getD k 0 + s.order.getD k 0)) ∧ 0 ≤ L.getD k 0 + s.order.getD k 0 ∧ L.getD k 0 + s.order.getD k 0 ≤ 30000000 := by
  obtain ⟨h1, h2, h3⟩ := h
  have h4 := h3 k (by omega)
  have h5 := hs.order k hk
  have h6 := priceL_fea hs k hk (k + 1) (batchN_next hs hk)
  have h7 : costE s k (k + 1) = s.order.getD k 0 := by
    unfold costE
    rw [show k + 1 - k - 1 = 0 by omega]
    rfl
  have h8 := price_low hs (B := 1000000) (fun k hk => (hs.order k hk).2) k (by omega)
  have h9 := hs.weeks
  refine ⟨⟨by rw [List.length_set]; exact h1, by rw [getD_set, if_neg (by omega)]; exact h2, fun j hj => ?_⟩, by omega, by omega⟩
  rw [getD_set]
  split
  · rename_i h
    rw [← h.1]
    omega
  · rename_i h
    exact h3 j (by omega)
theorem PS.all {s : SupD} (hs : s.Ok) {L : List Int} (h : PS s (s.need.length + 1) L) : PI s L :=
  ⟨h.1, h.2.1, fun j hj => by have := h.2.2 j (by omega); have := hs.weeks; omega⟩
/-- The row in the making. -/
structure RpS (w1 : World) (G n : Nat) (L : List Int) (X : World) : Prop where
  low : Below w1.heap.size w1 X
  blk : Blk X G 3 (L.map (Value.int .i64)).toArray
  own : w1.heap.size ≤ G
  len : L.length = n + 1
section
variable {w1 X Y : World} {G n : Nat} {L : List Int}
theorem RpS.below (h : RpS w1 G n L X) (hb : Below X.heap.size X Y) : RpS w1 G n L Y := ⟨h.low.trans (hb.mono h.low.size), h.blk.below hb h.blk.lt, h.own, h.len⟩
theorem RpS.put (h : RpS w1 G n L X) (k : Nat) (x : Int) : RpS w1 G n (L.set k x) (X.setCell ⟨G, k, none⟩ (.int .i64 x)) :=
  ⟨h.low.setCell (by exact h.own) _, arr_put h.blk k x, h.own, by rw [List.length_set]; exact h.len⟩
theorem RpS.cell (h : RpS w1 G n L X) {j : Nat} (hj : j ≤ n) : X.cell? ⟨G, j, none⟩ = some (.int .i64 (L.getD j 0)) := arr_cell h.blk (by rw [h.len]; omega)
theorem RpS.row (h : RpS w1 G n L X) (hn : n ≤ 1000) : OInts w1.heap.size X (.slice (some ⟨G, 0, none⟩) (n + 1) (n + 1)) L := by
  unfold OInts
  rw [h.len]
  exact ⟨by simp [h.len], .inr ⟨G, n + 1, _, rfl, h.own, h.blk, Nat.le_refl _, by simp only [maxLen]; omega, by simp [h.len], by
    rw [Nat.mul_one]
    exact List.take_of_length_le (by rw [List.length_map, h.len]; exact Nat.le_refl _)⟩⟩
end
/-- A pass over all batches: nothing has changed, or it has become less. -/
def PassI (s : SupD) (L0 : List Int) (ch : Bool) (L : List Int) (i : Nat) : Prop := (ch = false → L = L0 ∧ ∀ a, a < i → FeaA s L a (s.need.length + 1)) ∧ (ch = true → sumN L < sumN L0)
def PassK (s : SupD) (L0 : List Int) (ch : Bool) (L : List Int) (i q : Nat) : Prop := PassI s L0 ch L i ∧ (ch = false → FeaA s L i q) ∧ sumN L ≤ sumN L0
end Go.Proofs.Ytpkepacbondopaa

namespace Go.Proofs.Ytpkepacbondopaa
open Go.RowKit
attribute [local go_sem] Oper.semAt_some

theorem passI_next {s : SupD} {L0 L : List Int} {ch : Bool} {i : Nat} (h : PassK s L0 ch L i (s.need.length + 1)) : PassI s L0 ch L (i + 1) :=
  ⟨fun hc => ⟨(h.1.1 hc).1, fun a ha => by
    rcases Nat.lt_or_ge a i with h9 | h9
    · exact (h.1.1 hc).2 a h9
    · rw [show a = i by omega]; exact h.2.1 hc⟩, h.1.2⟩
set_option maxRecDepth 100000 in
set_option maxHeartbeats 4000000 in
theorem refPrices_any (s : SupD) (v : Value) (w : World) (h : RSup w.heap.size w v s) :
    Calls Try.prog 70 #[v] w (PricesRet s w) := by
  have HSUP := h
  obtain ⟨vn, vo, rfl, hN, hO⟩ := h
  obtain ⟨An, cn, rfl, hnm, -⟩ := hN.open_
  obtain ⟨Ao, co, rfl, hom, hoc⟩ := hO.open_
  obtain ⟨m, hm⟩ : ∃ m, s.need.length = m := ⟨_, rfl⟩
  obtain ⟨o, ho⟩ : ∃ m, s.order.length = m := ⟨_, rfl⟩
  rw [hm] at hnm HSUP ⊢
  rw [ho] at hom HSUP hoc ⊢
  have HM := Lib.hid hm
  have HO := Lib.hid ho
  have HOC := Lib.hid hoc
  have HSU := Lib.hid HSUP
  obtain ⟨r, hrr⟩ : ∃ r, checkS s = r := ⟨_, rfl⟩
  have HC := Lib.hid hrr
  have F0 : ∃ W0, w.alloc (.cells #[.slice An m cn, .slice Ao o co, .int .i64 s.keep, .int .i64 s.room] 138) = W0 ∧ Below w.heap.size w W0 ∧ Blk W0 w.heap.size 138 #[.slice An m cn, .slice Ao o co, .int .i64 s.keep, .int .i64 s.room] := ⟨_, rfl, below_alloc _ _, Blk.new _ _ _⟩
  obtain ⟨W0, e0, hb0, B0⟩ := F0
  have E0 := Lib.hid e0
  have CC := Lib.hid (refCheckSupply_any s _ W0 ((HSU.out.below hb0).more hb0.size))
  rw [hrr] at CC
  have HB0 := Lib.hid hb0
  have HK0 := Lib.hid B0
  have s0 := cellOf B0 0 (x := .slice An m cn) rfl
  have s1 := cellOf B0 1 (x := .slice Ao o co) rfl
  have s2 := cellOf B0 2 (x := .int .i64 s.keep) rfl
  have s3 := cellOf B0 3 (x := .int .i64 s.room) rfl
  clear hN hO hm ho hoc e0 hb0 B0 hrr HSUP
  go_enter Try.func70, Try.ntmps70
  go_upto_region 1 with fail
  rw [E0.out]
  go_wp2_with fail
  refine CC.out.mono ?_
  rintro _ W1 ⟨rfl, hb1⟩
  have HB1 : Hid (Below w.heap.size w W1) := HB0.out.trans (hb1.mono HB0.out.size)
  have HK1 := Lib.hid (HK0.out.below hb1 HK0.out.lt)
  clear hb1 s0 s1 s2 s3 CC
  by_cases hr0 : r = 0
  case neg =>
    have HX : Hid (PricesRet s w (.returned (.tuple #[.slice none 0 0, .int .i64 r])) W1) := ⟨_, by rw [HC.out], by rw [HC.out, if_neg hr0]; exact World.ownsRow_nil _ _ _ _, HB1.out⟩
    have hr1 : (r != 0) = true := by simpa using hr0
    clear hr0
    go_wp2_with fail
    go_ret2
    exact HX.out
  subst hr0
  have HS := Lib.hid (checkS_ok HC.out)
  have hm20 : 1 ≤ m ∧ m ≤ 20 := by have := HS.out.weeks; have := HM.out; omega
  obtain rfl : o = m := by
    have h2 := HS.out.same
    have h3 := HM.out
    have h4 := HO.out
    omega
  have hmk : ∀ u : World, (Instr.makeSlice 30 (.int .i64 ((o : Int) + 1)) (.int .i64 ((o : Int) + 1))).run Try.prog u = .ok (.slice (some ⟨u.heap.size, 0, none⟩) (o + 1) (o + 1)) (u.alloc (.cells (Array.replicate (o + 1) (.int .i64 0)) 3)) := makeInts (o + 1) (by omega)
  have F2 : ∃ W2, W1.alloc (.cells (Array.replicate (o + 1) (.int .i64 0)) 3) = W2 ∧ RpS W1 W1.heap.size o (List.replicate (o + 1) 0) W2 :=
    ⟨_, rfl, below_alloc _ _, by have := Blk.new W1 3 (Array.replicate (o + 1) (Value.int .i64 0)); rwa [show ((List.replicate (o + 1) (0 : Int)).map (Value.int .i64)).toArray = Array.replicate (o + 1) (.int .i64 0) by simp], Nat.le_refl _, by simp⟩
  obtain ⟨W2, e2, hst2⟩ := F2
  have E2 := Lib.hid e2
  have HST2 := Lib.hid hst2
  obtain ⟨G, hG⟩ : ∃ G, W1.heap.size = G := ⟨_, rfl⟩
  rw [hG] at HST2
  have HP2 : Hid (PS s 1 (List.replicate (o + 1) 0)) := by have := PS.start s HS.out; rw [HM.out] at this; exact this
  have s0 := cellOf HK1.out 0 (x := .slice An o cn) rfl
  have HSB : Hid (∀ X, Below W1.heap.size W1 X → Blk X w.heap.size 138 #[.slice An o cn, .slice Ao o co, .int .i64 s.keep, .int .i64 s.room]) := fun X hX => HK1.out.below hX HK1.out.lt
  clear e2 hst2
  go_upto_region 6 with fail
  rw [E2.out]
  clear s0 hmk E2
  go_wp2_with fail
  go_loopw [7] (fun i wr => ∃ k : Nat, k ≤ o ∧ i = .int .i64 ((k : Int) + 1) ∧ ∃ L, Hid (RpS W1 G o L wr) ∧ Hid (PS s (k + 1) L)) (fun i _ => o + 1 - (intOf i).toNat)
  case atStart => exact ⟨0, Nat.zero_le _, rfl, _, HST2, HP2⟩
  case round =>
  obtain ⟨k, hk, rfl, L, hst, hps⟩ := hrel
  obtain ⟨X, rfl⟩ : ∃ X : World, X = wr := ⟨_, rfl⟩
  by_cases hlt : k < o
  · have hBX : Below w.heap.size w X := HB1.out.trans (hst.out.low.mono HB1.out.size)
    obtain ⟨go, oo, x, rfl, hgo, d0, hx⟩ := HOC.out k hlt
    rw [← hBX.cell (p := ⟨go, oo + k, none⟩) hgo] at d0
    have c0 := hst.out.cell (j := k) (by omega)
    have fz : X.frozen? ⟨G, k + 1, none⟩ = false := hst.out.blk.frozen _
    have c1 := hst.out.cell (j := k + 1) (by omega)
    have S := HSB.out X hst.out.low
    have s1 := cellOf S 1 (x := .slice (some ⟨go, oo, none⟩) o co) rfl
    obtain ⟨hpn, hb1, hb2⟩ := hps.out.next HS.out (by rw [HM.out]; exact hlt)
    have hpb := (hps.out.2.2 k (by omega))
    have hp0 := price_low HS.out (B := 1000000) (fun k hk => (HS.out.order k hk).2) k (by rw [HM.out]; omega)
    rw [hx.out] at hpn hb1 hb2
    obtain ⟨y, hy⟩ : ∃ y, L.getD k 0 = y := ⟨_, rfl⟩
    obtain ⟨y1, hy1⟩ : ∃ y, L.getD (k + 1) 0 = y := ⟨_, rfl⟩
    rw [hy] at c0 hpn hb1 hb2 hpb
    rw [hy1] at c1
    have HPN := Lib.hid hpn
    have hxb := HS.out.order k (by rw [HM.out]; exact hlt)
    rw [hx.out] at hxb
    obtain ⟨hxb1, hxb2⟩ := hxb
    have HST3 : Hid (RpS W1 G o (L.set (k + 1) (y + x)) (X.setCell ⟨G, k + 1, none⟩ (.int .i64 (y + x))).drew) := (hst.out.put (k + 1) (y + x)).below (Below.refl _ _).drew
    have hyb : 0 ≤ y ∧ y ≤ 30000000 := by omega
    obtain ⟨hyb1, hyb2⟩ := hyb
    have kw : IntKind.i64.wrap ((k : Int) + 1 - 1) = (k : Int) := by rw [show (k : Int) + 1 - 1 = (k : Int) by omega]; exact IntWalk.i64_in _ ⟨by omega, by omega⟩
    have kw2 : IntKind.i64.wrap (y + x) = y + x := IntWalk.i64_in _ ⟨by omega, by omega⟩
    have i0 : (0 : Int) ≤ (k : Int) := by omega
    have i1 : (k : Int) < (o : Int) := by omega
    have i2 : (k : Int) < (o : Int) + 1 := by omega
    have i3 : (k : Int) + 1 < (o : Int) + 1 := by omega
    have i4 : (0 : Int) ≤ (k : Int) + 1 := by omega
    have i5 : ((k : Int) + 1).toNat = k + 1 := by omega
    clear S hy hy1 hpn hps hst hx hp0 hpb hBX
    go_upto_region 9 with fail
    refine wp_tail 15 (by kernel_rfl) (by kernel_rfl) ?_
    simp only [List.take_succ_cons, List.take_zero, List.drop_succ_cons, List.drop_zero]
    repeat go_big_quiet_step (fail)
    refine wpQuiet_nil ?_
    clear kw kw2
    go_wp2_with fail
    go_roundw
    case rel => exact ⟨k + 1, by omega, by go_num, _, HST3, HPN⟩
    case measure => simp [intOf]; omega
  obtain rfl : k = o := by omega
  have HPI : Hid (PI s L) := by
    refine PS.all HS.out ?_
    rw [HM.out]
    exact hps.out
  obtain ⟨X0, rfl⟩ : ∃ X0 : World, X0 = X := ⟨X, rfl⟩
  have gt : ¬ (k : Int) + 1 ≤ (k : Int) := by omega
  clear hps
  go_wp2_with fail
  go_loopg [8] (sumN L + 1) (fun g ch wr => ∃ b : Bool, ch = .bool b ∧ ∃ L, Hid (RpS W1 G k L wr) ∧ Hid (PI s L) ∧ Hid (b = false → Fea s L) ∧ Hid (b = true → g = sumN L + 1))
  case atStart => exact ⟨true, rfl, L, hst, HPI, fun h => (by cases h), fun _ => rfl⟩
  case round =>
  clear hst HPI
  obtain ⟨b, rfl, L, hst, hpi, hfe, hg⟩ := hrel
  obtain ⟨X, rfl⟩ : ∃ X : World, X = wr := ⟨_, rfl⟩
  cases b
  case false =>
    have HX : Hid (PricesRet s w (.returned (.tuple #[.slice (some ⟨G, 0, none⟩) (k + 1) (k + 1), .int .i64 0])) X) := by
      have h1 := hpi.out.same HS.out (hfe.out rfl)
      have h2 := hst.out.row (by omega)
      rw [h1] at h2
      refine ⟨_, by rw [HC.out], ?_, HB1.out.trans (hst.out.low.mono HB1.out.size)⟩
      rw [HC.out, if_pos rfl]
      exact ownsRow_base h2 HB1.out.size
    clear hst hpi hfe hg
    go_wp2_with fail
    go_ret2
    exact HX.out
  have HG : Hid (gk = sumN L + 1) := hg.out rfl
  obtain ⟨L0, hL0⟩ : ∃ L0, L0 = L := ⟨_, rfl⟩
  have HL0 := Lib.hid hL0
  have HPASS : Hid (PassI s L0 false L 0) := ⟨fun _ => ⟨hL0.symm, fun a ha => absurd ha (Nat.not_lt_zero _)⟩, fun h => (by cases h)⟩
  have HLE : Hid (sumN L ≤ sumN L0) := by rw [hL0]; exact Nat.le_refl _
  have HG0 : Hid (gk = sumN L0 + 1) := by rw [hL0]; exact HG.out
  clear hfe hg hL0 HG
  go_wp2_with fail
  go_loopw [8, 9] (fun ch i wr => ∃ a : Nat, a ≤ k ∧ i = .int .i64 (a : Int) ∧ ∃ b : Bool, ch = .bool b ∧ ∃ L, Hid (RpS W1 G k L wr) ∧ Hid (PI s L) ∧ Hid (PassI s L0 b L a) ∧ Hid (sumN L ≤ sumN L0)) (fun _ i _ => k - (intOf i).toNat)
  case atStart => exact ⟨0, Nat.zero_le _, rfl, false, rfl, L, hst, hpi, HPASS, HLE⟩
  case round =>
  clear hst hpi HPASS HLE HL0
  obtain ⟨a, ha, rfl, b, rfl, L, hst, hpi, hpass, hle⟩ := hrel
  obtain ⟨X, rfl⟩ : ∃ X : World, X = wr := ⟨_, rfl⟩
  by_cases hlt2 : a < k
  case neg =>
    obtain rfl : a = k := by omega
    have HFE : Hid (b = false → Fea s L) := fun h => fea_of fun j hj => (hpass.out.1 h).2 j (by rw [HM.out] at hj; exact hj)
    have HGN : Hid ((if b then sumN L + 1 else 0) < gk) := by
      show _ < _
      rw [HG0.out]
      cases b
      · exact Nat.succ_pos _
      · have := hpass.out.2 rfl
        show sumN L + 1 < _
        omega
    go_wp2_with fail
    go_roundg (if b then sumN L + 1 else 0)
    case measure => exact HGN.out
    case rel =>
      first
        | exact ⟨b, rfl, L, hst, hpi, HFE, fun h => by rw [h]; rfl⟩
        | (repeat apply Exists.intro
           refine ⟨?_, rfl⟩
           exact ⟨b, rfl, L, hst, hpi, HFE, fun h => by rw [h]; rfl⟩)
  go_wp2_with fail
  go_loopw [8, 10] (fun ch i wr => ∃ q : Nat, a < q ∧ q ≤ k + 1 ∧ i = .int .i64 (q : Int) ∧ ∃ b : Bool, ch = .bool b ∧ ∃ L, Hid (RpS W1 G k L wr) ∧ Hid (PI s L) ∧ Hid (PassK s L0 b L a q)) (fun _ i _ => k + 1 - (intOf i).toNat)
  case atStart => exact ⟨a + 1, by omega, by omega, by go_num, b, rfl, L, hst, hpi, hpass.out, fun _ e h1 h2 => by omega, hle.out⟩
  case round =>
  clear hst hpi hpass hle
  obtain ⟨q, hq1, hq2, rfl, b, rfl, L, hst, hpi, hpk⟩ := hrel
  obtain ⟨X, rfl⟩ : ∃ X : World, X = wr := ⟨_, rfl⟩
  by_cases hlt3 : q < k + 1
  case neg =>
    obtain rfl : q = k + 1 := by omega
    have HPN : Hid (PassI s L0 b L (a + 1)) := passI_next (by rw [HM.out]; exact hpk.out)
    have HLE : Hid (sumN L ≤ sumN L0) := hpk.out.2.2
    have gq : ¬ (((k + 1 : Nat) : Int)) ≤ (k : Int) := by omega
    clear hpk
    go_wp2_with fail
    go_roundw
    case rel =>
      first
        | exact ⟨a + 1, by omega, by go_num, b, rfl, L, hst, hpi, HPN, HLE⟩
        | (repeat apply Exists.intro
           refine ⟨?_, rfl⟩
           exact ⟨a + 1, by omega, by go_num, b, rfl, L, hst, hpi, HPN, HLE⟩)
    case measure => simp [intOf]; omega
  have hBX : Below w.heap.size w X := HB1.out.trans (hst.out.low.mono HB1.out.size)
  have S := HSB.out X hst.out.low
  have s0 := cellOf S 0 (x := .slice An k cn) rfl
  have s1 := cellOf S 1 (x := .slice Ao k co) rfl
  have s2 := cellOf S 2 (x := .int .i64 s.keep) rfl
  have s3 := cellOf S 3 (x := .int .i64 s.room) rfl
  have CV := Lib.hid (cover_any s HS.out a q hq1 (by rw [HM.out]; omega) _ X ((HSU.out.below hBX).more hBX.size))
  have hcb := HS.out.costE_bound (a := a) (e := q) hq1 (by rw [HM.out]; omega)
  obtain ⟨ok, hok⟩ : ∃ x, okE s a q = x := ⟨_, rfl⟩
  obtain ⟨cs, hcs⟩ : ∃ x, costE s a q = x := ⟨_, rfl⟩
  rw [hcs] at hcb
  unfold CoverRet at CV
  rw [hok, hcs] at CV
  have HOKE := Lib.hid hok
  have HCS := Lib.hid hcs
  clear hok hcs S hBX
  go_wp2_with fail
  refine CV.out.mono ?_
  rintro _ X2 ⟨rfl, hb2⟩
  have HST2' := Lib.hid (hst.out.below hb2)
  have d0 := HST2'.out.cell (j := a) (by omega)
  have d1 := HST2'.out.cell (j := q) (by omega)
  have fz : X2.frozen? ⟨G, q, none⟩ = false := HST2'.out.blk.frozen _
  have pa := hpi.out.low a (by rw [HM.out]; omega)
  have pq := hpi.out.low q (by rw [HM.out]; omega)
  have la := price_low HS.out (B := 1000000) (fun k hk => (HS.out.order k hk).2) a (by rw [HM.out]; omega)
  have lq := price_low HS.out (B := 1000000) (fun k hk => (HS.out.order k hk).2) q (by rw [HM.out]; omega)
  obtain ⟨ya, hya⟩ : ∃ y, L.getD a 0 = y := ⟨_, rfl⟩
  obtain ⟨yq, hyq⟩ : ∃ y, L.getD q 0 = y := ⟨_, rfl⟩
  rw [hya] at d0 pa
  rw [hyq] at d1 pq
  have HYA := Lib.hid hya
  have HYQ := Lib.hid hyq
  have pa1 : 0 ≤ ya ∧ ya ≤ 20000000 := by omega
  have pq1 : 0 ≤ yq ∧ yq ≤ 20000000 := by omega
  obtain ⟨pa1, pa2⟩ := pa1
  obtain ⟨pq1, pq2⟩ := pq1
  obtain ⟨hcb1, hcb2⟩ := hcb
  clear hya hyq CV s0 s1 s2 s3 hb2 hst pa pq la lq
  have ia : (a : Int) < (k : Int) + 1 := by omega
  have iq : (q : Int) < (k : Int) + 1 := by omega
  have ia0 : (0 : Int) ≤ (a : Int) := by omega
  have iq0 : (0 : Int) ≤ (q : Int) := by omega
  have kw : IntKind.i64.wrap (ya + cs) = ya + cs := IntWalk.i64_in _ ⟨by omega, by omega⟩
  obtain ⟨bg, hbg⟩ : ∃ x, decide (ya + cs < yq) = x := ⟨_, rfl⟩
  have HBG := Lib.hid hbg
  go_upto_region 20 with fail
  go_cut [77] (fun s wx => s = .bool (ok && bg) ∧ Hid (Below X2.heap.size X2 wx))
  case first =>
    clear hbg
    cases ok
    · go_quiet (fail)
      go_wp2_with fail
      go_meet
      exact ⟨rfl, below_drewN (Below.refl _ _) _⟩
    · go_quiet (fail)
      go_wp2_with fail
      go_meet
      exact ⟨by rw [HBG.out]; rfl, below_drewN (Below.refl _ _) _⟩
  case rest =>
  obtain ⟨rfl, hb9⟩ := hcut
  obtain ⟨X3, rfl⟩ : ∃ X : World, X = wc := ⟨_, rfl⟩
  have HST3 := Lib.hid (HST2'.out.below hb9.out)
  clear d0 d1 fz kw hbg
  by_cases hdo : (ok && bg) = true
  · have hok : ok = true := by cases ok; exact hdo; rfl
    have hbg : bg = true := by cases ok; cases hdo; exact hdo
    subst hok
    subst hbg
    rw [hdo]
    have hlt9 : ya + cs < yq := of_decide_eq_true HBG.out
    have HPS := Lib.hid (hpi.out.step HS.out (i := a) (k := q) hq1 (by rw [HM.out]; omega) HOKE.out (by rw [HYA.out, HYQ.out, HCS.out]; exact hlt9))
    rw [HYA.out, HCS.out] at HPS
    have HST4 : Hid (RpS W1 G k (L.set q (ya + cs)) (X3.setCell ⟨G, q, none⟩ (.int .i64 (ya + cs)))) := HST3.out.put q (ya + cs)
    have HPI4 : Hid (PI s (L.set q (ya + cs))) := HPS.out.1
    have HPK : Hid (PassK s L0 true (L.set q (ya + cs)) a (q + 1)) := by
      have h1 := HPS.out.2
      have h2 := hpk.out.2.2
      exact ⟨⟨fun h => (by cases h), fun _ => by omega⟩, fun h => (by cases h), by omega⟩
    have d0 := HST3.out.cell (j := a) (by omega)
    have d1 := HST3.out.cell (j := q) (by omega)
    rw [HYA.out] at d0
    rw [HYQ.out] at d1
    have fz : X3.frozen? ⟨G, q, none⟩ = false := HST3.out.blk.frozen _
    clear hpk hpi HPS hdo
    go_wp2_with fail
    go_roundw
    case rel =>
      first
        | exact ⟨q + 1, by omega, by omega, by go_num, true, rfl, _, HST4, HPI4, HPK⟩
        | (repeat apply Exists.intro
           refine ⟨?_, rfl⟩
           exact ⟨q + 1, by omega, by omega, by go_num, true, rfl, _, HST4, HPI4, HPK⟩)
    case measure => simp [intOf]; omega
  · have hdo' : (ok && bg) = false := by simpa using hdo
    have HPK : Hid (PassK s L0 b L a (q + 1)) := by
      refine ⟨hpk.out.1, fun h e h1 h2 h3 => ?_, hpk.out.2.2⟩
      rcases Nat.lt_or_ge e q with h9 | h9
      · exact hpk.out.2.1 h e h1 h9 h3
      · obtain rfl : e = q := by omega
        rw [HOKE.out] at h3
        rw [h3] at hdo'
        have h8 : bg = false := hdo'
        rw [HYA.out, HYQ.out, HCS.out]
        have := of_decide_eq_false (HBG.out.trans h8)
        omega
    rw [hdo']
    clear hpk hdo hdo'
    go_wp2_with fail
    go_roundw
    case rel =>
      first
        | exact ⟨q + 1, by omega, by omega, by go_num, b, rfl, _, HST3, hpi, HPK⟩
        | (repeat apply Exists.intro
           refine ⟨?_, rfl⟩
           exact ⟨q + 1, by omega, by omega, by go_num, b, rfl, _, HST3, hpi, HPK⟩)
    case measure => simp [intOf]; omega
end Go.Proofs.Ytpkepacbondopaa
