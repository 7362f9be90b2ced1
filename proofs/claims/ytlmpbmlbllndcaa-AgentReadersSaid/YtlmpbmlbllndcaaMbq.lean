/-
  The reference's priced and sum.
  The reference's sum of lines.
-/
import Derived.Test.YtlmpbmlbllndcaaMbh
import Derived.Test.YtlmpbmlbllndcaaMaq
namespace Go.Proofs.Ytlmpbmlbllndcaa
open Go.RowKit
attribute [local go_sem] Oper.semAt_some

set_option maxRecDepth 100000 in
set_option maxHeartbeats 4000000 in
theorem priced_any (t : TarD) (w : World) : Calls Try.prog 111 #[.agg #[.int .i64 t.price, .int .i64 t.back, .int .i64 t.late, .int .i64 t.carry, .int .i64 t.credit]] w fun e w' => e = .returned (.bool t.okB) ∧ Below w.heap.size w w' := by
  obtain ⟨b1, hb1⟩ : ∃ b, inB t.price 0 10000 = b := ⟨_, rfl⟩
  obtain ⟨b2, hb2⟩ : ∃ b, inB t.back 0 t.price = b := ⟨_, rfl⟩
  obtain ⟨b3, hb3⟩ : ∃ b, inB t.late 0 t.price = b := ⟨_, rfl⟩
  obtain ⟨b4, hb4⟩ : ∃ b, inB t.carry 0 10000 = b := ⟨_, rfl⟩
  obtain ⟨b5, hb5⟩ : ∃ b, inB t.credit 0 10000 = b := ⟨_, rfl⟩
  have HE : Hid (t.okB = ((((b1 && b2) && b3) && b4) && b5)) := by show _ = _; rw [← hb1, ← hb2, ← hb3, ← hb4, ← hb5]; rfl
  have C1 := Lib.hid (fun w => refIn_any t.price 0 10000 w)
  rw [hb1] at C1
  have C2 := Lib.hid (fun w => refIn_any t.back 0 t.price w)
  rw [hb2] at C2
  have C3 := Lib.hid (fun w => refIn_any t.late 0 t.price w)
  rw [hb3] at C3
  have C4 := Lib.hid (fun w => refIn_any t.carry 0 10000 w)
  rw [hb4] at C4
  have C5 := Lib.hid (fun w => refIn_any t.credit 0 10000 w)
  rw [hb5] at C5
  have F0 : ∃ W0, w.alloc (.cells #[.int .i64 t.price, .int .i64 t.back, .int .i64 t.late, .int .i64 t.carry, .int .i64 t.credit] 140) = W0 ∧ Hid (Below w.heap.size w W0) ∧ Hid (Blk W0 w.heap.size 140 #[.int .i64 t.price, .int .i64 t.back, .int .i64 t.late, .int .i64 t.carry, .int .i64 t.credit]) := ⟨_, rfl, below_alloc _ _, Blk.new _ _ _⟩
  obtain ⟨W0, e0, HB0, HK0⟩ := F0
  have E0 := Lib.hid e0
  have z0 := cellOf HK0.out 0 (x := .int .i64 t.price) rfl
  have z1 := cellOf HK0.out 1 (x := .int .i64 t.back) rfl
  have z2 := cellOf HK0.out 2 (x := .int .i64 t.late) rfl
  have z3 := cellOf HK0.out 3 (x := .int .i64 t.carry) rfl
  have z4 := cellOf HK0.out 4 (x := .int .i64 t.credit) rfl
  clear hb1 hb2 hb3 hb4 hb5 e0
  cases b1
  · go_enter Try.func111, Try.ntmps111
    go_upto_region 1 with fail
    rw [E0.out]
    go_wp2_with fail
    refine (C1.out _).mono ?_
    rintro _ _ ⟨rfl, rfl⟩
    go_wp2_with fail
    go_ret
    exact ⟨rb (HE.out.trans (by simp)), HB0.out⟩
  cases b2
  · go_enter Try.func111, Try.ntmps111
    go_upto_region 1 with fail
    rw [E0.out]
    go_wp2_with fail
    refine (C1.out _).mono ?_
    rintro _ _ ⟨rfl, rfl⟩
    go_wp2_with fail
    refine (C2.out _).mono ?_
    rintro _ _ ⟨rfl, rfl⟩
    go_wp2_with fail
    go_ret
    exact ⟨rb (HE.out.trans (by simp)), HB0.out⟩
  cases b3
  · go_enter Try.func111, Try.ntmps111
    go_upto_region 1 with fail
    rw [E0.out]
    go_wp2_with fail
    refine (C1.out _).mono ?_
    rintro _ _ ⟨rfl, rfl⟩
    go_wp2_with fail
    refine (C2.out _).mono ?_
    rintro _ _ ⟨rfl, rfl⟩
    go_wp2_with fail
    refine (C3.out _).mono ?_
    rintro _ _ ⟨rfl, rfl⟩
    go_wp2_with fail
    go_ret
    exact ⟨rb (HE.out.trans (by simp)), HB0.out⟩
  cases b4
  · go_enter Try.func111, Try.ntmps111
    go_upto_region 1 with fail
    rw [E0.out]
    go_wp2_with fail
    refine (C1.out _).mono ?_
    rintro _ _ ⟨rfl, rfl⟩
    go_wp2_with fail
    refine (C2.out _).mono ?_
    rintro _ _ ⟨rfl, rfl⟩
    go_wp2_with fail
    refine (C3.out _).mono ?_
    rintro _ _ ⟨rfl, rfl⟩
    go_wp2_with fail
    refine (C4.out _).mono ?_
    rintro _ _ ⟨rfl, rfl⟩
    go_wp2_with fail
    go_ret
    exact ⟨rb (HE.out.trans (by simp)), HB0.out⟩
  cases b5
  · go_enter Try.func111, Try.ntmps111
    go_upto_region 1 with fail
    rw [E0.out]
    go_wp2_with fail
    refine (C1.out _).mono ?_
    rintro _ _ ⟨rfl, rfl⟩
    go_wp2_with fail
    refine (C2.out _).mono ?_
    rintro _ _ ⟨rfl, rfl⟩
    go_wp2_with fail
    refine (C3.out _).mono ?_
    rintro _ _ ⟨rfl, rfl⟩
    go_wp2_with fail
    refine (C4.out _).mono ?_
    rintro _ _ ⟨rfl, rfl⟩
    go_wp2_with fail
    refine (C5.out _).mono ?_
    rintro _ _ ⟨rfl, rfl⟩
    go_wp2_with fail
    go_ret
    exact ⟨rb (HE.out.trans (by simp)), HB0.out⟩
  · go_enter Try.func111, Try.ntmps111
    go_upto_region 1 with fail
    rw [E0.out]
    go_wp2_with fail
    refine (C1.out _).mono ?_
    rintro _ _ ⟨rfl, rfl⟩
    go_wp2_with fail
    refine (C2.out _).mono ?_
    rintro _ _ ⟨rfl, rfl⟩
    go_wp2_with fail
    refine (C3.out _).mono ?_
    rintro _ _ ⟨rfl, rfl⟩
    go_wp2_with fail
    refine (C4.out _).mono ?_
    rintro _ _ ⟨rfl, rfl⟩
    go_wp2_with fail
    refine (C5.out _).mono ?_
    rintro _ _ ⟨rfl, rfl⟩
    go_wp2_with fail
    go_ret
    exact ⟨rb (HE.out.trans (by simp)), HB0.out⟩
end Go.Proofs.Ytlmpbmlbllndcaa

namespace Go.Proofs.Ytlmpbmlbllndcaa
open Go.RowKit
attribute [local go_sem] Oper.semAt_some

def RLns (B : Nat) (w : World) (v : Value) (l : List LineD) : Prop := Rd B w 3 v l.length (l.flatMap LineD.cells)
theorem lns_later {w : World} {v : Value} {l : List LineD} (h : RLns w.heap.size w v l) : ∃ A c, v = .slice A l.length c ∧ l.length ≤ 9223372036854775807 ∧ Hid (∀ k x, l[k]? = some x → ∃ g o, A = some ⟨g, o, none⟩ ∧ Hid (∀ X, Below w.heap.size w X → X.cell? ⟨g, o + k * 3, none⟩ = some (.int .i64 x.what) ∧ X.cell? ⟨g, o + k * 3 + 1, none⟩ = some (.int .i64 x.cop) ∧ X.cell? ⟨g, o + k * 3 + 2, none⟩ = some (.int .i64 x.amt))) := by
  obtain ⟨A, c, rfl, -, hm, hr⟩ := h
  refine ⟨A, c, rfl, by simpa [maxLen] using hm, fun k x hx => ?_⟩
  have hk : k < l.length := (List.getElem?_eq_some_iff.1 hx).1
  obtain ⟨g, o, hA, hb, hc⟩ := hr (by omega)
  have hf := fun j hj => flat_at LineD.cells 3 (fun _ => rfl) _ k j _ hx hj
  exact ⟨g, o, hA, fun X hX => ⟨(hX.cell (p := ⟨g, o + k * 3, none⟩) hb).trans (hc _ _ (hf 0 (by omega))), (hX.cell (p := ⟨g, o + k * 3 + 1, none⟩) hb).trans (hc _ _ (hf 1 (by omega))), (hX.cell (p := ⟨g, o + k * 3 + 2, none⟩) hb).trans (hc _ _ (hf 2 (by omega)))⟩⟩
/-- What the first k lines amount to. -/
def amK (l : List LineD) (k : Nat) : Int := sumI ((l.take k).map LineD.amt)
theorem amK_next {l : List LineD} {k : Nat} {x : LineD} (h : l[k]? = some x) : amK l (k + 1) = amK l k + x.amt := by
  unfold amK
  rw [List.take_add_one, h, Option.toList_some, List.map_append, sumI_app]
  simp [sumI]
set_option maxRecDepth 100000 in
set_option maxHeartbeats 4000000 in
theorem refSum_any (l : List LineD) (hb : ∀ k, k ≤ l.length → -1000000000000000 ≤ amK l k ∧ amK l k ≤ 1000000000000000) (v : Value) (w : World) (h : RLns w.heap.size w v l) :
    Calls Try.prog 112 #[v] w fun e w' => e = .returned (.agg #[v, .int .i64 (amK l l.length)]) ∧ Below w.heap.size w w' := by
  obtain ⟨A, c, rfl, hlm, HD⟩ := lns_later h
  obtain ⟨n, hn⟩ : ∃ n, l.length = n := ⟨_, rfl⟩
  have HN := Lib.hid hn
  have HBD := Lib.hid hb
  rw [hn] at hlm HBD ⊢
  have F0 : ∃ W0, (w.alloc (.cells #[.slice none 0 0, .int .i64 0] 137)).alloc (.cells #[.slice A n c, .int .i64 0] 137) = W0 ∧ Hid (Below w.heap.size w W0) ∧ Hid (Blk W0 w.heap.size 137 #[.slice none 0 0, .int .i64 0] ∧ Blk W0 (w.heap.size + 1) 137 #[.slice A n c, .int .i64 (amK l 0)]) :=
    ⟨_, rfl, sbelow_al (below_alloc _ _) _, (Blk.new _ _ _).alloc _, blk_new (by simp) _ _⟩
  obtain ⟨W0, e0, HB0, HK0⟩ := F0
  have E0 := Lib.hid e0
  obtain ⟨p, hp⟩ : ∃ p, w.heap.size = p := ⟨_, rfl⟩
  rw [hp] at HK0
  have HP := Lib.hid hp
  clear h hn hb e0 hp
  go_enter Try.func112, Try.ntmps112
  go_upto_region 2 with fail
  rw [E0.out, HP.out]
  clear E0
  go_wp2_with fail
  go_loopw [4] (fun i wr => ∃ k : Nat, k ≤ n ∧ i = .int .i64 k ∧ Hid (Blk wr p 137 #[.slice none 0 0, .int .i64 0] ∧ Blk wr (p + 1) 137 #[.slice A n c, .int .i64 (amK l k)]) ∧ Hid (Below w.heap.size w wr)) (fun i _ => n - (intOf i).toNat)
  case atStart => exact ⟨0, Nat.zero_le _, rfl, HK0.out, HB0.out⟩
  case round =>
  obtain ⟨k, hk, rfl, hK, hB⟩ := hrel
  obtain ⟨X, rfl⟩ : ∃ X : World, X = wr := ⟨_, rfl⟩
  obtain ⟨S, hS⟩ : ∃ S, amK l k = S := ⟨_, rfl⟩
  have HSE := Lib.hid hS
  have hSb := HBD.out k hk
  rw [hS] at hK hSb
  obtain ⟨s0, s1⟩ := hSb
  clear hS
  by_cases hlt : k < n
  · obtain ⟨x, hx⟩ : ∃ x, l[k]? = some x := ⟨_, List.getElem?_eq_getElem (by rw [HN.out]; exact hlt)⟩
    obtain ⟨g, o, rfl, HX⟩ := HD.out k x hx
    obtain ⟨-, -, c2⟩ := HX.out X hB.out
    obtain ⟨-, -, c2'⟩ := HX.out X.drew hB.out.drew
    have HNX : Hid (amK l (k + 1) = S + x.amt) := by show _ = _; rw [amK_next hx, HSE.out]
    have hnb := HBD.out (k + 1) (by omega)
    rw [HNX.out] at hnb
    obtain ⟨u1, u2⟩ := hnb
    have r1 := cellOf hK.out.2 1 (x := .int .i64 S) rfl
    have r1' := cellOf hK.out.2.drew_ 1 (x := .int .i64 S) rfl
    have f1 := hK.out.2.frozen 1
    have f1' := hK.out.2.drew_.frozen 1
    have k0 : (0 : Int) ≤ (k : Int) := by omega
    have k1 : (k : Int) < (n : Int) := by omega
    clear hx HX
    go_upto_region 5 with fail
    go_region
    have F2 : ∃ X2, (X.setCell ⟨p + 1, 1, none⟩ (.int .i64 (S + x.amt))).drew = X2 ∧ Hid (Blk X2 p 137 #[.slice none 0 0, .int .i64 0] ∧ Blk X2 (p + 1) 137 #[.slice (some ⟨g, o, none⟩) n c, .int .i64 (amK l (k + 1))]) ∧ Hid (Below w.heap.size w X2) := by
      refine ⟨_, rfl, ⟨(hK.out.1.far (p := ⟨p + 1, 1, none⟩) (by show p ≠ p + 1; omega) _).drew_, ?_⟩, (hB.out.setCell (p := ⟨p + 1, 1, none⟩) (by rw [HP.out]; show p ≤ p + 1; omega) _).drew⟩
      rw [HNX.out]
      exact (hK.out.2.put 1 _).drew_
    obtain ⟨X2, e2, HK2, HB2⟩ := F2
    rw [e2]
    clear e2 r1 r1' f1 f1' c2 c2' hK hB u1 u2
    go_wp2_with fail
    go_roundw
    case rel => exact ⟨k + 1, by omega, by go_num, HK2, HB2⟩
    case measure => simp [intOf]; omega
  · obtain rfl : k = n := by omega
    have r0 := cellOf hK.out.2 0 (x := .slice A k c) rfl
    have r1 := cellOf hK.out.2 1 (x := .int .i64 S) rfl
    have q0 := cellOf hK.out.1 0 (x := .slice none 0 0) rfl
    have q1 := cellOf hK.out.1 1 (x := .int .i64 0) rfl
    have f0 := hK.out.1.frozen 0
    have f1 := hK.out.1.frozen 1
    have R := (hK.out.1.put 0 (.slice A k c)).put 1 (.int .i64 S)
    have e0 := cellOf R 0 (x := .slice A k c) rfl
    have e1 := cellOf R 1 (x := .int .i64 S) rfl
    have hKK : KeptBut (fun i => i = p) X ((X.setCell ⟨p, 0, none⟩ (.slice A k c)).setCell ⟨p, 1, none⟩ (.int .i64 S)) := (KeptBut.setCell (S := fun i => i = p) rfl _).trans (KeptBut.setCell (S := fun i => i = p) rfl _) fun _ _ h => h
    have HFIN : Hid (Below w.heap.size w ((X.setCell ⟨p, 0, none⟩ (.slice A k c)).setCell ⟨p, 1, none⟩ (.int .i64 S))) := hB.out.trans (hKK.below (fun i hi => by rw [hi, HP.out]; exact Nat.le_refl _) hB.out.size)
    clear R hKK hK hB
    go_wp2_with fail
    exact bodyPost_ret (v := .agg #[.slice A k c, .int .i64 S]) (by simp [results, Try.results112, go_sem, e0, e1]) rfl ⟨by rw [HSE.out], HFIN.out⟩
end Go.Proofs.Ytlmpbmlbllndcaa
