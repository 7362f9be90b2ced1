/-
  carry.
-/
import Derived.Test.YtlmpbmlbllndcaaDe
namespace Go.Proofs.Ytlmpbmlbllndcaa
open Go.RowKit
attribute [local go_sem] Oper.semAt_some

/-- The lines of an account of a carrier, and their sum. -/
def carL (t : TarD) (c n : Int) : List LineD := [⟨4, c, c * t.carry⟩, ⟨5, n, n * -t.credit⟩]
def carS (t : TarD) (c n : Int) : Int := c * t.carry + n * -t.credit
def CarRet (t : TarD) (c n : Int) (w : World) (e : Ending) (w' : World) : Prop := ∃ A d, e = .returned (.agg #[.slice A 2 d, .int .i64 (carS t c n)]) ∧ Hid (OLines w.heap.size w' (.slice A 2 d) (carL t c n)) ∧ Hid (Below w.heap.size w w')
set_option maxRecDepth 1000000 in
set_option maxHeartbeats 4000000 in
theorem carry_any (t : TarD) (ht : t.okB = true) (s1 s2 : Int) (h1 : 0 ≤ s1 ∧ s1 ≤ 12000000) (h2 : 0 ≤ s2 ∧ s2 ≤ 12000000) (w : World) :
    Calls Try.prog 93 #[.agg #[.int .i64 t.price, .int .i64 t.back, .int .i64 t.late, .int .i64 t.carry, .int .i64 t.credit], .int .i64 s1, .int .i64 s2] w (CarRet t s1 s2 w) := by
  have HT := TarD.okB_iff.1 ht
  have F0 : ∃ W0, (w.alloc (.cells #[.int .i64 t.price, .int .i64 t.back, .int .i64 t.late, .int .i64 t.carry, .int .i64 t.credit] 37)).alloc (.cells #[.slice none 0 0, .int .i64 0] 80) = W0 ∧ Hid (Below w.heap.size w W0) ∧ Hid (Blk W0 w.heap.size 37 #[.int .i64 t.price, .int .i64 t.back, .int .i64 t.late, .int .i64 t.carry, .int .i64 t.credit] ∧ Blk W0 (w.heap.size + 1) 80 #[.slice none 0 0, .int .i64 0]) :=
    ⟨_, rfl, sbelow_al (below_alloc _ _) _, (Blk.new _ _ _).alloc _, blk_new (by simp) _ _⟩
  obtain ⟨X, e0, HBX, HK0⟩ := F0
  have E0 := Lib.hid e0
  obtain ⟨p, hp⟩ : ∃ p, w.heap.size = p := ⟨_, rfl⟩
  have HP := Lib.hid hp
  obtain ⟨u1, u2⟩ := h1
  obtain ⟨u3, u4⟩ := h2
  obtain ⟨-, -, -, ⟨t1, t2⟩, t3, t4⟩ := HT
  have a1 : 0 ≤ s1 * t.carry ∧ s1 * t.carry ≤ 120000000000 := ⟨Int.mul_nonneg (by omega) (by omega), Int.le_trans (Int.mul_le_mul u2 t2 (by omega) (by omega)) (by omega)⟩
  have a2 : 0 ≤ s2 * t.credit ∧ s2 * t.credit ≤ 120000000000 := ⟨Int.mul_nonneg (by omega) (by omega), Int.le_trans (Int.mul_le_mul u4 t4 (by omega) (by omega)) (by omega)⟩
  have a2' : s2 * -t.credit = -(s2 * t.credit) := by rw [Int.mul_neg]
  have HA1 := Lib.hid a1
  have HA2 : Hid (-120000000000 ≤ s2 * -t.credit ∧ s2 * -t.credit ≤ 0) := by rw [a2']; exact ⟨by omega, by omega⟩
  clear a1 a2 a2' ht
  have F2 : ∃ XA, X.alloc (.cells #[.slice none 0 0, .int .i64 0] 80) = XA ∧ Hid (Below X.heap.size X XA) ∧ Hid (Blk XA X.heap.size 80 #[.slice none 0 0, .int .i64 0]) ∧ XA.heap.size = X.heap.size + 1 := ⟨_, rfl, below_alloc _ _, Blk.new _ _ _, by simp⟩
  obtain ⟨XA, e2, HXA, HKA, hza⟩ := F2
  have E2 := Lib.hid e2
  have CA := Lib.hid (adder_any X.heap.size XA)
  obtain ⟨q, hq⟩ : ∃ q, X.heap.size = q := ⟨_, rfl⟩
  obtain ⟨pb, hpb⟩ : ∃ pb, XA.heap.size = pb := ⟨_, rfl⟩
  have F3 : ∃ X2, XA.alloc (.cells #[.pointer (some ⟨q, 0, none⟩)] 228) = X2 ∧ Hid (Below X.heap.size X X2) ∧ Hid (AcSt q q pb [] 0 (.slice none 0 0) X2) := by
    refine ⟨_, rfl, sbelow_al HXA.out _, ?_, blk_new hpb _ _, World.ownsRow_nil _ _ _ _⟩
    rw [← hq]
    exact HKA.out.alloc _
  obtain ⟨X2, e3, HX2, HS2⟩ := F3
  rw [hq, hpb, e3] at CA
  have HQ := Lib.hid hq
  have HQ2 : Hid (w.heap.size ≤ q ∧ p + 1 < q ∧ q ≤ X2.heap.size) := by
    have h1 := HK0.out.2.lt
    rw [HP.out] at h1
    exact ⟨by rw [← hq]; exact HBX.out.size, by rw [← hq]; omega, by rw [← hq]; exact HX2.out.size⟩
  have HBX2 : Hid (Below w.heap.size w X2) := HBX.out.trans (HX2.out.mono HBX.out.size)
  have HTB2 : Hid (Blk X2 p 37 #[.int .i64 t.price, .int .i64 t.back, .int .i64 t.late, .int .i64 t.carry, .int .i64 t.credit] ∧ Blk X2 (p + 1) 80 #[.slice none 0 0, .int .i64 0]) := by
    rw [← HP.out]
    exact ⟨HK0.out.1.below HX2.out HK0.out.1.lt, HK0.out.2.below HX2.out HK0.out.2.lt⟩
  clear e0 e2 e3 hq hp hpb hza HXA HKA HX2 HBX HK0
  go_enter Try.func93, Try.ntmps93
  go_upto_region 1 with fail
  rw [E0.out]
  clear E0
  rw [HP.out]
  go_upto_region 2 with fail
  rw [E2.out, HQ.out]
  clear E2
  go_wp2_with fail
  refine CA.out.mono ?_
  rintro _ _ ⟨rfl, rfl⟩
  clear CA
  have C1 := Lib.hid (add_any (base := q) (Ab := q) (Pb := pb) (k := 0) (l := []) 4 s1 t.carry (by simp) (by omega) (by omega) (by have h := HA1.out; omega) X2 HQ2.out.2.2 HS2.out)
  have g0 := cellOf HTB2.out.1 3 (x := .int .i64 t.carry) rfl
  go_wp2_with fail
  refine C1.out.mono ?_
  rintro _ Y1 ⟨⟨z1, rfl⟩, b1, d1, HS3, HK3⟩
  have HTB3 : Hid (Blk Y1 p 37 #[.int .i64 t.price, .int .i64 t.back, .int .i64 t.late, .int .i64 t.carry, .int .i64 t.credit] ∧ Blk Y1 (p + 1) 80 #[.slice none 0 0, .int .i64 0]) := ⟨HS2.out.far HK3.out HTB2.out.1 (by have := HQ2.out; omega) (by decide), HS2.out.far HK3.out HTB2.out.2 (by have := HQ2.out; omega) (by decide)⟩
  have HBX3 : Hid (Below w.heap.size w Y1) := HBX2.out.trans (HS2.out.belowK HK3.out HQ2.out.1 HQ2.out.1 HBX2.out.size)
  have HZ2 : Hid (q ≤ Y1.heap.size) := Nat.le_trans HQ2.out.2.2 HK3.out.size
  clear C1 g0 HTB2 HS2 HK3 HBX2
  have C2 := Lib.hid (add_any (base := q) (Ab := q) (Pb := pb) (k := 1) (l := ([] ++ [⟨4, s1, s1 * t.carry⟩])) 5 s2 (-t.credit) (by simp) (by omega) (by obtain ⟨h1, h2⟩ := HA1.out; first | omega | (simp only; omega)) (by have h := HA2.out; omega) Y1 HZ2.out HS3.out)
  have g0 := cellOf HTB3.out.1 4 (x := .int .i64 t.credit) rfl
  go_wp2_with fail
  refine C2.out.mono ?_
  rintro _ Y3 ⟨⟨z2, rfl⟩, b3, d3, HS5, HK5⟩
  have HTB5 : Hid (Blk Y3 p 37 #[.int .i64 t.price, .int .i64 t.back, .int .i64 t.late, .int .i64 t.carry, .int .i64 t.credit] ∧ Blk Y3 (p + 1) 80 #[.slice none 0 0, .int .i64 0]) := ⟨HS3.out.far HK5.out HTB3.out.1 (by have := HQ2.out; omega) (by decide), HS3.out.far HK5.out HTB3.out.2 (by have := HQ2.out; omega) (by decide)⟩
  have HBX5 : Hid (Below w.heap.size w Y3) := HBX3.out.trans (HS3.out.belowK HK5.out HQ2.out.1 HQ2.out.1 HBX3.out.size)
  clear C2 g0 HTB3 HS3 HK5 HBX3
  have HLF : Hid (OLines w.heap.size Y3 (.slice (some ⟨b3, 0, none⟩) 2 d3) (carL t s1 s2)) := ownsRow_base HS5.out.row HQ2.out.1
  have HAC : Hid (Blk Y3 q 80 #[.slice (some ⟨b3, 0, none⟩) 2 d3, .int .i64 (carS t s1 s2)]) := by
    have h1 := HS5.out.acc
    simp only [Int.zero_add] at h1
    exact h1
  obtain ⟨S, hS⟩ : ∃ S, carS t s1 s2 = S := ⟨_, rfl⟩
  rw [hS] at HAC
  have HSS := Lib.hid hS
  have k0 := cellOf HAC.out 0 (x := .slice (some ⟨b3, 0, none⟩) 2 d3) rfl
  have k1 := cellOf HAC.out 1 (x := .int .i64 S) rfl
  have r0 := cellOf HTB5.out.2 0 (x := .slice none 0 0) rfl
  have r1 := cellOf HTB5.out.2 1 (x := .int .i64 0) rfl
  have f0 := HTB5.out.2.frozen 0
  have f1 := HTB5.out.2.frozen 1
  have hK : KeptBut (fun g => g = p + 1) Y3 ((Y3.setCell ⟨p + 1, 0, none⟩ (.slice (some ⟨b3, 0, none⟩) 2 d3)).setCell ⟨p + 1, 1, none⟩ (.int .i64 S)) := (KeptBut.setCell (S := fun g => g = p + 1) rfl _).trans (KeptBut.setCell (S := fun g => g = p + 1) rfl _) fun _ _ h => h
  have HFIN : Hid (CarRet t s1 s2 w (.returned (.agg #[.slice (some ⟨b3, 0, none⟩) 2 d3, .int .i64 S])) ((Y3.setCell ⟨p + 1, 0, none⟩ (.slice (some ⟨b3, 0, none⟩) 2 d3)).setCell ⟨p + 1, 1, none⟩ (.int .i64 S))) := by
    refine ⟨_, _, by rw [HSS.out], ownsRow_keptBut HLF.out hK fun g cs _ hB e => by subst e; exact Blk.ne hB HTB5.out.2 (by decide) rfl, HBX5.out.trans (hK.below (fun g hg => by rw [hg, HP.out]; omega) HBX5.out.size)⟩
  have R := (HTB5.out.2.put 0 (.slice (some ⟨b3, 0, none⟩) 2 d3)).put 1 (.int .i64 S)
  have e0 := cellOf R 0 (x := .slice (some ⟨b3, 0, none⟩) 2 d3) rfl
  have e1 := cellOf R 1 (x := .int .i64 S) rfl
  clear hS hK R HAC HLF HS5 HBX5 HTB5
  go_wp2_with fail
  exact bodyPost_ret (v := .agg #[.slice (some ⟨b3, 0, none⟩) 2 d3, .int .i64 S]) (by simp [results, Try.results93, go_sem, e0, e1]) rfl HFIN.out
end Go.Proofs.Ytlmpbmlbllndcaa
