/-
  lowest: a fraction in lowest terms.
-/
import Derived.Test.YtlmpbmlbllndcaaGb
namespace Go.Proofs.Ytlmpbmlbllndcaa
open Go.RowKit
attribute [local go_sem] Oper.semAt_some

/-- A fraction in lowest terms. -/
def lowN (n d : Int) : Int := n / (Nat.gcd n.toNat d.toNat : Int)
def lowD (n d : Int) : Int := d / (Nat.gcd n.toNat d.toNat : Int)
theorem gcd_pos {n d : Int} (hd : 0 < d) : 0 < Nat.gcd n.toNat d.toNat := Nat.gcd_pos_of_pos_right _ (by omega)
set_option maxRecDepth 100000 in
set_option maxHeartbeats 4000000 in
theorem lowest_any (n d : Int) (hn : 0 ≤ n ∧ n ≤ 1000000000000) (hd : 1 ≤ d ∧ d ≤ 1000000000000) (w : World) :
    Calls Try.prog 119 #[.int .i64 n, .int .i64 d] w fun e w' => e = .returned (.agg #[.int .i64 (lowN n d), .int .i64 (lowD n d)]) ∧ Below w.heap.size w w' := by
  obtain ⟨n0, n1⟩ := hn
  obtain ⟨d0, d1⟩ := hd
  obtain ⟨g, hg⟩ : ∃ g, Nat.gcd n.toNat d.toNat = g := ⟨_, rfl⟩
  have hg0 : 0 < g := by rw [← hg]; exact gcd_pos (by omega)
  obtain ⟨N, hN⟩ : ∃ z, lowN n d = z := ⟨_, rfl⟩
  obtain ⟨D, hD⟩ : ∃ z, lowD n d = z := ⟨_, rfl⟩
  have HN : Hid (n / (g : Int) = N) := by show _ = _; rw [← hN, ← hg]; rfl
  have HD : Hid (d / (g : Int) = D) := by show _ = _; rw [← hD, ← hg]; rfl
  have hNb : 0 ≤ N ∧ N ≤ n := by rw [← HN.out]; exact ⟨Int.ediv_nonneg n0 (by omega), Int.ediv_le_self _ n0⟩
  have hDb : 0 ≤ D ∧ D ≤ d := by rw [← HD.out]; exact ⟨Int.ediv_nonneg (by omega) (by omega), Int.ediv_le_self _ (by omega)⟩
  obtain ⟨an, han⟩ : ∃ a : Nat, n = (a : Int) := ⟨n.toNat, by omega⟩
  obtain ⟨bd, hbd⟩ : ∃ a : Nat, d = (a : Int) := ⟨d.toNat, by omega⟩
  have HG : Hid (Nat.gcd an bd = g) := by show _ = _; rw [← hg, han, hbd]; rfl
  have F0 : ∃ W0, w.alloc (.cells #[.int .i64 0, .int .i64 0] 58) = W0 ∧ Hid (Below w.heap.size w W0) ∧ Hid (Blk W0 w.heap.size 58 #[.int .i64 0, .int .i64 0]) := ⟨_, rfl, below_alloc _ _, Blk.new _ _ _⟩
  obtain ⟨W0, e0, HB0, HK0⟩ := F0
  have E0 := Lib.hid e0
  obtain ⟨p, hp⟩ : ∃ p, w.heap.size = p := ⟨_, rfl⟩
  rw [hp] at HK0
  have HP := Lib.hid hp
  rw [hN, hD]
  have HAN := Lib.hid han
  have HBD := Lib.hid hbd
  have ha0 : an ≤ 1000000000000 := by omega
  have hb0 : bd ≤ 1000000000000 := by omega
  clear hg hN hD e0 hp
  subst han hbd
  go_enter Try.func119, Try.ntmps119
  go_upto_region 1 with fail
  rw [E0.out, HP.out]
  clear E0
  go_wp2_with fail
  go_loopw [5, 6] (fun s q wr => ∃ a b : Nat, s = .int .i64 a ∧ q = .int .i64 b ∧ a ≤ 1000000000000 ∧ b ≤ 1000000000000 ∧ Hid (Nat.gcd a b = g) ∧ Hid (Below W0.heap.size W0 wr)) (fun _ q _ => (intOf q).toNat)
  case atStart => exact ⟨an, bd, rfl, rfl, ha0, hb0, HG.out, Below.refl _ _⟩
  case round =>
  obtain ⟨a, b, rfl, rfl, ha, hb, hgc, hB⟩ := hrel
  obtain ⟨X, rfl⟩ : ∃ X : World, X = wr := ⟨_, rfl⟩
  by_cases hz : b = 0
  · have hz' : ((b : Int) != 0) = false := by simp [hz]
    obtain rfl : a = g := by have := hgc.out; rw [hz, Nat.gcd_zero_right] at this; exact this
    have HKX : Hid (Blk X p 58 #[.int .i64 0, .int .i64 0]) := HK0.out.below hB.out HK0.out.lt
    have r0 := cellOf HKX.out 0 (x := .int .i64 0) rfl
    have r1 := cellOf HKX.out 1 (x := .int .i64 0) rfl
    have f0 := HKX.out.frozen 0
    have f1 := HKX.out.frozen 1
    have r0' := cellOf HKX.out.drew_ 0 (x := .int .i64 0) rfl
    have r1' := cellOf HKX.out.drew_ 1 (x := .int .i64 0) rfl
    have f0' := HKX.out.drew_.frozen 0
    have f1' := HKX.out.drew_.frozen 1
    have ke : ((a : Int) == 0) = false := by simp; omega
    have ke' : ¬ (a : Int) = 0 := by omega
    have ke2 : ¬ a = 0 := by omega
    have kn : IntKind.i64.wrap ((an : Int).tdiv (a : Int)) = N := by rw [Int.tdiv_eq_ediv_of_nonneg n0, HN.out]; exact IntWalk.i64_in _ ⟨by omega, by omega⟩
    have kd : IntKind.i64.wrap ((bd : Int).tdiv (a : Int)) = D := by rw [Int.tdiv_eq_ediv_of_nonneg (by omega), HD.out]; exact IntWalk.i64_in _ ⟨by omega, by omega⟩
    have KN : Hid (wrap64 N = N) := (IntWalk.i64_left _).symm.trans (IntWalk.i64_in _ ⟨by omega, by omega⟩)
    have KD : Hid (wrap64 D = D) := (IntWalk.i64_left _).symm.trans (IntWalk.i64_in _ ⟨by omega, by omega⟩)
    clear hgc hz
    go_upto_region 4 with fail
    go_region
    rw [HN.out, HD.out, KN.out, KD.out]
    clear r0 r1 f0 f1 r0' r1' f0' f1' ke ke' ke2 kn kd
    have R := (HKX.out.put 0 (.int .i64 N)).put 1 (.int .i64 D)
    have e0 := cellOf R.drew_ 0 (x := .int .i64 N) rfl
    have e1 := cellOf R.drew_ 1 (x := .int .i64 D) rfl
    have hK : KeptBut (fun i => i = p) X ((X.setCell ⟨p, 0, none⟩ (.int .i64 N)).setCell ⟨p, 1, none⟩ (.int .i64 D)) := (KeptBut.setCell (S := fun i => i = p) rfl _).trans (KeptBut.setCell (S := fun i => i = p) rfl _) fun _ _ h => h
    have HBX : Hid (Below w.heap.size w X) := HB0.out.trans (hB.out.mono HB0.out.size)
    have HFIN : Hid (Below w.heap.size w ((X.setCell ⟨p, 0, none⟩ (.int .i64 N)).setCell ⟨p, 1, none⟩ (.int .i64 D)).drew) := (HBX.out.trans (hK.below (fun i hi => by rw [hi, HP.out]; exact Nat.le_refl _) HBX.out.size)).drew
    clear hK R
    go_wp2_with fail
    exact bodyPost_ret (v := .agg #[.int .i64 N, .int .i64 D]) (by simp [results, Try.results119, go_sem, e0, e1]) rfl ⟨rfl, HFIN.out⟩
  · have hz' : ((b : Int) != 0) = true := by simpa using hz
    have ke : ((b : Int) == 0) = false := by simp; omega
    have ke' : ¬ (b : Int) = 0 := by omega
    obtain ⟨r, hr⟩ : ∃ r, a % b = r := ⟨_, rfl⟩
    have hrb : r < b := by rw [← hr]; exact Nat.mod_lt _ (by omega)
    have HR : Hid ((a : Int) % (b : Int) = (r : Int)) := by show _ = _; rw [← hr]; rfl
    have HG2 : Hid (Nat.gcd b r = g) := by show _ = _; rw [← hgc.out, ← hr, Nat.gcd_comm a b, Nat.gcd_rec b a, Nat.gcd_comm]
    have kx : IntKind.i64.wrap (a : Int) = (a : Int) := IntWalk.i64_in _ ⟨by omega, by omega⟩
    have kr : IntKind.i64.wrap ((a : Int).tmod (b : Int)) = (r : Int) := by rw [Int.tmod_eq_emod_of_nonneg (by omega), HR.out]; exact IntWalk.i64_in _ ⟨by omega, by omega⟩
    clear hr hgc hz
    go_upto_region 3 with fail
    go_quiet (fail)
    rw [HR.out]
    have HBX : Hid (Below W0.heap.size W0 (X.drewN nq)) := hB.out.trans ((below_drewN (Below.refl _ _) nq).mono hB.out.size)
    clear kx kr ke ke'
    go_wp2_with fail
    go_roundw
    case rel => exact ⟨b, r, rfl, rfl, hb, by omega, HG2, HBX⟩
    case measure => simp [intOf]; omega
end Go.Proofs.Ytlmpbmlbllndcaa
