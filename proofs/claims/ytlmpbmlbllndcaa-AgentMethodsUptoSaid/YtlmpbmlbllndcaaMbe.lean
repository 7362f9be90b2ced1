/-
  awake.
  lowest: a fraction in lowest terms.
-/
import Derived.Test.YtlmpbmlbllndcaaMbd
namespace Go.Proofs.Ytlmpbmlbllndcaa
open Go.RowKit
attribute [local go_sem] Oper.semAt_some

theorem best_ex (u : Value) (w : World) (h : RDays w.heap.size w u weekD) : Calls Try.prog 23 #[u, .int .i64 1, .int .i64 2] w fun e w' => e = .returned (.tuple #[.int .i64 8, .int .i64 5, .int .i64 0]) ∧ Below w.heap.size w w' := by
  have := Best_any 1 2 weekD u w h
  rw [ex_bestE, ex_bestV] at this
  exact this
theorem says_ex (u : Value) (w : World) (h : RDays w.heap.size w u weekD) : Calls Try.prog 27 #[.agg #[.int .i64 2, .int .i64 3], u, .int .i64 3] w fun e w' => e = .returned (.tuple #[.int .i64 9, .bool true, .int .i64 0]) ∧ Below w.heap.size w w' := by
  have := Says_any ⟨2, 3⟩ weekD 3 u w h
  rw [ex_saysE, ex_saysB, ex_saysV] at this
  exact this
theorem share_ex (u : Value) (w : World) (h : ROrds w.heap.size w u ordsD) : Calls Try.prog 30 #[u, .int .i64 8] w fun e w' => ∃ A c, e = .returned (.tuple #[.slice A 3 c, .int .i64 0]) ∧ OInts w.heap.size w' (.slice A 3 c) [5, 2, 1] ∧ Below w.heap.size w w' := by
  refine (Share_any ordsD 8 (by omega) u w h).mono ?_
  rintro e w' ⟨v, rfl, -, h2, h3⟩
  have h4 := h2 ex_ordE
  rw [ex_shares] at h4
  rw [ex_ordE]
  obtain ⟨A, c, rfl⟩ := ownsRow_form h4
  exact ⟨A, c, rfl, h4, h3⟩
theorem copies_ex (u : Value) (w : World) (h : RSub w.heap.size w u readerD) : Calls Try.prog 34 #[u, .int .i64 0, .int .i64 30] w fun e w' => e = .returned (.tuple #[.int .i64 16, .int .i64 0]) ∧ Below w.heap.size w w' := by
  have := Copies_any readerD 0 30 u w h
  rw [ex_copE, ex_copV] at this
  exact this
theorem settle_ex (u v : Value) (w : World) (h : RDays w.heap.size w u weekD) (hv : RInts w.heap.size w v [0, 0, 3]) : Calls Try.prog 37 #[.agg #[.int .i64 9, .int .i64 5, .int .i64 2, .int .i64 0, .int .i64 0], u, v] w fun e w' => ∃ Az nz cz, e = .returned (.tuple #[.agg #[.slice Az nz cz, .int .i64 262], .int .i64 0]) ∧ Below w.heap.size w w' := by
  refine (Settle_any tarD weekD [0, 0, 3] u v w h hv).mono ?_
  rintro e w' ⟨z, rfl, hO, hb⟩
  rw [ex_accS, ex_setE]
  obtain ⟨A, c, rfl⟩ := ownsRow_form hO.out
  exact ⟨A, _, c, rfl, hb.out⟩

set_option maxRecDepth 100000 in
set_option maxHeartbeats 4000000 in
theorem awake_any (w : World) : Calls Try.prog 15 #[] w fun e w' => e = .returned (.bool true) ∧ Below w.heap.size w w' := by
  go_enter Try.func15, Try.ntmps15
  go_wp2_with fail
  refine (week_any _).mono ?_
  rintro _ w1 ⟨A1, c1, rfl, h1, b1⟩
  have B1 := Lib.hid b1
  have C1 := Lib.hid (best_ex _ w1 h1)
  clear b1 h1
  go_wp2_with fail
  refine C1.out.mono ?_
  rintro _ w2 ⟨rfl, b2⟩
  have B2 : Hid (Below w.heap.size w w2) := B1.out.trans (b2.mono B1.out.size)
  clear b2 C1 B1
  go_wp2_with fail
  refine (week_any _).mono ?_
  rintro _ w3 ⟨A3, c3, rfl, h3, b3⟩
  have B3 : Hid (Below w.heap.size w w3) := B2.out.trans (b3.mono B2.out.size)
  have C3 := Lib.hid (says_ex _ w3 h3)
  clear b3 h3 B2
  go_wp2_with fail
  refine C3.out.mono ?_
  rintro _ w4 ⟨rfl, b4⟩
  have B4 : Hid (Below w.heap.size w w4) := B3.out.trans (b4.mono B3.out.size)
  clear b4 C3 B3
  have F5 : ∃ w5, w4.alloc (.cells #[.int .i64 1, .int .i64 10, .int .i64 1, .int .i64 2, .int .i64 4, .int .i64 1, .int .i64 3, .int .i64 2, .int .i64 1] 33) = w5 ∧ Below w4.heap.size w4 w5 ∧ Blk w5 w4.heap.size 33 #[.int .i64 1, .int .i64 10, .int .i64 1, .int .i64 2, .int .i64 4, .int .i64 1, .int .i64 3, .int .i64 2, .int .i64 1] := ⟨_, rfl, below_alloc _ _, Blk.new _ _ _⟩
  obtain ⟨w5, e5, b5, k5⟩ := F5
  have E5 := Lib.hid e5
  have B5 : Hid (Below w.heap.size w w5) := B4.out.trans (b5.mono B4.out.size)
  have C5 : Hid (∀ c, Calls Try.prog 30 #[.slice (some ⟨w4.heap.size, 0, none⟩) 3 c, .int .i64 8] w5 fun e w' => ∃ A c, e = .returned (.tuple #[.slice A 3 c, .int .i64 0]) ∧ OInts w5.heap.size w' (.slice A 3 c) [5, 2, 1] ∧ Below w5.heap.size w5 w') := fun c =>
    share_ex _ w5 (rd_blk (n := 3) (k := 3) (xs := ordsD.flatMap OrdD.cells) k5 rfl (by omega))
  clear e5 b5 k5 B4
  go_wp2_with fail
  rw [E5.out]
  refine (C5.out _).mono ?_
  rintro _ w6 ⟨A6, c6, rfl, t6, b6⟩
  have B6 : Hid (Below w.heap.size w w6) := B5.out.trans (b6.mono B5.out.size)
  have T6 : Hid (OInts w.heap.size w6 (.slice A6 3 c6) [5, 2, 1]) := ownsRow_base t6 B5.out.size
  clear b6 t6 C5 E5 B5
  go_wp2_with fail
  refine (reader_any _).mono ?_
  rintro _ w7 ⟨u7, rfl, h7, b7⟩
  have B7 : Hid (Below w.heap.size w w7) := B6.out.trans (b7.mono B6.out.size)
  have T7 : Hid (OInts w.heap.size w7 (.slice A6 3 c6) [5, 2, 1]) := ownsRow_below T6.out b7
  have C7 := Lib.hid (copies_ex u7 w7 h7)
  clear b7 h7 B6 T6
  go_wp2_with fail
  refine C7.out.mono ?_
  rintro _ w8 ⟨rfl, b8⟩
  have B8 : Hid (Below w.heap.size w w8) := B7.out.trans (b8.mono B7.out.size)
  have T8 : Hid (OInts w.heap.size w8 (.slice A6 3 c6) [5, 2, 1]) := ownsRow_below T7.out b8
  clear b8 C7 B7 T7
  go_wp2_with fail
  refine (week_any _).mono ?_
  rintro _ w9 ⟨A9, c9, rfl, h9, b9⟩
  have B9 : Hid (Below w.heap.size w w9) := B8.out.trans (b9.mono B8.out.size)
  have T9 : Hid (OInts w.heap.size w9 (.slice A6 3 c6) [5, 2, 1]) := ownsRow_below T8.out b9
  have F10 : ∃ w10, w9.alloc (.cells #[.int .i64 0, .int .i64 0, .int .i64 3] 3) = w10 ∧ Below w9.heap.size w9 w10 ∧ Blk w10 w9.heap.size 3 #[.int .i64 0, .int .i64 0, .int .i64 3] := ⟨_, rfl, below_alloc _ _, Blk.new _ _ _⟩
  obtain ⟨w10, e10, b10, k10⟩ := F10
  have E10 := Lib.hid e10
  have B10 : Hid (Below w.heap.size w w10) := B9.out.trans (b10.mono B9.out.size)
  have T10 : Hid (OInts w.heap.size w10 (.slice A6 3 c6) [5, 2, 1]) := ownsRow_below T9.out b10
  have C10 : Hid (∀ c, Calls Try.prog 37 #[.agg #[.int .i64 9, .int .i64 5, .int .i64 2, .int .i64 0, .int .i64 0], .slice A9 3 c9, .slice (some ⟨w9.heap.size, 0, none⟩) 3 c] w10 fun e w' => ∃ Az nz cz, e = .returned (.tuple #[.agg #[.slice Az nz cz, .int .i64 262], .int .i64 0]) ∧ Below w10.heap.size w10 w') := fun c =>
    settle_ex _ _ w10 (Rd.more (Rd.below h9 b10) b10.size) (rd_blk (n := 3) (k := 1) (xs := [.int .i64 0, .int .i64 0, .int .i64 3]) k10 rfl (by omega))
  clear b9 h9 B8 T8 B9 T9 e10 b10 k10
  go_wp2_with fail
  rw [E10.out]
  refine (C10.out _).mono ?_
  rintro _ w11 ⟨Az, nz, cz, rfl, b11⟩
  have B11 : Hid (Below w.heap.size w w11) := B10.out.trans (b11.mono B10.out.size)
  have T11 : Hid (OInts w.heap.size w11 (.slice A6 3 c6) [5, 2, 1]) := ownsRow_below T10.out b11
  have F12 : ∃ w12, w11.alloc (.cells #[.slice Az nz cz, .int .i64 262] 80) = w12 ∧ Below w11.heap.size w11 w12 ∧ Blk w12 w11.heap.size 80 #[.slice Az nz cz, .int .i64 262] := ⟨_, rfl, below_alloc _ _, Blk.new _ _ _⟩
  obtain ⟨w12, e12, b12, k12⟩ := F12
  have E12 := Lib.hid e12
  have B12 : Hid (Below w.heap.size w w12) := B11.out.trans (b12.mono B11.out.size)
  have T12 : Hid (OInts w.heap.size w12 (.slice A6 3 c6) [5, 2, 1]) := ownsRow_below T11.out b12
  have K12 := Lib.hid k12
  have F13 : ∃ w13, w12.alloc (.cells #[.int .i64 5, .int .i64 2, .int .i64 1] 3) = w13 ∧ Below w12.heap.size w12 w13 ∧ Blk w13 w12.heap.size 3 #[.int .i64 5, .int .i64 2, .int .i64 1] := ⟨_, rfl, below_alloc _ _, Blk.new _ _ _⟩
  obtain ⟨w13, e13, b13, k13⟩ := F13
  have E13 := Lib.hid e13
  have B13 : Hid (Below w.heap.size w w13) := B12.out.trans (b13.mono B12.out.size)
  have K13 : Hid (Blk w13 w11.heap.size 80 #[.slice Az nz cz, .int .i64 262]) := K12.out.below b13 K12.out.lt
  have C13 : Hid (∀ c, Calls Try.prog 48 #[.slice A6 3 c6, .slice (some ⟨w12.heap.size, 0, none⟩) 3 c] w13 fun e w' => e = .returned (.bool true) ∧ Below w13.heap.size w13 w') := fun c =>
    eqInts_any _ _ [5, 2, 1] [5, 2, 1] w13 (Rd.own (ownsRow_below T12.out b13) (own_le T12.out)) (rd_blk (n := 3) (k := 1) (xs := [.int .i64 5, .int .i64 2, .int .i64 1]) k13 rfl (by omega))
  clear C10 E10 b11 B10 T10 T11 B11 e12 b12 k12 e13 b13 k13 T12 B12
  go_upto_region 6 with fail
  rw [E12.out]
  go_wp2_with fail
  rw [E13.out]
  refine (C13.out _).mono ?_
  rintro _ w14 ⟨rfl, b14⟩
  have B14 : Hid (Below w.heap.size w w14) := B13.out.trans (b14.mono B13.out.size)
  have c1 := cellOf (K13.out.below b14 K13.out.lt) 1 (x := .int .i64 262) rfl
  clear b14 C13 B13 E13 E12
  go_wp2
  go_ret
  exact ⟨rfl, B14.out⟩
end Go.Proofs.Ytlmpbmlbllndcaa

namespace Go.Proofs.Ytlmpbmlbllndcaa
open Go.RowKit
attribute [local go_sem] Oper.semAt_some

/-- A fraction in lowest terms. -/
def lowN (n d : Int) : Int := n / (Nat.gcd n.toNat d.toNat : Int)
def lowD (n d : Int) : Int := d / (Nat.gcd n.toNat d.toNat : Int)
theorem gcd_pos {n d : Int} (hd : 0 < d) : 0 < Nat.gcd n.toNat d.toNat := Nat.gcd_pos_of_pos_right _ (by omega)
set_option maxRecDepth 100000 in
set_option maxHeartbeats 4000000 in
theorem lowest_any (n d : Int) (hn : 0 ≤ n ∧ n ≤ 1000000000000) (hd : 1 ≤ d ∧ d ≤ 1000000000000) (w : World) :
    Calls Try.prog 119 #[.int .i64 n, .int .i64 d] w fun e w' => e = .returned (.agg #[.int .i64 (lowN n d), .int .i64 (lowD n d)]) ∧ Below w.heap.size w w' := by
  obtain ⟨n0, n1⟩ := hn
  obtain ⟨d0, d1⟩ := hd
  obtain ⟨g, hg⟩ : ∃ g, Nat.gcd n.toNat d.toNat = g := ⟨_, rfl⟩
  have hg0 : 0 < g := by rw [← hg]; exact gcd_pos (by omega)
  obtain ⟨N, hN⟩ : ∃ z, lowN n d = z := ⟨_, rfl⟩
  obtain ⟨D, hD⟩ : ∃ z, lowD n d = z := ⟨_, rfl⟩
  have HN : Hid (n / (g : Int) = N) := by show _ = _; rw [← hN, ← hg]; rfl
  have HD : Hid (d / (g : Int) = D) := by show _ = _; rw [← hD, ← hg]; rfl
  have hNb : 0 ≤ N ∧ N ≤ n := by rw [← HN.out]; exact ⟨Int.ediv_nonneg n0 (by omega), Int.ediv_le_self _ n0⟩
  have hDb : 0 ≤ D ∧ D ≤ d := by rw [← HD.out]; exact ⟨Int.ediv_nonneg (by omega) (by omega), Int.ediv_le_self _ (by omega)⟩
  obtain ⟨an, han⟩ : ∃ a : Nat, n = (a : Int) := ⟨n.toNat, by omega⟩
  obtain ⟨bd, hbd⟩ : ∃ a : Nat, d = (a : Int) := ⟨d.toNat, by omega⟩
  have HG : Hid (Nat.gcd an bd = g) := by show _ = _; rw [← hg, han, hbd]; rfl
  have F0 : ∃ W0, w.alloc (.cells #[.int .i64 0, .int .i64 0] 58) = W0 ∧ Hid (Below w.heap.size w W0) ∧ Hid (Blk W0 w.heap.size 58 #[.int .i64 0, .int .i64 0]) := ⟨_, rfl, below_alloc _ _, Blk.new _ _ _⟩
  obtain ⟨W0, e0, HB0, HK0⟩ := F0
  have E0 := Lib.hid e0
  obtain ⟨p, hp⟩ : ∃ p, w.heap.size = p := ⟨_, rfl⟩
  rw [hp] at HK0
  have HP := Lib.hid hp
  rw [hN, hD]
  have HAN := Lib.hid han
  have HBD := Lib.hid hbd
  have ha0 : an ≤ 1000000000000 := by omega
  have hb0 : bd ≤ 1000000000000 := by omega
  clear hg hN hD e0 hp
  subst han hbd
  go_enter Try.func119, Try.ntmps119
  go_upto_region 1 with fail
  rw [E0.out, HP.out]
  clear E0
  go_wp2_with fail
  go_loopw [5, 6] (fun s q wr => ∃ a b : Nat, s = .int .i64 a ∧ q = .int .i64 b ∧ a ≤ 1000000000000 ∧ b ≤ 1000000000000 ∧ Hid (Nat.gcd a b = g) ∧ Hid (Below W0.heap.size W0 wr)) (fun _ q _ => (intOf q).toNat)
  case atStart => exact ⟨an, bd, rfl, rfl, ha0, hb0, HG.out, Below.refl _ _⟩
  case round =>
  obtain ⟨a, b, rfl, rfl, ha, hb, hgc, hB⟩ := hrel
  obtain ⟨X, rfl⟩ : ∃ X : World, X = wr := ⟨_, rfl⟩
  by_cases hz : b = 0
  · have hz' : ((b : Int) != 0) = false := by simp [hz]
    obtain rfl : a = g := by have := hgc.out; rw [hz, Nat.gcd_zero_right] at this; exact this
    have HKX : Hid (Blk X p 58 #[.int .i64 0, .int .i64 0]) := HK0.out.below hB.out HK0.out.lt
    have r0 := cellOf HKX.out 0 (x := .int .i64 0) rfl
    have r1 := cellOf HKX.out 1 (x := .int .i64 0) rfl
    have f0 := HKX.out.frozen 0
    have f1 := HKX.out.frozen 1
    have r0' := cellOf HKX.out.drew_ 0 (x := .int .i64 0) rfl
    have r1' := cellOf HKX.out.drew_ 1 (x := .int .i64 0) rfl
    have f0' := HKX.out.drew_.frozen 0
    have f1' := HKX.out.drew_.frozen 1
    have ke : ((a : Int) == 0) = false := by simp; omega
    have ke' : ¬ (a : Int) = 0 := by omega
    have ke2 : ¬ a = 0 := by omega
    have kn : IntKind.i64.wrap ((an : Int).tdiv (a : Int)) = N := by rw [Int.tdiv_eq_ediv_of_nonneg n0, HN.out]; exact IntWalk.i64_in _ ⟨by omega, by omega⟩
    have kd : IntKind.i64.wrap ((bd : Int).tdiv (a : Int)) = D := by rw [Int.tdiv_eq_ediv_of_nonneg (by omega), HD.out]; exact IntWalk.i64_in _ ⟨by omega, by omega⟩
    have KN : Hid (wrap64 N = N) := (IntWalk.i64_left _).symm.trans (IntWalk.i64_in _ ⟨by omega, by omega⟩)
    have KD : Hid (wrap64 D = D) := (IntWalk.i64_left _).symm.trans (IntWalk.i64_in _ ⟨by omega, by omega⟩)
    clear hgc hz
    go_upto_region 4 with fail
    go_region
    rw [HN.out, HD.out, KN.out, KD.out]
    clear r0 r1 f0 f1 r0' r1' f0' f1' ke ke' ke2 kn kd
    have R := (HKX.out.put 0 (.int .i64 N)).put 1 (.int .i64 D)
    have e0 := cellOf R.drew_ 0 (x := .int .i64 N) rfl
    have e1 := cellOf R.drew_ 1 (x := .int .i64 D) rfl
    have hK : KeptBut (fun i => i = p) X ((X.setCell ⟨p, 0, none⟩ (.int .i64 N)).setCell ⟨p, 1, none⟩ (.int .i64 D)) := (KeptBut.setCell (S := fun i => i = p) rfl _).trans (KeptBut.setCell (S := fun i => i = p) rfl _) fun _ _ h => h
    have HBX : Hid (Below w.heap.size w X) := HB0.out.trans (hB.out.mono HB0.out.size)
    have HFIN : Hid (Below w.heap.size w ((X.setCell ⟨p, 0, none⟩ (.int .i64 N)).setCell ⟨p, 1, none⟩ (.int .i64 D)).drew) := (HBX.out.trans (hK.below (fun i hi => by rw [hi, HP.out]; exact Nat.le_refl _) HBX.out.size)).drew
    clear hK R
    go_wp2_with fail
    exact bodyPost_ret (v := .agg #[.int .i64 N, .int .i64 D]) (by simp [results, Try.results119, go_sem, e0, e1]) rfl ⟨rfl, HFIN.out⟩
  · have hz' : ((b : Int) != 0) = true := by simpa using hz
    have ke : ((b : Int) == 0) = false := by simp; omega
    have ke' : ¬ (b : Int) = 0 := by omega
    obtain ⟨r, hr⟩ : ∃ r, a % b = r := ⟨_, rfl⟩
    have hrb : r < b := by rw [← hr]; exact Nat.mod_lt _ (by omega)
    have HR : Hid ((a : Int) % (b : Int) = (r : Int)) := by show _ = _; rw [← hr]; rfl
    have HG2 : Hid (Nat.gcd b r = g) := by show _ = _; rw [← hgc.out, ← hr, Nat.gcd_comm a b, Nat.gcd_rec b a, Nat.gcd_comm]
    have kx : IntKind.i64.wrap (a : Int) = (a : Int) := IntWalk.i64_in _ ⟨by omega, by omega⟩
    have kr : IntKind.i64.wrap ((a : Int).tmod (b : Int)) = (r : Int) := by rw [Int.tmod_eq_emod_of_nonneg (by omega), HR.out]; exact IntWalk.i64_in _ ⟨by omega, by omega⟩
    clear hr hgc hz
    go_upto_region 3 with fail
    go_quiet (fail)
    rw [HR.out]
    have HBX : Hid (Below W0.heap.size W0 (X.drewN nq)) := hB.out.trans ((below_drewN (Below.refl _ _) nq).mono hB.out.size)
    clear kx kr ke ke'
    go_wp2_with fail
    go_roundw
    case rel => exact ⟨b, r, rfl, rfl, hb, by omega, HG2, HBX⟩
    case measure => simp [intOf]; omega
end Go.Proofs.Ytlmpbmlbllndcaa
