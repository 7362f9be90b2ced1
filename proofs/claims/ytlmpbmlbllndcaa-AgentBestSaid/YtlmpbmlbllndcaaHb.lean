/-
  AgentBest.
-/
import Derived.Test.YtlmpbmlbllndcaaHa
namespace Go.Proofs.Ytlmpbmlbllndcaa
open Go.RowKit
attribute [local go_sem] Oper.semAt_some

theorem steps_snoc (a b : Int) (l : List DayD) (d : DayD) (q : Int) : stepsD a b (l ++ [d]) q = stepsD a b l q + stepD a b d q := by
  induction l with
  | nil => simp [stepsD]
  | cons x l ih => simp only [List.cons_append, stepsD, ih]; omega
theorem steps_bd {a b : Int} (ha : 0 ≤ a ∧ a ≤ 100) (hb : 0 ≤ b ∧ b ≤ 100) (l : List DayD) (q : Int) : -100 * (l.length : Int) ≤ stepsD a b l q ∧ stepsD a b l q ≤ 100 * (l.length : Int) := by
  induction l with
  | nil => simp [stepsD]
  | cons d l ih =>
    have : -100 ≤ stepD a b d q ∧ stepD a b d q ≤ 100 := by unfold stepD; split <;> (try split) <;> omega
    simp only [stepsD, List.length_cons]
    push_cast
    omega
def stK (a b : Int) (l : List DayD) (q : Int) (k : Nat) : Int := stepsD a b (l.take k) q
theorem stK_next {a b : Int} {l : List DayD} {q : Int} {k : Nat} {x : DayD} (h : l[k]? = some x) : stK a b l q (k + 1) = stK a b l q k + stepD a b x q := by
  unfold stK
  rw [List.take_add_one, h, Option.toList_some, steps_snoc]
theorem stK_bd {a b : Int} (ha : 0 ≤ a ∧ a ≤ 100) (hb : 0 ≤ b ∧ b ≤ 100) {l : List DayD} (hl : l.length ≤ 60) (q : Int) (k : Nat) : -6000 ≤ stK a b l q k ∧ stK a b l q k ≤ 6000 := by
  have h1 := steps_bd ha hb (l.take k) q
  have h2 : (l.take k).length ≤ l.length := List.length_take_le' _ _
  unfold stK
  omega
theorem hist_len (data : List Int) : (histD data).length = nDays data := histTo_len _ _
theorem hist_check (data : List Int) : checkH (histD data) = 0 := checkH_of (by rw [hist_len]; unfold nDays; omega) fun d hd => (hist_ok data _ d hd).1
set_option maxRecDepth 100000 in
set_option maxHeartbeats 4000000 in
theorem agentBest_any (data : List Int) (hby : Bytes data) (x y z : Int) (hx : 0 ≤ x ∧ x ≤ 255) (hy : 0 ≤ y ∧ y ≤ 255) (hz : 0 ≤ z ∧ z ≤ 65535) (v : Value) (w : World) (h : RBytes w.heap.size w v data) :
    Calls Try.prog 8 #[v, .int .u8 x, .int .u8 y, .int .u16 z] w fun e w' => e = .returned (.bool true) ∧ Below w.heap.size w w' := by
  obtain ⟨x0, x1⟩ := hx
  obtain ⟨y0, y1⟩ := hy
  obtain ⟨z0, z1⟩ := hz
  have C1 := Lib.hid (history_any data hby v w h)
  obtain ⟨a, ha⟩ : ∃ a, x % 100 = a := ⟨_, rfl⟩
  obtain ⟨b, hb⟩ : ∃ b, y % 100 = b := ⟨_, rfl⟩
  obtain ⟨q, hq⟩ : ∃ q, z % 10001 = q := ⟨_, rfl⟩
  have a0 : 0 ≤ a := by omega
  have a1 : a ≤ 99 := by omega
  have b0 : 0 ≤ b := by omega
  have b1 : b ≤ 99 := by omega
  have q0 : 0 ≤ q := by omega
  have q1 : q ≤ 10000 := by omega
  obtain ⟨L, hL⟩ : ∃ L, histD data = L := ⟨_, rfl⟩
  obtain ⟨N, hN⟩ : ∃ N, nDays data = N := ⟨_, rfl⟩
  have hlen : L.length = N := by rw [← hL, ← hN]; exact hist_len data
  have hN60 : N ≤ 60 := by rw [← hN]; unfold nDays; omega
  have HCK : Hid (checkH L = 0) := by rw [← hL]; exact hist_check data
  have HOK : Hid (∀ d ∈ L, d.ok ∧ d.sup ≤ 59) := by rw [← hL]; exact hist_ok data _
  have HLEN := Lib.hid hlen
  have HL := Lib.hid hL
  have HN := Lib.hid hN
  have HA := Lib.hid ha
  have HB := Lib.hid hb
  have HQ := Lib.hid hq
  clear h ha hb hq hL hN hlen hby
  go_enter Try.func8, Try.ntmps8
  go_wp2_with fail
  refine C1.out.mono ?_
  rintro _ w1 ⟨A, c, rfl, hO, hb1⟩
  rw [HN.out] at hO ⊢
  rw [HL.out] at hO
  have HR1 : Hid (RDays w1.heap.size w1 (.slice A N c) L) := by
    have := Rd.own hO (own_le hO)
    show Rd _ _ _ _ _ _
    rw [HLEN.out]
    exact this
  have HB1 := Lib.hid hb1
  have C2 := Lib.hid (Best_any a b L _ w1 HR1.out)
  obtain ⟨e, he⟩ : ∃ e, bestE a b L = e := ⟨_, rfl⟩
  obtain ⟨bv, hbv⟩ : ∃ e, bestV a b L = e := ⟨_, rfl⟩
  obtain ⟨B, n⟩ := bv
  rw [he, hbv] at C2
  have HE := Lib.hid he
  have HBV := Lib.hid hbv
  clear C1 hO hb1 he hbv
  go_upto_region 3 with fail
  rw [HA.out, HB.out]
  go_wp2_with fail
  refine C2.out.mono ?_
  rintro _ w2 ⟨rfl, hb2⟩
  have HB2 : Hid (Below w.heap.size w w2) := HB1.out.trans (hb2.mono HB1.out.size)
  have HB12 := Lib.hid hb2
  clear C2 hb2
  by_cases hab : a + b = 0
  · have hab' : (a + b == 0) = true := by simpa using hab
    obtain rfl : e = 1 := by
      rw [← HE.out]
      unfold bestE
      rw [if_pos HCK.out, if_neg (fun hc => by have := (costB_iff.1 hc).2.2; omega)]
    clear hab
    go_wp2_with fail
    refine (awake_any _).mono ?_
    rintro _ w3 ⟨rfl, b3⟩
    have HB3 : Hid (Below w.heap.size w w3) := HB2.out.trans (b3.mono HB2.out.size)
    clear b3
    go_wp2
    go_ret
    exact ⟨rfl, HB3.out⟩
  have hab' : (a + b == 0) = false := by simpa using hab
  have HC : Hid (costB a b = true) := costB_iff.2 ⟨by omega, by omega, by omega⟩
  by_cases hN0 : N = 0
  · subst hN0
    obtain rfl : e = 4 := by
      rw [← HE.out]
      unfold bestE
      rw [if_pos HCK.out, if_pos HC.out, if_pos HLEN.out]
    clear hab
    go_wp2_with fail
    refine (awake_any _).mono ?_
    rintro _ w3 ⟨rfl, b3⟩
    have HB3 : Hid (Below w.heap.size w w3) := HB2.out.trans (b3.mono HB2.out.size)
    clear b3
    go_wp2
    go_ret
    exact ⟨rfl, HB3.out⟩
  have hN1 : ((N : Int) == 0) = false := by simp; omega
  have he0 : e = 0 := by
    rw [← HE.out]
    unfold bestE
    rw [if_pos HCK.out, if_pos HC.out, if_neg (by rw [HLEN.out]; exact hN0)]
  subst he0
  have HBD : Hid (bestD a b L = (B, n)) := by
    have h1 := HBV.out
    unfold bestV at h1
    rw [if_pos HE.out] at h1
    exact h1
  have HIS : Hid (IsBest a b L B n) := by
    have h1 := best_is a b L
    rw [HBD.out] at h1
    exact h1
  have hok : ∀ d ∈ L, d.ok := fun d hd => (HOK.out d hd).1
  obtain ⟨B0, B1⟩ := cand_nonneg hok HIS.out.cand
  have C3 : Hid (Calls Try.prog 24 #[.slice A N c, .int .i64 B, .int .i64 a, .int .i64 b] w2 fun e w' => e = .returned (.tuple #[.int .i64 n, .int .i64 0]) ∧ Below w2.heap.size w2 w') := by
    have h1 := Total_any a b L B _ w2 (Rd.more (Rd.below HR1.out HB12.out) HB12.out.size)
    have h2 := totalE_of HCK.out ⟨B0, B1⟩ HC.out
    have h3 : totalV a b L B = n := by unfold totalV; rw [if_pos h2]; exact HIS.out.tot.symm
    rw [h2, h3] at h1
    exact h1
  obtain ⟨m, hm⟩ : ∃ m, totD a b L q = m := ⟨_, rfl⟩
  have HT : Hid (∀ W, Below w2.heap.size w2 W → Calls Try.prog 24 #[.slice A N c, .int .i64 q, .int .i64 a, .int .i64 b] W fun e w' => e = .returned (.tuple #[.int .i64 m, .int .i64 0]) ∧ Below W.heap.size W w') := fun W hW => by
    have h0 := HB12.out.trans (hW.mono HB12.out.size)
    have h1 := Total_any a b L q _ W (Rd.more (Rd.below HR1.out h0) h0.size)
    have h2 := totalE_of HCK.out ⟨q0, q1⟩ HC.out
    have h3 : totalV a b L q = m := by unfold totalV; rw [if_pos h2]; exact hm
    rw [h2, h3] at h1
    exact h1
  have hall : n < m ∨ n = m ∧ B ≤ q := by
    have := HIS.out.all a0 q.toNat
    rw [show ((q.toNat : Nat) : Int) = q by omega, hm] at this
    exact this
  have HMORE : Hid (0 ≤ stepsD a b L B) := HIS.out.more a0 hok
  have HLESS : Hid (B ≠ 0 → stepsD a b L (B - 1) < 0) := HIS.out.less a0 hok
  clear hm hok hab HBV HBD HE hN0
  go_upto_region 9 with fail
  rw [HQ.out]
  go_wp2_with fail
  refine C3.out.mono ?_
  rintro _ w3 ⟨rfl, b3⟩
  have HB3 : Hid (Below w2.heap.size w2 w3) := b3
  have C4 := Lib.hid (HT.out w3 b3)
  clear b3 C3 HT
  go_wp2_with fail
  refine C4.out.mono ?_
  rintro _ w4 ⟨rfl, b4⟩
  have HB4 : Hid (Below w2.heap.size w2 w4) := HB3.out.trans (b4.mono HB3.out.size)
  have HBL : Hid (Below w1.heap.size w1 w4) := HB12.out.trans (HB4.out.mono HB12.out.size)
  have HBW : Hid (Below w.heap.size w w4) := HB2.out.trans (HB4.out.mono HB2.out.size)
  clear b4 C4 HB3 HB4
  obtain ⟨A', c', hsl, hlm, HD⟩ := days_later HR1.out
  injection hsl with e1 e2 e3
  subst e1 e3
  have hBn := HIS.out
  clear e2 hBn
  rw [HLEN.out] at hlm
  have hnm : ¬ m < n := by omega
  have nn : (n != n) = false := by simp
  have HSB : Hid (∀ k, -6000 ≤ stK a b L B k ∧ stK a b L B k ≤ 6000) := fun k => stK_bd ⟨a0, by omega⟩ ⟨b0, by omega⟩ (by rw [HLEN.out]; exact hN60) B k
  have HTB : Hid (∀ k, -6000 ≤ stK a b L (B - 1) k ∧ stK a b L (B - 1) k ≤ 6000) := fun k => stK_bd ⟨a0, by omega⟩ ⟨b0, by omega⟩ (by rw [HLEN.out]; exact hN60) (B - 1) k
  by_cases hmn : m = n
  · have hqb : ¬ q < B := by omega
    have hme : (m == n) = true := by simpa using hmn
    clear hall hmn
    go_wp2_with fail
    go_loopw [20, 21, 109] (fun s t i wr => ∃ k : Nat, k ≤ N ∧ i = .int .i64 k ∧ ∃ S T : Int, s = .int .i64 S ∧ t = .int .i64 T ∧ Hid (S = stK a b L B k) ∧ Hid (T = -(stK a b L (B - 1) k)) ∧ Hid (Below w1.heap.size w1 wr ∧ Below w.heap.size w wr)) (fun _ _ i _ => N - (intOf i).toNat)
    case atStart => exact ⟨0, Nat.zero_le _, rfl, 0, 0, rfl, rfl, rfl, by show _ = _; simp [stK, stepsD], ⟨HBL.out, HBW.out⟩⟩
    case round =>
      clear HBL HBW
      obtain ⟨k, hk, rfl, S, T, rfl, rfl, hS, hT, hB⟩ := hrel
      obtain ⟨X, rfl⟩ : ∃ X : World, X = wr := ⟨_, rfl⟩
      obtain ⟨s1, s2⟩ : -6000 ≤ S ∧ S ≤ 6000 := by rw [hS.out]; exact HSB.out k
      obtain ⟨t1, t2⟩ : -6000 ≤ T ∧ T ≤ 6000 := by have := HTB.out k; have := hT.out; omega
      by_cases hlt : k < N
      · obtain ⟨x, hx⟩ : ∃ x, L[k]? = some x := ⟨_, List.getElem?_eq_getElem (by rw [HLEN.out]; exact hlt)⟩
        obtain ⟨g, o, rfl, HX⟩ := HD.out k x hx
        obtain ⟨c0, c1⟩ := HX.out X hB.out.1
        have F1 : ∃ X1, X.alloc (.cells #[.int .i64 x.sup, .int .i64 x.ret] 24) = X1 ∧ Hid (Below X.heap.size X X1) ∧ Hid (Blk X1 X.heap.size 24 #[.int .i64 x.sup, .int .i64 x.ret]) := ⟨_, rfl, below_alloc _ _, Blk.new _ _ _⟩
        obtain ⟨X1, e1, HX1, HK1⟩ := F1
        have E1 := Lib.hid e1
        have HB1X : Hid (Below w1.heap.size w1 X1 ∧ Below w.heap.size w X1) := ⟨hB.out.1.trans (HX1.out.mono hB.out.1.size), hB.out.2.trans (HX1.out.mono hB.out.2.size)⟩
        have d0 := cellOf HK1.out 0 (x := .int .i64 x.sup) rfl
        have d1 := cellOf HK1.out 1 (x := .int .i64 x.ret) rfl
        obtain ⟨⟨p1, p2, p3, p4⟩, p5⟩ := HOK.out x (List.mem_of_getElem? hx)
        have hn1 := stK_next (a := a) (b := b) (q := B) hx
        have hn2 := stK_next (a := a) (b := b) (q := B - 1) hx
        obtain ⟨sd, hsold⟩ : ∃ sd, x.sold = sd := ⟨_, rfl⟩
        have hsd : x.sup - x.ret = sd := hsold
        have HSD := Lib.hid hsd
        have sd0 : 0 ≤ sd := by omega
        have sd1 : sd ≤ 59 := by omega
        have hk0 : (0 : Int) ≤ (k : Int) := by omega
        have hk1 : (k : Int) < (N : Int) := by omega
        clear hx HX e1 hsd
        go_upto_region 17 with fail
        rw [E1.out]
        clear E1 c0 c1
        go_upto_region 18 with fail
        rw [HSD.out]
        clear HSD
        by_cases h1 : B < sd
        · have h2 : B ≤ sd := by omega
          have HS2 : Hid (S - b = stK a b L B (k + 1)) := by show _ = _; rw [hn1, ← hS.out]; unfold stepD; rw [hsold, if_pos h1]; try omega
          have HT2 : Hid (T + b = -(stK a b L (B - 1) (k + 1))) := by show _ = _; rw [hn2, Int.neg_add, ← hT.out]; unfold stepD; rw [hsold, if_pos (show B - 1 < sd by omega)]; try omega
          have u1 : -100000 ≤ S - b ∧ S - b ≤ 100000 := by have := HSB.out (k + 1); have := HS2.out; omega
          have u2 : -100000 ≤ T + b ∧ T + b ≤ 100000 := by have := HTB.out (k + 1); have := HT2.out; omega
          obtain ⟨u11, u12⟩ := u1
          obtain ⟨u21, u22⟩ := u2
          clear hn1 hn2 hS hT hsold
          go_wp2_with fail
          go_roundw
          case rel => exact ⟨k + 1, by omega, by go_num, _, _, rfl, rfl, HS2, HT2, HB1X⟩
          case measure => simp [intOf]; omega
        by_cases h2 : B ≤ sd
        · by_cases h3 : 0 < x.ret
          · have HS2 : Hid (S + a = stK a b L B (k + 1)) := by show _ = _; rw [hn1, ← hS.out]; unfold stepD; rw [hsold, if_neg h1, if_pos h3]; try omega
            have HT2 : Hid (T + b = -(stK a b L (B - 1) (k + 1))) := by show _ = _; rw [hn2, Int.neg_add, ← hT.out]; unfold stepD; rw [hsold, if_pos (show B - 1 < sd by omega)]; try omega
            have u1 : -100000 ≤ S + a ∧ S + a ≤ 100000 := by have := HSB.out (k + 1); have := HS2.out; omega
            have u2 : -100000 ≤ T + b ∧ T + b ≤ 100000 := by have := HTB.out (k + 1); have := HT2.out; omega
            obtain ⟨u11, u12⟩ := u1
            obtain ⟨u21, u22⟩ := u2
            clear hn1 hn2 hS hT hsold
            go_wp2_with fail
            go_roundw
            case rel => exact ⟨k + 1, by omega, by go_num, _, _, rfl, rfl, HS2, HT2, HB1X⟩
            case measure => simp [intOf]; omega
          · have HS2 : Hid (S = stK a b L B (k + 1)) := by show _ = _; rw [hn1, ← hS.out]; unfold stepD; rw [hsold, if_neg h1, if_neg h3]; try omega
            have HT2 : Hid (T + b = -(stK a b L (B - 1) (k + 1))) := by show _ = _; rw [hn2, Int.neg_add, ← hT.out]; unfold stepD; rw [hsold, if_pos (show B - 1 < sd by omega)]; try omega
            have u1 : -100000 ≤ S ∧ S ≤ 100000 := by have := HSB.out (k + 1); have := HS2.out; omega
            have u2 : -100000 ≤ T + b ∧ T + b ≤ 100000 := by have := HTB.out (k + 1); have := HT2.out; omega
            obtain ⟨u11, u12⟩ := u1
            obtain ⟨u21, u22⟩ := u2
            clear hn1 hn2 hS hT hsold
            go_wp2_with fail
            go_roundw
            case rel => exact ⟨k + 1, by omega, by go_num, _, _, rfl, rfl, HS2, HT2, HB1X⟩
            case measure => simp [intOf]; omega
        · by_cases h3 : 0 < x.ret
          · have HS2 : Hid (S + a = stK a b L B (k + 1)) := by show _ = _; rw [hn1, ← hS.out]; unfold stepD; rw [hsold, if_neg h1, if_pos h3]; try omega
            have HT2 : Hid (T - a = -(stK a b L (B - 1) (k + 1))) := by show _ = _; rw [hn2, Int.neg_add, ← hT.out]; unfold stepD; rw [hsold, if_neg (show ¬ B - 1 < sd by omega), if_pos h3]; try omega
            have u1 : -100000 ≤ S + a ∧ S + a ≤ 100000 := by have := HSB.out (k + 1); have := HS2.out; omega
            have u2 : -100000 ≤ T - a ∧ T - a ≤ 100000 := by have := HTB.out (k + 1); have := HT2.out; omega
            obtain ⟨u11, u12⟩ := u1
            obtain ⟨u21, u22⟩ := u2
            clear hn1 hn2 hS hT hsold
            go_wp2_with fail
            go_roundw
            case rel => exact ⟨k + 1, by omega, by go_num, _, _, rfl, rfl, HS2, HT2, HB1X⟩
            case measure => simp [intOf]; omega
          · have HS2 : Hid (S = stK a b L B (k + 1)) := by show _ = _; rw [hn1, ← hS.out]; unfold stepD; rw [hsold, if_neg h1, if_neg h3]; try omega
            have HT2 : Hid (T = -(stK a b L (B - 1) (k + 1))) := by show _ = _; rw [hn2, Int.neg_add, ← hT.out]; unfold stepD; rw [hsold, if_neg (show ¬ B - 1 < sd by omega), if_neg h3]; try omega
            have u1 : -100000 ≤ S ∧ S ≤ 100000 := by have := HSB.out (k + 1); have := HS2.out; omega
            have u2 : -100000 ≤ T ∧ T ≤ 100000 := by have := HTB.out (k + 1); have := HT2.out; omega
            obtain ⟨u11, u12⟩ := u1
            obtain ⟨u21, u22⟩ := u2
            clear hn1 hn2 hS hT hsold
            go_wp2_with fail
            go_roundw
            case rel => exact ⟨k + 1, by omega, by go_num, _, _, rfl, rfl, HS2, HT2, HB1X⟩
            case measure => simp [intOf]; omega
      · obtain rfl : k = N := by omega
        have htk : L.take k = L := List.take_of_length_le (by rw [HLEN.out]; exact Nat.le_refl _)
        have hS0 : 0 ≤ S := by have h1 := hS.out; unfold stK at h1; rw [htk] at h1; rw [h1]; exact HMORE.out
        have hT0 : B ≠ 0 → 0 < T := fun hb => by have h1 := hT.out; unfold stK at h1; rw [htk] at h1; have := HLESS.out hb; omega
        clear htk hS hT
        by_cases hB0 : B = 0
        · have hB1 : (B == 0) = true := by simpa using hB0
          clear hT0 hB0
          go_wp2_with fail
          refine (awake_any _).mono ?_
          rintro _ w9 ⟨rfl, b9⟩
          have HB9 : Hid (Below w.heap.size w w9) := hB.out.2.trans (b9.mono hB.out.2.size)
          clear b9
          go_wp2
          go_ret
          exact ⟨rfl, HB9.out⟩
        · have hB1 : (B == 0) = false := by simpa using hB0
          have hT1 := hT0 hB0
          clear hT0 hB0
          go_wp2_with fail
          refine (awake_any _).mono ?_
          rintro _ w9 ⟨rfl, b9⟩
          have HB9 : Hid (Below w.heap.size w w9) := hB.out.2.trans (b9.mono hB.out.2.size)
          clear b9
          go_wp2
          go_ret
          exact ⟨rfl, HB9.out⟩
  · have hme : (m == n) = false := by simpa using hmn
    clear hall hmn
    go_wp2_with fail
    go_loopw [20, 21, 109] (fun s t i wr => ∃ k : Nat, k ≤ N ∧ i = .int .i64 k ∧ ∃ S T : Int, s = .int .i64 S ∧ t = .int .i64 T ∧ Hid (S = stK a b L B k) ∧ Hid (T = -(stK a b L (B - 1) k)) ∧ Hid (Below w1.heap.size w1 wr ∧ Below w.heap.size w wr)) (fun _ _ i _ => N - (intOf i).toNat)
    case atStart => exact ⟨0, Nat.zero_le _, rfl, 0, 0, rfl, rfl, rfl, by show _ = _; simp [stK, stepsD], ⟨HBL.out, HBW.out⟩⟩
    case round =>
      clear HBL HBW
      obtain ⟨k, hk, rfl, S, T, rfl, rfl, hS, hT, hB⟩ := hrel
      obtain ⟨X, rfl⟩ : ∃ X : World, X = wr := ⟨_, rfl⟩
      obtain ⟨s1, s2⟩ : -6000 ≤ S ∧ S ≤ 6000 := by rw [hS.out]; exact HSB.out k
      obtain ⟨t1, t2⟩ : -6000 ≤ T ∧ T ≤ 6000 := by have := HTB.out k; have := hT.out; omega
      by_cases hlt : k < N
      · obtain ⟨x, hx⟩ : ∃ x, L[k]? = some x := ⟨_, List.getElem?_eq_getElem (by rw [HLEN.out]; exact hlt)⟩
        obtain ⟨g, o, rfl, HX⟩ := HD.out k x hx
        obtain ⟨c0, c1⟩ := HX.out X hB.out.1
        have F1 : ∃ X1, X.alloc (.cells #[.int .i64 x.sup, .int .i64 x.ret] 24) = X1 ∧ Hid (Below X.heap.size X X1) ∧ Hid (Blk X1 X.heap.size 24 #[.int .i64 x.sup, .int .i64 x.ret]) := ⟨_, rfl, below_alloc _ _, Blk.new _ _ _⟩
        obtain ⟨X1, e1, HX1, HK1⟩ := F1
        have E1 := Lib.hid e1
        have HB1X : Hid (Below w1.heap.size w1 X1 ∧ Below w.heap.size w X1) := ⟨hB.out.1.trans (HX1.out.mono hB.out.1.size), hB.out.2.trans (HX1.out.mono hB.out.2.size)⟩
        have d0 := cellOf HK1.out 0 (x := .int .i64 x.sup) rfl
        have d1 := cellOf HK1.out 1 (x := .int .i64 x.ret) rfl
        obtain ⟨⟨p1, p2, p3, p4⟩, p5⟩ := HOK.out x (List.mem_of_getElem? hx)
        have hn1 := stK_next (a := a) (b := b) (q := B) hx
        have hn2 := stK_next (a := a) (b := b) (q := B - 1) hx
        obtain ⟨sd, hsold⟩ : ∃ sd, x.sold = sd := ⟨_, rfl⟩
        have hsd : x.sup - x.ret = sd := hsold
        have HSD := Lib.hid hsd
        have sd0 : 0 ≤ sd := by omega
        have sd1 : sd ≤ 59 := by omega
        have hk0 : (0 : Int) ≤ (k : Int) := by omega
        have hk1 : (k : Int) < (N : Int) := by omega
        clear hx HX e1 hsd
        go_upto_region 17 with fail
        rw [E1.out]
        clear E1 c0 c1
        go_upto_region 18 with fail
        rw [HSD.out]
        clear HSD
        by_cases h1 : B < sd
        · have h2 : B ≤ sd := by omega
          have HS2 : Hid (S - b = stK a b L B (k + 1)) := by show _ = _; rw [hn1, ← hS.out]; unfold stepD; rw [hsold, if_pos h1]; try omega
          have HT2 : Hid (T + b = -(stK a b L (B - 1) (k + 1))) := by show _ = _; rw [hn2, Int.neg_add, ← hT.out]; unfold stepD; rw [hsold, if_pos (show B - 1 < sd by omega)]; try omega
          have u1 : -100000 ≤ S - b ∧ S - b ≤ 100000 := by have := HSB.out (k + 1); have := HS2.out; omega
          have u2 : -100000 ≤ T + b ∧ T + b ≤ 100000 := by have := HTB.out (k + 1); have := HT2.out; omega
          obtain ⟨u11, u12⟩ := u1
          obtain ⟨u21, u22⟩ := u2
          clear hn1 hn2 hS hT hsold
          go_wp2_with fail
          go_roundw
          case rel => exact ⟨k + 1, by omega, by go_num, _, _, rfl, rfl, HS2, HT2, HB1X⟩
          case measure => simp [intOf]; omega
        by_cases h2 : B ≤ sd
        · by_cases h3 : 0 < x.ret
          · have HS2 : Hid (S + a = stK a b L B (k + 1)) := by show _ = _; rw [hn1, ← hS.out]; unfold stepD; rw [hsold, if_neg h1, if_pos h3]; try omega
            have HT2 : Hid (T + b = -(stK a b L (B - 1) (k + 1))) := by show _ = _; rw [hn2, Int.neg_add, ← hT.out]; unfold stepD; rw [hsold, if_pos (show B - 1 < sd by omega)]; try omega
            have u1 : -100000 ≤ S + a ∧ S + a ≤ 100000 := by have := HSB.out (k + 1); have := HS2.out; omega
            have u2 : -100000 ≤ T + b ∧ T + b ≤ 100000 := by have := HTB.out (k + 1); have := HT2.out; omega
            obtain ⟨u11, u12⟩ := u1
            obtain ⟨u21, u22⟩ := u2
            clear hn1 hn2 hS hT hsold
            go_wp2_with fail
            go_roundw
            case rel => exact ⟨k + 1, by omega, by go_num, _, _, rfl, rfl, HS2, HT2, HB1X⟩
            case measure => simp [intOf]; omega
          · have HS2 : Hid (S = stK a b L B (k + 1)) := by show _ = _; rw [hn1, ← hS.out]; unfold stepD; rw [hsold, if_neg h1, if_neg h3]; try omega
            have HT2 : Hid (T + b = -(stK a b L (B - 1) (k + 1))) := by show _ = _; rw [hn2, Int.neg_add, ← hT.out]; unfold stepD; rw [hsold, if_pos (show B - 1 < sd by omega)]; try omega
            have u1 : -100000 ≤ S ∧ S ≤ 100000 := by have := HSB.out (k + 1); have := HS2.out; omega
            have u2 : -100000 ≤ T + b ∧ T + b ≤ 100000 := by have := HTB.out (k + 1); have := HT2.out; omega
            obtain ⟨u11, u12⟩ := u1
            obtain ⟨u21, u22⟩ := u2
            clear hn1 hn2 hS hT hsold
            go_wp2_with fail
            go_roundw
            case rel => exact ⟨k + 1, by omega, by go_num, _, _, rfl, rfl, HS2, HT2, HB1X⟩
            case measure => simp [intOf]; omega
        · by_cases h3 : 0 < x.ret
          · have HS2 : Hid (S + a = stK a b L B (k + 1)) := by show _ = _; rw [hn1, ← hS.out]; unfold stepD; rw [hsold, if_neg h1, if_pos h3]; try omega
            have HT2 : Hid (T - a = -(stK a b L (B - 1) (k + 1))) := by show _ = _; rw [hn2, Int.neg_add, ← hT.out]; unfold stepD; rw [hsold, if_neg (show ¬ B - 1 < sd by omega), if_pos h3]; try omega
            have u1 : -100000 ≤ S + a ∧ S + a ≤ 100000 := by have := HSB.out (k + 1); have := HS2.out; omega
            have u2 : -100000 ≤ T - a ∧ T - a ≤ 100000 := by have := HTB.out (k + 1); have := HT2.out; omega
            obtain ⟨u11, u12⟩ := u1
            obtain ⟨u21, u22⟩ := u2
            clear hn1 hn2 hS hT hsold
            go_wp2_with fail
            go_roundw
            case rel => exact ⟨k + 1, by omega, by go_num, _, _, rfl, rfl, HS2, HT2, HB1X⟩
            case measure => simp [intOf]; omega
          · have HS2 : Hid (S = stK a b L B (k + 1)) := by show _ = _; rw [hn1, ← hS.out]; unfold stepD; rw [hsold, if_neg h1, if_neg h3]; try omega
            have HT2 : Hid (T = -(stK a b L (B - 1) (k + 1))) := by show _ = _; rw [hn2, Int.neg_add, ← hT.out]; unfold stepD; rw [hsold, if_neg (show ¬ B - 1 < sd by omega), if_neg h3]; try omega
            have u1 : -100000 ≤ S ∧ S ≤ 100000 := by have := HSB.out (k + 1); have := HS2.out; omega
            have u2 : -100000 ≤ T ∧ T ≤ 100000 := by have := HTB.out (k + 1); have := HT2.out; omega
            obtain ⟨u11, u12⟩ := u1
            obtain ⟨u21, u22⟩ := u2
            clear hn1 hn2 hS hT hsold
            go_wp2_with fail
            go_roundw
            case rel => exact ⟨k + 1, by omega, by go_num, _, _, rfl, rfl, HS2, HT2, HB1X⟩
            case measure => simp [intOf]; omega
      · obtain rfl : k = N := by omega
        have htk : L.take k = L := List.take_of_length_le (by rw [HLEN.out]; exact Nat.le_refl _)
        have hS0 : 0 ≤ S := by have h1 := hS.out; unfold stK at h1; rw [htk] at h1; rw [h1]; exact HMORE.out
        have hT0 : B ≠ 0 → 0 < T := fun hb => by have h1 := hT.out; unfold stK at h1; rw [htk] at h1; have := HLESS.out hb; omega
        clear htk hS hT
        by_cases hB0 : B = 0
        · have hB1 : (B == 0) = true := by simpa using hB0
          clear hT0 hB0
          go_wp2_with fail
          refine (awake_any _).mono ?_
          rintro _ w9 ⟨rfl, b9⟩
          have HB9 : Hid (Below w.heap.size w w9) := hB.out.2.trans (b9.mono hB.out.2.size)
          clear b9
          go_wp2
          go_ret
          exact ⟨rfl, HB9.out⟩
        · have hB1 : (B == 0) = false := by simpa using hB0
          have hT1 := hT0 hB0
          clear hT0 hB0
          go_wp2_with fail
          refine (awake_any _).mono ?_
          rintro _ w9 ⟨rfl, b9⟩
          have HB9 : Hid (Below w.heap.size w w9) := hB.out.2.trans (b9.mono hB.out.2.size)
          clear b9
          go_wp2
          go_ret
          exact ⟨rfl, HB9.out⟩
end Go.Proofs.Ytlmpbmlbllndcaa
