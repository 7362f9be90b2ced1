/-
  ReelRun: the walk.
-/
import Derived.Test.YtpkepacbondopaaVa
import Derived.Test.YtpkepacbondopaaGf
namespace Go.Proofs.Ytpkepacbondopaa
open Go.RowKit
attribute [local go_sem] Oper.semAt_some

theorem copiesE_zero {p : PressD} {n : Int} (h : checkE p = 0) (h0 : 0 ≤ n) (h1 : n ≤ p.reach) : copiesE p n = 0 := by
  unfold copiesE
  rw [if_neg (by simp [h]), if_neg (by omega), if_neg (by omega)]
theorem reach_ok (p : PressD) (hc : checkE p = 0) (v : Value) (w : World) (h : RPress w.heap.size w v p) :
    Calls Try.prog 19 #[v] w fun e w' => e = .returned (.tuple #[.int .i64 p.reach, .int .i64 0]) ∧ Below w.heap.size w w' := by
  have := Reach_any p v w h
  rw [hc, if_pos rfl] at this
  exact this
/-- What Thrown answers where it does. -/
def ThrownOk (p : PressD) (n : Int) (w : World) (e : Ending) (w' : World) : Prop := ∃ A m c l, e = .returned (.tuple #[.slice A m c, .int .i64 0]) ∧ Hid (p.ThrownIs n l ∧ l.length ≤ 120 ∧ l.length = m ∧ RSpans w'.heap.size w' (.slice A m c) l ∧ Below w.heap.size w w')
theorem thrown_ok (p : PressD) (hc : checkE p = 0) (n : Int) (h0 : 0 ≤ n) (h1 : n ≤ p.reach) (v : Value) (w : World) (h : RPress w.heap.size w v p) :
    Calls Try.prog 20 #[v, .int .i64 n] w (ThrownOk p n w) := by
  refine (Thrown_any p n v w h).mono ?_
  rintro e w' ⟨u, l, rfl, h2, -, h4, h5, h6⟩
  have hz := copiesE_zero hc h0 h1
  rw [hz]
  obtain ⟨A, c, rfl⟩ := ownsRow_form h5
  exact ⟨A, _, c, l, rfl, h2 hz, h4, rfl, OSpans.reads h5, h6⟩
/-- What Run answers. -/
def RunOk (p : PressD) (g : Int) (lw : List Sp) (w : World) (e : Ending) (w' : World) : Prop := Hid (Below w.heap.size w w') ∧ ((p.reach < runL g lw ∧ e = .returned (.tuple #[.int .i64 0, .int .i64 70])) ∨ (runL g lw ≤ p.reach ∧ e = .returned (.tuple #[.int .i64 (runL g lw), .int .i64 0])))
theorem run_ok (p : PressD) (hc : checkE p = 0) (g : Int) (h0 : 0 ≤ g) (h1 : g ≤ 1000000) (lw : List Sp) (hl : p.ThrownIs p.reach lw) (v : Value) (w : World) (h : RPress w.heap.size w v p) :
    Calls Try.prog 23 #[v, .int .i64 g] w (RunOk p g lw w) := by
  refine (Run_any p g v w h).mono ?_
  rintro e w' ⟨n, c, rfl, hb, h2 | h2 | ⟨-, -, l, h3, h4⟩⟩
  · exact absurd hc h2.1
  · exact absurd ⟨h0, h1⟩ h2.2.1
  · obtain rfl := PressD.ThrownIs.one h3 hl
    refine ⟨hb, ?_⟩
    rcases h4 with ⟨h5, rfl, rfl⟩ | ⟨h5, rfl, rfl⟩
    · exact .inl ⟨h5, rfl⟩
    · exact .inr ⟨h5, rfl⟩
set_option maxRecDepth 1000000 in
set_option maxHeartbeats 4000000 in
theorem ReelRun_any (l : List Int) (hl : Bytes l) (x : Int) (hx : 0 ≤ x ∧ x ≤ 65535) (y : Int) (hy : 0 ≤ y ∧ y ≤ 65535) (vl : Value) (w : World) (h : RBytes w.heap.size w vl l) :
    Calls Try.prog 7 #[vl, .int .u16 x, .int .u16 y] w fun e w' => e = .returned (.bool true) ∧ Below w.heap.size w w' := by
  obtain ⟨hx1, hx2⟩ := hx
  obtain ⟨hy1, hy2⟩ := hy
  have CM := Lib.hid (Made_any l hl vl w h)
  have hchk := made_check l
  have hok := made_ok l
  have hrb := reach_bound hok
  have HCH := Lib.hid hchk
  clear hl h hchk hok
  go_enter Try.func7, Try.ntmps7
  go_wp2_with fail
  refine CM.out.mono ?_
  rintro _ w1 ⟨u, rfl, ⟨v, rfl, hO⟩, hb1⟩
  obtain ⟨Av, cv, hvf⟩ := ownsRow_form hO.choose_spec.1
  subst hvf
  obtain ⟨p, hp⟩ : ∃ p, madeP l = p := ⟨_, rfl⟩
  rw [hp] at hO hrb HCH ⊢
  have F2 : ∃ w2, w1.alloc (.cells #[.int .i64 p.cut, .int .i64 p.margin, .slice Av p.webs.length cv] 24) = w2 ∧ Below w1.heap.size w1 w2 ∧ Blk w2 w1.heap.size 24 #[.int .i64 p.cut, .int .i64 p.margin, .slice Av p.webs.length cv] := ⟨_, rfl, below_alloc _ _, Blk.new _ _ _⟩
  obtain ⟨w2, e2, hb2, k2⟩ := F2
  have E2 := Lib.hid e2
  obtain ⟨P, hP⟩ : ∃ a, w1.heap.size = a := ⟨_, rfl⟩
  have HP2 : Hid (RPress w2.heap.size w2 (.agg #[.int .i64 p.cut, .int .i64 p.margin, .slice Av p.webs.length cv]) p) := ⟨_, rfl, (hO.reads.below hb2).more hb2.size⟩
  have HB2 : Hid (Below w.heap.size w w2) := hb1.trans (hb2.mono hb1.size)
  rw [hP] at k2
  have K2 := Lib.hid k2
  obtain ⟨re, hre⟩ : ∃ a, p.reach = a := ⟨_, rfl⟩
  obtain ⟨cut, hcut⟩ : ∃ a, p.cut = a := ⟨_, rfl⟩
  obtain ⟨mg, hmg⟩ : ∃ a, p.margin = a := ⟨_, rfl⟩
  obtain ⟨nw, hnw⟩ : ∃ a, p.webs.length = a := ⟨_, rfl⟩
  rw [hre] at hrb
  rw [hcut, hmg, hnw] at E2 HP2 K2 ⊢
  obtain ⟨hr0, hr1⟩ := hrb
  have HRE := Lib.hid hre
  have C2 := reach_ok p HCH.out _ w2 HP2.out
  rw [hre] at C2
  have C2 := Lib.hid C2
  have m0 := cellOf K2.out 0 (x := .int .i64 cut) rfl
  have m1 := cellOf K2.out 1 (x := .int .i64 mg) rfl
  have m2 := cellOf K2.out 2 (x := .slice Av nw cv) rfl
  clear CM hO hb1 e2 hb2 k2 hre hcut hmg hnw hp
  go_upto_region 2 with fail
  rw [E2.out]
  clear hP
  go_wp2_with fail
  refine C2.out.mono ?_
  rintro _ w3 ⟨rfl, hb3⟩
  have HP3 : Hid (RPress w3.heap.size w3 (.agg #[.int .i64 cut, .int .i64 mg, .slice Av nw cv]) p) := (HP2.out.below hb3).more hb3.size
  have HB3 : Hid (Below w.heap.size w w3) := HB2.out.trans (hb3.mono HB2.out.size)
  have K3 := Lib.hid (K2.out.below hb3 K2.out.lt)
  clear m0 m1 m2
  have m0 := cellOf K3.out 0 (x := .int .i64 cut) rfl
  have m1 := cellOf K3.out 1 (x := .int .i64 mg) rfl
  have m2 := cellOf K3.out 2 (x := .slice Av nw cv) rfl
  have C3 := thrown_ok p HCH.out re hr0 (by rw [HRE.out]; exact Int.le_refl _) _ w3 HP3.out
  have C3 := Lib.hid C3
  clear hb3 C2 E2 HP2 K2 HB2
  go_wp2_with fail
  refine C3.out.mono ?_
  rintro _ w4 ⟨Aw, nsw, csw, lw, rfl, h4⟩
  have HT : Hid (p.ThrownIs p.reach lw) := by show PressD.ThrownIs _ _ _; rw [HRE.out]; exact h4.out.1
  have HW4 : Hid (lw.length ≤ 120 ∧ RSpans w4.heap.size w4 (.slice Aw nsw csw) lw) := ⟨h4.out.2.1, h4.out.2.2.2.1⟩
  have HWB : Hid (∀ s ∈ lw, 0 ≤ s.lo ∧ s.lo ≤ s.hi ∧ s.hi < 1000000) := fun s hs => by
    have := ThrownIs.within h4.out.1 s hs
    omega
  have hb4 := h4.out.2.2.2.2
  have HP4 : Hid (RPress w4.heap.size w4 (.agg #[.int .i64 cut, .int .i64 mg, .slice Av nw cv]) p) := (HP3.out.below hb4).more hb4.size
  have HB4 : Hid (Below w.heap.size w w4) := HB3.out.trans (hb4.mono HB3.out.size)
  have K4 := Lib.hid (K3.out.below hb4 K3.out.lt)
  clear m0 m1 m2
  have m0 := cellOf K4.out 0 (x := .int .i64 cut) rfl
  have m1 := cellOf K4.out 1 (x := .int .i64 mg) rfl
  have m2 := cellOf K4.out 2 (x := .slice Av nw cv) rfl
  have hg0 : 0 ≤ x % (re + 3) := Int.emod_nonneg _ (by omega)
  have hg1 : x % (re + 3) < re + 3 := Int.emod_lt_of_pos _ (by omega)
  have hg2 : x % (re + 3) ≤ x := by
    rcases Int.lt_or_le x (re + 3) with h | h
    · rw [Int.emod_eq_of_lt hx1 h]; exact Int.le_refl _
    · omega
  obtain ⟨g, hg⟩ : ∃ a, x % (re + 3) = a := ⟨_, rfl⟩
  rw [hg] at hg0 hg1 hg2
  have C4 := Lib.hid (run_ok p HCH.out g hg0 (by omega) lw HT.out _ w4 HP4.out)
  have hre9 : (0 : Int) < re + 3 := by omega
  have hne : ((re + 3) == 0) = false := by simp; omega
  have hne' : ¬ re + 3 = 0 := by omega
  clear hb4 C3 K3 HP3 HB3 h4
  go_wp2_with fail
  refine C4.out.mono ?_
  rintro _ w5 ⟨hb5, hcase⟩
  rw [hg]
  rw [HRE.out] at hcase
  have HP5 : Hid (RPress w5.heap.size w5 (.agg #[.int .i64 cut, .int .i64 mg, .slice Av nw cv]) p) := (HP4.out.below hb5.out).more hb5.out.size
  have HB5 : Hid (Below w.heap.size w w5) := HB4.out.trans (hb5.out.mono HB4.out.size)
  have HW5 : Hid (RSpans w5.heap.size w5 (.slice Aw nsw csw) lw) := (Rd.below HW4.out.2 hb5.out).more hb5.out.size
  have HWL : Hid (lw.length ≤ 120) := HW4.out.1
  have K5 := Lib.hid (K4.out.below hb5.out K4.out.lt)
  clear m0 m1 m2
  have m0 := cellOf K5.out 0 (x := .int .i64 cut) rfl
  have m1 := cellOf K5.out 1 (x := .int .i64 mg) rfl
  have m2 := cellOf K5.out 2 (x := .slice Av nw cv) rfl
  clear hb5 C4 K4 HP4 HB4 HW4 hg hne hne' hre9
  obtain ⟨n, hn⟩ : ∃ n, runL g lw = n := ⟨_, rfl⟩
  rw [hn] at hcase
  have HRL := Lib.hid (runL_le lw g HT.out.1)
  have HN := Lib.hid hn
  clear hn
  rcases hcase with ⟨hlt, he⟩ | ⟨hle, he⟩
  · subst he
    have CC := Lib.hid (count_any lw _ w5 HW5.out (by have := HWL.out; omega) HWB.out)
    obtain ⟨cw, hcw⟩ : ∃ c, cntL lw = c := ⟨_, rfl⟩
    have hcb : 0 ≤ cw := by rw [← hcw]; exact cntL_nonneg HT.out.1
    have hlt2 : re - cw < g := by have := HRL.out.1; rw [HN.out, hcw] at this; omega
    have hcb2 : cw ≤ 1000000 := by
      have h1 := cntL_is (n := 1000000) HT.out.1 fun s hs => by have := HWB.out s hs; omega
      have h2 : cntTo lw 1000000 ≤ 1000000 := by
        unfold cntTo
        exact Nat.le_trans (List.countP_le_length ..) (by rw [List.length_range]; exact Nat.le_refl _)
      omega
    rw [hcw] at CC
    clear hcw m0 m1 m2
    go_wp2_with fail
    refine CC.out.mono ?_
    rintro _ w6 ⟨rfl, hb6⟩
    have HB6 : Hid (Below w.heap.size w w6) := HB5.out.trans (hb6.mono HB5.out.size)
    have CA := Lib.hid (awake_any w6)
    have hlt3 : decide (re - cw < g) = true := by simp [hlt2]
    clear hb6 CC
    go_wp2_with fail
    refine CA.out.mono ?_
    rintro _ w7 ⟨rfl, hb7⟩
    have HB7 : Hid (Below w.heap.size w w7) := HB6.out.trans (hb7.mono HB6.out.size)
    clear hb7 CA
    go_wp2_with fail
    go_ret
    exact ⟨rfl, HB7.out⟩
  subst he
  have hn0 : 0 ≤ n := by have := HRL.out.2; rw [HN.out] at this; omega
  have C5 := Lib.hid (thrown_ok p HCH.out n hn0 (by rw [HRE.out]; exact hle) _ w5 HP5.out)
  obtain ⟨N, hN⟩ : ∃ N : Nat, (N : Int) = n := ⟨n.toNat, by omega⟩
  obtain ⟨M, hM⟩ : ∃ N : Nat, (N : Int) = re := ⟨re.toNat, by omega⟩
  have HTM : Hid (p.ThrownIs (M : Int) lw) := by show PressD.ThrownIs _ _ _; rw [hM, ← HRE.out]; exact HT.out
  have HG := Lib.hid (runL_good (n := N) HT.out.1 (fun s hs => (HWB.out s hs).1) (by rw [HN.out, hN]))
  have HNN := Lib.hid hN
  have HMM := Lib.hid hM
  clear hN hM
  go_wp2_with fail
  refine C5.out.mono ?_
  rintro _ w6 ⟨As, ns, cs, ls, rfl, h6⟩
  have hb6 := h6.out.2.2.2.2
  have HB6 : Hid (Below w.heap.size w w6) := HB5.out.trans (hb6.mono HB5.out.size)
  have HS : Hid (p.ThrownIs (N : Int) ls) := by show PressD.ThrownIs _ _ _; rw [HNN.out]; exact h6.out.1
  have HP6 : Hid (RPress w6.heap.size w6 (.agg #[.int .i64 cut, .int .i64 mg, .slice Av nw cv]) p) := (HP5.out.below hb6).more hb6.size
  have HW6 : Hid (RSpans w6.heap.size w6 (.slice Aw nsw csw) lw) := (Rd.below HW5.out hb6).more hb6.size
  have K6 := Lib.hid (K5.out.below hb6 K5.out.lt)
  have hcnt : cntL ls = n - g := by
    have h1 := ThrownIs.cnt HTM.out HS.out (by have := HNN.out; have := HMM.out; omega)
    have h2 := HG.out.1
    have := HNN.out
    omega
  have CC : Hid (Calls Try.prog 24 #[.slice As ns cs] w6 fun e w' => e = .returned (.int .i64 (n - g)) ∧ Below w6.heap.size w6 w') := by
    have h1 := count_any ls _ w6 h6.out.2.2.2.1 (by have := h6.out.2.1; omega) fun s hs => by
      have := ThrownIs.within h6.out.1 s hs
      omega
    rw [hcnt] at h1
    exact h1
  have HSR : Hid (ls.length ≤ 120 ∧ RSpans w6.heap.size w6 (.slice As ns cs) ls) := ⟨h6.out.2.1, h6.out.2.2.2.1⟩
  have HCO : Hid (0 < n → covB ls (n - 1) = false) := fun hpos => by
    have h1 := HG.out.2.1 (by have := HNN.out; omega)
    rw [HNN.out] at h1
    cases h2 : covB ls (n - 1)
    · rfl
    · have h3 := (ThrownIs.cov_less HTM.out HS.out (by have := HNN.out; have := HMM.out; omega) (n - 1)).1 (covB_iff.1 h2)
      rw [covB_iff.2 h3.1] at h1
      cases h1
  clear m0 m1 m2 hcnt hb6 h6 C5
  go_upto_region 11 with fail
  go_cut [93] (fun s wx => s = .bool false ∧ Hid (Below w6.heap.size w6 wx))
  case first =>
    have hle2 : ¬ re < n := by omega
    have g1 : decide (re < n) = false := by simp; omega
    go_wp2_with fail
    refine CC.out.mono ?_
    rintro _ w7 ⟨rfl, hb7⟩
    have HB7 := Lib.hid hb7
    have hsub : n - (n - g) = g := by omega
    have HSub := Lib.hid hsub
    clear hb7 hsub
    by_cases hpos : 0 < n
    · have CO : Hid (Calls Try.prog 22 #[.slice As ns cs, .int .i64 (n - 1)] w7 fun e w' => e = .returned (.bool false) ∧ Below w7.heap.size w7 w') := by
        have h1 := out_any ls (n - 1) _ w7 ((Rd.below HSR.out.2 HB7.out).more HB7.out.size) (by have := HSR.out.1; omega)
        rw [HCO.out hpos] at h1
        exact h1
      have g2 : (n - (n - g) != g) = false := by rw [HSub.out]; simp
      have g3 : decide (0 < n) = true := by simp [hpos]
      go_wp2_with fail
      refine CO.out.mono ?_
      rintro _ w8 ⟨rfl, hb8⟩
      have HB8 : Hid (Below w6.heap.size w6 w8) := HB7.out.trans (hb8.mono HB7.out.size)
      clear hb8
      go_wp2_with fail
      go_meet
      exact ⟨rfl, HB8⟩
    · have g2 : (n - (n - g) != g) = false := by rw [HSub.out]; simp
      have g3 : decide (0 < n) = false := by simp; omega
      go_wp2_with fail
      go_meet
      exact ⟨rfl, HB7⟩
  case rest =>
  obtain ⟨rfl, hb7⟩ := hcut
  obtain ⟨w7, rfl⟩ : ∃ X, X = wc := ⟨_, rfl⟩
  have HB7 : Hid (Below w.heap.size w w7) := HB6.out.trans (hb7.out.mono HB6.out.size)
  have HP7 : Hid (RPress w7.heap.size w7 (.agg #[.int .i64 cut, .int .i64 mg, .slice Av nw cv]) p) := (HP6.out.below hb7.out).more hb7.out.size
  have HW7 : Hid (RSpans w7.heap.size w7 (.slice Aw nsw csw) lw) := (Rd.below HW6.out hb7.out).more hb7.out.size
  have K7 := Lib.hid (K6.out.below hb7.out K6.out.lt)
  have m0 := cellOf K7.out 0 (x := .int .i64 cut) rfl
  have m1 := cellOf K7.out 1 (x := .int .i64 mg) rfl
  have m2 := cellOf K7.out 2 (x := .slice Av nw cv) rfl
  have hm0 : 0 ≤ y % (n + 1) := Int.emod_nonneg _ (by omega)
  have hm1 : y % (n + 1) < n + 1 := Int.emod_lt_of_pos _ (by omega)
  obtain ⟨m, hm⟩ : ∃ a, y % (n + 1) = a := ⟨_, rfl⟩
  rw [hm] at hm0 hm1
  have C7 := Lib.hid (thrown_ok p HCH.out m hm0 (by rw [HRE.out]; omega) _ w7 HP7.out)
  have hne9 : (0 : Int) < n + 1 := by omega
  have hne : ((n + 1) == 0) = false := by simp; omega
  have hne' : ¬ n + 1 = 0 := by omega
  clear hb7 CC HSR HCO HS HP6 HW6 K6 HB6
  go_wp2_with fail
  refine C7.out.mono ?_
  rintro _ w8 ⟨Ap, np, cp, lp, rfl, h8⟩
  rw [hm]
  obtain ⟨K, hK⟩ : ∃ N : Nat, (N : Int) = m := ⟨m.toNat, by omega⟩
  have hb8 := h8.out.2.2.2.2
  have HB8 : Hid (Below w.heap.size w w8) := HB7.out.trans (hb8.mono HB7.out.size)
  have HPT : Hid (p.ThrownIs (K : Int) lp) := by show PressD.ThrownIs _ _ _; rw [hK]; exact h8.out.1
  have HW8 : Hid (RSpans w8.heap.size w8 (.slice Aw nsw csw) lw) := (Rd.below HW7.out hb8).more hb8.size
  have HPR : Hid (lp.length ≤ 120 ∧ RSpans w8.heap.size w8 (.slice Ap np cp) lp) := ⟨h8.out.2.1, h8.out.2.2.2.1⟩
  obtain ⟨cp9, hcp9⟩ : ∃ c, cntL lp = c := ⟨_, rfl⟩
  have hcpb : 0 ≤ cp9 ∧ cp9 ≤ 1000000 ∧ (m < n → m - cp9 < g) := by
    have h1 := ThrownIs.cnt HTM.out HPT.out (by have := HMM.out; omega)
    refine ⟨by rw [← hcp9]; exact cntL_nonneg HPT.out.1, ?_, fun hmn => ?_⟩
    · have h2 : cntTo lw K ≤ K := by
        unfold cntTo
        exact Nat.le_trans (List.countP_le_length ..) (by rw [List.length_range]; exact Nat.le_refl _)
      omega
    · have h2 := HG.out.2.2 K (by have := HNN.out; omega)
      omega
  have CC : Hid (∀ X, Below w8.heap.size w8 X → Calls Try.prog 24 #[.slice Ap np cp] X fun e w' => e = .returned (.int .i64 cp9) ∧ Below w8.heap.size w8 w') := fun X hX => by
    have h1 := count_any lp _ X ((Rd.below HPR.out.2 hX).more hX.size) (by have := HPR.out.1; omega) fun s hs => by
      have := ThrownIs.within HPT.out s hs
      omega
    rw [hcp9] at h1
    refine h1.mono ?_
    rintro e w' ⟨rfl, h⟩
    exact ⟨rfl, hX.trans (h.mono hX.size)⟩
  have CO : Hid (∀ k X, 0 ≤ k → k < m → Below w8.heap.size w8 X → ∃ b, (Calls Try.prog 22 #[.slice Ap np cp, .int .i64 k] X fun e w' => e = .returned (.bool b) ∧ Hid (Below w8.heap.size w8 w')) ∧ ∀ Y, Below w8.heap.size w8 Y → Calls Try.prog 22 #[.slice Aw nsw csw, .int .i64 k] Y fun e w' => e = .returned (.bool b) ∧ Hid (Below w8.heap.size w8 w')) := fun k X hk0 hkm hX => by
    refine ⟨covB lp k, ?_, fun Y hY => ?_⟩
    · refine (out_any lp k _ X ((Rd.below HPR.out.2 hX).more hX.size) (by have := HPR.out.1; omega)).mono ?_
      rintro e w' ⟨rfl, h⟩
      exact ⟨rfl, hX.trans (h.mono hX.size)⟩
    · have h1 := out_any lw k _ Y ((Rd.below HW8.out hY).more hY.size) (by have := HWL.out; omega)
      have h2 : covB lw k = covB lp k := by
        rw [Bool.eq_iff_iff, covB_iff, covB_iff, ThrownIs.cov_less HTM.out HPT.out (by have := HMM.out; omega) k]
        exact ⟨fun h => ⟨h, by omega⟩, fun h => h.1⟩
      rw [h2] at h1
      refine h1.mono ?_
      rintro e w' ⟨rfl, h⟩
      exact ⟨rfl, hY.trans (h.mono hY.size)⟩
  obtain ⟨hcp0, hcp1, hcp2⟩ := hcpb
  have HCP2 := Lib.hid hcp2
  clear hb8 h8 hm hne hne' hne9 m0 m1 m2 hcp9 hcp2 hK
  clear C7 HP7 HW7 K7 HB7 HTM HG
  go_upto_region 15 with fail
  go_cut [119] (fun s wx => s = .bool false ∧ Hid (Below w8.heap.size w8 wx))
  case first =>
    by_cases hmn : m < n
    · have h1 := HCP2.out hmn
      have g1 : decide (m < n) = true := by simp [hmn]
      have g2 : decide (g < m - cp9) = false := by simp; omega
      go_wp2_with fail
      refine (CC.out _ (Below.refl _ _)).mono ?_
      rintro _ w9 ⟨rfl, hb9⟩
      have HB9 := Lib.hid hb9
      clear hb9
      go_wp2_with fail
      go_meet
      exact ⟨rfl, HB9⟩
    · have g1 : decide (m < n) = false := by simp; omega
      go_wp2_with fail
      go_meet
      exact ⟨rfl, Below.refl _ _⟩
  case rest =>
  obtain ⟨rfl, hb9⟩ := hcut
  obtain ⟨w9, rfl⟩ : ∃ X, X = wc := ⟨_, rfl⟩
  go_upto_region 17 with fail
  go_cut [130] (fun s wx => s = .bool false ∧ Hid (Below w8.heap.size w8 wx))
  case first =>
    by_cases hmn : m < n
    · have h1 := HCP2.out hmn
      have g1 : decide (m < n) = true := by simp [hmn]
      have g2 : (m - cp9 == g) = false := by simp; omega
      go_wp2_with fail
      refine (CC.out _ hb9.out).mono ?_
      rintro _ w10 ⟨rfl, hb10⟩
      have HB10 := Lib.hid hb10
      clear hb10
      go_wp2_with fail
      go_meet
      exact ⟨rfl, HB10⟩
    · have g1 : decide (m < n) = false := by simp; omega
      go_wp2_with fail
      go_meet
      exact ⟨rfl, hb9⟩
  case rest =>
  obtain ⟨rfl, hb10⟩ := hcut
  obtain ⟨w10, rfl⟩ : ∃ X, X = wc := ⟨_, rfl⟩
  clear hb9 CC HCP2
  go_upto_region 19 with fail
  go_cut [17] (fun s wx => (∃ k : Int, s = .int .i64 k ∧ 0 ≤ k ∧ k ≤ m) ∧ Hid (Below w8.heap.size w8 wx))
  case first =>
    by_cases h40 : m - 40 ≤ 0
    · go_wp2_with fail
      all_goals
        go_meet
        exact ⟨⟨_, rfl, by omega, by omega⟩, hb10⟩
    · go_wp2_with fail
      all_goals
        go_meet
        exact ⟨⟨_, rfl, by omega, by omega⟩, hb10⟩
  case rest =>
  obtain ⟨⟨k0, rfl, hk0, hk1⟩, hb11⟩ := hcut
  obtain ⟨w11, rfl⟩ : ∃ X, X = wc := ⟨_, rfl⟩
  clear hb10
  go_wp2_with fail
  go_loopw [17] (fun s wr => ∃ k : Int, s = .int .i64 k ∧ 0 ≤ k ∧ k ≤ m ∧ Hid (Below w8.heap.size w8 wr)) (fun s _ => (m - intOf s).toNat)
  case atStart => exact ⟨k0, rfl, hk0, hk1, hb11⟩
  case round =>
  clear hk0 hk1 hb11
  obtain ⟨k, rfl, hk0, hk1, hb⟩ := hrel
  by_cases hkm : k < m
  · obtain ⟨b, h1, h2⟩ := CO.out k wr hk0 hkm hb.out
    have H1 := Lib.hid h1
    have H2 := Lib.hid h2
    clear h1 h2
    go_wp2_with fail
    refine H1.out.mono ?_
    rintro _ w12 ⟨rfl, hb12⟩
    have H3 := Lib.hid (H2.out w12 hb12.out)
    clear H1 H2
    go_wp2_with fail
    refine H3.out.mono ?_
    rintro _ w13 ⟨rfl, hb13⟩
    clear H3
    cases b
    all_goals
      go_wp2_with fail
      go_roundw
      case rel => exact ⟨k + 1, rfl, by omega, by omega, hb13⟩
      case measure => simp [intOf]; omega
  · have CA := Lib.hid (awake_any wr)
    have HBE : Hid (Below w.heap.size w wr) := HB8.out.trans (hb.out.mono HB8.out.size)
    go_wp2_with fail
    refine CA.out.mono ?_
    rintro _ wz ⟨rfl, hbz⟩
    have HBZ : Hid (Below w.heap.size w wz) := HBE.out.trans (hbz.mono HBE.out.size)
    clear hbz CA
    go_wp2_with fail
    go_ret
    exact ⟨rfl, HBZ.out⟩
end Go.Proofs.Ytpkepacbondopaa
