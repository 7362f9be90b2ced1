/-
  ReelUsed: the walk.
-/
import Derived.Test.YtpkepacbondopaaUb
namespace Go.Proofs.Ytpkepacbondopaa
open Go.RowKit
attribute [local go_sem] Oper.semAt_some

theorem copiesE_zero {p : PressD} {n : Int} (h : checkE p = 0) (h0 : 0 ≤ n) (h1 : n ≤ p.reach) : copiesE p n = 0 := by
  unfold copiesE
  rw [if_neg (by simp [h]), if_neg (by omega), if_neg (by omega)]
theorem reach_made (l : List Int) (v : Value) (w : World) (h : RPress w.heap.size w v (madeP l)) :
    Calls Try.prog 19 #[v] w fun e w' => e = .returned (.tuple #[.int .i64 (madeP l).reach, .int .i64 0]) ∧ Below w.heap.size w w' := by
  have := Reach_any (madeP l) v w h
  rw [made_check, if_pos rfl] at this
  exact this
theorem used_made (l : List Int) (n : Int) (h0 : 0 ≤ n) (h1 : n ≤ (madeP l).reach) (v : Value) (w : World) (h : RPress w.heap.size w v (madeP l)) :
    Calls Try.prog 25 #[v, .int .i64 n] w fun e w' => ∃ A c, e = .returned (.tuple #[.slice A (usesTo (madeP l) n (madeP l).webs.length).length c, .int .i64 0]) ∧ OUses w.heap.size w' (.slice A (usesTo (madeP l) n (madeP l).webs.length).length c) (usesTo (madeP l) n (madeP l).webs.length) ∧ Below w.heap.size w w' := by
  refine (Used_any (madeP l) n v w h).mono ?_
  rintro e w' ⟨u, rfl, h2, h3⟩
  rw [copiesE_zero (made_check l) h0 h1] at h2 ⊢
  rw [if_pos rfl] at h2
  obtain ⟨A, c, rfl⟩ := ownsRow_form h2
  exact ⟨A, c, rfl, h2, h3⟩
set_option maxRecDepth 1000000 in
set_option maxHeartbeats 4000000 in
theorem ReelUsed_any (l : List Int) (hl : Bytes l) (x : Int) (hx : 0 ≤ x ∧ x ≤ 65535) (vl : Value) (w : World) (h : RBytes w.heap.size w vl l) :
    Calls Try.prog 8 #[vl, .int .u16 x] w fun e w' => e = .returned (.bool true) ∧ Below w.heap.size w w' := by
  obtain ⟨hx1, hx2⟩ := hx
  have CM := Lib.hid (Made_any l hl vl w h)
  have hok := made_ok l
  have hrb := reach_bound hok
  have HOK := Lib.hid hok
  clear hl h
  go_enter Try.func8, Try.ntmps8
  go_wp2_with fail
  refine CM.out.mono ?_
  rintro _ w1 ⟨u, rfl, ⟨v, rfl, hO⟩, hb1⟩
  obtain ⟨Av, cv, hvf⟩ := ownsRow_form hO.choose_spec.1
  subst hvf
  have F2 : ∃ w2, w1.alloc (.cells #[.int .i64 (madeP l).cut, .int .i64 (madeP l).margin, .slice Av (madeP l).webs.length cv] 24) = w2 ∧ Below w1.heap.size w1 w2 ∧ Blk w2 w1.heap.size 24 #[.int .i64 (madeP l).cut, .int .i64 (madeP l).margin, .slice Av (madeP l).webs.length cv] := ⟨_, rfl, below_alloc _ _, Blk.new _ _ _⟩
  obtain ⟨w2, e2, hb2, k2⟩ := F2
  have E2 := Lib.hid e2
  obtain ⟨P, hP⟩ : ∃ a, w1.heap.size = a := ⟨_, rfl⟩
  have HP2 : Hid (RPress w2.heap.size w2 (.agg #[.int .i64 (madeP l).cut, .int .i64 (madeP l).margin, .slice Av (madeP l).webs.length cv]) (madeP l)) := ⟨_, rfl, (hO.reads.below hb2).more hb2.size⟩
  have HB2 : Hid (Below w.heap.size w w2) := hb1.trans (hb2.mono hb1.size)
  rw [hP] at k2
  have K2 := Lib.hid k2
  obtain ⟨re, hre⟩ : ∃ a, (madeP l).reach = a := ⟨_, rfl⟩
  obtain ⟨cut, hcut⟩ : ∃ a, (madeP l).cut = a := ⟨_, rfl⟩
  obtain ⟨mg, hmg⟩ : ∃ a, (madeP l).margin = a := ⟨_, rfl⟩
  obtain ⟨nw, hnw⟩ : ∃ a, (madeP l).webs.length = a := ⟨_, rfl⟩
  rw [hre] at hrb
  rw [hcut, hmg, hnw] at E2 HP2 K2 ⊢
  have HRE := Lib.hid hre
  have HCUT := Lib.hid hcut
  have HMG := Lib.hid hmg
  have HNW := Lib.hid hnw
  have C2 := reach_made l _ w2 HP2.out
  rw [hre] at C2
  have C2 := Lib.hid C2
  have m0 := cellOf K2.out 0 (x := .int .i64 cut) rfl
  have m1 := cellOf K2.out 1 (x := .int .i64 mg) rfl
  have m2 := cellOf K2.out 2 (x := .slice Av nw cv) rfl
  clear CM hO hb1 e2 hb2 k2 hre hcut hmg hnw hok
  go_upto_region 2 with fail
  rw [E2.out]
  first | rw [hP] | skip
  clear hP
  go_wp2_with fail
  refine C2.out.mono ?_
  rintro _ w3 ⟨rfl, hb3⟩
  obtain ⟨hr0, hr1⟩ := hrb
  have hn0 : 0 ≤ x % (re + 1) := Int.emod_nonneg _ (by omega)
  have hn1 : x % (re + 1) < re + 1 := Int.emod_lt_of_pos _ (by omega)
  obtain ⟨n, hn⟩ : ∃ a, x % (re + 1) = a := ⟨_, rfl⟩
  rw [hn] at hn0 hn1
  have HP3 : Hid (RPress w3.heap.size w3 (.agg #[.int .i64 cut, .int .i64 mg, .slice Av nw cv]) (madeP l)) := (HP2.out.below hb3).more hb3.size
  have HB3 : Hid (Below w.heap.size w w3) := HB2.out.trans (hb3.mono HB2.out.size)
  have K3 := Lib.hid (K2.out.below hb3 K2.out.lt)
  clear m0 m1 m2
  have m0 := cellOf K3.out 0 (x := .int .i64 cut) rfl
  have m1 := cellOf K3.out 1 (x := .int .i64 mg) rfl
  have m2 := cellOf K3.out 2 (x := .slice Av nw cv) rfl
  have C3 := Lib.hid (used_made l n hn0 (by rw [HRE.out]; omega) _ w3 HP3.out)
  have hx9 : x ≤ 9223372036854775807 := by omega
  have hre9 : (0 : Int) < re + 1 := by omega
  have hne : ((re + 1) == 0) = false := by simp; omega
  have hne' : ¬ re + 1 = 0 := by omega
  clear hb3 C2 E2
  go_wp2_with fail
  refine C3.out.mono ?_
  rintro _ w4 ⟨Au, cu, rfl, hU, hb4⟩
  rw [hn]
  obtain ⟨U, hUe⟩ : ∃ a, usesTo (madeP l) n (madeP l).webs.length = a := ⟨_, rfl⟩
  rw [hUe] at hU ⊢
  have hul : U.length ≤ 120 := by
    rw [← hUe]
    have h1 := usesTo_len (n := n) HOK.out (madeP l).webs.length
    have h2 := HOK.out.webs.2
    omega
  obtain ⟨nu, hnu⟩ : ∃ a, U.length = a := ⟨_, rfl⟩
  have HRU : Hid (RUses w4.heap.size w4 (.slice Au nu cu) U) := by
    show RUses _ _ _ _
    rw [← hnu]
    exact Rd.own hU (own_le hU)
  rw [hnu] at hul ⊢
  have HNU := Lib.hid hnu
  have HUE := Lib.hid hUe
  have HP4 : Hid (RPress w4.heap.size w4 (.agg #[.int .i64 cut, .int .i64 mg, .slice Av nw cv]) (madeP l)) := (HP3.out.below hb4).more hb4.size
  have HRW : Hid (RWebs w4.heap.size w4 (.slice Av nw cv) (madeP l).webs) := by
    obtain ⟨v9, e9, h9⟩ := HP4.out
    simp only [Value.agg.injEq, Array.mk.injEq, List.cons.injEq, and_true] at e9
    rw [e9.2.2]
    exact h9
  have HB4 : Hid (Below w.heap.size w w4) := HB3.out.trans (hb4.mono HB3.out.size)
  have K4 := Lib.hid (K3.out.below hb4 K3.out.lt)
  have hPl : P < w4.heap.size := K4.out.lt
  have hnw6 : nw ≤ 6 := by have := HNW.out; have := HOK.out.webs.2; omega
  have HPc : Hid (w4.cell? ⟨P, 0, none⟩ = some (.int .i64 (madeP l).cut)) := by rw [HCUT.out]; exact cellOf K4.out 0 rfl
  have HNR : Hid (n ≤ (madeP l).reach) := by show _ ≤ _; rw [HRE.out]; omega
  have HD0 : Hid (U.drop 0 = ((madeP l).webs.drop 0).flatMap fun x => usesR (takenW (madeP l) n x) x.reels) := by
    show _ = _
    rw [← hUe]
    unfold usesTo
    rw [List.take_length]
    rfl
  clear m0 m1 m2
  have m2 := cellOf K4.out 2 (x := .slice Av nw cv) rfl
  clear hn hUe hU hb4 hnu C3 HP2 HP3 HP4 K2 K3 hne hne' hx9 hre9
  go_wp2_with fail
  clear m2
  go_loopw [10, 42] (fun s10 s42 Y => ∃ (k q : Nat), k ≤ nw ∧ s42 = .int .i64 (k : Int) ∧ s10 = .int .i64 (q : Int) ∧ q ≤ nu ∧ Hid (U.drop q = ((madeP l).webs.drop k).flatMap fun x => usesR (takenW (madeP l) n x) x.reels) ∧ Hid (Below w4.heap.size w4 Y)) (fun _ i _ => nw - (intOf i).toNat)
  case atStart => exact ⟨0, 0, Nat.zero_le _, rfl, rfl, Nat.zero_le _, HD0, Below.refl _ _⟩
  case round =>
  clear HD0
  obtain ⟨k, q, hk, rfl, rfl, hq, hd, hB⟩ := hrel
  obtain ⟨Y, rfl⟩ : ∃ Y : World, Y = wr := ⟨_, rfl⟩
  by_cases hlt : k < nw
  · refine used_web _ _ _ _ _ _ _ _ _ _ _ _ _ _ _ _ _ _ _ _ _ _ _ _ _ _ _ _ _ _ _ _ _ _ _ _ _ _ _ _ _ _ _ _ _ _ _ _ _ _ _ _ _ _ _ _ _ _ _ _ _ _ _ _ _ _ _ _ _ _ _ _ _ _ _ _ _ _ _ _ _ _ _ _ _ _ _ _ _ _ _ _ _ _ _ _ _ _ _ _ _ _ _ _ _ _ _ _ _ _ _ _ _ _ _ _ _ _ _ _ _ _ _ _ _ _ _ _ _ _ _ _ _ _ _ _ _ _ _ _ _ _ _ _ _ _ _ _ _ _ _ _ _ _ _ HOK hn0 HNR hlt hnw6 HNW HNU (by omega) HRU HRW hB hPl HPc hq hd (Lib.hid ?_)
    intro x0 x1 x2 x3 x4 x5 x6 x7 x8 x9 x10 x11 x12 x13 x14 x15 x16 x17 x18 x19 x20 x21 x22 x23 x24 x25 x26 x27 x28 x29 x30 x31 x32 x33 x34 x35 x36 x37 x38 x39 x40 x41 x42 x43 x44 x45 x46 x47 x48 x49 x50 x51 x52 x53 x54 x55 x56 x57 x58 x59 x60 x61 x62 x63 x64 x65 x66 x67 x68 x69 x70 x71 x72 x73 x74 x75 x76 x77 x78 x79 x80 x81 x82 x83 x84 x85 x86 x87 x88 x89 x90 x91 x92 x93 x94 x95 x96 x97 x98 x99 x100 x101 x102 x103 x104 x105 x106 x107 x108 x109 x110 x111 x112 x113 x114 x115 x116 q' Z h1 h2 h3
    have H1 := Lib.hid h1
    have H3 := Lib.hid h3
    clear h1 h3
    go_roundw
    case rel =>
      repeat apply Exists.intro
      refine ⟨?_, rfl⟩
      exact ⟨k + 1, q', by omega, by go_num, rfl, h2, H1, H3⟩
    case measure => simp [intOf]; omega
  · obtain rfl : k = nw := by omega
    have hqn : q = nu := by
      have h1 := hd.out
      rw [List.drop_of_length_le (l := (madeP l).webs) (by rw [HNW.out]; exact Nat.le_refl _)] at h1
      have h2 := congrArg List.length h1
      rw [List.length_drop, HNU.out] at h2
      simp at h2
      omega
    subst hqn
    have CA := Lib.hid (awake_any Y)
    have HB : Hid (Below w.heap.size w Y) := HB4.out.trans (hB.out.mono HB4.out.size)
    clear hd hB
    go_wp2_with fail
    refine CA.out.mono ?_
    rintro _ Z ⟨rfl, hz⟩
    have HZ : Hid (Below w.heap.size w Z) := HB.out.trans (hz.mono HB.out.size)
    clear hz
    go_wp2_with fail
    go_ret
    exact ⟨rfl, HZ.out⟩
end Go.Proofs.Ytpkepacbondopaa
