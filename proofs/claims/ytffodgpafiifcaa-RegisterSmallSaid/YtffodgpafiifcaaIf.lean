/-
  RegisterMatches: the walk.
-/
import Derived.Test.YtffodgpafiifcaaIe
import Derived.Test.YtffodgpafiifcaaEc
namespace Go.Proofs.Ytffodgpafiifcaa
open Go.RowKit

set_option maxRecDepth 100000 in
set_option maxHeartbeats 8000000 in
theorem Matches_any (v vs : Value) (marks : List Int) (W : Int) (seen : List Int) (w : World) (hm : RInts w.heap.size w v marks) (hs : RInts w.heap.size w vs seen) :
    Calls Try.prog 4 #[v, .int .i64 W, vs] w fun e w' => e = .returned (.bool true) ∧ Below w.heap.size w w' := by
  have HM := Lib.hid hm
  have HS := Lib.hid hs
  obtain ⟨A, c, rfl, -, -⟩ := hm.open_
  obtain ⟨A2, c2, rfl, -, -⟩ := hs.open_
  obtain ⟨n, hn⟩ : ∃ n, marks.length = n := ⟨_, rfl⟩
  obtain ⟨n2, hn2⟩ : ∃ n, seen.length = n := ⟨_, rfl⟩
  have Hn := Lib.hid hn
  have Hn2 := Lib.hid hn2
  rw [hn] at HM ⊢
  rw [hn2] at HS ⊢
  clear hm hs hn hn2
  by_cases hbig : n ≤ 20 ∧ n2 ≤ 60
  · obtain ⟨hb1, hb2⟩ := hbig
    have i1 : ¬ (20 : Int) < (n : Int) := by omega
    have i2 : ¬ (60 : Int) < (n2 : Int) := by omega
    have C1 := Lib.hid (CopyInts_any _ marks w HM.out (by rw [Hn.out]; omega))
    go_enter Try.func4, Try.ntmps4
    go_wp2_with fail
    refine C1.out.mono ?_
    rintro e w1 ⟨u1, rfl, hu1, hb1'⟩
    have HB1 := Lib.hid hb1'
    have HU1 := Lib.hid hu1
    have C2 := Lib.hid (CopyInts_any _ seen w1 ((RInts.below HS.out hb1').more hb1'.size) (by rw [Hn2.out]; omega))
    clear hb1' hu1 C1
    go_wp2_with fail
    refine C2.out.mono ?_
    rintro e w2 ⟨u2, rfl, hu2, hb2'⟩
    have HB2 := Lib.hid (HB1.out.trans (hb2'.mono HB1.out.size))
    have HP2 : Hid (RInts w2.heap.size w2 u1 marks) := Rd.own (ownsRow_below HU1.out hb2') (own_le HU1.out)
    have HS2 : Hid (RInts w2.heap.size w2 u2 seen) := Rd.own hu2 (own_le hu2)
    clear hu2 hb2' C2 i1 i2
    have C3 := Lib.hid (Match_any u1 u2 marks W seen w2 HP2.out HS2.out (by rw [Hn.out]; omega) (by rw [Hn2.out]; omega))
    go_wp2_with fail
    refine C3.out.mono ?_
    rintro e w3 ⟨⟨s, ct, l, err, u3, rfl, hf, hu3⟩, hb3⟩
    have HF := Lib.hid hf
    have HB3 := Lib.hid (HB2.out.trans (hb3.mono HB2.out.size))
    have HP3 := Lib.hid ((HP2.out.below hb3).more hb3.size)
    have HS3 := Lib.hid ((HS2.out.below hb3).more hb3.size)
    have HU3 : Hid (RInts w3.heap.size w3 u3 l) := Rd.own hu3 (own_le hu3)
    clear hf hb3 hu3 C3
    obtain ⟨b3, hb3⟩ : ∃ b, w3.heap.size = b := ⟨_, rfl⟩
    obtain ⟨w4, e4, B4, V4⟩ : ∃ w4, w3.alloc (.cells #[.int .i64 s, .int .i64 ct, u3] 52) = w4 ∧ Below w3.heap.size w3 w4 ∧ Blk w4 b3 52 #[.int .i64 s, .int .i64 ct, u3] := ⟨_, rfl, below_alloc _ _, hb3 ▸ Blk.new _ _ _⟩
    have E4 := Lib.hid e4
    have HB4 := Lib.hid (HB3.out.trans (B4.mono HB3.out.size))
    have HV4 := Lib.hid V4
    have HP4 := Lib.hid ((HP3.out.below B4).more B4.size)
    have HS4 := Lib.hid ((HS3.out.below B4).more B4.size)
    have HU4 := Lib.hid ((HU3.out.below B4).more B4.size)
    have HM4 := Lib.hid ((RInts.below HM.out HB4.out).more HB4.out.size)
    have HS4' := Lib.hid ((RInts.below HS.out HB4.out).more HB4.out.size)
    obtain ⟨A3, c3, rfl, -, -⟩ := HU3.out.open_
    clear e4 B4 V4
    go_upto_region 5 with fail
    rw [E4.out]
    clear hb3 E4 HU3
    have C4 := Lib.hid (refMatch_any _ _ marks W seen w4 HM4.out HS4'.out (by rw [Hn.out]; omega) (by rw [Hn2.out]; omega))
    go_wp2_with fail
    refine C4.out.mono ?_
    rintro e w5 ⟨⟨s', ct', l', err', u5, rfl, hf, hu5⟩, hb5⟩
    obtain ⟨rfl, rfl, rfl, rfl⟩ := HF.out.one hf
    have HB5 := Lib.hid (HB4.out.trans (hb5.mono HB4.out.size))
    have HP5 := Lib.hid ((HP4.out.below hb5).more hb5.size)
    have HS5 := Lib.hid ((HS4.out.below hb5).more hb5.size)
    have HU5 := Lib.hid ((HU4.out.below hb5).more hb5.size)
    have HT5 : Hid (RInts w5.heap.size w5 u5 l) := Rd.own hu5 (own_le hu5)
    have HV5 := Lib.hid (HV4.out.below hb5 HV4.out.lt)
    clear hf hb5 hu5 C4 HV4
    obtain ⟨b5, hb5⟩ : ∃ b, w5.heap.size = b := ⟨_, rfl⟩
    obtain ⟨w6, e6, B6, V6⟩ : ∃ w6, w5.alloc (.cells #[.int .i64 s, .int .i64 ct, u5] 55) = w6 ∧ Below w5.heap.size w5 w6 ∧ Blk w6 b5 55 #[.int .i64 s, .int .i64 ct, u5] := ⟨_, rfl, below_alloc _ _, hb5 ▸ Blk.new _ _ _⟩
    have E6 := Lib.hid e6
    have HB6 := Lib.hid (HB5.out.trans (B6.mono HB5.out.size))
    have HV6 := Lib.hid (HV5.out.below B6 HV5.out.lt)
    have HX6 := Lib.hid V6
    have HP6 := Lib.hid ((HP5.out.below B6).more B6.size)
    have HS6 := Lib.hid ((HS5.out.below B6).more B6.size)
    have HU6 := Lib.hid ((HU5.out.below B6).more B6.size)
    have HT6 := Lib.hid ((HT5.out.below B6).more B6.size)
    obtain ⟨A5, c5, rfl, -, -⟩ := HT5.out.open_
    clear e6 B6 V6
    go_upto_region 6 with fail
    rw [E6.out]
    clear hb5 E6 HT5 HU5 HU4
    have v0 := cellOf HV6.out 0 (x := .int .i64 s) rfl
    have v1 := cellOf HV6.out 1 (x := .int .i64 ct) rfl
    have v2 := cellOf HV6.out 2 (x := .slice A3 l.length c3) rfl
    have x0 := cellOf HX6.out 0 (x := .int .i64 s) rfl
    have x1 := cellOf HX6.out 1 (x := .int .i64 ct) rfl
    have x2 := cellOf HX6.out 2 (x := .slice A5 l.length c5) rfl
    have C5 := sameInts_any _ _ l l w6 HU6.out HT6.out
    rw [show decide (l = l) = true by simp] at C5
    have C5 := Lib.hid C5
    go_wp2_with fail
    refine C5.out.mono ?_
    rintro e w7 ⟨rfl, hb7⟩
    have HB7 := Lib.hid (HB6.out.trans (hb7.mono HB6.out.size))
    have HP7 := Lib.hid ((HP6.out.below hb7).more hb7.size)
    have HS7 := Lib.hid ((HS6.out.below hb7).more hb7.size)
    have C6 := sameInts_any _ _ marks marks w7 HP7.out ((RInts.below HM.out HB7.out).more HB7.out.size)
    rw [show decide (marks = marks) = true by simp] at C6
    have C6 := Lib.hid C6
    clear hb7 v0 v1 v2 x0 x1 x2 C5
    go_wp2_with fail
    refine C6.out.mono ?_
    rintro e w8 ⟨rfl, hb8⟩
    have HB8 := Lib.hid (HB7.out.trans (hb8.mono HB7.out.size))
    have HS8 := Lib.hid ((HS7.out.below hb8).more hb8.size)
    have C7 := sameInts_any _ _ seen seen w8 HS8.out ((RInts.below HS.out HB8.out).more HB8.out.size)
    rw [show decide (seen = seen) = true by simp] at C7
    have C7 := Lib.hid C7
    clear hb8 C6
    go_wp2_with fail
    refine C7.out.mono ?_
    rintro e w9 ⟨rfl, hb9⟩
    have HB9 := Lib.hid (HB8.out.trans (hb9.mono HB8.out.size))
    have CA := Lib.hid (awake_any w9)
    clear hb9 C7
    go_wp2_with fail
    refine CA.out.mono ?_
    rintro e w10 ⟨rfl, hb10⟩
    have HB10 := Lib.hid (HB9.out.trans (hb10.mono HB9.out.size))
    clear hb10
    go_wp2
    go_ret
    exact ⟨rfl, HB10.out⟩
  · have CA := Lib.hid (awake_any w)
    go_enter Try.func4, Try.ntmps4
    rcases (show (20 : Int) < (n : Int) ∨ (¬ (20 : Int) < (n : Int) ∧ (60 : Int) < (n2 : Int)) by omega) with h1 | ⟨h1, h2⟩
    all_goals
      clear hbig
      go_wp2_with fail
      refine CA.out.mono ?_
      rintro e w10 ⟨rfl, hb10⟩
      go_wp2
      go_ret
      exact ⟨rfl, hb10⟩
end Go.Proofs.Ytffodgpafiifcaa
