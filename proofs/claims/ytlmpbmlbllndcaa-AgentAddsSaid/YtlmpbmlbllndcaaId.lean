/-
  gets, Gets.
-/
import Derived.Test.YtlmpbmlbllndcaaCf
namespace Go.Proofs.Ytlmpbmlbllndcaa
open Go.RowKit
attribute [local go_sem] Oper.semAt_some

/-- Whether a subscriber gets a copy on a day, as the program reckons it. -/
def SubD.getB (s : SubD) (d : Int) : Bool := decide (0 < s.copies d d)
set_option maxHeartbeats 2000000 in
theorem gets_any (s : SubD) (hs : s.Ok) (d : Int) (hd : 0 ≤ d ∧ d ≤ 20000) (v : Value) (w : World) (h : RSub w.heap.size w v s) :
    Calls Try.prog 88 #[v, .int .i64 d] w fun e w' => e = .returned (.bool (s.getB d)) ∧ Below w.heap.size w w' := by
  have HS := Lib.hid h
  obtain ⟨u, rfl, hsp⟩ := h
  obtain ⟨Au, cu, rfl, -, -⟩ := spans_later hsp
  obtain ⟨nu, hnu⟩ : ∃ n, s.hol.length = n := ⟨_, rfl⟩
  rw [hnu] at HS ⊢
  have F0 : ∃ W0, w.alloc (.cells #[.int .i64 s.id, .int .i64 s.from_, .int .i64 s.to_, .int .i64 s.days, .slice Au nu cu] 42) = W0 ∧ Hid (Below w.heap.size w W0) ∧ Hid (Blk W0 w.heap.size 42 #[.int .i64 s.id, .int .i64 s.from_, .int .i64 s.to_, .int .i64 s.days, .slice Au nu cu]) := ⟨_, rfl, below_alloc _ _, Blk.new _ _ _⟩
  obtain ⟨W0, e0, HB0, HK0⟩ := F0
  have E0 := Lib.hid e0
  have C := Lib.hid (subCopies_any s hs d d hd hd _ W0 ((HS.out.below HB0.out).more HB0.out.size))
  have c0 := cellOf HK0.out 0 (x := .int .i64 s.id) rfl
  have c1 := cellOf HK0.out 1 (x := .int .i64 s.from_) rfl
  have c2 := cellOf HK0.out 2 (x := .int .i64 s.to_) rfl
  have c3 := cellOf HK0.out 3 (x := .int .i64 s.days) rfl
  have c4 := cellOf HK0.out 4 (x := .slice Au nu cu) rfl
  obtain ⟨n, hn⟩ : ∃ n, s.copies d d = n := ⟨_, rfl⟩
  rw [hn] at C
  have HE : Hid (s.getB d = decide (0 < n)) := by show _ = _; unfold SubD.getB; rw [hn]
  clear e0 hsp hnu hs hn
  go_enter Try.func88, Try.ntmps88
  go_upto_region 1 with fail
  rw [E0.out]
  clear E0
  go_wp2_with fail
  refine C.out.mono ?_
  rintro _ W1 ⟨rfl, hb1⟩
  have HB1 : Hid (Below w.heap.size w W1) := HB0.out.trans (hb1.mono HB0.out.size)
  clear C hb1 c0 c1 c2 c3 c4
  go_wp2_with fail
  go_ret
  exact ⟨rb HE.out, HB1.out⟩
set_option maxHeartbeats 2000000 in
theorem Gets_any (s : SubD) (d : Int) (v : Value) (w : World) (h : RSub w.heap.size w v s) :
    Calls Try.prog 36 #[v, .int .i64 d] w fun e w' => e = .returned (.tuple #[.bool (decide (0 < copV s d d)), .int .i64 (copE s d d)]) ∧ Below w.heap.size w w' := by
  have HS := Lib.hid h
  obtain ⟨u, rfl, hsp⟩ := h
  obtain ⟨Au, cu, rfl, -, -⟩ := spans_later hsp
  obtain ⟨nu, hnu⟩ : ∃ n, s.hol.length = n := ⟨_, rfl⟩
  rw [hnu] at HS ⊢
  have F0 : ∃ W0, w.alloc (.cells #[.int .i64 s.id, .int .i64 s.from_, .int .i64 s.to_, .int .i64 s.days, .slice Au nu cu] 42) = W0 ∧ Hid (Below w.heap.size w W0) ∧ Hid (Blk W0 w.heap.size 42 #[.int .i64 s.id, .int .i64 s.from_, .int .i64 s.to_, .int .i64 s.days, .slice Au nu cu]) := ⟨_, rfl, below_alloc _ _, Blk.new _ _ _⟩
  obtain ⟨W0, e0, HB0, HK0⟩ := F0
  have E0 := Lib.hid e0
  have C := Lib.hid (Copies_any s d d _ W0 ((HS.out.below HB0.out).more HB0.out.size))
  have c0 := cellOf HK0.out 0 (x := .int .i64 s.id) rfl
  have c1 := cellOf HK0.out 1 (x := .int .i64 s.from_) rfl
  have c2 := cellOf HK0.out 2 (x := .int .i64 s.to_) rfl
  have c3 := cellOf HK0.out 3 (x := .int .i64 s.days) rfl
  have c4 := cellOf HK0.out 4 (x := .slice Au nu cu) rfl
  obtain ⟨n, hn⟩ : ∃ n, copV s d d = n := ⟨_, rfl⟩
  obtain ⟨ce, hce⟩ : ∃ n, copE s d d = n := ⟨_, rfl⟩
  rw [hn, hce] at C
  rw [hn, hce]
  clear e0 hsp hnu hn hce
  go_enter Try.func36, Try.ntmps36
  go_upto_region 1 with fail
  rw [E0.out]
  clear E0
  go_wp2_with fail
  refine C.out.mono ?_
  rintro _ W1 ⟨rfl, hb1⟩
  have HB1 : Hid (Below w.heap.size w W1) := HB0.out.trans (hb1.mono HB0.out.size)
  clear C hb1 c0 c1 c2 c3 c4
  go_wp2_with fail
  go_ret2
  exact ⟨rfl, HB1.out⟩
end Go.Proofs.Ytlmpbmlbllndcaa
