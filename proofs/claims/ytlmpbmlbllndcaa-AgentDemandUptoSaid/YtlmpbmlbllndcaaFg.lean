/-
  Share.
-/
import Derived.Test.YtlmpbmlbllndcaaFf
namespace Go.Proofs.Ytlmpbmlbllndcaa
open Go.RowKit
attribute [local go_sem] Oper.semAt_some

/-- What Share returns. -/
def shE (l : List OrdD) (c : Int) : Int := ordE l c
def ShRet (l : List OrdD) (c : Int) (w : World) (e : Ending) (w' : World) : Prop :=
  ∃ v, e = .returned (.tuple #[v, .int .i64 (ordE l c)]) ∧ (ordE l c ≠ 0 → v = .slice none 0 0) ∧ (ordE l c = 0 → OInts w.heap.size w' v (sharesD l c)) ∧ Below w.heap.size w w'
theorem shares_len {l : List OrdD} {c : Int} (hd : ∀ o ∈ l, o.ok) : (sharesD l c).length = l.length := ((given0 hd).steps _).len
set_option maxRecDepth 100000 in
set_option maxHeartbeats 4000000 in
theorem Share_any (l : List OrdD) (c0 : Int) (hc1 : c0 ≤ 9223372036854775807) (v : Value) (w : World) (h : ROrds w.heap.size w v l) :
    Calls Try.prog 30 #[v, .int .i64 c0] w (ShRet l c0 w) := by
  have C1 := Lib.hid (checkOrd_any l c0 hc1 v w h)
  have HRO := Lib.hid h
  obtain ⟨r, hr⟩ : ∃ r, ordE l c0 = r := ⟨_, rfl⟩
  rw [hr] at C1
  have HR := Lib.hid hr
  clear h hr
  by_cases h0 : r = 0
  · obtain ⟨hl, hd, hc⟩ := ordE_ok (HR.out.trans h0)
    have C2 : Hid (∀ W, Below w.heap.size w W → Calls Try.prog 83 #[v, .int .i64 c0] W fun e w' => ∃ gr, e = .returned (.slice (some ⟨gr, 0, none⟩) l.length l.length) ∧ W.heap.size ≤ gr ∧ Blk w' gr 3 ((sharesD l c0).map (Value.int .i64)).toArray ∧ Below W.heap.size W w') := fun W hW => share_any l c0 hl hd hc hc1 v W (Rd.more (Rd.below HRO.out hW) hW.size)
    have HLEN : Hid ((sharesD l c0).length = l.length ∧ l.length ≤ 40) := ⟨shares_len hd, hl⟩
    have hrb : (r != 0) = false := by simpa using h0
    clear hl hd hc
    go_enter Try.func30, Try.ntmps30
    go_wp2_with fail
    refine C1.out.mono ?_
    rintro _ W1 ⟨rfl, hb1⟩
    have HC2 := Lib.hid (C2.out W1 hb1)
    have HB1 := Lib.hid hb1
    clear C1 C2 hb1
    go_wp2_with fail
    refine HC2.out.mono ?_
    rintro _ W2 ⟨gr, rfl, hgr, hB, hb2⟩
    have HF : Hid (OInts w.heap.size W2 (.slice (some ⟨gr, 0, none⟩) l.length l.length) (sharesD l c0) ∧ Below w.heap.size w W2) := by
      obtain ⟨h1, h2⟩ := HLEN.out
      refine ⟨?_, HB1.out.trans (hb2.mono HB1.out.size)⟩
      unfold OInts
      rw [h1]
      exact ⟨by simp [h1], .inr ⟨gr, _, _, rfl, Nat.le_trans HB1.out.size hgr, hB, Nat.le_refl _, by simp only [maxLen]; omega, by simp [h1], List.take_of_length_le (by simp [h1])⟩⟩
    clear hgr hB hb2 HC2
    go_wp2_with fail
    go_ret2
    refine ⟨_, by rw [HR.out, h0]; rfl, fun hn => absurd (HR.out.trans h0) hn, fun _ => HF.out.1, HF.out.2⟩
  · have hrb : (r != 0) = true := by simpa using h0
    go_enter Try.func30, Try.ntmps30
    go_wp2_with fail
    refine C1.out.mono ?_
    rintro _ W1 ⟨rfl, hb1⟩
    have HB1 := Lib.hid hb1
    clear C1 hb1
    go_wp2_with fail
    go_ret2
    exact ⟨_, by rw [HR.out]; rfl, fun _ => rfl, fun hz => absurd (HR.out.symm.trans hz) h0, HB1.out⟩
end Go.Proofs.Ytlmpbmlbllndcaa
