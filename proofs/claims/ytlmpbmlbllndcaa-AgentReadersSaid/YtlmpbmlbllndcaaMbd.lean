/-
  Share.
  slices.Equal of numbers; the examples of the chapter.
  awake.
-/
import Derived.Test.YtlmpbmlbllndcaaMbc
import Derived.Test.YtlmpbmlbllndcaaMar
namespace Go.Proofs.Ytlmpbmlbllndcaa
open Go.RowKit
attribute [local go_sem] Oper.semAt_some

/-- What Share returns. -/
def shE (l : List OrdD) (c : Int) : Int := ordE l c
def ShRet (l : List OrdD) (c : Int) (w : World) (e : Ending) (w' : World) : Prop :=
  ∃ v, e = .returned (.tuple #[v, .int .i64 (ordE l c)]) ∧ (ordE l c ≠ 0 → v = .slice none 0 0) ∧ (ordE l c = 0 → OInts w.heap.size w' v (sharesD l c)) ∧ Below w.heap.size w w'
theorem shares_len {l : List OrdD} {c : Int} (hd : ∀ o ∈ l, o.ok) : (sharesD l c).length = l.length := ((given0 hd).steps _).len
set_option maxRecDepth 100000 in
set_option maxHeartbeats 4000000 in
theorem Share_any (l : List OrdD) (c0 : Int) (hc1 : c0 ≤ 9223372036854775807) (v : Value) (w : World) (h : ROrds w.heap.size w v l) :
    Calls Try.prog 30 #[v, .int .i64 c0] w (ShRet l c0 w) := by
  have C1 := Lib.hid (checkOrd_any l c0 hc1 v w h)
  have HRO := Lib.hid h
  obtain ⟨r, hr⟩ : ∃ r, ordE l c0 = r := ⟨_, rfl⟩
  rw [hr] at C1
  have HR := Lib.hid hr
  clear h hr
  by_cases h0 : r = 0
  · obtain ⟨hl, hd, hc⟩ := ordE_ok (HR.out.trans h0)
    have C2 : Hid (∀ W, Below w.heap.size w W → Calls Try.prog 83 #[v, .int .i64 c0] W fun e w' => ∃ gr, e = .returned (.slice (some ⟨gr, 0, none⟩) l.length l.length) ∧ W.heap.size ≤ gr ∧ Blk w' gr 3 ((sharesD l c0).map (Value.int .i64)).toArray ∧ Below W.heap.size W w') := fun W hW => share_any l c0 hl hd hc hc1 v W (Rd.more (Rd.below HRO.out hW) hW.size)
    have HLEN : Hid ((sharesD l c0).length = l.length ∧ l.length ≤ 40) := ⟨shares_len hd, hl⟩
    have hrb : (r != 0) = false := by simpa using h0
    clear hl hd hc
    go_enter Try.func30, Try.ntmps30
    go_wp2_with fail
    refine C1.out.mono ?_
    rintro _ W1 ⟨rfl, hb1⟩
    have HC2 := Lib.hid (C2.out W1 hb1)
    have HB1 := Lib.hid hb1
    clear C1 C2 hb1
    go_wp2_with fail
    refine HC2.out.mono ?_
    rintro _ W2 ⟨gr, rfl, hgr, hB, hb2⟩
    have HF : Hid (OInts w.heap.size W2 (.slice (some ⟨gr, 0, none⟩) l.length l.length) (sharesD l c0) ∧ Below w.heap.size w W2) := by
      obtain ⟨h1, h2⟩ := HLEN.out
      refine ⟨?_, HB1.out.trans (hb2.mono HB1.out.size)⟩
      unfold OInts
      rw [h1]
      exact ⟨by simp [h1], .inr ⟨gr, _, _, rfl, Nat.le_trans HB1.out.size hgr, hB, Nat.le_refl _, by simp only [maxLen]; omega, by simp [h1], List.take_of_length_le (by simp [h1])⟩⟩
    clear hgr hB hb2 HC2
    go_wp2_with fail
    go_ret2
    refine ⟨_, by rw [HR.out, h0]; rfl, fun hn => absurd (HR.out.trans h0) hn, fun _ => HF.out.1, HF.out.2⟩
  · have hrb : (r != 0) = true := by simpa using h0
    go_enter Try.func30, Try.ntmps30
    go_wp2_with fail
    refine C1.out.mono ?_
    rintro _ W1 ⟨rfl, hb1⟩
    have HB1 := Lib.hid hb1
    clear C1 hb1
    go_wp2_with fail
    go_ret2
    exact ⟨_, by rw [HR.out]; rfl, fun _ => rfl, fun hz => absurd (HR.out.symm.trans hz) h0, HB1.out⟩
end Go.Proofs.Ytlmpbmlbllndcaa

namespace Go.Proofs.Ytlmpbmlbllndcaa
open Go.RowKit
attribute [local go_sem] Oper.semAt_some

set_option maxRecDepth 100000 in
set_option maxHeartbeats 2000000 in
theorem eqInts_any (a b : Value) (l m : List Int) (w : World) (ha : RInts w.heap.size w a l) (hb : RInts w.heap.size w b m) :
    Calls Try.prog 48 #[a, b] w fun e w' => e = .returned (.bool (decide (l = m))) ∧ Below w.heap.size w w' := by
  obtain ⟨A, c, rfl, hlm, hr⟩ := ha.open_
  obtain ⟨B, d, rfl, hmm, hs⟩ := hb.open_
  by_cases hne : l.length = m.length
  · obtain ⟨n, hn⟩ : ∃ n, l.length = n := ⟨_, rfl⟩
    have hm : m.length = n := by omega
    rw [hn] at hr hlm ⊢
    rw [hm] at hs hmm ⊢
    have Hn := Lib.hid hn
    have Hm := Lib.hid hm
    clear hn hm hne
    go_enter Try.func48, Try.ntmps48
    go_wp2
    go_loopw [13] (fun i wr => ∃ k : Nat, k ≤ n ∧ i = .int .i64 k ∧ Hid (l.take k = m.take k) ∧ Below w.heap.size w wr) (fun i _ => n - (intOf i).toNat)
    case atStart => exact ⟨0, Nat.zero_le _, rfl, rfl, Below.refl _ _⟩
    case round =>
      obtain ⟨k, hk, rfl, ht, hB⟩ := hrel
      by_cases hlt : k < n
      · obtain ⟨g, o, x, rfl, hb1, hc, hx⟩ := hr k hlt
        obtain ⟨g2, o2, y, rfl, hb2, hd, hy⟩ := hs k hlt
        rw [← hB.cell (p := ⟨g, o + k, none⟩) hb1] at hc
        rw [← hB.cell (p := ⟨g2, o2 + k, none⟩) hb2] at hd
        clear hr hs ha hb
        by_cases he : x = y
        · subst he
          go_wp2
          go_quiet (fail)
          go_wp2
          go_roundw
          case rel => exact ⟨k + 1, by omega, by go_num, take_next ht (by rw [Hn.out]; exact hlt) (by rw [Hm.out]; exact hlt) (by rw [hx.out, hy.out]), below_drewN hB _⟩
          case measure => simp [intOf]; omega
        · have he2 : (x != y) = true := by simp [he]
          go_wp2
          go_quiet (fail)
          go_wp2
          go_ret
          exact ⟨by simp [ne_at (k := k) (l := l) (m := m) (by rw [Hn.out]; exact hlt) (by rw [Hm.out]; exact hlt) (by rw [hx.out, hy.out]; exact he)], below_drewN hB _⟩
      · go_wp2
        go_ret
        exact ⟨by simp [take_all ht.out (by rw [Hn.out]; omega) (by rw [Hm.out]; omega)], hB⟩
  · go_enter Try.func48, Try.ntmps48
    go_wp2
    go_ret
    exact ⟨by simp [show l ≠ m from fun h => hne (by rw [h])], Below.refl _ _⟩
theorem rd_blk {w : World} {b n c k : Nat} {t : TypeId} {xs : List Value} (h : Blk w b t xs.toArray) (hl : xs.length = n * k) (hn : n ≤ 1000000) : Rd w.heap.size w k (.slice (some ⟨b, 0, none⟩) n c) n xs := by
  refine ⟨_, _, rfl, hl, by simp only [maxLen]; omega, fun _ => ⟨b, 0, rfl, h.lt, fun j u hu => ?_⟩⟩
  rw [h.cell, Nat.zero_add]
  simpa using hu
def weekD : List DayD := [⟨10, 2⟩, ⟨10, 0⟩, ⟨12, 5⟩]
def readerD : SubD := ⟨1, 0, 20, 127, [⟨5, 9⟩]⟩
def ordsD : List OrdD := [⟨1, 10, 1⟩, ⟨2, 4, 1⟩, ⟨3, 2, 1⟩]
def tarD : TarD := ⟨9, 5, 2, 0, 0⟩
theorem ex_bestE : bestE 1 2 weekD = 0 := by decide +kernel
theorem ex_bestV : bestV 1 2 weekD = (8, 5) := by decide +kernel
theorem ex_saysE : saysE ⟨2, 3⟩ weekD 3 = 0 := by decide +kernel
theorem ex_saysB : saysB ⟨2, 3⟩ weekD 3 = true := by decide +kernel
theorem ex_saysV : saysV ⟨2, 3⟩ weekD 3 = 9 := by decide +kernel
theorem ex_ordE : ordE ordsD 8 = 0 := by decide +kernel
theorem ex_shares : sharesD ordsD 8 = [5, 2, 1] := by decide +kernel
theorem ex_copE : copE readerD 0 30 = 0 := by decide +kernel
theorem ex_copV : copV readerD 0 30 = 16 := by decide +kernel
theorem ex_setE : setE tarD weekD [0, 0, 3] = 0 := by decide +kernel
theorem ex_accS : accS tarD weekD [0, 0, 3] = 262 := by decide +kernel
def WkRet (w : World) (e : Ending) (w' : World) : Prop := ∃ A c, e = .returned (.slice A 3 c) ∧ RDays w'.heap.size w' (.slice A 3 c) weekD ∧ Below w.heap.size w w'
def ReRet (w : World) (e : Ending) (w' : World) : Prop := ∃ u, e = .returned u ∧ RSub w'.heap.size w' u readerD ∧ Below w.heap.size w w'
set_option maxHeartbeats 1000000 in
theorem week_any (w : World) : Calls Try.prog 46 #[] w (WkRet w) := by
  have F : ∃ W, w.alloc (.cells #[.int .i64 10, .int .i64 2, .int .i64 10, .int .i64 0, .int .i64 12, .int .i64 5] 24) = W ∧ Below w.heap.size w W ∧ Blk W w.heap.size 24 #[.int .i64 10, .int .i64 2, .int .i64 10, .int .i64 0, .int .i64 12, .int .i64 5] := ⟨_, rfl, below_alloc _ _, Blk.new _ _ _⟩
  obtain ⟨W, e, hb, k0⟩ := F
  have HX : Hid (∀ c, WkRet w (.returned (.slice (some ⟨w.heap.size, 0, none⟩) 3 c)) W) := fun c =>
    ⟨_, _, rfl, rd_blk (n := 3) (k := 2) (xs := weekD.flatMap DayD.cells) k0 rfl (by omega), hb⟩
  have E := Lib.hid e
  clear e hb k0
  go_enter Try.func46, Try.ntmps46
  go_wp2_with fail
  rw [E.out]
  go_ret
  exact HX.out _
set_option maxHeartbeats 1000000 in
theorem reader_any (w : World) : Calls Try.prog 47 #[] w (ReRet w) := by
  have F : ∃ W, (w.alloc (.cells #[.int .i64 1, .int .i64 0, .int .i64 20, .int .i64 127, .slice (some ⟨w.heap.size + 1, 0, none⟩) 1 1] 42)).alloc (.cells #[.int .i64 5, .int .i64 9] 87) = W ∧ Below w.heap.size w W ∧
      Blk W w.heap.size 42 #[.int .i64 1, .int .i64 0, .int .i64 20, .int .i64 127, .slice (some ⟨w.heap.size + 1, 0, none⟩) 1 1] ∧ Blk W (w.heap.size + 1) 87 #[.int .i64 5, .int .i64 9] :=
    ⟨_, rfl, ((Below.refl _ _).alloc (Nat.le_refl _) _).alloc (by simp) _, (Blk.new _ _ _).alloc _, blk_new (by simp) _ _⟩
  obtain ⟨W, e, hb, k0, k1⟩ := F
  have HX : Hid (ReRet w (.returned (.agg #[.int .i64 1, .int .i64 0, .int .i64 20, .int .i64 127, .slice (some ⟨w.heap.size + 1, 0, none⟩) 1 1])) W) :=
    ⟨_, rfl, ⟨_, rfl, rd_blk (n := 1) (k := 2) (xs := [.int .i64 5, .int .i64 9]) k1 rfl (by omega)⟩, hb⟩
  have c0 := cellOf k0 0 (x := .int .i64 1) rfl
  have c1 := cellOf k0 1 (x := .int .i64 0) rfl
  have c2 := cellOf k0 2 (x := .int .i64 20) rfl
  have c3 := cellOf k0 3 (x := .int .i64 127) rfl
  have c4 := cellOf k0 4 (x := .slice (some ⟨w.heap.size + 1, 0, none⟩) 1 1) rfl
  have E := Lib.hid e
  clear e hb k0 k1
  go_enter Try.func47, Try.ntmps47
  go_wp2_with fail
  rw [E.out]
  exact bodyPost_ret (v := .agg #[.int .i64 1, .int .i64 0, .int .i64 20, .int .i64 127, .slice (some ⟨w.heap.size + 1, 0, none⟩) 1 1]) (by simp [results, Try.results47, go_sem, c0, c1, c2, c3, c4]) rfl HX.out
end Go.Proofs.Ytlmpbmlbllndcaa

namespace Go.Proofs.Ytlmpbmlbllndcaa
open Go.RowKit
attribute [local go_sem] Oper.semAt_some

theorem best_ex (u : Value) (w : World) (h : RDays w.heap.size w u weekD) : Calls Try.prog 23 #[u, .int .i64 1, .int .i64 2] w fun e w' => e = .returned (.tuple #[.int .i64 8, .int .i64 5, .int .i64 0]) ∧ Below w.heap.size w w' := by
  have := Best_any 1 2 weekD u w h
  rw [ex_bestE, ex_bestV] at this
  exact this
theorem says_ex (u : Value) (w : World) (h : RDays w.heap.size w u weekD) : Calls Try.prog 27 #[.agg #[.int .i64 2, .int .i64 3], u, .int .i64 3] w fun e w' => e = .returned (.tuple #[.int .i64 9, .bool true, .int .i64 0]) ∧ Below w.heap.size w w' := by
  have := Says_any ⟨2, 3⟩ weekD 3 u w h
  rw [ex_saysE, ex_saysB, ex_saysV] at this
  exact this
theorem share_ex (u : Value) (w : World) (h : ROrds w.heap.size w u ordsD) : Calls Try.prog 30 #[u, .int .i64 8] w fun e w' => ∃ A c, e = .returned (.tuple #[.slice A 3 c, .int .i64 0]) ∧ OInts w.heap.size w' (.slice A 3 c) [5, 2, 1] ∧ Below w.heap.size w w' := by
  refine (Share_any ordsD 8 (by omega) u w h).mono ?_
  rintro e w' ⟨v, rfl, -, h2, h3⟩
  have h4 := h2 ex_ordE
  rw [ex_shares] at h4
  rw [ex_ordE]
  obtain ⟨A, c, rfl⟩ := ownsRow_form h4
  exact ⟨A, c, rfl, h4, h3⟩
theorem copies_ex (u : Value) (w : World) (h : RSub w.heap.size w u readerD) : Calls Try.prog 34 #[u, .int .i64 0, .int .i64 30] w fun e w' => e = .returned (.tuple #[.int .i64 16, .int .i64 0]) ∧ Below w.heap.size w w' := by
  have := Copies_any readerD 0 30 u w h
  rw [ex_copE, ex_copV] at this
  exact this
theorem settle_ex (u v : Value) (w : World) (h : RDays w.heap.size w u weekD) (hv : RInts w.heap.size w v [0, 0, 3]) : Calls Try.prog 37 #[.agg #[.int .i64 9, .int .i64 5, .int .i64 2, .int .i64 0, .int .i64 0], u, v] w fun e w' => ∃ Az nz cz, e = .returned (.tuple #[.agg #[.slice Az nz cz, .int .i64 262], .int .i64 0]) ∧ Below w.heap.size w w' := by
  refine (Settle_any tarD weekD [0, 0, 3] u v w h hv).mono ?_
  rintro e w' ⟨z, rfl, hO, hb⟩
  rw [ex_accS, ex_setE]
  obtain ⟨A, c, rfl⟩ := ownsRow_form hO.out
  exact ⟨A, _, c, rfl, hb.out⟩

set_option maxRecDepth 100000 in
set_option maxHeartbeats 4000000 in
theorem awake_any (w : World) : Calls Try.prog 15 #[] w fun e w' => e = .returned (.bool true) ∧ Below w.heap.size w w' := by
  go_enter Try.func15, Try.ntmps15
  go_wp2_with fail
  refine (week_any _).mono ?_
  rintro _ w1 ⟨A1, c1, rfl, h1, b1⟩
  have B1 := Lib.hid b1
  have C1 := Lib.hid (best_ex _ w1 h1)
  clear b1 h1
  go_wp2_with fail
  refine C1.out.mono ?_
  rintro _ w2 ⟨rfl, b2⟩
  have B2 : Hid (Below w.heap.size w w2) := B1.out.trans (b2.mono B1.out.size)
  clear b2 C1 B1
  go_wp2_with fail
  refine (week_any _).mono ?_
  rintro _ w3 ⟨A3, c3, rfl, h3, b3⟩
  have B3 : Hid (Below w.heap.size w w3) := B2.out.trans (b3.mono B2.out.size)
  have C3 := Lib.hid (says_ex _ w3 h3)
  clear b3 h3 B2
  go_wp2_with fail
  refine C3.out.mono ?_
  rintro _ w4 ⟨rfl, b4⟩
  have B4 : Hid (Below w.heap.size w w4) := B3.out.trans (b4.mono B3.out.size)
  clear b4 C3 B3
  have F5 : ∃ w5, w4.alloc (.cells #[.int .i64 1, .int .i64 10, .int .i64 1, .int .i64 2, .int .i64 4, .int .i64 1, .int .i64 3, .int .i64 2, .int .i64 1] 33) = w5 ∧ Below w4.heap.size w4 w5 ∧ Blk w5 w4.heap.size 33 #[.int .i64 1, .int .i64 10, .int .i64 1, .int .i64 2, .int .i64 4, .int .i64 1, .int .i64 3, .int .i64 2, .int .i64 1] := ⟨_, rfl, below_alloc _ _, Blk.new _ _ _⟩
  obtain ⟨w5, e5, b5, k5⟩ := F5
  have E5 := Lib.hid e5
  have B5 : Hid (Below w.heap.size w w5) := B4.out.trans (b5.mono B4.out.size)
  have C5 : Hid (∀ c, Calls Try.prog 30 #[.slice (some ⟨w4.heap.size, 0, none⟩) 3 c, .int .i64 8] w5 fun e w' => ∃ A c, e = .returned (.tuple #[.slice A 3 c, .int .i64 0]) ∧ OInts w5.heap.size w' (.slice A 3 c) [5, 2, 1] ∧ Below w5.heap.size w5 w') := fun c =>
    share_ex _ w5 (rd_blk (n := 3) (k := 3) (xs := ordsD.flatMap OrdD.cells) k5 rfl (by omega))
  clear e5 b5 k5 B4
  go_wp2_with fail
  rw [E5.out]
  refine (C5.out _).mono ?_
  rintro _ w6 ⟨A6, c6, rfl, t6, b6⟩
  have B6 : Hid (Below w.heap.size w w6) := B5.out.trans (b6.mono B5.out.size)
  have T6 : Hid (OInts w.heap.size w6 (.slice A6 3 c6) [5, 2, 1]) := ownsRow_base t6 B5.out.size
  clear b6 t6 C5 E5 B5
  go_wp2_with fail
  refine (reader_any _).mono ?_
  rintro _ w7 ⟨u7, rfl, h7, b7⟩
  have B7 : Hid (Below w.heap.size w w7) := B6.out.trans (b7.mono B6.out.size)
  have T7 : Hid (OInts w.heap.size w7 (.slice A6 3 c6) [5, 2, 1]) := ownsRow_below T6.out b7
  have C7 := Lib.hid (copies_ex u7 w7 h7)
  clear b7 h7 B6 T6
  go_wp2_with fail
  refine C7.out.mono ?_
  rintro _ w8 ⟨rfl, b8⟩
  have B8 : Hid (Below w.heap.size w w8) := B7.out.trans (b8.mono B7.out.size)
  have T8 : Hid (OInts w.heap.size w8 (.slice A6 3 c6) [5, 2, 1]) := ownsRow_below T7.out b8
  clear b8 C7 B7 T7
  go_wp2_with fail
  refine (week_any _).mono ?_
  rintro _ w9 ⟨A9, c9, rfl, h9, b9⟩
  have B9 : Hid (Below w.heap.size w w9) := B8.out.trans (b9.mono B8.out.size)
  have T9 : Hid (OInts w.heap.size w9 (.slice A6 3 c6) [5, 2, 1]) := ownsRow_below T8.out b9
  have F10 : ∃ w10, w9.alloc (.cells #[.int .i64 0, .int .i64 0, .int .i64 3] 3) = w10 ∧ Below w9.heap.size w9 w10 ∧ Blk w10 w9.heap.size 3 #[.int .i64 0, .int .i64 0, .int .i64 3] := ⟨_, rfl, below_alloc _ _, Blk.new _ _ _⟩
  obtain ⟨w10, e10, b10, k10⟩ := F10
  have E10 := Lib.hid e10
  have B10 : Hid (Below w.heap.size w w10) := B9.out.trans (b10.mono B9.out.size)
  have T10 : Hid (OInts w.heap.size w10 (.slice A6 3 c6) [5, 2, 1]) := ownsRow_below T9.out b10
  have C10 : Hid (∀ c, Calls Try.prog 37 #[.agg #[.int .i64 9, .int .i64 5, .int .i64 2, .int .i64 0, .int .i64 0], .slice A9 3 c9, .slice (some ⟨w9.heap.size, 0, none⟩) 3 c] w10 fun e w' => ∃ Az nz cz, e = .returned (.tuple #[.agg #[.slice Az nz cz, .int .i64 262], .int .i64 0]) ∧ Below w10.heap.size w10 w') := fun c =>
    settle_ex _ _ w10 (Rd.more (Rd.below h9 b10) b10.size) (rd_blk (n := 3) (k := 1) (xs := [.int .i64 0, .int .i64 0, .int .i64 3]) k10 rfl (by omega))
  clear b9 h9 B8 T8 B9 T9 e10 b10 k10
  go_wp2_with fail
  rw [E10.out]
  refine (C10.out _).mono ?_
  rintro _ w11 ⟨Az, nz, cz, rfl, b11⟩
  have B11 : Hid (Below w.heap.size w w11) := B10.out.trans (b11.mono B10.out.size)
  have T11 : Hid (OInts w.heap.size w11 (.slice A6 3 c6) [5, 2, 1]) := ownsRow_below T10.out b11
  have F12 : ∃ w12, w11.alloc (.cells #[.slice Az nz cz, .int .i64 262] 80) = w12 ∧ Below w11.heap.size w11 w12 ∧ Blk w12 w11.heap.size 80 #[.slice Az nz cz, .int .i64 262] := ⟨_, rfl, below_alloc _ _, Blk.new _ _ _⟩
  obtain ⟨w12, e12, b12, k12⟩ := F12
  have E12 := Lib.hid e12
  have B12 : Hid (Below w.heap.size w w12) := B11.out.trans (b12.mono B11.out.size)
  have T12 : Hid (OInts w.heap.size w12 (.slice A6 3 c6) [5, 2, 1]) := ownsRow_below T11.out b12
  have K12 := Lib.hid k12
  have F13 : ∃ w13, w12.alloc (.cells #[.int .i64 5, .int .i64 2, .int .i64 1] 3) = w13 ∧ Below w12.heap.size w12 w13 ∧ Blk w13 w12.heap.size 3 #[.int .i64 5, .int .i64 2, .int .i64 1] := ⟨_, rfl, below_alloc _ _, Blk.new _ _ _⟩
  obtain ⟨w13, e13, b13, k13⟩ := F13
  have E13 := Lib.hid e13
  have B13 : Hid (Below w.heap.size w w13) := B12.out.trans (b13.mono B12.out.size)
  have K13 : Hid (Blk w13 w11.heap.size 80 #[.slice Az nz cz, .int .i64 262]) := K12.out.below b13 K12.out.lt
  have C13 : Hid (∀ c, Calls Try.prog 48 #[.slice A6 3 c6, .slice (some ⟨w12.heap.size, 0, none⟩) 3 c] w13 fun e w' => e = .returned (.bool true) ∧ Below w13.heap.size w13 w') := fun c =>
    eqInts_any _ _ [5, 2, 1] [5, 2, 1] w13 (Rd.own (ownsRow_below T12.out b13) (own_le T12.out)) (rd_blk (n := 3) (k := 1) (xs := [.int .i64 5, .int .i64 2, .int .i64 1]) k13 rfl (by omega))
  clear C10 E10 b11 B10 T10 T11 B11 e12 b12 k12 e13 b13 k13 T12 B12
  go_upto_region 6 with fail
  rw [E12.out]
  go_wp2_with fail
  rw [E13.out]
  refine (C13.out _).mono ?_
  rintro _ w14 ⟨rfl, b14⟩
  have B14 : Hid (Below w.heap.size w w14) := B13.out.trans (b14.mono B13.out.size)
  have c1 := cellOf (K13.out.below b14 K13.out.lt) 1 (x := .int .i64 262) rfl
  clear b14 C13 B13 E13 E12
  go_wp2
  go_ret
  exact ⟨rfl, B14.out⟩
end Go.Proofs.Ytlmpbmlbllndcaa
