/-
  Subscribers: the first error; checkSubscribers.
  gets, Gets.
-/
import Derived.Test.YtlmpbmlbllndcaaMan
import Derived.Test.YtlmpbmlbllndcaaMav
import Derived.Test.YtlmpbmlbllndcaaMau
namespace Go.Proofs.Ytlmpbmlbllndcaa
open Go.RowKit
attribute [local go_sem] Oper.semAt_some

theorem subKey_any (x : SubD) (Au : Option Addr) (nu cu : Nat) (w : World) : Calls Try.prog 134 #[.agg #[.int .i64 x.id, .int .i64 x.from_, .int .i64 x.to_, .int .i64 x.days, .slice Au nu cu]] w fun e w' => e = .returned (.int .i64 x.id) ∧ Below w.heap.size w w' := by
  go_enter Try.func134, Try.ntmps134
  go_wp2
  go_ret
  exact ⟨rfl, below_alloc _ _⟩
/-- The first error of subscribers, behind some numbers. -/
def fsE : List Int → List SubD → Int
  | _, [] => 0
  | met, o :: l => if subB o then (if o.id ∈ met then 10 else fsE (addS met o.id) l) else 120
set_option maxRecDepth 100000 in
set_option maxHeartbeats 4000000 in
theorem firstSub_any (l : List SubD) (v : Value) (w : World) (h : RSubs w.heap.size w v l) :
    Calls Try.prog 133 #[v, .func (.func 89) #[] #[], .int .i64 120, .func (.func 134) #[] #[]] w fun e w' => e = .returned (.int .i64 (fsE [] l)) ∧ Below w.heap.size w w' := by
  obtain ⟨A, c, rfl, hlm, HD⟩ := subs_later h
  obtain ⟨n, hn⟩ : ∃ n, l.length = n := ⟨_, rfl⟩
  obtain ⟨r, hr⟩ : ∃ r, fsE [] l = r := ⟨_, rfl⟩
  rw [hn] at hlm
  rw [hn, hr]
  have HN := Lib.hid hn
  have HR := Lib.hid hr
  have hmm := @run_makeMap Try.prog
  have F0 : ∃ W0, w.alloc (.map #[] 0) = W0 ∧ Hid (Below w.heap.size w W0) ∧ Hid (SetAt W0 w.heap.size []) := ⟨_, rfl, below_alloc _ _, SetAt.new _⟩
  obtain ⟨W0, e0, HB0, HS0⟩ := F0
  have E0 := Lib.hid e0
  obtain ⟨p, hp⟩ : ∃ p, w.heap.size = p := ⟨_, rfl⟩
  rw [hp] at HS0
  have HP := Lib.hid hp
  clear h hn hr e0 hp
  go_enter Try.func133, Try.ntmps133
  go_upto_region 2 with fail
  rw [E0.out]
  clear E0 hmm
  rw [HP.out]
  go_wp2_with fail
  go_loopw [15] (fun i wr => ∃ k : Nat, k ≤ n ∧ i = .int .i64 k ∧ ∃ met, Hid (fsE met (l.drop k) = r) ∧ Hid (SetAt wr p met) ∧ Hid (Below w.heap.size w wr)) (fun i _ => n - (intOf i).toNat)
  case atStart => exact ⟨0, Nat.zero_le _, rfl, [], HR.out, HS0.out, HB0.out⟩
  case round =>
  clear HS0 HB0
  obtain ⟨k, hk, rfl, met, hf, hS, hB⟩ := hrel
  obtain ⟨X, rfl⟩ : ∃ X : World, X = wr := ⟨_, rfl⟩
  by_cases hlt : k < n
  · obtain ⟨x, hx⟩ : ∃ x, l[k]? = some x := ⟨_, List.getElem?_eq_getElem (by rw [HN.out]; exact hlt)⟩
    obtain ⟨g, o, u, rfl, HX⟩ := HD.out k x hx
    obtain ⟨Au, nu, cu, rfl⟩ : ∃ Au nu cu, u = .slice Au nu cu := by
      obtain ⟨-, u', hu', hsp⟩ := HX.out X hB.out
      obtain ⟨Au, cu, e, -⟩ := spans_later hsp
      have e9 : u = u' := by simpa using hu'
      exact ⟨Au, _, cu, e9.trans e⟩
    obtain ⟨⟨c0, c1, c2', c3', c4'⟩, -⟩ := HX.out X hB.out
    have F1 : ∃ X1, X.alloc (.cells #[.int .i64 x.id, .int .i64 x.from_, .int .i64 x.to_, .int .i64 x.days, .slice Au nu cu] 42) = X1 ∧ Hid (Below X.heap.size X X1) ∧ Hid (Blk X1 X.heap.size 42 #[.int .i64 x.id, .int .i64 x.from_, .int .i64 x.to_, .int .i64 x.days, .slice Au nu cu]) := ⟨_, rfl, below_alloc _ _, Blk.new _ _ _⟩
    obtain ⟨X1, e1, HX1, HK1⟩ := F1
    have E1 := Lib.hid e1
    have HB1 : Hid (Below w.heap.size w X1) := hB.out.trans (HX1.out.mono hB.out.size)
    have HS1 : Hid (SetAt X1 p met) := hS.out.below HX1.out hS.out.lt
    obtain ⟨q, hq⟩ : ∃ q, X.heap.size = q := ⟨_, rfl⟩
    rw [hq] at HK1
    have HQ := Lib.hid hq
    have HCC : Hid (∀ Y, Below X1.heap.size X1 Y → Y.cell? ⟨q, 0, none⟩ = some (.int .i64 x.id) ∧ Y.cell? ⟨q, 1, none⟩ = some (.int .i64 x.from_) ∧ Y.cell? ⟨q, 2, none⟩ = some (.int .i64 x.to_) ∧ Y.cell? ⟨q, 3, none⟩ = some (.int .i64 x.days) ∧ Y.cell? ⟨q, 4, none⟩ = some (.slice Au nu cu)) := fun Y hY => by
      have h1 := HK1.out.below hY HK1.out.lt
      exact ⟨cellOf h1 0 rfl, cellOf h1 1 rfl, cellOf h1 2 rfl, cellOf h1 3 rfl, cellOf h1 4 rfl⟩
    have HFE : Hid ((if subB x then (if x.id ∈ met then 10 else fsE (addS met x.id) (l.drop (k + 1))) else 120) = r) := by
      have h1 := hf.out
      rw [drop_cons hx] at h1
      exact h1
    have CR := Lib.hid (subRight_any x _ X1 (HX.out X1 HB1.out).2)
    obtain ⟨ob, hob⟩ : ∃ b, subB x = b := ⟨_, rfl⟩
    rw [hob] at CR
    have HOB := Lib.hid hob
    have k0 : (0 : Int) ≤ (k : Int) := by omega
    have k1 : (k : Int) < (n : Int) := by omega
    obtain ⟨d0, d1, d2, d3, d4⟩ := HCC.out X1 (Below.refl _ _)
    clear hx hob e1 hq HX hB hS hf HX1 HK1
    go_upto_region 5 with fail
    rw [E1.out, HQ.out]
    clear E1 c0 c1 c2' c3' c4'
    go_wp2_with fail
    refine CR.out.mono ?_
    rintro _ X2 ⟨rfl, hb2⟩
    have HX2 := Lib.hid hb2
    have HB2 : Hid (Below w.heap.size w X2) := HB1.out.trans (hb2.mono HB1.out.size)
    have HS2 : Hid (SetAt X2 p met) := HS1.out.below hb2 HS1.out.lt
    clear CR hb2 d0 d1 d2 d3 d4
    cases ob
    · have HX : Hid ((120 : Int) = r) := by show _ = _; rw [← HFE.out, HOB.out]; rfl
      go_wp2_with fail
      go_ret
      exact ⟨ri HX.out.symm, HB2.out⟩
    have HFE2 : Hid ((if x.id ∈ met then 10 else fsE (addS met x.id) (l.drop (k + 1))) = r) := by
      have h1 := HFE.out
      rw [if_pos HOB.out] at h1
      exact h1
    have CK := Lib.hid (fun w => subKey_any x Au nu cu w)
    obtain ⟨d0, d1, d2, d3, d4⟩ := HCC.out X2 HX2.out
    clear HFE
    go_wp2_with fail
    refine (CK.out _).mono ?_
    rintro _ X3 ⟨rfl, hb3⟩
    have HX3 : Hid (Below X1.heap.size X1 X3) := HX2.out.trans (hb3.mono HX2.out.size)
    have HB3 : Hid (Below w.heap.size w X3) := HB2.out.trans (hb3.mono HB2.out.size)
    have HS3 : Hid (SetAt X3 p met) := HS2.out.below hb3 HS2.out.lt
    have hget := HS3.out.get (P := Try.prog) underInt mapIntBool zeroBool x.id
    obtain ⟨mb, hmb⟩ : ∃ b, decide (x.id ∈ met) = b := ⟨_, rfl⟩
    rw [hmb] at hget
    have HMB := Lib.hid hmb
    clear hb3 d0 d1 d2 d3 d4 hmb
    cases mb
    · have HFE3 : Hid (fsE (addS met x.id) (l.drop (k + 1)) = r) := by
        have h1 := HFE2.out
        rw [if_neg (of_decide_eq_false HMB.out)] at h1
        exact h1
      obtain ⟨d0, d1, d2, d3, d4⟩ := HCC.out X3 HX3.out
      go_wp2_with fail
      clear hget
      refine (CK.out _).mono ?_
      rintro _ X4 ⟨rfl, hb4⟩
      have HB4 : Hid (Below w.heap.size w X4) := HB3.out.trans (hb4.mono HB3.out.size)
      have HS4 : Hid (SetAt X4 p met) := HS3.out.below hb4 HS3.out.lt
      clear hb4 d0 d1 d2 d3 d4
      go_wp2_with (at_mapUpdate; refine wpList_setPut _ underInt rfl _ _ _ 224 rfl mapIntBool p met x.id rfl rfl rfl HS4.out ?_; intro w1 hs1 hg1)
      have HS5 := Lib.hid hs1
      have HB5 : Hid (Below w.heap.size w w1) := HB4.out.grown hg1 HB4.out.size (fun j hj => by cases hj; rw [HP.out]; exact Nat.le_refl _)
      clear hs1 hg1
      go_roundw
      case rel => exact ⟨k + 1, by omega, by go_num, _, HFE3, HS5, HB5⟩
      case measure => simp [intOf]; omega
    · have HX : Hid ((10 : Int) = r) := by
        have h1 := HFE2.out
        rw [if_pos (of_decide_eq_true HMB.out)] at h1
        exact h1
      go_wp2_with fail
      go_ret
      exact ⟨ri HX.out.symm, HB3.out⟩
  · have HX : Hid ((0 : Int) = r) := by
      show _ = _
      rw [← hf.out, List.drop_of_length_le (by rw [HN.out]; omega)]
      rfl
    go_wp2_with fail
    go_ret
    exact ⟨ri HX.out.symm, hB.out⟩
def subsE (l : List SubD) : Int := if 500 < l.length then 2 else fsE [] l
set_option maxHeartbeats 2000000 in
theorem checkSubs_any (l : List SubD) (v : Value) (w : World) (h : RSubs w.heap.size w v l) :
    Calls Try.prog 86 #[v] w fun e w' => e = .returned (.int .i64 (subsE l)) ∧ Below w.heap.size w w' := by
  have C1 := Lib.hid (firstSub_any l v w h)
  obtain ⟨A, c, rfl, hlm, -⟩ := subs_later h
  obtain ⟨n, hn⟩ : ∃ n, l.length = n := ⟨_, rfl⟩
  obtain ⟨r, hr⟩ : ∃ r, subsE l = r := ⟨_, rfl⟩
  obtain ⟨f, hf⟩ : ∃ r, fsE [] l = r := ⟨_, rfl⟩
  have HR : Hid (r = if 500 < n then 2 else f) := by show _ = _; rw [← hr, ← hn, ← hf]; rfl
  rw [hf] at C1
  rw [hn] at C1 hlm ⊢
  rw [hr]
  clear h hn hr hf
  by_cases h5 : 500 < n
  · have HX : Hid ((2 : Int) = r) := by show _ = _; rw [HR.out, if_pos h5]
    have h6 : (500 : Int) < (n : Int) := by omega
    clear HR
    go_enter Try.func86, Try.ntmps86
    go_wp2_with fail
    go_ret
    exact ⟨ri HX.out.symm, Below.refl _ _⟩
  · have HX : Hid (f = r) := by show _ = _; rw [HR.out, if_neg h5]
    have h6 : ¬ (500 : Int) < (n : Int) := by omega
    clear HR
    go_enter Try.func86, Try.ntmps86
    go_wp2_with fail
    refine C1.out.mono ?_
    rintro _ W1 ⟨rfl, hb1⟩
    go_wp2_with fail
    go_ret
    exact ⟨ri HX.out.symm, hb1⟩
end Go.Proofs.Ytlmpbmlbllndcaa

namespace Go.Proofs.Ytlmpbmlbllndcaa
open Go.RowKit
attribute [local go_sem] Oper.semAt_some

/-- Whether a subscriber gets a copy on a day, as the program reckons it. -/
def SubD.getB (s : SubD) (d : Int) : Bool := decide (0 < s.copies d d)
set_option maxHeartbeats 2000000 in
theorem gets_any (s : SubD) (hs : s.Ok) (d : Int) (hd : 0 ≤ d ∧ d ≤ 20000) (v : Value) (w : World) (h : RSub w.heap.size w v s) :
    Calls Try.prog 88 #[v, .int .i64 d] w fun e w' => e = .returned (.bool (s.getB d)) ∧ Below w.heap.size w w' := by
  have HS := Lib.hid h
  obtain ⟨u, rfl, hsp⟩ := h
  obtain ⟨Au, cu, rfl, -, -⟩ := spans_later hsp
  obtain ⟨nu, hnu⟩ : ∃ n, s.hol.length = n := ⟨_, rfl⟩
  rw [hnu] at HS ⊢
  have F0 : ∃ W0, w.alloc (.cells #[.int .i64 s.id, .int .i64 s.from_, .int .i64 s.to_, .int .i64 s.days, .slice Au nu cu] 42) = W0 ∧ Hid (Below w.heap.size w W0) ∧ Hid (Blk W0 w.heap.size 42 #[.int .i64 s.id, .int .i64 s.from_, .int .i64 s.to_, .int .i64 s.days, .slice Au nu cu]) := ⟨_, rfl, below_alloc _ _, Blk.new _ _ _⟩
  obtain ⟨W0, e0, HB0, HK0⟩ := F0
  have E0 := Lib.hid e0
  have C := Lib.hid (subCopies_any s hs d d hd hd _ W0 ((HS.out.below HB0.out).more HB0.out.size))
  have c0 := cellOf HK0.out 0 (x := .int .i64 s.id) rfl
  have c1 := cellOf HK0.out 1 (x := .int .i64 s.from_) rfl
  have c2 := cellOf HK0.out 2 (x := .int .i64 s.to_) rfl
  have c3 := cellOf HK0.out 3 (x := .int .i64 s.days) rfl
  have c4 := cellOf HK0.out 4 (x := .slice Au nu cu) rfl
  obtain ⟨n, hn⟩ : ∃ n, s.copies d d = n := ⟨_, rfl⟩
  rw [hn] at C
  have HE : Hid (s.getB d = decide (0 < n)) := by show _ = _; unfold SubD.getB; rw [hn]
  clear e0 hsp hnu hs hn
  go_enter Try.func88, Try.ntmps88
  go_upto_region 1 with fail
  rw [E0.out]
  clear E0
  go_wp2_with fail
  refine C.out.mono ?_
  rintro _ W1 ⟨rfl, hb1⟩
  have HB1 : Hid (Below w.heap.size w W1) := HB0.out.trans (hb1.mono HB0.out.size)
  clear C hb1 c0 c1 c2 c3 c4
  go_wp2_with fail
  go_ret
  exact ⟨rb HE.out, HB1.out⟩
set_option maxHeartbeats 2000000 in
theorem Gets_any (s : SubD) (d : Int) (v : Value) (w : World) (h : RSub w.heap.size w v s) :
    Calls Try.prog 36 #[v, .int .i64 d] w fun e w' => e = .returned (.tuple #[.bool (decide (0 < copV s d d)), .int .i64 (copE s d d)]) ∧ Below w.heap.size w w' := by
  have HS := Lib.hid h
  obtain ⟨u, rfl, hsp⟩ := h
  obtain ⟨Au, cu, rfl, -, -⟩ := spans_later hsp
  obtain ⟨nu, hnu⟩ : ∃ n, s.hol.length = n := ⟨_, rfl⟩
  rw [hnu] at HS ⊢
  have F0 : ∃ W0, w.alloc (.cells #[.int .i64 s.id, .int .i64 s.from_, .int .i64 s.to_, .int .i64 s.days, .slice Au nu cu] 42) = W0 ∧ Hid (Below w.heap.size w W0) ∧ Hid (Blk W0 w.heap.size 42 #[.int .i64 s.id, .int .i64 s.from_, .int .i64 s.to_, .int .i64 s.days, .slice Au nu cu]) := ⟨_, rfl, below_alloc _ _, Blk.new _ _ _⟩
  obtain ⟨W0, e0, HB0, HK0⟩ := F0
  have E0 := Lib.hid e0
  have C := Lib.hid (Copies_any s d d _ W0 ((HS.out.below HB0.out).more HB0.out.size))
  have c0 := cellOf HK0.out 0 (x := .int .i64 s.id) rfl
  have c1 := cellOf HK0.out 1 (x := .int .i64 s.from_) rfl
  have c2 := cellOf HK0.out 2 (x := .int .i64 s.to_) rfl
  have c3 := cellOf HK0.out 3 (x := .int .i64 s.days) rfl
  have c4 := cellOf HK0.out 4 (x := .slice Au nu cu) rfl
  obtain ⟨n, hn⟩ : ∃ n, copV s d d = n := ⟨_, rfl⟩
  obtain ⟨ce, hce⟩ : ∃ n, copE s d d = n := ⟨_, rfl⟩
  rw [hn, hce] at C
  rw [hn, hce]
  clear e0 hsp hnu hn hce
  go_enter Try.func36, Try.ntmps36
  go_upto_region 1 with fail
  rw [E0.out]
  clear E0
  go_wp2_with fail
  refine C.out.mono ?_
  rintro _ W1 ⟨rfl, hb1⟩
  have HB1 : Hid (Below w.heap.size w W1) := HB0.out.trans (hb1.mono HB0.out.size)
  clear C hb1 c0 c1 c2 c3 c4
  go_wp2_with fail
  go_ret2
  exact ⟨rfl, HB1.out⟩
end Go.Proofs.Ytlmpbmlbllndcaa
