/-
  Fair.
  Plain for AgentFair: the generator's orders are right; what is shared is fair.
-/
import Derived.Test.YtlmpbmlbllndcaaMbl
namespace Go.Proofs.Ytlmpbmlbllndcaa
open Go.RowKit
attribute [local go_sem] Oper.semAt_some

def fairE (l : List OrdD) (c : Int) (g : List Int) : Int := if ordE l c = 0 then (if g.length = l.length then 0 else 1) else ordE l c
def fairB (l : List OrdD) (c : Int) (g : List Int) : Bool := decide (fairE l c g = 0) && (allowB l g c && evenB l g)
theorem okTo_at {l : List OrdD} {g : List Int} {n : Nat} (h : okTo l g n = true) : ∀ i, i < n → leastAt l i ≤ g.getD i 0 ∧ g.getD i 0 ≤ copAt l i := fun i hi =>
  inB_iff.1 (List.all_eq_true.1 h i (List.mem_range.2 hi))
theorem ret_bi {a c : Bool} {b d : Int} (h1 : a = c) (h2 : b = d) : Ending.returned (.tuple #[.bool a, .int .i64 b]) = .returned (.tuple #[.bool c, .int .i64 d]) := by rw [h1, h2]
set_option maxRecDepth 100000 in
set_option maxHeartbeats 4000000 in
theorem Fair_any (l : List OrdD) (c0 : Int) (hc1 : c0 ≤ 9223372036854775807) (g : List Int) (v vg : Value) (w : World) (h : ROrds w.heap.size w v l) (hv : RInts w.heap.size w vg g) :
    Calls Try.prog 31 #[v, .int .i64 c0, vg] w fun e w' => e = .returned (.tuple #[.bool (fairB l c0 g), .int .i64 (fairE l c0 g)]) ∧ Below w.heap.size w w' := by
  have C1 := Lib.hid (checkOrd_any l c0 hc1 v w h)
  have HRO := Lib.hid h
  have HRG := Lib.hid hv
  obtain ⟨A, c, rfl, hlm, -⟩ := ords_later h
  obtain ⟨Ag, cg, rfl, hgm, -⟩ := ints_later hv
  obtain ⟨n, hn⟩ : ∃ n, l.length = n := ⟨_, rfl⟩
  obtain ⟨n2, hn2⟩ : ∃ n, g.length = n := ⟨_, rfl⟩
  obtain ⟨r, hr⟩ : ∃ r, ordE l c0 = r := ⟨_, rfl⟩
  obtain ⟨fe, hfe⟩ : ∃ r, fairE l c0 g = r := ⟨_, rfl⟩
  obtain ⟨fb, hfb⟩ : ∃ r, fairB l c0 g = r := ⟨_, rfl⟩
  have HFE : Hid (fe = if r = 0 then (if n2 = n then 0 else 1) else r) := by show _ = _; rw [← hfe]; unfold fairE; rw [hr, hn, hn2]
  have HFB : Hid (fb = (decide (fe = 0) && (allowB l g c0 && evenB l g))) := by show _ = _; rw [← hfb]; unfold fairB; rw [hfe]
  rw [hr] at C1
  rw [hn] at C1 hlm ⊢
  rw [hn2] at hgm ⊢
  rw [hfe, hfb]
  have HR := Lib.hid hr
  have HN := Lib.hid hn
  have HN2 := Lib.hid hn2
  clear h hv hr hn hn2 hfe hfb
  by_cases h0 : r = 0
  case neg =>
    have hrb : (r != 0) = true := by simpa using h0
    have HE : Hid (r = fe) := by show _ = _; rw [HFE.out, if_neg h0]
    have HB : Hid (false = fb) := by show _ = _; rw [HFB.out, ← HE.out, decide_eq_false h0]; rfl
    clear h0
    go_enter Try.func31, Try.ntmps31
    go_wp2_with fail
    refine C1.out.mono ?_
    rintro _ W1 ⟨rfl, hb1⟩
    go_wp2_with fail
    go_ret2
    exact ⟨ret_bi HB.out HE.out, hb1⟩
  have hrb : (r != 0) = false := by simpa using h0
  obtain ⟨hl, hd, -⟩ := ordE_ok (HR.out.trans h0)
  have HLD : Hid (l.length ≤ 40 ∧ ∀ o ∈ l, o.ok) := ⟨hl, hd⟩
  have HFE2 : Hid (fe = if n2 = n then 0 else 1) := by show _ = _; rw [HFE.out, if_pos h0]
  clear hl hd h0 HFE HR
  by_cases hnn : n2 = n
  case neg =>
    have hne : ((n2 : Int) != (n : Int)) = true := by simp; omega
    have HE : Hid (1 = fe) := by show _ = _; rw [HFE2.out, if_neg hnn]
    have HB : Hid (false = fb) := by show _ = _; rw [HFB.out, ← HE.out]; rfl
    clear hnn
    go_enter Try.func31, Try.ntmps31
    go_wp2_with fail
    refine C1.out.mono ?_
    rintro _ W1 ⟨rfl, hb1⟩
    have HB1 := Lib.hid hb1
    clear hb1 C1
    go_wp2_with fail
    go_ret2
    exact ⟨ret_bi HB.out HE.out, HB1.out⟩
  subst hnn
  have hne : ((n2 : Int) != (n2 : Int)) = false := by simp
  have HE : Hid (0 = fe) := by show _ = _; rw [HFE2.out, if_pos rfl]
  have HB : Hid ((allowB l g c0 && evenB l g) = fb) := by show _ = _; rw [HFB.out, ← HE.out]; rfl
  have C2 : Hid (∀ W, Below w.heap.size w W → Calls Try.prog 84 #[.slice A n2 c, .int .i64 c0, .slice Ag n2 cg] W fun e w' => e = .returned (.bool (allowB l g c0)) ∧ Below W.heap.size W w') := fun W hW => by
    have h1 := areAllowed_any l g c0 HLD.out.1 HLD.out.2 (by rw [HN.out, HN2.out]) _ _ W (Rd.more (Rd.below HRO.out hW) hW.size) (Rd.more (Rd.below HRG.out hW) hW.size)
    rw [HN.out, HN2.out] at h1
    exact h1
  have C3 : Hid (allowB l g c0 = true → ∀ W, Below w.heap.size w W → Calls Try.prog 85 #[.slice A n2 c, .slice Ag n2 cg] W fun e w' => e = .returned (.bool (evenB l g)) ∧ Below W.heap.size W w') := fun ha W hW => by
    have h0 : okTo l g l.length = true := by
      unfold allowB at ha
      rw [Bool.and_eq_true] at ha
      exact ha.1
    have h1 := areEven_any l g HLD.out.1 HLD.out.2 (by rw [HN.out, HN2.out]) (okTo_at h0) _ _ W (Rd.more (Rd.below HRO.out hW) hW.size) (Rd.more (Rd.below HRG.out hW) hW.size)
    rw [HN.out, HN2.out] at h1
    exact h1
  obtain ⟨ab, hab⟩ : ∃ b, allowB l g c0 = b := ⟨_, rfl⟩
  obtain ⟨eb, heb⟩ : ∃ b, evenB l g = b := ⟨_, rfl⟩
  rw [hab] at C2 HB C3
  rw [heb] at HB C3
  clear hab heb HFB HFE2 HRO HRG HLD
  go_enter Try.func31, Try.ntmps31
  go_wp2_with fail
  refine C1.out.mono ?_
  rintro _ W1 ⟨rfl, hb1⟩
  have HB1 := Lib.hid hb1
  have D2 := Lib.hid (C2.out W1 hb1)
  clear hb1 C1 C2
  go_wp2_with fail
  refine D2.out.mono ?_
  rintro _ W2 ⟨rfl, hb2⟩
  have HB2 : Hid (Below w.heap.size w W2) := HB1.out.trans (hb2.mono HB1.out.size)
  clear hb2 D2
  cases ab with
  | false =>
    clear C3
    go_wp2_with fail
    go_ret2
    exact ⟨ret_bi (by rw [← HB.out]; rfl) HE.out, HB2.out⟩
  | true =>
    have D3 := Lib.hid (C3.out rfl W2 HB2.out)
    clear C3
    go_wp2_with fail
    refine D3.out.mono ?_
    rintro _ W3 ⟨rfl, hb3⟩
    have HB3 : Hid (Below w.heap.size w W3) := HB2.out.trans (hb3.mono HB2.out.size)
    clear hb3 D3
    go_wp2_with fail
    go_ret2
    exact ⟨ret_bi (by rw [← HB.out]; rfl) HE.out, HB3.out⟩
end Go.Proofs.Ytlmpbmlbllndcaa

namespace Go.Proofs.Ytlmpbmlbllndcaa

theorem ordOf_ok (k : Nat) (hk : k < 1000) (x y : Int) : (ordOf k x y).ok := by
  have h0 : 0 ≤ x % 60 := Int.emod_nonneg _ (by omega)
  have h1 : 0 ≤ y % (x % 60 + 1) := Int.emod_nonneg _ (by omega)
  have h2 : y % (x % 60 + 1) < x % 60 + 1 := Int.emod_lt_of_pos _ (by omega)
  unfold OrdD.ok ordOf
  simp only
  omega
theorem ords_ok (data : List Int) : ∀ o ∈ ordsOf data, o.ok ∧ o.cop ≤ 59 := fun o ho => by
  obtain ⟨i, hi, rfl⟩ := List.mem_map.1 ho
  have hi := List.mem_range.1 hi
  refine ⟨ordOf_ok i (by unfold nOrds at hi; omega) _ _, ?_⟩
  unfold ordOf
  simp only
  omega
theorem ords_len (data : List Int) : (ordsOf data).length = nOrds data := ordTo_len _ _
theorem foE_of : ∀ (l : List OrdD) (met : List Int), (∀ o ∈ l, o.ok) → (l.map OrdD.ag).Nodup → (∀ o ∈ l, o.ag ∉ met) → foE met l = 0
  | [], _, _, _, _ => rfl
  | o :: l, met, h1, h2, h3 => by
    unfold foE
    rw [List.map_cons, List.nodup_cons] at h2
    rw [if_pos (OrdD.okB_iff.2 (h1 o List.mem_cons_self)), if_neg (h3 o List.mem_cons_self)]
    refine foE_of l _ (fun x hx => h1 x (List.mem_cons_of_mem _ hx)) h2.2 fun x hx hm => ?_
    rcases addS_mem.1 hm with e | e
    · exact h2.1 (List.mem_map.2 ⟨x, hx, e⟩)
    · exact h3 x (List.mem_cons_of_mem _ hx) e
theorem ords_fo (data : List Int) : foE [] (ordsOf data) = 0 := by
  refine foE_of _ _ (fun o ho => (ords_ok data o ho).1) ?_ fun o _ hm => by cases hm
  unfold ordsOf ordTo
  rw [List.map_map]
  refine List.pairwise_map.2 (List.nodup_range.imp fun {a b} hne e => hne ?_)
  simp only [Function.comp, ordOf] at e
  omega
theorem ords_ordE (data : List Int) (c : Int) (hc : 0 ≤ c) : ordE (ordsOf data) c = if c - lstK (ordsOf data) (ordsOf data).length < 0 then 4 else 0 := by
  unfold ordE
  rw [if_neg (by rw [ords_len]; unfold nOrds; omega), if_pos (ords_fo data), if_neg (by omega)]
theorem least0_eq (l : List OrdD) : least0 l = leastL l := rfl
theorem lstK_all (l : List OrdD) : lstK l l.length = sumI (least0 l) := by
  unfold lstK least0
  rw [List.take_length]
section
variable {l : List OrdD} {c : Int}
theorem shares_given (hd : ∀ o ∈ l, o.ok) : Given l (sharesD l c) := (given0 hd).steps _
theorem shares_even (hd : ∀ o ∈ l, o.ok) : Even l (sharesD l c) := Even.steps hd (given0 hd) (even_start l) _
theorem shares_sum (hd : ∀ o ∈ l, o.ok) (hc : lstK l l.length ≤ c) : sumI (sharesD l c) = min c (allC l) := by
  unfold sharesD leftC
  rw [sum_steps (given0 hd), ← lstK_all]
  rw [show lstK l l.length + ((c - lstK l l.length).toNat : Int) = c by omega]
theorem shares_more (hc : lstK l l.length ≤ c) : sharesD l (c + 1) = stepS l (sharesD l c) := by
  unfold sharesD leftC
  rw [show (c + 1 - lstK l l.length).toNat = (c - lstK l l.length).toNat + 1 by omega]
  rfl
theorem okTo_yes {g : List Int} (h : Given l g) : okTo l g l.length = true := List.all_eq_true.2 fun i hi => inB_iff.2 (h.at_ i (List.mem_range.1 hi))
theorem even_evB {g : List Int} (h : Even l g) : evenB l g = true := evenB_yes fun i j hi hj => by
  unfold evB
  by_cases h1 : leastAt l i < g.getD i 0
  · by_cases h2 : g.getD j 0 < copAt l j
    · have := h i j hi hj h1 h2
      rw [decide_eq_false (show ¬ g.getD j 0 * copAt l i < (g.getD i 0 - 1) * copAt l j by omega), Bool.and_false]
    · rw [decide_eq_false h2, Bool.and_false, Bool.false_and]
  · rw [decide_eq_false h1, Bool.false_and, Bool.false_and]
theorem shares_fair (hd : ∀ o ∈ l, o.ok) (h : ordE l c = 0) (hc : lstK l l.length ≤ c) : fairE l c (sharesD l c) = 0 ∧ fairB l c (sharesD l c) = true := by
  have h1 : fairE l c (sharesD l c) = 0 := by unfold fairE; rw [if_pos h, if_pos (shares_len hd)]
  refine ⟨h1, ?_⟩
  unfold fairB
  rw [decide_eq_true h1, even_evB (shares_even hd)]
  unfold allowB
  rw [okTo_yes (shares_given hd), decide_eq_true (shares_sum hd hc)]
  rfl
end
end Go.Proofs.Ytlmpbmlbllndcaa
