/-
  Fair: areAllowed, areEven.
-/
import Derived.Test.YtlmpbmlbllndcaaMbj
namespace Go.Proofs.Ytlmpbmlbllndcaa
open Go.RowKit
attribute [local go_sem] Oper.semAt_some

/-- Whether the first k shares are allowed by their orders. -/
def okTo (l : List OrdD) (g : List Int) (k : Nat) : Bool := (List.range k).all fun i => inB (g.getD i 0) (leastAt l i) (copAt l i)
theorem okTo_next (l : List OrdD) (g : List Int) (k : Nat) : okTo l g (k + 1) = (okTo l g k && inB (g.getD k 0) (leastAt l k) (copAt l k)) := by
  unfold okTo
  rw [List.range_succ, List.all_append]
  simp
theorem okTo_no {l : List OrdD} {g : List Int} {k : Nat} (h : okTo l g k = false) : ∀ n, k ≤ n → okTo l g n = false
  | 0, hn => by obtain rfl : k = 0 := by omega
                exact h
  | n + 1, hn => by
    by_cases e : k = n + 1
    · subst e; exact h
    · rw [okTo_next, okTo_no h n (by omega)]; rfl
def gK (g : List Int) (k : Nat) : Int := sumI (g.take k)
def aK (l : List OrdD) (k : Nat) : Int := sumI ((l.map OrdD.cop).take k)
theorem gK_next {g : List Int} {k : Nat} {x : Int} (h : g[k]? = some x) : gK g (k + 1) = gK g k + x := by
  unfold gK
  rw [List.take_add_one, h, Option.toList_some, sumI_snoc]
theorem aK_next {l : List OrdD} {k : Nat} {x : OrdD} (h : l[k]? = some x) : aK l (k + 1) = aK l k + x.cop := by
  unfold aK
  rw [List.take_add_one, List.getElem?_map, h, Option.map_some, Option.toList_some, sumI_snoc]
def allowB (l : List OrdD) (g : List Int) (c : Int) : Bool := okTo l g l.length && decide (sumI g = min c (allC l))
set_option maxRecDepth 100000 in
set_option maxHeartbeats 4000000 in
theorem areAllowed_any (l : List OrdD) (g : List Int) (c0 : Int) (hl : l.length ≤ 40) (hd : ∀ o ∈ l, o.ok) (hg : g.length = l.length) (v vg : Value) (w : World) (h : ROrds w.heap.size w v l) (hv : RInts w.heap.size w vg g) :
    Calls Try.prog 84 #[v, .int .i64 c0, vg] w fun e w' => e = .returned (.bool (allowB l g c0)) ∧ Below w.heap.size w w' := by
  obtain ⟨A, c, rfl, hlm, HD⟩ := ords_later h
  obtain ⟨Ag, cg, rfl, -, HI⟩ := ints_later hv
  obtain ⟨n, hn⟩ : ∃ n, l.length = n := ⟨_, rfl⟩
  rw [hn] at hg hlm hl
  rw [hn, hg]
  have HNN := Lib.hid hn
  have HGL := Lib.hid hg
  have HLD := Lib.hid hd
  obtain ⟨r, hr⟩ : ∃ r, allowB l g c0 = r := ⟨_, rfl⟩
  rw [hr]
  have HR := Lib.hid hr
  clear h hv hn hg hd hr
  go_enter Try.func84, Try.ntmps84
  go_wp2_with fail
  go_loopw [7, 8, 13] (fun s t i wr => ∃ k : Nat, k ≤ n ∧ i = .int .i64 k ∧ ∃ S T : Int, s = .int .i64 S ∧ t = .int .i64 T ∧ Hid (S = gK g k) ∧ Hid (T = aK l k) ∧ Hid (okTo l g k = true) ∧ (0 ≤ S ∧ S ≤ 10000 * k ∧ 0 ≤ T ∧ T ≤ 10000 * k) ∧ Hid (Below w.heap.size w wr)) (fun _ _ i _ => n - (intOf i).toNat)
  case atStart => exact ⟨0, Nat.zero_le _, rfl, 0, 0, rfl, rfl, rfl, rfl, rfl, ⟨by omega, by omega, by omega, by omega⟩, Below.refl _ _⟩
  case round =>
  obtain ⟨k, hk, rfl, S, T, rfl, rfl, hS, hT, hO, ⟨s0, s1, t0, t1⟩, hB⟩ := hrel
  obtain ⟨X, rfl⟩ : ∃ X : World, X = wr := ⟨_, rfl⟩
  by_cases hlt : k < n
  · obtain ⟨x, hx⟩ : ∃ x, l[k]? = some x := ⟨_, List.getElem?_eq_getElem (by rw [HNN.out]; exact hlt)⟩
    obtain ⟨y, hy⟩ : ∃ x, g[k]? = some x := ⟨_, List.getElem?_eq_getElem (by rw [HGL.out]; exact hlt)⟩
    obtain ⟨b, o, rfl, -, HX⟩ := HD.out k x hx
    obtain ⟨b2, o2, rfl, HY⟩ := HI.out k y hy
    obtain ⟨c1, c2, c3⟩ := HX.out X hB.out
    have F1 : ∃ X1, X.alloc (.cells #[.int .i64 x.ag, .int .i64 x.cop, .int .i64 x.least] 33) = X1 ∧ Hid (Below X.heap.size X X1) ∧ Hid (Blk X1 X.heap.size 33 #[.int .i64 x.ag, .int .i64 x.cop, .int .i64 x.least]) := ⟨_, rfl, below_alloc _ _, Blk.new _ _ _⟩
    obtain ⟨X1, e1, HX1, HK1⟩ := F1
    have E1 := Lib.hid e1
    have HB1 : Hid (Below w.heap.size w X1) := hB.out.trans (HX1.out.mono hB.out.size)
    have HB1q : Hid (∀ q, Below w.heap.size w (X1.drewN q)) := fun q => below_drewN HB1.out q
    have d0 := HY.out X1 HB1.out
    have d1 := cellOf HK1.out 1 (x := .int .i64 x.cop) rfl
    have d2 := cellOf HK1.out 2 (x := .int .i64 x.least) rfl
    obtain ⟨-, ⟨p1, p2⟩, p3, p4⟩ := HLD.out x (List.mem_of_getElem? hx)
    have hgy : g.getD k 0 = y := by rw [List.getD_eq_getElem?_getD, hy]; rfl
    have hon := okTo_next l g k
    rw [hO.out, Bool.true_and, hgy, leastAt_of hx, copAt_of hx] at hon
    have CI : Hid (∀ w : World, Calls Try.prog 74 #[.int .i64 y, .int .i64 x.least, .int .i64 x.cop] w fun e w' => e = .returned (.bool (inB y x.least x.cop)) ∧ w' = w) := fun w => (within_any y x.least x.cop w).mono fun e w' h => ⟨h.1, h.2.symm⟩
    have k0 : (0 : Int) ≤ (k : Int) := by omega
    have k1 : (k : Int) < (n : Int) := by omega
    obtain ⟨xl, hxl⟩ : ∃ z, x.least = z := ⟨_, rfl⟩
    obtain ⟨xc, hxc⟩ : ∃ z, x.cop = z := ⟨_, rfl⟩
    obtain ⟨xa, hxa⟩ : ∃ z, x.ag = z := ⟨_, rfl⟩
    have hgn := gK_next hy
    have han := aK_next hx
    rw [hxc] at han d1 hon CI p2 p4 c2 p1
    rw [hxl] at d2 hon CI p3 p4 c3
    rw [hxa] at c1
    rw [hxa, hxc, hxl] at E1
    cases hin : inB y xl xc with
    | false =>
      rw [hin] at hon CI
      have HF : Hid (r = false) := by
        show _ = _
        rw [← HR.out]
        unfold allowB
        rw [HNN.out, okTo_no hon n (by omega)]
        rfl
      clear hx hy HX HY e1 hgy hon hin hgn han hS hT hO hxl hxc hxa HK1
      go_upto_region 5 with fail
      rw [E1.out]
      clear E1 c1 c2 c3
      go_quiet ((go_at_call 74; exact Calls.quiet_of_same (CI.out _)))
      go_wp2_with fail
      go_ret
      exact ⟨rb HF.out, HB1q.out _⟩
    | true =>
      obtain ⟨y1, y2⟩ := inB_iff.1 hin
      rw [hin] at hon CI
      have HON := Lib.hid hon
      have HS2 : Hid (S + y = gK g (k + 1)) := by show _ = _; rw [hgn, hS.out]
      have HT2 : Hid (T + xc = aK l (k + 1)) := by show _ = _; rw [han, hT.out]
      have d0q : Hid (∀ q, (X1.drewN q).cell? ⟨b2, o2 + k, none⟩ = some (.int .i64 y)) := fun q => HY.out _ (HB1q.out q)
      have d1q : Hid (∀ q, (X1.drewN q).cell? ⟨X.heap.size, 1, none⟩ = some (.int .i64 xc)) := fun q => by
        have := below_drewN (Below.refl X1.heap.size X1) q
        rw [← hxc]
        exact cellOf (HK1.out.below this HK1.out.lt) 1 rfl
      clear hx hy HX HY e1 hgy hon hin hgn han hS hT hO hxl hxc hxa HK1
      go_upto_region 5 with fail
      rw [E1.out]
      clear E1 c1 c2 c3
      go_quiet ((go_at_call 74; exact Calls.quiet_of_same (CI.out _)))
      clear d0 d1
      have d0 := d0q.out nq
      have d1 := d1q.out nq
      go_wp2_with fail
      go_roundw
      case rel => exact ⟨k + 1, by omega, by go_num, _, _, rfl, rfl, HS2, HT2, HON, ⟨by omega, by omega, by omega, by omega⟩, HB1q.out _⟩
      case measure => simp [intOf]; omega
  · obtain rfl : k = n := by omega
    have hsg : sumI g = S := by rw [hS.out]; unfold gK; rw [List.take_of_length_le (by rw [HGL.out]; exact Nat.le_refl _)]
    have hsa : allC l = T := by rw [hT.out]; unfold aK allC; rw [List.take_of_length_le (by rw [List.length_map, HNN.out]; exact Nat.le_refl _)]
    have HRR : Hid (r = decide (S = min c0 T)) := by show _ = _; rw [← HR.out]; unfold allowB; rw [HNN.out, hO.out, hsg, hsa]; rfl
    clear hsg hsa hS hT hO
    have HZ : Hid (r = (S == min c0 T)) := by
      show _ = _
      rw [HRR.out]
      by_cases e : S = min c0 T
      · rw [decide_eq_true e, beq_iff_eq.2 e]
      · rw [decide_eq_false e, beq_eq_false_iff_ne.2 e]
    clear HRR
    go_wp2_with fail
    go_ret
    exact ⟨rb HZ.out, hB.out⟩
/-- Whether agent i could give a copy to agent j. -/
def evB (l : List OrdD) (g : List Int) (i j : Nat) : Bool := (decide (leastAt l i < g.getD i 0) && decide (g.getD j 0 < copAt l j)) && decide (g.getD j 0 * copAt l i < (g.getD i 0 - 1) * copAt l j)
def evenB (l : List OrdD) (g : List Int) : Bool := (List.range l.length).all fun i => (List.range l.length).all fun j => !evB l g i j
theorem evenB_no {l : List OrdD} {g : List Int} {i j : Nat} (hi : i < l.length) (hj : j < l.length) (h : evB l g i j = true) : evenB l g = false := by
  cases he : evenB l g with
  | false => rfl
  | true =>
    have h1 := List.all_eq_true.1 (List.all_eq_true.1 he i (List.mem_range.2 hi)) j (List.mem_range.2 hj)
    rw [h] at h1
    cases h1
theorem evenB_yes {l : List OrdD} {g : List Int} (h : ∀ i j, i < l.length → j < l.length → evB l g i j = false) : evenB l g = true := by
  refine List.all_eq_true.2 fun i hi => List.all_eq_true.2 fun j hj => ?_
  rw [h i j (List.mem_range.1 hi) (List.mem_range.1 hj)]
  rfl
end Go.Proofs.Ytlmpbmlbllndcaa
