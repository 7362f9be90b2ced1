/-
  Orders: checkOrders, compareParts, the closure that compares parts, least of numbers.
-/
import Derived.Test.YtlmpbmlbllndcaaMbb
namespace Go.Proofs.Ytlmpbmlbllndcaa
open Go.RowKit
attribute [local go_sem] Oper.semAt_some

/-- What is given first, over the first k orders. -/
def lstK (l : List OrdD) (k : Nat) : Int := sumI ((l.take k).map OrdD.least)
theorem lstK_next {l : List OrdD} {k : Nat} {x : OrdD} (h : l[k]? = some x) : lstK l (k + 1) = lstK l k + x.least := by
  unfold lstK
  rw [List.take_add_one, h, Option.toList_some, List.map_append, List.map_cons, List.map_nil, sumI_snoc]
theorem lstK_bd {l : List OrdD} (hl : l.length ≤ 40) (hd : ∀ o ∈ l, o.ok) (k : Nat) : 0 ≤ lstK l k ∧ lstK l k ≤ 400000 := by
  have h1 := sumI_bd (l := (l.take k).map OrdD.least) (B := 10000) fun x hx => by
    obtain ⟨o, ho, rfl⟩ := List.mem_map.1 hx
    obtain ⟨-, h2, h3⟩ := hd o (List.mem_of_mem_take ho)
    omega
  have h2 : ((l.take k).map OrdD.least).length ≤ 40 := by rw [List.length_map]; exact Nat.le_trans (List.length_take_le' _ _) hl
  unfold lstK
  omega
/-- The first error of orders, and of copies to be shared. -/
def ordE (l : List OrdD) (c : Int) : Int := if 40 < l.length then 2 else if foE [] l = 0 then (if c < 0 then 6 else if c - lstK l l.length < 0 then 4 else 0) else foE [] l
theorem ordE_ok {l : List OrdD} {c : Int} (h : ordE l c = 0) : l.length ≤ 40 ∧ (∀ o ∈ l, o.ok) ∧ lstK l l.length ≤ c := by
  unfold ordE at h
  by_cases h1 : 40 < l.length
  · rw [if_pos h1] at h; omega
  · rw [if_neg h1] at h
    by_cases h2 : foE [] l = 0
    · rw [if_pos h2] at h
      by_cases h3 : c < 0
      · rw [if_pos h3] at h; omega
      · rw [if_neg h3] at h
        by_cases h4 : c - lstK l l.length < 0
        · rw [if_pos h4] at h; omega
        · exact ⟨by omega, foE_ok h2, by omega⟩
    · rw [if_neg h2] at h; exact absurd h h2
set_option maxRecDepth 100000 in
set_option maxHeartbeats 4000000 in
theorem checkOrd_any (l : List OrdD) (c0 : Int) (hc0 : c0 ≤ 9223372036854775807) (v : Value) (w : World) (h : ROrds w.heap.size w v l) :
    Calls Try.prog 82 #[v, .int .i64 c0] w fun e w' => e = .returned (.int .i64 (ordE l c0)) ∧ Below w.heap.size w w' := by
  obtain ⟨A, c, rfl, hlm, HD⟩ := ords_later h
  have C1 := Lib.hid (firstOrd_any l _ w h)
  obtain ⟨n, hn⟩ : ∃ n, l.length = n := ⟨_, rfl⟩
  obtain ⟨fe, hfe⟩ : ∃ r, foE [] l = r := ⟨_, rfl⟩
  obtain ⟨r, hr⟩ : ∃ r, ordE l c0 = r := ⟨_, rfl⟩
  have HR : Hid (r = if 40 < n then 2 else if fe = 0 then (if c0 < 0 then 6 else if c0 - lstK l n < 0 then 4 else 0) else fe) := by show _ = _; rw [← hr, ← hn, ← hfe]; rfl
  rw [hn] at hlm C1
  rw [hfe] at C1
  rw [hn, hr]
  have HN := Lib.hid hn
  have HFE := Lib.hid hfe
  clear h hn hfe hr
  by_cases h4 : 40 < n
  · have HX : Hid ((2 : Int) = r) := by show _ = _; rw [HR.out, if_pos h4]
    go_enter Try.func82, Try.ntmps82
    go_wp2
    go_ret
    exact ⟨ri HX.out.symm, Below.refl _ _⟩
  have HR1 : Hid (r = if fe = 0 then (if c0 < 0 then 6 else if c0 - lstK l n < 0 then 4 else 0) else fe) := by show _ = _; rw [HR.out, if_neg h4]
  clear HR
  go_enter Try.func82, Try.ntmps82
  go_wp2_with fail
  refine C1.out.mono ?_
  rintro _ W1 ⟨rfl, hb1⟩
  have HB1 := Lib.hid hb1
  clear C1 hb1
  by_cases hf : fe = 0
  case neg =>
    have hfb : (fe != 0) = true := by simpa using hf
    have HX : Hid (fe = r) := by show _ = _; rw [HR1.out, if_neg hf]
    clear hf
    go_wp2_with fail
    go_ret
    exact ⟨ri HX.out.symm, HB1.out⟩
  have hfb : (fe != 0) = false := by simpa using hf
  have HR2 : Hid (r = (if c0 < 0 then 6 else if c0 - lstK l n < 0 then 4 else 0)) := by show _ = _; rw [HR1.out, if_pos hf]
  have HLB : Hid (∀ k, 0 ≤ lstK l k ∧ lstK l k ≤ 400000) := fun k => lstK_bd (by rw [HN.out]; omega) (foE_ok (HFE.out.trans hf)) k
  clear hf HR1
  by_cases hcn : c0 < 0
  · have HX : Hid ((6 : Int) = r) := by show _ = _; rw [HR2.out, if_pos hcn]
    go_wp2_with fail
    go_ret
    exact ⟨ri HX.out.symm, HB1.out⟩
  have HR3 : Hid (r = (if c0 - lstK l n < 0 then 4 else 0)) := by show _ = _; rw [HR2.out, if_neg hcn]
  clear HR2
  go_wp2_with fail
  go_loopw [1, 20] (fun q i wr => ∃ k : Nat, k ≤ n ∧ i = .int .i64 k ∧ ∃ t : Int, q = .int .i64 t ∧ Hid (t = c0 - lstK l k) ∧ Hid (Below w.heap.size w wr)) (fun _ i _ => n - (intOf i).toNat)
  case atStart => exact ⟨0, Nat.zero_le _, rfl, c0, rfl, by show _ = _; simp [lstK, sumI], HB1.out⟩
  case round =>
  clear HB1
  obtain ⟨k, hk, rfl, t, rfl, ht, hB⟩ := hrel
  obtain ⟨X, rfl⟩ : ∃ X : World, X = wr := ⟨_, rfl⟩
  have htb : -400000 ≤ t ∧ t ≤ 9223372036854775807 := by
    have h1 := HLB.out k
    have h2 := ht.out
    omega
  obtain ⟨t1, t2⟩ := htb
  by_cases hlt : k < n
  · obtain ⟨x, hx⟩ : ∃ x, l[k]? = some x := ⟨_, List.getElem?_eq_getElem (by rw [HN.out]; exact hlt)⟩
    obtain ⟨g, o, rfl, -, HX⟩ := HD.out k x hx
    obtain ⟨c0', c1, c2'⟩ := HX.out X hB.out
    have F1 : ∃ X1, X.alloc (.cells #[.int .i64 x.ag, .int .i64 x.cop, .int .i64 x.least] 33) = X1 ∧ Hid (Below X.heap.size X X1) ∧ Hid (Blk X1 X.heap.size 33 #[.int .i64 x.ag, .int .i64 x.cop, .int .i64 x.least]) := ⟨_, rfl, below_alloc _ _, Blk.new _ _ _⟩
    obtain ⟨X1, e1, HX1, HK1⟩ := F1
    have E1 := Lib.hid e1
    have HB1 : Hid (Below w.heap.size w X1) := hB.out.trans (HX1.out.mono hB.out.size)
    have d2 := cellOf HK1.out 2 (x := .int .i64 x.least) rfl
    have hnx := lstK_next hx
    have HNX : Hid (t - x.least = c0 - lstK l (k + 1)) := by show _ = _; rw [hnx, ht.out]; omega
    have u1 : -400000 ≤ t - x.least ∧ t - x.least ≤ 9223372036854775807 := by
      have h1 := HLB.out (k + 1)
      have h2 := HNX.out
      omega
    obtain ⟨u1, u2⟩ := u1
    have k0 : (0 : Int) ≤ (k : Int) := by omega
    have k1 : (k : Int) < (n : Int) := by omega
    clear hx e1 hnx hB HX ht
    go_upto_region 11 with fail
    rw [E1.out]
    clear E1 c0' c1 c2'
    go_wp2_with fail
    clear d2
    go_roundw
    case rel => exact ⟨k + 1, by omega, by go_num, _, rfl, HNX, HB1⟩
    case measure => simp [intOf]; omega
  · have HT : Hid (t = c0 - lstK l n) := by show _ = _; rw [ht.out, show k = n by omega]
    by_cases htn : t < 0
    · have HX : Hid ((4 : Int) = r) := by show _ = _; rw [HR3.out, ← HT.out, if_pos htn]
      clear ht
      go_wp2_with fail
      go_ret
      exact ⟨ri HX.out.symm, hB.out⟩
    · have HX : Hid ((0 : Int) = r) := by show _ = _; rw [HR3.out, ← HT.out, if_neg htn]
      clear ht
      go_wp2_with fail
      go_ret
      exact ⟨ri HX.out.symm, hB.out⟩
theorem parts_big (a b c d : Int) (h1 : 0 ≤ a * d ∧ a * d ≤ 10000000000000) (h2 : 0 ≤ c * b ∧ c * b ≤ 10000000000000) (w : World) : Calls Try.prog 120 #[.int .i64 a, .int .i64 b, .int .i64 c, .int .i64 d] w fun e w' => e = .returned (.int .i64 (cmpI (a * d) (c * b))) ∧ w' = w := by
  obtain ⟨p, hp⟩ : ∃ p, a * d = p := ⟨_, rfl⟩
  obtain ⟨q, hq⟩ : ∃ p, c * b = p := ⟨_, rfl⟩
  rw [hp] at h1
  rw [hq] at h2
  obtain ⟨p1, p2⟩ := h1
  obtain ⟨q1, q2⟩ := h2
  have C := Lib.hid (fun w => cmp_any p q w)
  go_enter Try.func120, Try.ntmps120
  go_wp2_with (go_at_call 142; with_reducible refine (C.out _).mono ?_; rintro e w' ⟨rfl, rfl⟩)
  go_ret
  exact ⟨ri (by rw [← hp, ← hq]), rfl⟩
theorem parts_any (a b c d : Int) (h1 : 0 ≤ a * d ∧ a * d ≤ 1000000000000) (h2 : 0 ≤ c * b ∧ c * b ≤ 1000000000000) (w : World) : Calls Try.prog 120 #[.int .i64 a, .int .i64 b, .int .i64 c, .int .i64 d] w fun e w' => e = .returned (.int .i64 (cmpI (a * d) (c * b))) ∧ w' = w := parts_big a b c d ⟨h1.1, by omega⟩ ⟨h2.1, by omega⟩ w
/-- The least so far of numbers, by a comparison. -/
def lstI (cf : Int → Int → Int) (l : List Int) (k : Nat) : Int := (leastTo (fun x y => decide (cf x y < 0)) none (l.take k)).getD 0
theorem lstI_first {cf : Int → Int → Int} {l : List Int} {x : Int} (h : l[0]? = some x) : lstI cf l 1 = x := by
  unfold lstI
  rw [show (1 : Nat) = 0 + 1 from rfl, List.take_add_one, h]
  rfl
theorem lstI_next {cf : Int → Int → Int} {l : List Int} {k : Nat} {x : Int} (h : l[k]? = some x) (hk : 0 < k) : lstI cf l (k + 1) = if decide (cf x (lstI cf l k) < 0) then x else lstI cf l k := by
  unfold lstI
  rw [List.take_add_one, h, Option.toList_some, leastTo_snoc]
  cases e : leastTo (fun x y => decide (cf x y < 0)) none (l.take k) with
  | none =>
    have := leastTo_none e
    have h1 : k < l.length := (List.getElem?_eq_some_iff.1 h).1
    have h2 : (l.take k).length = k := by rw [List.length_take]; omega
    rw [this] at h2
    simp at h2
    omega
  | some y => rfl
theorem lstI_mem {cf : Int → Int → Int} {l : List Int} {k : Nat} (hk : 0 < k) (hl : k ≤ l.length) : lstI cf l k ∈ l := by
  unfold lstI
  cases e : leastTo (fun x y => decide (cf x y < 0)) none (l.take k) with
  | none =>
    have := leastTo_none e
    have h2 : (l.take k).length = k := by rw [List.length_take]; omega
    rw [this] at h2
    simp at h2
    omega
  | some y => exact List.mem_of_mem_take (leastTo_mem e)
set_option maxRecDepth 100000 in
set_option maxHeartbeats 4000000 in
theorem leastI_any (cf : Int → Int → Int) (caps : Array Value) (l : List Int) (v : Value) (w : World) (h : RInts w.heap.size w v l)
    (hcf : ∀ W, Below w.heap.size w W → ∀ a ∈ l, ∀ b ∈ l, Calls Try.prog 129 (#[.int .i64 a, .int .i64 b] ++ caps) W fun e w' => e = .returned (.int .i64 (cf a b)) ∧ Below W.heap.size W w') :
    Calls Try.prog 130 #[v, .func (.func 129) #[] caps] w fun e w' => e = .returned (.tuple #[.int .i64 (lstI cf l l.length), .bool (decide (0 < l.length))]) ∧ Below w.heap.size w w' := by
  obtain ⟨A, c, rfl, hlm, HI⟩ := ints_later h
  obtain ⟨n, hn⟩ : ∃ n, l.length = n := ⟨_, rfl⟩
  have HCF := Lib.hid hcf
  rw [hn] at hlm
  rw [hn]
  have HN := Lib.hid hn
  clear h hn hcf
  go_enter Try.func130, Try.ntmps130
  go_wp2_with fail
  go_loopw [6, 11] (fun q i wr => ∃ k : Nat, k ≤ n ∧ i = .int .i64 k ∧ ∃ b : Int, q = .int .i64 b ∧ Hid (b = lstI cf l k) ∧ Hid (Below w.heap.size w wr)) (fun _ i _ => n - (intOf i).toNat)
  case atStart => exact ⟨0, Nat.zero_le _, rfl, 0, rfl, rfl, Below.refl _ _⟩
  case round =>
  obtain ⟨k, hk, rfl, b, rfl, hb, hB⟩ := hrel
  obtain ⟨X, rfl⟩ : ∃ X : World, X = wr := ⟨_, rfl⟩
  by_cases hlt : k < n
  · obtain ⟨x, hx⟩ : ∃ x, l[k]? = some x := ⟨_, List.getElem?_eq_getElem (by rw [HN.out]; exact hlt)⟩
    obtain ⟨g, o, rfl, HX⟩ := HI.out k x hx
    have c0 := HX.out X hB.out
    have k0 : (0 : Int) ≤ (k : Int) := by omega
    have k1 : (k : Int) < (n : Int) := by omega
    by_cases hk0 : k = 0
    · have hkz : ((k : Int) == 0) = true := by simp [hk0]
      have HF : Hid (x = lstI cf l (k + 1)) := by
        show _ = _
        rw [hk0]
        exact (lstI_first (by rw [← hk0]; exact hx)).symm
      clear hx HX hk0
      go_wp2_with fail
      go_roundw
      case rel => exact ⟨k + 1, by omega, by go_num, _, rfl, HF, hB⟩
      case measure => simp [intOf]; omega
    · have hkz : ((k : Int) == 0) = false := by simp; omega
      have hbm : b ∈ l := by rw [hb.out]; exact lstI_mem (by omega) (by rw [HN.out]; exact hk)
      have CC := Lib.hid (HCF.out X hB.out x (List.mem_of_getElem? hx) b hbm)
      obtain ⟨cc, hcc⟩ : ∃ cc, cf x b = cc := ⟨_, rfl⟩
      rw [hcc] at CC
      have HNX : Hid (lstI cf l (k + 1) = if decide (cc < 0) then x else b) := by show _ = _; rw [lstI_next hx (by omega), ← hb.out, hcc]
      clear hx HX hk0 hbm hcc hb
      go_wp2_with fail
      refine CC.out.mono ?_
      rintro _ Y ⟨rfl, hb2⟩
      have HBY : Hid (Below w.heap.size w Y) := hB.out.trans (hb2.mono hB.out.size)
      clear CC hb2 c0
      by_cases hc : cc < 0
      · have HF : Hid (x = lstI cf l (k + 1)) := by show _ = _; rw [HNX.out, decide_eq_true hc]; rfl
        go_wp2_with fail
        go_roundw
        case rel => exact ⟨k + 1, by omega, by go_num, _, rfl, HF, HBY⟩
        case measure => simp [intOf]; omega
      · have HF : Hid (b = lstI cf l (k + 1)) := by show _ = _; rw [HNX.out, decide_eq_false hc]; rfl
        go_wp2_with fail
        go_roundw
        case rel => exact ⟨k + 1, by omega, by go_num, _, rfl, HF, HBY⟩
        case measure => simp [intOf]; omega
  · have HF : Hid (b = lstI cf l n) := by show _ = _; rw [hb.out, show k = n by omega]
    have HZ : Hid (decide ((0 : Int) < (n : Int)) = decide (0 < n)) := by show _ = _; simp
    clear hb
    go_wp2_with fail
    go_ret2
    refine ⟨?_, hB.out⟩
    rw [← HF.out, ← HZ.out]
    rfl
end Go.Proofs.Ytlmpbmlbllndcaa
