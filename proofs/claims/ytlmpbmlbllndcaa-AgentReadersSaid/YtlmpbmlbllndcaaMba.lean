/-
  A set of complaints as a map whose values are all true.
  Orders: checkOrders, compareParts, the closure that compares parts, least of numbers.
-/
import Derived.Test.YtlmpbmlbllndcaaMaz
import Derived.Test.YtlmpbmlbllndcaaMav
namespace Go.Proofs.Ytlmpbmlbllndcaa
open Go.RowKit
open Go.ChangeMaps (setBlock)
open Go.MapKept (heap_set)

instance : DecidableEq CmpD := fun a b => if h : a.sub = b.sub ∧ a.day = b.day then isTrue (by cases a; cases b; obtain ⟨h1, h2⟩ := h; simp only at h1 h2; rw [h1, h2]) else isFalse (fun e => h (by rw [e]; exact ⟨rfl, rfl⟩))
def CmpD.val (x : CmpD) : Value := .agg #[.int .i64 x.sub, .int .i64 x.day]
def entsC (n : Nat) (l : List CmpD) : List MapEntry := (l.zipIdx n).map fun x => { key := x.1.val, val := .bool true, born := x.2 }
def CSet (w : World) (b : Nat) (l : List CmpD) : Prop := w.heap[b]? = some (.map (entsC 0 l).toArray l.length)
theorem entsC_cons (n : Nat) (x : CmpD) (l : List CmpD) : entsC n (x :: l) = { key := x.val, val := .bool true, born := n } :: entsC (n + 1) l := by
  simp [entsC, List.zipIdx_cons]
theorem entsC_snoc (l : List CmpD) (x : CmpD) : entsC 0 (l ++ [x]) = entsC 0 l ++ [{ key := x.val, val := .bool true, born := l.length }] := by
  simp [entsC, List.zipIdx_append]
def fndC (a : CmpD) : List CmpD → Nat → Option (Nat × Value)
  | [], _ => none
  | x :: l, i => if a = x then some (i, .bool true) else fndC a l (i + 1)
theorem fndC_none {a : CmpD} : ∀ {l : List CmpD} {i : Nat}, a ∉ l → fndC a l i = none
  | [], _, _ => rfl
  | x :: l, i, h => by
    unfold fndC
    rw [if_neg (fun e => h (by simp [e]))]
    exact fndC_none (fun e => h (by simp [e]))
theorem fndC_some {a : CmpD} : ∀ {l : List CmpD} {i : Nat}, a ∈ l → ∃ j, fndC a l i = some (j, .bool true)
  | [], _, h => by cases h
  | x :: l, i, h => by
    unfold fndC
    by_cases e : a = x
    · exact ⟨i, by rw [if_pos e]⟩
    · rw [if_neg e]
      exact fndC_some (by simpa [e] using h)
theorem fieldsCmp : Try.prog.underlying 91 = some (.struct (Try.prog.fieldsOf 91)) := by kernel_rfl
theorem heldCmp : Try.prog.stoodInHeld 91 = false := by kernel_rfl
theorem flCmp : (Try.prog.fieldsOf 91).toList.map (fun f => (f.name != "_", f.type, f.offset)) = [(true, 3, 0), (true, 3, 1)] := by kernel_rfl
theorem eqCmp (a b a' b' : Int) (w : World) : (Op.equalIn 10000 91 (.agg #[.int .i64 a, .int .i64 b]) (.agg #[.int .i64 a', .int .i64 b'])).run Try.prog w = .ok (a == a' && b == b') w := by
  rw [run_equalIn_agg w 9999 _ _ _ fieldsCmp heldCmp]
  have hl := flCmp
  generalize (Try.prog.fieldsOf 91).toList = fs at hl ⊢
  obtain ⟨f0, r0, rfl, h0, hl⟩ := List.map_eq_cons_iff.1 hl
  obtain ⟨f1, r1, rfl, h1, hl⟩ := List.map_eq_cons_iff.1 hl
  obtain rfl := List.map_eq_nil_iff.1 hl
  simp only [Prod.mk.injEq, bne_iff_ne, ne_eq] at h0 h1
  obtain ⟨n0, t0, o0⟩ := h0
  obtain ⟨n1, t1, o1⟩ := h1
  clear hl
  have hi : Try.prog.underlying 3 = some (.int .i64) := by kernel_rfl
  simp [Op.eqFields, n0, n1, t0, t1, o0, o1, go_sem]
  by_cases h1 : a = a' <;> by_cases h2 : b = b' <;> simp [h1, h2]
theorem eqCmpD (x y : CmpD) (w : World) : (Op.equal 91 x.val y.val).run Try.prog w = .ok (decide (x = y)) w := by
  refine (eqCmp x.sub x.day y.sub y.day w).trans ?_
  have e : (x.sub == y.sub && x.day == y.day) = decide (x = y) := by
    rw [Bool.eq_iff_iff, Bool.and_eq_true, beq_iff_eq, beq_iff_eq, decide_eq_true_eq]
    cases x; cases y
    simp
  rw [e]
theorem findAskC (a : CmpD) (w : World) : ∀ (l : List CmpD) (n i : Nat), (Instr.findAsking 91 a.val (entsC n l) i).run Try.prog w = .ok (fndC a l i) w
  | [], _, _ => by simp [entsC, Instr.findAsking, fndC]
  | x :: l, n, i => by
    rw [entsC_cons]
    unfold Instr.findAsking fndC
    simp only [Sem.run_bind, eqCmpD, Result.andThen_ok]
    by_cases e : a = x
    · rw [if_pos e, decide_eq_true e]; simp
    · rw [if_neg e, decide_eq_false e]
      simpa using findAskC a w l (n + 1) (i + 1)
theorem findKeyC (a : CmpD) (w : World) (l : List CmpD) : (Instr.findKey 91 a.val (entsC 0 l)).run Try.prog w = .ok (fndC a l 0) w := by
  unfold Instr.findKey
  simp only [Sem.run_bind, run_underlying fieldsCmp, Result.andThen_ok]
  cases l with
  | nil => simp [entsC, Instr.findNow, fndC]
  | cons x l =>
    have hn : Instr.findNow (.struct (Try.prog.fieldsOf 91)) a.val (entsC 0 (x :: l)) 0 = none := by
      rw [entsC_cons]
      simp [Instr.findNow, Instr.sameNow, CmpD.val]
    rw [hn]
    exact findAskC a w _ 0 0
theorem CSet.get {w : World} {p : Nat} {l : List CmpD} (hm : CSet w p l) (a : CmpD) : (Instr.lookup 227 (.map (some p)) (.agg #[.int .i64 a.sub, .int .i64 a.day]) false).run Try.prog w = .ok (.bool (decide (a ∈ l))) w := by
  unfold CSet at hm
  have hk := findKeyC a w l
  unfold CmpD.val at hk
  simp only [Instr.lookup, Sem.run_bind, run_underlying mapCmp, Result.andThen_ok]
  simp only [getObj, Sem.run, hm, Sem.run_bind, Result.andThen_ok, Sem.run_pure, cmp_check, Result.andThen]
  by_cases h : a ∈ l
  · obtain ⟨j, hf⟩ := fndC_some (i := 0) h
    rw [hk, hf]
    simp [h]
  · rw [hk, fndC_none h]
    simp [zeroBool, h]
theorem CSet.put {w : World} {p : Nat} {l : List CmpD} (hm : CSet w p l) (a : CmpD) (h : a ∉ l) : ∃ w1, (Instr.mapUpdate 227 (.map (some p)) (.agg #[.int .i64 a.sub, .int .i64 a.day]) (.bool true)).run Try.prog w = .ok () w1 ∧ (CSet w1 p (l ++ [a]) ∧ w.grownBy w1 (some p)) := by
  have hset := fun o' => heap_set (o' := o') (show w.heap[p]? = some (.map (entsC 0 l).toArray l.length) from hm)
  have hk := findKeyC a w l
  unfold CmpD.val at hk
  refine ⟨setBlock w p (.map (entsC 0 (l ++ [a])).toArray (l.length + 1)), ?_, ?_, ⟨rfl, rfl, rfl, by simp [setBlock], fun i _ hi => (hset _).2 i (fun e => hi (by rw [e]))⟩⟩
  · unfold CSet at hm
    simp only [Instr.mapUpdate, Sem.run_bind, run_underlying mapCmp, Result.andThen_ok]
    simp only [getObj, setObj, Sem.run, hm, Sem.run_bind, Result.andThen_ok, cmp_check, Result.andThen]
    rw [hk, fndC_none h]
    simp only [entsC_snoc]
    simp [Sem.run, hm, setBlock, CmpD.val]
  · have h1 := (hset (.map (entsC 0 (l ++ [a])).toArray (l.length + 1))).1
    unfold CSet
    rw [List.length_append]
    exact h1
theorem CSet.lt {w : World} {b : Nat} {l : List CmpD} (h : CSet w b l) : b < w.heap.size := (Array.getElem?_eq_some_iff.1 h).1
theorem CSet.below {w w' : World} {b B : Nat} {l : List CmpD} (h : CSet w b l) (hb : Below B w w') (hl : b < B) : CSet w' b l := (hb.block b hl).trans h
/-- The first error of complaints, behind some. -/
def fcE (l : List SubD) (a b : Int) : List CmpD → List CmpD → Int
  | _, [] => 0
  | met, x :: c => if dueB l a b x then (if x ∈ met then 10 else fcE l a b (met ++ [x]) c) else 4
def cmpsE (l : List SubD) (a b : Int) (c : List CmpD) : Int := if 500 < c.length then 2 else fcE l a b [] c
theorem fsE_nodup : ∀ {l : List SubD} {met : List Int}, fsE met l = 0 → (l.map SubD.id).Nodup ∧ ∀ o ∈ l, o.id ∉ met
  | [], _, _ => ⟨List.nodup_nil, fun o ho => by cases ho⟩
  | x :: l, met, h => by
    unfold fsE at h
    by_cases h1 : subB x = true
    · rw [if_pos h1] at h
      by_cases h2 : x.id ∈ met
      · rw [if_pos h2] at h; omega
      · rw [if_neg h2] at h
        obtain ⟨h3, h4⟩ := fsE_nodup h
        refine ⟨?_, fun o ho => ?_⟩
        · rw [List.map_cons, List.nodup_cons]
          refine ⟨fun hm => ?_, h3⟩
          obtain ⟨o, ho, he⟩ := List.mem_map.1 hm
          exact h4 o ho (addS_mem.2 (.inl he))
        · rcases List.mem_cons.1 ho with rfl | ho
          · exact h2
          · exact fun hm => h4 o ho (addS_mem.2 (.inr hm))
    · rw [if_neg h1] at h; omega
theorem subsE_nodup {l : List SubD} (h : subsE l = 0) : (l.map SubD.id).Nodup := by
  unfold subsE at h
  by_cases h1 : 500 < l.length
  · rw [if_pos h1] at h; omega
  · rw [if_neg h1] at h
    exact (fsE_nodup h).1
end Go.Proofs.Ytlmpbmlbllndcaa

namespace Go.Proofs.Ytlmpbmlbllndcaa
open Go.RowKit
attribute [local go_sem] Oper.semAt_some

/-- What is given first, over the first k orders. -/
def lstK (l : List OrdD) (k : Nat) : Int := sumI ((l.take k).map OrdD.least)
theorem lstK_next {l : List OrdD} {k : Nat} {x : OrdD} (h : l[k]? = some x) : lstK l (k + 1) = lstK l k + x.least := by
  unfold lstK
  rw [List.take_add_one, h, Option.toList_some, List.map_append, List.map_cons, List.map_nil, sumI_snoc]
theorem lstK_bd {l : List OrdD} (hl : l.length ≤ 40) (hd : ∀ o ∈ l, o.ok) (k : Nat) : 0 ≤ lstK l k ∧ lstK l k ≤ 400000 := by
  have h1 := sumI_bd (l := (l.take k).map OrdD.least) (B := 10000) fun x hx => by
    obtain ⟨o, ho, rfl⟩ := List.mem_map.1 hx
    obtain ⟨-, h2, h3⟩ := hd o (List.mem_of_mem_take ho)
    omega
  have h2 : ((l.take k).map OrdD.least).length ≤ 40 := by rw [List.length_map]; exact Nat.le_trans (List.length_take_le' _ _) hl
  unfold lstK
  omega
/-- The first error of orders, and of copies to be shared. -/
def ordE (l : List OrdD) (c : Int) : Int := if 40 < l.length then 2 else if foE [] l = 0 then (if c < 0 then 6 else if c - lstK l l.length < 0 then 4 else 0) else foE [] l
theorem ordE_ok {l : List OrdD} {c : Int} (h : ordE l c = 0) : l.length ≤ 40 ∧ (∀ o ∈ l, o.ok) ∧ lstK l l.length ≤ c := by
  unfold ordE at h
  by_cases h1 : 40 < l.length
  · rw [if_pos h1] at h; omega
  · rw [if_neg h1] at h
    by_cases h2 : foE [] l = 0
    · rw [if_pos h2] at h
      by_cases h3 : c < 0
      · rw [if_pos h3] at h; omega
      · rw [if_neg h3] at h
        by_cases h4 : c - lstK l l.length < 0
        · rw [if_pos h4] at h; omega
        · exact ⟨by omega, foE_ok h2, by omega⟩
    · rw [if_neg h2] at h; exact absurd h h2
set_option maxRecDepth 100000 in
set_option maxHeartbeats 4000000 in
theorem checkOrd_any (l : List OrdD) (c0 : Int) (hc0 : c0 ≤ 9223372036854775807) (v : Value) (w : World) (h : ROrds w.heap.size w v l) :
    Calls Try.prog 82 #[v, .int .i64 c0] w fun e w' => e = .returned (.int .i64 (ordE l c0)) ∧ Below w.heap.size w w' := by
  obtain ⟨A, c, rfl, hlm, HD⟩ := ords_later h
  have C1 := Lib.hid (firstOrd_any l _ w h)
  obtain ⟨n, hn⟩ : ∃ n, l.length = n := ⟨_, rfl⟩
  obtain ⟨fe, hfe⟩ : ∃ r, foE [] l = r := ⟨_, rfl⟩
  obtain ⟨r, hr⟩ : ∃ r, ordE l c0 = r := ⟨_, rfl⟩
  have HR : Hid (r = if 40 < n then 2 else if fe = 0 then (if c0 < 0 then 6 else if c0 - lstK l n < 0 then 4 else 0) else fe) := by show _ = _; rw [← hr, ← hn, ← hfe]; rfl
  rw [hn] at hlm C1
  rw [hfe] at C1
  rw [hn, hr]
  have HN := Lib.hid hn
  have HFE := Lib.hid hfe
  clear h hn hfe hr
  by_cases h4 : 40 < n
  · have HX : Hid ((2 : Int) = r) := by show _ = _; rw [HR.out, if_pos h4]
    go_enter Try.func82, Try.ntmps82
    go_wp2
    go_ret
    exact ⟨ri HX.out.symm, Below.refl _ _⟩
  have HR1 : Hid (r = if fe = 0 then (if c0 < 0 then 6 else if c0 - lstK l n < 0 then 4 else 0) else fe) := by show _ = _; rw [HR.out, if_neg h4]
  clear HR
  go_enter Try.func82, Try.ntmps82
  go_wp2_with fail
  refine C1.out.mono ?_
  rintro _ W1 ⟨rfl, hb1⟩
  have HB1 := Lib.hid hb1
  clear C1 hb1
  by_cases hf : fe = 0
  case neg =>
    have hfb : (fe != 0) = true := by simpa using hf
    have HX : Hid (fe = r) := by show _ = _; rw [HR1.out, if_neg hf]
    clear hf
    go_wp2_with fail
    go_ret
    exact ⟨ri HX.out.symm, HB1.out⟩
  have hfb : (fe != 0) = false := by simpa using hf
  have HR2 : Hid (r = (if c0 < 0 then 6 else if c0 - lstK l n < 0 then 4 else 0)) := by show _ = _; rw [HR1.out, if_pos hf]
  have HLB : Hid (∀ k, 0 ≤ lstK l k ∧ lstK l k ≤ 400000) := fun k => lstK_bd (by rw [HN.out]; omega) (foE_ok (HFE.out.trans hf)) k
  clear hf HR1
  by_cases hcn : c0 < 0
  · have HX : Hid ((6 : Int) = r) := by show _ = _; rw [HR2.out, if_pos hcn]
    go_wp2_with fail
    go_ret
    exact ⟨ri HX.out.symm, HB1.out⟩
  have HR3 : Hid (r = (if c0 - lstK l n < 0 then 4 else 0)) := by show _ = _; rw [HR2.out, if_neg hcn]
  clear HR2
  go_wp2_with fail
  go_loopw [1, 20] (fun q i wr => ∃ k : Nat, k ≤ n ∧ i = .int .i64 k ∧ ∃ t : Int, q = .int .i64 t ∧ Hid (t = c0 - lstK l k) ∧ Hid (Below w.heap.size w wr)) (fun _ i _ => n - (intOf i).toNat)
  case atStart => exact ⟨0, Nat.zero_le _, rfl, c0, rfl, by show _ = _; simp [lstK, sumI], HB1.out⟩
  case round =>
  clear HB1
  obtain ⟨k, hk, rfl, t, rfl, ht, hB⟩ := hrel
  obtain ⟨X, rfl⟩ : ∃ X : World, X = wr := ⟨_, rfl⟩
  have htb : -400000 ≤ t ∧ t ≤ 9223372036854775807 := by
    have h1 := HLB.out k
    have h2 := ht.out
    omega
  obtain ⟨t1, t2⟩ := htb
  by_cases hlt : k < n
  · obtain ⟨x, hx⟩ : ∃ x, l[k]? = some x := ⟨_, List.getElem?_eq_getElem (by rw [HN.out]; exact hlt)⟩
    obtain ⟨g, o, rfl, -, HX⟩ := HD.out k x hx
    obtain ⟨c0', c1, c2'⟩ := HX.out X hB.out
    have F1 : ∃ X1, X.alloc (.cells #[.int .i64 x.ag, .int .i64 x.cop, .int .i64 x.least] 33) = X1 ∧ Hid (Below X.heap.size X X1) ∧ Hid (Blk X1 X.heap.size 33 #[.int .i64 x.ag, .int .i64 x.cop, .int .i64 x.least]) := ⟨_, rfl, below_alloc _ _, Blk.new _ _ _⟩
    obtain ⟨X1, e1, HX1, HK1⟩ := F1
    have E1 := Lib.hid e1
    have HB1 : Hid (Below w.heap.size w X1) := hB.out.trans (HX1.out.mono hB.out.size)
    have d2 := cellOf HK1.out 2 (x := .int .i64 x.least) rfl
    have hnx := lstK_next hx
    have HNX : Hid (t - x.least = c0 - lstK l (k + 1)) := by show _ = _; rw [hnx, ht.out]; omega
    have u1 : -400000 ≤ t - x.least ∧ t - x.least ≤ 9223372036854775807 := by
      have h1 := HLB.out (k + 1)
      have h2 := HNX.out
      omega
    obtain ⟨u1, u2⟩ := u1
    have k0 : (0 : Int) ≤ (k : Int) := by omega
    have k1 : (k : Int) < (n : Int) := by omega
    clear hx e1 hnx hB HX ht
    go_upto_region 11 with fail
    rw [E1.out]
    clear E1 c0' c1 c2'
    go_wp2_with fail
    clear d2
    go_roundw
    case rel => exact ⟨k + 1, by omega, by go_num, _, rfl, HNX, HB1⟩
    case measure => simp [intOf]; omega
  · have HT : Hid (t = c0 - lstK l n) := by show _ = _; rw [ht.out, show k = n by omega]
    by_cases htn : t < 0
    · have HX : Hid ((4 : Int) = r) := by show _ = _; rw [HR3.out, ← HT.out, if_pos htn]
      clear ht
      go_wp2_with fail
      go_ret
      exact ⟨ri HX.out.symm, hB.out⟩
    · have HX : Hid ((0 : Int) = r) := by show _ = _; rw [HR3.out, ← HT.out, if_neg htn]
      clear ht
      go_wp2_with fail
      go_ret
      exact ⟨ri HX.out.symm, hB.out⟩
theorem parts_big (a b c d : Int) (h1 : 0 ≤ a * d ∧ a * d ≤ 10000000000000) (h2 : 0 ≤ c * b ∧ c * b ≤ 10000000000000) (w : World) : Calls Try.prog 120 #[.int .i64 a, .int .i64 b, .int .i64 c, .int .i64 d] w fun e w' => e = .returned (.int .i64 (cmpI (a * d) (c * b))) ∧ w' = w := by
  obtain ⟨p, hp⟩ : ∃ p, a * d = p := ⟨_, rfl⟩
  obtain ⟨q, hq⟩ : ∃ p, c * b = p := ⟨_, rfl⟩
  rw [hp] at h1
  rw [hq] at h2
  obtain ⟨p1, p2⟩ := h1
  obtain ⟨q1, q2⟩ := h2
  have C := Lib.hid (fun w => cmp_any p q w)
  go_enter Try.func120, Try.ntmps120
  go_wp2_with (go_at_call 142; with_reducible refine (C.out _).mono ?_; rintro e w' ⟨rfl, rfl⟩)
  go_ret
  exact ⟨ri (by rw [← hp, ← hq]), rfl⟩
theorem parts_any (a b c d : Int) (h1 : 0 ≤ a * d ∧ a * d ≤ 1000000000000) (h2 : 0 ≤ c * b ∧ c * b ≤ 1000000000000) (w : World) : Calls Try.prog 120 #[.int .i64 a, .int .i64 b, .int .i64 c, .int .i64 d] w fun e w' => e = .returned (.int .i64 (cmpI (a * d) (c * b))) ∧ w' = w := parts_big a b c d ⟨h1.1, by omega⟩ ⟨h2.1, by omega⟩ w
/-- The least so far of numbers, by a comparison. -/
def lstI (cf : Int → Int → Int) (l : List Int) (k : Nat) : Int := (leastTo (fun x y => decide (cf x y < 0)) none (l.take k)).getD 0
theorem lstI_first {cf : Int → Int → Int} {l : List Int} {x : Int} (h : l[0]? = some x) : lstI cf l 1 = x := by
  unfold lstI
  rw [show (1 : Nat) = 0 + 1 from rfl, List.take_add_one, h]
  rfl
theorem lstI_next {cf : Int → Int → Int} {l : List Int} {k : Nat} {x : Int} (h : l[k]? = some x) (hk : 0 < k) : lstI cf l (k + 1) = if decide (cf x (lstI cf l k) < 0) then x else lstI cf l k := by
  unfold lstI
  rw [List.take_add_one, h, Option.toList_some, leastTo_snoc]
  cases e : leastTo (fun x y => decide (cf x y < 0)) none (l.take k) with
  | none =>
    have := leastTo_none e
    have h1 : k < l.length := (List.getElem?_eq_some_iff.1 h).1
    have h2 : (l.take k).length = k := by rw [List.length_take]; omega
    rw [this] at h2
    simp at h2
    omega
  | some y => rfl
theorem lstI_mem {cf : Int → Int → Int} {l : List Int} {k : Nat} (hk : 0 < k) (hl : k ≤ l.length) : lstI cf l k ∈ l := by
  unfold lstI
  cases e : leastTo (fun x y => decide (cf x y < 0)) none (l.take k) with
  | none =>
    have := leastTo_none e
    have h2 : (l.take k).length = k := by rw [List.length_take]; omega
    rw [this] at h2
    simp at h2
    omega
  | some y => exact List.mem_of_mem_take (leastTo_mem e)
set_option maxRecDepth 100000 in
set_option maxHeartbeats 4000000 in
theorem leastI_any (cf : Int → Int → Int) (caps : Array Value) (l : List Int) (v : Value) (w : World) (h : RInts w.heap.size w v l)
    (hcf : ∀ W, Below w.heap.size w W → ∀ a ∈ l, ∀ b ∈ l, Calls Try.prog 129 (#[.int .i64 a, .int .i64 b] ++ caps) W fun e w' => e = .returned (.int .i64 (cf a b)) ∧ Below W.heap.size W w') :
    Calls Try.prog 130 #[v, .func (.func 129) #[] caps] w fun e w' => e = .returned (.tuple #[.int .i64 (lstI cf l l.length), .bool (decide (0 < l.length))]) ∧ Below w.heap.size w w' := by
  obtain ⟨A, c, rfl, hlm, HI⟩ := ints_later h
  obtain ⟨n, hn⟩ : ∃ n, l.length = n := ⟨_, rfl⟩
  have HCF := Lib.hid hcf
  rw [hn] at hlm
  rw [hn]
  have HN := Lib.hid hn
  clear h hn hcf
  go_enter Try.func130, Try.ntmps130
  go_wp2_with fail
  go_loopw [6, 11] (fun q i wr => ∃ k : Nat, k ≤ n ∧ i = .int .i64 k ∧ ∃ b : Int, q = .int .i64 b ∧ Hid (b = lstI cf l k) ∧ Hid (Below w.heap.size w wr)) (fun _ i _ => n - (intOf i).toNat)
  case atStart => exact ⟨0, Nat.zero_le _, rfl, 0, rfl, rfl, Below.refl _ _⟩
  case round =>
  obtain ⟨k, hk, rfl, b, rfl, hb, hB⟩ := hrel
  obtain ⟨X, rfl⟩ : ∃ X : World, X = wr := ⟨_, rfl⟩
  by_cases hlt : k < n
  · obtain ⟨x, hx⟩ : ∃ x, l[k]? = some x := ⟨_, List.getElem?_eq_getElem (by rw [HN.out]; exact hlt)⟩
    obtain ⟨g, o, rfl, HX⟩ := HI.out k x hx
    have c0 := HX.out X hB.out
    have k0 : (0 : Int) ≤ (k : Int) := by omega
    have k1 : (k : Int) < (n : Int) := by omega
    by_cases hk0 : k = 0
    · have hkz : ((k : Int) == 0) = true := by simp [hk0]
      have HF : Hid (x = lstI cf l (k + 1)) := by
        show _ = _
        rw [hk0]
        exact (lstI_first (by rw [← hk0]; exact hx)).symm
      clear hx HX hk0
      go_wp2_with fail
      go_roundw
      case rel => exact ⟨k + 1, by omega, by go_num, _, rfl, HF, hB⟩
      case measure => simp [intOf]; omega
    · have hkz : ((k : Int) == 0) = false := by simp; omega
      have hbm : b ∈ l := by rw [hb.out]; exact lstI_mem (by omega) (by rw [HN.out]; exact hk)
      have CC := Lib.hid (HCF.out X hB.out x (List.mem_of_getElem? hx) b hbm)
      obtain ⟨cc, hcc⟩ : ∃ cc, cf x b = cc := ⟨_, rfl⟩
      rw [hcc] at CC
      have HNX : Hid (lstI cf l (k + 1) = if decide (cc < 0) then x else b) := by show _ = _; rw [lstI_next hx (by omega), ← hb.out, hcc]
      clear hx HX hk0 hbm hcc hb
      go_wp2_with fail
      refine CC.out.mono ?_
      rintro _ Y ⟨rfl, hb2⟩
      have HBY : Hid (Below w.heap.size w Y) := hB.out.trans (hb2.mono hB.out.size)
      clear CC hb2 c0
      by_cases hc : cc < 0
      · have HF : Hid (x = lstI cf l (k + 1)) := by show _ = _; rw [HNX.out, decide_eq_true hc]; rfl
        go_wp2_with fail
        go_roundw
        case rel => exact ⟨k + 1, by omega, by go_num, _, rfl, HF, HBY⟩
        case measure => simp [intOf]; omega
      · have HF : Hid (b = lstI cf l (k + 1)) := by show _ = _; rw [HNX.out, decide_eq_false hc]; rfl
        go_wp2_with fail
        go_roundw
        case rel => exact ⟨k + 1, by omega, by go_num, _, rfl, HF, HBY⟩
        case measure => simp [intOf]; omega
  · have HF : Hid (b = lstI cf l n) := by show _ = _; rw [hb.out, show k = n by omega]
    have HZ : Hid (decide ((0 : Int) < (n : Int)) = decide (0 < n)) := by show _ = _; simp
    clear hb
    go_wp2_with fail
    go_ret2
    refine ⟨?_, hB.out⟩
    rw [← HF.out, ← HZ.out]
    rfl
end Go.Proofs.Ytlmpbmlbllndcaa
