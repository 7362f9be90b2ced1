/-
  Round.
  Plain for AgentRounds: the generator's subscribers; the copies of rounds.
-/
import Derived.Maps.AppendAt
import Derived.Test.YtlmpbmlbllndcaaMaw
namespace Go.Proofs.Ytlmpbmlbllndcaa
open Go.RowKit
attribute [local go_sem] Oper.semAt_some

/-- The numbers of the first k subscribers that get a copy on a day. -/
def rdK (l : List SubD) (d : Int) (k : Nat) : List Int := ((l.take k).filter fun s => s.getB d).map SubD.id
theorem rdK_next {l : List SubD} {d : Int} {k : Nat} {x : SubD} (h : l[k]? = some x) : rdK l d (k + 1) = if x.getB d then rdK l d k ++ [x.id] else rdK l d k := by
  unfold rdK
  rw [List.take_add_one, h, Option.toList_some, List.filter_append, List.map_append]
  by_cases e : x.getB d = true
  · rw [if_pos e, List.filter_cons_of_pos (by simpa using e)]; rfl
  · rw [if_neg e, List.filter_cons_of_neg (by simpa using e)]; simp
theorem rdK_len (l : List SubD) (d : Int) (k : Nat) : (rdK l d k).length ≤ k := by
  unfold rdK
  rw [List.length_map]
  exact Nat.le_trans (List.length_filter_le _ _) (List.length_take_le _ _)
theorem fsE_ok : ∀ {l : List SubD} {met : List Int}, fsE met l = 0 → ∀ o ∈ l, subB o = true
  | [], _, _, o, ho => by cases ho
  | x :: l, met, h, o, ho => by
    unfold fsE at h
    by_cases h1 : subB x = true
    · rw [if_pos h1] at h
      by_cases h2 : x.id ∈ met
      · rw [if_pos h2] at h; omega
      · rw [if_neg h2] at h
        rcases List.mem_cons.1 ho with rfl | ho
        · exact h1
        · exact fsE_ok h o ho
    · rw [if_neg h1] at h; omega
theorem subsE_ok {l : List SubD} (h : subsE l = 0) : l.length ≤ 500 ∧ ∀ o ∈ l, subB o = true := by
  unfold subsE at h
  by_cases h1 : 500 < l.length
  · rw [if_pos h1] at h; omega
  · rw [if_neg h1] at h
    exact ⟨by omega, fsE_ok h⟩
def rdE (l : List SubD) (d : Int) : Int := if subsE l = 0 then (if dayB d d then 0 else 6) else subsE l
def RdRet (l : List SubD) (d : Int) (w : World) (e : Ending) (w' : World) : Prop :=
  ∃ v, e = .returned (.tuple #[v, .int .i64 (rdE l d)]) ∧ OInts w.heap.size w' v (if rdE l d = 0 then rdK l d l.length else []) ∧ Below w.heap.size w w'
set_option maxRecDepth 100000 in
set_option maxHeartbeats 4000000 in
theorem Round_any (l : List SubD) (d : Int) (v : Value) (w : World) (h : RSubs w.heap.size w v l) :
    Calls Try.prog 33 #[v, .int .i64 d] w (RdRet l d w) := by
  have C1 := Lib.hid (checkSubs_any l v w h)
  have HR := Lib.hid h
  obtain ⟨A, c, rfl, hlm, -⟩ := subs_later h
  obtain ⟨n, hn⟩ : ∃ n, l.length = n := ⟨_, rfl⟩
  obtain ⟨e, he⟩ : ∃ e, subsE l = e := ⟨_, rfl⟩
  obtain ⟨db, hdb⟩ : ∃ b, dayB d d = b := ⟨_, rfl⟩
  have HRE : Hid (rdE l d = if e = 0 then (if db then 0 else 6) else e) := by show _ = _; unfold rdE; rw [he, hdb]
  have CD := Lib.hid (fun w => areDays_any d d w)
  rw [hdb] at CD
  rw [he] at C1
  rw [hn] at C1 hlm HR ⊢
  have HN := Lib.hid hn
  have HE := Lib.hid he
  have HDB := Lib.hid hdb
  obtain ⟨i0, hi0, hz0, hz1, hz2⟩ := info_parts infoInt0
  clear h hn he hdb
  by_cases h0 : e = 0
  case neg =>
    have hrb : (e != 0) = true := by simpa using h0
    have HX : Hid (rdE l d = e) := by show _ = _; rw [HRE.out, if_neg h0]
    have HF : Hid (∀ W, Below w.heap.size w W → RdRet l d w (.returned (.tuple #[.slice none 0 0, .int .i64 e])) W) := fun W hW => ⟨_, by rw [HX.out], by rw [HX.out, if_neg h0]; exact World.ownsRow_nil _ _ _ _, hW⟩
    clear h0
    go_enter Try.func33, Try.ntmps33
    go_wp2_with fail
    refine C1.out.mono ?_
    rintro _ W1 ⟨rfl, hb1⟩
    go_wp2_with fail
    go_ret2
    exact HF.out W1 hb1
  subst h0
  have hrb : ((0 : Int) != 0) = false := rfl
  cases db with
  | false =>
    have HX : Hid (rdE l d = 6) := by show _ = _; rw [HRE.out]; rfl
    have HF : Hid (∀ W, Below w.heap.size w W → RdRet l d w (.returned (.tuple #[.slice none 0 0, .int .i64 6])) W) := fun W hW => ⟨_, by rw [HX.out], by rw [HX.out, if_neg (by omega)]; exact World.ownsRow_nil _ _ _ _, hW⟩
    go_enter Try.func33, Try.ntmps33
    go_wp2_with fail
    refine C1.out.mono ?_
    rintro _ W1 ⟨rfl, hb1⟩
    have HB1 := Lib.hid hb1
    clear hb1 C1
    go_wp2_with fail
    refine (CD.out _).mono ?_
    rintro _ _ ⟨rfl, rfl⟩
    go_wp2_with fail
    go_ret2
    exact HF.out W1 HB1.out
  | true =>
  have HX : Hid (rdE l d = 0) := by show _ = _; rw [HRE.out]; rfl
  obtain ⟨hl5, hok⟩ := subsE_ok HE.out
  rw [HN.out] at hl5
  have HOK := Lib.hid hok
  have HDY : Hid (0 ≤ d ∧ d ≤ 20000) := by have := dayB_iff.1 HDB.out; exact ⟨by omega, by omega⟩
  clear hok
  go_enter Try.func33, Try.ntmps33
  go_wp2_with fail
  refine C1.out.mono ?_
  rintro _ W1 ⟨rfl, hb1⟩
  have HB1 := Lib.hid hb1
  have HR1 : Hid (RSubs W1.heap.size W1 (.slice A n c) l) := (HR.out.below hb1).more hb1.size
  clear hb1 C1
  go_wp2_with fail
  refine (CD.out _).mono ?_
  rintro _ _ ⟨rfl, rfl⟩
  obtain ⟨A', c', hsl, -, HD⟩ := subs_later HR1.out
  injection hsl with e1 e2 e3
  subst e1 e3
  have HO0 : Hid (W1.ownsRow W1.heap.size 3 1 (.slice none 0 0) (rdK l d 0).length ((rdK l d 0).map (Value.int .i64))) := World.ownsRow_nil _ _ _ _
  clear e2 CD
  go_wp2_with fail
  go_loopw [7, 21] (fun q i wr => ∃ k : Nat, k ≤ n ∧ i = .int .i64 k ∧ Hid (wr.ownsRow W1.heap.size 3 1 q (rdK l d k).length ((rdK l d k).map (Value.int .i64))) ∧ Hid (Below W1.heap.size W1 wr)) (fun _ i _ => n - (intOf i).toNat)
  case atStart => exact ⟨0, Nat.zero_le _, rfl, HO0, Below.refl _ _⟩
  case round =>
  clear HO0
  obtain ⟨k, hk, rfl, hO, hB⟩ := hrel
  obtain ⟨X, rfl⟩ : ∃ X : World, X = wr := ⟨_, rfl⟩
  obtain ⟨Av, cv, rfl⟩ := ownsRow_form hO.out
  have hlk := rdK_len l d k
  obtain ⟨m, hm⟩ : ∃ m, (rdK l d k).length = m := ⟨_, rfl⟩
  rw [hm] at hO hlk ⊢
  have HM := Lib.hid hm
  clear hm
  by_cases hlt : k < n
  · obtain ⟨x, hx⟩ : ∃ x, l[k]? = some x := ⟨_, List.getElem?_eq_getElem (by rw [HN.out]; exact hlt)⟩
    obtain ⟨g, o, u, rfl, HXX⟩ := HD.out k x hx
    obtain ⟨Au, nu, cu, rfl⟩ : ∃ Au nu cu, u = .slice Au nu cu := by
      obtain ⟨-, u', hu', hsp⟩ := HXX.out X hB.out
      obtain ⟨Au, cu, e, -⟩ := spans_later hsp
      have e9 : u = u' := by simpa using hu'
      exact ⟨Au, _, cu, e9.trans e⟩
    obtain ⟨⟨c0, c1, c2', c3', c4'⟩, -⟩ := HXX.out X hB.out
    have F1 : ∃ X1, X.alloc (.cells #[.int .i64 x.id, .int .i64 x.from_, .int .i64 x.to_, .int .i64 x.days, .slice Au nu cu] 42) = X1 ∧ Hid (Below X.heap.size X X1) ∧ Hid (Blk X1 X.heap.size 42 #[.int .i64 x.id, .int .i64 x.from_, .int .i64 x.to_, .int .i64 x.days, .slice Au nu cu]) := ⟨_, rfl, below_alloc _ _, Blk.new _ _ _⟩
    obtain ⟨X1, e1, HX1, HK1⟩ := F1
    have E1 := Lib.hid e1
    have HB1X : Hid (Below W1.heap.size W1 X1) := hB.out.trans (HX1.out.mono hB.out.size)
    have CG := Lib.hid (gets_any x (subB_ok (HOK.out x (List.mem_of_getElem? hx))) d HDY.out _ X1 (HXX.out X1 HB1X.out).2)
    obtain ⟨gb, hgb⟩ : ∃ b, x.getB d = b := ⟨_, rfl⟩
    rw [hgb] at CG
    have hnx := rdK_next (d := d) hx
    rw [hgb] at hnx
    have HNX := Lib.hid hnx
    have HO1 : Hid (X1.ownsRow W1.heap.size 3 1 (.slice Av m cv) m ((rdK l d k).map (Value.int .i64))) := ownsRow_keptBut hO.out (KeptBut.of_below (S := fun _ => False) HX1.out) fun _ _ _ _ e => e.elim
    obtain ⟨q, hq⟩ : ∃ q, X.heap.size = q := ⟨_, rfl⟩
    rw [hq] at HK1
    have HQ := Lib.hid hq
    have d0 := cellOf HK1.out 0 (x := .int .i64 x.id) rfl
    have d1 := cellOf HK1.out 1 (x := .int .i64 x.from_) rfl
    have d2 := cellOf HK1.out 2 (x := .int .i64 x.to_) rfl
    have d3 := cellOf HK1.out 3 (x := .int .i64 x.days) rfl
    have d4 := cellOf HK1.out 4 (x := .slice Au nu cu) rfl
    have k0 : (0 : Int) ≤ (k : Int) := by omega
    have k1 : (k : Int) < (n : Int) := by omega
    clear hx HXX e1 hq hgb hnx hB hO HX1
    go_upto_region 10 with fail
    rw [E1.out, HQ.out]
    clear E1 c0 c1 c2' c3' c4'
    go_wp2_with fail
    refine CG.out.mono ?_
    rintro _ X2 ⟨rfl, hb2⟩
    have HB2 : Hid (Below W1.heap.size W1 X2) := HB1X.out.trans (hb2.mono HB1X.out.size)
    have HO2 : Hid (X2.ownsRow W1.heap.size 3 1 (.slice Av m cv) m ((rdK l d k).map (Value.int .i64))) := ownsRow_below HO1.out hb2
    have HK2 : Hid (Blk X2 q 42 _) := HK1.out.below hb2 HK1.out.lt
    have d5 := cellOf HK2.out 0 (x := .int .i64 x.id) rfl
    clear CG hb2 d0 d1 d2 d3 d4 HO1 HK1 HB1X
    cases gb with
    | false =>
      have HNX2 : Hid (rdK l d (k + 1) = rdK l d k) := by show _ = _; rw [HNX.out]; rfl
      go_wp2_with fail
      go_roundw
      case rel =>
        refine ⟨k + 1, by omega, by go_num, ?_, HB2⟩
        show World.ownsRow _ _ _ _ _ _ _
        rw [HNX2.out, HM.out]
        exact HO2.out
      case measure => simp [intOf]; omega
    | true =>
      have HNX2 : Hid (rdK l d (k + 1) = rdK l d k ++ [x.id]) := by show _ = _; rw [HNX.out]; rfl
      have F3 : ∃ X3, X2.alloc (.cells #[.int .i64 x.id] 3) = X3 ∧ Hid (Below X2.heap.size X2 X3) := ⟨_, rfl, below_alloc _ _⟩
      obtain ⟨X3, e3, HX3⟩ := F3
      have E3 := Lib.hid e3
      have HB3 : Hid (Below W1.heap.size W1 X3) := HB2.out.trans (HX3.out.mono HB2.out.size)
      have HO3 : Hid (X3.ownsRow W1.heap.size 3 1 (.slice Av m cv) m ((rdK l d k).map (Value.int .i64))) := ownsRow_below HO2.out HX3.out
      have HC3 := Lib.hid (cells_new X2 #[.int .i64 x.id] 3)
      rw [e3] at HC3
      clear e3
      go_wp2_with (at_builtin; rw [E3.out]; refine wpList_append_own _ rfl _ _ 31 rfl W1.heap.size 3 i0 _ 1 8 sliceInts hi0 hz0 hz1 hz2 rfl (by decide) (.slice Av m cv) m ((rdK l d k).map (Value.int .i64)) rfl HO3.out ⟨X2.heap.size, 0, none⟩ 1 1 [.int .i64 x.id] rfl rfl HC3.out (by simp [Value.oneCell']) (by simp only [maxLen]; omega) (by omega) HB3.out.size ?_; intro v2 w2 hO4 hG4 hN4)
      have hB4 : Below W1.heap.size W1 w2 := HB3.out.trans ((KeptBut.grown (S := fun j => some j = (Value.slice Av m cv).ownBlock) hG4 fun j hj => hj).below (fun i hi => (ownsRow_own HO3.out hi.symm).1) HB3.out.size)
      refine ⟨⟨k + 1, by omega, by go_num, ?_, hB4⟩, by simp [intOf]; omega⟩
      show World.ownsRow _ _ _ _ _ _ _
      rw [HNX2.out, List.length_append, List.map_append, HM.out]
      exact hO4
  · obtain rfl : k = n := by omega
    have HF : Hid (RdRet l d w (.returned (.tuple #[.slice Av m cv, .int .i64 0])) X) := by
      refine ⟨_, by rw [HX.out], ?_, HB1.out.trans (hB.out.mono HB1.out.size)⟩
      rw [HX.out, if_pos rfl, HN.out]
      unfold OInts
      rw [HM.out]
      exact ownsRow_base hO.out HB1.out.size
    clear hO hB
    go_wp2_with fail
    go_ret2
    exact HF.out
end Go.Proofs.Ytlmpbmlbllndcaa

namespace Go.Proofs.Ytlmpbmlbllndcaa

/-- A subscriber made of four numbers. -/
def holOf (c d : Int) : List SpanD := if 60 < d then [⟨d % 50, d % 50 + c % 9⟩] else []
def subOf (k : Nat) (a b c d : Int) : SubD := ⟨4 * (k : Int), a % 40, a % 40 + b % 60, 1 + c % 127, holOf c d⟩
def subAt (l : List Int) (i : Nat) : SubD := subOf i (l.getD (4 * i) 0) (l.getD (4 * i + 1) 0) (l.getD (4 * i + 2) 0) (l.getD (4 * i + 3) 0)
def subTo (l : List Int) (k : Nat) : List SubD := (List.range k).map (subAt l)
def nSubs (l : List Int) : Nat := min 10 (l.length / 4)
def subsOf (l : List Int) : List SubD := subTo l (nSubs l)
theorem subTo_len (l : List Int) (k : Nat) : (subTo l k).length = k := by simp [subTo]
theorem subTo_next (l : List Int) (k : Nat) : subTo l (k + 1) = subTo l k ++ [subAt l k] := by
  unfold subTo
  rw [List.range_succ, List.map_append]
  rfl
theorem subOf_ok (k : Nat) (hk : k < 1000) (a b c d : Int) : (subOf k a b c d).Ok ∧ (subOf k a b c d).hol.length ≤ 1 := by
  unfold subOf holOf
  by_cases h : 60 < d
  · rw [if_pos h]
    refine ⟨⟨?_, ?_, ?_, by simp, ?_⟩, by simp⟩
    all_goals simp only [HolOk, and_true]
    all_goals omega
  · rw [if_neg h]
    refine ⟨⟨?_, ?_, ?_, by simp, trivial⟩, by simp⟩
    all_goals simp only
    all_goals omega
theorem subs_ok (data : List Int) : ∀ s ∈ subsOf data, s.Ok ∧ s.hol.length ≤ 1 := fun s hs => by
  obtain ⟨i, hi, rfl⟩ := List.mem_map.1 hs
  have hi := List.mem_range.1 hi
  exact subOf_ok i (by unfold nSubs at hi; omega) _ _ _ _
theorem subs_len (data : List Int) : (subsOf data).length = nSubs data := subTo_len _ _
theorem fsE_of : ∀ (l : List SubD) (met : List Int), (∀ o ∈ l, o.Ok) → (l.map SubD.id).Nodup → (∀ o ∈ l, o.id ∉ met) → fsE met l = 0
  | [], _, _, _, _ => rfl
  | o :: l, met, h1, h2, h3 => by
    unfold fsE
    rw [List.map_cons, List.nodup_cons] at h2
    rw [if_pos (subB_of (h1 o List.mem_cons_self)), if_neg (h3 o List.mem_cons_self)]
    refine fsE_of l _ (fun x hx => h1 x (List.mem_cons_of_mem _ hx)) h2.2 fun x hx hm => ?_
    rcases addS_mem.1 hm with e | e
    · exact h2.1 (List.mem_map.2 ⟨x, hx, e⟩)
    · exact h3 x (List.mem_cons_of_mem _ hx) e
theorem subs_ids (data : List Int) : ((subsOf data).map SubD.id).Nodup := by
  unfold subsOf subTo
  rw [List.map_map]
  refine List.pairwise_map.2 (List.nodup_range.imp fun {a b} hne e => hne ?_)
  simp only [Function.comp, subAt, subOf] at e
  omega
theorem subs_subsE (data : List Int) : subsE (subsOf data) = 0 := by
  unfold subsE
  rw [if_neg (by rw [subs_len]; unfold nSubs; omega)]
  exact fsE_of _ _ (fun o ho => (subs_ok data o ho).1) (subs_ids data) fun o _ hm => by cases hm
theorem cnt_one (P : Int → Bool) (d : Int) : cnt P d d = if P d then 1 else 0 := by
  unfold cnt
  rw [show (d + 1 - d).toNat = 0 + 1 by omega]
  simp [cntN]
theorem getB_gets {s : SubD} (hs : s.Ok) {d : Int} (hd : 0 ≤ d) : s.getB d = s.gets d := by
  unfold SubD.getB
  rw [copies_cnt hs hd, cnt_one]
  cases s.gets d <;> rfl
theorem copies_getB {s : SubD} (hs : s.Ok) {a b : Int} (ha : 0 ≤ a) : s.copies a b = cnt s.getB a b := by
  rw [copies_cnt hs ha]
  exact cnt_congr fun d h1 _ => (getB_gets hs (by omega)).symm
theorem copies_nonneg {s : SubD} (hs : s.Ok) {a b : Int} (ha : 0 ≤ a) : 0 ≤ s.copies a b ∧ s.copies a b ≤ (b + 1 - a).toNat := by
  rw [copies_cnt hs ha]
  exact cntN_nonneg _ _ _
theorem sumI_snoc2 : ∀ (l : List Int) (x : Int), sumI (l ++ [x]) = sumI l + x
  | [], x => by simp [sumI]
  | y :: l, x => by
    have h := sumI_snoc2 l x
    show y + sumI (l ++ [x]) = y + sumI l + x
    omega
/-- How many copies the first k subscribers get. -/
def copK (l : List SubD) (a b : Int) (k : Nat) : Int := sumI ((l.take k).map fun s => s.copies a b)
theorem copK_next {l : List SubD} {a b : Int} {k : Nat} {x : SubD} (h : l[k]? = some x) : copK l a b (k + 1) = copK l a b k + x.copies a b := by
  unfold copK
  rw [List.take_add_one, h, Option.toList_some, List.map_append]
  exact sumI_snoc2 _ _
/-- How many copies n rounds have. -/
def rdSum (l : List SubD) (a : Int) : Nat → Int
  | 0 => 0
  | n + 1 => rdSum l a n + ((rdK l (a + n) l.length).length : Int)
theorem rdK_all (l : List SubD) (d : Int) : rdK l d l.length = (l.filter fun s => s.getB d).map SubD.id := by
  unfold rdK
  rw [List.take_length]
theorem rd_count (l : List SubD) (a : Int) : ∀ n : Nat, rdSum l a n = sumI (l.map fun s => cntN s.getB a n)
  | 0 => by
    unfold rdSum
    induction l with
    | nil => rfl
    | cons x l ih => rw [List.map_cons, sumI_cons, ← ih]; rfl
  | n + 1 => by
    show rdSum l a n + _ = _
    rw [rd_count l a n, rdK_all, List.length_map]
    induction l with
    | nil => rfl
    | cons x l ih =>
      rw [List.map_cons, List.map_cons, sumI_cons, sumI_cons, ← ih]
      show cntN x.getB a n + _ + _ = (cntN x.getB a n + if x.getB (a + n) then 1 else 0) + _
      by_cases h : x.getB (a + n) = true
      · rw [List.filter_cons_of_pos (by simpa using h), List.length_cons, if_pos h]
        push_cast
        omega
      · rw [List.filter_cons_of_neg (by simpa using h), if_neg h]
        omega
theorem rounds_copies {l : List SubD} (hl : ∀ s ∈ l, s.Ok) {a b : Int} (ha : 0 ≤ a) : rdSum l a (b + 1 - a).toNat = copK l a b l.length := by
  rw [rd_count]
  unfold copK
  rw [List.take_length]
  congr 1
  exact List.map_congr_left fun s hs => (copies_getB (hl s hs) ha).symm
theorem rdSum_bd (l : List SubD) (a : Int) : ∀ n : Nat, 0 ≤ rdSum l a n ∧ rdSum l a n ≤ n * l.length
  | 0 => ⟨Int.le_refl _, by simp [rdSum]⟩
  | n + 1 => by
    have h1 := rdSum_bd l a n
    have h2 := rdK_len l (a + n) l.length
    show 0 ≤ rdSum l a n + _ ∧ rdSum l a n + _ ≤ _
    rw [show ((n + 1 : Nat) : Int) * (l.length : Int) = (n : Int) * l.length + l.length by rw [Int.natCast_add, Int.add_mul]; simp]
    omega
/-- The holidays with one more. -/
def awayH (h : List SpanD) (lo hi : Int) : List SpanD :=
  match h[0]? with
  | none => [⟨lo, hi⟩]
  | some x => if hi + 1 < x.lo then [⟨lo, hi⟩, x] else if x.hi + 1 < lo then [x, ⟨lo, hi⟩] else [⟨min lo x.lo, max hi x.hi⟩]
def SubD.away (s : SubD) (lo hi : Int) : SubD := { s with hol := awayH s.hol lo hi }
theorem away_ok {s : SubD} (hs : s.Ok) (h1 : s.hol.length ≤ 1) {lo hi : Int} (h0 : 0 ≤ lo) (h2 : lo ≤ hi) (h3 : hi ≤ 20000) : (s.away lo hi).Ok := by
  refine ⟨hs.id, hs.from_, hs.days, ?_⟩
  have hh := hs.hol.2
  show (awayH s.hol lo hi).length ≤ 20 ∧ HolOk 0 (awayH s.hol lo hi)
  generalize s.hol = l at h1 hh
  match l, h1 with
  | [], _ => exact ⟨by simp [awayH], by simp only [awayH, List.getElem?_nil, HolOk, and_true]; omega⟩
  | [x], _ =>
    obtain ⟨e1, e2, e3, -⟩ := hh
    unfold awayH
    simp only [List.getElem?_cons_zero]
    split
    · exact ⟨by simp, by simp only [HolOk, and_true]; omega⟩
    · split
      · exact ⟨by simp, by simp only [HolOk, and_true]; omega⟩
      · exact ⟨by simp, by simp only [HolOk, and_true]; omega⟩
theorem away_in (l : List SpanD) (h1 : l.length ≤ 1) (lo hi d : Int) (hl : ∀ x ∈ l, x.lo ≤ x.hi) : inHol (awayH l lo hi) d = (inHol l d || (decide (lo ≤ d) && decide (d ≤ hi))) := by
  match l, h1 with
  | [], _ => simp [awayH, inHol]
  | [x], _ =>
    have hx := hl x List.mem_cons_self
    unfold awayH
    simp only [List.getElem?_cons_zero]
    split
    · simp [inHol, Bool.or_comm]
    · split
      · simp [inHol]
      · simp only [inHol, List.any_cons, List.any_nil, Bool.or_false]
        rw [Bool.eq_iff_iff]
        simp only [Bool.and_eq_true, Bool.or_eq_true, decide_eq_true_eq]
        omega
theorem away_gets {s : SubD} (hs : s.Ok) (h1 : s.hol.length ≤ 1) {lo hi : Int} (h2 : lo ≤ hi) (d : Int) : (s.away lo hi).gets d = (s.gets d && !(decide (lo ≤ d) && decide (d ≤ hi))) := by
  have hl : ∀ x ∈ s.hol, x.lo ≤ x.hi := by
    have hh := hs.hol.2
    generalize s.hol = l at h1 hh
    match l, h1 with
    | [], _ => exact fun x hx => by cases hx
    | [x], _ =>
      intro y hy
      rw [List.mem_singleton] at hy
      subst hy
      exact hh.2.1
  show ((wkB s.days d && (decide (s.from_ ≤ d) && decide (d ≤ s.to_))) && !inHol (awayH s.hol lo hi) d) = (((wkB s.days d && (decide (s.from_ ≤ d) && decide (d ≤ s.to_))) && !inHol s.hol d) && !(decide (lo ≤ d) && decide (d ≤ hi)))
  rw [away_in s.hol h1 lo hi d hl, Bool.not_or]
  simp only [Bool.and_assoc]
theorem away_copies {s : SubD} (hs : s.Ok) (h1 : s.hol.length ≤ 1) {lo hi a b : Int} (h0 : 0 ≤ lo) (h2 : lo ≤ hi) (h3 : hi ≤ 20000) (ha : 0 ≤ a) :
    (s.away lo hi).copies a b = s.copies a b - cnt (fun d => s.getB d && (decide (a ≤ d) && decide (d ≤ b))) lo hi := by
  rw [copies_cnt (away_ok hs h1 h0 h2 h3) ha, copies_cnt hs ha, cnt_congr fun d _ _ => away_gets hs h1 h2 d, cnt_minus]
  congr 1
  rw [cnt_clip, cnt_clip, Int.max_comm a lo, Int.min_comm b hi]
  exact cnt_congr fun d h4 _ => (getB_gets hs (by omega)).symm
/-- How many days of a holiday are lost. -/
def lostN (s : SubD) (a b lo : Int) (n : Nat) : Int := cntN (fun d => s.getB d && (decide (a ≤ d) && decide (d ≤ b))) lo n
end Go.Proofs.Ytlmpbmlbllndcaa
