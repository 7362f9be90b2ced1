/-
  What a desk decides: (*Desk).decide.
-/
import Derived.Test.YtffodgpafiifcaaOa
import Derived.Test.YtffodgpafiifcaaCf
namespace Go.Proofs.Ytffodgpafiifcaa
open Go.RowKit

def moveD (l : LoopD) (q : List Int) (e : Int) : Int := if e = lostD then 0 else clampD l.step (e + q.sum)
def movesD (loops : List LoopD) (Q : Nat → List Int) (errs : List Int) : List Int := loops.zipIdx.map fun x => moveD x.1 (Q x.2) (errs.getD x.2 0)
theorem movesD_len (loops : List LoopD) (Q : Nat → List Int) (errs : List Int) : (movesD loops Q errs).length = loops.length := by simp [movesD]
theorem movesD_at {loops : List LoopD} {Q : Nat → List Int} {errs : List Int} {i : Nat} {l : LoopD} (h : loops[i]? = some l) : (movesD loops Q errs)[i]? = some (moveD l (Q i) (errs.getD i 0)) := by
  unfold movesD
  rw [List.getElem?_map, List.getElem?_zipIdx, h]
  simp
theorem moveD_le {l : LoopD} (hs : 1 ≤ l.step ∧ l.step ≤ 10000) (q : List Int) (e : Int) : moveD l q e ≤ 10000 ∧ -10000 ≤ moveD l q e := by
  unfold moveD
  split
  · omega
  · have : clampD l.step (e + q.sum) ≤ l.step ∧ -l.step ≤ clampD l.step (e + q.sum) := by unfold clampD; omega
    omega
theorem RInts.keptBut {B : Nat} {w w' : World} {v : Value} {l : List Int} {S : Nat → Prop} (h : RInts B w v l) (hk : KeptBut S w w') (hB : B ≤ w.heap.size) (hs : ∀ k, v.ownBlock = some k → ¬ S k) : RInts B w' v l := by
  obtain ⟨A, c, rfl, hl, hm, hr⟩ := h
  refine ⟨A, c, rfl, hl, hm, fun h0 => ?_⟩
  obtain ⟨g, o, rfl, hg, hc⟩ := hr h0
  refine ⟨g, o, rfl, hg, fun j u hu => ?_⟩
  rw [World.cell?_of_block (w := w) (hk.block g (by omega) (hs g rfl))]
  exact hc j u hu
theorem CtlsAt.drewN {base : Nat} {w : World} {loops : List LoopD} {Q : Nat → List Int} {Cs : List Nat} {vs : List Value} (h : CtlsAt base w loops Q Cs vs) (n : Nat) : CtlsAt base (w.drewN n) loops Q Cs vs :=
  h.keep (S := fun _ => False) (KeptBut.of_below (below_drewN (Below.refl _ _) n)) fun _ _ => id
theorem CtlsAt.kind {base : Nat} {w : World} {loops : List LoopD} {Q : Nat → List Int} {Cs : List Nat} {vs : List Value} (h : CtlsAt base w loops Q Cs vs) {k : Nat} (hk : CtlF Cs vs k) : ∃ t cs, Blk w k t cs ∧ (t = 123 ∨ t = 3) := by
  rcases hk with hk | ⟨v, hv, hk⟩
  · obtain ⟨i, hi, rfl⟩ := List.getElem_of_mem hk
    have hi' : i < loops.length := by rw [← h.lenC]; exact hi
    obtain ⟨C, v, hC, hv, hc⟩ := h.at (List.getElem?_eq_getElem hi')
    rw [List.getElem?_eq_getElem hi] at hC
    cases hC
    exact ⟨_, _, hc.2.1, .inl rfl⟩
  · obtain ⟨i, hi, rfl⟩ := List.getElem_of_mem hv
    have hi' : i < loops.length := by rw [← h.lenV]; exact hi
    obtain ⟨C, v, hC, hv, hc⟩ := h.at (List.getElem?_eq_getElem hi')
    rw [List.getElem?_eq_getElem hi] at hv
    cases hv
    obtain ⟨-, -, cs, hB⟩ := hc.2.2.block k hk
    exact ⟨_, _, hB, .inr rfl⟩
theorem CtlsAt.notF {base : Nat} {w : World} {loops : List LoopD} {Q : Nat → List Int} {Cs : List Nat} {vs : List Value} (h : CtlsAt base w loops Q Cs vs) {k : Nat} {t : TypeId} {cs : Array Value} (hB : Blk w k t cs) (h1 : t ≠ 123) (h2 : t ≠ 3) : ¬ CtlF Cs vs k := fun hk => by
  obtain ⟨t', cs', hB', ht⟩ := h.kind hk
  have e : t = t' := by
    have := hB.symm.trans hB'
    injection this with this
    injection this
  rcases ht with rfl | rfl
  · exact h1 e
  · exact h2 e
/-- What is there while a desk decides. -/
structure MovSt (w : World) (base : Nat) (loops : List LoopD) (Q Q' : Nat → List Int) (errs : List Int) (Cs : List Nat) (vs : List Value) (k : Nat) (u : Value) (vs1 : List Value) (X : World) : Prop where
  ctls : CtlsAt base X loops (fun j => if j < k then Q' j else Q j) Cs vs1
  row : OInts w.heap.size X u ((movesD loops Q errs).take k)
  kept : KeptBut (CtlF Cs vs) w X
  foot : ∀ j, CtlF Cs vs1 j → CtlF Cs vs j ∨ w.heap.size ≤ j
  apart : ∀ j, u.ownBlock = some j → ¬ CtlF Cs vs1 j
section
variable {w X Y : World} {base : Nat} {loops : List LoopD} {Q Q' : Nat → List Int} {errs : List Int} {Cs : List Nat} {vs vs1 : List Value} {k : Nat} {u : Value}
theorem MovSt.start (h : CtlsAt base w loops Q Cs vs) : MovSt w base loops Q Q' errs Cs vs 0 (.slice none 0 0) vs w :=
  ⟨h.same fun i hi => by simp, World.ownsRow_nil _ _ _ _, KeptBut.refl _ _, fun j hj => .inl hj, fun j hj => by cases hj⟩
/-- A control has decided: its queue is the next one. -/
theorem MovSt.mid (h : MovSt w base loops Q Q' errs Cs vs k u vs1 X) {C : Nat} {l : LoopD} {v v' : Value} (hl : loops[k]? = some l) (hC : Cs[k]? = some C) (hv : vs1[k]? = some v)
    (hk : CtlKept C v v' X Y) (hc : Ctl base Y C l v' (Q' k)) :
    CtlsAt base Y loops (fun j => if j < k + 1 then Q' j else Q j) Cs (vs1.set k v') ∧ OInts w.heap.size Y u ((movesD loops Q errs).take k) ∧ KeptBut (CtlF Cs vs) w Y ∧ (∀ j, CtlF Cs (vs1.set k v') j → CtlF Cs vs j ∨ w.heap.size ≤ j) ∧ ∀ j, u.ownBlock = some j → ¬ CtlF Cs (vs1.set k v') j := by
  have hF := ctlKept_F hC hv hk
  refine ⟨(h.ctls.step hl hC hv hk hc).same fun i hi => ?_, ?_, ?_, fun j hj => ?_, fun j hj hf => ?_⟩
  · by_cases e : i = k
    · subst e
      simp
    · rw [if_neg e]
      by_cases h1 : i < k
      · rw [if_pos h1, if_pos (by omega)]
      · rw [if_neg h1, if_neg (by omega)]
  · exact ownsRow_keptBut h.row hF fun g cs hg hB => h.apart g hg
  · refine h.kept.trans hF fun i hi hs => ?_
    rcases h.foot i hs with h1 | h1
    · exact h1
    · omega
  · rcases ctlF_set hC hv hk hj with h1 | h1
    · exact h.foot j h1
    · exact .inr (Nat.le_trans h.kept.size h1)
  · rcases ctlF_set hC hv hk hf with h1 | h1
    · exact h.apart j hj h1
    · have := (h.row.lt j hj).2
      omega
/-- The correction has been appended. -/
theorem MovSt.next {m : Int} {g cap : Nat} {Z : World} (h : CtlsAt base Y loops (fun j => if j < k + 1 then Q' j else Q j) Cs vs1) (hrow : OInts w.heap.size Y u ((movesD loops Q errs).take k)) (hkept : KeptBut (CtlF Cs vs) w Y)
    (hfoot : ∀ j, CtlF Cs vs1 j → CtlF Cs vs j ∨ w.heap.size ≤ j) (hap : ∀ j, u.ownBlock = some j → ¬ CtlF Cs vs1 j) (hm : (movesD loops Q errs)[k]? = some m)
    (hown : Z.ownsRow w.heap.size 3 1 (.slice (some ⟨g, 0, none⟩) (k + 1) cap) (k + 1) (((movesD loops Q errs).take k).map (Value.int .i64) ++ [.int .i64 m])) (hgrow : (Y.alloc (.cells #[.int .i64 m] 3)).grownBy Z u.ownBlock) (hat : u.ownBlock = some g ∨ g = Y.heap.size + 1) :
    MovSt w base loops Q Q' errs Cs vs (k + 1) (.slice (some ⟨g, 0, none⟩) (k + 1) cap) vs1 Z := by
  have hk1 : k < (movesD loops Q errs).length := (List.getElem?_eq_some_iff.1 hm).1
  have hYZ : KeptBut (fun j => u.ownBlock = some j) Y Z := (KeptBut.of_below (below_alloc Y _)).trans (KeptBut.grown (S := fun j => u.ownBlock = some j) hgrow fun j hj => hj.symm) fun i _ hi => hi
  refine ⟨h.keep hYZ fun j hj he => hap j he hj, ?_, hkept.trans hYZ fun i hi hs => ?_, hfoot, fun j hj hf => ?_⟩
  · unfold OInts
    rw [take_snoc_get hm, List.map_append, List.length_append, List.length_take, Nat.min_eq_left (by omega)]
    exact hown
  · have := (hrow.lt i hs).1
    omega
  · have hjg : j = g := by cases hj; rfl
    subst hjg
    rcases hat with hat | hat
    · exact hap _ hat hf
    · have := (h.lt hf).2
      omega
end
theorem infoPtr : (Try.prog.info? 108).map (fun i => (i.zero, i.size, i.bytes)) = some (some (.pointer none), 1, 8) := by kernel_rfl

set_option maxRecDepth 100000 in
set_option maxHeartbeats 4000000 in
theorem deskDecide_any (base D : Nat) (loops : List LoopD) (Q Q' : Nat → List Int) (errs : List Int) (Cs : List Nat) (vs : List Value) (cv ve : Value) (w : World) (n : Nat)
    (hD : w.cell? ⟨D, 3, none⟩ = some cv) (hDt : ∃ t cs, Blk w D t cs ∧ t ≠ 123 ∧ t ≠ 3) (hcv : w.ownsRow base 108 1 cv n (Cs.map fun C => .pointer (some ⟨C, 0, none⟩)))
    (hct : CtlsAt base w loops Q Cs vs) (hok : ∀ l ∈ loops, 1 ≤ l.step ∧ l.step ≤ 10000) (hn : loops.length = n) (hn2 : n ≤ 1000)
    (hq : ∀ i, i < n → (Q i).length ≤ 1000 ∧ ∀ y ∈ Q i, y ≤ 10000 ∧ -10000 ≤ y) (he : RInts w.heap.size w ve errs) (hel : errs.length = n) (heb : ∀ x ∈ errs, x ≤ 1000000000000 ∧ -1000000000000 ≤ x)
    (hdis : ∀ k, ve.ownBlock = some k → ¬ CtlF Cs vs k) (hs : ∀ (i : Nat) (l : LoopD), loops[i]? = some l → ∃ x, Q i ++ [moveD l (Q i) (errs.getD i 0)] = x :: Q' i) :
    Calls Try.prog 58 #[.pointer (some ⟨D, 0, none⟩), ve] w fun e w' => ∃ u vs', e = .returned u ∧ OInts w.heap.size w' u (movesD loops Q errs) ∧ CtlsAt base w' loops Q' Cs vs' ∧ KeptBut (CtlF Cs vs) w w' ∧ (∀ j, CtlF Cs vs' j → CtlF Cs vs j ∨ w.heap.size ≤ j) ∧ ∀ j, u.ownBlock = some j → ¬ CtlF Cs vs' j := by
  have HST := Lib.hid (MovSt.start (Q' := Q') (errs := errs) hct)
  have hcvF : ∀ g, cv.ownBlock = some g → ¬ CtlF Cs vs g := fun g hg => by
    rcases hcv.2 with ⟨rfl, -⟩ | ⟨g', cap, cur, rfl, -, hB, -⟩
    · cases hg
    · obtain rfl : g' = g := by injection hg
      exact hct.notF (t := 108) (cs := cur) hB (by decide) (by decide)
  have HDF : Hid (¬ CtlF Cs vs D) := by
    obtain ⟨t, cs, hB, h1, h2⟩ := hDt
    exact hct.notF hB h1 h2
  have hDlt : D < w.heap.size := by obtain ⟨t, cs, hB, -⟩ := hDt; exact hB.lt
  have hCl := hct.lenC
  rw [hn] at hCl
  obtain ⟨Ac, cc, rfl⟩ := ownsRow_form hcv
  obtain ⟨AE, cE, rfl, -⟩ := slice_len he
  have HEL := Lib.hid hel
  rw [hel]
  have HCV := Lib.hid hcv
  have HCF := Lib.hid hcvF
  have HOK := Lib.hid hok
  have HQ := Lib.hid hq
  have HE : Hid (RInts w.heap.size w (.slice AE n cE) errs) := Lib.hid (by rw [hel] at he; exact he)
  have HDis : Hid (∀ k, (Value.slice AE n cE).ownBlock = some k → ¬ CtlF Cs vs k) := Lib.hid (by rw [hel] at hdis; exact hdis)
  have HEB := Lib.hid heb
  have HS := Lib.hid hs
  have HN := Lib.hid hn
  have HCL := Lib.hid hCl
  have HDc := Lib.hid hD
  clear hct hcvF hcv hok hq he heb hdis hs hn hel hCl hDt
  obtain ⟨i0, hi, hz0, hz1, hz2⟩ := info_parts infoInt0
  go_enter Try.func58, Try.ntmps58
  have hD3 := HDc.out
  clear hD
  go_wp2
  clear hD3
  go_loopw [5, 6, 7, 8, 14] (fun u _ _ _ iq wr => ∃ (k : Nat) (vs1 : List Value), k ≤ n ∧ iq = .int .i64 k ∧ MovSt w base loops Q Q' errs Cs vs k u vs1 wr) (fun _ _ _ _ iq _ => n - (intOf iq).toNat)
  case atStart => exact ⟨0, vs, Nat.zero_le _, rfl, HST.out⟩
  case round =>
    clear HST
    obtain ⟨k, vs1, hk, rfl, hst⟩ := hrel
    obtain ⟨Au, cu, rfl⟩ : ∃ A c, u5 = .slice A k c := by
      obtain ⟨A, c, e⟩ := ownsRow_form hst.row
      rw [List.length_take, movesD_len, HN.out, Nat.min_eq_left hk] at e
      exact ⟨A, c, e⟩
    have HST := Lib.hid hst
    by_cases hlt : k < n
    · obtain ⟨l, hl⟩ : ∃ l, loops[k]? = some l := ⟨_, List.getElem?_eq_getElem (by rw [HN.out]; exact hlt)⟩
      obtain ⟨C, v, hC, hv, hc⟩ := hst.ctls.at hl
      rw [if_neg (by omega)] at hc
      obtain ⟨x, hx⟩ : ∃ x, errs[k]? = some x := ⟨_, List.getElem?_eq_getElem (by rw [HEL.out]; exact hlt)⟩
      have hgd : errs.getD k 0 = x := by rw [List.getD_eq_getElem?_getD, hx]; rfl
      have hxb := HEB.out x (List.mem_of_getElem? hx)
      obtain ⟨gE, oE, rfl, hgE, cE⟩ := (HE.out.keptBut hst.kept (Nat.le_refl _) HDis.out).at hx
      have hrow := ownsRow_keptBut HCV.out hst.kept fun g cs hg hB => HCF.out g hg
      obtain ⟨gC, oC, rfl, cC⟩ : ∃ g o, Ac = some ⟨g, o, none⟩ ∧ wr.cell? ⟨g, o + k, none⟩ = some (.pointer (some ⟨C, 0, none⟩)) := by
        obtain ⟨A', c', e', hl', -, hr'⟩ := Rd.own hrow (own_le hrow)
        cases e'
        obtain ⟨g, o, hA, -, hcells⟩ := hr' (by omega)
        exact ⟨g, o, hA, hcells k _ (by rw [List.getElem?_map, hC]; rfl)⟩
      obtain ⟨y, hy⟩ := HS.out k l hl
      rw [hgd] at hy
      have hmv := movesD_at (Q := Q) (errs := errs) hl
      rw [hgd] at hmv
      have hls := HOK.out l (List.mem_of_getElem? hl)
      have hmb := moveD_le hls (Q k) x
      have hq := HQ.out k hlt
      have CDc := decide_any base C l v (Q k) x wr hc hq.1 hls hq.2 hxb
      have ik : (k : Int) < (n : Int) := by omega
      have HCk := Lib.hid hc
      have HL := Lib.hid hl
      have HC := Lib.hid hC
      have HV := Lib.hid hv
      have HY := Lib.hid hy
      have HQL := Lib.hid (show (Q k).length ≤ 100000 by omega)
      obtain ⟨m, hm⟩ : ∃ m, moveD l (Q k) x = m := ⟨_, rfl⟩
      rw [hm] at hmv hmb HY
      have HMV := Lib.hid hmv
      have hk1000 : k ≤ 1000 := by omega
      -- from the call of delay on
      have HDel : Hid (∀ j, Calls Try.prog 47 #[.pointer (some ⟨C, 0, none⟩), .int .i64 m] (wr.drewN j) fun e w' => ∃ v' u9, e = .returned u9 ∧ (CtlsAt base w' loops (fun j => if j < k + 1 then Q' j else Q j) Cs (vs1.set k v') ∧ OInts w.heap.size w' (.slice Au k cu) ((movesD loops Q errs).take k) ∧ KeptBut (CtlF Cs vs) w w' ∧ (∀ j, CtlF Cs (vs1.set k v') j → CtlF Cs vs j ∨ w.heap.size ≤ j) ∧ ∀ j, (Value.slice Au k cu).ownBlock = some j → ¬ CtlF Cs (vs1.set k v') j)) := Lib.hid fun j => by
        have hstj : MovSt w base loops Q Q' errs Cs vs k (.slice Au k cu) vs1 (wr.drewN j) :=
          ⟨HST.out.ctls.drewN j, ownsRow_below HST.out.row (below_drewN (Below.refl _ _) j), HST.out.kept.trans (T := fun _ => False) (KeptBut.of_below (below_drewN (Below.refl _ _) j)) (fun _ _ h => h.elim), HST.out.foot, HST.out.apart⟩
        have hcj : Ctl base (wr.drewN j) C l v (Q k) := HCk.out.keptBut (S := fun _ => False) (KeptBut.of_below (below_drewN (Below.refl _ _) j)) id fun _ _ => id
        refine (delay_any base C l v y m (Q k) (Q' k) (wr.drewN j) hcj HQL.out HY.out).mono ?_
        rintro e w' ⟨u9, v', rfl, -, hc9, hk9⟩
        exact ⟨v', u9, rfl, hstj.mid HL.out HC.out HV.out hk9 hc9⟩
      clear hst hl hC hv hc hx hrow hy hmv hq
      by_cases hxl : x = 1000000000
      · have hm0 : m = 0 := by
          rw [← hm]
          unfold moveD
          exact if_pos hxl
        subst hm0
        subst hxl
        clear hm
        go_wp2_with fail
        refine (HDel.out 0).mono ?_
        rintro _ w6 ⟨v', u9, rfl, hct6, hrow6, hk6, hf6, hap6⟩
        have HR6 : Hid (w6.ownsRow w.heap.size 3 1 (.slice Au k cu) k (((movesD loops Q errs).take k).map (Value.int .i64))) := Lib.hid (by
          have h9 := hrow6
          unfold OInts at h9
          rw [List.length_take, movesD_len, HN.out, Nat.min_eq_left hk] at h9
          exact h9)
        have hz6 := hk6.size
        have HC6 := Lib.hid (⟨hct6, hrow6, hk6, hf6, hap6⟩ : _ ∧ _ ∧ _ ∧ _ ∧ _)
        clear hct6 hrow6 hk6 hf6 hap6 CDc
        go_wp2_with (at_builtin; refine wpList_append_lies _ rfl _ _ 24 rfl w.heap.size 3 i0 _ 1 8 sliceInts hi hz0 hz1 hz2 rfl (by decide) (.slice Au k cu) k _ rfl (HR6.out.alloc _) ⟨w6.heap.size, 0, none⟩ 1 1 [.int .i64 0] rfl rfl (cells_new _ _ _) (by simp [Value.oneCell']) (by omega) (by simp only [maxLen]; omega) (by omega) (by simp; omega) (w6.heap.size + 1) (by simp) ?_; intro g8 c8 w7 hown hgrow hat hlt7; have HN7 := Lib.hid (MovSt.next HC6.out.1 HC6.out.2.1 HC6.out.2.2.1 HC6.out.2.2.2.1 HC6.out.2.2.2.2 HMV.out hown hgrow hat); clear hown hgrow hat hlt7)
        go_roundw
        case rel => exact ⟨k + 1, _, by omega, by go_num, HN7.out⟩
        case measure => simp [intOf]; omega
      · have hmc : clampD l.step (x + (Q k).sum) = m := by
          rw [← hm]
          unfold moveD
          exact (if_neg hxl).symm
        have CDd := Lib.hid CDc
        clear hm CDc
        go_wp2_with fail
        refine CDd.out.mono ?_
        rintro _ _ ⟨rfl, jj, rfl⟩
        rw [hmc]
        clear hmc
        go_wp2_with fail
        refine (HDel.out jj).mono ?_
        rintro _ w6 ⟨v', u9, rfl, hct6, hrow6, hk6, hf6, hap6⟩
        have HR6 : Hid (w6.ownsRow w.heap.size 3 1 (.slice Au k cu) k (((movesD loops Q errs).take k).map (Value.int .i64))) := Lib.hid (by
          have h9 := hrow6
          unfold OInts at h9
          rw [List.length_take, movesD_len, HN.out, Nat.min_eq_left hk] at h9
          exact h9)
        have hz6 := hk6.size
        have HC6 := Lib.hid (⟨hct6, hrow6, hk6, hf6, hap6⟩ : _ ∧ _ ∧ _ ∧ _ ∧ _)
        clear hct6 hrow6 hk6 hf6 hap6
        go_wp2_with (at_builtin; refine wpList_append_lies _ rfl _ _ 24 rfl w.heap.size 3 i0 _ 1 8 sliceInts hi hz0 hz1 hz2 rfl (by decide) (.slice Au k cu) k _ rfl (HR6.out.alloc _) ⟨w6.heap.size, 0, none⟩ 1 1 [.int .i64 m] rfl rfl (cells_new _ _ _) (by simp [Value.oneCell']) (by omega) (by simp only [maxLen]; omega) (by omega) (by simp; omega) (w6.heap.size + 1) (by simp) ?_; intro g8 c8 w7 hown hgrow hat hlt7; have HN7 := Lib.hid (MovSt.next HC6.out.1 HC6.out.2.1 HC6.out.2.2.1 HC6.out.2.2.2.1 HC6.out.2.2.2.2 HMV.out hown hgrow hat); clear hown hgrow hat hlt7)
        go_roundw
        case rel => exact ⟨k + 1, _, by omega, by go_num, HN7.out⟩
        case measure => simp [intOf]; omega
    · obtain rfl : n = k := by omega
      have hall : (movesD loops Q errs).take n = movesD loops Q errs := List.take_of_length_le (by rw [movesD_len, HN.out]; exact Nat.le_refl _)
      have HEnd : Hid (OInts w.heap.size wr (.slice Au n cu) (movesD loops Q errs) ∧ CtlsAt base wr loops Q' Cs vs1) := Lib.hid ⟨by have h9 := hst.row; rw [hall] at h9; exact h9, hst.ctls.same fun i hi => by rw [if_pos (by rw [HN.out] at hi; exact hi)]⟩
      clear hst hall
      go_wp2
      go_ret
      exact ⟨_, vs1, rfl, HEnd.out.1, HEnd.out.2, HST.out.kept, HST.out.foot, HST.out.apart⟩
end Go.Proofs.Ytffodgpafiifcaa
