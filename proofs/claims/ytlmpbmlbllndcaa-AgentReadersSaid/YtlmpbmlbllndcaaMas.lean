/-
  Methods: the iterator of the days at which a method looks.
-/
import Derived.RangeFuncBox
import Derived.RangeFuncNested
import Derived.RangeFuncLeaves
import Derived.RangeFuncBound
import Derived.RangeFuncCalls
import Derived.Shelf.Abstract
import Derived.OwnWalkIn
import Derived.TacticsInMore
import Derived.LoopNIn
import Derived.LoopIn
import Derived.Maps.AppendAt
import Derived.Sort.CutIn
import Derived.Stop.RegionWithIn
import Derived.Test.YtlmpbmlbllndcaaMar
namespace Go.Proofs.Ytlmpbmlbllndcaa
open Go.RowKit Go.Shelf
attribute [local go_sem] Oper.semAt_some

/-- A day of a history. -/
abbrev Dy (N : Nat) := { x : Int // 0 ≤ x ∧ (x < N ∨ N = 0 ∧ x = 0) }
def dyS (N : Nat) (x : Int) : Dy N := if h : 0 ≤ x ∧ (x < N ∨ N = 0 ∧ x = 0) then ⟨x, h⟩ else ⟨0, by omega⟩
theorem dyS_val {N : Nat} {x : Int} (h : 0 ≤ x ∧ x < N) : (dyS N x).1 = x := by unfold dyS; rw [dif_pos ⟨h.1, Or.inl h.2⟩]
def looksS (N : Nat) (m : MethD) (day : Int) (k : Nat) : List (Dy N) := (List.range k).map fun i : Nat => dyS N (day - ((i : Int) + 1) * m.apart)
theorem looksS_next (N : Nat) (m : MethD) (day : Int) (k : Nat) : looksS N m day (k + 1) = looksS N m day k ++ [dyS N (day - ((k : Int) + 1) * m.apart)] := by unfold looksS; rw [List.range_succ, List.map_append]; rfl
theorem looksS_len (N : Nat) (m : MethD) (day : Int) (k : Nat) : (looksS N m day k).length = k := by simp [looksS]
theorem looksS_pre (N : Nat) (m : MethD) (day : Int) {k n : Nat} (h : k ≤ n) : looksS N m day k <+: looksS N m day n := by
  induction n with
  | zero => obtain rfl : k = 0 := by omega
            exact List.prefix_refl _
  | succ n ih =>
    by_cases hk : k = n + 1
    · subst hk; exact List.prefix_refl _
    · rw [looksS_next]
      exact (ih (by omega)).trans (List.prefix_append _ _)
theorem looks_bd {N : Nat} {m : MethD} {day : Int} (h : m.days * m.apart ≤ day) (hd : day ≤ N) {k : Nat} (hk : (k : Int) < m.days) : (0 ≤ day - ((k : Int) + 1) * m.apart ∧ day - ((k : Int) + 1) * m.apart < N) ∧ (0 ≤ ((k : Int) + 1) * m.apart ∧ ((k : Int) + 1) * m.apart ≤ N) := by
  have ha := m.apart_bd
  have h1 : ((k : Int) + 1) * m.apart ≤ m.days * m.apart := Int.mul_le_mul_of_nonneg_right (by omega) (by omega)
  have h2 : 1 * 1 ≤ ((k : Int) + 1) * m.apart := Int.mul_le_mul (by omega) (by omega) (by omega) (by omega)
  omega
/-- What a round keeps: what lay below n₀, and the two boxes of the iterator. -/
def KpM (n₀ Mb Db : Nat) (W W' : World) : Prop := Below n₀ W W' ∧ W'.heap[Mb]? = W.heap[Mb]? ∧ W'.heap[Db]? = W.heap[Db]?
theorem KpM.trans {n₀ Mb Db : Nat} {A B C : World} (h : KpM n₀ Mb Db A B) (k : KpM n₀ Mb Db B C) : KpM n₀ Mb Db A C :=
  ⟨h.1.trans k.1, k.2.1.trans h.2.1, k.2.2.trans h.2.2⟩
theorem KpM.putObj {n₀ Mb Db : Nat} {w0 : World} (hB : n₀ ≤ w0.heap.size) (hM : Mb < w0.heap.size) (hD : Db < w0.heap.size) (W : World) (l : Nat) (o o' : Obj) (hl : w0.heap.size ≤ l) (ho : W.heap[l]? = some o) (hc : o.isCells = false) (hw : o.isWalk = false) : KpM n₀ Mb Db W (W.putObj l o') := by
  have hg := grownBy_putObj' W l o'
  have hlt : l < W.heap.size := (Array.getElem?_eq_some_iff.1 ho).1
  exact ⟨belowK_b hB W l o o' hl ho hc hw, hg.block Mb (by omega) (fun e => by cases e; omega), hg.block Db (by omega) (fun e => by cases e; omega)⟩
theorem yret {e : Ending} {A B : Prop} (h : (e = .returned (.bool true) ∧ A) ∨ (e = .returned (.bool false) ∧ B)) : ∃ b, e = .returned (.bool b) ∧ Hid ((b = true → A) ∧ (b = false → B)) := by
  rcases h with ⟨h, a⟩ | ⟨h, a⟩
  · exact ⟨true, h, fun _ => a, fun h => by cases h⟩
  · exact ⟨false, h, fun h => (by cases h), fun _ => a⟩
set_option maxRecDepth 100000 in
set_option maxHeartbeats 4000000 in
theorem looks_stops (N : Nat) (hN4 : N ≤ 400) (n : Nat) (hn : 3 ≤ n) (m : MethD) (hm : m.okB = true) (day : Int) (hday : m.days * m.apart ≤ day ∧ day ≤ N) (Mb Db n₀ : Nat) (w : World) (hn₀ : n₀ ≤ w.heap.size) (hM : Blk w Mb 56 #[.int .i64 m.kind, .int .i64 m.days]) (hD : Blk w Db 3 #[.int .i64 day]) :
    SeqStopsK Fence.wide n Try.prog 144 #[.pointer (some ⟨Mb, 0, none⟩), .pointer (some ⟨Db, 0, none⟩)] (fun y : Dy N => #[.int .i64 y.1]) (KpM n₀ Mb Db) (fun ys => ys = looksS N m day m.days.toNat) (fun pre => pre <+: looksS N m day m.days.toNat) 60 w := by
  intro l J Jx W hW hJ hJx hY h0
  have hMW := hM.below hW hM.lt
  have hDW := hD.below hW hD.lt
  obtain ⟨mk, md, mc⟩ := m.ok_bd hm
  obtain ⟨d, hdd⟩ : ∃ d : Nat, m.days = d := ⟨m.days.toNat, by omega⟩
  have hdt : m.days.toNat = d := by omega
  have HLB : Hid (∀ k : Nat, k < d → (0 ≤ day - ((k : Int) + 1) * m.apart ∧ day - ((k : Int) + 1) * m.apart < N) ∧ (0 ≤ ((k : Int) + 1) * m.apart ∧ ((k : Int) + 1) * m.apart ≤ N)) := fun k hk => looks_bd hday.1 hday.2 (by omega)
  rw [hdt]
  have HY := Lib.hid hY
  have HAP : Hid (∀ w : World, Calls Try.prog 121 #[.agg #[.int .i64 m.kind, .int .i64 (d : Int)]] w fun e w' => e = .returned (.int .i64 m.apart) ∧ Below w.heap.size w w') := fun w => by
    rw [← hdd]
    exact apart_any m w
  have H0 : Hid (J (looksS N m day 0) W) := h0
  have hAb : Hid (∀ s X Y, J s X → Below X.heap.size X Y → J s Y) := fun s X Y hs hb => hJ s X Y none hs (grownBy_below hb none) (fun r e => by cases e)
  have HNW : Hid (n₀ ≤ W.heap.size) := Nat.le_trans hn₀ hW.size
  rw [hdd] at hMW
  have c0 := cellOf hMW 1 (x := .int .i64 (d : Int)) rfl
  have HM := Lib.hid hMW
  have HD := Lib.hid hDW
  obtain ⟨ap, hap⟩ : ∃ a, m.apart = a := ⟨_, rfl⟩
  have hab := m.apart_bd
  rw [hap] at HLB HAP hab
  have HNX : Hid (∀ k, looksS N m day (k + 1) = looksS N m day k ++ [dyS N (day - ((k : Int) + 1) * ap)]) := fun k => by rw [looksS_next, hap]
  have hd60 : d ≤ 60 := by omega
  obtain ⟨kd, hkd⟩ : ∃ k, m.kind = k := ⟨_, rfl⟩
  rw [hkd] at HM HAP
  have hdy0 : -100 ≤ day ∧ day ≤ 400 := by
    have h1 := hday.1
    have : 0 ≤ m.days * m.apart := Int.mul_nonneg (by omega) (by rw [hap]; omega)
    omega
  clear hY hJ hJx hM hD hMW hDW hW h0 hday hm mk md mc hdd hdt hap hkd
  refine callsIn_of_wp Try.func144 rfl trivial ?_ rfl
  simp only [Try.ntmps144, List.size_toArray, List.length_cons, List.length_nil, Nat.reduceAdd, Nat.reduceSub, Array.replicate_succ, Array.replicate_zero, List.push_toArray, List.append_toArray, List.nil_append, List.cons_append]
  gi_wp2
  clear c0
  gi_loopw [7] (fun i wr => ∃ k : Nat, k ≤ d ∧ i = .int .i64 k ∧ Hid (J (looksS N m day k) wr) ∧ Hid (Blk wr Mb 56 #[.int .i64 kd, .int .i64 (d : Int)] ∧ Blk wr Db 3 #[.int .i64 day]) ∧ Hid (n₀ ≤ wr.heap.size)) (fun i _ => d - (intOf i).toNat)
  case atStart => exact ⟨0, Nat.zero_le _, rfl, H0, ⟨HM.out, HD.out⟩, HNW⟩
  case round =>
    clear H0 HM HD HNW
    obtain ⟨k, hk, rfl, hJk, hBK, hNX⟩ := hrel
    by_cases hlt : k < d
    case neg =>
      have hfin : Hid (∃ ys, ys = looksS N m day d ∧ J ys wr) := ⟨_, rfl, by rw [← show k = d by omega]; exact hJk.out⟩
      gi_wp2
      go_end0
      exact ⟨⟨_, rfl⟩, .inl hfin.out⟩
    obtain ⟨X, rfl⟩ : ∃ X : World, X = wr := ⟨_, rfl⟩
    obtain ⟨⟨l1, l2⟩, l3, l4⟩ := HLB.out k hlt
    obtain ⟨x, hx⟩ : ∃ x, day - ((k : Int) + 1) * ap = x := ⟨_, rfl⟩
    have HYK : Hid (∀ W9, Below X.heap.size X W9 → YieldAt Fence.wide (n - 1) Try.prog l #[.int .i64 x] W9 fun e W' => (e = .returned (.bool true) ∧ J (looksS N m day (k + 1)) W' ∧ KpM n₀ Mb Db W9 W') ∨ (e = .returned (.bool false) ∧ Jx (looksS N m day (k + 1)) W')) := fun W9 hb => by
      have h1 := HY.out (looksS N m day k) (dyS N x) W9 (hAb.out _ _ _ hJk.out hb) (by rw [looksS_len]; omega)
      rw [dyS_val (by omega)] at h1
      rw [HNX.out k, hx]
      exact h1
    have HSS : Hid (∀ W9, Below X.heap.size X W9 → W9.cell? ⟨Mb, 0, none⟩ = some (.int .i64 kd) ∧ W9.cell? ⟨Mb, 1, none⟩ = some (.int .i64 (d : Int)) ∧ W9.cell? ⟨Db, 0, none⟩ = some (.int .i64 day)) := fun W9 hb => by
      have h1 := hBK.out.1.below hb hBK.out.1.lt
      have h2 := hBK.out.2.below hb hBK.out.2.lt
      exact ⟨cellOf h1 0 rfl, cellOf h1 1 rfl, cellOf h2 0 rfl⟩
    have HD0 : Hid (Below X.heap.size X X.drew) := (Below.refl _ _).drew
    have k0 : (0 : Int) ≤ (k : Int) := by omega
    have k1 : (k : Int) < (d : Int) := by omega
    have kw : IntKind.i64.wrap ((k : Int) + 1) = (k : Int) + 1 := IntWalk.i64_in _ ⟨by omega, by omega⟩
    have km : IntKind.i64.wrap (((k : Int) + 1) * ap) = ((k : Int) + 1) * ap := IntWalk.i64_in _ ⟨by omega, by omega⟩
    have kx : IntKind.i64.wrap (day - ((k : Int) + 1) * ap) = x := by rw [hx]; exact IntWalk.i64_in _ ⟨by omega, by omega⟩
    obtain ⟨z0, z1, z2⟩ := HSS.out X (Below.refl _ _)
    clear hx hJk
    gi_upto_region 3 with fail
    gi_region_with (first | (refine ⟨trivial, fun _ => by omega, (callsIn_wide.2 (HAP.out _)).mono ?_⟩; rintro _ W9 ⟨rfl, hb9⟩; have HB9 : Hid (Below X.heap.size X W9) := HD0.out.trans (hb9.mono HD0.out.size); obtain ⟨z0', z1', z2'⟩ := HSS.out W9 HB9.out; obtain ⟨fn, tmps, assign, body, hy, hR⟩ := HYK.out W9 HB9.out) | (refine ⟨fun _ => by omega, hR.mono ?_⟩; rintro e W4 hor; obtain ⟨b, rfl, hp⟩ := yret hor))
    all_goals
      clear kw km kx z0 z1 z2 z0' z1' z2' hy hR HYK HSS
      cases b
      · have HX : Hid (∃ pre, pre <+: looksS N m day d ∧ Jx pre W4) := ⟨_, looksS_pre N m day (k := k + 1) (by omega), hp.out.2 rfl⟩
        clear hp
        gi_wp2
        refine bodyPost_ret (results_none rfl _ _ _) rfl ?_
        exact ⟨⟨_, rfl⟩, .inr HX.out⟩
      · have HJ4 : Hid (J (looksS N m day (k + 1)) W4) := (hp.out.1 rfl).1
        have HK4 := Lib.hid (hp.out.1 rfl).2
        have HB4 : Hid (Blk W4 Mb 56 #[.int .i64 kd, .int .i64 (d : Int)] ∧ Blk W4 Db 3 #[.int .i64 day]) := ⟨HK4.out.2.1.trans (hBK.out.1.below HB9.out hBK.out.1.lt), HK4.out.2.2.trans (hBK.out.2.below HB9.out hBK.out.2.lt)⟩
        have HN4 : Hid (n₀ ≤ W4.heap.size) := Nat.le_trans (Nat.le_trans hNX.out HB9.out.size) HK4.out.1.size
        clear hp
        gi_wp2
        go_roundw
        case rel => exact ⟨k + 1, by omega, by go_num, HJ4, HB4, HN4⟩
        case measure => simp [intOf]; omega
end Go.Proofs.Ytlmpbmlbllndcaa
