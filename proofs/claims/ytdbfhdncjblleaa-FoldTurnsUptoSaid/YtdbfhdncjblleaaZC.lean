/-
  Turn.
-/
import Derived.Test.YtdbfhdncjblleaaZB
import Derived.StillTailTactics
namespace Go.Proofs.Ytdbfhdncjblleaa
open Go.RowKit

theorem small_ok {r : RunD} (h : checkE r = 0) : SmallRun r := by
  have hn := numbers_ok (parts_ok h 0 (by omega))
  have hw := webs_ok (parts_ok h 1 (by omega))
  refine ⟨by omega, by omega, by omega, fun x hx => ?_, fun s hs => ?_⟩
  · obtain ⟨h1, h2, h3, h4, -, h5, -⟩ := hw x hx
    have h6 : 2 * x.rows * x.cols ≤ 4 * 4 := Int.mul_le_mul (by omega) h2 (by omega) (by omega)
    omega
  · obtain ⟨k, hk, rfl⟩ := List.getElem_of_mem hs
    have := stack_len h (List.getElem?_eq_getElem hk)
    omega

def turnRib (x : RibD) : RibD := { x with turned := !x.turned }
def turnD (r : RunD) (i : Int) : RunD := { r with ribs := r.ribs.set i.toNat (turnRib (r.ribs.getD i.toNat default)) }
def turnE (r : RunD) (i : Int) : Int := if checkE r ≠ 0 then checkE r else if i < 0 ∨ (r.ribs.length : Int) ≤ i then 6 else 0
def runRet0 : Value := .agg #[.slice none 0 0, .slice none 0 0, .slice none 0 0, .bool false]
/-- What Turn gives. -/
def TurnRet (r : RunD) (i : Int) (w : World) (e : Ending) (w' : World) : Prop :=
  ∃ u, e = .returned (.tuple #[u, .int .i64 (turnE r i)]) ∧ (turnE r i = 0 → ORun w.heap.size w' u (turnD r i)) ∧ (turnE r i ≠ 0 → u = runRet0) ∧ Below w.heap.size w w'

theorem rib_set : ∀ (l : List RibD) (i : Nat) (x : RibD) (b : Bool), l[i]? = some x → (l.flatMap RibD.cells).set (i * 5 + 3) (.bool b) = (l.set i { x with turned := b }).flatMap RibD.cells
  | [], i, x, b, h => by simp at h
  | y :: l, 0, x, b, h => by
    simp only [List.getElem?_cons_zero, Option.some.injEq] at h
    subst h
    simp [List.flatMap_cons, RibD.cells]
  | y :: l, i + 1, x, b, h => by
    rw [List.set_cons_succ, List.flatMap_cons, List.flatMap_cons, ← rib_set l i x b (by simpa using h), List.set_append_right (h := by simp [RibD.cells]; omega)]
    congr 2
    simp [RibD.cells]; omega
theorem ownsRow_block {base n k c : Nat} {w : World} {e : TypeId} {A : Option Addr} {xs : List Value} (h : w.ownsRow base e k (.slice A n c) n xs) (hn : 0 < n) : ∃ g, A = some ⟨g, 0, none⟩ ∧ base ≤ g ∧ g < w.heap.size := by
  rcases h.2 with ⟨-, h2⟩ | ⟨g, cap, cur, he, hb, hh, -⟩
  · omega
  · cases he
    exact ⟨g, rfl, hb, (Array.getElem?_eq_some_iff.1 hh).1⟩
/-- The ribbon's bool is stored. -/
theorem ORibs.set {base : Nat} {w : World} {l : List RibD} {g n c : Nat} (h : ORibs base w (.slice (some ⟨g, 0, none⟩) n c) l) {i : Nat} {x : RibD} (hx : l[i]? = some x) (b : Bool) :
    ORibs base (w.setCell ⟨g, i * 5 + 3, none⟩ (.bool b)) (.slice (some ⟨g, 0, none⟩) n c) (l.set i { x with turned := b }) ∧ ∃ cs, Blk w g 91 cs := by
  unfold ORibs at h ⊢
  obtain ⟨h1, h2⟩ := h
  rcases h2 with ⟨h2, -⟩ | ⟨g', cap, cur, he, hb, hh, hn, hm, hs, ht⟩
  · cases h2
  · cases he
    have hk : Blk w g 91 cur := hh
    refine ⟨⟨?_, .inr ⟨g, c, _, by simp, hb, hk.put (i * 5 + 3) (.bool b), by simpa using hn, hm, by simpa using hs, ?_⟩⟩, cur, hk⟩
    · rw [← rib_set l i x b hx, List.length_set, List.length_set]; exact h1
    · rw [List.length_set, ← rib_set l i x b hx, ← ht, Array.toList_setIfInBounds, List.take_set]

theorem ORun.reads {b : Nat} {w : World} {v : Value} {r : RunD} (h : ORun b w v r) (hs : SmallRun r) : RRun w.heap.size w v r := by
  obtain ⟨v1, vs, v2, v3, rfl, ⟨h1, h2, h3, -⟩, h4, ws, h5, h6⟩ := h
  have hm : ∀ n, n ≤ 1000 → n ≤ maxLen := fun n hn => by simp only [maxLen]; omega
  exact ⟨_, _, _, rfl, ⟨vs, Rd.own h1 (hm _ hs.1), h2, fun i u x hu hx => Rd.own (h3 i u x hu hx) (hm _ (hs.2.2.2.1 x (List.mem_of_getElem? hx)))⟩, Rd.own h4 (hm _ hs.2.1),
    ws, Rd.own h5 (hm _ hs.2.2.1), by simpa using h5.1, fun i u x hu hx => Rd.own (h6 i u x hu hx) (hm _ (hs.2.2.2.2 x (List.mem_of_getElem? hx)))⟩

theorem ORun.drew {b : Nat} {w : World} {v : Value} {r : RunD} (h : ORun b w v r) : ORun b w.drew v r := h
theorem ORun.base_ {b b' : Nat} {w : World} {v : Value} {r : RunD} (h : ORun b w v r) (hb : b' ≤ b) : ORun b' w v r := by
  obtain ⟨v1, vs, v2, v3, rfl, ⟨h1, h2, h3, h4⟩, h5, ws, h6⟩ := h
  exact ⟨v1, vs, v2, v3, rfl, ⟨ownsRow_base h1 hb, h2, fun i u x hu hx => ownsRow_base (h3 i u x hu hx) hb, h4⟩, ownsRow_base h5 hb, ws, h6.base_ hb fun _ _ h => ownsRow_base h hb⟩
theorem fin_turn {w w3 X : World} {g : Nat} {r r' : RunD} {v1 v2 v3 : Value} {vs : List Value} {l : List RibD} (h7 : Blk X (w.heap.size + 1) 36 #[.slice none 0 0, .slice none 0 0, .slice none 0 0, .bool false])
    (h1 : OWebs w3.heap.size X v1 vs r.webs) (h2 : ORibs w3.heap.size X v2 l) (h3 : OIntss w3.heap.size X v3 r.stacks) (hb : w.heap.size ≤ w3.heap.size) (h5 : Below w.heap.size w X) (e1 : r'.webs = r.webs) (e2 : r'.ribs = l) (e3 : r'.stacks = r.stacks) (e4 : r'.coll = r.coll) :
    ORun w.heap.size ((((X.setCell ⟨w.heap.size + 1, 0, none⟩ v1).setCell ⟨w.heap.size + 1, 1, none⟩ v2).setCell ⟨w.heap.size + 1, 2, none⟩ v3).setCell ⟨w.heap.size + 1, 3, none⟩ (.bool r.coll)).drew (.agg #[v1, v2, v3, .bool r.coll]) r' ∧
    Below w.heap.size w ((((X.setCell ⟨w.heap.size + 1, 0, none⟩ v1).setCell ⟨w.heap.size + 1, 1, none⟩ v2).setCell ⟨w.heap.size + 1, 2, none⟩ v3).setCell ⟨w.heap.size + 1, 3, none⟩ (.bool r.coll)).drew := by
  have k1 := h7.put 0 v1
  have k2 := k1.put 1 v2
  have k3 := k2.put 2 v3
  have gr := (((Grew.set h7 0 v1).trans (Grew.set k1 1 v2)).trans (Grew.set k2 2 v3)).trans (Grew.set k3 3 (.bool r.coll))
  refine ⟨(ORun.base_ ⟨v1, vs, v2, v3, by rw [e4], by rw [e1]; exact h1.grew gr (by decide) (by decide), by rw [e2]; exact ownsRow_grew h2 gr (by decide), by rw [e3]; exact h3.grew gr (by decide) (by decide)⟩ hb).drew, (below_set4 h5 (by omega) _ _ _ _).drew⟩

set_option maxRecDepth 100000 in
set_option maxHeartbeats 2000000 in
theorem Turn_any (v : Value) (r : RunD) (i : Int) (w : World) (h : RRun w.heap.size w v r) : Calls Try.prog 35 #[v, .int .i64 i] w (TurnRet r i w) := by
  have hrun := Lib.hid h
  obtain ⟨A1, c1, A2, c2, A3, c3, rfl⟩ := h.shape
  clear h
  have F0 : ∃ W0, (w.alloc (.cells #[.slice A1 r.webs.length c1, .slice A2 r.ribs.length c2, .slice A3 r.stacks.length c3, .bool r.coll] 36)).alloc (.cells #[.slice none 0 0, .slice none 0 0, .slice none 0 0, .bool false] 36) = W0 ∧
      W0.heap.size = w.heap.size + 2 ∧ Below w.heap.size w W0 ∧ Blk W0 w.heap.size 36 #[.slice A1 r.webs.length c1, .slice A2 r.ribs.length c2, .slice A3 r.stacks.length c3, .bool r.coll] ∧
      Blk W0 (w.heap.size + 1) 36 #[.slice none 0 0, .slice none 0 0, .slice none 0 0, .bool false] := by
    refine ⟨_, rfl, by simp, ((Below.refl _ _).alloc (Nat.le_refl _) _).alloc (by simp) _, (Blk.new _ _ _).alloc _, ?_⟩
    have := Blk.new (w.alloc (.cells #[.slice A1 r.webs.length c1, .slice A2 r.ribs.length c2, .slice A3 r.stacks.length c3, .bool r.coll] 36)) 36 #[.slice none 0 0, .slice none 0 0, .slice none 0 0, .bool false]
    rw [World.size_alloc] at this
    exact this
  obtain ⟨W0, e0, z0, B0, V0, V1⟩ := F0
  have E0 := Lib.hid e0
  have Z0 := Lib.hid z0
  clear e0 z0
  go_enter Try.func35, Try.ntmps35
  go_wp2_with fail
  rw [E0.out]
  refine (Check_any _ r _ ((hrun.out.below B0).more B0.size)).mono ?_
  rintro e w3 ⟨rfl, hb3⟩
  have V3 := V0.below hb3 (by rw [Z0.out]; omega)
  have R3 := V1.below hb3 (by rw [Z0.out]; omega)
  have B3 : Below w.heap.size w w3 := B0.trans (hb3.mono B0.size)
  clear V0 V1 B0 E0 hb3
  have hne2 : w.heap.size + 1 ≠ w.heap.size := by omega
  have d0 := cellOf R3 0 (x := .slice none 0 0) rfl
  have d1 := cellOf R3 1 (x := .slice none 0 0) rfl
  have d2 := cellOf R3 2 (x := .slice none 0 0) rfl
  have d3 := cellOf R3 3 (x := .bool false) rfl
  have f0 := R3.frozen 0
  have f1 := R3.frozen 1
  have f2 := R3.frozen 2
  have f3 := R3.frozen 3
  by_cases hck : checkE r = 0
  case neg =>
    have hck' : (checkE r != 0) = true := by simpa using hck
    have hE : turnE r i = checkE r := by unfold turnE; rw [if_pos hck]
    have HR : ∀ w', Below w.heap.size w w' → TurnRet r i w (.returned (.tuple #[runRet0, .int .i64 (checkE r)])) w' := fun w' hb => ⟨_, by rw [hE], fun h => absurd (hE ▸ h) hck, fun _ => rfl, hb⟩
    have HR' := Lib.hid HR
    have HB := Lib.hid (below_set4 B3 (Nat.le_succ w.heap.size) (.slice none 0 0) (.slice none 0 0) (.slice none 0 0) (.bool false))
    clear hck hE HR V3 R3
    generalize checkE r = ck at *
    go_wp2
    refine bodyPost_ret (v := .tuple #[runRet0, .int .i64 ck]) (by simp [results, Try.results35, go_sem, d0, d1, d2, d3, runRet0]) rfl (HR'.out _ HB.out)
  have Hok := Lib.hid hck
  rw [hck]
  have v1 := cellOf V3 1 (x := .slice A2 r.ribs.length c2) rfl
  by_cases hr1 : i < 0
  · have hE : turnE r i = 6 := by unfold turnE; rw [if_neg (by rw [hck]; simp), if_pos (.inl hr1)]
    have HR : ∀ w', Below w.heap.size w w' → TurnRet r i w (.returned (.tuple #[runRet0, .int .i64 6])) w' := fun w' hb => ⟨_, by rw [hE], fun h => absurd h (by rw [hE]; decide), fun _ => rfl, hb⟩
    have HR' := Lib.hid HR
    have HB := Lib.hid (below_set4 B3 (Nat.le_succ w.heap.size) (.slice none 0 0) (.slice none 0 0) (.slice none 0 0) (.bool false))
    clear hck hE HR V3 R3
    go_wp2
    refine bodyPost_ret (v := .tuple #[runRet0, .int .i64 6]) (by simp [results, Try.results35, go_sem, d0, d1, d2, d3, runRet0]) rfl (HR'.out _ HB.out)
  by_cases hr2 : (r.ribs.length : Int) ≤ i
  · have hE : turnE r i = 6 := by unfold turnE; rw [if_neg (by rw [hck]; simp), if_pos (.inr hr2)]
    have HR : ∀ w', Below w.heap.size w w' → TurnRet r i w (.returned (.tuple #[runRet0, .int .i64 6])) w' := fun w' hb => ⟨_, by rw [hE], fun h => absurd h (by rw [hE]; decide), fun _ => rfl, hb⟩
    have HR' := Lib.hid HR
    have HB := Lib.hid (below_set4 B3 (Nat.le_succ w.heap.size) (.slice none 0 0) (.slice none 0 0) (.slice none 0 0) (.bool false))
    clear hck hE HR V3 R3
    go_wp2
    refine bodyPost_ret (v := .tuple #[runRet0, .int .i64 6]) (by simp [results, Try.results35, go_sem, d0, d1, d2, d3, runRet0]) rfl (HR'.out _ HB.out)
  obtain ⟨k, rfl⟩ : ∃ k : Nat, i = k := ⟨i.toNat, by omega⟩
  have hk : k < r.ribs.length := by omega
  have HE : Hid (turnE r k = 0) := by show turnE r k = 0; unfold turnE; rw [if_neg (by rw [hck]; simp), if_neg (by omega)]
  obtain ⟨x, hx⟩ : ∃ x, r.ribs[k]? = some x := ⟨_, List.getElem?_eq_getElem hk⟩
  have HX := Lib.hid hx
  have hi1 : (k : Int) < (r.ribs.length : Int) := by omega
  have hcl := clone_any _ r w3 ((hrun.out.below B3).more B3.size) (small_ok hck)
  have HC := Lib.hid hcl
  have v0 := cellOf V3 0 (x := .slice A1 r.webs.length c1) rfl
  have v2 := cellOf V3 2 (x := .slice A3 r.stacks.length c3) rfl
  have v3 := cellOf V3 3 (x := .bool r.coll) rfl
  have HV3 := Lib.hid V3
  have HR3 := Lib.hid R3
  have n1 : w.heap.size + 1 < w3.heap.size := R3.lt
  clear hck hr1 hcl hx V3 R3
  go_wp2_with fail
  refine HC.out.mono ?_
  rintro e w4 ⟨u, rfl, hu, hb4⟩
  have B4 : Below w.heap.size w w4 := B3.trans (hb4.mono B3.size)
  obtain ⟨u1, vs, u2, u3, rfl, ow, orb, os⟩ := hu
  obtain ⟨D1, m1, rfl⟩ := ownsRow_form ow.1
  obtain ⟨D2, m2, rfl⟩ := ownsRow_form orb
  obtain ⟨D3, m3, rfl⟩ : ∃ A c, u3 = .slice A r.stacks.length c := by
    obtain ⟨ws, hws⟩ := os
    exact ownsRow_form hws.1
  obtain ⟨g, rfl, hg0, hg1⟩ := ownsRow_block orb (by omega)
  obtain ⟨hset, cs, hcs⟩ := orb.set HX.out (!x.turned)
  have hcell : w4.cell? ⟨g, k * 5 + 3, none⟩ = some (.bool x.turned) := by
    have := orb.cells (g := g) rfl (k * 5 + 3) (.bool x.turned) (flat_at RibD.cells 5 (fun _ => rfl) _ k 3 _ HX.out (by omega))
    rwa [Addr.add_lit, Nat.zero_add] at this
  have F5 : ∃ w5, w4.alloc (.cells #[.slice D1 r.webs.length m1, .slice (some ⟨g, 0, none⟩) r.ribs.length m2, .slice D3 r.stacks.length m3, .bool r.coll] 36) = w5 ∧ Below w4.heap.size w4 w5 ∧ w5.heap.size = w4.heap.size + 1 ∧
      Blk w5 w4.heap.size 36 #[.slice D1 r.webs.length m1, .slice (some ⟨g, 0, none⟩) r.ribs.length m2, .slice D3 r.stacks.length m3, .bool r.coll] :=
    ⟨_, rfl, (Below.refl _ _).alloc (Nat.le_refl _) _, by simp, Blk.new _ _ _⟩
  obtain ⟨w5, e5, hb5, z5, V5⟩ := F5
  have E5 := Lib.hid e5
  clear e5
  have V3 := HV3.out
  have R3 := HR3.out
  have R5 := (R3.below hb4 R3.lt).below hb5 (by have := hb4.size; omega)
  clear d0 d1 d2 d3 f0 f1 f2 f3 v0 v1 v2 v3 V3 R3
  go_upto_region 7 with fail
  rw [E5.out]
  have y1 := cellOf V5 1 (x := .slice (some ⟨g, 0, none⟩) r.ribs.length m2) rfl
  have y2 : w5.cell? ⟨g, k * 5 + 3, none⟩ = some (.bool x.turned) := (hb5.cell (p := ⟨g, k * 5 + 3, none⟩) hg1).trans hcell
  have y3 : w5.frozen? ⟨g, k * 5 + 3, none⟩ = false := (hcs.below hb5 hg1).frozen _
  go_still_tail 12, (by kernel_rfl)
  change wpList _ _ _ _ _ w5.drew
  have q0 := cellOf V5 0 (x := .slice D1 r.webs.length m1) rfl
  have q2 := cellOf V5 2 (x := .slice D3 r.stacks.length m3) rfl
  have q3 := cellOf V5 3 (x := .bool r.coll) rfl
  have t0 := cellOf R5 0 (x := .slice none 0 0) rfl
  have t1 := cellOf R5 1 (x := .slice none 0 0) rfl
  have t2 := cellOf R5 2 (x := .slice none 0 0) rfl
  have t3 := cellOf R5 3 (x := .bool false) rfl
  have f0 := R5.frozen 0
  have f1 := R5.frozen 1
  have f2 := R5.frozen 2
  have f3 := R5.frozen 3
  have hz4 := hb4.size
  have ha1 : w.heap.size + 1 ≠ g := by omega
  have ha2 : w4.heap.size ≠ g := by omega
  have ha3 : w4.heap.size ≠ w.heap.size + 1 := by omega
  have ha4 : g ≠ w.heap.size + 1 := by omega
  have ha5 : g ≠ w4.heap.size := by omega
  have hT : turnD r k = { r with ribs := r.ribs.set k { x with turned := !x.turned } } := by
    unfold turnD turnRib
    rw [Int.toNat_natCast, getD_of HX.out]
  have hX5 := ORibs.set (ownsRow_below orb hb5) HX.out (!x.turned)
  have gr1 : Grew 91 w5 (w5.setCell ⟨g, k * 5 + 3, none⟩ (.bool !x.turned)) := Grew.set (hcs.below hb5 hg1) _ _
  have hfin := fin_turn (g := g) (r' := turnD r k) (R5.grew gr1 (by decide)) ((ow.below hb5).grew gr1 (by decide) (by decide)) hX5.1 ((os.below hb5).grew gr1 (by decide) (by decide)) B3.size
    (((B4.trans (hb5.mono B4.size)).setCell (p := ⟨g, k * 5 + 3, none⟩) (by show w.heap.size ≤ g; have := B3.size; omega) (.bool !x.turned))) (by rw [hT]) (by rw [hT]) (by rw [hT]) (by rw [hT])
  have HFin := Lib.hid hfin
  clear hcell hset hcs orb ow os hT hX5 gr1 hfin
  go_wp2
  refine bodyPost_ret (v := .tuple #[.agg #[.slice D1 r.webs.length m1, .slice (some ⟨g, 0, none⟩) r.ribs.length m2, .slice D3 r.stacks.length m3, .bool r.coll], .int .i64 0]) (by simp [results, Try.results35, go_sem, t0, t1, t2, t3, ha1]) rfl ⟨_, by rw [HE.out], fun _ => HFin.out.1, fun h => absurd HE.out h, HFin.out.2⟩

end Go.Proofs.Ytdbfhdncjblleaa
