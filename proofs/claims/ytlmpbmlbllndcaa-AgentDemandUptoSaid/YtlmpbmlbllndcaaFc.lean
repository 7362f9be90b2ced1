/-
  Shares: the comparison of two agents' parts.
-/
import Derived.Test.YtlmpbmlbllndcaaFb
namespace Go.Proofs.Ytlmpbmlbllndcaa
open Go.RowKit
attribute [local go_sem] Oper.semAt_some

/-- What the comparison of parts reads: what was given, and the orders. -/
structure ShSt (Gb gr Lb : Nat) (l : List OrdD) (g : List Int) (w : World) : Prop where
  box : ∃ lv, Blk w Lb 30 #[lv] ∧ ∃ B, ROrds B w lv l
  gbox : Blk w Gb 31 #[.slice (some ⟨gr, 0, none⟩) l.length l.length]
  row : Blk w gr 3 (g.map (Value.int .i64)).toArray
  len : g.length = l.length
theorem ShSt.cells {Gb gr Lb : Nat} {l : List OrdD} {g : List Int} {w : World} (h : ShSt Gb gr Lb l g w) : ∃ A c, w.cell? ⟨Lb, 0, none⟩ = some (.slice A l.length c) ∧ w.cell? ⟨Gb, 0, none⟩ = some (.slice (some ⟨gr, 0, none⟩) l.length l.length) ∧ l.length ≤ 9223372036854775807 ∧
    (∀ k x, l[k]? = some x → ∃ b o, A = some ⟨b, o, none⟩ ∧ w.cell? ⟨b, o + k * 3 + 1, none⟩ = some (.int .i64 x.cop)) ∧ (∀ k, k < l.length → w.cell? ⟨gr, k, none⟩ = some (.int .i64 (g.getD k 0))) := by
  obtain ⟨lv, h1, B, A, c, rfl, -, hm, hr⟩ := h.box
  refine ⟨A, c, cellOf h1 0 rfl, cellOf h.gbox 0 rfl, by simpa [maxLen] using hm, fun k x hx => ?_, fun k hk => ?_⟩
  · have hk : k < l.length := (List.getElem?_eq_some_iff.1 hx).1
    obtain ⟨b, o, hA, -, hc⟩ := hr (by omega)
    exact ⟨b, o, hA, hc _ _ (flat_at OrdD.cells 3 (fun _ => rfl) _ k 1 _ hx (by omega))⟩
  · refine cellOf h.row k ?_
    have hk2 : k < g.length := by rw [h.len]; exact hk
    simp only [List.getElem?_toArray, List.getElem?_map, List.getElem?_eq_getElem hk2, Option.map_some, List.getD_eq_getElem?_getD, Option.getD_some]
theorem copAt_of {l : List OrdD} {k : Nat} {x : OrdD} (h : l[k]? = some x) : copAt l k = x.cop := by
  unfold copAt; rw [h]; rfl
set_option maxRecDepth 100000 in
set_option maxHeartbeats 4000000 in
theorem byPart_any {Gb gr Lb : Nat} {l : List OrdD} {g : List Int} (i j : Nat) (hi : i < l.length) (hj : j < l.length) (hd : ∀ o ∈ l, o.ok) (hg : ∀ k, k < l.length → 0 ≤ g.getD k 0 ∧ g.getD k 0 ≤ 10000) (w : World) (h : ShSt Gb gr Lb l g w) :
    Calls Try.prog 129 #[.int .i64 i, .int .i64 j, .pointer (some ⟨Gb, 0, none⟩), .pointer (some ⟨Lb, 0, none⟩)] w fun e w' => e = .returned (.int .i64 (cmpI (g.getD i 0 * copAt l j) (g.getD j 0 * copAt l i))) ∧ ∃ q, w' = w.drewN q := by
  obtain ⟨A, c, c0, c1, hlm, hL, hG⟩ := h.cells
  obtain ⟨n, hn⟩ : ∃ n, l.length = n := ⟨_, rfl⟩
  obtain ⟨x, hx⟩ : ∃ x, l[i]? = some x := ⟨_, List.getElem?_eq_getElem hi⟩
  obtain ⟨y, hy⟩ : ∃ x, l[j]? = some x := ⟨_, List.getElem?_eq_getElem hj⟩
  obtain ⟨b, o, rfl, c2⟩ := hL i x hx
  obtain ⟨b', o', e, c3⟩ := hL j y hy
  cases e
  have c4 := hG i hi
  have c5 := hG j hj
  rw [copAt_of hx, copAt_of hy]
  obtain ⟨p1, p2⟩ := hg i hi
  obtain ⟨q1, q2⟩ := hg j hj
  obtain ⟨-, ⟨a1, a2⟩, -⟩ := hd x (List.mem_of_getElem? hx)
  obtain ⟨-, ⟨b1, b2⟩, -⟩ := hd y (List.mem_of_getElem? hy)
  obtain ⟨xc, hxc⟩ : ∃ z, x.cop = z := ⟨_, rfl⟩
  obtain ⟨yc, hyc⟩ : ∃ z, y.cop = z := ⟨_, rfl⟩
  obtain ⟨gi, hgi⟩ : ∃ z, g.getD i 0 = z := ⟨_, rfl⟩
  obtain ⟨gj, hgj⟩ : ∃ z, g.getD j 0 = z := ⟨_, rfl⟩
  rw [hxc] at a1 a2 c2 ⊢
  rw [hyc] at b1 b2 c3 ⊢
  rw [hgi] at p1 p2 c4 ⊢
  rw [hgj] at q1 q2 c5 ⊢
  rw [hn] at hi hj hlm c0 c1
  have m1 : 0 ≤ gi * yc ∧ gi * yc ≤ 1000000000000 := ⟨Int.mul_nonneg p1 b1, Int.le_trans (Int.mul_le_mul p2 b2 b1 (by omega)) (by omega)⟩
  have m2 : 0 ≤ gj * xc ∧ gj * xc ≤ 1000000000000 := ⟨Int.mul_nonneg q1 a1, Int.le_trans (Int.mul_le_mul q2 a2 a1 (by omega)) (by omega)⟩
  have C := Lib.hid (fun w => parts_any gi xc gj yc m1 m2 w)
  have i0 : (0 : Int) ≤ (i : Int) := by omega
  have i1 : (i : Int) < (n : Int) := by omega
  have j0 : (0 : Int) ≤ (j : Int) := by omega
  have j1 : (j : Int) < (n : Int) := by omega
  clear h hL hG hx hy hd hg hxc hyc hgi hgj hn m1 m2 p1 p2 q1 q2 a1 a2 b1 b2
  go_enter Try.func129, Try.ntmps129
  go_upto_region 1 with fail
  go_quiet ((go_at_call 120; exact Calls.quiet_of_same (C.out _)))
  go_wp2_with fail
  go_ret
  exact ⟨rfl, _, rfl⟩
end Go.Proofs.Ytlmpbmlbllndcaa
