/-
  Shares: the comparison of two agents' parts.
  Where the library's DeleteFunc lies in the program (its laying was printed by lay-plain.mjs); those who want a copy, less one.
-/
import Derived.Test.YtlmpbmlbllndcaaMbc
import Derived.Shelf.SlGeneric
import Derived.Shelf.SlLaysH
import Derived.Ground.SlgfProg
import Derived.Shelf.SlicesE.DeleteFunc
namespace Go.Proofs.Ytlmpbmlbllndcaa
open Go.RowKit
attribute [local go_sem] Oper.semAt_some

/-- What the comparison of parts reads: what was given, and the orders. -/
structure ShSt (Gb gr Lb : Nat) (l : List OrdD) (g : List Int) (w : World) : Prop where
  box : ∃ lv, Blk w Lb 30 #[lv] ∧ ∃ B, ROrds B w lv l
  gbox : Blk w Gb 31 #[.slice (some ⟨gr, 0, none⟩) l.length l.length]
  row : Blk w gr 3 (g.map (Value.int .i64)).toArray
  len : g.length = l.length
theorem ShSt.cells {Gb gr Lb : Nat} {l : List OrdD} {g : List Int} {w : World} (h : ShSt Gb gr Lb l g w) : ∃ A c, w.cell? ⟨Lb, 0, none⟩ = some (.slice A l.length c) ∧ w.cell? ⟨Gb, 0, none⟩ = some (.slice (some ⟨gr, 0, none⟩) l.length l.length) ∧ l.length ≤ 9223372036854775807 ∧
    (∀ k x, l[k]? = some x → ∃ b o, A = some ⟨b, o, none⟩ ∧ w.cell? ⟨b, o + k * 3 + 1, none⟩ = some (.int .i64 x.cop)) ∧ (∀ k, k < l.length → w.cell? ⟨gr, k, none⟩ = some (.int .i64 (g.getD k 0))) := by
  obtain ⟨lv, h1, B, A, c, rfl, -, hm, hr⟩ := h.box
  refine ⟨A, c, cellOf h1 0 rfl, cellOf h.gbox 0 rfl, by simpa [maxLen] using hm, fun k x hx => ?_, fun k hk => ?_⟩
  · have hk : k < l.length := (List.getElem?_eq_some_iff.1 hx).1
    obtain ⟨b, o, hA, -, hc⟩ := hr (by omega)
    exact ⟨b, o, hA, hc _ _ (flat_at OrdD.cells 3 (fun _ => rfl) _ k 1 _ hx (by omega))⟩
  · refine cellOf h.row k ?_
    have hk2 : k < g.length := by rw [h.len]; exact hk
    simp only [List.getElem?_toArray, List.getElem?_map, List.getElem?_eq_getElem hk2, Option.map_some, List.getD_eq_getElem?_getD, Option.getD_some]
theorem copAt_of {l : List OrdD} {k : Nat} {x : OrdD} (h : l[k]? = some x) : copAt l k = x.cop := by
  unfold copAt; rw [h]; rfl
set_option maxRecDepth 100000 in
set_option maxHeartbeats 4000000 in
theorem byPart_any {Gb gr Lb : Nat} {l : List OrdD} {g : List Int} (i j : Nat) (hi : i < l.length) (hj : j < l.length) (hd : ∀ o ∈ l, o.ok) (hg : ∀ k, k < l.length → 0 ≤ g.getD k 0 ∧ g.getD k 0 ≤ 10000) (w : World) (h : ShSt Gb gr Lb l g w) :
    Calls Try.prog 129 #[.int .i64 i, .int .i64 j, .pointer (some ⟨Gb, 0, none⟩), .pointer (some ⟨Lb, 0, none⟩)] w fun e w' => e = .returned (.int .i64 (cmpI (g.getD i 0 * copAt l j) (g.getD j 0 * copAt l i))) ∧ ∃ q, w' = w.drewN q := by
  obtain ⟨A, c, c0, c1, hlm, hL, hG⟩ := h.cells
  obtain ⟨n, hn⟩ : ∃ n, l.length = n := ⟨_, rfl⟩
  obtain ⟨x, hx⟩ : ∃ x, l[i]? = some x := ⟨_, List.getElem?_eq_getElem hi⟩
  obtain ⟨y, hy⟩ : ∃ x, l[j]? = some x := ⟨_, List.getElem?_eq_getElem hj⟩
  obtain ⟨b, o, rfl, c2⟩ := hL i x hx
  obtain ⟨b', o', e, c3⟩ := hL j y hy
  cases e
  have c4 := hG i hi
  have c5 := hG j hj
  rw [copAt_of hx, copAt_of hy]
  obtain ⟨p1, p2⟩ := hg i hi
  obtain ⟨q1, q2⟩ := hg j hj
  obtain ⟨-, ⟨a1, a2⟩, -⟩ := hd x (List.mem_of_getElem? hx)
  obtain ⟨-, ⟨b1, b2⟩, -⟩ := hd y (List.mem_of_getElem? hy)
  obtain ⟨xc, hxc⟩ : ∃ z, x.cop = z := ⟨_, rfl⟩
  obtain ⟨yc, hyc⟩ : ∃ z, y.cop = z := ⟨_, rfl⟩
  obtain ⟨gi, hgi⟩ : ∃ z, g.getD i 0 = z := ⟨_, rfl⟩
  obtain ⟨gj, hgj⟩ : ∃ z, g.getD j 0 = z := ⟨_, rfl⟩
  rw [hxc] at a1 a2 c2 ⊢
  rw [hyc] at b1 b2 c3 ⊢
  rw [hgi] at p1 p2 c4 ⊢
  rw [hgj] at q1 q2 c5 ⊢
  rw [hn] at hi hj hlm c0 c1
  have m1 : 0 ≤ gi * yc ∧ gi * yc ≤ 1000000000000 := ⟨Int.mul_nonneg p1 b1, Int.le_trans (Int.mul_le_mul p2 b2 b1 (by omega)) (by omega)⟩
  have m2 : 0 ≤ gj * xc ∧ gj * xc ≤ 1000000000000 := ⟨Int.mul_nonneg q1 a1, Int.le_trans (Int.mul_le_mul q2 a2 a1 (by omega)) (by omega)⟩
  have C := Lib.hid (fun w => parts_any gi xc gj yc m1 m2 w)
  have i0 : (0 : Int) ≤ (i : Int) := by omega
  have i1 : (i : Int) < (n : Int) := by omega
  have j0 : (0 : Int) ≤ (j : Int) := by omega
  have j1 : (j : Int) < (n : Int) := by omega
  clear h hL hG hx hy hd hg hxc hyc hgi hgj hn m1 m2 p1 p2 q1 q2 a1 a2 b1 b2
  go_enter Try.func129, Try.ntmps129
  go_upto_region 1 with fail
  go_quiet ((go_at_call 120; exact Calls.quiet_of_same (C.out _)))
  go_wp2_with fail
  go_ret
  exact ⟨rfl, _, rfl⟩
end Go.Proofs.Ytlmpbmlbllndcaa

namespace Go.Proofs.Ytlmpbmlbllndcaa
open Go.Shelf

def delL_ren : Go.Shelf.Ren := ⟨fun | 10 => 131 | 6 => 146 | n => n, fun | 22 => 31 | 23 => 3 | 25 => 171 | 3 => 3 | 4 => 4 | 0 => 0 | n => n, fun | n => n⟩
theorem delL : Go.Proofs.SlLaysH.n10 Try.prog delL_ren := {
  mixed := by kernel_rfl
  f6 := ⟨Try.f146.name, by decide, Try.func146.trans (congrArg some (by kernel_rfl))⟩
  f10 := ⟨Try.f131.name, by decide, Try.func131.trans (congrArg some (by kernel_rfl))⟩
  t0 := Try.underlying0
  a0 := Try.isAgg0
  z0 := Try.sizeOf0
  v0 := Try.zeroValue0
  t3 := Try.underlying3
  a3 := Try.isAgg3
  z3 := Try.sizeOf3
  v3 := Try.zeroValue3
  t4 := Try.underlying4
  a4 := Try.isAgg4
  z4 := Try.sizeOf4
  v4 := Try.zeroValue4
  t22 := Try.underlying31
  a22 := Try.isAgg31
  z22 := Try.sizeOf31
  v22 := Try.zeroValue31
  a23 := Try.isAgg3
  z23 := Try.sizeOf3
  t25 := Try.underlying171
  a25 := Try.isAgg171
  z25 := Try.sizeOf171
  v25 := Try.zeroValue171 }
open Go.RowKit
attribute [local go_sem] Oper.semAt_some
set_option maxHeartbeats 1000000 in
theorem isNext_any (next x : Int) (nb : Nat) (W : World) (hc : W.cell? ⟨nb, 0, none⟩ = some (.int .i64 next)) : FnGives Try.prog 132 #[.pointer (some ⟨nb, 0, none⟩)] #[.int .i64 x] (.bool (x == next)) W := by
  show Calls Try.prog 132 #[.int .i64 x, .pointer (some ⟨nb, 0, none⟩)] W _
  go_enter Try.func132, Try.ntmps132
  go_wp2
  go_ret
  exact ⟨rfl, 0, rfl⟩
/-- A row that holds numbers, of which the function may write. -/
def WRow (b : Nat) (L : List Int) (w : World) : Prop := Sort.Holds (Value.int .i64) w b 0 L.toArray
theorem keptBut_putRow (w : World) (q b : Nat) (d : Array Int) : KeptBut (fun k => k = b) w (Sort.putRow (Value.int .i64) (Sort.ahead w q) b 0 d) :=
  ⟨rfl, rfl, rfl, by simp [Sort.ahead], fun k hk hs => by
    show ((Sort.ahead w q).heap.modify b _)[k]? = _
    rw [Array.getElem?_modify, if_neg (fun e => hs e.symm)]
    rfl⟩
theorem WRow.cell {b : Nat} {L : List Int} {w : World} (h : WRow b L w) {k : Nat} {x : Int} (hx : L[k]? = some x) : w.cell? ⟨b, k, none⟩ = some (.int .i64 x) := by
  obtain ⟨hk, rfl⟩ := List.getElem?_eq_some_iff.1 hx
  have := (h k (by simpa using hk)).1
  rw [Nat.zero_add, getElem!_pos L.toArray k (by simpa using hk)] at this
  simpa using this
theorem WRow.kept {b : Nat} {L : List Int} {w w' : World} {S : Nat → Prop} (h : WRow b L w) (hb : b < w.heap.size) (hk : KeptBut S w w') (hs : ¬ S b) : WRow b L w' := fun j hj => by
  obtain ⟨h1, h2⟩ := h j hj
  have e := hk.block b hb hs
  exact ⟨(World.cell?_of_block e).trans h1, by
    unfold World.frozen? at h2 ⊢
    simp only [e]
    exact h2⟩
set_option maxHeartbeats 1000000 in
theorem del_any (next : Int) (nb b cp : Nat) (L : List Int) (w : World) (hn : nb < w.heap.size) (hne : nb ≠ b) (hc : w.cell? ⟨nb, 0, none⟩ = some (.int .i64 next)) (hW : WRow b L w) (hb : b < w.heap.size) (hl : L.length ≤ 9223372036854775807) (hcp : L.length ≤ cp) :
    Calls Try.prog 131 #[.slice (some ⟨b, 0, none⟩) L.length cp, .func (.func 132) #[] #[.pointer (some ⟨nb, 0, none⟩)]] w fun e w' =>
      e = .returned (.slice (some ⟨b, 0, none⟩) (L.filter fun x => !(x == next)).length cp) ∧ WRow b (L.filter fun x => !(x == next)) w' ∧ KeptBut (fun k => k = b) w w' := by
  have eg : ∀ args w, (callFunc 132 args).run Try.prog w = .ok (.enter 132 args) w := enters_of Try.func132 (by kernel_rfl) rfl
  have hcon := AnyE.slices_DeleteFunc delL (Value.int .i64) (fun _ => rfl) (fun x => x == next) 132 #[.pointer (some ⟨nb, 0, none⟩)] eg 0 Try.zeroValue3 b 0 cp L.toArray w
    (fun W x hB => isNext_any next x nb W ((hB.cell (p := ⟨nb, 0, none⟩) hn).trans hc))
    (fun n os dk x _ => isNext_any next x nb _ (by
      unfold sortWorld
      rw [Sort.cell?_grow _ _ _ (by show nb < (Sort.putRow _ _ _ _ _).heap.size; rw [Sort.size_putRow]; exact hn), Sort.cell?_putRow_other _ _ b 0 _ _ (Or.inl hne)]
      exact hc)) hW (by simpa using hl) (by simpa using hcp)
  change Calls Try.prog 131 _ _ _ at hcon
  refine Calls.mono hcon ?_
  rintro e w' ⟨rfl, q, rfl⟩
  refine ⟨rfl, fun j hj => ?_, keptBut_putRow w q b _⟩
  have hle : (L.filter fun x => !(x == next)).length ≤ L.length := List.length_filter_le _ _
  have hs : ((L.filter fun x => !(x == next)) ++ List.replicate (L.toArray.size - (L.filter fun x => !(x == next)).length) 0).toArray.size = L.toArray.size := by simp; omega
  have hj1 : j < (L.filter fun x => !(x == next)).length := by simpa using hj
  have h1 := Sort.holds_putRow (Value.int .i64) (Sort.ahead w q) b 0 L.toArray _ (Sort.holds_ahead (Value.int .i64) w q b 0 L.toArray hW) hs j (by rw [hs]; simp; omega)
  refine ⟨?_, h1.2⟩
  rw [h1.1, getElem!_pos _ j (by rw [hs]; simp; omega), getElem!_pos _ j hj]
  congr 1
  simp [List.getElem_append, hj1]
end Go.Proofs.Ytlmpbmlbllndcaa
