/-
  Sizes; Cut.
-/
import Derived.Test.YtdbfhdncjblleaaT
namespace Go.Proofs.Ytdbfhdncjblleaa
open Go.RowKit

theorem layout_small {r : RunD} (h : checkE r = 0) : ((layoutD r).getD 0 []).length ≤ 100 := by
  have h4 := (numbers_ok (parts_ok h 0 (by omega))).2.2.2.2.2
  have h2 := rows_two h
  cases hc : r.coll with
  | true =>
    rw [layout_coll hc]
    show (collectedD r).length ≤ 100
    have := flat_len h r.stacks.length
    rw [List.take_length] at this
    unfold collectedD
    omega
  | false =>
    rw [layout_straight hc, List.getD_eq_getElem?_getD]
    have hl : 0 < ((List.range (rows0 r).toNat).map fun (row : Nat) => straightD r row).length := by rw [List.length_map, List.length_range]; omega
    rw [List.getElem?_eq_getElem hl]
    simp only [Option.getD_some, List.getElem_map]
    unfold straightD
    rw [List.length_map]
    omega

/-- What Sizes gives: a slice of one's own, or nil and the error. -/
def SizesRet (r : RunD) (w : World) (e : Ending) (w' : World) : Prop :=
  ∃ u, e = .returned (.tuple #[u, .int .i64 (checkE r)]) ∧ (checkE r = 0 → w'.ownsRow w.heap.size 3 1 u (sizesD r).length ((sizesD r).map (Value.int .i64))) ∧ (checkE r ≠ 0 → u = .slice none 0 0) ∧ Below w.heap.size w w'

set_option maxRecDepth 100000 in
set_option maxHeartbeats 1000000 in
theorem Sizes_any (v : Value) (r : RunD) (w : World) (h : RRun w.heap.size w v r) : Calls Try.prog 18 #[v] w (SizesRet r w) := by
  have hrun := Lib.hid h
  obtain ⟨A1, c1, A2, c2, A3, c3, rfl⟩ := h.shape
  clear h
  have F0 : ∃ W0, (w.alloc (.cells #[.slice A1 r.webs.length c1, .slice A2 r.ribs.length c2, .slice A3 r.stacks.length c3, .bool r.coll] 36)).alloc (.cells #[.slice A1 r.webs.length c1, .slice A2 r.ribs.length c2, .slice A3 r.stacks.length c3, .bool r.coll] 111) = W0 ∧
      W0.heap.size = w.heap.size + 2 ∧ Below w.heap.size w W0 ∧ Blk W0 (w.heap.size + 1) 111 #[.slice A1 r.webs.length c1, .slice A2 r.ribs.length c2, .slice A3 r.stacks.length c3, .bool r.coll] := by
    refine ⟨_, rfl, by simp, ((Below.refl _ _).alloc (Nat.le_refl _) _).alloc (by simp) _, ?_⟩
    have := Blk.new (w.alloc (.cells #[.slice A1 r.webs.length c1, .slice A2 r.ribs.length c2, .slice A3 r.stacks.length c3, .bool r.coll] 36)) 111 #[.slice A1 r.webs.length c1, .slice A2 r.ribs.length c2, .slice A3 r.stacks.length c3, .bool r.coll]
    rw [World.size_alloc] at this
    exact this
  obtain ⟨W0, e0, z0, B0, V0⟩ := F0
  have E0 := Lib.hid e0
  have Z0 := Lib.hid z0
  clear e0 z0
  go_enter Try.func18, Try.ntmps18
  go_wp2_with fail
  rw [E0.out]
  refine (check_any _ r _ ((hrun.out.below B0).more B0.size)).mono ?_
  rintro e w3 ⟨rfl, hb3⟩
  have V3 := V0.below hb3 (by rw [Z0.out]; omega)
  have B3 : Below w.heap.size w w3 := B0.trans (hb3.mono B0.size)
  clear V0 B0 E0 hb3
  have v0 := cellOf V3 0 (x := .slice A1 r.webs.length c1) rfl
  have v1 := cellOf V3 1 (x := .slice A2 r.ribs.length c2) rfl
  have v2 := cellOf V3 2 (x := .slice A3 r.stacks.length c3) rfl
  have v3 := cellOf V3 3 (x := .bool r.coll) rfl
  clear V3
  by_cases hck : checkE r = 0
  case neg =>
    have hck' : (checkE r != 0) = true := by simpa using hck
    have HR : ∀ e, e = .returned (.tuple #[.slice none 0 0, .int .i64 (checkE r)]) → SizesRet r w e w3 := fun e he => ⟨_, he, fun h => absurd h hck, fun _ => rfl, B3⟩
    have HR' := Lib.hid HR
    clear hck HR
    generalize checkE r = ck at *
    go_wp2
    go_ret2
    exact HR'.out _ rfl
  have Hok := Lib.hid hck
  rw [hck]
  clear hck
  go_wp2_with fail
  refine (sizes_any _ r _ ((hrun.out.below B3).more B3.size) Hok.out (layout_small Hok.out)).mono ?_
  rintro e w4 ⟨u, rfl, hu, hb4⟩
  have HR : ∀ e, e = .returned (.tuple #[u, .int .i64 0]) → SizesRet r w e w4 := fun e he => ⟨_, by rw [Hok.out]; exact he, fun _ => ownsRow_base hu B3.size, fun h => absurd Hok.out h, B3.trans (hb4.mono B3.size)⟩
  have HR' := Lib.hid HR
  clear HR hu hb4 v0 v1 v2 v3
  go_wp2
  go_ret2
  exact HR'.out _ rfl

def CutRet (r : RunD) (n : Int) : Value := if checkE r ≠ 0 then .tuple #[.int .i64 0, .int .i64 0, .int .i64 (checkE r)] else if n < 0 ∨ 1000000000 < n then .tuple #[.int .i64 0, .int .i64 0, .int .i64 6] else if r.coll then .tuple #[.int .i64 (n / 2), .int .i64 (n % 2), .int .i64 0] else .tuple #[.int .i64 n, .int .i64 0, .int .i64 0]

set_option maxRecDepth 100000 in
set_option maxHeartbeats 1000000 in
theorem Cut_any (v : Value) (r : RunD) (n : Int) (w : World) (h : RRun w.heap.size w v r) : Calls Try.prog 27 #[v, .int .i64 n] w fun e w' => e = .returned (CutRet r n) ∧ Below w.heap.size w w' := by
  have hrun := Lib.hid h
  obtain ⟨A1, c1, A2, c2, A3, c3, rfl⟩ := h.shape
  clear h
  have B0 : Below w.heap.size w (w.alloc (.cells #[.slice A1 r.webs.length c1, .slice A2 r.ribs.length c2, .slice A3 r.stacks.length c3, .bool r.coll] 36)) := (Below.refl _ _).alloc (Nat.le_refl _) _
  have V0 := Blk.new w 36 #[.slice A1 r.webs.length c1, .slice A2 r.ribs.length c2, .slice A3 r.stacks.length c3, .bool r.coll]
  have z0 : w.heap.size < (w.alloc (.cells #[.slice A1 r.webs.length c1, .slice A2 r.ribs.length c2, .slice A3 r.stacks.length c3, .bool r.coll] 36)).heap.size := by simp
  have HB := Lib.hid B0
  have HV := Lib.hid V0
  have HZ := Lib.hid z0
  clear B0 V0 z0
  go_enter Try.func27, Try.ntmps27
  go_wp2_with fail
  refine (Check_any _ r _ ((hrun.out.below HB.out).more HB.out.size)).mono ?_
  rintro e w3 ⟨rfl, hb3⟩
  have V3 := HV.out.below hb3 HZ.out
  have v3 := cellOf V3 3 (x := .bool r.coll) rfl
  have B3 : Below w.heap.size w w3 := HB.out.trans (hb3.mono HB.out.size)
  clear V3 hb3
  by_cases hck : checkE r = 0
  case neg =>
    have hck' : (checkE r != 0) = true := by simpa using hck
    have Hn : Hid (CutRet r n = .tuple #[.int .i64 0, .int .i64 0, .int .i64 (checkE r)]) := by show CutRet r n = _; unfold CutRet; rw [if_pos hck]
    clear hck
    generalize checkE r = ck at *
    go_wp2
    go_ret3
    exact ⟨by rw [Hn.out]; rfl, B3⟩
  have hc0 : ¬ checkE r ≠ 0 := fun h => h hck
  rw [hck]
  by_cases h1 : n < 0
  · have Hn : Hid (CutRet r n = .tuple #[.int .i64 0, .int .i64 0, .int .i64 6]) := by show CutRet r n = _; unfold CutRet; rw [if_neg hc0, if_pos (.inl h1)]
    clear hck hc0
    go_wp2
    go_ret3
    exact ⟨by rw [Hn.out]; rfl, B3⟩
  by_cases h2 : 1000000000 < n
  · have Hn : Hid (CutRet r n = .tuple #[.int .i64 0, .int .i64 0, .int .i64 6]) := by show CutRet r n = _; unfold CutRet; rw [if_neg hc0, if_pos (.inr h2)]
    clear hck hc0
    go_wp2
    go_ret3
    exact ⟨by rw [Hn.out]; rfl, B3⟩
  have h3 : ¬ (n < 0 ∨ 1000000000 < n) := by omega
  have h4 : 0 ≤ n := by omega
  have h5 : n ≤ 1000000000 := by omega
  cases hcoll : r.coll
  · have Hn : Hid (CutRet r n = .tuple #[.int .i64 n, .int .i64 0, .int .i64 0]) := by show CutRet r n = _; unfold CutRet; rw [if_neg hc0, if_neg h3, hcoll]; rfl
    rw [hcoll] at v3
    clear hck hc0 h3 h1 h2 hcoll
    go_wp2
    go_ret3
    exact ⟨by rw [Hn.out]; rfl, B3⟩
  · have Hn : Hid (CutRet r n = .tuple #[.int .i64 (n / 2), .int .i64 (n % 2), .int .i64 0]) := by show CutRet r n = _; unfold CutRet; rw [if_neg hc0, if_neg h3, hcoll]; rfl
    rw [hcoll] at v3
    clear hck hc0 h3 h1 h2 hcoll
    go_wp2
    go_ret3
    exact ⟨by rw [Hn.out]; rfl, B3⟩
end Go.Proofs.Ytdbfhdncjblleaa
