/-
  The reference's Sizes and Cut, given what its Check returns (RefCheckOk: its proof is a text of its own, under way).
-/
import Derived.Test.YtdbfhdncjblleaaRd
namespace Go.Proofs.Ytdbfhdncjblleaa
open Go.RowKit

/-- What the reference's Check returns. -/
def RefCheckOk : Prop := ∀ (v : Value) (r : RunD) (w : World), RRun w.heap.size w v r → SmallRun r → Calls Try.prog 17 #[v] w fun e w' => e = .returned (.int .i64 (checkE r)) ∧ Below w.heap.size w w'

set_option maxRecDepth 100000 in
set_option maxHeartbeats 2000000 in
theorem refSizes_any (RC : RefCheckOk) (v : Value) (r : RunD) (w : World) (h : RRun w.heap.size w v r) (hsm : SmallRun r) : Calls Try.prog 19 #[v] w (SizesRet r w) := by
  obtain ⟨i0, hi, hz0, hz1, hz2⟩ := info_parts infoInt0
  have HRC := Lib.hid RC
  have HSM := Lib.hid hsm
  have hrun := Lib.hid h
  obtain ⟨A1, c1, A2, c2, A3, c3, rfl⟩ := h.shape
  clear h RC hsm
  have F0 : ∃ W0, w.alloc (.cells #[.slice A1 r.webs.length c1, .slice A2 r.ribs.length c2, .slice A3 r.stacks.length c3, .bool r.coll] 26) = W0 ∧ Below w.heap.size w W0 ∧ Blk W0 w.heap.size 26 #[.slice A1 r.webs.length c1, .slice A2 r.ribs.length c2, .slice A3 r.stacks.length c3, .bool r.coll] :=
    ⟨_, rfl, (Below.refl _ _).alloc (Nat.le_refl _) _, Blk.new _ _ _⟩
  obtain ⟨W0, e0, B0, V0⟩ := F0
  have E0 := Lib.hid e0
  have o0 := cellOf V0 0 (x := .slice A1 r.webs.length c1) rfl
  have o1 := cellOf V0 1 (x := .slice A2 r.ribs.length c2) rfl
  have o2 := cellOf V0 2 (x := .slice A3 r.stacks.length c3) rfl
  have o3 := cellOf V0 3 (x := .bool r.coll) rfl
  have C := Lib.hid (HRC.out _ r W0 ((hrun.out.below B0).more B0.size) HSM.out)
  clear e0
  go_enter Try.func19, Try.ntmps19
  go_upto_region 1 with fail
  rw [E0.out]
  go_wp2_with fail
  refine C.out.mono ?_
  rintro e w3 ⟨rfl, hb3⟩
  have B3 := B0.trans (hb3.mono B0.size)
  have V3 := V0.below hb3 V0.lt
  clear C o0 o1 o2 o3 V0 hb3
  by_cases hck : checkE r = 0
  case neg =>
    have hck' : (checkE r != 0) = true := by simpa using hck
    have HR : ∀ e, e = .returned (.tuple #[.slice none 0 0, .int .i64 (checkE r)]) → SizesRet r w e w3 := fun e he => ⟨_, he, fun h => absurd h hck, fun _ => rfl, B3⟩
    have HR' := Lib.hid HR
    clear hck HR V3
    generalize checkE r = ck at *
    go_wp2
    go_ret2
    exact HR'.out _ rfl
  rw [hck]
  have Hok := Lib.hid hck
  have o0 := cellOf V3 0 (x := .slice A1 r.webs.length c1) rfl
  have o1 := cellOf V3 1 (x := .slice A2 r.ribs.length c2) rfl
  have o2 := cellOf V3 2 (x := .slice A3 r.stacks.length c3) rfl
  have o3 := cellOf V3 3 (x := .bool r.coll) rfl
  have C := Lib.hid (All_any _ r w3 ((hrun.out.below B3).more B3.size) hck)
  obtain ⟨S, hS⟩ := layout_pos hck
  have HS := Lib.hid hS
  have hlen := layout_small hck
  rw [getD_of hS] at hlen
  clear hck V3 hS
  go_upto_region 4 with fail
  go_wp2_with fail
  refine C.out.mono ?_
  rintro e w4 ⟨u, rfl, hu, hb4⟩
  have B4 := B3.trans (hb4.mono B3.size)
  obtain ⟨A, c, rfl, -, hA⟩ := RAll.open_ hu.reads
  obtain ⟨g, o, u2, rfl, hg, m0, hp⟩ := hA 0 S HS.out
  simp only [Nat.add_zero] at m0
  obtain ⟨A5, c5, rfl, -, hA5⟩ := RAll.open_ hp
  have HA5 := Lib.hid hA5
  have hpos : (0 : Int) < ((layoutD r).length : Int) := by have := (List.getElem?_eq_some_iff.1 HS.out).1; omega
  clear C o0 o1 o2 o3 hu hA hp hA5 hb4
  go_wp2
  clear m0
  go_loopw [6, 7] (fun lv i wr => ∃ k : Nat, k ≤ S.length ∧ i = .int .i64 k ∧ wr.ownsRow w4.heap.size 3 1 lv k (((S.map fun s => (s.length : Int)).take k).map (Value.int .i64)) ∧ Below w4.heap.size w4 wr) (fun _ i _ => S.length - (intOf i).toNat)
  case atStart => exact ⟨0, Nat.zero_le _, rfl, World.ownsRow_nil _ _ _ _, Below.refl _ _⟩
  case round =>
    obtain ⟨k, hk, rfl, ho, hB⟩ := hrel
    by_cases hlt : k < S.length
    case pos =>
      obtain ⟨y, hy⟩ : ∃ y, S[k]? = some y := ⟨_, List.getElem?_eq_getElem hlt⟩
      obtain ⟨g2, o2, u3, rfl, hb2, hc2, hp⟩ := HA5.out k y hy
      obtain ⟨A6, c6, rfl, -⟩ := slice_len hp
      rw [← hB.cell (p := ⟨g2, o2 + k, none⟩) hb2] at hc2
      have HX : Hid (((S.map fun s => (s.length : Int)).take (k + 1)).map (Value.int .i64) = ((S.map fun s => (s.length : Int)).take k).map (Value.int .i64) ++ [.int .i64 (y.length : Int)]) := by
        show ((S.map fun s => (s.length : Int)).take (k + 1)).map (Value.int .i64) = ((S.map fun s => (s.length : Int)).take k).map (Value.int .i64) ++ [.int .i64 (y.length : Int)]
        rw [take_map_next (fun s : List SpotD => (s.length : Int)) hy, List.map_append]; rfl
      have zr := hB.size
      have hki : (k : Int) < (S.length : Int) := by omega
      clear hy hp
      go_wp2_with (at_builtin; refine wpList_append_own _ rfl _ _ 48 rfl w4.heap.size 3 i0 (.int .i64 0) 1 8 Try.underlying48 hi hz0 hz1 hz2 rfl (by decide) _ _ _ rfl (ho.alloc _) ⟨wr.heap.size, 0, none⟩ 1 1 [.int .i64 (y.length : Int)] rfl rfl (cells_new _ _ _) (by simp [Value.oneCell']) (by simp only [maxLen]; omega) (by omega) (by simp; omega) ?_; intro v' w5 hown' hgrow _)
      have hB5 := below_grown hB ho hgrow zr
      rw [← HX.out] at hown'
      clear hgrow ho
      go_wp2
      go_roundw
      case rel => exact ⟨k + 1, by omega, by go_num, hown', hB5⟩
      case measure => (simp [intOf]) <;> omega
    have hall : (S.map fun s => (s.length : Int)).take k = sizesD r := by
      unfold sizesD
      rw [getD_of HS.out, List.take_of_length_le (by rw [List.length_map]; omega)]
    have hkl : k = (sizesD r).length := by unfold sizesD; rw [getD_of HS.out, List.length_map]; omega
    rw [hall, hkl] at ho
    have B5 := B4.trans (hB.mono B4.size)
    have HR : ∀ u e, wr.ownsRow w4.heap.size 3 1 u (sizesD r).length ((sizesD r).map (Value.int .i64)) → e = .returned (.tuple #[u, .int .i64 0]) → SizesRet r w e wr := fun u e hu he => ⟨u, by rw [Hok.out]; exact he, fun _ => ownsRow_base hu B4.size, fun h => absurd Hok.out h, B5⟩
    have HR' := Lib.hid HR
    have HO := Lib.hid ho
    clear hkl hall HR ho
    go_wp2
    go_ret2
    exact HR'.out _ _ HO.out rfl

set_option maxRecDepth 100000 in
set_option maxHeartbeats 2000000 in
theorem refCut_any (RC : RefCheckOk) (v : Value) (r : RunD) (n : Int) (w : World) (h : RRun w.heap.size w v r) (hsm : SmallRun r) : Calls Try.prog 28 #[v, .int .i64 n] w fun e w' => e = .returned (CutRet r n) ∧ Below w.heap.size w w' := by
  have HRC := Lib.hid RC
  have HSM := Lib.hid hsm
  have hrun := Lib.hid h
  obtain ⟨A1, c1, A2, c2, A3, c3, rfl⟩ := h.shape
  clear h RC hsm
  have F0 : ∃ W0, w.alloc (.cells #[.slice A1 r.webs.length c1, .slice A2 r.ribs.length c2, .slice A3 r.stacks.length c3, .bool r.coll] 26) = W0 ∧ Below w.heap.size w W0 ∧ Blk W0 w.heap.size 26 #[.slice A1 r.webs.length c1, .slice A2 r.ribs.length c2, .slice A3 r.stacks.length c3, .bool r.coll] :=
    ⟨_, rfl, (Below.refl _ _).alloc (Nat.le_refl _) _, Blk.new _ _ _⟩
  obtain ⟨W0, e0, B0, V0⟩ := F0
  have E0 := Lib.hid e0
  have o0 := cellOf V0 0 (x := .slice A1 r.webs.length c1) rfl
  have o1 := cellOf V0 1 (x := .slice A2 r.ribs.length c2) rfl
  have o2 := cellOf V0 2 (x := .slice A3 r.stacks.length c3) rfl
  have o3 := cellOf V0 3 (x := .bool r.coll) rfl
  have C := Lib.hid (HRC.out _ r W0 ((hrun.out.below B0).more B0.size) HSM.out)
  clear e0
  go_enter Try.func28, Try.ntmps28
  go_upto_region 1 with fail
  rw [E0.out]
  go_wp2_with fail
  refine C.out.mono ?_
  rintro e w3 ⟨rfl, hb3⟩
  have B3 := B0.trans (hb3.mono B0.size)
  have V3 := V0.below hb3 V0.lt
  have v3 := cellOf V3 3 (x := .bool r.coll) rfl
  clear C o0 o1 o2 o3 V0 V3 hb3
  by_cases hck : checkE r = 0
  case neg =>
    have hck' : (checkE r != 0) = true := by simpa using hck
    have hck2 : (checkE r == 0) = false := by simpa using hck
    have Hn : Hid (CutRet r n = .tuple #[.int .i64 0, .int .i64 0, .int .i64 (checkE r)]) := by show CutRet r n = _; unfold CutRet; rw [if_pos hck]
    clear hck
    generalize checkE r = ck at *
    go_wp2
    go_ret3
    exact ⟨by rw [Hn.out]; rfl, B3⟩
  have hc0 : ¬ checkE r ≠ 0 := fun h => h hck
  rw [hck]
  by_cases h1 : n < 0
  · have Hn : Hid (CutRet r n = .tuple #[.int .i64 0, .int .i64 0, .int .i64 6]) := by show CutRet r n = _; unfold CutRet; rw [if_neg hc0, if_pos (.inl h1)]
    clear hck hc0
    go_wp2
    go_ret3
    exact ⟨by rw [Hn.out]; rfl, B3⟩
  by_cases h2 : 1000000000 < n
  · have Hn : Hid (CutRet r n = .tuple #[.int .i64 0, .int .i64 0, .int .i64 6]) := by show CutRet r n = _; unfold CutRet; rw [if_neg hc0, if_pos (.inr h2)]
    clear hck hc0
    go_wp2
    go_ret3
    exact ⟨by rw [Hn.out]; rfl, B3⟩
  have h3 : ¬ (n < 0 ∨ 1000000000 < n) := by omega
  have h4 : 0 ≤ n := by omega
  have h5 : n ≤ 1000000000 := by omega
  have HBD : ∀ m, Below w.heap.size w (w3.drewN m) := fun m => below_drewN B3 m
  cases hcoll : r.coll
  · have Hn : Hid (CutRet r n = .tuple #[.int .i64 n, .int .i64 0, .int .i64 0]) := by show CutRet r n = _; unfold CutRet; rw [if_neg hc0, if_neg h3, hcoll]; rfl
    rw [hcoll] at v3
    have t1 : n.tdiv 1 = n := Int.tdiv_one n
    have k0 : IntKind.i64.wrap n = n := IntWalk.i64_in _ ⟨by omega, by omega⟩
    have k1 : IntKind.i64.wrap (n * 1) = n := by rw [Int.mul_one]; exact k0
    have k2 : IntKind.i64.wrap (n - n) = 0 := by rw [Int.sub_self]; rfl
    clear hck hc0 h3 hcoll
    go_wp2
    go_quiet (fail)
    go_wp2
    go_ret3
    exact ⟨by rw [Hn.out]; rfl, HBD _⟩
  · have Hn : Hid (CutRet r n = .tuple #[.int .i64 (n / 2), .int .i64 (n % 2), .int .i64 0]) := by show CutRet r n = _; unfold CutRet; rw [if_neg hc0, if_neg h3, hcoll]; rfl
    rw [hcoll] at v3
    have t1 : n.tdiv 2 = n / 2 := Int.tdiv_eq_ediv_of_nonneg h4
    have k0 : IntKind.i64.wrap (n / 2) = n / 2 := IntWalk.i64_in _ ⟨by omega, by omega⟩
    have k1 : IntKind.i64.wrap (n / 2 * 2) = n / 2 * 2 := IntWalk.i64_in _ ⟨by omega, by omega⟩
    have k2 : IntKind.i64.wrap (n - n / 2 * 2) = n % 2 := by rw [IntWalk.i64_in _ ⟨by omega, by omega⟩]; omega
    clear hck hc0 h3 hcoll
    go_wp2
    go_quiet (fail)
    go_wp2
    go_ret3
    exact ⟨by rw [Hn.out]; rfl, HBD _⟩
end Go.Proofs.Ytdbfhdncjblleaa
