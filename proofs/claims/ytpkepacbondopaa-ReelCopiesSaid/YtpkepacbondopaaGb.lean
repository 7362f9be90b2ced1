/-
  The next number: contract of digits.next.
-/
import Derived.Test.YtpkepacbondopaaGa
import Derived.Test.YtpkepacbondopaaLk
namespace Go.Proofs.Ytpkepacbondopaa
open Go.RowKit

def RBytes (B : Nat) (w : World) (v : Value) (l : List Int) : Prop := Rd B w 1 v l.length (l.map (Value.int .u8))
theorem RBytes.keep {B : Nat} {w w' : World} {v : Value} {l : List Int} (h : RBytes B w v l) (hk : ∀ p : Addr, p.block < B → w'.cell? p = w.cell? p) : RBytes B w' v l := Rd.keep h hk
theorem RBytes.open_ {B : Nat} {w : World} {v : Value} {l : List Int} (h : RBytes B w v l) : ∃ A c, v = .slice A l.length c ∧ l.length ≤ 9223372036854775807 ∧
    ∀ k, k < l.length → ∃ g o, A = some ⟨g, o, none⟩ ∧ g < B ∧ w.cell? ⟨g, o + k, none⟩ = some (.int .u8 (l.getD k 0)) := by
  obtain ⟨A, c, rfl, -, hlm, hr⟩ := h
  refine ⟨A, c, rfl, by simpa [maxLen] using hlm, fun k hk => ?_⟩
  obtain ⟨g, o, hA, hb, hc⟩ := hr (by omega)
  refine ⟨g, o, hA, hb, hc k _ ?_⟩
  rw [List.getElem?_map, List.getElem?_eq_getElem hk, List.getD_eq_getElem?_getD, List.getElem?_eq_getElem hk]
  rfl
/-- What a call of next leaves. -/
def NextW (D : Nat) (vl : Value) (i : Nat) (w w' : World) : Prop := Blk w' D 69 #[vl, .int .i64 ((i + 1 : Nat) : Int)] ∧ KeptBut (fun k => k = D) w w'
set_option maxHeartbeats 1000000 in
theorem next_any (l : List Int) (hl : Bytes l) (i n : Nat) (hi : i ≤ 100000) (hn : 0 < n) (hn2 : n ≤ 1000) (B D : Nat) (hBD : B ≤ D) (vl : Value) (w : World) (hB : Blk w D 69 #[vl, .int .i64 (i : Int)]) (hr : RBytes B w vl l) :
    Calls Try.prog 29 #[.pointer (some ⟨D, 0, none⟩), .int .i64 (n : Int)] w fun e w' => e = .returned (.int .i64 (nxD l i n)) ∧ NextW D vl i w w' := by
  obtain ⟨A, c, rfl, hlm, hc⟩ := hr.open_
  obtain ⟨m, hm⟩ : ∃ m, l.length = m := ⟨_, rfl⟩
  have d0 := cellOf hB 0 (x := .slice A l.length c) rfl
  have d1 := cellOf hB 1 (x := .int .i64 (i : Int)) rfl
  have df := hB.frozen 1
  have F : ∃ W, w.setCell ⟨D, 1, none⟩ (.int .i64 ((i : Int) + 1)) = W ∧ Blk W D 69 #[.slice A l.length c, .int .i64 ((i : Int) + 1)] ∧ KeptBut (fun k => k = D) w W := ⟨_, rfl, hB.put 1 _, KeptBut.setCell (S := fun k => k = D) rfl _⟩
  obtain ⟨W, e, hW, hK⟩ := F
  have E := Lib.hid e
  have hfin : Hid (∀ q, NextW D (.slice A l.length c) i w (W.drewN q)) := fun q => ⟨by
    rw [show ((i + 1 : Nat) : Int) = (i : Int) + 1 by omega]
    exact hW.below (below_drewN (Below.refl _ _) q) hW.lt, hK.trans (KeptBut.of_below (S := fun k => k = D) (below_drewN (Below.refl _ _) q)) fun _ _ h => h⟩
  have HC : Hid (∀ k, k < m → ∃ g o, A = some ⟨g, o, none⟩ ∧ W.cell? ⟨g, o + k, none⟩ = some (.int .u8 (l.getD k 0))) := fun k hk => by
    obtain ⟨g, o, h1, h2, h3⟩ := hc k (by omega)
    exact ⟨g, o, h1, (hK.cell (p := ⟨g, o + k, none⟩) (World.block_lt_of_cell? w _ h3) (by show ¬ g = D; omega)).trans h3⟩
  have HL := Lib.hid hl
  have HM := Lib.hid hm
  rw [hm] at d0 hW hlm hfin ⊢
  have D0 := cellOf hW 0 (x := .slice A m c) rfl
  have D1 := cellOf hW 1 (x := .int .i64 ((i : Int) + 1)) rfl
  clear hc hl hm e hW hK hB hr
  go_enter Try.func29, Try.ntmps29
  go_upto_region 2 with fail
  rw [E.out]
  clear d0 d1 df
  by_cases hlt : i < m
  case neg =>
    have h1 : decide ((m : Int) < (i : Int) + 1) = true := by simp; omega
    go_quiet (fail)
    go_wp2
    go_ret
    refine ⟨?_, hfin.out _⟩
    rw [show nxD l i n = 0 by unfold nxD; rw [HM.out, if_neg hlt]]
    rfl
  have h1 : decide ((m : Int) < (i : Int) + 1) = false := by simp; omega
  obtain ⟨g, o, rfl, hcell⟩ := HC.out i hlt
  have hlb := HL.out (l.getD i 0) (by rw [List.getD_eq_getElem?_getD, List.getElem?_eq_getElem (by rw [HM.out]; exact hlt)]; exact List.getElem_mem _)
  obtain ⟨x, hx⟩ : ∃ x, l.getD i 0 = x := ⟨_, rfl⟩
  rw [hx] at hcell hlb
  have HX := Lib.hid hx
  clear hx
  go_quiet (fail)
  clear h1
  obtain ⟨hx1, hx2⟩ := hlb
  have kw : IntKind.i64.wrap ((i : Int) + 1 - 1) = (i : Int) := by rw [show (i : Int) + 1 - 1 = (i : Int) by omega]; exact IntWalk.i64_in _ ⟨by omega, by omega⟩
  have kx : IntKind.i64.wrap x = x := IntWalk.i64_in _ ⟨by omega, by omega⟩
  have hq0 : 0 ≤ x % (n : Int) := Int.emod_nonneg _ (by omega)
  have hq1 : x % (n : Int) < n := Int.emod_lt_of_pos _ (by omega)
  have kr : IntKind.i64.wrap (x.tmod (n : Int)) = x % (n : Int) := by rw [Int.tmod_eq_emod_of_nonneg hx1]; exact IntWalk.i64_in _ ⟨by omega, by omega⟩
  have hn0 : ((n : Int) == 0) = false := by simp; omega
  have hn0' : ¬ (n : Int) = 0 := by omega
  have hi0 : (0 : Int) ≤ (i : Int) := by omega
  have hi1 : (i : Int) < (m : Int) := by omega
  have hcd : (W.drewN nq).cell? ⟨g, o + i, none⟩ = some (.int .u8 x) := hcell
  have D0d : (W.drewN nq).cell? ⟨D, 0, none⟩ = some (.slice (some ⟨g, o, none⟩) m c) := D0
  have D1d : (W.drewN nq).cell? ⟨D, 1, none⟩ = some (.int .i64 ((i : Int) + 1)) := D1
  obtain ⟨W2, hW2⟩ : ∃ W2, W.drewN nq = W2 := ⟨_, rfl⟩
  have hfin2 : Hid (∀ q, NextW D (.slice (some ⟨g, o, none⟩) m c) i w (W2.drewN q)) := fun q => by
    rw [← hW2]
    have h := hfin.out nq
    exact ⟨h.1.below (below_drewN (Below.refl _ _) q) h.1.lt, h.2.trans (KeptBut.of_below (S := fun k => k = D) (below_drewN (Below.refl _ _) q)) fun _ _ h => h⟩
  rw [hW2] at hcd D0d D1d
  have HN : Hid (nxD l i n = x % (n : Int)) := by show _ = _; unfold nxD; rw [HM.out, if_pos hlt, HX.out]
  go_upto_region 4 with fail
  rw [hW2]
  clear hcell D0 D1 hW2 HX HM HL HC hfin E
  go_quiet (fail)
  clear kw kx kr
  go_wp2
  go_ret
  exact ⟨by rw [HN.out]; rfl, hfin2.out _⟩
end Go.Proofs.Ytpkepacbondopaa
