/-
  The reference's Right, given what its Check returns.
-/
import Derived.Test.YtdbfhdncjblleaaRu
namespace Go.Proofs.Ytdbfhdncjblleaa
open Go.RowKit

/-- A list of lists of numbers, read in every later world. -/
theorem RIntss.deep {B : Nat} {w : World} {v : Value} {l : List (List Int)} (h : RIntss B w v l) : ∃ A c, v = .slice A l.length c ∧ l.length ≤ 9223372036854775807 ∧ ∀ k s, l[k]? = some s → ∃ g o D d, A = some ⟨g, o, none⟩ ∧ s.length ≤ 9223372036854775807 ∧ (∀ X, Below B w X → X.cell? ⟨g, o + k, none⟩ = some (.slice D s.length d)) ∧
    ∀ i z, s[i]? = some z → ∃ g1 o1, D = some ⟨g1, o1, none⟩ ∧ ∀ X, Below B w X → X.cell? ⟨g1, o1 + i, none⟩ = some (.int .i64 z) := by
  obtain ⟨A, c, rfl, hl, hA⟩ := RAll.open_ h
  refine ⟨A, c, rfl, hl, fun k s hs => ?_⟩
  obtain ⟨g, o, u, rfl, hb, m0, hp⟩ := hA k s hs
  obtain ⟨D, d, rfl, hl1, hD⟩ := RInts.open_ hp
  refine ⟨g, o, D, d, rfl, hl1, fun X hX => (hX.cell (p := ⟨g, o + k, none⟩) hb).trans m0, fun i z hz => ?_⟩
  have hi := (List.getElem?_eq_some_iff.1 hz).1
  obtain ⟨g1, o1, y, rfl, hb1, n0, hy⟩ := hD i hi
  have hyz : y = z := by
    have := hy.out
    rw [List.getD_eq_getElem?_getD, hz] at this
    exact this.symm
  subst hyz
  exact ⟨g1, o1, rfl, fun X hX => (hX.cell (p := ⟨g1, o1 + i, none⟩) hb1).trans n0⟩

set_option maxRecDepth 100000 in
set_option maxHeartbeats 4000000 in
theorem refRight_any (RC : RefCheckOk) (v pv : Value) (r : RunD) (product : List (List Int)) (w : World) (h : RRun w.heap.size w v r) (hsm : SmallRun r) (hp : RIntss w.heap.size w pv product) :
    Calls Try.prog 32 #[v, pv] w fun e w' => e = .returned (rightV r product) ∧ Below w.heap.size w w' := by
  have HRC := Lib.hid RC
  have HSM := Lib.hid hsm
  have hrun := Lib.hid h
  have HP := Lib.hid hp
  obtain ⟨A1, c1, A2, c2, A3, c3, rfl⟩ := h.shape
  clear h RC hsm hp
  have F0 : ∃ W0, w.alloc (.cells #[.slice A1 r.webs.length c1, .slice A2 r.ribs.length c2, .slice A3 r.stacks.length c3, .bool r.coll] 26) = W0 ∧ Below w.heap.size w W0 ∧ Blk W0 w.heap.size 26 #[.slice A1 r.webs.length c1, .slice A2 r.ribs.length c2, .slice A3 r.stacks.length c3, .bool r.coll] :=
    ⟨_, rfl, (Below.refl _ _).alloc (Nat.le_refl _) _, Blk.new _ _ _⟩
  obtain ⟨W0, e0, B0, V0⟩ := F0
  have E0 := Lib.hid e0
  have o0 := cellOf V0 0 (x := .slice A1 r.webs.length c1) rfl
  have o1 := cellOf V0 1 (x := .slice A2 r.ribs.length c2) rfl
  have o2 := cellOf V0 2 (x := .slice A3 r.stacks.length c3) rfl
  have o3 := cellOf V0 3 (x := .bool r.coll) rfl
  have C := Lib.hid (refCopies_any HRC.out _ r W0 ((hrun.out.below B0).more B0.size) HSM.out)
  clear e0 V0
  go_enter Try.func32, Try.ntmps32
  go_upto_region 1 with fail
  rw [E0.out]
  go_wp2_with fail
  refine C.out.mono ?_
  rintro e w3 ⟨u, rfl, hu0, hu1, hb3⟩
  have B3 := B0.trans (hb3.mono B0.size)
  clear C o0 o1 o2 o3 hb3 hu1
  by_cases hck : checkE r = 0
  case neg =>
    have hck' : (checkE r != 0) = true := by simpa using hck
    have hck2 : (checkE r == 0) = false := by simpa using hck
    have HR := Lib.hid (right_bad (product := product) hck)
    clear hck hu0
    generalize checkE r = ck at *
    go_wp2
    go_ret2
    exact ⟨by rw [HR.out]; rfl, B3⟩
  rw [hck]
  have Hok := Lib.hid hck
  have hp3 := (HP.out.below B3).more B3.size
  have W := wrong_any pv product w3 hp3
  obtain ⟨Ap, cp, rfl, hpl, hpr⟩ := hp3.deep
  have HPR := Lib.hid hpr
  have hu := (hu0 hck).reads
  clear hpr hu0 hp3
  cases hpg : hasPagesB product
  case false =>
    rw [hpg] at W
    have HR := Lib.hid (right_pages hck hpg)
    simp only [Bool.not_false] at W
    have HW := Lib.hid W
    clear hck hpg W hu
    go_wp2_with fail
    refine HW.out.mono ?_
    rintro e w' ⟨rfl, rfl⟩
    go_wp2
    go_ret2
    exact ⟨by rw [HR.out]; rfl, B3⟩
  rw [hpg] at W
  simp only [Bool.not_true] at W
  have HW := Lib.hid W
  have HPG := Lib.hid hpg
  obtain ⟨A, c, rfl, hCl, hA⟩ := hu.deep
  have HA := Lib.hid hA
  clear hck hpg W hu hA
  go_wp2_with fail
  refine HW.out.mono ?_
  rintro e w' ⟨rfl, rfl⟩
  go_wp2
  clear HW
  have HBW : ∀ X, Below w3.heap.size w3 X → ∀ n, Below w.heap.size w (X.drewN n) := fun X hX n => below_drewN (B3.trans (hX.mono B3.size)) n
  have HBW' := Lib.hid HBW
  clear HBW
  go_loopw [8] (fun i wr => ∃ c : Nat, c ≤ (copiesD r).length ∧ i = .int .i64 c ∧ Hid (ok3 (copiesD r) product c) ∧ Below w3.heap.size w3 wr) (fun i _ => (copiesD r).length - (intOf i).toNat)
  case atStart => exact ⟨0, Nat.zero_le _, rfl, (fun c S hc => by omega), Below.refl _ _⟩
  case round =>
    obtain ⟨c, hc, rfl, ht, hB⟩ := hrel
    by_cases hlc : c < (copiesD r).length
    case neg =>
      obtain rfl : c = (copiesD r).length := by omega
      have HR := Lib.hid (right_all Hok.out HPG.out ht.out)
      have BF := B3.trans (hB.mono B3.size)
      clear ht
      go_wp2
      go_ret2
      exact ⟨by rw [HR.out]; rfl, BF⟩
    obtain ⟨S, hS⟩ : ∃ S, (copiesD r)[c]? = some S := ⟨_, List.getElem?_eq_getElem hlc⟩
    obtain ⟨g, o, D, d, rfl, hSl, hcS, hin⟩ := HA.out c S hS
    have m0 := hcS wr hB
    have HCS := Lib.hid hcS
    have HIN := Lib.hid hin
    have HS := Lib.hid hS
    have hci : (c : Int) < ((copiesD r).length : Int) := by omega
    clear hS hcS hin
    by_cases hst : S.length = product.length
    case neg =>
      have k1 : ((S.length : Int) != (product.length : Int)) = true := by simp; omega
      have HR := Lib.hid (right_len Hok.out HPG.out HS.out hst)
      have BF := B3.trans (hB.mono B3.size)
      clear hst ht
      go_wp2
      go_ret2
      exact ⟨by rw [HR.out]; rfl, BF⟩
    have k1 : ((S.length : Int) != (product.length : Int)) = false := by simp; omega
    have HST := Lib.hid hst
    clear hst
    go_wp2
    clear m0 k1
    go_loopw [9] (fun i wr => ∃ k : Nat, k ≤ product.length ∧ i = .int .i64 k ∧ Hid (ok2 S product k) ∧ Below w3.heap.size w3 wr) (fun i _ => product.length - (intOf i).toNat)
    case atStart => exact ⟨0, Nat.zero_le _, rfl, (fun k l sec hk => by omega), hB⟩
    case round =>
      clear hB
      obtain ⟨k, hk, rfl, hs, hB⟩ := hrel
      have m0 := HCS.out wr hB
      by_cases hlk : k < product.length
      case neg =>
        have HNX := ok3_next ht HS.out HST.out (by
          have e : k = S.length := by have := HST.out; omega
          rw [← e]; exact hs.out)
        clear hs m0
        go_wp2
        go_roundw
        case rel => exact ⟨c + 1, by omega, by go_num, HNX, hB⟩
        case measure => (simp [intOf]) <;> omega
      obtain ⟨l, hl⟩ : ∃ l, S[k]? = some l := ⟨_, List.getElem?_eq_getElem (by have := HST.out; omega)⟩
      obtain ⟨sec, hx⟩ : ∃ sec, product[k]? = some sec := ⟨_, List.getElem?_eq_getElem hlk⟩
      obtain ⟨g1, o1, E, f, rfl, hll, hcl, hin1⟩ := HIN.out k l hl
      obtain ⟨g2, o2, P, q, rfl, hsl, hcp, hin2⟩ := HPR.out k sec hx
      have m1 := hcl wr hB
      have m2 := hcp wr hB
      have HCP := Lib.hid hcp
      have HIN1 := Lib.hid hin1
      have HIN2 := Lib.hid hin2
      have HL := Lib.hid hl
      have HX := Lib.hid hx
      have hki : (k : Int) < (product.length : Int) := by omega
      have hki' : (k : Int) < (S.length : Int) := by have := HST.out; omega
      clear hl hx hcl hcp hin1 hin2
      by_cases hls : l.length = sec.length
      case neg =>
        have k1 : ((l.length : Int) != (sec.length : Int)) = true := by simp; omega
        have HR := Lib.hid (right_sec Hok.out HPG.out HS.out HL.out HX.out hls)
        have BF := B3.trans (hB.mono B3.size)
        clear hls ht hs
        go_wp2
        go_ret2
        exact ⟨by rw [HR.out]; rfl, BF⟩
      have k1 : ((l.length : Int) != (sec.length : Int)) = false := by simp; omega
      have HLS := Lib.hid hls
      clear hls
      go_wp2
      clear m0 m1 m2 k1
      go_loopw [11] (fun i wr => ∃ n : Nat, n ≤ l.length ∧ i = .int .i64 n ∧ Hid (ok1 l sec n) ∧ Below w3.heap.size w3 wr) (fun i _ => l.length - (intOf i).toNat)
      case atStart => exact ⟨0, Nat.zero_le _, rfl, (fun i p page hi => by omega), hB⟩
      case round =>
        clear hB
        obtain ⟨n, hn, rfl, hq, hB⟩ := hrel
        by_cases hln : n < l.length
        case neg =>
          obtain rfl : n = l.length := by omega
          have HNX := ok2_next hs HL.out HX.out HLS.out hq.out
          clear hq
          go_wp2
          go_roundw
          case rel => exact ⟨k + 1, by omega, by go_num, HNX, hB⟩
          case measure => (simp [intOf]) <;> omega
        obtain ⟨⟨pg, pu⟩, hp⟩ : ∃ p, l[n]? = some p := ⟨_, List.getElem?_eq_getElem hln⟩
        obtain ⟨page, hg⟩ : ∃ page, sec[n]? = some page := ⟨_, List.getElem?_eq_getElem (by have := HLS.out; omega)⟩
        obtain ⟨g3, o3, rfl, hc3⟩ := HIN1.out n _ hp
        obtain ⟨g4, o4, rfl, hc4⟩ := HIN2.out n _ hg
        obtain ⟨n0, n1⟩ := hc3 wr hB
        have n2 := hc4 wr hB
        have m2 := HCP.out wr hB
        dsimp only at n0 n1
        have hpos := page_pos Hok.out HS.out HL.out hp
        dsimp only at hpos
        have HPP := Lib.hid hp
        have HGG := Lib.hid hg
        have hni : (n : Int) < (l.length : Int) := by omega
        have hni' : (n : Int) < (sec.length : Int) := by have := HLS.out; omega
        have HBD : ∀ n, Below w3.heap.size w3 (wr.drewN n) := fun n => below_drewN hB n
        have HBF := HBW'.out wr hB
        clear hp hg hc3 hc4
        by_cases e1 : pg = page
        case neg =>
          have d1 : (pg != page) = true := by simpa using e1
          have HR := Lib.hid (right_at Hok.out HPG.out HS.out HL.out HPP.out HX.out HGG.out (by unfold okP; rw [decide_eq_false e1]; rfl))
          clear e1 ht hs hq
          go_upto_region 20 with fail
          go_quiet (fail)
          go_wp2
          go_ret2
          exact ⟨by rw [HR.out]; rfl, HBF _⟩
        have d1 : (pg != pg) = false := by simp
        subst e1
        cases pu
        case false =>
          have HNX := ok1_next hq HPP.out HGG.out (by unfold okP; simp)
          clear hq
          go_upto_region 20 with fail
          go_quiet (fail)
          go_wp2
          go_roundw
          case rel => exact ⟨n + 1, by omega, by go_num, HNX, HBD _⟩
          case measure => (simp [intOf]) <;> omega
        by_cases e2 : 0 < pg
        case pos =>
          have d2 : decide (0 < pg) = true := by simpa using e2
          have HR := Lib.hid (right_at Hok.out HPG.out HS.out HL.out HPP.out HX.out HGG.out (by unfold okP; simp; omega))
          clear e2 ht hs hq
          go_upto_region 20 with fail
          go_quiet (fail)
          go_wp2
          go_ret2
          exact ⟨by rw [HR.out]; rfl, HBF _⟩
        have d2 : decide (0 < pg) = false := by simpa using e2
        have HNX := ok1_next hq HPP.out HGG.out (by unfold okP; simp; omega)
        clear hq e2
        go_upto_region 20 with fail
        go_quiet (fail)
        go_wp2
        go_roundw
        case rel => exact ⟨n + 1, by omega, by go_num, HNX, HBD _⟩
        case measure => (simp [intOf]) <;> omega
end Go.Proofs.Ytdbfhdncjblleaa
