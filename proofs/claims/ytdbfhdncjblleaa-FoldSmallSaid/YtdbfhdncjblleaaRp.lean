/-
  Two lists of copies compared: sameCopies.
-/
import Derived.Test.YtdbfhdncjblleaaRl
import Derived.Test.YtdbfhdncjblleaaKm
namespace Go.Proofs.Ytdbfhdncjblleaa
open Go.RowKit

theorem RPtss.deep {B : Nat} {w : World} {v : Value} {l : List (List (List PlateD))} (h : RPtss B w v l) : ∃ A c, v = .slice A l.length c ∧ l.length ≤ 9223372036854775807 ∧ ∀ k S, l[k]? = some S → ∃ g o D d, A = some ⟨g, o, none⟩ ∧ S.length ≤ 9223372036854775807 ∧ (∀ X, Below B w X → X.cell? ⟨g, o + k, none⟩ = some (.slice D S.length d)) ∧
    ∀ j s, S[j]? = some s → ∃ g1 o1 E f, D = some ⟨g1, o1, none⟩ ∧ s.length ≤ 9223372036854775807 ∧ (∀ X, Below B w X → X.cell? ⟨g1, o1 + j, none⟩ = some (.slice E s.length f)) ∧
    ∀ n p, s[n]? = some p → ∃ g2 o2, E = some ⟨g2, o2, none⟩ ∧ ∀ X, Below B w X → X.cell? ⟨g2, o2 + n * 2, none⟩ = some (.int .i64 p.page) ∧ X.cell? ⟨g2, o2 + n * 2 + 1, none⟩ = some (.bool p.up) := by
  obtain ⟨A, c, rfl, hl, hA⟩ := RAll.open_ h
  refine ⟨A, c, rfl, hl, fun k S hS => ?_⟩
  obtain ⟨g, o, u1, rfl, hg, m0, hp⟩ := hA k S hS
  obtain ⟨D, d, rfl, hl1, hD⟩ := RAll.open_ hp
  refine ⟨g, o, D, d, rfl, hl1, fun X hX => (hX.cell (p := ⟨g, o + k, none⟩) hg).trans m0, fun j s hs => ?_⟩
  obtain ⟨g1, o1, u2, rfl, hg1, m1, hp1⟩ := hD j s hs
  obtain ⟨E, f, rfl, hl2, hE⟩ := RPlates.open_ hp1
  refine ⟨g1, o1, E, f, rfl, hl2, fun X hX => (hX.cell (p := ⟨g1, o1 + j, none⟩) hg1).trans m1, fun n p hp => ?_⟩
  obtain ⟨g2, o2, rfl, hg2, n0, n1⟩ := hE n p hp
  exact ⟨g2, o2, rfl, fun X hX => ⟨(hX.cell (p := ⟨g2, o2 + n * 2, none⟩) hg2).trans n0, (hX.cell (p := ⟨g2, o2 + n * 2 + 1, none⟩) hg2).trans n1⟩⟩

set_option maxRecDepth 100000 in
set_option maxHeartbeats 2000000 in
theorem sameCopies_any (a b : Value) (l m : List (List (List PlateD))) (w : World) (ha : RPtss w.heap.size w a l) (hb : RPtss w.heap.size w b m) :
    Calls Try.prog 15 #[a, b] w fun e w' => e = .returned (.bool (decide (l = m))) ∧ Below w.heap.size w w' := by
  obtain ⟨A, c, rfl, hl, hA⟩ := ha.deep
  obtain ⟨A', c', rfl, -, hA'⟩ := hb.deep
  have HA := Lib.hid hA
  have HA' := Lib.hid hA'
  clear ha hb hA hA'
  by_cases hlm : l.length = m.length
  case neg =>
    have k0 : ((l.length : Int) != (m.length : Int)) = true := by simp; omega
    have HN : Hid (decide (l = m) = false) := decide_eq_false fun e => hlm (by rw [e])
    clear hlm
    go_enter Try.func15, Try.ntmps15
    go_wp2
    go_ret
    exact ⟨rb HN.out, Below.refl _ _⟩
  have k0 : ((l.length : Int) != (m.length : Int)) = false := by simp; omega
  have HLM := Lib.hid hlm
  clear hlm
  go_enter Try.func15, Try.ntmps15
  go_wp2
  clear k0
  go_loopw [5] (fun i wr => ∃ k : Nat, k ≤ l.length ∧ i = .int .i64 k ∧ Hid (l.take k = m.take k) ∧ Below w.heap.size w wr) (fun i _ => l.length - (intOf i).toNat)
  case atStart => exact ⟨0, Nat.zero_le _, rfl, rfl, Below.refl _ _⟩
  case round =>
    obtain ⟨k, hk, rfl, ht, hB⟩ := hrel
    by_cases hlk : k < l.length
    case neg =>
      have HN : Hid (decide (l = m) = true) := decide_eq_true (take_end ht (by omega) (by have := HLM.out; omega))
      clear ht
      go_wp2
      go_ret
      exact ⟨rb HN.out, hB⟩
    obtain ⟨S, hS⟩ : ∃ S, l[k]? = some S := ⟨_, List.getElem?_eq_getElem hlk⟩
    obtain ⟨T, hT⟩ : ∃ T, m[k]? = some T := ⟨_, List.getElem?_eq_getElem (by have := HLM.out; omega)⟩
    obtain ⟨g, o, D, d, rfl, hSl, hcS, hin⟩ := HA.out k S hS
    obtain ⟨g', o', D', d', rfl, -, hcT, hin'⟩ := HA'.out k T hT
    have m0 := hcS wr hB
    have m0' := hcT wr hB
    have HCS := Lib.hid hcS
    have HCT := Lib.hid hcT
    have HIN := Lib.hid hin
    have HIN' := Lib.hid hin'
    have HS := Lib.hid hS
    have HT := Lib.hid hT
    have hki : (k : Int) < (l.length : Int) := by omega
    have hki' : (k : Int) < (m.length : Int) := by have := HLM.out; omega
    have HBD : ∀ n, Below w.heap.size w (wr.drewN n) := fun n => below_drewN hB n
    clear hS hT hcS hcT hin hin'
    by_cases hst : S.length = T.length
    case neg =>
      have k1 : ((S.length : Int) != (T.length : Int)) = true := by simp; omega
      have HN : Hid (decide (l = m) = false) := decide_eq_false (ne_here HS.out HT.out fun e => hst (by rw [e]))
      clear hst ht
      go_upto_region 6 with fail
      go_quiet (fail)
      go_wp2
      go_ret
      exact ⟨rb HN.out, HBD _⟩
    have k1 : ((S.length : Int) != (T.length : Int)) = false := by simp; omega
    have HST := Lib.hid hst
    clear hst
    go_upto_region 6 with fail
    go_quiet (fail)
    go_wp2
    obtain ⟨w1, e1⟩ : ∃ w1, wr.drewN nq = w1 := ⟨_, rfl⟩
    have hB1 : Below w.heap.size w w1 := by rw [← e1]; exact HBD _
    rw [e1]
    clear m0 m0' k1 e1 HBD hB
    go_loopw [6] (fun i wr => ∃ j : Nat, j ≤ S.length ∧ i = .int .i64 j ∧ Hid (S.take j = T.take j) ∧ Below w.heap.size w wr) (fun i _ => S.length - (intOf i).toNat)
    case atStart => exact ⟨0, Nat.zero_le _, rfl, rfl, hB1⟩
    case round =>
      clear hB1
      obtain ⟨j, hj, rfl, hs, hB⟩ := hrel
      have m0 := HCS.out wr hB
      have m0' := HCT.out wr hB
      by_cases hlj : j < S.length
      case neg =>
        obtain rfl : S = T := take_end hs (by omega) (by have := HST.out; omega)
        have HNX := take_same ht HS.out HT.out
        clear hs
        go_wp2
        go_roundw
        case rel => exact ⟨k + 1, by omega, by go_num, HNX, hB⟩
        case measure => (simp [intOf]) <;> omega
      obtain ⟨s, hss⟩ : ∃ s, S[j]? = some s := ⟨_, List.getElem?_eq_getElem hlj⟩
      obtain ⟨t, htt⟩ : ∃ t, T[j]? = some t := ⟨_, List.getElem?_eq_getElem (by have := HST.out; omega)⟩
      obtain ⟨g1, o1, E, f, rfl, hsl, hcs, hin⟩ := HIN.out j s hss
      obtain ⟨g1', o1', E', f', rfl, -, hct, hin'⟩ := HIN'.out j t htt
      have m1 := hcs wr hB
      have m1' := hct wr hB
      have HC1 := Lib.hid hcs
      have HC1' := Lib.hid hct
      have HI1 := Lib.hid hin
      have HI1' := Lib.hid hin'
      have HSS := Lib.hid hss
      have HTT := Lib.hid htt
      have hji : (j : Int) < (S.length : Int) := by omega
      have hji' : (j : Int) < (T.length : Int) := by have := HST.out; omega
      have HBD : ∀ n, Below w.heap.size w (wr.drewN n) := fun n => below_drewN hB n
      clear hss htt hcs hct hin hin'
      by_cases hst2 : s.length = t.length
      case neg =>
        have k1 : ((s.length : Int) != (t.length : Int)) = true := by simp; omega
        have HN : Hid (decide (l = m) = false) := decide_eq_false (ne_here HS.out HT.out (ne_here HSS.out HTT.out fun e => hst2 (by rw [e])))
        clear hst2 ht hs
        go_upto_region 11 with fail
        go_quiet (fail)
        go_wp2
        go_ret
        exact ⟨rb HN.out, HBD _⟩
      have k1 : ((s.length : Int) != (t.length : Int)) = false := by simp; omega
      have HST2 := Lib.hid hst2
      clear hst2
      go_upto_region 11 with fail
      go_quiet (fail)
      go_wp2
      obtain ⟨w2, e2⟩ : ∃ w2, wr.drewN nq = w2 := ⟨_, rfl⟩
      have hB2 : Below w.heap.size w w2 := by rw [← e2]; exact HBD _
      rw [e2]
      clear m0 m0' m1 m1' k1 e2 HBD hB
      go_loopw [7] (fun i wr => ∃ n : Nat, n ≤ s.length ∧ i = .int .i64 n ∧ Hid (s.take n = t.take n) ∧ Below w.heap.size w wr) (fun i _ => s.length - (intOf i).toNat)
      case atStart => exact ⟨0, Nat.zero_le _, rfl, rfl, hB2⟩
      case round =>
        clear hB2
        obtain ⟨n, hn, rfl, hq, hB⟩ := hrel
        have m0 := HCS.out wr hB
        have m0' := HCT.out wr hB
        have m1 := HC1.out wr hB
        have m1' := HC1'.out wr hB
        by_cases hln : n < s.length
        case neg =>
          obtain rfl : s = t := take_end hq (by omega) (by have := HST2.out; omega)
          have HNX := take_same hs HSS.out HTT.out
          clear hq
          go_wp2
          go_roundw
          case rel => exact ⟨j + 1, by omega, by go_num, HNX, hB⟩
          case measure => (simp [intOf]) <;> omega
        obtain ⟨⟨pg, pu⟩, hp⟩ : ∃ p, s[n]? = some p := ⟨_, List.getElem?_eq_getElem hln⟩
        obtain ⟨⟨qg, qu⟩, hp'⟩ : ∃ p, t[n]? = some p := ⟨_, List.getElem?_eq_getElem (by have := HST2.out; omega)⟩
        obtain ⟨g2, o2, rfl, hc⟩ := HI1.out n _ hp
        obtain ⟨g2', o2', rfl, hc'⟩ := HI1'.out n _ hp'
        obtain ⟨n0, n1⟩ := hc wr hB
        obtain ⟨n0', n1'⟩ := hc' wr hB
        dsimp only at n0 n1 n0' n1'
        have HP := Lib.hid hp
        have HQ := Lib.hid hp'
        have hni : (n : Int) < (s.length : Int) := by omega
        have hni' : (n : Int) < (t.length : Int) := by have := HST2.out; omega
        have HBD : ∀ n, Below w.heap.size w (wr.drewN n) := fun n => below_drewN hB n
        have hq2 := eqPlate pg pu qg qu
        clear hp hp' hc hc'
        by_cases he : pg = qg ∧ pu = qu
        case neg =>
          have HN : Hid (decide (l = m) = false) := decide_eq_false (ne_here HS.out HT.out (ne_here HSS.out HTT.out (ne_here HP.out HQ.out fun e => he (by cases e; exact ⟨rfl, rfl⟩))))
          rw [decide_eq_false he] at hq2
          clear he ht hs hq
          go_upto_region 16 with fail
          go_quiet (fail)
          go_wp2
          go_ret
          exact ⟨rb HN.out, HBD _⟩
        rw [decide_eq_true he] at hq2
        obtain ⟨rfl, rfl⟩ := he
        have HNX := take_same hq HP.out HQ.out
        clear hq
        go_upto_region 16 with fail
        go_quiet (fail)
        go_wp2
        go_roundw
        case rel => exact ⟨n + 1, by omega, by go_num, HNX, HBD _⟩
        case measure => (simp [intOf]) <;> omega
end Go.Proofs.Ytdbfhdncjblleaa
