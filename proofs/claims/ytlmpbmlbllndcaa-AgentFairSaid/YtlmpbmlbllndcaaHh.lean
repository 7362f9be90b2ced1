/-
  AgentFair.
-/
import Derived.Test.YtlmpbmlbllndcaaHg
import Derived.Test.YtlmpbmlbllndcaaGb
namespace Go.Proofs.Ytlmpbmlbllndcaa
open Go.RowKit
attribute [local go_sem] Oper.semAt_some

theorem step_near2 {l : List OrdD} {g : List Int} (h : Given l g) (i : Nat) : g.getD i 0 ≤ (stepS l g).getD i 0 ∧ (stepS l g).getD i 0 ≤ g.getD i 0 + 1 := step_near h i
set_option maxRecDepth 1000000 in
set_option maxHeartbeats 4000000 in
theorem agentFair_any (data : List Int) (hby : Bytes data) (cz x y : Int) (hz : 0 ≤ cz ∧ cz ≤ 65535) (hx : 0 ≤ x ∧ x ≤ 255) (hy : 0 ≤ y ∧ y ≤ 255) (v : Value) (w : World) (h : RBytes w.heap.size w v data) :
    Calls Try.prog 10 #[v, .int .u16 cz, .int .u8 x, .int .u8 y] w fun e w' => e = .returned (.bool true) ∧ Below w.heap.size w w' := by
  obtain ⟨x0, x1⟩ := hx
  obtain ⟨y0, y1⟩ := hy
  obtain ⟨z0, z1⟩ := hz
  have C1 := Lib.hid (orders_any data hby v w h)
  obtain ⟨c, hc⟩ : ∃ c, cz % 800 = c := ⟨_, rfl⟩
  have c0 : 0 ≤ c := by omega
  have c1 : c ≤ 799 := by omega
  obtain ⟨L, hL⟩ : ∃ L, ordsOf data = L := ⟨_, rfl⟩
  obtain ⟨N, hN⟩ : ∃ N, nOrds data = N := ⟨_, rfl⟩
  have hlen : L.length = N := by rw [← hL, ← hN]; exact ords_len data
  have hN12 : N ≤ 12 := by rw [← hN]; unfold nOrds; omega
  have HOK : Hid (∀ o ∈ L, o.ok ∧ o.cop ≤ 59) := by rw [← hL]; exact ords_ok data
  have HOE : Hid (∀ c, 0 ≤ c → ordE L c = if c - lstK L N < 0 then 4 else 0) := fun c hc => by
    have := ords_ordE data c hc
    rw [hL, hlen] at this
    exact this
  have HLEN := Lib.hid hlen
  have HL := Lib.hid hL
  have HN := Lib.hid hN
  have HC := Lib.hid hc
  clear h hc hL hN hlen hby
  go_enter Try.func10, Try.ntmps10
  go_wp2_with fail
  refine C1.out.mono ?_
  rintro _ w1 ⟨A, cc, rfl, hO, hb1⟩
  rw [HN.out] at hO ⊢
  rw [HL.out] at hO
  have HR1 : Hid (ROrds w1.heap.size w1 (.slice A N cc) L) := by
    have := Rd.own hO (own_le hO)
    show Rd _ _ _ _ _ _
    rw [HLEN.out]
    exact this
  have HB1 := Lib.hid hb1
  have C2 := Lib.hid (Share_any L c (by omega) _ w1 HR1.out)
  clear C1 hO hb1
  go_upto_region 3 with fail
  rw [HC.out]
  go_wp2_with fail
  refine C2.out.mono ?_
  rintro _ w2 ⟨v2, rfl, hnil, hown, hb2⟩
  have HB2 : Hid (Below w.heap.size w w2) := HB1.out.trans (hb2.mono HB1.out.size)
  have HB12 := Lib.hid hb2
  have HR2 : Hid (ROrds w2.heap.size w2 (.slice A N cc) L) := Rd.more (Rd.below HR1.out hb2) hb2.size
  have HNIL := Lib.hid hnil
  have HOWN := Lib.hid hown
  obtain ⟨e, he⟩ : ∃ e, ordE L c = e := ⟨_, rfl⟩
  rw [he] at HNIL HOWN ⊢
  have hee := HOE.out c c0
  rw [he] at hee
  have HEE := Lib.hid he
  clear C2 hnil hown hb2 he
  by_cases hneed : c - lstK L N < 0
  · rw [if_pos hneed] at hee
    subst hee
    obtain rfl : v2 = .slice none 0 0 := HNIL.out (by omega)
    have HND : Hid (c < lstK L N) := by show _ < _; omega
    have hlb : Hid (∀ k, 0 ≤ lstK L k ∧ lstK L k ≤ 400000) := fun k => lstK_bd (by rw [HLEN.out]; omega) (fun o ho => (HOK.out o ho).1) k
    obtain ⟨A', c', hsl, hlm, HD⟩ := ords_later HR2.out
    injection hsl with e1 e2 e3
    subst e1 e3
    clear e2 hneed HNIL HOWN HEE
    rw [HLEN.out] at hlm
    go_wp2_with fail
    go_loopw [13, 44] (fun s i wr => ∃ k : Nat, k ≤ N ∧ i = .int .i64 k ∧ ∃ S : Int, s = .int .i64 S ∧ Hid (S = lstK L k) ∧ Hid (Below w2.heap.size w2 wr)) (fun _ i _ => N - (intOf i).toNat)
    case atStart => exact ⟨0, Nat.zero_le _, rfl, 0, rfl, by show _ = _; simp [lstK, sumI], Below.refl _ _⟩
    case round =>
    obtain ⟨k, hk, rfl, S, rfl, hS, hB⟩ := hrel
    obtain ⟨X, rfl⟩ : ∃ X : World, X = wr := ⟨_, rfl⟩
    obtain ⟨s1, s2⟩ : 0 ≤ S ∧ S ≤ 400000 := by rw [hS.out]; exact hlb.out k
    by_cases hlt : k < N
    · obtain ⟨o, ho⟩ : ∃ x, L[k]? = some x := ⟨_, List.getElem?_eq_getElem (by rw [HLEN.out]; exact hlt)⟩
      obtain ⟨g, p, rfl, -, HX⟩ := HD.out k o ho
      obtain ⟨d0, d1, d2⟩ := HX.out X hB.out
      have F1 : ∃ X1, X.alloc (.cells #[.int .i64 o.ag, .int .i64 o.cop, .int .i64 o.least] 33) = X1 ∧ Hid (Below X.heap.size X X1) ∧ Hid (Blk X1 X.heap.size 33 #[.int .i64 o.ag, .int .i64 o.cop, .int .i64 o.least]) := ⟨_, rfl, below_alloc _ _, Blk.new _ _ _⟩
      obtain ⟨X1, e1, HX1, HK1⟩ := F1
      have E1 := Lib.hid e1
      have HBX : Hid (Below w2.heap.size w2 X1) := hB.out.trans (HX1.out.mono hB.out.size)
      have d3 := cellOf HK1.out 2 (x := .int .i64 o.least) rfl
      have HNX : Hid (S + o.least = lstK L (k + 1)) := by show _ = _; rw [lstK_next ho, hS.out]
      have u1 : -400000 ≤ S + o.least := by have := hlb.out (k + 1); have := HNX.out; omega
      have u2 : S + o.least ≤ 400000 := by have := hlb.out (k + 1); have := HNX.out; omega
      have k0 : (0 : Int) ≤ (k : Int) := by omega
      have k1 : (k : Int) < (N : Int) := by omega
      clear ho HX e1 hS hB HX1 HK1
      go_upto_region 9 with fail
      rw [E1.out]
      clear E1 d0 d1 d2
      go_wp2_with fail
      go_roundw
      case rel => exact ⟨k + 1, by omega, by go_num, _, rfl, HNX, HBX⟩
      case measure => simp [intOf]; omega
    · have hSc : c < S := by rw [hS.out, show k = N by omega]; exact HND.out
      have HBX : Hid (Below w.heap.size w X) := HB2.out.trans (hB.out.mono HB2.out.size)
      clear hS hB
      go_wp2_with fail
      refine (awake_any _).mono ?_
      rintro _ w9 ⟨rfl, b9⟩
      have HB9 : Hid (Below w.heap.size w w9) := HBX.out.trans (b9.mono HBX.out.size)
      clear b9
      go_wp2
      go_ret
      exact ⟨rfl, HB9.out⟩
  rw [if_neg hneed] at hee
  subst hee
  have hcl : lstK L L.length ≤ c := by rw [HLEN.out]; omega
  have HCL := Lib.hid hcl
  have HD0 : Hid (∀ o ∈ L, o.ok) := fun o ho => (HOK.out o ho).1
  obtain ⟨a, ha⟩ : ∃ a, sharesD L c = a := ⟨_, rfl⟩
  obtain ⟨b, hb⟩ : ∃ b, sharesD L (c + 1) = b := ⟨_, rfl⟩
  have hla : a.length = N := by rw [← ha, shares_len HD0.out]; exact HLEN.out
  have hlb : b.length = N := by rw [← hb, shares_len HD0.out]; exact HLEN.out
  have ho2 := HOWN.out rfl
  rw [ha] at ho2
  obtain ⟨Aa, ca, rfl⟩ := ownsRow_form ho2
  have HRa : Hid (RInts w2.heap.size w2 (.slice Aa a.length ca) a) := Rd.own ho2 (own_le ho2)
  rw [hla] at HRa ⊢
  have HLA := Lib.hid hla
  have HLBb := Lib.hid hlb
  have C3 := Lib.hid (Share_any L (c + 1) (by omega) _ w2 HR2.out)
  have HE2 : Hid (ordE L (c + 1) = 0) := by show _ = _; rw [HOE.out (c + 1) (by omega), if_neg (by omega)]
  have HA := Lib.hid ha
  have HBe := Lib.hid hb
  clear ho2 HOWN HNIL ha hb hla hlb hneed hcl
  go_wp2_with fail
  refine C3.out.mono ?_
  rintro _ w3 ⟨v3, rfl, -, hown3, hb3⟩
  have ho3 := hown3 HE2.out
  rw [HBe.out] at ho3
  rw [HE2.out]
  obtain ⟨Ab, cb, rfl⟩ := ownsRow_form ho3
  have HRb : Hid (RInts w3.heap.size w3 (.slice Ab b.length cb) b) := Rd.own ho3 (own_le ho3)
  rw [HLBb.out] at HRb ⊢
  have HB3 : Hid (Below w.heap.size w w3) := HB2.out.trans (hb3.mono HB2.out.size)
  have HR3 : Hid (ROrds w3.heap.size w3 (.slice A N cc) L) := Rd.more (Rd.below HR2.out hb3) hb3.size
  have HRa3 : Hid (RInts w3.heap.size w3 (.slice Aa N ca) a) := Rd.more (Rd.below HRa.out hb3) hb3.size
  have C4 : Hid (Calls Try.prog 31 #[.slice A N cc, .int .i64 c, .slice Aa N ca] w3 fun e w' => e = .returned (.tuple #[.bool true, .int .i64 0]) ∧ Below w3.heap.size w3 w') := by
    have h1 := Fair_any L c (by omega) a _ _ w3 HR3.out HRa3.out
    have h2 := shares_fair HD0.out HEE.out HCL.out
    rw [HA.out] at h2
    rw [h2.1, h2.2] at h1
    exact h1
  clear hown3 ho3 hb3 C3
  go_wp2_with fail
  refine C4.out.mono ?_
  rintro _ w4 ⟨rfl, hb4⟩
  have HB4 : Hid (Below w.heap.size w w4) := HB3.out.trans (hb4.mono HB3.out.size)
  have HR4 : Hid (ROrds w4.heap.size w4 (.slice A N cc) L) := Rd.more (Rd.below HR3.out hb4) hb4.size
  have HRa4 : Hid (RInts w4.heap.size w4 (.slice Aa N ca) a) := Rd.more (Rd.below HRa3.out hb4) hb4.size
  have HRb4 : Hid (RInts w4.heap.size w4 (.slice Ab N cb) b) := Rd.more (Rd.below HRb.out hb4) hb4.size
  clear hb4 C4
  obtain ⟨A', c', hsl, hlm, HD⟩ := ords_later HR4.out
  injection hsl with e1 e2 e3
  subst e1 e3
  obtain ⟨A', c', hsl, -, HIa⟩ := ints_later HRa4.out
  injection hsl with e1 e2' e3
  subst e1 e3
  obtain ⟨A', c', hsl, -, HIb⟩ := ints_later HRb4.out
  injection hsl with e1 e2'' e3
  subst e1 e3
  rw [HLEN.out] at hlm
  have nn : ((N : Int) != (N : Int)) = false := by simp
  have hGa : Given L a := by rw [← HA.out]; exact shares_given HD0.out
  have hGb : Given L b := by rw [← HBe.out]; exact shares_given HD0.out
  have hEa : Even L a := by rw [← HA.out]; exact shares_even HD0.out
  have hSa : sumI a = min c (allC L) := by rw [← HA.out]; exact shares_sum HD0.out HCL.out
  have hSb : sumI b = min (c + 1) (allC L) := by rw [← HBe.out]; exact shares_sum HD0.out (by have := HCL.out; omega)
  have hnear : ∀ i, a.getD i 0 ≤ b.getD i 0 ∧ b.getD i 0 ≤ a.getD i 0 + 1 := fun i => by
    have h1 : b = stepS L a := by rw [← HBe.out, ← HA.out]; exact shares_more HCL.out
    rw [h1]
    exact step_near hGa i
  have HGa := Lib.hid hGa
  have HGb := Lib.hid hGb
  have HEa := Lib.hid hEa
  have HSa := Lib.hid hSa
  have HSb := Lib.hid hSb
  have HNR := Lib.hid hnear
  clear e2 e2' e2'' hGa hGb hEa hSa hSb hnear HRa HRb HRa3 HR3
  go_wp2_with fail
  have HSU : Hid (∀ k, k ≤ N → (0 ≤ aK L k ∧ aK L k ≤ 59 * k) ∧ (0 ≤ gK a k ∧ gK a k ≤ 59 * k) ∧ (0 ≤ gK b k ∧ gK b k ≤ 59 * k)) := fun k hk => by
    induction k with
    | zero => exact ⟨⟨by show (0 : Int) ≤ 0; omega, by show (0 : Int) ≤ _; omega⟩, ⟨by show (0 : Int) ≤ 0; omega, by show (0 : Int) ≤ _; omega⟩, ⟨by show (0 : Int) ≤ 0; omega, by show (0 : Int) ≤ _; omega⟩⟩
    | succ k ih =>
      obtain ⟨i1, i2, i3⟩ := ih (by omega)
      obtain ⟨o, ho⟩ : ∃ x, L[k]? = some x := ⟨_, List.getElem?_eq_getElem (by rw [HLEN.out]; omega)⟩
      obtain ⟨ak, hak⟩ : ∃ x, a[k]? = some x := ⟨_, List.getElem?_eq_getElem (by rw [HLA.out]; omega)⟩
      obtain ⟨bk, hbk⟩ : ∃ x, b[k]? = some x := ⟨_, List.getElem?_eq_getElem (by rw [HLBb.out]; omega)⟩
      have h1 := HGa.out.at_ k (by rw [HLEN.out]; omega)
      have h2 := HGb.out.at_ k (by rw [HLEN.out]; omega)
      have h3 : a.getD k 0 = ak := by rw [List.getD_eq_getElem?_getD, hak]; rfl
      have h4 : b.getD k 0 = bk := by rw [List.getD_eq_getElem?_getD, hbk]; rfl
      rw [h3, leastAt_of ho, copAt_of ho] at h1
      rw [h4, leastAt_of ho, copAt_of ho] at h2
      obtain ⟨⟨-, ⟨q1, q2⟩, q3, q4⟩, q5⟩ := HOK.out o (List.mem_of_getElem? ho)
      rw [aK_next ho, gK_next hak, gK_next hbk]
      push_cast
      omega
  go_loopw [20, 21, 22, 103] (fun s t u i wr => ∃ k : Nat, k ≤ N ∧ i = .int .i64 k ∧ ∃ S T U : Int, s = .int .i64 S ∧ t = .int .i64 T ∧ u = .int .i64 U ∧ Hid (S = aK L k) ∧ Hid (T = gK a k) ∧ Hid (U = gK b k) ∧ Hid (Below w4.heap.size w4 wr)) (fun _ _ _ i _ => N - (intOf i).toNat)
  case atStart => exact ⟨0, Nat.zero_le _, rfl, 0, 0, 0, rfl, rfl, rfl, rfl, rfl, rfl, Below.refl _ _⟩
  case round =>
  obtain ⟨k, hk, rfl, S, T, U, rfl, rfl, rfl, hS, hT, hU, hB⟩ := hrel
  obtain ⟨X, rfl⟩ : ∃ X : World, X = wr := ⟨_, rfl⟩
  obtain ⟨⟨s1, s2⟩, ⟨t1, t2⟩, u1, u2⟩ : (0 ≤ S ∧ S ≤ 59 * k) ∧ (0 ≤ T ∧ T ≤ 59 * k) ∧ (0 ≤ U ∧ U ≤ 59 * k) := by
    rw [hS.out, hT.out, hU.out]; exact HSU.out k hk
  by_cases hlt : k < N
  · obtain ⟨o, ho⟩ : ∃ x, L[k]? = some x := ⟨_, List.getElem?_eq_getElem (by rw [HLEN.out]; exact hlt)⟩
    obtain ⟨ak, hak⟩ : ∃ x, a[k]? = some x := ⟨_, List.getElem?_eq_getElem (by rw [HLA.out]; exact hlt)⟩
    obtain ⟨bk, hbk⟩ : ∃ x, b[k]? = some x := ⟨_, List.getElem?_eq_getElem (by rw [HLBb.out]; exact hlt)⟩
    obtain ⟨g, p, rfl, -, HX⟩ := HD.out k o ho
    obtain ⟨g2, p2, rfl, HY⟩ := HIa.out k ak hak
    obtain ⟨g3, p3, rfl, HZ⟩ := HIb.out k bk hbk
    obtain ⟨d0, d1, d2⟩ := HX.out X hB.out
    obtain ⟨xa, hxa⟩ : ∃ z, o.ag = z := ⟨_, rfl⟩
    obtain ⟨xc, hxc⟩ : ∃ z, o.cop = z := ⟨_, rfl⟩
    obtain ⟨xl, hxl⟩ : ∃ z, o.least = z := ⟨_, rfl⟩
    have h1 := HGa.out.at_ k (by rw [HLEN.out]; omega)
    have h2 := HNR.out k
    have h3 : a.getD k 0 = ak := by rw [List.getD_eq_getElem?_getD, hak]; rfl
    have h4 : b.getD k 0 = bk := by rw [List.getD_eq_getElem?_getD, hbk]; rfl
    rw [h3, leastAt_of ho, copAt_of ho, hxc, hxl] at h1
    rw [h3, h4] at h2
    obtain ⟨⟨-, ⟨q1, q2⟩, q3, q4⟩, q5⟩ := HOK.out o (List.mem_of_getElem? ho)
    rw [hxc] at q1 q2 q4 q5
    rw [hxl] at q3 q4
    obtain ⟨h11, h12⟩ := h1
    obtain ⟨h21, h22⟩ := h2
    have e1 : decide (ak < xl) = false := by simp; omega
    have e2 : decide (xc < ak) = false := by simp; omega
    have e3 : decide (bk < ak) = false := by simp; omega
    have e4 : decide (ak + 1 < bk) = false := by simp; omega
    have HN1 : Hid (S + xc = aK L (k + 1)) := by show _ = _; rw [aK_next ho, hS.out, hxc]
    have HN2 : Hid (T + ak = gK a (k + 1)) := by show _ = _; rw [gK_next hak, hT.out]
    have HN3 : Hid (U + bk = gK b (k + 1)) := by show _ = _; rw [gK_next hbk, hU.out]
    rw [hxa] at d0
    rw [hxc] at d1
    rw [hxl] at d2
    have F1 : ∃ X1, X.alloc (.cells #[.int .i64 xa, .int .i64 xc, .int .i64 xl] 33) = X1 ∧ Hid (Below X.heap.size X X1) ∧ Hid (Blk X1 X.heap.size 33 #[.int .i64 xa, .int .i64 xc, .int .i64 xl]) := ⟨_, rfl, below_alloc _ _, Blk.new _ _ _⟩
    obtain ⟨X1, e1', HX1, HK1⟩ := F1
    have E1 := Lib.hid e1'
    obtain ⟨q, hq⟩ : ∃ q, X.heap.size = q := ⟨_, rfl⟩
    rw [hq] at HK1
    have HQ := Lib.hid hq
    have HBX : Hid (Below w4.heap.size w4 X1) := hB.out.trans (HX1.out.mono hB.out.size)
    have HCS : Hid (∀ Z, Below X1.heap.size X1 Z → Z.cell? ⟨g2, p2 + k, none⟩ = some (.int .i64 ak) ∧ Z.cell? ⟨g3, p3 + k, none⟩ = some (.int .i64 bk) ∧ Z.cell? ⟨q, 1, none⟩ = some (.int .i64 xc) ∧ Z.cell? ⟨q, 2, none⟩ = some (.int .i64 xl)) := fun Z hz => by
      have j1 := HBX.out.trans (hz.mono HBX.out.size)
      have j2 := HK1.out.below hz HK1.out.lt
      exact ⟨HY.out Z j1, HZ.out Z j1, cellOf j2 1 rfl, cellOf j2 2 rfl⟩
    have k0 : (0 : Int) ≤ (k : Int) := by omega
    have k1 : (k : Int) < (N : Int) := by omega
    have kk : (k : Int) ≤ 12 := by omega
    clear ho hak hbk HX HY HZ e1' hq h3 h4 hS hT hU hB HX1 HK1 hxa hxc hxl
    go_upto_region 20 with fail
    rw [E1.out, HQ.out]
    clear E1 d0 d1 d2 HQ
    obtain ⟨f1, f2, f3, f4⟩ := HCS.out X1 (Below.refl _ _)
    go_quiet (fail)
    obtain ⟨Z, hZ, hbZ⟩ : ∃ Z, X1.drewN nq = Z ∧ Below X1.heap.size X1 Z := ⟨_, rfl, below_drewN (Below.refl _ _) _⟩
    have HZZ := Lib.hid hZ
    have HBZ := Lib.hid hbZ
    clear f1 f2 f3 f4 hZ hbZ
    obtain ⟨f1, f2, f3, f4⟩ := HCS.out Z HBZ.out
    go_upto_region 22 with fail
    rw [HZZ.out]
    go_quiet (fail)
    go_wp2_with fail
    go_roundw
    case rel => exact ⟨k + 1, by omega, by go_num, _, _, _, rfl, rfl, rfl, HN1, HN2, HN3, HBX.out.trans ((below_drewN HBZ.out _).mono HBX.out.size)⟩
    case measure => simp [intOf]; omega
  obtain rfl : k = N := by omega
  have hse : S = allC L := by rw [hS.out]; unfold aK allC; rw [List.take_of_length_le (by rw [List.length_map, HLEN.out]; exact Nat.le_refl _)]
  have hte : T = min c S := by rw [hse, ← HSa.out, hT.out]; unfold gK; rw [List.take_of_length_le (by rw [HLA.out]; exact Nat.le_refl _)]
  have hue : U = min (c + 1) S := by rw [hse, ← HSb.out, hU.out]; unfold gK; rw [List.take_of_length_le (by rw [HLBb.out]; exact Nat.le_refl _)]
  have hs1 : (T != min S c) = false := by
    have : T = min S c := by omega
    simp [this]
  have hs2 : (U != min S (c + 1)) = false := by
    have : U = min S (c + 1) := by omega
    simp [this]
  have kk : (k : Int) ≤ 12 := by omega
  have HBX : Hid (Below w.heap.size w X) := HB4.out.trans (hB.out.mono HB4.out.size)
  have HBX4 : Hid (Below w4.heap.size w4 X) := hB.out
  clear hse hte hue hS hT hU hB
  by_cases hN0 : k = 0
  · have hk0 : ((k : Int) == 0) = true := by simp [hN0]
    clear hN0
    go_wp2_with fail
    refine (awake_any _).mono ?_
    rintro _ w9 ⟨rfl, b9⟩
    have HB9 : Hid (Below w.heap.size w w9) := HBX.out.trans (b9.mono HBX.out.size)
    clear b9
    go_wp2
    go_ret
    exact ⟨rfl, HB9.out⟩
  have hk0 : ((k : Int) == 0) = false := by simp [hN0]
  have hk0' : ¬ (k : Int) = 0 := by omega
  obtain ⟨i, hi, hil⟩ : ∃ i : Nat, x % (k : Int) = (i : Int) ∧ i < k := ⟨(x % (k : Int)).toNat, by have := Int.emod_nonneg x hk0'; omega, by have := Int.emod_lt_of_pos x (show (0 : Int) < (k : Int) by omega); have := Int.emod_nonneg x hk0'; omega⟩
  obtain ⟨j, hj, hjl⟩ : ∃ i : Nat, y % (k : Int) = (i : Int) ∧ i < k := ⟨(y % (k : Int)).toNat, by have := Int.emod_nonneg y hk0'; omega, by have := Int.emod_lt_of_pos y (show (0 : Int) < (k : Int) by omega); have := Int.emod_nonneg y hk0'; omega⟩
  have kx : IntKind.i64.wrap x = x := IntWalk.i64_in _ ⟨by omega, by omega⟩
  have ky : IntKind.i64.wrap y = y := IntWalk.i64_in _ ⟨by omega, by omega⟩
  have kri : IntKind.i64.wrap (x.tmod (k : Int)) = (i : Int) := by rw [Int.tmod_eq_emod_of_nonneg x0, hi]; exact IntWalk.i64_in _ ⟨by omega, by omega⟩
  have krj : IntKind.i64.wrap (y.tmod (k : Int)) = (j : Int) := by rw [Int.tmod_eq_emod_of_nonneg y0, hj]; exact IntWalk.i64_in _ ⟨by omega, by omega⟩
  have HI := Lib.hid hi
  have HJ := Lib.hid hj
  clear hi hj
  go_upto_region 28 with fail
  clear hs1 hs2
  go_quiet (fail)
  clear kx ky kri krj
  obtain ⟨o1, ho1⟩ : ∃ x, L[i]? = some x := ⟨_, List.getElem?_eq_getElem (by rw [HLEN.out]; exact hil)⟩
  obtain ⟨o2, ho2⟩ : ∃ x, L[j]? = some x := ⟨_, List.getElem?_eq_getElem (by rw [HLEN.out]; exact hjl)⟩
  obtain ⟨ai, hai⟩ : ∃ x, a[i]? = some x := ⟨_, List.getElem?_eq_getElem (by rw [HLA.out]; exact hil)⟩
  obtain ⟨aj, haj⟩ : ∃ x, a[j]? = some x := ⟨_, List.getElem?_eq_getElem (by rw [HLA.out]; exact hjl)⟩
  obtain ⟨g, p, rfl, -, HX1⟩ := HD.out i o1 ho1
  obtain ⟨g', p', e, -, HX2⟩ := HD.out j o2 ho2
  cases e
  obtain ⟨g2, p2, rfl, HY1⟩ := HIa.out i ai hai
  obtain ⟨g2', p2', e, HY2⟩ := HIa.out j aj haj
  cases e
  have gi : a.getD i 0 = ai := by rw [List.getD_eq_getElem?_getD, hai]; rfl
  have gj : a.getD j 0 = aj := by rw [List.getD_eq_getElem?_getD, haj]; rfl
  have hi1 := HGa.out.at_ i (by rw [HLEN.out]; exact hil)
  have hj1 := HGa.out.at_ j (by rw [HLEN.out]; exact hjl)
  have hev := HEa.out i j (by rw [HLEN.out]; exact hil) (by rw [HLEN.out]; exact hjl)
  rw [gi, leastAt_of ho1, copAt_of ho1] at hi1
  rw [gj, leastAt_of ho2, copAt_of ho2] at hj1
  rw [gi, gj, leastAt_of ho1, copAt_of ho1, copAt_of ho2] at hev
  obtain ⟨l1, hl1⟩ : ∃ z, o1.least = z := ⟨_, rfl⟩
  obtain ⟨c1', hc1'⟩ : ∃ z, o1.cop = z := ⟨_, rfl⟩
  obtain ⟨l2, hl2⟩ : ∃ z, o2.least = z := ⟨_, rfl⟩
  obtain ⟨c2', hc2'⟩ : ∃ z, o2.cop = z := ⟨_, rfl⟩
  obtain ⟨⟨-, ⟨m1, m2⟩, m3, m4⟩, m5⟩ := HOK.out o1 (List.mem_of_getElem? ho1)
  obtain ⟨⟨-, ⟨n1, n2⟩, n3, n4⟩, n5⟩ := HOK.out o2 (List.mem_of_getElem? ho2)
  rw [hl1, hc1'] at hi1 hev
  rw [hl2, hc2'] at hj1
  rw [hc2'] at hev
  rw [hc1'] at m1 m2 m4 m5
  rw [hl1] at m3 m4
  rw [hc2'] at n1 n2 n4 n5
  rw [hl2] at n3 n4
  have HCELL : Hid (∀ W, Below w4.heap.size w4 W → (W.cell? ⟨g2, p2 + i, none⟩ = some (.int .i64 ai) ∧ W.cell? ⟨g2, p2 + j, none⟩ = some (.int .i64 aj)) ∧ (W.cell? ⟨g, p + i * 3 + 2, none⟩ = some (.int .i64 l1) ∧ W.cell? ⟨g, p + i * 3 + 1, none⟩ = some (.int .i64 c1') ∧ W.cell? ⟨g, p + j * 3 + 1, none⟩ = some (.int .i64 c2'))) := fun W hW => by
    obtain ⟨-, u1, u2⟩ := HX1.out W hW
    obtain ⟨-, u3, -⟩ := HX2.out W hW
    rw [hc1'] at u1
    rw [hl1] at u2
    rw [hc2'] at u3
    exact ⟨⟨HY1.out W hW, HY2.out W hW⟩, u2, u1, u3⟩
  obtain ⟨hi11, hi12⟩ := hi1
  obtain ⟨hj11, hj12⟩ := hj1
  have HEV := Lib.hid hev
  have i0 : (0 : Int) ≤ (i : Int) := by omega
  have i1 : (i : Int) < (k : Int) := by omega
  have j0 : (0 : Int) ≤ (j : Int) := by omega
  have j1 : (j : Int) < (k : Int) := by omega
  clear ho1 ho2 hai haj HX1 HX2 HY1 HY2 gi gj hev hl1 hl2 hc1' hc2' hk0 hk0' hN0
  go_upto_region 29 with fail
  rw [HI.out, HJ.out]
  obtain ⟨Z, hZ, hbZ⟩ : ∃ Z, X.drewN nq = Z ∧ Below X.heap.size X Z := ⟨_, rfl, below_drewN (Below.refl _ _) _⟩
  have HZ4 : Hid (Below w4.heap.size w4 Z) := HBX4.out.trans (hbZ.mono HBX4.out.size)
  have HZW : Hid (Below w.heap.size w Z) := HBX.out.trans (hbZ.mono HBX.out.size)
  have HBW : Hid (∀ W, Below Z.heap.size Z W → Below w.heap.size w W) := fun W hW => HZW.out.trans (hW.mono HZW.out.size)
  rw [hZ]
  clear hZ hbZ HBX HBX4
  obtain ⟨⟨fa1, fa2⟩, fo1, fo2, fo3⟩ := HCELL.out Z HZ4.out
  by_cases hij : i = j
  · have hb1 : ((i : Int) == (j : Int)) = true := by simp [hij]
    clear hij
    go_quiet (fail)
    clear fa1 fa2 fo1 fo2 fo3
    go_wp2_with fail
    refine (awake_any _).mono ?_
    rintro _ w9 ⟨rfl, b9⟩
    have HB9 : Hid (Below w.heap.size w w9) := (HBW.out _ (below_drewN (Below.refl _ _) _)).trans (b9.mono (HBW.out _ (below_drewN (Below.refl _ _) _)).size)
    clear b9
    go_wp2
    go_ret
    exact ⟨rfl, HB9.out⟩
  have hb1 : ((i : Int) == (j : Int)) = false := by simp; omega
  by_cases hil2 : ai = l1
  · have hb2 : (ai == l1) = true := by simpa using hil2
    clear hil2
    go_quiet (fail)
    clear fa1 fa2 fo1 fo2 fo3
    go_wp2_with fail
    refine (awake_any _).mono ?_
    rintro _ w9 ⟨rfl, b9⟩
    have HB9 : Hid (Below w.heap.size w w9) := (HBW.out _ (below_drewN (Below.refl _ _) _)).trans (b9.mono (HBW.out _ (below_drewN (Below.refl _ _) _)).size)
    clear b9
    go_wp2
    go_ret
    exact ⟨rfl, HB9.out⟩
  have hb2 : (ai == l1) = false := by simpa using hil2
  by_cases hjc : aj = c2'
  · have hb3 : (aj == c2') = true := by simpa using hjc
    clear hjc
    go_quiet (fail)
    clear fa1 fa2 fo1 fo2 fo3
    go_wp2_with fail
    refine (awake_any _).mono ?_
    rintro _ w9 ⟨rfl, b9⟩
    have HB9 : Hid (Below w.heap.size w w9) := (HBW.out _ (below_drewN (Below.refl _ _) _)).trans (b9.mono (HBW.out _ (below_drewN (Below.refl _ _) _)).size)
    clear b9
    go_wp2
    go_ret
    exact ⟨rfl, HB9.out⟩
  have hb3 : (aj == c2') = false := by simpa using hjc
  have hle := HEV.out (by omega) (by omega)
  have HLE := Lib.hid hle
  have b1 : -10000 ≤ ai - 1 := by omega
  have b2 : ai - 1 ≤ 10000 := by omega
  have pp1 : 0 ≤ (ai - 1) * c2' ∧ (ai - 1) * c2' ≤ 1000000 := ⟨Int.mul_nonneg (by omega) (by omega), Int.le_trans (Int.mul_le_mul (show ai - 1 ≤ 100 by omega) (show c2' ≤ 100 by omega) n1 (by omega)) (by omega)⟩
  have pp2 : 0 ≤ aj * c1' ∧ aj * c1' ≤ 1000000 := ⟨Int.mul_nonneg (by omega) (by omega), Int.le_trans (Int.mul_le_mul (show aj ≤ 100 by omega) (show c1' ≤ 100 by omega) m1 (by omega)) (by omega)⟩
  have HP1 := Lib.hid pp1
  have HP2 := Lib.hid pp2
  clear hij hil2 hjc hle pp1 pp2
  go_quiet (fail)
  obtain ⟨Z2, hZ, hbZ⟩ : ∃ Z2, Z.drewN nq = Z2 ∧ Below Z.heap.size Z Z2 := ⟨_, rfl, below_drewN (Below.refl _ _) _⟩
  have HZZ := Lib.hid hZ
  have HZ42 : Hid (Below w4.heap.size w4 Z2) := HZ4.out.trans (hbZ.mono HZ4.out.size)
  have HBZ := Lib.hid hbZ
  clear hZ hbZ fa1 fa2 fo1 fo2 fo3 hb1 hb2 hb3
  obtain ⟨⟨fa1, fa2⟩, fo1, fo2, fo3⟩ := HCELL.out Z2 HZ42.out
  go_upto_region 31 with fail
  rw [HZZ.out]
  go_quiet (fail)
  obtain ⟨Z3, hZ, hbZ⟩ : ∃ Z3, Z2.drewN nq = Z3 ∧ Below Z2.heap.size Z2 Z3 := ⟨_, rfl, below_drewN (Below.refl _ _) _⟩
  have HZZ3 := Lib.hid hZ
  have HZ43 : Hid (Below w4.heap.size w4 Z3) := HZ42.out.trans (hbZ.mono HZ42.out.size)
  have HBZ3 : Hid (Below Z.heap.size Z Z3) := HBZ.out.trans (hbZ.mono HBZ.out.size)
  clear hZ hbZ fa1 fa2 fo1 fo2 fo3
  go_upto_region 32 with fail
  rw [HZZ3.out]
  obtain ⟨P, hP⟩ : ∃ P, (ai - 1) * c2' = P := ⟨_, rfl⟩
  obtain ⟨Q, hQ⟩ : ∃ Q, aj * c1' = Q := ⟨_, rfl⟩
  have hle := HLE.out
  obtain ⟨w1', w2'⟩ := HP1.out
  obtain ⟨w3', w4'⟩ := HP2.out
  rw [hP] at hle w1' w2'
  rw [hQ] at hle w3' w4'
  have km1 : IntKind.i64.wrap ((ai - 1) * c2') = P := by rw [hP]; exact IntWalk.i64_in _ ⟨by omega, by omega⟩
  have km2 : IntKind.i64.wrap (aj * c1') = Q := by rw [hQ]; exact IntWalk.i64_in _ ⟨by omega, by omega⟩
  have kwi : IntKind.i64.wrap (i : Int) = (i : Int) := IntWalk.i64_in _ ⟨by omega, by omega⟩
  have kwj : IntKind.i64.wrap (j : Int) = (j : Int) := IntWalk.i64_in _ ⟨by omega, by omega⟩
  clear hP hQ
  have hdr : Below w4.heap.size w4 Z3.drew := HZ43.out.drew
  refine wp_region_noPanic ?_
  refine wp_region_T 16 (fun X => X.cell? ⟨g, p + i * 3 + 1, none⟩ = some (.int .i64 c1') ∧ X.cell? ⟨g, p + j * 3 + 1, none⟩ = some (.int .i64 c2')) (by kernel_rfl) (by exact ⟨(HCELL.out _ hdr).2.2.1, (HCELL.out _ hdr).2.2.2⟩) (fun hHeld => ?_)
  refine wpAnyT_take (i := 0) (v := ?v0n1) (by kernel_rfl) (by kernel_rfl) rfl (by kernel_rfl) (by kernel_rfl) (by kernel_rfl) (by decide) (fun _ _ _ h => h) (Or.inl ⟨by rfl, ?y0n1⟩) hHeld ?r0n1
  case y0n1 =>
    intro W hSw
    try dsimp only at hSw
    go_simp
    try with_reducible rfl
  simp only [Act.put, List.setIfInBounds_toArray, List.set_cons_zero, List.set_cons_succ]
  refine wpAnyT_take (i := 1) (v := ?v1n2) (by kernel_rfl) (by kernel_rfl) rfl (by kernel_rfl) (by kernel_rfl) (by kernel_rfl) (by decide) (fun _ _ _ h => h) (Or.inl ⟨by rfl, ?y1n2⟩) hHeld ?r1n2
  case y1n2 =>
    intro W hSw
    try dsimp only at hSw
    go_simp
    try with_reducible rfl
  simp only [Act.put, List.setIfInBounds_toArray, List.set_cons_zero, List.set_cons_succ]
  refine wpAnyT_take (i := 2) (v := ?v2n3) (by kernel_rfl) (by kernel_rfl) rfl (by kernel_rfl) (by kernel_rfl) (by kernel_rfl) (by decide) (fun _ _ _ h => h) (Or.inl ⟨by rfl, ?y2n3⟩) hHeld ?r2n3
  case y2n3 =>
    intro W hSw
    try dsimp only at hSw
    go_simp
    try with_reducible rfl
  simp only [Act.put, List.setIfInBounds_toArray, List.set_cons_zero, List.set_cons_succ]
  refine wpAnyT_take (i := 3) (v := ?v3n4) (by kernel_rfl) (by kernel_rfl) rfl (by kernel_rfl) (by kernel_rfl) (by kernel_rfl) (by decide) (fun _ _ _ h => h) (Or.inl ⟨by rfl, ?y3n4⟩) hHeld ?r3n4
  case y3n4 =>
    intro W hSw
    try dsimp only at hSw
    go_simp
    try with_reducible rfl
  simp only [Act.put, List.setIfInBounds_toArray, List.set_cons_zero, List.set_cons_succ]
  refine wpAnyT_take (i := 4) (v := ?v4n5) (by kernel_rfl) (by kernel_rfl) rfl (by kernel_rfl) (by kernel_rfl) (by kernel_rfl) (by decide) (fun _ _ _ h => h) (Or.inl ⟨by rfl, ?y4n5⟩) hHeld ?r4n5
  case y4n5 =>
    intro W hSw
    try dsimp only at hSw
    go_simp
    try with_reducible rfl
  simp only [Act.put, List.setIfInBounds_toArray, List.set_cons_zero, List.set_cons_succ]
  refine wpAnyT_take (i := 5) (v := ?v5n6) (by kernel_rfl) (by kernel_rfl) rfl (by kernel_rfl) (by kernel_rfl) (by kernel_rfl) (by decide) (fun _ _ _ h => h) (Or.inl ⟨by rfl, ?y5n6⟩) hHeld ?r5n6
  case y5n6 =>
    intro W hSw
    try dsimp only at hSw
    go_simp
    try with_reducible rfl
  simp only [Act.put, List.setIfInBounds_toArray, List.set_cons_zero, List.set_cons_succ]
  refine wpAnyT_take (i := 6) (v := ?v6n7) (by kernel_rfl) (by kernel_rfl) rfl (by kernel_rfl) (by kernel_rfl) (by kernel_rfl) (by decide) (fun _ _ _ h => h) (Or.inl ⟨by rfl, ?y6n7⟩) hHeld ?r6n7
  case y6n7 =>
    intro W hSw
    try dsimp only at hSw
    go_simp
    try with_reducible rfl
  simp only [Act.put, List.setIfInBounds_toArray, List.set_cons_zero, List.set_cons_succ]
  refine wpAnyT_take (i := 7) (v := ?v7n8) (by kernel_rfl) (by kernel_rfl) rfl (by kernel_rfl) (by kernel_rfl) (by kernel_rfl) (by decide) (fun _ _ _ h => h) (Or.inl ⟨by rfl, ?y7n8⟩) hHeld ?r7n8
  case y7n8 =>
    intro W hSw
    try dsimp only at hSw
    go_simp
    try with_reducible rfl
  simp only [Act.put, List.setIfInBounds_toArray, List.set_cons_zero, List.set_cons_succ]
  refine wpAnyT_take (i := 8) (v := ?v8n9) (by kernel_rfl) (by kernel_rfl) rfl (by kernel_rfl) (by kernel_rfl) (by kernel_rfl) (by decide) (fun _ _ _ h => h) (Or.inl ⟨by rfl, ?y8n9⟩) hHeld ?r8n9
  case y8n9 =>
    intro W hSw
    try dsimp only at hSw
    go_simp
    try with_reducible rfl
  simp only [Act.put, List.setIfInBounds_toArray, List.set_cons_zero, List.set_cons_succ]
  refine wpAnyT_take (i := 9) (v := ?v9n10) (by kernel_rfl) (by kernel_rfl) rfl (by kernel_rfl) (by kernel_rfl) (by kernel_rfl) (by decide) (fun _ _ _ h => h) (Or.inl ⟨by rfl, ?y9n10⟩) hHeld ?r9n10
  case y9n10 =>
    intro W hSw
    try dsimp only at hSw
    go_simp
    try with_reducible rfl
  simp only [Act.put, List.setIfInBounds_toArray, List.set_cons_zero, List.set_cons_succ]
  refine wpAnyT_take (i := 10) (v := ?v10n11) (by kernel_rfl) (by kernel_rfl) rfl (by kernel_rfl) (by kernel_rfl) (by kernel_rfl) (by decide) (fun _ _ _ h => h) (Or.inl ⟨by rfl, ?y10n11⟩) hHeld ?r10n11
  case y10n11 =>
    intro W hSw
    try dsimp only at hSw
    go_simp
    try with_reducible rfl
  simp only [Act.put, List.setIfInBounds_toArray, List.set_cons_zero, List.set_cons_succ]
  refine wpAnyT_take (i := 11) (v := ?v11n12) (by kernel_rfl) (by kernel_rfl) rfl (by kernel_rfl) (by kernel_rfl) (by kernel_rfl) (by decide) (fun _ _ _ h => h) (Or.inl ⟨by rfl, ?y11n12⟩) hHeld ?r11n12
  case y11n12 =>
    intro W hSw
    try dsimp only at hSw
    go_simp
    try with_reducible rfl
  simp only [Act.put, List.setIfInBounds_toArray, List.set_cons_zero, List.set_cons_succ]
  refine wpAnyT_take (i := 12) (v := ?v12n13) (by kernel_rfl) (by kernel_rfl) rfl (by kernel_rfl) (by kernel_rfl) (by kernel_rfl) (by decide) (fun _ _ _ h => h) (Or.inl ⟨by rfl, ?y12n13⟩) hHeld ?r12n13
  case y12n13 =>
    intro W hSw
    try dsimp only at hSw
    go_simp
    try with_reducible rfl
  simp only [Act.put, List.setIfInBounds_toArray, List.set_cons_zero, List.set_cons_succ]
  refine wpAnyT_take (i := 13) (v := ?v13n14) (by kernel_rfl) (by kernel_rfl) rfl (by kernel_rfl) (by kernel_rfl) (by kernel_rfl) (by decide) (fun _ _ _ h => h) (Or.inl ⟨by rfl, ?y13n14⟩) hHeld ?r13n14
  case y13n14 =>
    intro W hSw
    try dsimp only at hSw
    go_simp
    try with_reducible rfl
  simp only [Act.put, List.setIfInBounds_toArray, List.set_cons_zero, List.set_cons_succ]
  refine wpAnyT_take (i := 14) (v := ?v14n15) (by kernel_rfl) (by kernel_rfl) rfl (by kernel_rfl) (by kernel_rfl) (by kernel_rfl) (by decide) (fun _ _ _ h => h) (Or.inl ⟨by rfl, ?y14n15⟩) hHeld ?r14n15
  case y14n15 =>
    intro W hSw
    try dsimp only at hSw
    go_simp
    try with_reducible rfl
  simp only [Act.put, List.setIfInBounds_toArray, List.set_cons_zero, List.set_cons_succ]
  refine wpAnyT_take (i := 15) (v := ?v15n16) (by kernel_rfl) (by kernel_rfl) rfl (by kernel_rfl) (by kernel_rfl) (by kernel_rfl) (by decide) (fun _ _ _ h => h) (Or.inl ⟨by rfl, ?y15n16⟩) hHeld ?r15n16
  case y15n16 =>
    intro W hSw
    try dsimp only at hSw
    go_simp
    try with_reducible rfl
  simp only [Act.put, List.setIfInBounds_toArray, List.set_cons_zero, List.set_cons_succ]
  refine wpAnyT_seq (k := 16) (by kernel_rfl) rfl (by kernel_rfl) ?_
  clear hHeld
  go_wp2_with (go_at_call 15; refine (awake_any _).mono ?_; rintro _ w9 ⟨rfl, b9⟩)
  refine NoPanic.normal ?_
  have HB9 : Hid (Below w.heap.size w w9) := (HBW.out _ HBZ3.out.drew).trans (b9.mono (HBW.out _ HBZ3.out.drew).size)
  clear b9
  go_wp2
  go_ret
  exact ⟨rfl, HB9.out⟩
end Go.Proofs.Ytlmpbmlbllndcaa
