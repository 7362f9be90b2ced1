/-
  AgentRounds.
-/
import Derived.Test.YtlmpbmlbllndcaaJc
import Derived.Test.YtlmpbmlbllndcaaJg
import Derived.Test.YtlmpbmlbllndcaaGb
namespace Go.Proofs.Ytlmpbmlbllndcaa
open Go.RowKit
attribute [local go_sem] Oper.semAt_some

theorem fieldsLine : Try.prog.underlying 84 = some (.struct (Try.prog.fieldsOf 84)) := by kernel_rfl
theorem heldLine : Try.prog.stoodInHeld 84 = false := by kernel_rfl
theorem flLine : (Try.prog.fieldsOf 84).toList.map (fun f => (f.name != "_", f.type, f.offset)) = [(true, 3, 0), (true, 3, 1), (true, 3, 2)] := by kernel_rfl
theorem eqLine (a b c a' b' c' : Int) (w : World) : (Op.equalIn 10000 84 (.agg #[.int .i64 a, .int .i64 b, .int .i64 c]) (.agg #[.int .i64 a', .int .i64 b', .int .i64 c'])).run Try.prog w = .ok (a == a' && (b == b' && c == c')) w := by
  rw [run_equalIn_agg w 9999 _ _ _ fieldsLine heldLine]
  have hl := flLine
  generalize (Try.prog.fieldsOf 84).toList = fs at hl ⊢
  obtain ⟨f0, r0, rfl, h0, hl⟩ := List.map_eq_cons_iff.1 hl
  obtain ⟨f1, r1, rfl, h1, hl⟩ := List.map_eq_cons_iff.1 hl
  obtain ⟨f2, r2, rfl, h2, hl⟩ := List.map_eq_cons_iff.1 hl
  obtain rfl := List.map_eq_nil_iff.1 hl
  simp only [Prod.mk.injEq, bne_iff_ne, ne_eq] at h0 h1 h2
  obtain ⟨n0, t0, o0⟩ := h0
  obtain ⟨n1, t1, o1⟩ := h1
  obtain ⟨n2, t2, o2⟩ := h2
  clear hl
  have hi : Try.prog.underlying 3 = some (.int .i64) := by kernel_rfl
  simp [Op.eqFields, n0, n1, n2, t0, t1, t2, o0, o1, o2, go_sem]
  by_cases h1 : a = a' <;> by_cases h2 : b = b' <;> by_cases h3 : c = c' <;> simp [h1, h2, h3]
theorem lines_at {B : Nat} {w : World} {A : Option Addr} {n d : Nat} {l : List LineD} (h : OLines B w (.slice A n d) l) (k : Nat) (x : LineD) (hk : l[k]? = some x) : ∃ g o, A = some ⟨g, o, none⟩ ∧ w.cell? ⟨g, o + k * 3, none⟩ = some (.int .i64 x.what) ∧ w.cell? ⟨g, o + k * 3 + 1, none⟩ = some (.int .i64 x.cop) ∧ w.cell? ⟨g, o + k * 3 + 2, none⟩ = some (.int .i64 x.amt) := by
  obtain ⟨A', c', e, -, -, hr⟩ := Rd.own h (own_le h)
  injection e with e1 e2 e3
  subst e1
  obtain ⟨g, o, hA, -, hc⟩ := hr (by have := (List.getElem?_eq_some_iff.1 hk).1; omega)
  have hf := fun j hj => flat_at LineD.cells 3 (fun _ => rfl) _ k j _ hk hj
  exact ⟨g, o, hA, hc _ _ (hf 0 (by omega)), hc _ _ (hf 1 (by omega)), hc _ _ (hf 2 (by omega))⟩
theorem sliceSpan : Try.prog.underlying 40 = some (.slice 87) := by kernel_rfl
theorem infoSpan : (Try.prog.info? 87).map (fun i => (i.zero, i.size, i.bytes)) = some (some (.agg #[.int .i64 0, .int .i64 0]), 2, 16) := by kernel_rfl
theorem row_of_blk {W : World} {b base n size : Nat} {t : TypeId} {cs : Array Value} (h : Blk W b t cs) (hb : base ≤ b) (hs : cs.size = n * size) (hm : n ≤ maxLen) : W.ownsRow base t size (.slice (some ⟨b, 0, none⟩) n n) n cs.toList :=
  ⟨by simpa using hs, .inr ⟨b, n, cs, rfl, hb, h, Nat.le_refl _, hm, hs, List.take_of_length_le (by rw [Array.length_toList, hs]; exact Nat.le_refl _)⟩⟩
theorem spans_one {X : World} {b : Nat} {lo hi : Int} (h : Blk X b 87 #[.int .i64 lo, .int .i64 hi]) : RSpans X.heap.size X (.slice (some ⟨b, 0, none⟩) 1 1) [⟨lo, hi⟩] :=
  SubU.spans (s := ⟨0, 0, 0, 0, [⟨lo, hi⟩]⟩) (.inr ⟨b, ⟨lo, hi⟩, rfl, rfl, h⟩)
set_option maxRecDepth 1000000 in
set_option maxHeartbeats 4000000 in
theorem agentRounds_any (data : List Int) (hby : Bytes data) (x y z t r : Int) (hx : 0 ≤ x ∧ x ≤ 255) (hy : 0 ≤ y ∧ y ≤ 255) (hz : 0 ≤ z ∧ z ≤ 255) (ht : 0 ≤ t ∧ t ≤ 255) (hr : 0 ≤ r ∧ r ≤ 255) (v : Value) (w : World) (h : RBytes w.heap.size w v data) :
    Calls Try.prog 11 #[v, .int .u8 x, .int .u8 y, .int .u8 z, .int .u8 t, .int .u8 r] w fun e w' => e = .returned (.bool true) ∧ Below w.heap.size w w' := by
  obtain ⟨x0, x1⟩ := hx
  obtain ⟨y0, y1⟩ := hy
  obtain ⟨z0, z1⟩ := hz
  obtain ⟨t0, t1⟩ := ht
  obtain ⟨r0, r1⟩ := hr
  have C1 := Lib.hid (subscribers_any data hby v w h)
  obtain ⟨a, ha⟩ : ∃ c, x % 60 = c := ⟨_, rfl⟩
  obtain ⟨q, hq⟩ : ∃ c, y % 60 = c := ⟨_, rfl⟩
  obtain ⟨b, hb⟩ : ∃ c, a + q = c := ⟨_, rfl⟩
  have a0 : 0 ≤ a := by omega
  have a1 : a ≤ 59 := by omega
  have q0 : 0 ≤ q := by omega
  have q1 : q ≤ 59 := by omega
  have b0 : a ≤ b := by omega
  have b1 : b ≤ 118 := by omega
  have b2 : b ≤ a + 59 := by omega
  obtain ⟨L, hL⟩ : ∃ L, subsOf data = L := ⟨_, rfl⟩
  obtain ⟨N, hN⟩ : ∃ N, nSubs data = N := ⟨_, rfl⟩
  have hlen : L.length = N := by rw [← hL, ← hN]; exact subs_len data
  have hN10 : N ≤ 10 := by rw [← hN]; unfold nSubs; omega
  have HOK : Hid (∀ s ∈ L, s.Ok ∧ s.hol.length ≤ 1) := by rw [← hL]; exact subs_ok data
  have HSE : Hid (subsE L = 0) := by rw [← hL]; exact subs_subsE data
  have HIDS : Hid ((L.map SubD.id).Nodup) := by rw [← hL]; exact subs_ids data
  have HLEN := Lib.hid hlen
  have HL := Lib.hid hL
  have HN := Lib.hid hN
  have HA := Lib.hid ha
  have HQ := Lib.hid hq
  have HBE := Lib.hid hb
  have hdab : dayB a b = true := dayB_iff.2 ⟨by omega, by omega, by omega⟩
  have HDAB := Lib.hid hdab
  have w1 : -1000 ≤ a + y % 60 := by omega
  have w2 : a + y % 60 ≤ 1000 := by omega
  clear h ha hq hb hL hN hlen hby hdab
  go_enter Try.func11, Try.ntmps11
  go_wp2_with fail
  refine C1.out.mono ?_
  rintro _ W1 ⟨A, cc, rfl, hO, hb1⟩
  rw [HN.out] at hO ⊢
  rw [HL.out] at hO
  have HR1 := Lib.hid hO
  have HB1 := Lib.hid hb1
  clear C1 hO hb1
  go_upto_region 3 with fail
  rw [HA.out]
  go_upto_region 4 with fail
  rw [HQ.out, HBE.out]
  clear w1 w2
  obtain ⟨Q, hQ⟩ : ∃ Q, (b + 1 - a).toNat = Q := ⟨_, rfl⟩
  have hQ1 : (Q : Int) = b + 1 - a := by omega
  have HQQ := Lib.hid hQ
  have HSUM : Hid (rdSum L a Q = copK L a b N) := by show _ = _; rw [← hQ, ← HLEN.out]; exact rounds_copies (fun s hs => (HOK.out s hs).1) a0
  have hQ60 : Q ≤ 60 := by omega
  clear hQ
  go_wp2_with fail
  go_loopw [16, 17] (fun s i wr => ∃ (k : Nat) (D S : Int), k ≤ Q ∧ i = .int .i64 D ∧ s = .int .i64 S ∧ Hid (D = a + k) ∧ Hid (S = rdSum L a k) ∧ Hid (Below W1.heap.size W1 wr)) (fun _ i _ => (b + 1 - intOf i).toNat)
  case atStart => exact ⟨0, a, 0, Nat.zero_le _, rfl, rfl, by show _ = _; simp, rfl, Below.refl _ _⟩
  case round =>
  obtain ⟨k, D, S, hk, rfl, rfl, hD, hS, hB⟩ := hrel
  obtain ⟨X, rfl⟩ : ∃ X : World, X = wr := ⟨_, rfl⟩
  have hDa := hD.out
  have d0 : a ≤ D := by omega
  have d1 : D ≤ b + 1 := by omega
  have hSb := rdSum_bd L a k
  rw [← hS.out, HLEN.out] at hSb
  obtain ⟨s1, s2⟩ : 0 ≤ S ∧ S ≤ 700 := by
    have h1 : (k : Int) * (N : Int) ≤ 60 * 10 := Int.mul_le_mul (by omega) (by omega) (by omega) (by omega)
    omega
  clear hSb
  by_cases hlt : D ≤ b
  case pos =>
    clear hDa
    have HRX : Hid (RSubs X.heap.size X (.slice A N cc) L) := (RSubs.below HR1.out hB.out).more hB.out.size
    have CR := Lib.hid (Round_any L D _ X HRX.out)
    have HE0 : Hid (rdE L D = 0) := by show _ = _; unfold rdE; rw [if_pos HSE.out, dayB_iff.2 ⟨by omega, by omega, by omega⟩]; rfl
    go_wp2_with fail
    refine CR.out.mono ?_
    rintro _ X2 ⟨u, rfl, hOr, hb2⟩
    rw [HE0.out] at hOr ⊢
    rw [if_pos rfl] at hOr
    obtain ⟨Ar, cr, rfl⟩ := ownsRow_form hOr
    have hm1 := rdK_len L D L.length
    obtain ⟨m, hm⟩ : ∃ m, (rdK L D L.length).length = m := ⟨_, rfl⟩
    rw [hm] at hm1 ⊢
    rw [HLEN.out] at hm1
    have HB2 : Hid (Below W1.heap.size W1 X2) := hB.out.trans (hb2.mono hB.out.size)
    have HNX : Hid (S + (m : Int) = rdSum L a (k + 1)) := by show _ = rdSum L a k + _; rw [← hD.out, hm, hS.out]
    have HD1 : Hid (D + 1 = a + ((k + 1 : Nat) : Int)) := by have := hD.out; show _ = _; push_cast; omega
    have hkQ : k + 1 ≤ Q := by have := hD.out; omega
    have u1 : -2000 ≤ S + (m : Int) := by omega
    have u2 : S + (m : Int) ≤ 2000 := by omega
    have u3 : -2000 ≤ D + 1 := by omega
    have u4 : D + 1 ≤ 2000 := by omega
    clear CR hOr hb2 hB hm hS hD HRX
    go_wp2_with fail
    go_roundw
    case rel => exact ⟨k + 1, D + 1, S + (m : Int), hkQ, rfl, rfl, HD1, HNX, HB2⟩
    case measure => simp [intOf]; omega
  have hkQ : k = Q := by omega
  have HS : Hid (S = copK L a b N) := by show _ = _; rw [hS.out, hkQ, HSUM.out]
  have HBX : Hid (Below w.heap.size w X) := HB1.out.trans (hB.out.mono HB1.out.size)
  have HRX : Hid (RSubs X.heap.size X (.slice A N cc) L) := (RSubs.below HR1.out hB.out).more hB.out.size
  obtain ⟨W2, hW2⟩ : ∃ W, X = W := ⟨_, rfl⟩
  clear hDa hkQ hS hD hB d0 d1 hk
  obtain ⟨A', c', hsl, -, HD⟩ := subs_later HRX.out
  injection hsl with e1 e2 e3
  subst e1 e3
  clear e2 hW2
  obtain ⟨W2, rfl⟩ : ∃ W, W = X := ⟨_, rfl⟩
  obtain ⟨M, rfl⟩ : ∃ M, M = S := ⟨_, rfl⟩
  have HCB : Hid (∀ k, k ≤ N → 0 ≤ copK L a b k ∧ copK L a b k ≤ 20001 * k) := fun k hk => copK_bd (fun s hs => (HOK.out s hs).1) (by omega) (by omega) k (by rw [HLEN.out]; exact hk)
  go_wp2_with fail
  go_loopw [20, 70] (fun s i wr => ∃ (k : Nat) (S : Int), k ≤ N ∧ i = .int .i64 k ∧ s = .int .i64 S ∧ Hid (S = copK L a b k) ∧ Hid (Below W2.heap.size W2 wr)) (fun _ i _ => N - (intOf i).toNat)
  case atStart => exact ⟨0, 0, Nat.zero_le _, rfl, rfl, by show _ = _; simp [copK, sumI], Below.refl _ _⟩
  case round =>
  obtain ⟨k, S, hk, rfl, rfl, hS, hB⟩ := hrel
  obtain ⟨X, rfl⟩ : ∃ X : World, X = wr := ⟨_, rfl⟩
  obtain ⟨p1, p2⟩ : 0 ≤ S ∧ S ≤ 20001 * k := by rw [hS.out]; exact HCB.out k hk
  by_cases hlt2 : k < N
  · obtain ⟨o, ho⟩ : ∃ x, L[k]? = some x := ⟨_, List.getElem?_eq_getElem (by rw [HLEN.out]; exact hlt2)⟩
    obtain ⟨g, p, u, rfl, HX⟩ := HD.out k o ho
    obtain ⟨Au, nu, cu, rfl⟩ : ∃ Au nu cu, u = .slice Au nu cu := by
      obtain ⟨-, u', hu', hsp⟩ := HX.out X hB.out
      obtain ⟨Au, cu, e, -⟩ := spans_later hsp
      have e9 : u = u' := by simpa using hu'
      exact ⟨Au, _, cu, e9.trans e⟩
    obtain ⟨⟨c0, c1, c2', c3', c4'⟩, -⟩ := HX.out X hB.out
    have F1 : ∃ X1, X.alloc (.cells #[.int .i64 o.id, .int .i64 o.from_, .int .i64 o.to_, .int .i64 o.days, .slice Au nu cu] 42) = X1 ∧ Hid (Below X.heap.size X X1) ∧ Hid (Blk X1 X.heap.size 42 #[.int .i64 o.id, .int .i64 o.from_, .int .i64 o.to_, .int .i64 o.days, .slice Au nu cu]) := ⟨_, rfl, below_alloc _ _, Blk.new _ _ _⟩
    obtain ⟨X1, e1, HX1, HK1⟩ := F1
    have E1 := Lib.hid e1
    have HB1X : Hid (Below W2.heap.size W2 X1) := hB.out.trans (HX1.out.mono hB.out.size)
    have CG := Lib.hid (Copies_any o a b _ X1 (HX.out X1 HB1X.out).2)
    have HOo := (HOK.out o (List.mem_of_getElem? ho)).1
    have HCE : Hid (copE o a b = 0) := by show _ = _; unfold copE; rw [if_pos (subB_of HOo), if_pos HDAB.out]
    obtain ⟨gc, hgc⟩ : ∃ b', o.copies a b = b' := ⟨_, rfl⟩
    have HCV : Hid (copV o a b = gc) := by show _ = _; unfold copV; rw [if_pos HCE.out, hgc]
    have hnx := copK_next (a := a) (b := b) ho
    rw [hgc] at hnx
    have HNX : Hid (S + gc = copK L a b (k + 1)) := by show _ = _; rw [hnx, hS.out]
    have u1 : -20000000 ≤ S + gc := by have := HCB.out (k + 1) (by omega); have := HNX.out; omega
    have u2 : S + gc ≤ 20000000 := by have := HCB.out (k + 1) (by omega); have := HNX.out; omega
    obtain ⟨q', hq'⟩ : ∃ q, X.heap.size = q := ⟨_, rfl⟩
    rw [hq'] at HK1
    have HQ' := Lib.hid hq'
    have d0 := cellOf HK1.out 0 (x := .int .i64 o.id) rfl
    have d1 := cellOf HK1.out 1 (x := .int .i64 o.from_) rfl
    have d2 := cellOf HK1.out 2 (x := .int .i64 o.to_) rfl
    have d3 := cellOf HK1.out 3 (x := .int .i64 o.days) rfl
    have d4 := cellOf HK1.out 4 (x := .slice Au nu cu) rfl
    have k0 : (0 : Int) ≤ (k : Int) := by omega
    have k1 : (k : Int) < (N : Int) := by omega
    rw [HCE.out, HCV.out] at CG
    clear ho HX e1 hq' hgc hnx hB hS HX1 HK1 HOo
    go_upto_region 16 with fail
    rw [E1.out, HQ'.out]
    clear E1 c0 c1 c2' c3' c4'
    go_wp2_with fail
    refine CG.out.mono ?_
    rintro _ X2 ⟨rfl, hb2⟩
    have HB2 : Hid (Below W2.heap.size W2 X2) := HB1X.out.trans (hb2.mono HB1X.out.size)
    clear CG hb2 d0 d1 d2 d3 d4 HB1X
    go_wp2_with fail
    go_roundw
    case rel => exact ⟨k + 1, _, by omega, by go_num, rfl, HNX, HB2⟩
    case measure => simp [intOf]; omega
  obtain rfl : k = N := by omega
  obtain rfl : S = M := by rw [hS.out, HS.out]
  have HB3 := hB
  have HBW2 := HBX
  clear hS hB p1 p2 hk
  have F1 : ∃ X1, X.alloc (.cells #[.int .i64 9, .int .i64 0, .int .i64 0, .int .i64 4, .int .i64 2] 37) = X1 ∧ Hid (Below X.heap.size X X1) ∧ Hid (Blk X1 X.heap.size 37 #[.int .i64 9, .int .i64 0, .int .i64 0, .int .i64 4, .int .i64 2]) := ⟨_, rfl, below_alloc _ _, Blk.new _ _ _⟩
  obtain ⟨X1, e1, HX1, HK1⟩ := F1
  have E1 := Lib.hid e1
  have HB4 : Hid (Below W2.heap.size W2 X1) := HB3.out.trans (HX1.out.mono HB3.out.size)
  have CC := Lib.hid (Carrier_any ⟨9, 0, 0, 4, 2⟩ (by decide) L HSE.out HIDS.out a b HDAB.out [] (by simp) (.slice none 0 0) _ X1 ⟨none, 0, rfl, rfl, by simp [maxLen], fun h => absurd h (by simp)⟩ ((RSubs.below HRX.out HB4.out).more HB4.out.size))
  have d0 := cellOf HK1.out 0 (x := .int .i64 9) rfl
  have d1 := cellOf HK1.out 1 (x := .int .i64 0) rfl
  have d2 := cellOf HK1.out 2 (x := .int .i64 0) rfl
  have d3 := cellOf HK1.out 3 (x := .int .i64 4) rfl
  have d4 := cellOf HK1.out 4 (x := .int .i64 2) rfl
  have hSb := HCB.out k (Nat.le_refl _)
  rw [← HS.out] at hSb
  have hS0 := hSb.1
  have hS1 : S ≤ 200010 := by omega
  obtain ⟨c4, hc4⟩ : ∃ c, 4 * S = c := ⟨_, rfl⟩
  have HC4 := Lib.hid hc4
  have hE : cmpE L a b [] = 0 := rfl
  have HE := Lib.hid hE
  have HCS : Hid (caS ⟨9, 0, 0, 4, 2⟩ L a b [] = c4) := by
    show (if cmpE L a b [] = 0 then carS ⟨9, 0, 0, 4, 2⟩ (copK L a b L.length) 0 else 0) = c4
    rw [if_pos hE, HLEN.out, ← HS.out]
    show S * 4 + 0 * -2 = c4
    omega
  have HCL : Hid (caL ⟨9, 0, 0, 4, 2⟩ L a b [] = [⟨4, S, c4⟩, ⟨5, 0, 0⟩]) := by
    show (if cmpE L a b [] = 0 then carL ⟨9, 0, 0, 4, 2⟩ (copK L a b L.length) 0 else []) = _
    rw [if_pos hE, HLEN.out, ← HS.out]
    show [LineD.mk 4 S (S * 4), ⟨5, 0, 0 * -2⟩] = _
    rw [show S * 4 = c4 by omega]
    rfl
  clear hSb e1 hc4 hE
  go_upto_region 22 with fail
  rw [E1.out]
  clear E1
  go_wp2_with fail
  refine CC.out.mono ?_
  rintro _ X2 ⟨u, rfl, HOL, HB5⟩
  rw [HCS.out, HE.out]
  rw [HCL.out] at HOL
  obtain ⟨Al, dl, rfl⟩ := ownsRow_form HOL.out
  have HB6 : Hid (Below W2.heap.size W2 X2) := HB4.out.trans (HB5.out.mono HB4.out.size)
  have F2 : ∃ X3, X2.alloc (.cells #[.slice Al 2 dl, .int .i64 c4] 80) = X3 ∧ Hid (Below X2.heap.size X2 X3) ∧ Hid (Blk X3 X2.heap.size 80 #[.slice Al 2 dl, .int .i64 c4]) := ⟨_, rfl, below_alloc _ _, Blk.new _ _ _⟩
  obtain ⟨X3, e2, HX3, HK3⟩ := F2
  have E2 := Lib.hid e2
  have HB7 : Hid (Below W2.heap.size W2 X3) := HB6.out.trans (HX3.out.mono HB6.out.size)
  obtain ⟨gl, ol, rfl, l0, l1, l2⟩ := lines_at (ownsRow_below HOL.out HX3.out) 0 ⟨4, S, c4⟩ rfl
  simp only [Nat.zero_mul, Nat.add_zero] at l0 l1 l2
  have m0 := cellOf HK3.out 0 (x := .slice (some ⟨gl, ol, none⟩) 2 dl) rfl
  have m1 := cellOf HK3.out 1 (x := .int .i64 c4) rfl
  have hSS : (S != S) = false := by simp
  have h22 : ((2 : Int) != 2) = false := rfl
  have hcc : (c4 != c4) = false := by simp
  have h00 : ((0 : Int) != 0) = false := rfl
  have heq : ∀ W, (Op.equalIn 10000 84 (.agg #[.int .i64 4, .int .i64 S, .int .i64 c4]) (.agg #[.int .i64 4, .int .i64 S, .int .i64 c4])).run Try.prog W = .ok true W := fun W => by rw [eqLine]; simp
  have u1 : -1000000 ≤ 4 * S := by omega
  have u2 : 4 * S ≤ 1000000 := by omega
  clear CC e2 HOL HB5 HK1 HX1 d0 d1 d2 d3 d4
  go_upto_region 23 with fail
  rw [E2.out]
  clear E2
  have hc4u := HC4.out
  by_cases hN0 : k = 0
  · have hk0 : ((k : Int) == 0) = true := by simp [hN0]
    have HB9' : Hid (Below w.heap.size w X3) := HBW2.out.trans (HB7.out.mono HBW2.out.size)
    clear hN0
    go_wp2_with fail
    refine (awake_any _).mono ?_
    rintro _ w9 ⟨rfl, b9⟩
    have HB9 : Hid (Below w.heap.size w w9) := HB9'.out.trans (b9.mono HB9'.out.size)
    clear b9
    go_wp2
    go_ret
    exact ⟨rfl, HB9.out⟩
  have hk0 : ((k : Int) == 0) = false := by simp [hN0]
  have hk0' : ¬ (k : Int) = 0 := by omega
  obtain ⟨i, hi, hil⟩ : ∃ i : Nat, z % (k : Int) = (i : Int) ∧ i < k := ⟨(z % (k : Int)).toNat, by have := Int.emod_nonneg z hk0'; omega, by have := Int.emod_lt_of_pos z (show (0 : Int) < (k : Int) by omega); have := Int.emod_nonneg z hk0'; omega⟩
  have kz : IntKind.i64.wrap z = z := IntWalk.i64_in _ ⟨by omega, by omega⟩
  have kri : IntKind.i64.wrap (z.tmod (k : Int)) = (i : Int) := by rw [Int.tmod_eq_emod_of_nonneg z0, hi]; exact IntWalk.i64_in _ ⟨by omega, by omega⟩
  have KRI : Hid (wrap64 (z.tmod (k : Int)) = (i : Int)) := (IntWalk.i64_left _).symm.trans kri
  have HI := Lib.hid hi
  have i0 : (0 : Int) ≤ (i : Int) := by omega
  have i1 : (i : Int) < (k : Int) := by omega
  clear hi
  go_upto_region 27 with fail
  clear l0 l1 l2 m0 m1 hSS h22 hcc h00 heq u1 u2 hc4u
  go_upto_region 28 with fail
  rw [HI.out]
  clear kz kri i0 i1
  obtain ⟨o, ho⟩ : ∃ x, L[i]? = some x := ⟨_, List.getElem?_eq_getElem (by rw [HLEN.out]; exact hil)⟩
  obtain ⟨g, p, U0, rfl, HX⟩ := HD.out i o ho
  obtain ⟨Au, cu, rfl, HSPO⟩ : ∃ Au cu, U0 = .slice Au o.hol.length cu ∧ Hid (RSpans W2.heap.size W2 U0 o.hol) := by
    obtain ⟨-, u', hu', hsp⟩ := HX.out W2 (Below.refl _ _)
    obtain ⟨Au, cu, e, -⟩ := spans_later hsp
    have e9 : U0 = u' := by simpa using hu'
    exact ⟨Au, cu, e9.trans e, by rw [e9]; exact hsp⟩
  have HOO := Lib.hid (HOK.out o (List.mem_of_getElem? ho)).1
  have HO1 := Lib.hid (HOK.out o (List.mem_of_getElem? ho)).2
  obtain ⟨nu, hnu⟩ : ∃ n, o.hol.length = n := ⟨_, rfl⟩
  rw [hnu] at HX HO1 HSPO
  have HNU := Lib.hid hnu
  have HCO : Hid (∀ Y, Below W2.heap.size W2 Y → Y.cell? ⟨g, p + i * 5, none⟩ = some (.int .i64 o.id) ∧ Y.cell? ⟨g, p + i * 5 + 1, none⟩ = some (.int .i64 o.from_) ∧ Y.cell? ⟨g, p + i * 5 + 2, none⟩ = some (.int .i64 o.to_) ∧ Y.cell? ⟨g, p + i * 5 + 3, none⟩ = some (.int .i64 o.days) ∧ Y.cell? ⟨g, p + i * 5 + 4, none⟩ = some (.slice Au nu cu)) := fun Y hY => (HX.out Y hY).1
  have HRO : Hid (∀ Y, Below W2.heap.size W2 Y → RSub Y.heap.size Y (.agg #[.int .i64 o.id, .int .i64 o.from_, .int .i64 o.to_, .int .i64 o.days, .slice Au nu cu]) o) := fun Y hY => (HX.out Y hY).2
  have F3 : ∃ X4, X3.alloc (.cells #[.int .i64 o.id, .int .i64 o.from_, .int .i64 o.to_, .int .i64 o.days, .slice Au nu cu] 42) = X4 ∧ Hid (Below X3.heap.size X3 X4) ∧ Hid (Blk X4 X3.heap.size 42 #[.int .i64 o.id, .int .i64 o.from_, .int .i64 o.to_, .int .i64 o.days, .slice Au nu cu]) := ⟨_, rfl, below_alloc _ _, Blk.new _ _ _⟩
  obtain ⟨X4, e4, HX4, HKA⟩ := F3
  have E4 := Lib.hid e4
  have HB8 : Hid (Below W2.heap.size W2 X4) := HB7.out.trans (HX4.out.mono HB7.out.size)
  obtain ⟨c0, c1, c2, c3, c4'⟩ := HCO.out X3 HB7.out
  have i0 : (0 : Int) ≤ (i : Int) := by omega
  have i1 : (i : Int) < (k : Int) := by omega
  have HAWL : Hid (W2.heap.size ≤ X3.heap.size) := HB7.out.size
  obtain ⟨aw, haw⟩ : ∃ q, X3.heap.size = q := ⟨_, rfl⟩
  rw [haw] at HKA HAWL
  have HAWE := Lib.hid haw
  obtain ⟨lo, hlo⟩ : ∃ q, t % 100 = q := ⟨_, rfl⟩
  obtain ⟨r2, hr2⟩ : ∃ q, r % 20 = q := ⟨_, rfl⟩
  obtain ⟨hi, hhi⟩ : ∃ q, lo + r2 = q := ⟨_, rfl⟩
  have lo0 : 0 ≤ lo := by omega
  have lo1 : lo ≤ 99 := by omega
  have r20 : 0 ≤ r2 := by omega
  have r21 : r2 ≤ 19 := by omega
  have hi0 : lo ≤ hi := by omega
  have hi1 : hi ≤ 118 := by omega
  have hi2 : hi ≤ lo + 19 := by omega
  have HLO := Lib.hid hlo
  have HR2 := Lib.hid hr2
  have HHI := Lib.hid hhi
  have HCE : Hid (copE o a b = 0) := by show _ = _; unfold copE; rw [if_pos (subB_of HOO.out), if_pos HDAB.out]
  have HAO : Hid (o.away lo hi).Ok := away_ok HOO.out (by rw [HNU.out]; exact HO1.out) lo0 hi0 (by omega)
  have HCE2 : Hid (copE (o.away lo hi) a b = 0) := by show _ = _; unfold copE; rw [if_pos (subB_of HAO.out), if_pos HDAB.out]
  obtain ⟨n1, hn1⟩ : ∃ b', o.copies a b = b' := ⟨_, rfl⟩
  obtain ⟨n2, hn2⟩ : ∃ b', (o.away lo hi).copies a b = b' := ⟨_, rfl⟩
  have HCV : Hid (copV o a b = n1) := by show _ = _; unfold copV; rw [if_pos HCE.out, hn1]
  have HCV2 : Hid (copV (o.away lo hi) a b = n2) := by show _ = _; unfold copV; rw [if_pos HCE2.out, hn2]
  obtain ⟨H, hH⟩ : ∃ H, (hi + 1 - lo).toNat = H := ⟨_, rfl⟩
  have HH1 : (H : Int) = hi + 1 - lo := by omega
  have HLOST : Hid (n2 = n1 - lostN o a b lo H) := by
    show _ = _
    rw [← hn1, ← hn2, away_copies HOO.out (by rw [HNU.out]; exact HO1.out) lo0 hi0 (by omega) a0]
    unfold lostN cnt
    rw [hH]
  have hn1b := copies_nonneg HOO.out (b := b) a0
  rw [hn1] at hn1b
  have n10 : 0 ≤ n1 := hn1b.1
  have n11 : n1 ≤ 200 := by omega
  have hH20 : H ≤ 20 := by omega
  clear ho HX e4 hnu haw hlo hr2 hhi hn1 hn2 hH hn1b HX4
  go_upto_region 29 with fail
  rw [E4.out, HAWE.out]
  clear E4 c0 c1 c2 c3 c4'
  go_upto_region 30 with fail
  rw [HLO.out]
  have w1 : -1000 ≤ lo + r % 20 := by omega
  have w2 : lo + r % 20 ≤ 1000 := by omega
  go_upto_region 31 with fail
  rw [HR2.out, HHI.out]
  clear w1 w2
  go_wp2_with fail
  go_loopw [32, 33] (fun s i wr => ∃ (k' : Nat) (D T : Int), k' ≤ H ∧ i = .int .i64 D ∧ s = .int .i64 T ∧ Hid (D = lo + k') ∧ Hid (T = lostN o a b lo k') ∧ Hid (Below X4.heap.size X4 wr)) (fun _ i _ => (hi + 1 - intOf i).toNat)
  case atStart => exact ⟨0, lo, 0, Nat.zero_le _, rfl, rfl, by show _ = _; simp, rfl, Below.refl _ _⟩
  case round =>
  obtain ⟨k', D', T, hk, rfl, rfl, hD, hT, hB⟩ := hrel
  obtain ⟨X5, rfl⟩ : ∃ X : World, X = wr := ⟨_, rfl⟩
  have hDa := hD.out
  have d0 : lo ≤ D' := by omega
  have d1 : D' ≤ hi + 1 := by omega
  have hTb := cntN_nonneg (fun d => o.getB d && (decide (a ≤ d) && decide (d ≤ b))) lo k'
  rw [show cntN (fun d => o.getB d && (decide (a ≤ d) && decide (d ≤ b))) lo k' = T from hT.out.symm] at hTb
  obtain ⟨t2, t3⟩ : 0 ≤ T ∧ T ≤ 20 := by omega
  clear hTb
  by_cases hlt3 : D' ≤ hi
  case pos =>
    clear hDa
    have HBO : Hid (Below W2.heap.size W2 X5) := HB8.out.trans (hB.out.mono HB8.out.size)
    obtain ⟨c0, c1, c2, c3, c4'⟩ := HCO.out X5 HBO.out
    have CG := Lib.hid (Gets_any o D' _ X5 (HRO.out X5 HBO.out))
    have HG0 : Hid (copE o D' D' = 0) := by show _ = _; unfold copE; rw [if_pos (subB_of HOO.out), if_pos (dayB_iff.2 ⟨by omega, by omega, by omega⟩)]
    obtain ⟨gb, hgb⟩ : ∃ c, o.getB D' = c := ⟨_, rfl⟩
    have HG1 : Hid (decide (0 < copV o D' D') = gb) := by show _ = _; unfold copV; rw [if_pos HG0.out, ← hgb]; rfl
    rw [HG0.out, HG1.out] at CG
    have HNX : Hid (lostN o a b lo (k' + 1) = T + if (gb && (decide (a ≤ D') && decide (D' ≤ b))) then 1 else 0) := by
      show cntN _ lo k' + (if (o.getB (lo + k') && _) then 1 else 0) = _
      rw [← hD.out, hgb, hT.out]
      rfl
    have HD1 : Hid (D' + 1 = lo + ((k' + 1 : Nat) : Int)) := by have := hD.out; show _ = _; push_cast; omega
    have hkH : k' + 1 ≤ H := by have := hD.out; omega
    have u1 : -2000 ≤ T + 1 := by omega
    have u2 : T + 1 ≤ 2000 := by omega
    have u3 : -2000 ≤ D' + 1 := by omega
    have u4 : D' + 1 ≤ 2000 := by omega
    clear hgb hT hD
    go_wp2_with fail
    refine CG.out.mono ?_
    rintro _ X6 ⟨rfl, hb6⟩
    have HB6' : Hid (Below X4.heap.size X4 X6) := hB.out.trans (hb6.mono hB.out.size)
    clear CG hb6 hB c0 c1 c2 c3 c4'
    cases gb with
    | false =>
      have HNX2 : Hid (T = lostN o a b lo (k' + 1)) := by show _ = _; rw [HNX.out]; simp
      go_wp2_with fail
      go_roundw
      case rel => exact ⟨k' + 1, D' + 1, T, hkH, rfl, rfl, HD1, HNX2, HB6'⟩
      case measure => simp [intOf]; omega
    | true =>
      by_cases h1 : a ≤ D'
      · by_cases h2 : D' ≤ b
        · have HNX2 : Hid (T + 1 = lostN o a b lo (k' + 1)) := by show _ = _; rw [HNX.out]; simp [h1, h2]
          go_wp2_with fail
          go_roundw
          case rel => exact ⟨k' + 1, D' + 1, T + 1, hkH, rfl, rfl, HD1, HNX2, HB6'⟩
          case measure => simp [intOf]; omega
        · have HNX2 : Hid (T = lostN o a b lo (k' + 1)) := by show _ = _; rw [HNX.out]; simp [h2]
          go_wp2_with fail
          go_roundw
          case rel => exact ⟨k' + 1, D' + 1, T, hkH, rfl, rfl, HD1, HNX2, HB6'⟩
          case measure => simp [intOf]; omega
      · have HNX2 : Hid (T = lostN o a b lo (k' + 1)) := by show _ = _; rw [HNX.out]; simp [h1]
        go_wp2_with fail
        go_roundw
        case rel => exact ⟨k' + 1, D' + 1, T, hkH, rfl, rfl, HD1, HNX2, HB6'⟩
        case measure => simp [intOf]; omega
  have hkH : k' = H := by omega
  have HMN : Hid (n2 = n1 - T) := by show _ = _; rw [HLOST.out, hT.out, hkH]
  have HBO : Hid (Below W2.heap.size W2 X5) := HB8.out.trans (hB.out.mono HB8.out.size)
  have HKA5 : Hid (Blk X5 aw 42 #[.int .i64 o.id, .int .i64 o.from_, .int .i64 o.to_, .int .i64 o.days, .slice Au nu cu]) := HKA.out.below hB.out HKA.out.lt
  clear hDa d0 d1 hk hkH hT hD hB HKA
  have F5 : ∃ X6, X5.alloc (.cells #[.int .i64 lo, .int .i64 hi] 87) = X6 ∧ Hid (Below X5.heap.size X5 X6) ∧ Hid (Blk X6 X5.heap.size 87 #[.int .i64 lo, .int .i64 hi]) := ⟨_, rfl, below_alloc _ _, Blk.new _ _ _⟩
  obtain ⟨X6, e5, HX6, HKS⟩ := F5
  have E5 := Lib.hid e5
  obtain ⟨sp, hsp⟩ : ∃ q, X5.heap.size = q := ⟨_, rfl⟩
  rw [hsp] at HKS
  have HSPE := Lib.hid hsp
  have HKA6 : Hid (Blk X6 aw 42 #[.int .i64 o.id, .int .i64 o.from_, .int .i64 o.to_, .int .i64 o.days, .slice Au nu cu]) := HKA5.out.below HX6.out HKA5.out.lt
  have F6 : ∃ X7, X6.setCell ⟨aw, 4, none⟩ (.slice (some ⟨sp, 0, none⟩) 1 1) = X7 ∧ Hid (Blk X7 aw 42 #[.int .i64 o.id, .int .i64 o.from_, .int .i64 o.to_, .int .i64 o.days, .slice (some ⟨sp, 0, none⟩) 1 1]) ∧ Hid (Blk X7 sp 87 #[.int .i64 lo, .int .i64 hi]) ∧ Hid (Below W2.heap.size W2 X7) := by
    refine ⟨_, rfl, HKA6.out.put 4 _, HKS.out.far (p := ⟨aw, 4, none⟩) (by have := HKA5.out.lt; rw [HSPE.out] at this; show sp ≠ aw; omega) _, ?_⟩
    exact (HBO.out.trans (HX6.out.mono HBO.out.size)).setCell (p := ⟨aw, 4, none⟩) HAWL.out _
  obtain ⟨X7, e6, HKA7, HKS7, HB9⟩ := F6
  have E6 := Lib.hid e6
  have q4 : (X5.alloc (.cells #[.int .i64 lo, .int .i64 hi] 87)).cell? ⟨aw, 4, none⟩ = some (.slice Au nu cu) := by rw [E5.out]; exact cellOf HKA6.out 4 rfl
  have qf : (X5.alloc (.cells #[.int .i64 lo, .int .i64 hi] 87)).frozen? ⟨aw, 4, none⟩ = false := by rw [E5.out]; exact HKA6.out.frozen 4
  have HAWN : Hid (aw < sp) := by have := HKA5.out.lt; rw [HSPE.out] at this; exact this
  clear e5 e6 hsp HKA5 HKS HX6
  go_upto_region 40 with fail
  go_upto_region 41 with fail
  rw [E5.out, HSPE.out, E6.out]
  clear q4 qf E5 E6 HKA6
  obtain ⟨Xa, rfl⟩ : ∃ X, X = X7 := ⟨_, rfl⟩
  obtain ⟨c0, c1, c2, c3, c4'⟩ := HCO.out Xa HB9.out
  have HX9 : Hid (Below W2.heap.size W2 Xa) := HB9
  have hmn := HMN.out
  have hmE : (n2 == n1 - T) = true := by simp [hmn]
  have hoo : ((0 : Int) == 0) = true := rfl
  have v1 : -1000 ≤ n1 - T := by omega
  have v2 : n1 - T ≤ 1000 := by omega
  have HS0 : Hid (o.hol = [] → nu = 0) := fun h => by rw [← HNU.out, h]; rfl
  clear hmn
  by_cases hz : nu = 0
  · have hz' : ¬ (0 : Int) < (nu : Int) := by omega
    have hhol : o.hol = [] := List.eq_nil_of_length_eq_zero (by rw [HNU.out]; exact hz)
    obtain ⟨U, hU⟩ : ∃ U, U = Value.slice (some ⟨sp, 0, none⟩) 1 1 := ⟨_, rfl⟩
    have HAW : Hid (Blk Xa aw 42 #[.int .i64 o.id, .int .i64 o.from_, .int .i64 o.to_, .int .i64 o.days, U]) := by rw [hU]; exact HKA7.out
    have HSP : Hid (RSpans Xa.heap.size Xa U (o.away lo hi).hol) := by
      show RSpans _ _ _ (awayH o.hol lo hi)
      rw [hhol, hU]
      exact spans_one HKS7.out
    have HBZ : Hid (Below W2.heap.size W2 Xa) := HX9
    clear HKA7 hU hz hhol
    go_upto_region 48 with fail
    clear c0 c1 c2 c3 c4' hz'
    have HBZ2 : Hid (Below W2.heap.size W2 Xa) := HBZ
    obtain ⟨e0, e1, e2, e3, e4⟩ := HCO.out Xa HBZ2.out
    have CN := Lib.hid (Copies_any o a b _ Xa (HRO.out Xa HBZ2.out))
    have CM : Hid (∀ Y, Below Xa.heap.size Xa Y → Calls Try.prog 34 #[.agg #[.int .i64 o.id, .int .i64 o.from_, .int .i64 o.to_, .int .i64 o.days, U], .int .i64 a, .int .i64 b] Y fun e w' => e = .returned (.tuple #[.int .i64 (copV (o.away lo hi) a b), .int .i64 (copE (o.away lo hi) a b)]) ∧ Below Y.heap.size Y w') := fun Y hY => Copies_any (o.away lo hi) a b _ Y ⟨U, rfl, (Rd.below HSP.out hY).more hY.size⟩
    rw [HCE.out, HCV.out] at CN
    rw [HCE2.out, HCV2.out] at CM
    clear HSP
    go_wp2_with fail
    refine CN.out.mono ?_
    rintro _ ZA ⟨rfl, hba⟩
    have HBA := Lib.hid hba
    have HAWA := Lib.hid (HAW.out.below hba HAW.out.lt)
    have f0 := cellOf HAWA.out 0 (x := .int .i64 o.id) rfl
    have f1 := cellOf HAWA.out 1 (x := .int .i64 o.from_) rfl
    have f2 := cellOf HAWA.out 2 (x := .int .i64 o.to_) rfl
    have f3 := cellOf HAWA.out 3 (x := .int .i64 o.days) rfl
    have f4 := cellOf HAWA.out 4 (x := U) rfl
    clear CN hba e0 e1 e2 e3 e4
    go_wp2_with fail
    refine (CM.out _ HBA.out).mono ?_
    rintro _ ZB ⟨rfl, hbb⟩
    have HBB : Hid (Below w.heap.size w ZB) := by
      have h1 : Below w.heap.size w Xa := HBW2.out.trans (HBZ2.out.mono HBW2.out.size)
      have h2 := h1.trans (HBA.out.mono h1.size)
      exact h2.trans (hbb.mono h2.size)
    clear CM hbb f0 f1 f2 f3 f4 HAWA HBA
    go_wp2_with fail
    refine (awake_any _).mono ?_
    rintro _ w9 ⟨rfl, b9⟩
    have HB9 : Hid (Below w.heap.size w w9) := HBB.out.trans (b9.mono HBB.out.size)
    clear b9
    go_wp2
    go_ret
    exact ⟨rfl, HB9.out⟩
  obtain ⟨sx, hsx⟩ : ∃ s, o.hol = [s] := by
    have h1 := HNU.out
    have h2 := HO1.out
    generalize o.hol = l at h1
    match l, h1 with
    | [], h1 => exact absurd (h1.symm) hz
    | [s], _ => exact ⟨s, rfl⟩
    | _ :: _ :: _, h1 => simp only [List.length_cons] at h1; omega
  obtain rfl : nu = 1 := by rw [← HNU.out, hsx]; rfl
  have HSX := Lib.hid hsx
  have hsb := HOO.out.hol.2
  rw [hsx] at hsb
  obtain ⟨hs0, hs1, hs2, -⟩ := hsb
  obtain ⟨l', hl'⟩ : ∃ l', sx.lo = l' := ⟨_, rfl⟩
  obtain ⟨h', hh'⟩ : ∃ l', sx.hi = l' := ⟨_, rfl⟩
  rw [hl'] at hs0 hs1
  rw [hh'] at hs1 hs2
  have HLS := Lib.hid hl'
  have HHS := Lib.hid hh'
  obtain ⟨gs, os, rfl, s0, s1⟩ : ∃ gs os, Au = some ⟨gs, os, none⟩ ∧ Xa.cell? ⟨gs, os, none⟩ = some (.int .i64 l') ∧ Xa.cell? ⟨gs, os + 1, none⟩ = some (.int .i64 h') := by
    have h1 := HSPO.out
    rw [hsx] at h1
    obtain ⟨A9, c9, e, -, hh⟩ := spans_later h1
    injection e with e1 e2 e3
    subst e1
    obtain ⟨gs, os, hA, hc⟩ := hh.out 0 sx rfl
    obtain ⟨h3, h4⟩ := hc.out Xa HX9.out
    simp only [Nat.zero_mul, Nat.add_zero] at h3 h4
    rw [hl'] at h3
    rw [hh'] at h4
    exact ⟨gs, os, hA, h3, h4⟩
  have F8 : ∃ X8, Xa.alloc (.cells #[.int .i64 l', .int .i64 h'] 87) = X8 ∧ Hid (Below Xa.heap.size Xa X8) ∧ Hid (Blk X8 Xa.heap.size 87 #[.int .i64 l', .int .i64 h']) := ⟨_, rfl, below_alloc _ _, Blk.new _ _ _⟩
  obtain ⟨X8, e8, HX8, HKH⟩ := F8
  have E8 := Lib.hid e8
  obtain ⟨hb, hhb⟩ : ∃ q, Xa.heap.size = q := ⟨_, rfl⟩
  rw [hhb] at HKH
  have HHB := Lib.hid hhb
  have HAW8 := Lib.hid (HKA7.out.below HX8.out HKA7.out.lt)
  have HSP8 := Lib.hid (HKS7.out.below HX8.out HKS7.out.lt)
  have HB8' : Hid (Below W2.heap.size W2 X8) := HX9.out.trans (HX8.out.mono HX9.out.size)
  have HSPW : Hid (W2.heap.size ≤ sp ∧ aw ≠ sp ∧ aw < X8.heap.size) := ⟨by rw [← HSPE.out]; exact HBO.out.size, by have := HAWN.out; omega, HAW8.out.lt⟩
  have HAWH : Hid ((o.away lo hi).hol = if hi + 1 < l' then [⟨lo, hi⟩, ⟨l', h'⟩] else if h' + 1 < lo then [⟨l', h'⟩, ⟨lo, hi⟩] else [⟨min lo l', max hi h'⟩]) := by
    show awayH o.hol lo hi = _
    rw [hsx]
    have e : sx = ⟨l', h'⟩ := by rw [← hl', ← hh']
    rw [e]
    rfl
  have b0 := cellOf HKH.out 0 (x := .int .i64 l') rfl
  have b1 := cellOf HKH.out 1 (x := .int .i64 h') rfl
  obtain ⟨i0', hi0', hz0', hz1', hz2'⟩ := info_parts infoSpan
  clear hsx hl' hh' e8 hhb HKA7 HKS7 HX8 hz HS0 HSPO
  have hnz : (0 : Int) < ((1 : Nat) : Int) := by omega
  go_upto_region 42 with fail
  clear hnz
  have w3 : -30000 ≤ hi + 1 := by omega
  have w4 : hi + 1 ≤ 30000 := by omega
  have w5 : -30000 ≤ h' + 1 := by omega
  have w6 : h' + 1 ≤ 30000 := by omega
  by_cases hA : hi + 1 < l'
  · go_upto_region 44 with fail
    rw [E8.out, HHB.out]
    go_upto_region 45 with fail
    have q4 := cellOf HAW8.out 4 (x := .slice (some ⟨sp, 0, none⟩) 1 1) rfl
    have F9 : ∃ X9, X8.alloc (.cells #[.int .i64 l', .int .i64 h'] 87) = X9 ∧ Hid (Below X8.heap.size X8 X9) := ⟨_, rfl, below_alloc _ _⟩
    obtain ⟨X9, e9, HX9'⟩ := F9
    have E9 := Lib.hid e9
    have HC9 := Lib.hid (cells_new X8 #[.int .i64 l', .int .i64 h'] 87)
    rw [e9] at HC9
    have HAW9 := Lib.hid (HAW8.out.below HX9'.out HAW8.out.lt)
    have HSP9 := Lib.hid (HSP8.out.below HX9'.out HSP8.out.lt)
    have HB9' : Hid (Below W2.heap.size W2 X9) := HB8'.out.trans (HX9'.out.mono HB8'.out.size)
    have HO9 : Hid (X9.ownsRow W2.heap.size 87 2 (.slice (some ⟨sp, 0, none⟩) 1 1) 1 [.int .i64 lo, .int .i64 hi]) := row_of_blk HSP9.out HSPW.out.1 rfl (by simp [maxLen])
    have HNE : Hid (∀ j, some j = (Value.slice (some ⟨sp, 0, none⟩) 1 1).ownBlock → j = sp) := fun j hj => by simpa [Value.ownBlock] using hj
    clear e9
    go_upto_region 48 with (at_builtin; rw [E9.out]; refine wpList_append_own _ rfl _ _ 40 rfl W2.heap.size 87 i0' _ 2 16 sliceSpan hi0' hz0' hz1' hz2' rfl (by decide) (.slice (some ⟨sp, 0, none⟩) 1 1) 1 [.int .i64 lo, .int .i64 hi] rfl HO9.out ⟨X8.heap.size, 0, none⟩ 1 1 [.int .i64 l', .int .i64 h'] rfl rfl HC9.out (by simp [Value.oneCell']) (by simp only [maxLen]; omega) (by omega) HB9'.out.size ?_; intro v2 w2 hO4 hG4 hN4; have hKp := KeptBut.grown (S := fun j => j = sp) hG4 (fun j hj => HNE.out j hj); have hAw2 := hKp.blk HAW9.out HSPW.out.2.1; have q5 := cellOf hAw2 4 (x := .slice (some ⟨sp, 0, none⟩) 1 1) rfl; have qf5 := hAw2.frozen 4; obtain ⟨Av2, cv2, rfl⟩ := ownsRow_form hO4)
    have F10 : ∃ XA, w2.setCell ⟨aw, 4, none⟩ (.slice Av2 (1 + 1) cv2) = XA ∧ Hid (Blk XA aw 42 #[.int .i64 o.id, .int .i64 o.from_, .int .i64 o.to_, .int .i64 o.days, .slice Av2 (1 + 1) cv2]) ∧ Hid (RSpans XA.heap.size XA (.slice Av2 (1 + 1) cv2) (o.away lo hi).hol) ∧ Hid (Below W2.heap.size W2 XA) := by
      refine ⟨_, rfl, hAw2.put 4 _, ?_, (HB9'.out.trans (hKp.below (fun j hj => by rw [hj]; exact HSPW.out.1) HB9'.out.size)).setCell (p := ⟨aw, 4, none⟩) HAWL.out _⟩
      show RSpans _ _ _ _
      rw [HAWH.out, if_pos hA]
      have h1 := ownsRow_keptBut hO4 (KeptBut.setCell (S := fun i => i = aw) (w := w2) (p := ⟨aw, 4, none⟩) rfl (.slice Av2 (1 + 1) cv2)) fun i cs hv hB e => by subst e; exact Blk.ne hB hAw2 (by decide) rfl
      exact Rd.own h1 (by simp [maxLen])
    obtain ⟨XA, eA, HAW, HSP, HBZ⟩ := F10
    rw [eA]
    obtain ⟨U, hU⟩ : ∃ U, U = Value.slice Av2 (1 + 1) cv2 := ⟨_, rfl⟩
    rw [← hU] at HAW HSP ⊢
    clear eA hU q4 q5 qf5 hAw2 hKp hO4 hG4 hN4 HAW8 HSP8 HAW9 HSP9 HO9 HC9 E9 b0 b1 w3 w4 w5 w6
    have HBZ2 : Hid (Below W2.heap.size W2 XA) := HBZ
    obtain ⟨e0, e1, e2, e3, e4⟩ := HCO.out XA HBZ2.out
    have CN := Lib.hid (Copies_any o a b _ XA (HRO.out XA HBZ2.out))
    have CM : Hid (∀ Y, Below XA.heap.size XA Y → Calls Try.prog 34 #[.agg #[.int .i64 o.id, .int .i64 o.from_, .int .i64 o.to_, .int .i64 o.days, U], .int .i64 a, .int .i64 b] Y fun e w' => e = .returned (.tuple #[.int .i64 (copV (o.away lo hi) a b), .int .i64 (copE (o.away lo hi) a b)]) ∧ Below Y.heap.size Y w') := fun Y hY => Copies_any (o.away lo hi) a b _ Y ⟨U, rfl, (Rd.below HSP.out hY).more hY.size⟩
    rw [HCE.out, HCV.out] at CN
    rw [HCE2.out, HCV2.out] at CM
    clear HSP
    go_wp2_with fail
    refine CN.out.mono ?_
    rintro _ ZA ⟨rfl, hba⟩
    have HBA := Lib.hid hba
    have HAWA := Lib.hid (HAW.out.below hba HAW.out.lt)
    have f0 := cellOf HAWA.out 0 (x := .int .i64 o.id) rfl
    have f1 := cellOf HAWA.out 1 (x := .int .i64 o.from_) rfl
    have f2 := cellOf HAWA.out 2 (x := .int .i64 o.to_) rfl
    have f3 := cellOf HAWA.out 3 (x := .int .i64 o.days) rfl
    have f4 := cellOf HAWA.out 4 (x := U) rfl
    clear CN hba e0 e1 e2 e3 e4
    go_wp2_with fail
    refine (CM.out _ HBA.out).mono ?_
    rintro _ ZB ⟨rfl, hbb⟩
    have HBB : Hid (Below w.heap.size w ZB) := by
      have h1 : Below w.heap.size w XA := HBW2.out.trans (HBZ2.out.mono HBW2.out.size)
      have h2 := h1.trans (HBA.out.mono h1.size)
      exact h2.trans (hbb.mono h2.size)
    clear CM hbb f0 f1 f2 f3 f4 HAWA HBA
    go_wp2_with fail
    refine (awake_any _).mono ?_
    rintro _ w9 ⟨rfl, b9⟩
    have HB9 : Hid (Below w.heap.size w w9) := HBB.out.trans (b9.mono HBB.out.size)
    clear b9
    go_wp2
    go_ret
    exact ⟨rfl, HB9.out⟩
  by_cases hB : h' + 1 < lo
  · have F9 : ∃ X9, X8.alloc (.cells #[.int .i64 l', .int .i64 h', .int .i64 lo, .int .i64 hi] 87) = X9 ∧ Hid (Below X8.heap.size X8 X9) ∧ Hid (Blk X9 X8.heap.size 87 #[.int .i64 l', .int .i64 h', .int .i64 lo, .int .i64 hi]) := ⟨_, rfl, below_alloc _ _, Blk.new _ _ _⟩
    obtain ⟨X9, e9, HX9', HK9⟩ := F9
    have E9 := Lib.hid e9
    obtain ⟨nb, hnb⟩ : ∃ q, X8.heap.size = q := ⟨_, rfl⟩
    rw [hnb] at HK9
    have HNB := Lib.hid hnb
    have HAW9 := Lib.hid (HAW8.out.below HX9'.out HAW8.out.lt)
    have HNE : Hid (aw ≠ nb) := by have := HSPW.out.2.2; rw [HNB.out] at this; show ¬ _; omega
    have F10 : ∃ XA, X9.setCell ⟨aw, 4, none⟩ (.slice (some ⟨nb, 0, none⟩) 2 2) = XA ∧ Hid (Blk XA aw 42 #[.int .i64 o.id, .int .i64 o.from_, .int .i64 o.to_, .int .i64 o.days, .slice (some ⟨nb, 0, none⟩) 2 2]) ∧ Hid (Blk XA nb 87 #[.int .i64 l', .int .i64 h', .int .i64 lo, .int .i64 hi]) ∧ Hid (Below W2.heap.size W2 XA) :=
      ⟨_, rfl, HAW9.out.put 4 _, HK9.out.far (p := ⟨aw, 4, none⟩) (fun e => HNE.out e.symm) _, (HB8'.out.trans (HX9'.out.mono HB8'.out.size)).setCell (p := ⟨aw, 4, none⟩) HAWL.out _⟩
    obtain ⟨XA, eA, HKAA, HKN, HBZ⟩ := F10
    have EA := Lib.hid eA
    have q4 : (X8.alloc (.cells #[.int .i64 l', .int .i64 h', .int .i64 lo, .int .i64 hi] 87)).cell? ⟨aw, 4, none⟩ = some (.slice (some ⟨sp, 0, none⟩) 1 1) := by rw [E9.out]; exact cellOf HAW9.out 4 rfl
    have qf : (X8.alloc (.cells #[.int .i64 l', .int .i64 h', .int .i64 lo, .int .i64 hi] 87)).frozen? ⟨aw, 4, none⟩ = false := by rw [E9.out]; exact HAW9.out.frozen 4
    obtain ⟨U, hU⟩ : ∃ U, U = Value.slice (some ⟨nb, 0, none⟩) 2 2 := ⟨_, rfl⟩
    have HAW : Hid (Blk XA aw 42 #[.int .i64 o.id, .int .i64 o.from_, .int .i64 o.to_, .int .i64 o.days, U]) := by rw [hU]; exact HKAA.out
    have HSP : Hid (RSpans XA.heap.size XA U (o.away lo hi).hol) := by
      rw [HAWH.out, if_neg hA, if_pos hB, hU]
      exact Rd.own (base := 0) (e := 87) (row_of_blk HKN.out (Nat.zero_le _) rfl (by simp [maxLen])) (by simp [maxLen])
    clear e9 eA hnb
    go_upto_region 44 with fail
    rw [E8.out, HHB.out]
    go_upto_region 48 with fail
    rw [E9.out, HNB.out, EA.out, ← hU]
    clear q4 qf E9 EA HAW8 HSP8 HKAA HKN HAW9 hU b0 b1 w3 w4 w5 w6
    obtain ⟨c0, c1, c2, c3, c4'⟩ := HCO.out XA HBZ.out
    clear c0 c1 c2 c3 c4'
    have HBZ2 : Hid (Below W2.heap.size W2 XA) := HBZ
    obtain ⟨e0, e1, e2, e3, e4⟩ := HCO.out XA HBZ2.out
    have CN := Lib.hid (Copies_any o a b _ XA (HRO.out XA HBZ2.out))
    have CM : Hid (∀ Y, Below XA.heap.size XA Y → Calls Try.prog 34 #[.agg #[.int .i64 o.id, .int .i64 o.from_, .int .i64 o.to_, .int .i64 o.days, U], .int .i64 a, .int .i64 b] Y fun e w' => e = .returned (.tuple #[.int .i64 (copV (o.away lo hi) a b), .int .i64 (copE (o.away lo hi) a b)]) ∧ Below Y.heap.size Y w') := fun Y hY => Copies_any (o.away lo hi) a b _ Y ⟨U, rfl, (Rd.below HSP.out hY).more hY.size⟩
    rw [HCE.out, HCV.out] at CN
    rw [HCE2.out, HCV2.out] at CM
    clear HSP
    go_wp2_with fail
    refine CN.out.mono ?_
    rintro _ ZA ⟨rfl, hba⟩
    have HBA := Lib.hid hba
    have HAWA := Lib.hid (HAW.out.below hba HAW.out.lt)
    have f0 := cellOf HAWA.out 0 (x := .int .i64 o.id) rfl
    have f1 := cellOf HAWA.out 1 (x := .int .i64 o.from_) rfl
    have f2 := cellOf HAWA.out 2 (x := .int .i64 o.to_) rfl
    have f3 := cellOf HAWA.out 3 (x := .int .i64 o.days) rfl
    have f4 := cellOf HAWA.out 4 (x := U) rfl
    clear CN hba e0 e1 e2 e3 e4
    go_wp2_with fail
    refine (CM.out _ HBA.out).mono ?_
    rintro _ ZB ⟨rfl, hbb⟩
    have HBB : Hid (Below w.heap.size w ZB) := by
      have h1 : Below w.heap.size w XA := HBW2.out.trans (HBZ2.out.mono HBW2.out.size)
      have h2 := h1.trans (HBA.out.mono h1.size)
      exact h2.trans (hbb.mono h2.size)
    clear CM hbb f0 f1 f2 f3 f4 HAWA HBA
    go_wp2_with fail
    refine (awake_any _).mono ?_
    rintro _ w9 ⟨rfl, b9⟩
    have HB9 : Hid (Below w.heap.size w w9) := HBB.out.trans (b9.mono HBB.out.size)
    clear b9
    go_wp2
    go_ret
    exact ⟨rfl, HB9.out⟩
  have F9 : ∃ X9, X8.alloc (.cells #[.int .i64 (min lo l'), .int .i64 (max hi h')] 87) = X9 ∧ Hid (Below X8.heap.size X8 X9) ∧ Hid (Blk X9 X8.heap.size 87 #[.int .i64 (min lo l'), .int .i64 (max hi h')]) := ⟨_, rfl, below_alloc _ _, Blk.new _ _ _⟩
  obtain ⟨X9, e9, HX9', HK9⟩ := F9
  have E9 := Lib.hid e9
  obtain ⟨nb, hnb⟩ : ∃ q, X8.heap.size = q := ⟨_, rfl⟩
  rw [hnb] at HK9
  have HNB := Lib.hid hnb
  have HAW9 := Lib.hid (HAW8.out.below HX9'.out HAW8.out.lt)
  have HNE : Hid (aw ≠ nb) := by have := HSPW.out.2.2; rw [HNB.out] at this; show ¬ _; omega
  have F10 : ∃ XA, X9.setCell ⟨aw, 4, none⟩ (.slice (some ⟨nb, 0, none⟩) 1 1) = XA ∧ Hid (Blk XA aw 42 #[.int .i64 o.id, .int .i64 o.from_, .int .i64 o.to_, .int .i64 o.days, .slice (some ⟨nb, 0, none⟩) 1 1]) ∧ Hid (Blk XA nb 87 #[.int .i64 (min lo l'), .int .i64 (max hi h')]) ∧ Hid (Below W2.heap.size W2 XA) :=
    ⟨_, rfl, HAW9.out.put 4 _, HK9.out.far (p := ⟨aw, 4, none⟩) (fun e => HNE.out e.symm) _, (HB8'.out.trans (HX9'.out.mono HB8'.out.size)).setCell (p := ⟨aw, 4, none⟩) HAWL.out _⟩
  obtain ⟨XA, eA, HKAA, HKN, HBZ⟩ := F10
  have EA := Lib.hid eA
  have q4 : (X8.alloc (.cells #[.int .i64 (min lo l'), .int .i64 (max hi h')] 87)).cell? ⟨aw, 4, none⟩ = some (.slice (some ⟨sp, 0, none⟩) 1 1) := by rw [E9.out]; exact cellOf HAW9.out 4 rfl
  have qf : (X8.alloc (.cells #[.int .i64 (min lo l'), .int .i64 (max hi h')] 87)).frozen? ⟨aw, 4, none⟩ = false := by rw [E9.out]; exact HAW9.out.frozen 4
  obtain ⟨U, hU⟩ : ∃ U, U = Value.slice (some ⟨nb, 0, none⟩) 1 1 := ⟨_, rfl⟩
  have HAW : Hid (Blk XA aw 42 #[.int .i64 o.id, .int .i64 o.from_, .int .i64 o.to_, .int .i64 o.days, U]) := by rw [hU]; exact HKAA.out
  have HSP : Hid (RSpans XA.heap.size XA U (o.away lo hi).hol) := by
    rw [HAWH.out, if_neg hA, if_neg hB, hU]
    exact Rd.own (base := 0) (e := 87) (row_of_blk HKN.out (Nat.zero_le _) rfl (by simp [maxLen])) (by simp [maxLen])
  clear e9 eA hnb
  go_upto_region 43 with fail
  rw [E8.out, HHB.out]
  go_upto_region 48 with fail
  rw [E9.out, HNB.out, EA.out, ← hU]
  clear q4 qf E9 EA HAW8 HSP8 HKAA HKN HAW9 hU b0 b1 w3 w4 w5 w6
  obtain ⟨c0, c1, c2, c3, c4'⟩ := HCO.out XA HBZ.out
  clear c0 c1 c2 c3 c4'
  have HBZ2 : Hid (Below W2.heap.size W2 XA) := HBZ
  obtain ⟨e0, e1, e2, e3, e4⟩ := HCO.out XA HBZ2.out
  have CN := Lib.hid (Copies_any o a b _ XA (HRO.out XA HBZ2.out))
  have CM : Hid (∀ Y, Below XA.heap.size XA Y → Calls Try.prog 34 #[.agg #[.int .i64 o.id, .int .i64 o.from_, .int .i64 o.to_, .int .i64 o.days, U], .int .i64 a, .int .i64 b] Y fun e w' => e = .returned (.tuple #[.int .i64 (copV (o.away lo hi) a b), .int .i64 (copE (o.away lo hi) a b)]) ∧ Below Y.heap.size Y w') := fun Y hY => Copies_any (o.away lo hi) a b _ Y ⟨U, rfl, (Rd.below HSP.out hY).more hY.size⟩
  rw [HCE.out, HCV.out] at CN
  rw [HCE2.out, HCV2.out] at CM
  clear HSP
  go_wp2_with fail
  refine CN.out.mono ?_
  rintro _ ZA ⟨rfl, hba⟩
  have HBA := Lib.hid hba
  have HAWA := Lib.hid (HAW.out.below hba HAW.out.lt)
  have f0 := cellOf HAWA.out 0 (x := .int .i64 o.id) rfl
  have f1 := cellOf HAWA.out 1 (x := .int .i64 o.from_) rfl
  have f2 := cellOf HAWA.out 2 (x := .int .i64 o.to_) rfl
  have f3 := cellOf HAWA.out 3 (x := .int .i64 o.days) rfl
  have f4 := cellOf HAWA.out 4 (x := U) rfl
  clear CN hba e0 e1 e2 e3 e4
  go_wp2_with fail
  refine (CM.out _ HBA.out).mono ?_
  rintro _ ZB ⟨rfl, hbb⟩
  have HBB : Hid (Below w.heap.size w ZB) := by
    have h1 : Below w.heap.size w XA := HBW2.out.trans (HBZ2.out.mono HBW2.out.size)
    have h2 := h1.trans (HBA.out.mono h1.size)
    exact h2.trans (hbb.mono h2.size)
  clear CM hbb f0 f1 f2 f3 f4 HAWA HBA
  go_wp2_with fail
  refine (awake_any _).mono ?_
  rintro _ w9 ⟨rfl, b9⟩
  have HB9 : Hid (Below w.heap.size w w9) := HBB.out.trans (b9.mono HBB.out.size)
  clear b9
  go_wp2
  go_ret
  exact ⟨rfl, HB9.out⟩
end Go.Proofs.Ytlmpbmlbllndcaa
