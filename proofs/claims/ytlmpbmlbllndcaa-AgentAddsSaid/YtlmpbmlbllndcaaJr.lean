/-
  AgentAdds.
-/
import Derived.Test.YtlmpbmlbllndcaaJc
import Derived.Test.YtlmpbmlbllndcaaJg
import Derived.Test.YtlmpbmlbllndcaaJp
import Derived.Test.YtlmpbmlbllndcaaGb
namespace Go.Proofs.Ytlmpbmlbllndcaa
open Go.RowKit
attribute [local go_sem] Oper.semAt_some

theorem lines_get {B : Nat} {w : World} {A : Option Addr} {n d : Nat} {l : List LineD} (h : OLines B w (.slice A n d) l) (k : Nat) (x : LineD) (hk : l[k]? = some x) : ∃ g o, A = some ⟨g, o, none⟩ ∧ w.cell? ⟨g, o + k * 3, none⟩ = some (.int .i64 x.what) ∧ w.cell? ⟨g, o + k * 3 + 1, none⟩ = some (.int .i64 x.cop) ∧ w.cell? ⟨g, o + k * 3 + 2, none⟩ = some (.int .i64 x.amt) := by
  obtain ⟨A', c', e, -, -, hr⟩ := Rd.own h (own_le h)
  injection e with e1 e2 e3
  subst e1
  obtain ⟨g, o, hA, -, hc⟩ := hr (by have := (List.getElem?_eq_some_iff.1 hk).1; omega)
  have hf := fun j hj => flat_at LineD.cells 3 (fun _ => rfl) _ k j _ hk hj
  exact ⟨g, o, hA, hc _ _ (hf 0 (by omega)), hc _ _ (hf 1 (by omega)), hc _ _ (hf 2 (by omega))⟩
theorem fn_emod {x d : Int} (hd : 0 < d) : 0 ≤ x % d ∧ x % d < d := ⟨Int.emod_nonneg _ (by omega), Int.emod_lt_of_pos _ hd⟩
/-- The two lists of late copies: none, and some of the first k days. -/
structure AdSt (h : List DayD) (m : List Int) (k b1 b2 : Nat) (X : World) : Prop where
  z : Blk X b1 3 ((List.replicate h.length (0 : Int)).map (Value.int .i64)).toArray
  s : Blk X b2 3 ((lateTo h m k).map (Value.int .i64)).toArray
theorem AdSt.below {h : List DayD} {m : List Int} {k b1 b2 : Nat} {X Y : World} (hs : AdSt h m k b1 b2 X) (hb : Below X.heap.size X Y) : AdSt h m k b1 b2 Y := ⟨hs.z.below hb hs.z.lt, hs.s.below hb hs.s.lt⟩
theorem blk_ints {X : World} {b : Nat} {l : List Int} (h : Blk X b 3 (l.map (Value.int .i64)).toArray) (hl : l.length ≤ 1000000) : RInts X.heap.size X (.slice (some ⟨b, 0, none⟩) l.length l.length) l := by
  refine ⟨_, _, rfl, by simp, by simp only [maxLen]; omega, fun _ => ⟨b, 0, rfl, h.lt, fun j u hj => ?_⟩⟩
  rw [Nat.zero_add, h.cell]
  simpa using hj
/-- What the first k lines amount to. -/
def amtK (l : List LineD) (k : Nat) : Int := sumI ((l.take k).map LineD.amt)
theorem amtK_next {l : List LineD} {k : Nat} {x : LineD} (h : l[k]? = some x) : amtK l (k + 1) = amtK l k + x.amt := by
  unfold amtK
  rw [List.take_add_one, h, Option.toList_some, List.map_append, sumI_app]
  simp [sumI]
theorem amtK_bd {l : List LineD} (h : ∀ x ∈ l, -2000000 ≤ x.amt ∧ x.amt ≤ 2000000) : ∀ k, k ≤ l.length → -2000000 * k ≤ amtK l k ∧ amtK l k ≤ 2000000 * k
  | 0, _ => by simp [amtK, sumI]
  | k + 1, hk => by
    have ih := amtK_bd h k (by omega)
    have hx : l[k]? = some l[k] := List.getElem?_eq_getElem (by omega)
    have h2 := h l[k] (List.getElem_mem _)
    rw [amtK_next hx]
    push_cast
    omega
set_option maxRecDepth 1000000 in
set_option maxHeartbeats 4000000 in
theorem agentAdds_any (dl ll lm : List Int) (hl : Bytes dl) (hll : Bytes ll) (hlm : Bytes lm) (x y z t r : Int) (hx : 0 ≤ x ∧ x ≤ 255) (hy : 0 ≤ y ∧ y ≤ 255) (hz : 0 ≤ z ∧ z ≤ 255) (ht : 0 ≤ t ∧ t ≤ 255) (hr : 0 ≤ r ∧ r ≤ 255) (v v1 v2 : Value) (w : World) (h : RBytes w.heap.size w v dl) (h1 : RBytes w.heap.size w v1 ll) (h2 : RBytes w.heap.size w v2 lm) :
    Calls Try.prog 12 #[v, v1, v2, .int .u8 x, .int .u8 y, .int .u8 z, .int .u8 t, .int .u8 r] w fun e w' => e = .returned (.bool true) ∧ Below w.heap.size w w' := by
  obtain ⟨x0, x1⟩ := hx
  obtain ⟨y0, y1⟩ := hy
  obtain ⟨z0, z1⟩ := hz
  obtain ⟨t0, t1⟩ := ht
  obtain ⟨r0, r1⟩ := hr
  have C1 := Lib.hid (history_any dl hl v w h)
  obtain ⟨Hs, hHs⟩ : ∃ L, histD dl = L := ⟨_, rfl⟩
  obtain ⟨n, hN⟩ : ∃ N, nDays dl = N := ⟨_, rfl⟩
  have hlen : Hs.length = n := by rw [← hHs, ← hN]; exact histTo_len _ _
  have hn60 : n ≤ 60 := by rw [← hN]; unfold nDays; omega
  have HOK : Hid (∀ d ∈ Hs, d.ok ∧ d.sup ≤ 59) := by rw [← hHs]; exact hist_ok _ _
  have HLEN := Lib.hid hlen
  have HHS := Lib.hid hHs
  have HN := Lib.hid hN
  have HLB := Lib.hid h1
  obtain ⟨A1, c1, rfl, hlm1, hrr⟩ := h1.open_
  have HLR := Lib.hid hrr
  obtain ⟨n1, hn1⟩ : ∃ n, ll.length = n := ⟨_, rfl⟩
  rw [hn1] at hlm1 HLR HLB
  rw [hn1]
  have HLN := Lib.hid hn1
  have HLY := Lib.hid hll
  have HM2 := Lib.hid h2
  have HMY := Lib.hid hlm
  obtain ⟨pr, hpr⟩ : ∃ p, 100 + x = p := ⟨_, rfl⟩
  obtain ⟨bm, hbm⟩ : ∃ p, min y pr = p := ⟨_, rfl⟩
  have bm0 : 0 ≤ bm := by omega
  have bm1 : bm ≤ pr := by omega
  have pr0 : 100 ≤ pr := by omega
  have pr1 : pr ≤ 355 := by omega
  have bm2 : bm ≤ 255 := by omega
  obtain ⟨lq, hlq⟩ : ∃ p, z % (bm + 1) = p := ⟨_, rfl⟩
  have hlqb := fn_emod (x := z) (show 0 < bm + 1 by omega)
  rw [hlq] at hlqb
  obtain ⟨lq0, lq1⟩ := hlqb
  obtain ⟨lt, hlt⟩ : ∃ p, bm - lq = p := ⟨_, rfl⟩
  have lt0 : 0 ≤ lt := by omega
  have lt1 : lt ≤ bm := by omega
  have HPR := Lib.hid hpr
  have HBM := Lib.hid hbm
  have HLQ := Lib.hid hlq
  have HLT := Lib.hid hlt
  have HTOK : Hid ((TarD.mk pr bm lt 3 7).okB = true) := TarD.okB_iff.2 (by simp only; omega)
  have u1 : -1000 ≤ 100 + x := by omega
  have u2 : 100 + x ≤ 1000 := by omega
  clear h h1 h2 hHs hN hlen hl hll hlm hn1 hrr hpr hbm hlq hlt
  go_enter Try.func12, Try.ntmps12
  go_wp2_with fail
  refine C1.out.mono ?_
  rintro _ W1 ⟨A, cc, rfl, hO, hb1⟩
  rw [HN.out] at hO ⊢
  rw [HHS.out] at hO
  have HR1 : Hid (RDays W1.heap.size W1 (.slice A n cc) Hs) := by
    have := Rd.own hO (own_le hO)
    show Rd _ _ _ _ _ _
    rw [HLEN.out]
    exact this
  have HB1 := Lib.hid hb1
  clear C1 hO hb1
  have F1 : ∃ X1, W1.alloc (.cells #[.int .i64 pr, .int .i64 y, .int .i64 0, .int .i64 3, .int .i64 7] 37) = X1 ∧ Hid (Below W1.heap.size W1 X1) ∧ Hid (Blk X1 W1.heap.size 37 #[.int .i64 pr, .int .i64 y, .int .i64 0, .int .i64 3, .int .i64 7]) := ⟨_, rfl, below_alloc _ _, Blk.new _ _ _⟩
  obtain ⟨X1, e1, HX1, HKT⟩ := F1
  have E1 := Lib.hid e1
  obtain ⟨tb, htb⟩ : ∃ q, W1.heap.size = q := ⟨_, rfl⟩
  rw [htb] at HKT
  have HTB := Lib.hid htb
  have F2 : ∃ X2, X1.setCell ⟨tb, 1, none⟩ (.int .i64 bm) = X2 ∧ Hid (Below W1.heap.size W1 X2) ∧ Hid (Blk X2 tb 37 #[.int .i64 pr, .int .i64 bm, .int .i64 0, .int .i64 3, .int .i64 7]) := ⟨_, rfl, HX1.out.setCell (p := ⟨tb, 1, none⟩) (by rw [HTB.out]; exact Nat.le_refl _) _, HKT.out.put 1 _⟩
  obtain ⟨X2, e2, HX2, HKT2⟩ := F2
  have E2 := Lib.hid e2
  have F3 : ∃ X3, (X2.setCell ⟨tb, 2, none⟩ (.int .i64 lt)).drew = X3 ∧ Hid (Below W1.heap.size W1 X3) ∧ Hid (Blk X3 tb 37 #[.int .i64 pr, .int .i64 bm, .int .i64 lt, .int .i64 3, .int .i64 7]) := ⟨_, rfl, (HX2.out.setCell (p := ⟨tb, 2, none⟩) (by rw [HTB.out]; exact Nat.le_refl _) _).drew, (HKT2.out.put 2 _).drew_⟩
  obtain ⟨X3, e3, HX3, HKT3⟩ := F3
  have E3 := Lib.hid e3
  have q0 := cellOf HKT.out 0 (x := .int .i64 pr) rfl
  have q1 := cellOf HKT.out 1 (x := .int .i64 y) rfl
  have qf := HKT.out.frozen 1
  clear e1 e2 e3 htb
  go_upto_region 3 with fail
  rw [HPR.out, E1.out, HTB.out]
  clear u1 u2
  go_upto_region 4 with fail
  rw [HBM.out, E2.out]
  clear q0 q1 qf E1 E2
  have q1 := cellOf HKT2.out 1 (x := .int .i64 bm) rfl
  have q2 := cellOf HKT2.out 2 (x := .int .i64 0) rfl
  have q1' := cellOf HKT2.out.drew_ 1 (x := .int .i64 bm) rfl
  have q2' := cellOf HKT2.out.drew_ 2 (x := .int .i64 0) rfl
  have qf := HKT2.out.frozen 2
  have qf' := HKT2.out.drew_.frozen 2
  have ke : (bm + 1 == 0) = false := by simp; omega
  have ke' : ¬ bm + 1 = 0 := by omega
  have kz : IntKind.i64.wrap z = z := IntWalk.i64_in _ ⟨by omega, by omega⟩
  have kb : IntKind.i64.wrap (bm + 1) = bm + 1 := IntWalk.i64_in _ ⟨by omega, by omega⟩
  have kr : IntKind.i64.wrap (z.tmod (bm + 1)) = lq := by rw [Int.tmod_eq_emod_of_nonneg z0, HLQ.out]; exact IntWalk.i64_in _ ⟨by omega, by omega⟩
  have kd : IntKind.i64.wrap (bm - lq) = lt := by rw [HLT.out]; exact IntWalk.i64_in _ ⟨by omega, by omega⟩
  go_region
  rw [HLQ.out]
  have HWL : Hid (wrap64 (bm - lq) = lt) := (IntWalk.i64_left _).symm.trans kd
  rw [HWL.out, E3.out]
  clear q1 q2 q1' q2' qf qf' ke ke' kz kb kr kd E3 HWL
  have hmk : ∀ u : World, (Instr.makeSlice 31 (.int .i64 (n : Int)) (.int .i64 (n : Int))).run Try.prog u = .ok (.slice (some ⟨u.heap.size, 0, none⟩) n n) (u.alloc (.cells (Array.replicate n (.int .i64 0)) 3)) := makeInts n (by omega)
  go_upto_region 5 with fail
  have HST : Hid (∀ X b1 b2, Blk X b1 3 (Array.replicate n (.int .i64 0)) → Blk X b2 3 (Array.replicate n (.int .i64 0)) → AdSt Hs ll 0 b1 b2 X) := fun X b1 b2 h1 h2 => by
    refine ⟨?_, ?_⟩
    · rw [HLEN.out]; simpa using h1
    · rw [lateTo_zero, HLEN.out]; simpa using h2
  go_cut [19, 20] from 65 to 70 (fun s5 s6 wx => ∃ b1 b2 : Nat, s5 = .slice (some ⟨b1, 0, none⟩) n n ∧ s6 = .slice (some ⟨b2, 0, none⟩) n n ∧ Hid (AdSt Hs ll 0 b1 b2 wx) ∧ Hid (b1 ≠ b2 ∧ X3.heap.size ≤ b2) ∧ Hid (Below X3.heap.size X3 wx))
  case first =>
    go_region
    all_goals
      go_wp2_with fail
      go_meet
      first
        | exact ⟨_, _, rfl, rfl, HST.out _ _ _ ((Blk.new _ _ _).alloc _).drew_ (blk_new (by simp) _ _).drew_, ⟨by omega, by omega⟩, (sbelow_al (below_alloc _ _) _).drew⟩
        | exact ⟨_, _, rfl, rfl, HST.out _ _ _ (blk_new (by simp) _ _).drew_ ((Blk.new _ _ _).alloc _).drew_, ⟨by omega, Nat.le_refl _⟩, (sbelow_al (below_alloc _ _) _).drew⟩
  case rest =>
  obtain ⟨b1, b2, rfl, rfl, hst, hne, hbe⟩ := hcut
  obtain ⟨X4, rfl⟩ : ∃ X : World, X = wc := ⟨_, rfl⟩
  clear HST hmk
  have HD1 : Hid (∀ k d, Hs[k]? = some d → ∃ g o, A = some ⟨g, o, none⟩ ∧ Hid (∀ X, Below W1.heap.size W1 X → X.cell? ⟨g, o + k * 2, none⟩ = some (.int .i64 d.sup) ∧ X.cell? ⟨g, o + k * 2 + 1, none⟩ = some (.int .i64 d.ret))) := by
    obtain ⟨A', c', hsl, -, HD⟩ := days_later HR1.out
    injection hsl with e1 e2 e3
    subst e1
    exact HD.out
  have HBD : Hid (∀ k, k ≤ n → (0 ≤ supS Hs k ∧ supS Hs k ≤ 59 * k) ∧ (0 ≤ retS Hs k ∧ retS Hs k ≤ supS Hs k) ∧ (0 ≤ lateK Hs ll k ∧ lateK Hs ll k ≤ retS Hs k)) := fun k hk => supS_bd HOK.out ll k (by rw [HLEN.out]; exact hk)
  have HBW : Hid (∀ X, Below X3.heap.size X3 X → Below w.heap.size w X ∧ Below W1.heap.size W1 X) := fun X hX => by
    have h1 := HX3.out.trans (hX.mono HX3.out.size)
    exact ⟨HB1.out.trans (h1.mono HB1.out.size), h1⟩
  go_wp2_with fail
  go_loopw [21, 22, 23, 24, 73] (fun s1 s2 s3 s4 i wr => ∃ (k : Nat) (a b c e : Int), k ≤ n ∧ i = .int .i64 k ∧ s1 = .int .i64 a ∧ s2 = .int .i64 b ∧ s3 = .int .i64 c ∧ s4 = .int .i64 e ∧ Hid (a = lateK Hs ll k ∧ b = supS Hs k - retS Hs k ∧ c = supS Hs k ∧ e = retS Hs k) ∧ Hid (AdSt Hs ll k b1 b2 wr) ∧ Hid (Below X3.heap.size X3 wr)) (fun _ _ _ _ i _ => n - (intOf i).toNat)
  case atStart => exact ⟨0, 0, 0, 0, 0, Nat.zero_le _, rfl, rfl, rfl, rfl, rfl, ⟨rfl, rfl, rfl, rfl⟩, hst, hbe⟩
  case round =>
  clear hst hbe
  obtain ⟨k, a, b, c, e, hk, rfl, rfl, rfl, rfl, rfl, HREL, hS, hB⟩ := hrel
  obtain ⟨X, rfl⟩ : ∃ X : World, X = wr := ⟨_, rfl⟩
  obtain ⟨a0, a1, b0, b1', c0, c1', e0, e1⟩ : 0 ≤ a ∧ a ≤ 3540 ∧ 0 ≤ b ∧ b ≤ 3540 ∧ 0 ≤ c ∧ c ≤ 3540 ∧ 0 ≤ e ∧ e ≤ 3540 := by
    have h1 := HBD.out k hk
    obtain ⟨h2, h3, h4, h5⟩ := HREL.out
    omega
  by_cases hlt1 : k < n
  · obtain ⟨d, hd⟩ : ∃ x, Hs[k]? = some x := ⟨_, List.getElem?_eq_getElem (by rw [HLEN.out]; exact hlt1)⟩
    have HD0 := Lib.hid hd
    obtain ⟨g, o, rfl, HX⟩ := HD1.out k d hd
    obtain ⟨y3, y4⟩ := HX.out X (HBW.out X hB.out).2
    obtain ⟨⟨d1a, d1b, d1c, d1d⟩, d1e⟩ := HOK.out d (List.mem_of_getElem? hd)
    have F1 : ∃ X1, X.alloc (.cells #[.int .i64 d.sup, .int .i64 d.ret] 24) = X1 ∧ Hid (Below X.heap.size X X1) ∧ Hid (Blk X1 X.heap.size 24 #[.int .i64 d.sup, .int .i64 d.ret]) := ⟨_, rfl, below_alloc _ _, Blk.new _ _ _⟩
    obtain ⟨X5, e5, HX5, HKDX5⟩ := F1
    have E5 := Lib.hid e5
    have hsX := hS.out
    have HSX5' : Hid (AdSt Hs ll k b1 b2 X5) := hS.out.below HX5.out
    have HBX5 : Hid (Below X3.heap.size X3 X5) := hB.out.trans (HX5.out.mono hB.out.size)
    have hqb : b2 < X.heap.size := hsX.s.lt
    obtain ⟨q, hq⟩ : ∃ q, X.heap.size = q := ⟨_, rfl⟩
    rw [hq] at HKDX5 hqb
    have HQ := Lib.hid hq
    have k0 : (0 : Int) ≤ (k : Int) := by omega
    have k1 : (k : Int) < (n : Int) := by omega
    clear hd HX e5 hq hS hB HX5 hsX
    go_upto_region 10 with fail
    rw [E5.out, HQ.out]
    clear E5 y3 y4
    by_cases hk1 : k < n1
    · have hk1' : (k : Int) < (n1 : Int) := by omega
      obtain ⟨gl, ol, rfl, hgl, cl⟩ := HLR.out k hk1
      obtain ⟨lb, hlb⟩ : ∃ z, ll.getD k 0 = z := ⟨_, rfl⟩
      rw [hlb] at cl
      obtain ⟨lb0, lb1⟩ : 0 ≤ lb ∧ lb ≤ 255 := by
        have := HLY.out (ll.getD k 0) (by rw [List.getD_eq_getElem?_getD, List.getElem?_eq_getElem (by rw [HLN.out]; exact hk1)]; exact List.getElem_mem _)
        rw [hlb] at this
        omega
      obtain ⟨lv, hlv⟩ : ∃ z, lb % (d.ret + 1) = z := ⟨_, rfl⟩
      have hlvb := fn_emod (x := lb) (show 0 < d.ret + 1 by omega)
      rw [hlv] at hlvb
      obtain ⟨lv0, lv1⟩ := hlvb
      have HLA : Hid (lateAt Hs ll k = lv) := by
        show _ = _
        unfold lateAt
        rw [if_pos (by rw [HLN.out]; exact hk1), hlb, HD0.out]
        exact hlv
      have HLV := Lib.hid hlv
      have p0 := (HBW.out X5 HBX5.out).1.cell (p := ⟨gl, ol + k, none⟩) hgl
      rw [cl] at p0
      have p0' : X5.drew.cell? ⟨gl, ol + k, none⟩ = some (.int .u8 lb) := p0
      have p1 := cellOf HKDX5.out 1 (x := .int .i64 d.ret) rfl
      have p1' : X5.drew.cell? ⟨q, 1, none⟩ = some (.int .i64 d.ret) := p1
      have p2 : X5.cell? ⟨b2, k, none⟩ = some (.int .i64 0) := by
        rw [HSX5'.out.s.cell]
        simp only [List.getElem?_toArray, List.getElem?_map, lateTo_get Hs ll k k (by rw [HLEN.out]; exact hlt1), if_neg (Nat.lt_irrefl k), Option.map_some]
      have p2' : X5.drew.cell? ⟨b2, k, none⟩ = some (.int .i64 0) := p2
      have pf := HSX5'.out.s.frozen k
      have pf' : X5.drew.frozen? ⟨b2, k, none⟩ = false := pf
      have ke : (d.ret + 1 == 0) = false := by simp; omega
      have ke' : ¬ d.ret + 1 = 0 := by omega
      have kz : IntKind.i64.wrap lb = lb := IntWalk.i64_in _ ⟨by omega, by omega⟩
      have kb : IntKind.i64.wrap (d.ret + 1) = d.ret + 1 := IntWalk.i64_in _ ⟨by omega, by omega⟩
      have kr : IntKind.i64.wrap (lb.tmod (d.ret + 1)) = lv := by rw [Int.tmod_eq_emod_of_nonneg lb0, HLV.out]; exact IntWalk.i64_in _ ⟨by omega, by omega⟩
      have KRW : Hid (wrap64 (lb.tmod (d.ret + 1)) = lv) := (IntWalk.i64_left _).symm.trans kr
      clear hlv hlb cl
      go_upto_region 11 with fail
      go_region
      rw [HLV.out]
      have F6 : ∃ X6, (X5.setCell ⟨b2, k, none⟩ (.int .i64 lv)).drew = X6 ∧ Hid (AdSt Hs ll (k + 1) b1 b2 X6) ∧ Hid (Blk X6 q 24 #[.int .i64 d.sup, .int .i64 d.ret]) ∧ Hid (Below X3.heap.size X3 X6) := by
        refine ⟨_, rfl, ⟨(HSX5'.out.z.far (p := ⟨b2, k, none⟩) (by have := hne.out.1; exact this) _).drew_, ?_⟩, (HKDX5.out.far (p := ⟨b2, k, none⟩) (by show q ≠ b2; omega) _).drew_, (HBX5.out.setCell (p := ⟨b2, k, none⟩) hne.out.2 _).drew⟩
        have h1 := HSX5'.out.s.put k (.int .i64 lv)
        rw [lateTo_next, List.map_set, HLA.out]
        simpa using h1.drew_
      obtain ⟨X6, e6, HSX6, HKDX6, HBX6⟩ := F6
      rw [e6]
      clear e6 p0 p0' p1 p1' p2 p2' pf pf' ke ke' kz kb kr KRW HSX5' HKDX5 HBX5
      have d0 := cellOf HKDX6.out 0 (x := .int .i64 d.sup) rfl
      have d1 := cellOf HKDX6.out 1 (x := .int .i64 d.ret) rfl
      have s0 : X6.cell? ⟨b2, k, none⟩ = some (.int .i64 (lateAt Hs ll k)) := by
        rw [HSX6.out.s.cell]
        simp only [List.getElem?_toArray, List.getElem?_map, lateTo_get Hs ll (k + 1) k (by rw [HLEN.out]; exact hlt1), if_pos (Nat.lt_succ_self k), Option.map_some]
      obtain ⟨la, hla⟩ : ∃ z, lateAt Hs ll k = z := ⟨_, rfl⟩
      rw [hla] at s0
      have HNX : Hid (a + la = lateK Hs ll (k + 1) ∧ b + d.sup - d.ret = supS Hs (k + 1) - retS Hs (k + 1) ∧ c + d.sup = supS Hs (k + 1) ∧ e + d.ret = retS Hs (k + 1)) := by
        obtain ⟨h1, h2⟩ := supS_next HD0.out
        have h3 := lateK_next (h := Hs) (m := ll) (k := k) (by rw [HLEN.out]; exact hlt1)
        rw [hla] at h3
        obtain ⟨e1, e2, e3, e4⟩ := HREL.out
        exact ⟨by omega, by omega, by omega, by omega⟩
      have hbn := HBD.out (k + 1) (by omega)
      have hnx := HNX.out
      have g1 : -100000 ≤ a + la := by omega
      have g2 : a + la ≤ 100000 := by omega
      have g3 : -100000 ≤ b + d.sup := by omega
      have g4 : b + d.sup ≤ 100000 := by omega
      have g5 : -100000 ≤ b + d.sup - d.ret := by omega
      have g6 : b + d.sup - d.ret ≤ 100000 := by omega
      have g7 : -100000 ≤ c + d.sup := by omega
      have g8 : c + d.sup ≤ 100000 := by omega
      have g9 : -100000 ≤ e + d.ret := by omega
      have g10 : e + d.ret ≤ 100000 := by omega
      clear hnx hbn hla
      go_upto_region 13 with fail
      clear s0
      go_quiet (fail)
      have FZ : ∃ Z, X6.drewN nq = Z ∧ Hid (Below X6.heap.size X6 Z) := ⟨_, rfl, below_drewN (Below.refl _ _) nq⟩
      obtain ⟨Z, eZ, HZ⟩ := FZ
      have HSZ : Hid (AdSt Hs ll (k + 1) b1 b2 Z) := HSX6.out.below HZ.out
      have HBZ : Hid (Below X3.heap.size X3 Z) := HBX6.out.trans (HZ.out.mono HBX6.out.size)
      rw [eZ]
      clear eZ d0 d1
      go_wp2_with fail
      go_roundw
      case rel => exact ⟨k + 1, a + la, b + d.sup - d.ret, c + d.sup, e + d.ret, by omega, by go_num, rfl, rfl, rfl, rfl, HNX, HSZ, HBZ⟩
      case measure => simp [intOf]; omega
    · have hk1' : ¬ (k : Int) < (n1 : Int) := by omega
      have HLA : Hid (lateAt Hs ll k = 0) := by show _ = _; unfold lateAt; rw [if_neg (by rw [HLN.out]; exact hk1)]
      have HSX5 : Hid (AdSt Hs ll (k + 1) b1 b2 X5) := ⟨HSX5'.out.z, by rw [lateTo_same _ _ _ HLA.out]; exact HSX5'.out.s⟩
      clear HSX5'
      have d0 := cellOf HKDX5.out 0 (x := .int .i64 d.sup) rfl
      have d1 := cellOf HKDX5.out 1 (x := .int .i64 d.ret) rfl
      have s0 : X5.cell? ⟨b2, k, none⟩ = some (.int .i64 (lateAt Hs ll k)) := by
        rw [HSX5.out.s.cell]
        simp only [List.getElem?_toArray, List.getElem?_map, lateTo_get Hs ll (k + 1) k (by rw [HLEN.out]; exact hlt1), if_pos (Nat.lt_succ_self k), Option.map_some]
      obtain ⟨la, hla⟩ : ∃ z, lateAt Hs ll k = z := ⟨_, rfl⟩
      rw [hla] at s0
      have HNX : Hid (a + la = lateK Hs ll (k + 1) ∧ b + d.sup - d.ret = supS Hs (k + 1) - retS Hs (k + 1) ∧ c + d.sup = supS Hs (k + 1) ∧ e + d.ret = retS Hs (k + 1)) := by
        obtain ⟨h1, h2⟩ := supS_next HD0.out
        have h3 := lateK_next (h := Hs) (m := ll) (k := k) (by rw [HLEN.out]; exact hlt1)
        rw [hla] at h3
        obtain ⟨e1, e2, e3, e4⟩ := HREL.out
        exact ⟨by omega, by omega, by omega, by omega⟩
      have hbn := HBD.out (k + 1) (by omega)
      have hnx := HNX.out
      have g1 : -100000 ≤ a + la := by omega
      have g2 : a + la ≤ 100000 := by omega
      have g3 : -100000 ≤ b + d.sup := by omega
      have g4 : b + d.sup ≤ 100000 := by omega
      have g5 : -100000 ≤ b + d.sup - d.ret := by omega
      have g6 : b + d.sup - d.ret ≤ 100000 := by omega
      have g7 : -100000 ≤ c + d.sup := by omega
      have g8 : c + d.sup ≤ 100000 := by omega
      have g9 : -100000 ≤ e + d.ret := by omega
      have g10 : e + d.ret ≤ 100000 := by omega
      clear hnx hbn hla
      go_upto_region 13 with fail
      clear s0
      go_quiet (fail)
      have FZ : ∃ Z, X5.drewN nq = Z ∧ Hid (Below X5.heap.size X5 Z) := ⟨_, rfl, below_drewN (Below.refl _ _) nq⟩
      obtain ⟨Z, eZ, HZ⟩ := FZ
      have HSZ : Hid (AdSt Hs ll (k + 1) b1 b2 Z) := HSX5.out.below HZ.out
      have HBZ : Hid (Below X3.heap.size X3 Z) := HBX5.out.trans (HZ.out.mono HBX5.out.size)
      rw [eZ]
      clear eZ d0 d1
      go_wp2_with fail
      go_roundw
      case rel => exact ⟨k + 1, a + la, b + d.sup - d.ret, c + d.sup, e + d.ret, by omega, by go_num, rfl, rfl, rfl, rfl, HNX, HSZ, HBZ⟩
      case measure => simp [intOf]; omega
  obtain rfl : k = n := by omega
  have HRL := HREL
  have HAD := hS
  have HBX := hB
  clear hS hB HREL hlt1 hk
  obtain ⟨tD, htD⟩ : ∃ tD : TarD, tD = ⟨pr, bm, lt, 3, 7⟩ := ⟨_, rfl⟩
  have HTD := Lib.hid htD
  have HTK : Hid (∀ Y, Below X3.heap.size X3 Y → Y.cell? ⟨tb, 0, none⟩ = some (.int .i64 pr) ∧ Y.cell? ⟨tb, 1, none⟩ = some (.int .i64 bm) ∧ Y.cell? ⟨tb, 2, none⟩ = some (.int .i64 lt) ∧ Y.cell? ⟨tb, 3, none⟩ = some (.int .i64 3) ∧ Y.cell? ⟨tb, 4, none⟩ = some (.int .i64 7)) := fun Y hY => by
    have h1 := HKT3.out.below hY HKT3.out.lt
    exact ⟨cellOf h1 0 rfl, cellOf h1 1 rfl, cellOf h1 2 rfl, cellOf h1 3 rfl, cellOf h1 4 rfl⟩
  have HDS : Hid (∀ Y, Below X3.heap.size X3 Y → RDays Y.heap.size Y (.slice A k cc) Hs) := fun Y hY => (Rd.below HR1.out (HBW.out Y hY).2).more (HBW.out Y hY).2.size
  have HI1 : Hid (∀ Y, Below X.heap.size X Y → RInts Y.heap.size Y (.slice (some ⟨b1, 0, none⟩) k k) (List.replicate Hs.length 0)) := fun Y hY => by
    have := blk_ints (HAD.out.below hY).z (by simp only [List.length_replicate, HLEN.out]; omega)
    rw [List.length_replicate, HLEN.out] at this
    rw [HLEN.out]
    exact this
  have HI2 : Hid (∀ Y, Below X.heap.size X Y → RInts Y.heap.size Y (.slice (some ⟨b2, 0, none⟩) k k) (lateD Hs ll)) := fun Y hY => by
    have := blk_ints (HAD.out.below hY).s (by rw [lateTo_len, HLEN.out]; omega)
    rw [lateTo_len, HLEN.out] at this
    unfold lateD
    rw [HLEN.out]
    exact this
  have HCH : checkH Hs = 0 := checkH_of (by rw [HLEN.out]; omega) (fun d hd => (HOK.out d hd).1)
  have HE1 : Hid (setE tD Hs (List.replicate Hs.length 0) = 0) := setE_of (by rw [htD]; exact HTOK.out) HCH (by simp) (none_lateB fun d hd => (HOK.out d hd).1)
  have HE2 : Hid (setE tD Hs (lateD Hs ll) = 0) := setE_of (by rw [htD]; exact HTOK.out) HCH (lateTo_len _ _ _) (late_lateB (fun d hd => (HOK.out d hd).1) ll)
  obtain ⟨hs1, hs2, hs3⟩ := supS_all Hs ll
  rw [HLEN.out] at hs1 hs2 hs3
  obtain ⟨r1', r2', r3', r4'⟩ := HRL.out
  rw [hs3] at r1'
  rw [hs1] at r3'
  rw [hs2] at r4'
  have hbc : b + e = c := by omega
  have m1b : 0 ≤ c * pr ∧ c * pr ≤ 3540 * 355 := ⟨Int.mul_nonneg (by omega) (by omega), Int.mul_le_mul (by omega) (by omega) (by omega) (by omega)⟩
  have m2b : 0 ≤ e * bm ∧ e * bm ≤ 3540 * 255 := ⟨Int.mul_nonneg (by omega) (by omega), Int.mul_le_mul (by omega) (by omega) (by omega) (by omega)⟩
  have m4b : 0 ≤ a * lq ∧ a * lq ≤ 3540 * 255 := ⟨Int.mul_nonneg (by omega) (by omega), Int.mul_le_mul (by omega) (by omega) (by omega) (by omega)⟩
  have m5b : 0 ≤ a * lt ∧ a * lt ≤ 3540 * 255 := ⟨Int.mul_nonneg (by omega) (by omega), Int.mul_le_mul (by omega) (by omega) (by omega) (by omega)⟩
  have hea : a ≤ e := by have := HBD.out k (Nat.le_refl _); have h1 := HRL.out; omega
  have m6b : 0 ≤ (e - a) * bm ∧ (e - a) * bm ≤ 3540 * 255 := ⟨Int.mul_nonneg (by omega) (by omega), Int.mul_le_mul (by omega) (by omega) (by omega) (by omega)⟩
  have hdf : bm - lt = lq := by have := HLT.out; omega
  have HSA : Hid (setS tD Hs (List.replicate Hs.length 0) = c * pr - e * bm) := by show _ = _; rw [set_none, ← r3', ← r4', htD]
  have HSB : Hid (setS tD Hs (lateD Hs ll) - setS tD Hs (List.replicate Hs.length 0) = a * lq) := by
    show _ = _
    rw [set_some, ← r1', htD]
    show a * (bm - lt) = _
    rw [hdf]
  obtain ⟨SA, hSA⟩ : ∃ z, setS tD Hs (List.replicate Hs.length 0) = z := ⟨_, rfl⟩
  obtain ⟨SB, hSB⟩ : ∃ z, setS tD Hs (lateD Hs ll) = z := ⟨_, rfl⟩
  rw [hSA] at HSA HSB
  rw [hSB] at HSB
  have HLA : Hid (accL tD Hs (List.replicate Hs.length 0) = [⟨1, c, c * pr⟩, ⟨2, e, e * -bm⟩, ⟨3, 0, 0 * -lt⟩]) := by
    show _ = _
    unfold accL
    rw [if_pos HE1.out]
    unfold setL
    rw [sumI_zeros, Int.sub_zero, ← r3', ← r4', htD]
  have HLBb : Hid (accL tD Hs (lateD Hs ll) = [⟨1, c, c * pr⟩, ⟨2, e - a, (e - a) * -bm⟩, ⟨3, a, a * -lt⟩]) := by
    show _ = _
    unfold accL
    rw [if_pos HE2.out]
    unfold setL
    rw [← r1', ← r3', ← r4', htD]
  have HSBs : Hid (SB = c * pr + (e - a) * -bm + a * -lt) := by
    show _ = _
    rw [← hSB]
    unfold setS
    rw [← r1', ← r3', ← r4', htD]
  have HCA : Hid (accS tD Hs (List.replicate Hs.length 0) = SA) := by show _ = _; unfold accS; rw [if_pos HE1.out, hSA]
  have HCB : Hid (accS tD Hs (lateD Hs ll) = SB) := by show _ = _; unfold accS; rw [if_pos HE2.out, hSB]
  obtain ⟨m1, hm1⟩ : ∃ z, c * pr = z := ⟨_, rfl⟩
  obtain ⟨m2, hm2⟩ : ∃ z, e * bm = z := ⟨_, rfl⟩
  obtain ⟨m4, hm4⟩ : ∃ z, a * lq = z := ⟨_, rfl⟩
  obtain ⟨n2, hn2⟩ : ∃ z, (e - a) * -bm = z := ⟨_, rfl⟩
  obtain ⟨n3, hn3⟩ : ∃ z, a * -lt = z := ⟨_, rfl⟩
  have m6b' : -902700 ≤ n2 ∧ n2 ≤ 0 := by rw [Int.mul_neg] at hn2; omega
  have m5b' : -902700 ≤ n3 ∧ n3 ≤ 0 := by rw [Int.mul_neg] at hn3; omega
  rw [hm1] at m1b HSA HLA HLBb HSBs
  rw [hm2] at m2b HSA
  rw [hm4] at m4b HSB
  rw [hn2] at HLBb HSBs
  rw [hn3] at HLBb HSBs
  obtain ⟨m1c, m1d⟩ := m1b
  obtain ⟨m2c, m2d⟩ := m2b
  obtain ⟨m4c, m4d⟩ := m4b
  have sa0 : -10000000 ≤ SA := by have := HSA.out; omega
  have sa1 : SA ≤ 10000000 := by have := HSA.out; omega
  have sb0 : -20000000 ≤ SB := by have := HSB.out; omega
  have sb1 : SB ≤ 20000000 := by have := HSB.out; omega
  obtain ⟨ri, hri⟩ : ∃ z, e - a = z := ⟨_, rfl⟩
  rw [hri] at HLBb
  have hria : ri + a = e := by omega
  have ri0 : 0 ≤ ri := by omega
  have ri1 : ri ≤ 3540 := by omega
  have HM1 := Lib.hid hm1
  have HM2' := Lib.hid hm2
  have HM4 := Lib.hid hm4
  have HDF := Lib.hid hdf
  have HBC := Lib.hid hbc
  have HRIA := Lib.hid hria
  have CS1 := Lib.hid (Settle_any tD Hs _ _ _ X (HDS.out X HBX.out) (HI1.out X (Below.refl _ _)))
  have CS2 := Lib.hid (fun Y h1 h2 => Settle_any tD Hs _ _ _ Y (HDS.out Y h1) (HI2.out Y h2))
  unfold SettleRet at CS1 CS2
  rw [HE1.out, HCA.out, HLA.out] at CS1
  simp only [HE2.out, HCB.out, HLBb.out] at CS2
  simp only [htD] at CS2
  rw [htD] at CS1
  clear hs1 hs2 hs3 r1' r2' r3' r4' hbc m5b m6b hea hdf hSA hSB hm1 hm2 hm4 hn2 hn3 HCH htD hri hria
  obtain ⟨g0, g1, g2, g3, g4⟩ := HTK.out X HBX.out
  go_wp2_with fail
  refine CS1.out.mono ?_
  rintro _ X6 ⟨u, rfl, HOA, HB6⟩
  obtain ⟨Aa, da, rfl⟩ := ownsRow_form HOA.out
  have F7 : ∃ X7, X6.alloc (.cells #[.slice Aa 3 da, .int .i64 SA] 80) = X7 ∧ Hid (Below X6.heap.size X6 X7) ∧ Hid (Blk X7 X6.heap.size 80 #[.slice Aa 3 da, .int .i64 SA]) := ⟨_, rfl, below_alloc _ _, Blk.new _ _ _⟩
  obtain ⟨X7, e7, HX7, HKA⟩ := F7
  have E7 := Lib.hid e7
  have HB67 : Hid (Below X.heap.size X X7) := HB6.out.trans (HX7.out.mono HB6.out.size)
  have HB7 : Hid (Below X3.heap.size X3 X7) := HBX.out.trans (HB67.out.mono HBX.out.size)
  have HOA7 := Lib.hid (ownsRow_below HOA.out HX7.out)
  have CT := Lib.hid (CS2.out X7 HB7.out HB67.out)
  clear CS1 CS2 g0 g1 g2 g3 g4 e7 HB6 HOA HX7
  obtain ⟨g0, g1, g2, g3, g4⟩ := HTK.out X7 HB7.out
  go_upto_region 16 with fail
  rw [E7.out]
  clear E7
  go_wp2_with fail
  refine CT.out.mono ?_
  rintro _ X8 ⟨u, rfl, HOB, HB8⟩
  obtain ⟨Ab, db, rfl⟩ := ownsRow_form HOB.out
  have F9 : ∃ X9, X8.alloc (.cells #[.slice Ab 3 db, .int .i64 SB] 80) = X9 ∧ Hid (Below X8.heap.size X8 X9) ∧ Hid (Blk X9 X8.heap.size 80 #[.slice Ab 3 db, .int .i64 SB]) := ⟨_, rfl, below_alloc _ _, Blk.new _ _ _⟩
  obtain ⟨X9, e9, HX9, HKB⟩ := F9
  have E9 := Lib.hid e9
  have HB79 : Hid (Below X7.heap.size X7 X9) := HB8.out.trans (HX9.out.mono HB8.out.size)
  have HB9 : Hid (Below X3.heap.size X3 X9) := HB7.out.trans (HB79.out.mono HB7.out.size)
  have HOB9 := Lib.hid (ownsRow_below HOB.out HX9.out)
  have HOA9 := Lib.hid (ownsRow_below HOA7.out HB79.out)
  have HKA9 := Lib.hid (HKA.out.below HB79.out HKA.out.lt)
  obtain ⟨ab, hab⟩ : ∃ q, X6.heap.size = q := ⟨_, rfl⟩
  rw [hab] at HKA9
  have HAB := Lib.hid hab
  obtain ⟨bb, hbb⟩ : ∃ q, X8.heap.size = q := ⟨_, rfl⟩
  rw [hbb] at HKB
  have HBB := Lib.hid hbb
  clear CT g0 g1 g2 g3 g4 e9 HB8 HOB HX9 HOA7 HKA hab hbb HB79 HB67
  go_upto_region 17 with fail
  rw [HAB.out, E9.out, HBB.out]
  clear E9
  obtain ⟨g0, g1, g2, g3, g4⟩ := HTK.out X9 HB9.out
  obtain ⟨gA, oA, rfl, -, la1, -⟩ := lines_get HOA9.out 0 ⟨1, c, m1⟩ rfl
  obtain ⟨gA', oA', eA, -, lb1, -⟩ := lines_get HOA9.out 1 ⟨2, e, e * -bm⟩ rfl
  cases eA
  simp only [Nat.zero_mul, Nat.add_zero, Nat.one_mul] at la1 lb1
  obtain ⟨gB, oB, rfl, -, -, -⟩ := lines_get HOB9.out 0 ⟨1, c, m1⟩ rfl
  have k0 := cellOf HKA9.out 0 (x := .slice (some ⟨gA, oA, none⟩) 3 da) rfl
  have k1 := cellOf HKA9.out 1 (x := .int .i64 SA) rfl
  have k2 := cellOf HKB.out 0 (x := .slice (some ⟨gB, oB, none⟩) 3 db) rfl
  have k3 := cellOf HKB.out 1 (x := .int .i64 SB) rfl
  have f00 : ((0 : Int) != 0) = false := rfl
  have f33 : ((3 : Int) != 3) = false := rfl
  have fcc : (c != c) = false := by simp
  have fee : (e != e) = false := by simp
  have fsa : (SA != SA) = false := by simp
  have fm4 : (m4 != m4) = false := by simp
  have hbc := HBC.out
  have hm1 := HM1.out
  have hm2 := HM2'.out
  have hm3 := HSA.out.symm
  have hm4 := HM4.out
  have hm5 := HSB.out
  have hdf := HDF.out
  go_cut [201] from 130 to 201 (fun s wx => s = .bool false ∧ wx = X9)
  case first =>
    go_wp2_with fail
    go_meet
    exact ⟨rfl, rfl⟩
  case rest =>
  obtain ⟨rfl, rfl⟩ := hcut
  clear g0 g1 g2 g3 g4 la1 lb1 k0 k1 k2 k3 f00 f33 fcc fee fsa fm4 hbc hm1 hm2 hm3 hm4 hm5 hdf
  obtain ⟨X9, rfl⟩ : ∃ X : World, X = wc := ⟨_, rfl⟩
  obtain ⟨LB, hLB⟩ : ∃ l : List LineD, l = [⟨1, c, m1⟩, ⟨2, ri, n2⟩, ⟨3, a, n3⟩] := ⟨_, rfl⟩
  have HLBE := Lib.hid hLB
  have HCL : Hid (∀ i x, LB[i]? = some x → ∀ Y, Below X9.heap.size X9 Y → Y.cell? ⟨gB, oB + i * 3, none⟩ = some (.int .i64 x.what) ∧ Y.cell? ⟨gB, oB + i * 3 + 1, none⟩ = some (.int .i64 x.cop) ∧ Y.cell? ⟨gB, oB + i * 3 + 2, none⟩ = some (.int .i64 x.amt)) := fun i x hx Y hY => by
    rw [hLB] at hx
    obtain ⟨g', o', e', h1, h2, h3⟩ := lines_get (ownsRow_below HOB9.out hY) i x hx
    cases e'
    exact ⟨h1, h2, h3⟩
  have HKB9 : Hid (∀ Y, Below X9.heap.size X9 Y → Y.cell? ⟨bb, 0, none⟩ = some (.slice (some ⟨gB, oB, none⟩) 3 db) ∧ Y.cell? ⟨bb, 1, none⟩ = some (.int .i64 SB)) := fun Y hY => by
    have h1 := HKB.out.below hY HKB.out.lt
    exact ⟨cellOf h1 0 rfl, cellOf h1 1 rfl⟩
  have HAM : Hid (∀ x ∈ LB, -2000000 ≤ x.amt ∧ x.amt ≤ 2000000) := fun x hx => by
    rw [hLB] at hx
    simp only [List.mem_cons, List.not_mem_nil, or_false] at hx
    rcases hx with rfl | rfl | rfl <;> simp only <;> omega
  have HSL : Hid (amtK LB 3 = SB) := by
    show _ = _
    rw [hLB, HSBs.out]
    simp only [amtK, List.take, List.map, sumI, List.foldr]
    omega
  have HL3 : Hid (LB.length = 3) := by show _ = _; rw [hLB]; rfl
  have HBX9 : Hid (Below w.heap.size w X9) := (HBW.out X9 HB9.out).1
  obtain ⟨k2, k3⟩ := HKB9.out X9 (Below.refl _ _)
  clear hLB HKB HOB9 HOA9 HKA9
  go_wp2_with fail
  go_loopw [31, 205] (fun s i wr => ∃ (j : Nat) (S : Int), j ≤ 3 ∧ i = .int .i64 j ∧ s = .int .i64 S ∧ Hid (S = amtK LB j) ∧ Hid (Below X9.heap.size X9 wr)) (fun _ i _ => 3 - (intOf i).toNat)
  case atStart => exact ⟨0, 0, Nat.zero_le _, rfl, rfl, by show _ = _; simp [amtK, sumI], Below.refl _ _⟩
  case round =>
  clear k2 k3
  obtain ⟨j, S, hj, rfl, rfl, hS, hB⟩ := hrel
  obtain ⟨X, rfl⟩ : ∃ X : World, X = wr := ⟨_, rfl⟩
  by_cases hj3 : j < 3
  · obtain ⟨o, ho⟩ : ∃ x, LB[j]? = some x := ⟨_, List.getElem?_eq_getElem (by rw [HL3.out]; exact hj3)⟩
    obtain ⟨c0', c1', c2'⟩ := HCL.out j o ho X hB.out
    have F1 : ∃ X1, X.alloc (.cells #[.int .i64 o.what, .int .i64 o.cop, .int .i64 o.amt] 84) = X1 ∧ Hid (Below X.heap.size X X1) ∧ Hid (Blk X1 X.heap.size 84 #[.int .i64 o.what, .int .i64 o.cop, .int .i64 o.amt]) := ⟨_, rfl, below_alloc _ _, Blk.new _ _ _⟩
    obtain ⟨Xa, e1', HXa, HKa⟩ := F1
    have E1 := Lib.hid e1'
    have HBa : Hid (Below X9.heap.size X9 Xa) := hB.out.trans (HXa.out.mono hB.out.size)
    have d2 := cellOf HKa.out 2 (x := .int .i64 o.amt) rfl
    have HNX : Hid (S + o.amt = amtK LB (j + 1)) := by show _ = _; rw [amtK_next ho, hS.out]
    have hbd := amtK_bd HAM.out (j + 1) (by rw [HL3.out]; omega)
    rw [← HNX.out] at hbd
    have u1 : -10000000 ≤ S + o.amt := by omega
    have u2 : S + o.amt ≤ 10000000 := by omega
    have j0 : (0 : Int) ≤ (j : Int) := by omega
    have j1 : (j : Int) < 3 := by omega
    clear ho e1' hB hS hbd HXa HKa
    go_upto_region 23 with fail
    rw [E1.out]
    clear E1 c0' c1' c2'
    go_wp2_with fail
    go_roundw
    case rel => exact ⟨j + 1, _, by omega, by go_num, rfl, HNX, HBa⟩
    case measure => simp [intOf]; omega
  obtain rfl : j = 3 := by omega
  obtain rfl : S = SB := by rw [hS.out, HSL.out]
  obtain ⟨k2, k3⟩ := HKB9.out X hB.out
  obtain ⟨-, l1, -⟩ := HCL.out 1 ⟨2, ri, n2⟩ (by rw [HLBE.out]; rfl) X hB.out
  obtain ⟨-, l2, -⟩ := HCL.out 2 ⟨3, a, n3⟩ (by rw [HLBE.out]; rfl) X hB.out
  have fs : (S != S) = false := by simp
  have fe : (e != e) = false := by simp
  have hria := HRIA.out
  clear hS hj hj3
  go_upto_region 25 with fail
  go_quiet (fail)
  have FZ : ∃ Z, X.drewN nq = Z ∧ Hid (Below X.heap.size X Z) := ⟨_, rfl, below_drewN (Below.refl _ _) nq⟩
  obtain ⟨Z, eZ, HZ⟩ := FZ
  have HB10 : Hid (Below X3.heap.size X3 Z) := HB9.out.trans ((hB.out.trans (HZ.out.mono hB.out.size)).mono HB9.out.size)
  rw [eZ]
  clear eZ k2 k3 l1 l2 fs fe hria hB HZ
  try clear HRL
  try clear HAD
  try clear HDS
  try clear HI1
  try clear HI2
  try clear HE1
  try clear HE2
  try clear HSA
  try clear HSB
  try clear HLA
  try clear HLBb
  try clear HSBs
  try clear HCA
  try clear HCB
  try clear HLBE
  try clear HCL
  try clear HKB9
  try clear HAM
  try clear HSL
  try clear HL3
  try clear HM1
  try clear HM2'
  try clear HM4
  try clear HDF
  try clear HBC
  try clear HRIA
  try clear a0
  try clear a1
  try clear b0
  try clear b1'
  try clear c0
  try clear c1'
  try clear e0
  try clear e1
  try clear m1c
  try clear m1d
  try clear m2c
  try clear m2d
  try clear m4c
  try clear m4d
  try clear sa0
  try clear sa1
  try clear sb0
  try clear sb1
  try clear ri0
  try clear ri1
  try clear m6b'
  try clear m5b'
  try clear x0
  try clear x1
  try clear y0
  try clear y1
  try clear z0
  try clear z1
  try clear lq0
  try clear lq1
  try clear lt0
  try clear lt1
  try clear bm0
  try clear bm1
  try clear bm2
  try clear pr0
  try clear pr1
  try clear hn60
  try clear hlm1
  try clear HPR
  try clear HBM
  try clear HLQ
  try clear HLT
  try clear HLR
  try clear HLN
  try clear HLY
  try clear HR1
  try clear HKT
  try clear HKT2
  try clear HX1
  try clear HX2
  try clear hne
  try clear HD1
  try clear HBD
  try clear HBX
  try clear HBX9
  try clear HAB
  try clear HBB
  try clear HLB
  try clear HN
  try clear HHS
  try clear hlt
  have HBZw := Lib.hid (HBW.out Z HB10.out).1
  have CS := Lib.hid (subscribers_any lm HMY.out v2 Z ((Rd.below HM2.out HBZw.out).more HBZw.out.size))
  obtain ⟨L, hL⟩ : ∃ L, subsOf lm = L := ⟨_, rfl⟩
  obtain ⟨N2, hN2⟩ : ∃ N, nSubs lm = N := ⟨_, rfl⟩
  have hlen2 : L.length = N2 := by rw [← hL, ← hN2]; exact subs_len lm
  have hN10 : N2 ≤ 10 := by rw [← hN2]; unfold nSubs; omega
  have HOK2 : Hid (∀ s ∈ L, s.Ok ∧ s.hol.length ≤ 1) := by rw [← hL]; exact subs_ok lm
  have HSE : Hid (subsE L = 0) := by rw [← hL]; exact subs_subsE lm
  have HIDS : Hid ((L.map SubD.id).Nodup) := by rw [← hL]; exact subs_ids lm
  have HLEN2 := Lib.hid hlen2
  have HL2 := Lib.hid hL
  have HNN2 := Lib.hid hN2
  clear hL hN2 hlen2
  go_wp2_with fail
  refine CS.out.mono ?_
  rintro _ Z1 ⟨A5, c5, rfl, hO, hb5⟩
  rw [HNN2.out] at hO ⊢
  rw [HL2.out] at hO
  have HRS := Lib.hid hO
  have HB11 : Hid (Below X3.heap.size X3 Z1) := HB10.out.trans (hb5.mono HB10.out.size)
  have HBZ1 := Lib.hid (HBW.out Z1 HB11.out).1
  clear CS hO hb5
  by_cases hN0 : N2 = 0
  · have hk0 : ((N2 : Int) == 0) = true := by simp [hN0]
    clear hN0
    go_wp2_with fail
    refine (awake_any _).mono ?_
    rintro _ w9 ⟨rfl, b9⟩
    have HB9' : Hid (Below w.heap.size w w9) := HBZ1.out.trans (b9.mono HBZ1.out.size)
    clear b9
    go_wp2
    go_ret
    exact ⟨rfl, HB9'.out⟩
  have hk0 : ((N2 : Int) == 0) = false := by simp [hN0]
  have hk0' : ¬ (N2 : Int) = 0 := by omega
  obtain ⟨i, hi, hil⟩ : ∃ i : Nat, t % (N2 : Int) = (i : Int) ∧ i < N2 := ⟨(t % (N2 : Int)).toNat, by have := Int.emod_nonneg t hk0'; omega, by have := Int.emod_lt_of_pos t (show (0 : Int) < (N2 : Int) by omega); have := Int.emod_nonneg t hk0'; omega⟩
  have kz : IntKind.i64.wrap t = t := IntWalk.i64_in _ ⟨by omega, by omega⟩
  have kri : IntKind.i64.wrap (t.tmod (N2 : Int)) = (i : Int) := by rw [Int.tmod_eq_emod_of_nonneg t0, hi]; exact IntWalk.i64_in _ ⟨by omega, by omega⟩
  have HI := Lib.hid hi
  obtain ⟨dd, hdd⟩ : ∃ d, r % 100 = d := ⟨_, rfl⟩
  have dd0 : 0 ≤ dd := by omega
  have dd1 : dd ≤ 99 := by omega
  have HDD := Lib.hid hdd
  clear hi hdd
  go_upto_region 30 with fail
  go_upto_region 31 with fail
  rw [HI.out, HDD.out]
  clear kz kri
  obtain ⟨o, ho⟩ : ∃ x, L[i]? = some x := ⟨_, List.getElem?_eq_getElem (by rw [HLEN2.out]; exact hil)⟩
  have HOI := Lib.hid ho
  obtain ⟨gs, os, U0, rfl, HX⟩ : ∃ g o' u, A5 = some ⟨g, o', none⟩ ∧ Hid (∀ X, Below Z1.heap.size Z1 X → (X.cell? ⟨g, o' + i * 5, none⟩ = some (.int .i64 o.id) ∧ X.cell? ⟨g, o' + i * 5 + 1, none⟩ = some (.int .i64 o.from_) ∧ X.cell? ⟨g, o' + i * 5 + 2, none⟩ = some (.int .i64 o.to_) ∧ X.cell? ⟨g, o' + i * 5 + 3, none⟩ = some (.int .i64 o.days) ∧ X.cell? ⟨g, o' + i * 5 + 4, none⟩ = some u) ∧ RSub X.heap.size X (.agg #[.int .i64 o.id, .int .i64 o.from_, .int .i64 o.to_, .int .i64 o.days, u]) o) := by
    obtain ⟨A', c', hsl, -, HD⟩ := subs_later HRS.out
    injection hsl with e1 e2 e3
    subst e1
    exact HD.out i o ho
  obtain ⟨Au, nu, cu, rfl⟩ : ∃ Au nu cu, U0 = .slice Au nu cu := by
    obtain ⟨-, u', hu', hsp⟩ := HX.out Z1 (Below.refl _ _)
    obtain ⟨Au, cu, e, -⟩ := spans_later hsp
    have e9 : U0 = u' := by simpa using hu'
    exact ⟨Au, _, cu, e9.trans e⟩
  have HOO := Lib.hid (HOK2.out o (List.mem_of_getElem? ho)).1
  have CG := Lib.hid (Gets_any o dd _ Z1 (HX.out Z1 (Below.refl _ _)).2)
  have HG0 : Hid (copE o dd dd = 0) := by show _ = _; unfold copE; rw [if_pos (subB_of HOO.out), if_pos (dayB_iff.2 ⟨by omega, by omega, by omega⟩)]
  obtain ⟨gb, hgb⟩ : ∃ c, o.getB dd = c := ⟨_, rfl⟩
  have HG1 : Hid (decide (0 < copV o dd dd) = gb) := by show _ = _; unfold copV; rw [if_pos HG0.out, ← hgb]; rfl
  have HGB := Lib.hid hgb
  rw [HG0.out, HG1.out] at CG
  obtain ⟨c0', c1', c2', c3', c4'⟩ := (HX.out Z1 (Below.refl _ _)).1
  have i0 : (0 : Int) ≤ (i : Int) := by omega
  have i1 : (i : Int) < (N2 : Int) := by omega
  have HC99 : Hid (∀ k, k ≤ L.length → 0 ≤ copK L 0 99 k ∧ copK L 0 99 k ≤ 20001 * k) := fun k hk => copK_bd (fun s hs => (HOK2.out s hs).1) (by omega) (by omega) k hk
  obtain ⟨CP, hCP⟩ : ∃ c, copK L 0 99 L.length = c := ⟨_, rfl⟩
  have hcp := HC99.out L.length (Nat.le_refl _)
  rw [hCP, HLEN2.out] at hcp
  obtain ⟨cp0, cp1⟩ : 0 ≤ CP ∧ CP ≤ 200010 := by omega
  obtain ⟨PS, hPS⟩ : ∃ c, CP * 3 + 0 * -7 = c := ⟨_, rfl⟩
  obtain ⟨E2, hE2⟩ : ∃ c, cmpE L 0 99 [⟨o.id, dd⟩] = c := ⟨_, rfl⟩
  have HE2' : Hid (E2 = if gb then 0 else 4) := by
    show _ = _
    rw [← hE2]
    unfold cmpE
    have h1 : dueB L 0 99 ⟨o.id, dd⟩ = gb := by
      unfold dueB
      rw [due_find HIDS.out ho o.id rfl]
      show (inB dd 0 99 && o.getB dd) = gb
      rw [inB_iff.2 ⟨dd0, dd1⟩, hgb, Bool.true_and]
    simp only [List.all_cons, List.all_nil, Bool.and_true, h1]
  obtain ⟨PQ, hPQ⟩ : ∃ c, caS ⟨pr, bm, lt, 3, 7⟩ L 0 99 [⟨o.id, dd⟩] = c := ⟨_, rfl⟩
  have HPQ : Hid (gb = true → PQ = PS - 7) := fun hg => by
    rw [← hPQ]
    unfold caS
    rw [hE2, HE2'.out, hg, if_pos rfl, hCP]
    show CP * 3 + 1 * -7 = _
    omega
  have HCC0 : Hid (∀ Y, Below Z1.heap.size Z1 Y → Calls Try.prog 35 #[.agg #[.int .i64 pr, .int .i64 bm, .int .i64 lt, .int .i64 3, .int .i64 7], .slice (some ⟨gs, os, none⟩) N2 c5, .slice none 0 0, .int .i64 0, .int .i64 99] Y fun e w' => ∃ Al nl dl', e = .returned (.tuple #[.agg #[.slice Al nl dl', .int .i64 PS], .int .i64 0]) ∧ Hid (Below Y.heap.size Y w')) := fun Y hY => by
    refine (Carrier_any ⟨pr, bm, lt, 3, 7⟩ HTOK.out L HSE.out HIDS.out 0 99 (by decide) [] (by simp) (.slice none 0 0) _ Y ⟨none, 0, rfl, rfl, by simp [maxLen], fun h => absurd h (by simp)⟩ ((RSubs.below HRS.out hY).more hY.size)).mono ?_
    rintro _ Y2 ⟨u, rfl, hol, hbl⟩
    obtain ⟨Al, dl', rfl⟩ := ownsRow_form hol.out
    refine ⟨Al, (caL ⟨pr, bm, lt, 3, 7⟩ L 0 99 []).length, dl', ?_, hbl⟩
    show _ = Ending.returned (.tuple #[.agg #[_, .int .i64 PS], .int .i64 (cmpE L 0 99 [])])
    have h1 : caS ⟨pr, bm, lt, 3, 7⟩ L 0 99 [] = PS := by
      show (if cmpE L 0 99 [] = 0 then carS ⟨pr, bm, lt, 3, 7⟩ (copK L 0 99 L.length) 0 else 0) = PS
      rw [if_pos (show cmpE L 0 99 [] = 0 from rfl), hCP]
      exact hPS
    rw [h1]
  have HCC1 : Hid (∀ Y g, Below Z1.heap.size Z1 Y → Blk Y g 91 #[.int .i64 o.id, .int .i64 dd] → Calls Try.prog 35 #[.agg #[.int .i64 pr, .int .i64 bm, .int .i64 lt, .int .i64 3, .int .i64 7], .slice (some ⟨gs, os, none⟩) N2 c5, .slice (some ⟨g, 0, none⟩) 1 1, .int .i64 0, .int .i64 99] Y fun e w' => ∃ Al nl dl', e = .returned (.tuple #[.agg #[.slice Al nl dl', .int .i64 PQ], .int .i64 E2]) ∧ Hid (Below Y.heap.size Y w')) := fun Y g hY hg => by
    refine (Carrier_any ⟨pr, bm, lt, 3, 7⟩ HTOK.out L HSE.out HIDS.out 0 99 (by decide) [⟨o.id, dd⟩] (by simp) _ _ Y ⟨_, _, rfl, rfl, by simp [maxLen], fun _ => ⟨g, 0, rfl, hg.lt, fun j u hj => ?_⟩⟩ ((RSubs.below HRS.out hY).more hY.size)).mono ?_
    · rw [Nat.zero_add, hg.cell]
      simpa [CmpD.cells] using hj
    rintro _ Y2 ⟨u, rfl, hol, hbl⟩
    obtain ⟨Al, dl', rfl⟩ := ownsRow_form hol.out
    rw [hPQ, hE2]
    exact ⟨Al, _, dl', rfl, hbl⟩
  have ps0 : -1000000 ≤ PS := by omega
  have ps1 : PS ≤ 1000000 := by omega
  clear ho hgb hcp hCP hPS hE2 hPQ
  go_wp2_with fail
  refine CG.out.mono ?_
  rintro _ Z2 ⟨rfl, hb6⟩
  have HB12 := Lib.hid hb6
  have HB13 : Hid (Below X3.heap.size X3 Z2) := HB11.out.trans (hb6.mono HB11.out.size)
  obtain ⟨g0, g1, g2, g3, g4⟩ := HTK.out Z2 HB13.out
  clear CG hb6 c0' c1' c2' c3' c4'
  go_wp2_with fail
  refine (HCC0.out Z2 HB12.out).mono ?_
  rintro _ Z3 ⟨Al, nl, dl', rfl, HB14⟩
  have F15 : ∃ Z4, Z3.alloc (.cells #[.slice Al nl dl', .int .i64 PS] 80) = Z4 ∧ Hid (Below Z3.heap.size Z3 Z4) ∧ Hid (Blk Z4 Z3.heap.size 80 #[.slice Al nl dl', .int .i64 PS]) := ⟨_, rfl, below_alloc _ _, Blk.new _ _ _⟩
  obtain ⟨Z4, e15, HZ4, HKP⟩ := F15
  have E15 := Lib.hid e15
  have HB16 : Hid (Below Z1.heap.size Z1 Z4) := HB12.out.trans ((HB14.out.trans (HZ4.out.mono HB14.out.size)).mono HB12.out.size)
  have HB17 : Hid (Below X3.heap.size X3 Z4) := HB11.out.trans (HB16.out.mono HB11.out.size)
  obtain ⟨pb, hpb⟩ : ∃ q, Z3.heap.size = q := ⟨_, rfl⟩
  rw [hpb] at HKP
  have HPB := Lib.hid hpb
  clear e15 hpb g0 g1 g2 g3 g4 HB14 HZ4
  go_upto_region 33 with fail
  rw [E15.out, HPB.out]
  clear E15
  have HSY : Hid (∀ Y, Below Z4.heap.size Z4 Y → Y.cell? ⟨tb, 0, none⟩ = some (.int .i64 pr) ∧ Y.cell? ⟨tb, 1, none⟩ = some (.int .i64 bm) ∧ Y.cell? ⟨tb, 2, none⟩ = some (.int .i64 lt) ∧ Y.cell? ⟨tb, 3, none⟩ = some (.int .i64 3) ∧ Y.cell? ⟨tb, 4, none⟩ = some (.int .i64 7) ∧ Y.cell? ⟨gs, os + i * 5, none⟩ = some (.int .i64 o.id)) := fun Y hY => by
    obtain ⟨h0, h1, h2, h3, h4⟩ := HTK.out Y (HB17.out.trans (hY.mono HB17.out.size))
    exact ⟨h0, h1, h2, h3, h4, (HX.out Y (HB16.out.trans (hY.mono HB16.out.size))).1.1⟩
  have HCC : Hid (∀ Y g, Below Z4.heap.size Z4 Y → Blk Y g 91 #[.int .i64 o.id, .int .i64 dd] → Calls Try.prog 35 #[.agg #[.int .i64 pr, .int .i64 bm, .int .i64 lt, .int .i64 3, .int .i64 7], .slice (some ⟨gs, os, none⟩) N2 c5, .slice (some ⟨g, 0, none⟩) 1 1, .int .i64 0, .int .i64 99] Y fun e w' => ∃ Al nl dl', e = .returned (.tuple #[.agg #[.slice Al nl dl', .int .i64 PQ], .int .i64 E2]) ∧ Hid (Below Y.heap.size Y w')) := fun Y g hY hg => HCC1.out Y g (HB16.out.trans (hY.mono HB16.out.size)) hg
  go_cut [39, 40] from 262 to 275 (fun s39 s40 wx => ∃ ac : Nat, s39 = .pointer (some ⟨ac, 0, none⟩) ∧ s40 = .int .i64 E2 ∧ Hid (wx.cell? ⟨ac, 1, none⟩ = some (.int .i64 PQ)) ∧ Hid (Below Z4.heap.size Z4 wx))
  case first =>
    have S1 := HSY.out Z4 (Below.refl _ _)
    have HD0 : Hid (Below Z4.heap.size Z4 Z4.drew) := (Below.refl _ _).drew
    have HDA : Hid (∀ o, Below Z4.heap.size Z4 (Z4.alloc o).drew) := fun o => (below_alloc _ o).drew
    have HDAA : Hid (∀ o o', Below Z4.heap.size Z4 ((Z4.alloc o).alloc o').drew) := fun o o' => (sbelow_al (below_alloc _ o) o').drew
    have HK2 : Hid (Blk ((Z4.alloc (.cells #[.int .i64 o.id, .int .i64 dd] 91)).alloc (.cells #[.slice none 0 0, .int .i64 0] 80)) (Z4.heap.size + 1) 80 #[.slice none 0 0, .int .i64 0]) := blk_new (by simp) _ _
    clear HCC0 HCC1
    go_region_held3 (fun X => X.cell? ⟨tb, 0, none⟩ = some (.int .i64 pr) ∧ X.cell? ⟨tb, 1, none⟩ = some (.int .i64 bm) ∧ X.cell? ⟨tb, 2, none⟩ = some (.int .i64 lt) ∧ X.cell? ⟨tb, 3, none⟩ = some (.int .i64 3) ∧ X.cell? ⟨tb, 4, none⟩ = some (.int .i64 7) ∧ X.cell? ⟨gs, os + i * 5, none⟩ = some (.int .i64 o.id))
      (first | with_reducible exact T1 | with_reducible exact S1 | with_reducible exact HSY.out _ ((H1.out.setCell (p := ⟨_, 0, none⟩) (Nat.le_refl _) _).setCell (p := ⟨_, 1, none⟩) (Nat.le_refl _) _) | with_reducible exact HSY.out _ ((H1.out.setCell (p := ⟨_, 0, none⟩) (Nat.le_succ _) _).setCell (p := ⟨_, 1, none⟩) (Nat.le_succ _) _) | go_keep)
      (first | (go_at_call 35; with_reducible refine (HCC.out _ _ (HDA.out _) ((Blk.new Z4 _ _).drew_)).mono ?_; rintro _ y1 ⟨Aq, nq', dq, rfl, HY⟩; have H1 := Lib.hid ((HDA.out _).trans (HY.out.mono (HDA.out _).size)); have T1 := HSY.out y1 H1.out)
             | (go_at_call 35; with_reducible refine (HCC.out _ _ (HDAA.out _ _) ((blk_new (by simp) _ _).drew_)).mono ?_; rintro _ y1 ⟨Aq, nq', dq, rfl, HY⟩; have H1 := Lib.hid ((HDAA.out _ _).trans (HY.out.mono (HDAA.out _ _).size)); have T1 := HSY.out y1 H1.out; have K := Lib.hid ((((Blk.new Z4 80 #[.slice none 0 0, .int .i64 0]).alloc (.cells #[.int .i64 o.id, .int .i64 dd] 91)).drew_).below HY.out (((Blk.new Z4 80 #[.slice none 0 0, .int .i64 0]).alloc (.cells #[.int .i64 o.id, .int .i64 dd] 91)).drew_).lt); have a0 := cellOf K.out 0 (x := .slice none 0 0) rfl; have a1 := cellOf K.out 1 (x := .int .i64 0) rfl; have f0 := K.out.frozen 0; have f1 := K.out.frozen 1)
             | (go_at_call 35; with_reducible refine (HCC.out _ _ (HDAA.out _ _) (((Blk.new Z4 _ _).alloc _).drew_)).mono ?_; rintro _ y1 ⟨Aq, nq', dq, rfl, HY⟩; have H1 := Lib.hid ((HDAA.out _ _).trans (HY.out.mono (HDAA.out _ _).size)); have T1 := HSY.out y1 H1.out; have K := Lib.hid ((HK2.out.drew_).below HY.out HK2.out.drew_.lt); have a0 := cellOf K.out 0 (x := .slice none 0 0) rfl; have a1 := cellOf K.out 1 (x := .int .i64 0) rfl; have f0 := K.out.frozen 0; have f1 := K.out.frozen 1))
    all_goals
      clear S1
      go_wp2_with fail
      go_meet
      first
        | exact ⟨_, rfl, rfl, cellOf (Blk.new _ _ _) 1 rfl, H1.out.trans ((below_alloc _ _).mono H1.out.size)⟩
        | exact ⟨_, rfl, rfl, cellOf ((K.out.put 0 _).put 1 _) 1 rfl, (H1.out.setCell (p := ⟨_, 0, none⟩) (by first | exact Nat.le_refl _ | exact Nat.le_succ _) _).setCell (p := ⟨_, 1, none⟩) (by first | exact Nat.le_refl _ | exact Nat.le_succ _) _⟩
  case rest =>
  obtain ⟨ac, rfl, rfl, hac, hbe⟩ := hcut
  have HWC : Hid (Below w.heap.size w wc) := (HBW.out wc (HB17.out.trans (hbe.out.mono HB17.out.size))).1
  have k1 := hac.out
  have k2 : wc.cell? ⟨pb, 1, none⟩ = some (.int .i64 PS) := cellOf (HKP.out.below hbe.out HKP.out.lt) 1 rfl
  have f00 : ((0 : Int) != 0) = false := rfl
  cases gb with
  | false =>
    have hE : E2 = 4 := HE2'.out
    have f44 : ((4 : Int) == 4) = true := rfl
    rw [hE]
    clear hE
    go_wp2_with fail
    refine (awake_any _).mono ?_
    rintro _ w9 ⟨rfl, b9⟩
    have HB9' : Hid (Below w.heap.size w w9) := HWC.out.trans (b9.mono HWC.out.size)
    clear b9
    go_wp2
    go_ret
    exact ⟨rfl, HB9'.out⟩
  | true =>
    have hE : E2 = 0 := HE2'.out
    have g00 : ((0 : Int) == 0) = true := rfl
    have hpq : (PQ == PS - 7) = true := by rw [HPQ.out rfl]; simp
    have u1 : -10000000 ≤ PS - 7 := by omega
    have u2 : PS - 7 ≤ 10000000 := by omega
    rw [hE]
    clear hE
    go_wp2_with fail
    refine (awake_any _).mono ?_
    rintro _ w9 ⟨rfl, b9⟩
    have HB9' : Hid (Below w.heap.size w w9) := HWC.out.trans (b9.mono HWC.out.size)
    clear b9
    go_wp2
    go_ret
    exact ⟨rfl, HB9'.out⟩
end Go.Proofs.Ytlmpbmlbllndcaa
