/-
  A supply in memory; batch.
-/
import Derived.Test.YtpkepacbondopaaLa
import Derived.Test.YtpkepacbondopaaLb
namespace Go.Proofs.Ytpkepacbondopaa
open Go.RowKit
attribute [local go_sem] Oper.semAt_some

structure SupD where
  need : List Int
  order : List Int
  keep : Int
  room : Int
def RSup (B : Nat) (w : World) (v : Value) (s : SupD) : Prop := ∃ a b, v = .agg #[a, b, .int .i64 s.keep, .int .i64 s.room] ∧ RInts B w a s.need ∧ RInts B w b s.order
theorem RSup.below {B : Nat} {w w' : World} {v : Value} {s : SupD} (h : RSup B w v s) (hb : Below B w w') : RSup B w' v s := by
  obtain ⟨a, b, rfl, h1, h2⟩ := h
  exact ⟨a, b, rfl, h1.below hb, h2.below hb⟩
theorem RSup.more {B B' : Nat} {w : World} {v : Value} {s : SupD} (h : RSup B w v s) (hB : B ≤ B') : RSup B' w v s := by
  obtain ⟨a, b, rfl, h1, h2⟩ := h
  exact ⟨a, b, rfl, h1.more hB, h2.more hB⟩
structure SupD.Ok (s : SupD) : Prop where
  weeks : 1 ≤ s.need.length ∧ s.need.length ≤ 20
  same : s.order.length = s.need.length
  keep : 0 ≤ s.keep ∧ s.keep ≤ 1000
  room : 0 ≤ s.room ∧ s.room ≤ 100000
  need : ∀ k, k < s.need.length → 0 ≤ s.need.getD k 0 ∧ s.need.getD k 0 ≤ 1000
  order : ∀ k, k < s.need.length → 0 ≤ s.order.getD k 0 ∧ s.order.getD k 0 ≤ 1000000
/-- What is kept from a week of an order on, over the next k weeks. -/
def SupD.kept (s : SupD) (a : Nat) : Nat → Int
  | 0 => 0
  | k + 1 => s.kept a k + s.need.getD (a + 1 + k) 0
/-- What the order costs with what it keeps. -/
def SupD.cost (s : SupD) (a : Nat) : Nat → Int
  | 0 => s.order.getD a 0
  | k + 1 => s.cost a k + s.keep * ((k : Int) + 1) * s.need.getD (a + 1 + k) 0
theorem SupD.Ok.kept {s : SupD} (h : s.Ok) (a : Nat) : ∀ k, a + k < s.need.length → 0 ≤ s.kept a k ∧ s.kept a k ≤ 1000 * k
  | 0, _ => by unfold SupD.kept; omega
  | k + 1, hk => by
    have h1 := h.kept a k (by omega)
    have h2 := h.need (a + 1 + k) (by omega)
    unfold SupD.kept
    omega
theorem SupD.Ok.one {s : SupD} (h : s.Ok) {k i : Nat} (hk : k < 20) (hi : i < s.need.length) : (0 ≤ s.keep * ((k : Int) + 1) ∧ s.keep * ((k : Int) + 1) ≤ 20000) ∧ 0 ≤ s.keep * ((k : Int) + 1) * s.need.getD i 0 ∧ s.keep * ((k : Int) + 1) * s.need.getD i 0 ≤ 20000000 := by
  have h1 := h.keep
  have h2 := h.need i hi
  have h3 : 0 ≤ s.keep * ((k : Int) + 1) := Int.mul_nonneg h1.1 (by omega)
  have h4 : s.keep * ((k : Int) + 1) ≤ 1000 * 20 := Int.mul_le_mul h1.2 (by omega) (by omega) (by omega)
  have h5 : s.keep * ((k : Int) + 1) * s.need.getD i 0 ≤ 20000 * 1000 := Int.mul_le_mul (by omega) h2.2 h2.1 (by omega)
  exact ⟨⟨h3, by omega⟩, Int.mul_nonneg h3 h2.1, by omega⟩
theorem SupD.Ok.cost {s : SupD} (h : s.Ok) (a : Nat) : ∀ k, a + k < s.need.length → 0 ≤ s.cost a k ∧ s.cost a k ≤ 1000000 + 20000000 * k
  | 0, hk => by have := h.order a (by omega); unfold SupD.cost; omega
  | k + 1, hk => by
    have h1 := h.cost a k (by omega)
    have h2 := h.weeks
    have h3 := h.one (k := k) (i := a + 1 + k) (by omega) (by omega)
    unfold SupD.cost
    omega
set_option maxRecDepth 100000 in
set_option maxHeartbeats 4000000 in
theorem batch_any (s : SupD) (hs : s.Ok) (a e : Nat) (hae : a < e) (he : e ≤ s.need.length) (v : Value) (w : World) (h : RSup w.heap.size w v s) :
    Calls Try.prog 90 #[v, .int .i64 (a : Int), .int .i64 (e : Int)] w fun r w' => r = .returned (.tuple #[.int .i64 (s.cost a (e - a - 1)), .bool (decide (s.kept a (e - a - 1) ≤ s.room))]) ∧ Below w.heap.size w w' := by
  obtain ⟨vn, vo, rfl, hN, hO⟩ := h
  obtain ⟨An, cn, rfl, hnm, hN⟩ := hN.open_
  obtain ⟨Ao, co, rfl, hom, hO⟩ := hO.open_
  obtain ⟨n, hn⟩ : ∃ n, s.need.length = n := ⟨_, rfl⟩
  have hm : s.order.length = n := hs.same.trans hn
  have hn20 := hs.weeks
  rw [hn] at hnm hN hn20 he ⊢
  rw [hm] at hom hO ⊢
  have HN := Lib.hid hN
  have Hn := Lib.hid hn
  have HS := Lib.hid hs
  obtain ⟨kp, hkp⟩ : ∃ x, s.keep = x := ⟨_, rfl⟩
  obtain ⟨rm, hrm⟩ : ∃ x, s.room = x := ⟨_, rfl⟩
  rw [hkp, hrm]
  have Hkp := Lib.hid hkp
  have Hrm := Lib.hid hrm
  obtain ⟨go, oo, xo, rfl, hgo, co0, hxo⟩ := hO a (by omega)
  have hxob : 0 ≤ xo ∧ xo ≤ 1000000 := by have := hs.order a (by omega); rwa [hxo.out] at this
  have F0 : ∃ W0, w.alloc (.cells #[.slice An n cn, .slice (some ⟨go, oo, none⟩) n co, .int .i64 kp, .int .i64 rm] 33) = W0 ∧ Below w.heap.size w W0 ∧ Blk W0 w.heap.size 33 #[.slice An n cn, .slice (some ⟨go, oo, none⟩) n co, .int .i64 kp, .int .i64 rm] := ⟨_, rfl, below_alloc _ _, Blk.new _ _ _⟩
  obtain ⟨W0, e0, hb0, B0⟩ := F0
  have E0 := Lib.hid e0
  have HB0 := Lib.hid hb0
  have HK0 := Lib.hid B0
  rw [← hb0.cell (p := ⟨go, oo + a, none⟩) hgo] at co0
  have s0 := cellOf B0 0 (x := .slice An n cn) rfl
  have s1 := cellOf B0 1 (x := .slice (some ⟨go, oo, none⟩) n co) rfl
  have s2 := cellOf B0 2 (x := .int .i64 kp) rfl
  have s3 := cellOf B0 3 (x := .int .i64 rm) rfl
  obtain ⟨hxo1, hxo2⟩ := hxob
  clear hn hm hs hN hO hkp hrm e0 hb0 B0
  go_enter Try.func90, Try.ntmps90
  go_upto_region 1 with fail
  rw [E0.out]
  go_wp2_with fail
  clear co0
  go_loopw [8, 9, 10] (fun c k9 i wr => ∃ q : Nat, a < q ∧ q ≤ e ∧ i = .int .i64 (q : Int) ∧ ∃ C K : Int, c = .int .i64 C ∧ k9 = .int .i64 K ∧ Hid (C = s.cost a (q - a - 1)) ∧ Hid (K = s.kept a (q - a - 1)) ∧ Hid (Below W0.heap.size W0 wr)) (fun _ _ i _ => e - (intOf i).toNat)
  case atStart => exact ⟨a + 1, by omega, by omega, by go_num, xo, 0, rfl, rfl, by show _ = _; rw [show a + 1 - a - 1 = 0 by omega]; exact hxo.out.symm, by show _ = _; rw [show a + 1 - a - 1 = 0 by omega]; rfl, Below.refl _ _⟩
  case round =>
  obtain ⟨q, hq1, hq2, rfl, C, K, rfl, rfl, hC, hK, hB⟩ := hrel
  have M := HK0.out.below hB.out HK0.out.lt
  have z0 := cellOf M 0 (x := .slice An n cn) rfl
  have z2 := cellOf M 2 (x := .int .i64 kp) rfl
  have z3 := cellOf M 3 (x := .int .i64 rm) rfl
  clear M s0 s1 s2 s3
  by_cases hlt : q < e
  case neg =>
    obtain rfl : q = e := by omega
    have HFin : Hid (∀ X, Below wr.heap.size wr X → Below w.heap.size w X) := fun X hX => HB0.out.trans ((hB.out.trans (hX.mono hB.out.size)).mono HB0.out.size)
    go_upto_region 7 with fail
    go_region_held3 (fun X => X.cell? ⟨w.heap.size, 3, none⟩ = some (.int .i64 rm)) (go_keep) (fail)
    all_goals
      go_wp2_with fail
      go_ret2
      exact ⟨by rw [← hC.out, ← hK.out]; rfl, HFin.out _ (by first | exact (Below.refl _ _).drew | exact below_drewN (Below.refl _ _) _)⟩
  obtain ⟨gn, on, x, rfl, hgn, c0, hx⟩ := HN.out q (by omega)
  have hBw : Below w.heap.size w wr := HB0.out.trans (hB.out.mono HB0.out.size)
  rw [← hBw.cell (p := ⟨gn, on + q, none⟩) hgn] at c0
  have hxb : 0 ≤ x ∧ x ≤ 1000 := by have := HS.out.need q (by have := Hn.out; omega); rwa [hx.out] at this
  obtain ⟨k, hk⟩ : ∃ k, q - a - 1 = k := ⟨_, rfl⟩
  have hKb := HS.out.kept a k (by have := Hn.out; omega)
  have hCb := HS.out.cost a k (by have := Hn.out; omega)
  have h1 := HS.out.one (k := k) (i := q) (by omega) (by have := Hn.out; omega)
  rw [hk] at hC hK
  rw [← hK.out] at hKb
  rw [← hC.out] at hCb
  rw [Hkp.out, hx.out] at h1
  obtain ⟨y1, hy1⟩ : ∃ y, kp * ((k : Int) + 1) = y := ⟨_, rfl⟩
  rw [hy1] at h1
  obtain ⟨y2, hy2⟩ : ∃ y, y1 * x = y := ⟨_, rfl⟩
  rw [hy2] at h1
  have hCn : Hid (C + y2 = s.cost a (q + 1 - a - 1)) := by
    show _ = _
    rw [show q + 1 - a - 1 = k + 1 by omega]
    unfold SupD.cost
    rw [← hC.out, show a + 1 + k = q by omega, hx.out, Hkp.out, hy1, hy2]
  have hKn : Hid (K + x = s.kept a (q + 1 - a - 1)) := by
    show _ = _
    rw [show q + 1 - a - 1 = k + 1 by omega]
    unfold SupD.kept
    rw [← hK.out, show a + 1 + k = q by omega, hx.out]
  have kw1 : kp * ((q : Int) - (a : Int)) = y1 := by rw [← hy1, show (q : Int) - (a : Int) = (k : Int) + 1 by omega]
  have kw0 : IntKind.i64.wrap ((q : Int) - (a : Int)) = (q : Int) - (a : Int) := IntWalk.i64_in _ ⟨by omega, by omega⟩
  have kw2 : IntKind.i64.wrap y1 = y1 := IntWalk.i64_in _ ⟨by omega, by omega⟩
  have kw3 : IntKind.i64.wrap y2 = y2 := IntWalk.i64_in _ ⟨by omega, by omega⟩
  have kw4 : IntKind.i64.wrap (C + y2) = C + y2 := IntWalk.i64_in _ ⟨by omega, by omega⟩
  obtain ⟨hKb1, hKb2⟩ := hKb
  obtain ⟨hCb1, hCb2⟩ := hCb
  obtain ⟨⟨h1, h2⟩, h3, h4⟩ := h1
  have HFin : Hid (∀ X, Below wr.heap.size wr X → Below W0.heap.size W0 X) := fun X hX => hB.out.trans (hX.mono hB.out.size)
  clear hBw hC hK hy1
  have iq1 : (q : Int) < (n : Int) := by omega
  have iq0 : (0 : Int) ≤ (q : Int) := by omega
  go_upto_region 6 with fail
  go_region_held3 (fun X => X.cell? ⟨w.heap.size, 2, none⟩ = some (.int .i64 kp) ∧ X.cell? ⟨w.heap.size, 0, none⟩ = some (.slice (some ⟨gn, on, none⟩) n cn) ∧ X.cell? ⟨gn, on + q, none⟩ = some (.int .i64 x)) (go_keep) (fail)
  all_goals
    have HBn := Lib.hid (HFin.out _ (Below.refl _ _).drew)
    clear c0 z0 z2 z3 kw0 kw1 kw2 kw3 kw4
    go_wp2_with fail
    go_roundw
    case rel => exact ⟨q + 1, by omega, by omega, by go_num, _, _, rfl, rfl, hCn, hKn, by first | exact HBn | exact Lib.hid (HFin.out _ (below_drewN (Below.refl _ _) _))⟩
    case measure => simp [intOf]; omega
end Go.Proofs.Ytpkepacbondopaa
