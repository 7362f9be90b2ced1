/-
  checkMethods where all is right; the least of rated methods.
-/
import Derived.Test.YtlmpbmlbllndcaaMbf
import Derived.Test.YtlmpbmlbllndcaaMaz
namespace Go.Proofs.Ytlmpbmlbllndcaa
open Go.RowKit
attribute [local go_sem] Oper.semAt_some

def MethD.cells (m : MethD) : List Value := [.int .i64 m.kind, .int .i64 m.days]
def RMeths (B : Nat) (w : World) (v : Value) (l : List MethD) : Prop := Rd B w 2 v l.length (l.flatMap MethD.cells)
theorem meths_later {w : World} {v : Value} {l : List MethD} (h : RMeths w.heap.size w v l) : ∃ A c, v = .slice A l.length c ∧ l.length ≤ 9223372036854775807 ∧ Hid (∀ k x, l[k]? = some x → ∃ g o, A = some ⟨g, o, none⟩ ∧ Hid (∀ X, Below w.heap.size w X → X.cell? ⟨g, o + k * 2, none⟩ = some (.int .i64 x.kind) ∧ X.cell? ⟨g, o + k * 2 + 1, none⟩ = some (.int .i64 x.days))) := by
  obtain ⟨A, c, rfl, -, hm, hr⟩ := h
  refine ⟨A, c, rfl, by simpa [maxLen] using hm, fun k x hx => ?_⟩
  have hk : k < l.length := (List.getElem?_eq_some_iff.1 hx).1
  obtain ⟨g, o, hA, hb, hc⟩ := hr (by omega)
  have hf := fun j hj => flat_at MethD.cells 2 (fun _ => rfl) _ k j _ hx hj
  exact ⟨g, o, hA, fun X hX => ⟨(hX.cell (p := ⟨g, o + k * 2, none⟩) hb).trans (hc _ _ (hf 0 (by omega))), (hX.cell (p := ⟨g, o + k * 2 + 1, none⟩) hb).trans (hc _ _ (hf 1 (by omega)))⟩⟩
set_option maxRecDepth 100000 in
set_option maxHeartbeats 4000000 in
theorem checkMeths_ok (l : List MethD) (hl : l.length ≤ 40) (hm : ∀ m ∈ l, m.okB = true) (h : List DayD) (hh : checkH h = 0) (ca cb : Int) (hc : costB ca cb = true) (v vh : Value) (w : World) (hv : RMeths w.heap.size w v l) (hvh : RDays w.heap.size w vh h) :
    Calls Try.prog 76 #[v, vh, .agg #[.int .i64 ca, .int .i64 cb]] w fun e w' => e = .returned (.int .i64 0) ∧ Below w.heap.size w w' := by
  have HV := Lib.hid hv
  have HMO := Lib.hid hm
  have HVH := Lib.hid hvh
  obtain ⟨A, c, rfl, hlm, HD⟩ := meths_later hv
  obtain ⟨n, hn⟩ : ∃ n, l.length = n := ⟨_, rfl⟩
  have HN := Lib.hid hn
  rw [hn] at hl hlm HV ⊢
  have F0 : ∃ W0, w.alloc (.cells #[.int .i64 ca, .int .i64 cb] 148) = W0 ∧ Hid (Below w.heap.size w W0) ∧ Hid (Blk W0 w.heap.size 148 #[.int .i64 ca, .int .i64 cb]) := ⟨_, rfl, below_alloc _ _, Blk.new _ _ _⟩
  obtain ⟨W0, e0, HB0, HK0⟩ := F0
  have E0 := Lib.hid e0
  have C1 := Lib.hid (Check_any h vh W0 ((Rd.below hvh HB0.out).more HB0.out.size))
  rw [hh] at C1
  have C2 := Lib.hid (fun w => areRight_any ca cb w)
  rw [hc] at C2
  obtain ⟨p, hp⟩ : ∃ p, w.heap.size = p := ⟨_, rfl⟩
  rw [hp] at HK0
  have HP := Lib.hid hp
  have h40 : ¬ (40 : Int) < (n : Int) := by omega
  have h00 : ((0 : Int) != 0) = false := rfl
  clear hv hvh hm hn hh hc e0 hp
  go_enter Try.func76, Try.ntmps76
  go_upto_region 1 with fail
  rw [E0.out, HP.out]
  clear E0
  go_wp2_with fail
  refine C1.out.mono ?_
  rintro _ W1 ⟨rfl, hb1⟩
  have HB1 := Lib.hid hb1
  clear C1 hb1
  go_wp2_with fail
  go_loopw [20] (fun i wr => ∃ k : Nat, k ≤ n ∧ i = .int .i64 k ∧ Hid (Below W0.heap.size W0 wr)) (fun i _ => n - (intOf i).toNat)
  case atStart => exact ⟨0, Nat.zero_le _, rfl, HB1.out⟩
  case round =>
  clear HB1
  obtain ⟨k, hk, rfl, hB⟩ := hrel
  obtain ⟨X, rfl⟩ : ∃ X : World, X = wr := ⟨_, rfl⟩
  by_cases hlt : k < n
  · obtain ⟨m, hmk⟩ : ∃ x, l[k]? = some x := ⟨_, List.getElem?_eq_getElem (by rw [HN.out]; exact hlt)⟩
    obtain ⟨g, o, rfl, HX⟩ := HD.out k m hmk
    obtain ⟨c0, c1⟩ := HX.out X (HB0.out.trans (hB.out.mono HB0.out.size))
    have F1 : ∃ X1, X.alloc (.cells #[.int .i64 m.kind, .int .i64 m.days] 56) = X1 ∧ Hid (Below X.heap.size X X1) ∧ Hid (Blk X1 X.heap.size 56 #[.int .i64 m.kind, .int .i64 m.days]) := ⟨_, rfl, below_alloc _ _, Blk.new _ _ _⟩
    obtain ⟨X1, e1, HX1, HK1⟩ := F1
    have E1 := Lib.hid e1
    have HBX1 : Hid (Below W0.heap.size W0 X1) := hB.out.trans (HX1.out.mono hB.out.size)
    have CM := Lib.hid (methRight_any m X1)
    rw [HMO.out m (List.mem_of_getElem? hmk)] at CM
    have d0 := cellOf HK1.out 0 (x := .int .i64 m.kind) rfl
    have d1 := cellOf HK1.out 1 (x := .int .i64 m.days) rfl
    have k0 : (0 : Int) ≤ (k : Int) := by omega
    have k1 : (k : Int) < (n : Int) := by omega
    clear hmk HX e1 hB HX1 HK1 h40 h00
    go_upto_region 9 with fail
    rw [E1.out]
    clear E1 c0 c1
    go_wp2_with fail
    refine CM.out.mono ?_
    rintro _ X2 ⟨rfl, hb2⟩
    have HB2 : Hid (Below W0.heap.size W0 X2) := HBX1.out.trans (hb2.mono HBX1.out.size)
    clear CM hb2 d0 d1
    go_wp2_with fail
    go_roundw
    case rel => exact ⟨k + 1, by omega, by go_num, HB2⟩
    case measure => simp [intOf]; omega
  · have HK2 := Lib.hid (HK0.out.below hB.out HK0.out.lt)
    have d0 := cellOf HK2.out 0 (x := .int .i64 ca) rfl
    have d1 := cellOf HK2.out 1 (x := .int .i64 cb) rfl
    have HBX : Hid (Below w.heap.size w X) := HB0.out.trans (hB.out.mono HB0.out.size)
    clear hB
    go_wp2_with fail
    refine (C2.out _).mono ?_
    rintro _ X2 ⟨rfl, hb2⟩
    have HB2 : Hid (Below w.heap.size w X2) := HBX.out.trans (hb2.mono HBX.out.size)
    clear C2 hb2 d0 d1
    go_wp2_with fail
    go_ret
    exact ⟨rfl, HB2.out⟩
/-- A method of a list with its score. -/
structure RatD where
  m : Int
  days : Int
  n : Int
  d : Int
def RatD.ok (x : RatD) : Prop := (0 ≤ x.n ∧ x.n ≤ 4000000000) ∧ (1 ≤ x.d ∧ x.d ≤ 400)
def ratCells (x : RatD) : List Value := [.int .i64 x.m, .int .i64 x.days, .int .i64 x.n, .int .i64 x.d]
def RRats (B : Nat) (w : World) (v : Value) (l : List RatD) : Prop := Rd B w 4 v l.length (l.flatMap ratCells)
theorem rats_later {w : World} {v : Value} {l : List RatD} (h : RRats w.heap.size w v l) : ∃ A c, v = .slice A l.length c ∧ l.length ≤ 9223372036854775807 ∧ Hid (∀ k x, l[k]? = some x → ∃ g o, A = some ⟨g, o, none⟩ ∧ Hid (∀ X, Below w.heap.size w X → X.cell? ⟨g, o + k * 4, none⟩ = some (.int .i64 x.m) ∧ X.cell? ⟨g, o + k * 4 + 1, none⟩ = some (.int .i64 x.days) ∧ X.cell? ⟨g, o + k * 4 + 2, none⟩ = some (.int .i64 x.n) ∧ X.cell? ⟨g, o + k * 4 + 3, none⟩ = some (.int .i64 x.d))) := by
  obtain ⟨A, c, rfl, -, hm, hr⟩ := h
  refine ⟨A, c, rfl, by simpa [maxLen] using hm, fun k x hx => ?_⟩
  have hk : k < l.length := (List.getElem?_eq_some_iff.1 hx).1
  obtain ⟨g, o, hA, hb, hc⟩ := hr (by omega)
  have hf := fun j hj => flat_at ratCells 4 (fun _ => rfl) _ k j _ hx hj
  exact ⟨g, o, hA, fun X hX => ⟨(hX.cell (p := ⟨g, o + k * 4, none⟩) hb).trans (hc _ _ (hf 0 (by omega))), (hX.cell (p := ⟨g, o + k * 4 + 1, none⟩) hb).trans (hc _ _ (hf 1 (by omega))), (hX.cell (p := ⟨g, o + k * 4 + 2, none⟩) hb).trans (hc _ _ (hf 2 (by omega))), (hX.cell (p := ⟨g, o + k * 4 + 3, none⟩) hb).trans (hc _ _ (hf 3 (by omega)))⟩⟩
def ltR (x y : RatD) : Bool := decide (cmpI (x.n * y.d) (y.n * x.d) < 0)
def zeroR : RatD := ⟨0, 0, 0, 0⟩
def lstR (l : List RatD) (k : Nat) : RatD := (leastTo ltR none (l.take k)).getD zeroR
theorem lstR_zero (l : List RatD) : lstR l 0 = zeroR := by simp [lstR, leastTo]
theorem lstR_first {l : List RatD} {x : RatD} (h : l[0]? = some x) : lstR l 1 = x := by
  unfold lstR
  rw [show (1 : Nat) = 0 + 1 from rfl, List.take_add_one, h]
  rfl
theorem lstR_next {l : List RatD} {k : Nat} {x : RatD} (h : l[k]? = some x) (hk : 0 < k) : lstR l (k + 1) = if ltR x (lstR l k) then x else lstR l k := by
  unfold lstR
  rw [List.take_add_one, h, Option.toList_some, leastTo_snoc]
  cases e : leastTo ltR none (l.take k) with
  | none =>
    have := leastTo_none e
    have h1 : k < l.length := (List.getElem?_eq_some_iff.1 h).1
    have h2 : (l.take k).length = k := by rw [List.length_take]; omega
    rw [this] at h2
    simp at h2
    omega
  | some y => rfl
theorem lstR_ok {l : List RatD} (hl : ∀ x ∈ l, x.ok) {k : Nat} (hk : 0 < k) (hkl : k ≤ l.length) : (lstR l k).ok := by
  unfold lstR
  cases e : leastTo ltR none (l.take k) with
  | none =>
    have := leastTo_none e
    have h2 : (l.take k).length = k := by rw [List.length_take]; omega
    rw [this] at h2
    simp at h2
    omega
  | some y => exact hl y (List.mem_of_mem_take (leastTo_mem e))
set_option maxHeartbeats 2000000 in
theorem rated_any (x y : RatD) (hx : x.ok) (hy : y.ok) (w : World) : Calls Try.prog 79 #[.agg #[.int .i64 x.m, .int .i64 x.days, .int .i64 x.n, .int .i64 x.d], .agg #[.int .i64 y.m, .int .i64 y.days, .int .i64 y.n, .int .i64 y.d]] w fun e w' => e = .returned (.int .i64 (cmpI (x.n * y.d) (y.n * x.d))) ∧ Below w.heap.size w w' := by
  obtain ⟨⟨x0, x1⟩, x2, x3⟩ := hx
  obtain ⟨⟨y0, y1⟩, y2, y3⟩ := hy
  have m1 : 0 ≤ x.n * y.d ∧ x.n * y.d ≤ 10000000000000 := ⟨Int.mul_nonneg x0 (by omega), Int.le_trans (Int.mul_le_mul x1 y3 (by omega) (by omega)) (by omega)⟩
  have m2 : 0 ≤ y.n * x.d ∧ y.n * x.d ≤ 10000000000000 := ⟨Int.mul_nonneg y0 (by omega), Int.le_trans (Int.mul_le_mul y1 x3 (by omega) (by omega)) (by omega)⟩
  have C := Lib.hid (fun w => parts_big x.n x.d y.n y.d m1 m2 w)
  obtain ⟨cc, hcc⟩ : ∃ c, cmpI (x.n * y.d) (y.n * x.d) = c := ⟨_, rfl⟩
  rw [hcc] at C ⊢
  have F0 : ∃ W0, (w.alloc (.cells #[.int .i64 x.m, .int .i64 x.days, .int .i64 x.n, .int .i64 x.d] 159)).alloc (.cells #[.int .i64 y.m, .int .i64 y.days, .int .i64 y.n, .int .i64 y.d] 159) = W0 ∧ Hid (Below w.heap.size w W0) ∧ Hid (Blk W0 w.heap.size 159 #[.int .i64 x.m, .int .i64 x.days, .int .i64 x.n, .int .i64 x.d] ∧ Blk W0 (w.heap.size + 1) 159 #[.int .i64 y.m, .int .i64 y.days, .int .i64 y.n, .int .i64 y.d]) :=
    ⟨_, rfl, sbelow_al (below_alloc _ _) _, (Blk.new _ _ _).alloc _, blk_new (by simp) _ _⟩
  obtain ⟨W0, e0, HB0, HK0⟩ := F0
  have E0 := Lib.hid e0
  have a0 := cellOf HK0.out.1 2 (x := .int .i64 x.n) rfl
  have a1 := cellOf HK0.out.1 3 (x := .int .i64 x.d) rfl
  have b0 := cellOf HK0.out.2 2 (x := .int .i64 y.n) rfl
  have b1 := cellOf HK0.out.2 3 (x := .int .i64 y.d) rfl
  clear hcc e0 m1 m2
  go_enter Try.func79, Try.ntmps79
  go_upto_region 1 with fail
  rw [E0.out]
  clear E0
  go_wp2_with fail
  refine (C.out _).mono ?_
  rintro _ W1 ⟨rfl, rfl⟩
  go_wp2_with fail
  go_ret
  exact ⟨rfl, HB0.out⟩
/-- What lies there while the least is looked for. -/
structure LrSt (w : World) (b : RatD) (X : World) : Prop where
  low : Below w.heap.size w X
  res : Blk X w.heap.size 159 #[.int .i64 0, .int .i64 0, .int .i64 0, .int .i64 0]
  best : Blk X (w.heap.size + 1) 159 #[.int .i64 b.m, .int .i64 b.days, .int .i64 b.n, .int .i64 b.d]
theorem LrSt.below {w X Y : World} {b : RatD} (h : LrSt w b X) (hb : Below X.heap.size X Y) : LrSt w b Y := ⟨h.low.trans (hb.mono h.low.size), h.res.below hb h.res.lt, h.best.below hb h.best.lt⟩
def put4 (X : World) (p : Nat) (x0 x1 x2 x3 : Value) : World := (((X.setCell ⟨p, 0, none⟩ x0).setCell ⟨p, 1, none⟩ x1).setCell ⟨p, 2, none⟩ x2).setCell ⟨p, 3, none⟩ x3
theorem put4_kept (X : World) (p : Nat) (x0 x1 x2 x3 : Value) : KeptBut (fun g => g = p) X (put4 X p x0 x1 x2 x3) :=
  (((KeptBut.setCell (S := fun g => g = p) rfl _).trans (KeptBut.setCell (S := fun g => g = p) rfl _) fun _ _ h => h).trans (KeptBut.setCell (S := fun g => g = p) rfl _) fun _ _ h => h).trans (KeptBut.setCell (S := fun g => g = p) rfl _) fun _ _ h => h
theorem put4_blk {X : World} {p : Nat} {t : TypeId} {z0 z1 z2 z3 : Value} (h : Blk X p t #[z0, z1, z2, z3]) (x0 x1 x2 x3 : Value) : Blk (put4 X p x0 x1 x2 x3) p t #[x0, x1, x2, x3] := (((h.put 0 x0).put 1 x1).put 2 x2).put 3 x3
theorem LrSt.put {w X : World} {b : RatD} (h : LrSt w b X) (c : RatD) : LrSt w c (put4 X (w.heap.size + 1) (.int .i64 c.m) (.int .i64 c.days) (.int .i64 c.n) (.int .i64 c.d)) := by
  have hK := put4_kept X (w.heap.size + 1) (.int .i64 c.m) (.int .i64 c.days) (.int .i64 c.n) (.int .i64 c.d)
  exact ⟨h.low.trans (hK.below (fun g hg => by omega) h.low.size), hK.blk h.res (by omega), put4_blk h.best _ _ _ _⟩
end Go.Proofs.Ytlmpbmlbllndcaa
