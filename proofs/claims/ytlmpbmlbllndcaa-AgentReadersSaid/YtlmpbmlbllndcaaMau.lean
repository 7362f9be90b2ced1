/-
  Says.
  Subscriber.copies.
  Copies.
-/
import Derived.Test.YtlmpbmlbllndcaaMat
import Derived.Test.YtlmpbmlbllndcaaMan
namespace Go.Proofs.Ytlmpbmlbllndcaa
open Go.RowKit
attribute [local go_sem] Oper.semAt_some

/-- What Says answers: the error; whether something, and what. -/
def saysE (m : MethD) (l : List DayD) (day : Int) : Int := if checkH l = 0 then (if m.okB then (if inB day 0 l.length then 0 else 6) else 1) else checkH l
def saysB (m : MethD) (l : List DayD) (day : Int) : Bool := decide (saysE m l day = 0) && m.says day
def saysV (m : MethD) (l : List DayD) (day : Int) : Int := if saysB m l day then m.said l day else 0
theorem saysE_ok {m : MethD} {l : List DayD} {day : Int} (h : saysE m l day = 0) : checkH l = 0 ∧ m.okB = true ∧ (0 ≤ day ∧ day ≤ l.length) := by
  unfold saysE at h
  by_cases h1 : checkH l = 0
  · rw [if_pos h1] at h
    by_cases h2 : m.okB = true
    · rw [if_pos h2] at h
      by_cases h3 : inB day 0 l.length = true
      · exact ⟨h1, h2, inB_iff.1 h3⟩
      · rw [if_neg h3] at h; omega
    · rw [if_neg h2] at h; omega
  · rw [if_neg h1] at h; exact absurd h h1
theorem ret_ibi {a c d f : Int} {b e : Bool} (h1 : a = d) (h2 : b = e) (h3 : c = f) : Ending.returned (.tuple #[.int .i64 a, .bool b, .int .i64 c]) = .returned (.tuple #[.int .i64 d, .bool e, .int .i64 f]) := by rw [h1, h2, h3]
set_option maxRecDepth 100000 in
set_option maxHeartbeats 2000000 in
theorem Says_any (m : MethD) (l : List DayD) (day : Int) (v : Value) (w : World) (h : RDays w.heap.size w v l) :
    Calls Try.prog 27 #[.agg #[.int .i64 m.kind, .int .i64 m.days], v, .int .i64 day] w fun e w' => e = .returned (.tuple #[.int .i64 (saysV m l day), .bool (saysB m l day), .int .i64 (saysE m l day)]) ∧ Below w.heap.size w w' := by
  obtain ⟨A, c, rfl, hlm, -⟩ := days_later h
  have HR := Lib.hid h
  obtain ⟨n, hn⟩ : ∃ n, l.length = n := ⟨_, rfl⟩
  rw [hn] at hlm HR
  rw [hn]
  have F0 : ∃ W0, w.alloc (.cells #[.int .i64 m.kind, .int .i64 m.days] 56) = W0 ∧ Hid (Below w.heap.size w W0) ∧ Hid (Blk W0 w.heap.size 56 #[.int .i64 m.kind, .int .i64 m.days]) := ⟨_, rfl, below_alloc _ _, Blk.new _ _ _⟩
  obtain ⟨W0, e0, HB0, HK0⟩ := F0
  have E0 := Lib.hid e0
  obtain ⟨p, hp⟩ : ∃ p, w.heap.size = p := ⟨_, rfl⟩
  have HP := Lib.hid hp
  have CC := Lib.hid (Check_any l (.slice A n c) W0 ((Rd.below HR.out HB0.out).more HB0.out.size))
  obtain ⟨ce, hce⟩ : ∃ e, checkH l = e := ⟨_, rfl⟩
  rw [hce] at CC
  have HCE := Lib.hid hce
  obtain ⟨te, hte⟩ : ∃ e, saysE m l day = e := ⟨_, rfl⟩
  obtain ⟨tb, htb⟩ : ∃ e, saysB m l day = e := ⟨_, rfl⟩
  obtain ⟨tv, htv⟩ : ∃ e, saysV m l day = e := ⟨_, rfl⟩
  have HE : Hid (te = if ce = 0 then (if m.okB then (if inB day 0 n then 0 else 6) else 1) else ce) := by show _ = _; rw [← hte, ← hce, ← hn]; rfl
  have HB : Hid (tb = (decide (te = 0) && m.says day)) := by show _ = _; rw [← htb, ← hte]; rfl
  have HV : Hid (tv = if tb then m.said l day else 0) := by show _ = _; rw [← htv, ← htb]; rfl
  rw [hte, htb, htv]
  have HTE := Lib.hid hte
  have HN := Lib.hid hn
  clear h e0 hp hce hte htb htv hn
  have z0 : Hid (∀ X, Below W0.heap.size W0 X → X.cell? ⟨p, 0, none⟩ = some (.int .i64 m.kind) ∧ X.cell? ⟨p, 1, none⟩ = some (.int .i64 m.days)) := fun X hX => by
    have h1 := HK0.out.below hX HK0.out.lt
    rw [HP.out] at h1
    exact ⟨cellOf h1 0 rfl, cellOf h1 1 rfl⟩
  have HNO : Hid (te ≠ 0 → (0 : Int) = tv ∧ false = tb) := fun h0 => by
    have h1 : false = tb := by rw [HB.out, decide_eq_false h0]; rfl
    exact ⟨by rw [HV.out, ← h1]; rfl, h1⟩
  go_enter Try.func27, Try.ntmps27
  go_upto_region 1 with fail
  rw [E0.out]
  clear E0
  rw [HP.out]
  go_wp2_with fail
  refine CC.out.mono ?_
  rintro _ W1 ⟨rfl, hb1⟩
  have HB1 := Lib.hid hb1
  have HBW1 : Hid (Below w.heap.size w W1) := HB0.out.trans (hb1.mono HB0.out.size)
  clear CC hb1
  by_cases hc : ce = 0
  case neg =>
    have hcb : (ce != 0) = true := by simpa using hc
    have HX1 : Hid (ce = te) := by show _ = _; rw [HE.out, if_neg hc]
    have HX2 := Lib.hid (HNO.out (by rw [← HX1.out]; exact hc))
    clear hc
    go_wp2_with fail
    go_ret3
    exact ⟨ret_ibi HX2.out.1 HX2.out.2 HX1.out, HBW1.out⟩
  have hcb : (ce != 0) = false := by simpa using hc
  have HE1 : Hid (te = (if m.okB then (if inB day 0 n then 0 else 6) else 1)) := by show _ = _; rw [HE.out, if_pos hc]
  have HOK := Lib.hid (checkH_ok (HCE.out.trans hc))
  have CM := Lib.hid (methRight_any m W1)
  obtain ⟨mb, hmb⟩ : ∃ b, m.okB = b := ⟨_, rfl⟩
  rw [hmb] at CM
  have HMB := Lib.hid hmb
  obtain ⟨g0, g1⟩ := z0.out W1 HB1.out
  clear hc hmb HE HCE
  go_wp2_with fail
  refine CM.out.mono ?_
  rintro _ W2 ⟨rfl, hb2⟩
  have HB2 : Hid (Below W0.heap.size W0 W2) := HB1.out.trans (hb2.mono HB1.out.size)
  have HBW2 : Hid (Below w.heap.size w W2) := HB0.out.trans (HB2.out.mono HB0.out.size)
  clear CM hb2 g0 g1 hcb
  cases mb
  · have HX1 : Hid ((1 : Int) = te) := by show _ = _; rw [HE1.out, HMB.out]; rfl
    have HX2 := Lib.hid (HNO.out (by rw [← HX1.out]; decide))
    go_wp2_with fail
    go_ret3
    exact ⟨ret_ibi HX2.out.1 HX2.out.2 HX1.out, HBW2.out⟩
  have HE2 : Hid (te = (if inB day 0 n then 0 else 6)) := by show _ = _; rw [HE1.out, HMB.out]; rfl
  have CI := Lib.hid (within_any day 0 n W2)
  obtain ⟨ib, hib⟩ : ∃ b, inB day 0 n = b := ⟨_, rfl⟩
  rw [hib] at CI
  have HIB := Lib.hid hib
  clear hib HE1
  go_wp2_with fail
  refine CI.out.mono ?_
  rintro _ _ ⟨rfl, rfl⟩
  clear CI
  cases ib
  · have HX1 : Hid ((6 : Int) = te) := by show _ = _; rw [HE2.out, HIB.out]; rfl
    have HX2 := Lib.hid (HNO.out (by rw [← HX1.out]; decide))
    go_wp2_with fail
    go_ret3
    exact ⟨ret_ibi HX2.out.1 HX2.out.2 HX1.out, HBW2.out⟩
  have HX1 : Hid ((0 : Int) = te) := by show _ = _; rw [HE2.out, HIB.out]; rfl
  have hdy := inB_iff.1 HIB.out
  have CS := Lib.hid (says_any m HMB.out l HOK.out.1 HOK.out.2 day (by rw [HN.out]; exact hdy) _ W2 ((Rd.below HR.out HBW2.out).more HBW2.out.size))
  have HX2 : Hid (m.says day = tb) := by show _ = _; rw [HB.out, ← HX1.out]; simp
  rw [HX2.out, ← HV.out] at CS
  obtain ⟨g0, g1⟩ := z0.out W2 HB2.out
  clear hdy
  go_wp2_with fail
  refine CS.out.mono ?_
  rintro _ W3 ⟨rfl, hb3⟩
  have HBW3 : Hid (Below w.heap.size w W3) := HBW2.out.trans (hb3.mono HBW2.out.size)
  clear CS hb3 g0 g1
  go_wp2_with fail
  go_ret3
  exact ⟨ret_ibi rfl rfl HX1.out, HBW3.out⟩
end Go.Proofs.Ytlmpbmlbllndcaa

namespace Go.Proofs.Ytlmpbmlbllndcaa
open Go.RowKit
attribute [local go_sem] Oper.semAt_some

set_option maxRecDepth 100000 in
set_option maxHeartbeats 4000000 in
theorem subCopies_any (s : SubD) (hs : s.Ok) (a b : Int) (ha : 0 ≤ a ∧ a ≤ 20000) (hb : 0 ≤ b ∧ b ≤ 20000) (v : Value) (w : World) (h : RSub w.heap.size w v s) :
    Calls Try.prog 90 #[v, .int .i64 a, .int .i64 b] w fun e w' => e = .returned (.int .i64 (s.copies a b)) ∧ Below w.heap.size w w' := by
  obtain ⟨u, rfl, hsp⟩ := h
  obtain ⟨A, c, rfl, hlm, HD⟩ := spans_later hsp
  obtain ⟨n, hn⟩ : ∃ n, s.hol.length = n := ⟨_, rfl⟩
  have HCB : Hid (∀ k, k ≤ 20 → -30000 * (k + 1) ≤ copF s a b k ∧ copF s a b k ≤ 30000 * (k + 1)) := fun k hk => copF_bd s ha.1 hb.2 k hk
  have hn20 : n ≤ 20 := by rw [← hn]; exact hs.hol.1
  have hfr := hs.from_
  have hdy := hs.days
  have HHB : Hid (∀ (k : Nat) (x : SpanD), s.hol[k]? = some x → 0 ≤ x.lo ∧ x.hi ≤ 20000) := fun k x hx => by
    have h1 := hs.hol.2.later x (List.mem_of_getElem? hx)
    have h2 : ∀ {l : List SpanD} {f : Int}, HolOk f l → ∀ y ∈ l, y.hi ≤ 20000 := by
      intro l
      induction l with
      | nil => intro f _ y hy; cases hy
      | cons z l ih =>
        intro f hl y hy
        rcases List.mem_cons.1 hy with rfl | hy
        · exact hl.2.2.1
        · exact ih hl.2.2.2 y hy
    exact ⟨h1, h2 hs.hol.2 x (List.mem_of_getElem? hx)⟩
  have HCS : Hid (∀ k x, s.hol[k]? = some x → copF s a b (k + 1) = copF s a b k - wkF s.days (max (max a s.from_) x.lo) (min (min b s.to_) x.hi)) := fun k x hx => by
    show copF s a b k - wkF _ _ _ = _
    rw [hx]
    rfl
  have HC0 : Hid (copF s a b 0 = wkF s.days (max a s.from_) (min b s.to_)) := rfl
  have HCN : Hid (s.copies a b = copF s a b n) := by show _ = _; rw [← hn]; rfl
  rw [hn] at hlm hsp ⊢
  rw [HCN.out]
  have HN := Lib.hid hn
  obtain ⟨id, hid⟩ : ∃ x, s.id = x := ⟨_, rfl⟩
  obtain ⟨fr, hfr'⟩ : ∃ x, s.from_ = x := ⟨_, rfl⟩
  obtain ⟨to_, hto⟩ : ∃ x, s.to_ = x := ⟨_, rfl⟩
  obtain ⟨dy, hdy'⟩ : ∃ x, s.days = x := ⟨_, rfl⟩
  rw [hfr', hto] at hfr HC0 HCS
  rw [hdy'] at hdy HC0 HCS
  rw [hid, hfr', hto, hdy']
  obtain ⟨F, hF⟩ : ∃ F, max a fr = F := ⟨_, rfl⟩
  obtain ⟨T, hT⟩ : ∃ T, min b to_ = T := ⟨_, rfl⟩
  rw [hF, hT] at HC0 HCS
  have hF1 : 0 ≤ F := by omega
  have hF2 : F ≤ 20000 := by omega
  have hT1 : 0 ≤ T := by omega
  have hT2 : T ≤ 20000 := by omega
  have HF := Lib.hid hF
  have HT := Lib.hid hT
  obtain ⟨a1, a2⟩ := ha
  obtain ⟨b1, b2⟩ := hb
  obtain ⟨f1, f2, f3⟩ := hfr
  obtain ⟨d1, d2⟩ := hdy
  have F0 : ∃ W0, w.alloc (.cells #[.int .i64 id, .int .i64 fr, .int .i64 to_, .int .i64 dy, .slice A n c] 42) = W0 ∧ Hid (Below w.heap.size w W0) ∧ Hid (Blk W0 w.heap.size 42 #[.int .i64 id, .int .i64 fr, .int .i64 to_, .int .i64 dy, .slice A n c]) := ⟨_, rfl, below_alloc _ _, Blk.new _ _ _⟩
  obtain ⟨W0, e0, HB0, HK0⟩ := F0
  have E0 := Lib.hid e0
  obtain ⟨p, hp⟩ : ∃ p, w.heap.size = p := ⟨_, rfl⟩
  have HP := Lib.hid hp
  have S0 : Hid (∀ X, Below W0.heap.size W0 X → X.cell? ⟨p, 0, none⟩ = some (.int .i64 id) ∧ X.cell? ⟨p, 1, none⟩ = some (.int .i64 fr) ∧ X.cell? ⟨p, 2, none⟩ = some (.int .i64 to_) ∧ X.cell? ⟨p, 3, none⟩ = some (.int .i64 dy) ∧ X.cell? ⟨p, 4, none⟩ = some (.slice A n c)) := fun X hX => by
    have h := HK0.out.below hX HK0.out.lt
    rw [HP.out] at h
    exact ⟨cellOf h 0 rfl, cellOf h 1 rfl, cellOf h 2 rfl, cellOf h 3 rfl, cellOf h 4 rfl⟩
  clear hn hsp hs hid hfr' hto hdy' hF hT e0 hp HCN
  go_enter Try.func90, Try.ntmps90
  go_upto_region 1 with fail
  rw [E0.out]
  clear E0
  rw [HP.out]
  have S1 := S0.out W0 (Below.refl _ _)
  go_cut [1, 2] from 10 to 17 (fun q1 q2 wx => q1 = .int .i64 F ∧ q2 = .int .i64 T ∧ Hid (Below W0.heap.size W0 wx))
  case first =>
    have hD : Hid (Below W0.heap.size W0 W0.drew) := (Below.refl _ _).drew
    go_region_held3 (fun X => X.cell? ⟨p, 0, none⟩ = some (.int .i64 id) ∧ X.cell? ⟨p, 1, none⟩ = some (.int .i64 fr) ∧ X.cell? ⟨p, 2, none⟩ = some (.int .i64 to_) ∧ X.cell? ⟨p, 3, none⟩ = some (.int .i64 dy) ∧ X.cell? ⟨p, 4, none⟩ = some (.slice A n c)) (first | with_reducible exact S1 | go_keep) (fail)
    all_goals
      clear S1
      go_wp2_with fail
      all_goals
        go_meet
        have eF := HF.out
        have eT := HT.out
        exact ⟨congrArg _ (by omega), congrArg _ (by omega), hD⟩
  case rest =>
  clear S1 HF HT
  obtain ⟨rfl, rfl, HB1⟩ := hcut
  obtain ⟨W1, rfl⟩ : ∃ X : World, X = wc := ⟨_, rfl⟩
  obtain ⟨z0, z1, z2, z3, z4⟩ := S0.out W1 HB1.out
  have C0 := Lib.hid (weekdays_any id fr to_ dy ⟨by omega, by omega⟩ (.slice A n c) F T hF1 hT2 W1)
  obtain ⟨t0, ht0⟩ : ∃ t, wkF dy F T = t := ⟨_, rfl⟩
  rw [ht0] at C0 HC0
  clear ht0
  go_wp2_with fail
  refine C0.out.mono ?_
  rintro _ W2 ⟨rfl, hb2⟩
  have HB2 : Hid (Below W0.heap.size W0 W2) := HB1.out.trans (hb2.mono HB1.out.size)
  clear C0 hb2 z0 z1 z2 z3 z4 HB1
  obtain ⟨z0, z1, z2, z3, z4⟩ := S0.out W2 HB2.out
  go_wp2_with fail
  clear z0 z1 z2 z3 z4
  go_loopw [7, 25] (fun q i wr => ∃ k : Nat, k ≤ n ∧ i = .int .i64 k ∧ ∃ t : Int, q = .int .i64 t ∧ Hid (t = copF s a b k) ∧ Hid (Below W0.heap.size W0 wr)) (fun _ i _ => n - (intOf i).toNat)
  case atStart => exact ⟨0, Nat.zero_le _, rfl, _, rfl, HC0.out.symm, HB2.out⟩
  case round =>
  clear HC0 HB2
  obtain ⟨k, hk, rfl, t, rfl, ht, hB⟩ := hrel
  obtain ⟨X, rfl⟩ : ∃ X : World, X = wr := ⟨_, rfl⟩
  have HBX : Hid (Below w.heap.size w X) := HB0.out.trans (hB.out.mono HB0.out.size)
  obtain ⟨t1, t2⟩ := HCB.out k (by omega)
  rw [← ht.out] at t1 t2
  have t1' : -700000 ≤ t := by omega
  have t2' : t ≤ 700000 := by omega
  clear t1 t2
  by_cases hlt : k < n
  · obtain ⟨x, hx⟩ : ∃ x, s.hol[k]? = some x := ⟨_, List.getElem?_eq_getElem (by rw [HN.out]; exact hlt)⟩
    obtain ⟨g, o, rfl, HX⟩ := HD.out k x hx
    obtain ⟨c0, c1⟩ := HX.out X HBX.out
    obtain ⟨x1, x2⟩ := HHB.out k x hx
    have F1 : ∃ X1, X.alloc (.cells #[.int .i64 x.lo, .int .i64 x.hi] 87) = X1 ∧ Hid (Below X.heap.size X X1) ∧ Hid (Blk X1 X.heap.size 87 #[.int .i64 x.lo, .int .i64 x.hi]) := ⟨_, rfl, below_alloc _ _, Blk.new _ _ _⟩
    obtain ⟨X1, e1, HX1, HK1⟩ := F1
    have E1 := Lib.hid e1
    have HB1 : Hid (Below W0.heap.size W0 X1) := hB.out.trans (HX1.out.mono hB.out.size)
    have d0 := cellOf HK1.out 0 (x := .int .i64 x.lo) rfl
    have d1 := cellOf HK1.out 1 (x := .int .i64 x.hi) rfl
    obtain ⟨z0, z1, z2, z3, z4⟩ := S0.out X1 HB1.out
    have k0 : (0 : Int) ≤ (k : Int) := by omega
    have k1 : (k : Int) < (n : Int) := by omega
    have HNX : Hid (∀ M N, max F x.lo = M → min T x.hi = N → t - wkF dy M N = copF s a b (k + 1)) := fun M N h1 h2 => by rw [HCS.out k x hx, ht.out, h1, h2]
    clear hx e1 hB HX ht HX1 HK1
    go_upto_region 6 with fail
    rw [E1.out]
    clear E1 c0 c1
    by_cases hM : F < x.lo
    · by_cases hN : T ≤ x.hi
      · have C1 := Lib.hid (weekdays_any id fr to_ dy ⟨by omega, by omega⟩ (.slice (some ⟨g, o, none⟩) n c) x.lo T (by omega) (by omega) X1)
        have hwb := wkF_bd dy x.lo T (by omega) (by omega)
        obtain ⟨y, hy⟩ : ∃ y, wkF dy x.lo T = y := ⟨_, rfl⟩
        have HNY := Lib.hid (HNX.out x.lo T (by omega) (by omega))
        rw [hy] at C1 hwb HNY
        obtain ⟨hy1, hy2⟩ := hwb
        clear hy HNX
        go_wp2_with fail
        with_reducible refine C1.out.mono ?_
        rintro _ Y ⟨rfl, hb3⟩
        have HBY : Hid (Below W0.heap.size W0 Y) := HB1.out.trans (hb3.mono HB1.out.size)
        clear C1 hb3 d0 d1 z0 z1 z2 z3 z4 HB1
        go_wp2_with fail
        go_roundw
        case rel => exact ⟨k + 1, by omega, by go_num, _, rfl, HNY.out, HBY⟩
        case measure => simp [intOf]; omega
      · have C1 := Lib.hid (weekdays_any id fr to_ dy ⟨by omega, by omega⟩ (.slice (some ⟨g, o, none⟩) n c) x.lo x.hi (by omega) (by omega) X1)
        have hwb := wkF_bd dy x.lo x.hi (by omega) (by omega)
        obtain ⟨y, hy⟩ : ∃ y, wkF dy x.lo x.hi = y := ⟨_, rfl⟩
        have HNY := Lib.hid (HNX.out x.lo x.hi (by omega) (by omega))
        rw [hy] at C1 hwb HNY
        obtain ⟨hy1, hy2⟩ := hwb
        clear hy HNX
        go_wp2_with fail
        with_reducible refine C1.out.mono ?_
        rintro _ Y ⟨rfl, hb3⟩
        have HBY : Hid (Below W0.heap.size W0 Y) := HB1.out.trans (hb3.mono HB1.out.size)
        clear C1 hb3 d0 d1 z0 z1 z2 z3 z4 HB1
        go_wp2_with fail
        go_roundw
        case rel => exact ⟨k + 1, by omega, by go_num, _, rfl, HNY.out, HBY⟩
        case measure => simp [intOf]; omega
    · by_cases hN : T ≤ x.hi
      · have C1 := Lib.hid (weekdays_any id fr to_ dy ⟨by omega, by omega⟩ (.slice (some ⟨g, o, none⟩) n c) F T (by omega) (by omega) X1)
        have hwb := wkF_bd dy F T (by omega) (by omega)
        obtain ⟨y, hy⟩ : ∃ y, wkF dy F T = y := ⟨_, rfl⟩
        have HNY := Lib.hid (HNX.out F T (by omega) (by omega))
        rw [hy] at C1 hwb HNY
        obtain ⟨hy1, hy2⟩ := hwb
        clear hy HNX
        go_wp2_with fail
        with_reducible refine C1.out.mono ?_
        rintro _ Y ⟨rfl, hb3⟩
        have HBY : Hid (Below W0.heap.size W0 Y) := HB1.out.trans (hb3.mono HB1.out.size)
        clear C1 hb3 d0 d1 z0 z1 z2 z3 z4 HB1
        go_wp2_with fail
        go_roundw
        case rel => exact ⟨k + 1, by omega, by go_num, _, rfl, HNY.out, HBY⟩
        case measure => simp [intOf]; omega
      · have C1 := Lib.hid (weekdays_any id fr to_ dy ⟨by omega, by omega⟩ (.slice (some ⟨g, o, none⟩) n c) F x.hi (by omega) (by omega) X1)
        have hwb := wkF_bd dy F x.hi (by omega) (by omega)
        obtain ⟨y, hy⟩ : ∃ y, wkF dy F x.hi = y := ⟨_, rfl⟩
        have HNY := Lib.hid (HNX.out F x.hi (by omega) (by omega))
        rw [hy] at C1 hwb HNY
        obtain ⟨hy1, hy2⟩ := hwb
        clear hy HNX
        go_wp2_with fail
        with_reducible refine C1.out.mono ?_
        rintro _ Y ⟨rfl, hb3⟩
        have HBY : Hid (Below W0.heap.size W0 Y) := HB1.out.trans (hb3.mono HB1.out.size)
        clear C1 hb3 d0 d1 z0 z1 z2 z3 z4 HB1
        go_wp2_with fail
        go_roundw
        case rel => exact ⟨k + 1, by omega, by go_num, _, rfl, HNY.out, HBY⟩
        case measure => simp [intOf]; omega
  · have hkn : k = n := by omega
    have HXE : Hid (t = copF s a b n) := by show _ = _; rw [ht.out, hkn]
    clear hkn ht
    go_wp2_with fail
    go_ret
    exact ⟨ri HXE.out.symm, HBX.out⟩
end Go.Proofs.Ytlmpbmlbllndcaa

namespace Go.Proofs.Ytlmpbmlbllndcaa
open Go.RowKit
attribute [local go_sem] Oper.semAt_some

/-- What Copies answers: the error, and how many. -/
def copE (s : SubD) (a b : Int) : Int := if subB s then (if dayB a b then 0 else 6) else 120
def copV (s : SubD) (a b : Int) : Int := if copE s a b = 0 then s.copies a b else 0
set_option maxRecDepth 100000 in
set_option maxHeartbeats 2000000 in
theorem Copies_any (s : SubD) (a b : Int) (v : Value) (w : World) (h : RSub w.heap.size w v s) :
    Calls Try.prog 34 #[v, .int .i64 a, .int .i64 b] w fun e w' => e = .returned (.tuple #[.int .i64 (copV s a b), .int .i64 (copE s a b)]) ∧ Below w.heap.size w w' := by
  have HS := Lib.hid h
  obtain ⟨u, rfl, hsp⟩ := h
  obtain ⟨A, c, rfl, -, -⟩ := spans_later hsp
  obtain ⟨n, hn⟩ : ∃ n, s.hol.length = n := ⟨_, rfl⟩
  rw [hn] at HS ⊢
  obtain ⟨id, hid⟩ : ∃ x, s.id = x := ⟨_, rfl⟩
  obtain ⟨fr, hfr⟩ : ∃ x, s.from_ = x := ⟨_, rfl⟩
  obtain ⟨to_, hto⟩ : ∃ x, s.to_ = x := ⟨_, rfl⟩
  obtain ⟨dy, hdy⟩ : ∃ x, s.days = x := ⟨_, rfl⟩
  rw [hid, hfr, hto, hdy] at HS ⊢
  have F0 : ∃ W0, w.alloc (.cells #[.int .i64 id, .int .i64 fr, .int .i64 to_, .int .i64 dy, .slice A n c] 42) = W0 ∧ Hid (Below w.heap.size w W0) ∧ Hid (Blk W0 w.heap.size 42 #[.int .i64 id, .int .i64 fr, .int .i64 to_, .int .i64 dy, .slice A n c]) := ⟨_, rfl, below_alloc _ _, Blk.new _ _ _⟩
  obtain ⟨W0, e0, HB0, HK0⟩ := F0
  have E0 := Lib.hid e0
  obtain ⟨p, hp⟩ : ∃ p, w.heap.size = p := ⟨_, rfl⟩
  have HP := Lib.hid hp
  have S0 : Hid (∀ X, Below W0.heap.size W0 X → X.cell? ⟨p, 0, none⟩ = some (.int .i64 id) ∧ X.cell? ⟨p, 1, none⟩ = some (.int .i64 fr) ∧ X.cell? ⟨p, 2, none⟩ = some (.int .i64 to_) ∧ X.cell? ⟨p, 3, none⟩ = some (.int .i64 dy) ∧ X.cell? ⟨p, 4, none⟩ = some (.slice A n c)) := fun X hX => by
    have h := HK0.out.below hX HK0.out.lt
    rw [HP.out] at h
    exact ⟨cellOf h 0 rfl, cellOf h 1 rfl, cellOf h 2 rfl, cellOf h 3 rfl, cellOf h 4 rfl⟩
  have C1 := Lib.hid (subRight_any s _ W0 ((HS.out.below HB0.out).more HB0.out.size))
  obtain ⟨sb, hsb⟩ : ∃ x, subB s = x := ⟨_, rfl⟩
  obtain ⟨db, hdb⟩ : ∃ x, dayB a b = x := ⟨_, rfl⟩
  obtain ⟨te, hte⟩ : ∃ x, copE s a b = x := ⟨_, rfl⟩
  obtain ⟨tv, htv⟩ : ∃ x, copV s a b = x := ⟨_, rfl⟩
  have HE : Hid (te = if sb then (if db then 0 else 6) else 120) := by show _ = _; rw [← hte, ← hsb, ← hdb]; rfl
  have HV : Hid (tv = if te = 0 then s.copies a b else 0) := by show _ = _; rw [← htv, ← hte]; rfl
  rw [hsb] at C1
  have HSB := Lib.hid hsb
  have HDB := Lib.hid hdb
  have C2 := Lib.hid (fun w => areDays_any a b w)
  rw [hdb] at C2
  rw [hte, htv]
  obtain ⟨z0, z1, z2, z3, z4⟩ := S0.out W0 (Below.refl _ _)
  clear hsp hn hid hfr hto hdy e0 hp hsb hdb hte htv
  go_enter Try.func34, Try.ntmps34
  go_upto_region 1 with fail
  rw [E0.out]
  clear E0
  rw [HP.out]
  go_wp2_with fail
  refine C1.out.mono ?_
  rintro _ W1 ⟨rfl, hb1⟩
  have HB1 := Lib.hid hb1
  have HBW1 : Hid (Below w.heap.size w W1) := HB0.out.trans (hb1.mono HB0.out.size)
  clear C1 hb1 z0 z1 z2 z3 z4
  cases sb
  · have HX1 : Hid ((120 : Int) = te) := by show _ = _; rw [HE.out]; rfl
    have HX2 : Hid ((0 : Int) = tv) := by show _ = _; rw [HV.out, ← HX1.out]; rfl
    go_wp2_with fail
    go_ret2
    exact ⟨ret_two HX2.out HX1.out, HBW1.out⟩
  have HOK : Hid (s.Ok) := subB_ok HSB.out
  go_wp2_with fail
  refine (C2.out _).mono ?_
  rintro _ _ ⟨rfl, rfl⟩
  cases db
  · have HX1 : Hid ((6 : Int) = te) := by show _ = _; rw [HE.out]; rfl
    have HX2 : Hid ((0 : Int) = tv) := by show _ = _; rw [HV.out, ← HX1.out]; rfl
    go_wp2_with fail
    go_ret2
    exact ⟨ret_two HX2.out HX1.out, HBW1.out⟩
  have HX1 : Hid ((0 : Int) = te) := by show _ = _; rw [HE.out]; rfl
  have hd := dayB_iff.1 HDB.out
  have C3 := Lib.hid (subCopies_any s HOK.out a b ⟨by omega, by omega⟩ ⟨by omega, by omega⟩ _ W1 ((HS.out.below HBW1.out).more HBW1.out.size))
  have HX2 : Hid (s.copies a b = tv) := by show _ = _; rw [HV.out, ← HX1.out]; rfl
  rw [HX2.out] at C3
  obtain ⟨z0, z1, z2, z3, z4⟩ := S0.out W1 HB1.out
  clear hd
  go_wp2_with fail
  refine C3.out.mono ?_
  rintro _ W2 ⟨rfl, hb2⟩
  have HBW2 : Hid (Below w.heap.size w W2) := HBW1.out.trans (hb2.mono HBW1.out.size)
  clear C3 hb2 z0 z1 z2 z3 z4
  go_wp2_with fail
  go_ret2
  exact ⟨ret_two rfl HX1.out, HBW2.out⟩
end Go.Proofs.Ytlmpbmlbllndcaa
