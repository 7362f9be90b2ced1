/-
  The reference: cost, less, best, schedule.
-/
import Derived.Test.YtpkepacbondopaaRq
namespace Go.Proofs.Ytpkepacbondopaa
open Go.RowKit
attribute [local go_sem] Oper.semAt_some

/-- What Cost must answer for any supply and weeks. -/
def CostIs (s : SupD) (l : List Int) (x c : Int) : Prop :=
  (checkS s ≠ 0 ∧ x = 0 ∧ c = checkS s) ∨ (checkS s = 0 ∧ schedB s.need.length l = false ∧ x = 0 ∧ c = 1) ∨ (checkS s = 0 ∧ schedB s.need.length l = true ∧ (((cF s s.need.length l).1 = true ∧ x = (cF s s.need.length l).2.1 ∧ c = 0) ∨ ((cF s s.need.length l).1 = false ∧ x = 0 ∧ c = 9)))
theorem CostIs.one {s : SupD} {l : List Int} {x c y d : Int} (h : CostIs s l x c) (k : CostIs s l y d) : x = y ∧ c = d := by
  rcases h with ⟨h1, h2, h3⟩ | ⟨h1, h2, h3, h4⟩ | ⟨h1, h2, h3⟩
  · rcases k with ⟨k1, k2, k3⟩ | ⟨k1, -⟩ | ⟨k1, -⟩
    · exact ⟨h2.trans k2.symm, h3.trans k3.symm⟩
    · exact absurd k1 h1
    · exact absurd k1 h1
  · rcases k with ⟨k1, -⟩ | ⟨k1, k2, k3, k4⟩ | ⟨k1, k2, -⟩
    · exact absurd h1 k1
    · exact ⟨h3.trans k3.symm, h4.trans k4.symm⟩
    · rw [h2] at k2; cases k2
  · rcases k with ⟨k1, -⟩ | ⟨k1, k2, -⟩ | ⟨k1, k2, k3⟩
    · exact absurd h1 k1
    · rw [h2] at k2; cases k2
    · rcases h3 with ⟨a1, a2, a3⟩ | ⟨a1, a2, a3⟩ <;> rcases k3 with ⟨b1, b2, b3⟩ | ⟨b1, b2, b3⟩
      · exact ⟨a2.trans b2.symm, a3.trans b3.symm⟩
      · rw [a1] at b1; cases b1
      · rw [a1] at b1; cases b1
      · exact ⟨a2.trans b2.symm, a3.trans b3.symm⟩
def CostR (s : SupD) (l : List Int) (w : World) (e : Ending) (w' : World) : Prop := ∃ x c, e = .returned (.tuple #[.int .i64 x, .int .i64 c]) ∧ CostIs s l x c ∧ Below w.heap.size w w'
theorem stepB_iff {m : Nat} {l : List Int} {i : Nat} : stepB m l i = true ↔ l.getD i 0 < l.getD (i + 1) 0 ∧ l.getD (i + 1) 0 < (m : Int) := by
  unfold stepB
  rw [within_iff]
  omega
theorem sched_in {m : Nat} (hm : 0 < m) {l : List Int} (h0 : l.getD 0 0 = 0) : ∀ k, (∀ j, j < k → stepB m l j = true) → 0 ≤ l.getD k 0 ∧ l.getD k 0 < (m : Int)
  | 0, _ => by rw [h0]; omega
  | k + 1, h => by
    have h1 := stepB_iff.1 (h k (Nat.lt_succ_self _))
    have h2 := sched_in hm h0 k fun j hj => h j (by omega)
    omega
/-- The week behind one of a schedule. -/
def nxtW (m : Nat) (l : List Int) (i : Nat) : Int := if i + 1 < l.length then l.getD (i + 1) 0 else (m : Int)
theorem cF_at (s : SupD) (m : Nat) (l : List Int) {i : Nat} (hi : i < l.length) : cF s m (l.drop i) = ((cF s m (l.drop (i + 1))).1 && okE s (l.getD i 0).toNat (nxtW m l i).toNat, (cF s m (l.drop (i + 1))).2.1 + costE s (l.getD i 0).toNat (nxtW m l i).toNat, (l.getD i 0).toNat) := by
  have h1 : l.drop i = l.getD i 0 :: l.drop (i + 1) := by
    rw [List.drop_eq_getElem_cons hi, List.getD_eq_getElem?_getD, List.getElem?_eq_getElem hi, Option.getD_some]
  have h2 : (cF s m (l.drop (i + 1))).2.2 = (nxtW m l i).toNat := by
    unfold nxtW
    by_cases h : i + 1 < l.length
    · rw [if_pos h, List.drop_eq_getElem_cons h, List.getD_eq_getElem?_getD, List.getElem?_eq_getElem h, Option.getD_some]
      rfl
    · rw [if_neg h, List.drop_of_length_le (by omega)]
      show m = _
      omega
  rw [h1]
  show (_ && okE s _ (cF s m (l.drop (i + 1))).2.2, _ + costE s _ (cF s m (l.drop (i + 1))).2.2, _) = _
  rw [h2]
set_option maxRecDepth 100000 in
set_option maxHeartbeats 4000000 in
theorem refCost_any (s : SupD) (l : List Int) (v u : Value) (w : World) (h : RSup w.heap.size w v s) (hu : RInts w.heap.size w u l) (hl : l.length ≤ 1000) :
    Calls Try.prog 69 #[v, u] w (CostR s l w) := by
  have HSU := Lib.hid h
  obtain ⟨vn, vo, rfl, hN, hO⟩ := h
  obtain ⟨An, cn, rfl, hnm, -⟩ := hN.open_
  obtain ⟨Ao, co, rfl, hom, -⟩ := hO.open_
  obtain ⟨Au, cu, rfl, hum, hr⟩ := hu.open_
  obtain ⟨m, hm⟩ : ∃ m, s.need.length = m := ⟨_, rfl⟩
  obtain ⟨o, ho⟩ : ∃ m, s.order.length = m := ⟨_, rfl⟩
  obtain ⟨n, hn⟩ : ∃ m, l.length = m := ⟨_, rfl⟩
  rw [hm] at hnm HSU ⊢
  rw [ho] at hom HSU ⊢
  rw [hn] at hum hr hl ⊢
  have HM := Lib.hid hm
  have HO := Lib.hid ho
  have Hn := Lib.hid hn
  have HR := Lib.hid hr
  obtain ⟨r, hrr⟩ : ∃ r, checkS s = r := ⟨_, rfl⟩
  have HC := Lib.hid hrr
  have HFF : Hid (∀ x c W, Below w.heap.size w W → CostIs s l x c → CostR s l w (.returned (.tuple #[.int .i64 x, .int .i64 c])) W) := fun x c W hW h => ⟨x, c, rfl, h, hW⟩
  have F0 : ∃ W0, w.alloc (.cells #[.slice An m cn, .slice Ao o co, .int .i64 s.keep, .int .i64 s.room] 138) = W0 ∧ Below w.heap.size w W0 ∧ Blk W0 w.heap.size 138 #[.slice An m cn, .slice Ao o co, .int .i64 s.keep, .int .i64 s.room] := ⟨_, rfl, below_alloc _ _, Blk.new _ _ _⟩
  obtain ⟨W0, e0, hb0, B0⟩ := F0
  have E0 := Lib.hid e0
  have CC := Lib.hid (refCheckSupply_any s _ W0 ((HSU.out.below hb0).more hb0.size))
  rw [hrr] at CC
  have HB0 := Lib.hid hb0
  have HK0 := Lib.hid B0
  have s0 := cellOf B0 0 (x := .slice An m cn) rfl
  have s1 := cellOf B0 1 (x := .slice Ao o co) rfl
  have s2 := cellOf B0 2 (x := .int .i64 s.keep) rfl
  have s3 := cellOf B0 3 (x := .int .i64 s.room) rfl
  clear hN hO hu hr hm ho hn e0 hb0 B0 hrr
  go_enter Try.func69, Try.ntmps69
  go_upto_region 1 with fail
  rw [E0.out]
  go_wp2_with fail
  refine CC.out.mono ?_
  rintro _ W1 ⟨rfl, hb1⟩
  have HB1 : Hid (Below w.heap.size w W1) := HB0.out.trans (hb1.mono HB0.out.size)
  have HK1 := Lib.hid (HK0.out.below hb1 HK0.out.lt)
  clear hb1 s0 s1 s2 s3 CC
  by_cases hr0 : r = 0
  case neg =>
    have HX := Lib.hid (HFF.out 0 r W1 HB1.out (.inl ⟨by rw [HC.out]; exact hr0, rfl, HC.out.symm⟩))
    have hr1 : (r != 0) = true := by simpa using hr0
    clear hr0
    go_wp2_with fail
    go_ret2
    exact HX.out
  subst hr0
  have HS := Lib.hid (checkS_ok HC.out)
  have hm20 : 1 ≤ m ∧ m ≤ 20 := by have := HS.out.weeks; have := HM.out; omega
  obtain rfl : o = m := by
    have h2 := HS.out.same
    have h3 := HM.out
    have h4 := HO.out
    omega
  have s0 := cellOf HK1.out 0 (x := .slice An o cn) rfl
  by_cases hn0 : n = 0
  · have hsb : schedB s.need.length l = false := by unfold schedB; rw [Hn.out]; simp [hn0]
    have HX := Lib.hid (HFF.out 0 1 W1 HB1.out (.inr (.inl ⟨HC.out, hsb, rfl, rfl⟩)))
    have g1 : ((n : Int) == 0) = true := by simp; omega
    clear hsb
    go_wp2_with fail
    go_ret2
    exact HX.out
  have g1 : ((n : Int) == 0) = false := by simp; omega
  obtain ⟨b, ob, x0, rfl, hb, c0, hx0⟩ := HR.out 0 (by omega)
  rw [Nat.add_zero] at c0
  rw [← HB1.out.cell (p := ⟨b, ob, none⟩) hb] at c0
  have gn : (0 : Int) < (n : Int) := by omega
  by_cases hx00 : x0 = 0
  case neg =>
    have hsb : schedB s.need.length l = false := by unfold schedB; rw [hx0.out]; simp [hx00]
    have HX := Lib.hid (HFF.out 0 1 W1 HB1.out (.inr (.inl ⟨HC.out, hsb, rfl, rfl⟩)))
    have g2 : (x0 != 0) = true := by simpa using hx00
    clear hsb hx0
    go_wp2_with fail
    go_ret2
    exact HX.out
  subst hx00
  have HCELL : Hid (∀ X, Below w.heap.size w X → ∀ j, j < n → X.cell? ⟨b, ob + j, none⟩ = some (.int .i64 (l.getD j 0))) := fun X hX j hj => by
    obtain ⟨g', o', x, e9, hg', c0, hx⟩ := HR.out j hj
    injection e9 with e9
    injection e9 with e1 e2
    subst e1
    subst e2
    rw [hx.out, hX.cell (p := ⟨b, ob + j, none⟩) hg']
    exact c0
  have HP0 : Hid (l.getD 0 0 = 0) := hx0.out
  clear hx0
  go_wp2_with fail
  clear c0 s0
  go_loopw [8] (fun i wr => ∃ k : Nat, k + 1 ≤ n ∧ i = .int .i64 ((k : Int) + 1) ∧ Hid (∀ j, j < k → stepB o l j = true) ∧ Hid (Below W1.heap.size W1 wr)) (fun i _ => n - (intOf i).toNat)
  case atStart => exact ⟨0, by omega, rfl, fun j hj => absurd hj (Nat.not_lt_zero _), Below.refl _ _⟩
  case round =>
  obtain ⟨k, hk, rfl, hall, hB⟩ := hrel
  obtain ⟨X, rfl⟩ : ∃ X : World, X = wr := ⟨_, rfl⟩
  have HBX : Hid (Below w.heap.size w X) := HB1.out.trans (hB.out.mono HB1.out.size)
  by_cases hlt : k + 1 < n
  · have c0 := HCELL.out X HBX.out k (by omega)
    have c1 := HCELL.out X HBX.out (k + 1) hlt
    have hin := sched_in (by omega) HP0.out k hall.out
    obtain ⟨y, hy⟩ : ∃ y, l.getD k 0 = y := ⟨_, rfl⟩
    obtain ⟨z, hz⟩ : ∃ z, l.getD (k + 1) 0 = z := ⟨_, rfl⟩
    rw [hy] at c0 hin
    rw [hz] at c1
    obtain ⟨bs, hbs⟩ : ∃ q, stepB o l k = q := ⟨_, rfl⟩
    have hse : bs = true ↔ y < z ∧ z < (o : Int) := by rw [← hbs, stepB_iff, hy, hz]
    have HBS := Lib.hid hbs
    have HSE := Lib.hid hse
    have kw : IntKind.i64.wrap ((k : Int) + 1 - 1) = (k : Int) := by rw [show (k : Int) + 1 - 1 = (k : Int) by omega]; exact IntWalk.i64_in _ ⟨by omega, by omega⟩
    have i0 : (0 : Int) ≤ (k : Int) := by omega
    have i2 : (k : Int) < (n : Int) := by omega
    have i3 : (k : Int) + 1 < (n : Int) := by omega
    have i4 : (0 : Int) ≤ (k : Int) + 1 := by omega
    have i5 : ((k : Int) + 1).toNat = k + 1 := by omega
    clear hy hz hbs hse
    go_upto_region 10 with fail
    go_cut [54] (fun s wx => s = .bool (!bs) ∧ Hid (Below X.heap.size X wx))
    case first =>
      by_cases h1 : z ≤ y
      · have hb9 : bs = false := by
          cases bs
          · rfl
          · have := HSE.out.1 rfl; omega
        subst hb9
        have g8 : decide (z ≤ y) = true := by simp; omega
        clear HSE HBS
        go_quiet (fail)
        go_wp2_with fail
        go_meet
        exact ⟨rfl, below_drewN (Below.refl _ _) _⟩
      · have g8 : decide (z ≤ y) = false := by simp; omega
        by_cases h2 : (o : Int) ≤ z
        · have hb9 : bs = false := by
            cases bs
            · rfl
            · have := HSE.out.1 rfl; omega
          subst hb9
          have g9 : decide ((o : Int) ≤ z) = true := by simp; omega
          clear HSE HBS
          go_quiet (fail)
          go_wp2_with fail
          go_meet
          exact ⟨rfl, below_drewN (Below.refl _ _) _⟩
        · have hb9 : bs = true := HSE.out.2 ⟨by omega, by omega⟩
          subst hb9
          have g9 : decide ((o : Int) ≤ z) = false := by simp; omega
          clear HSE HBS
          go_quiet (fail)
          go_wp2_with fail
          go_meet
          exact ⟨rfl, below_drewN (Below.refl _ _) _⟩
    case rest =>
    obtain ⟨rfl, hb9⟩ := hcut
    have hB9 : Hid (Below W1.heap.size W1 wc) := hB.out.trans (hb9.out.mono hB.out.size)
    clear hb9 hB HSE c0 c1 kw
    cases bs
    · have hsb : schedB s.need.length l = false := by
        unfold schedB
        rw [HM.out]
        refine Bool.eq_false_iff.2 fun h9 => ?_
        rw [Bool.and_eq_true] at h9
        have := List.all_eq_true.1 h9.2 k (List.mem_range.2 (by rw [Hn.out]; omega))
        rw [HBS.out] at this
        cases this
      have HX := Lib.hid (HFF.out 0 1 wc (HB1.out.trans (hB9.out.mono HB1.out.size)) (.inr (.inl ⟨HC.out, hsb, rfl, rfl⟩)))
      clear hsb hall hB9
      go_wp2_with fail
      go_ret2
      exact HX.out
    · have HA : Hid (∀ j, j < k + 1 → stepB o l j = true) := fun j hj => by
        rcases Nat.lt_or_ge j k with h | h
        · exact hall.out j h
        · rw [show j = k by omega]; exact HBS.out
      clear hall
      go_wp2_with fail
      go_roundw
      case rel =>
        first
          | exact ⟨k + 1, by omega, by go_num, HA, hB9⟩
          | (repeat apply Exists.intro
             refine ⟨?_, rfl⟩
             exact ⟨k + 1, by omega, by go_num, HA, hB9⟩)
      case measure => simp [intOf]; omega
  obtain ⟨n1, rfl⟩ : ∃ n1, n = n1 + 1 := ⟨k, by omega⟩
  obtain rfl : k = n1 := by omega
  have HSC : Hid (schedB s.need.length l = true) := by
    show _ = _
    unfold schedB
    rw [Bool.and_eq_true, Bool.and_eq_true, decide_eq_true_eq, decide_eq_true_eq, HM.out, Hn.out]
    exact ⟨⟨by omega, HP0.out⟩, List.all_eq_true.2 fun j hj => hall.out j (by have := List.mem_range.1 hj; omega)⟩
  have HIN : Hid (∀ j, j ≤ k → (0 ≤ l.getD j 0 ∧ l.getD j 0 < (o : Int)) ∧ l.getD j 0 < nxtW o l j ∧ nxtW o l j ≤ (o : Int)) := fun j hj => by
    have h1 := sched_in (m := o) (by omega) HP0.out j fun i hi => hall.out i (by omega)
    refine ⟨h1, ?_⟩
    unfold nxtW
    rw [Hn.out]
    split
    · have h2 := stepB_iff.1 (hall.out j (by omega))
      omega
    · omega
  have HBW : Hid (∀ Y, Below X.heap.size X Y → ∀ {Z}, Below Y.heap.size Y Z → Below W1.heap.size W1 Z) := fun Y hY Z hZ => hB.out.trans ((hY.trans (hZ.mono hY.size)).mono hB.out.size)
  obtain ⟨wo, rfl⟩ : ∃ wo : World, wo = X := ⟨_, rfl⟩
  have gk : ¬ (k : Int) + 1 < ((k + 1 : Nat) : Int) := by omega
  have gk2 : decide ((k : Int) + 1 < ((k + 1 : Nat) : Int)) = false := by simp
  clear hall hB hlt
  go_wp2_with fail
  go_loopw [9, 10] (fun c i wr => ∃ q : Nat, q ≤ k + 1 ∧ i = .int .i64 (q : Int) ∧ ∃ C : Int, c = .int .i64 C ∧ 0 ≤ C ∧ C ≤ 450000000 * (q : Int) ∧ Hid (C + (cF s o (l.drop q)).2.1 = (cF s o l).2.1 ∧ (cF s o l).1 = (cF s o (l.drop q)).1) ∧ Hid (Below wo.heap.size wo wr)) (fun _ i _ => k + 1 - (intOf i).toNat)
  case atStart => exact ⟨0, Nat.zero_le _, rfl, 0, rfl, Int.le_refl _, by omega, ⟨by simp, rfl⟩, Below.refl _ _⟩
  case round =>
  obtain ⟨q, hq, rfl, C, rfl, hC1, hC2, hcf, hB⟩ := hrel
  obtain ⟨X, rfl⟩ : ∃ X : World, X = wr := ⟨_, rfl⟩
  have HBX : Hid (Below w.heap.size w X) := HBX.out.trans (hB.out.mono HBX.out.size)
  by_cases hlt : q < k + 1
  case neg =>
    obtain rfl : q = k + 1 := by omega
    have h8 := hcf.out
    rw [List.drop_of_length_le (by rw [Hn.out]; exact Nat.le_refl _)] at h8
    have h9 : C = (cF s s.need.length l).2.1 := by
      rw [HM.out, ← h8.1]
      show C = C + 0
      omega
    have h10 : (cF s s.need.length l).1 = true := by rw [HM.out]; exact h8.2
    have HX := Lib.hid (HFF.out C 0 X HBX.out (.inr (.inr ⟨HC.out, HSC.out, .inl ⟨h10, h9, rfl⟩⟩)))
    clear h8 h9 h10 hcf hB
    go_wp2_with fail
    go_ret2
    exact HX.out
  obtain ⟨⟨hin1, hin2⟩, hin3, hin4⟩ := HIN.out q (by omega)
  obtain ⟨a, ha⟩ : ∃ a : Nat, l.getD q 0 = (a : Int) := ⟨(l.getD q 0).toNat, by omega⟩
  obtain ⟨t, ht⟩ : ∃ t : Nat, nxtW o l q = (t : Int) := ⟨(nxtW o l q).toNat, by omega⟩
  have hat := cF_at s o l (i := q) (by rw [Hn.out]; omega)
  rw [ha] at hin1 hin2 hin3
  rw [ht] at hin3 hin4
  rw [ha, ht, Int.toNat_natCast, Int.toNat_natCast] at hat
  have c0 := HCELL.out X HBX.out q (by omega)
  rw [ha] at c0
  have hcb := HS.out.costE_bound (a := a) (e := t) (by omega) (by rw [HM.out]; omega)
  obtain ⟨ok, hok⟩ : ∃ x, okE s a t = x := ⟨_, rfl⟩
  obtain ⟨cs, hcs⟩ : ∃ x, costE s a t = x := ⟨_, rfl⟩
  rw [hcs] at hcb hat
  rw [hok] at hat
  obtain ⟨hcb1, hcb2⟩ := hcb
  obtain ⟨c9, hc9⟩ : ∃ x, (if ok then cs else 0) = x := ⟨_, rfl⟩
  have HC9 := Lib.hid hc9
  have CV : Hid (∀ Z, Below X.heap.size X Z → Calls Try.prog 112 #[.agg #[.slice An o cn, .slice Ao o co, .int .i64 s.keep, .int .i64 s.room], .int .i64 (a : Int), .int .i64 (t : Int)] Z fun e w' => e = .returned (.tuple #[.int .i64 c9, .bool ok]) ∧ Below Z.heap.size Z w') := fun Z hZ => by
    have h1 := cover_any s HS.out a t (by omega) (by rw [HM.out]; omega) _ Z ((HSU.out.below (HBX.out.trans (hZ.mono HBX.out.size))).more (HBX.out.trans (hZ.mono HBX.out.size)).size)
    unfold CoverRet at h1
    rw [hok, hcs, hc9] at h1
    exact h1
  have HAT := Lib.hid hat
  have HOKE := Lib.hid hok
  have S := HK1.out
  have HSS : Hid (∀ Z, Below X.heap.size X Z → (Z.cell? ⟨w.heap.size, 0, none⟩ = some (.slice An o cn) ∧ Z.cell? ⟨w.heap.size, 1, none⟩ = some (.slice Ao o co) ∧ Z.cell? ⟨w.heap.size, 2, none⟩ = some (.int .i64 s.keep) ∧ Z.cell? ⟨w.heap.size, 3, none⟩ = some (.int .i64 s.room)) ∧ Z.cell? ⟨b, ob + q, none⟩ = some (.int .i64 (a : Int))) := fun Z hZ => by
    have hB := (HBW.out X hB.out hZ)
    have hS := HK1.out.below hB HK1.out.lt
    refine ⟨⟨cellOf hS 0 rfl, cellOf hS 1 rfl, cellOf hS 2 rfl, cellOf hS 3 rfl⟩, ?_⟩
    rw [hZ.cell (p := ⟨b, ob + q, none⟩) (World.block_lt_of_cell? X _ c0)]
    exact c0
  have HTN : Hid (nxtW o l q = (t : Int)) := ht
  have hc1 : q + 1 < k + 1 → X.cell? ⟨b, ob + (q + 1), none⟩ = some (.int .i64 (t : Int)) := fun h => by
    have h1 := HCELL.out X HBX.out (q + 1) h
    have h2 := HTN.out
    unfold nxtW at h2
    rw [Hn.out, if_pos h] at h2
    rw [h2] at h1
    exact h1
  have ht2 : ¬ q + 1 < k + 1 → o = t := fun h => by
    have h2 := HTN.out
    unfold nxtW at h2
    rw [Hn.out, if_neg h] at h2
    omega
  have iq : (q : Int) < ((k + 1 : Nat) : Int) := by omega
  have iq0 : (0 : Int) ≤ (q : Int) := by omega
  have iq1 : (0 : Int) ≤ (q : Int) + 1 := by omega
  have iq2 : ((q : Int) + 1).toNat = q + 1 := by omega
  have HC2 := Lib.hid hC2
  clear hok hcs hat S ht ha hC2 hc9
  by_cases h1 : q + 1 < k + 1
  · have c1 := hc1 h1
    have g3 : (q : Int) + 1 < ((k + 1 : Nat) : Int) := by omega
    clear hc1 ht2
    go_upto_region 18 with fail
    go_upto_region 19 with fail
    clear c1
    go_region_held3 (fun Z => (Z.cell? ⟨w.heap.size, 0, none⟩ = some (.slice An o cn) ∧ Z.cell? ⟨w.heap.size, 1, none⟩ = some (.slice Ao o co) ∧ Z.cell? ⟨w.heap.size, 2, none⟩ = some (.int .i64 s.keep) ∧ Z.cell? ⟨w.heap.size, 3, none⟩ = some (.int .i64 s.room)) ∧ Z.cell? ⟨b, ob + q, none⟩ = some (.int .i64 (a : Int)))
      (first | exact HSS.out _ hz9 | exact HSS.out _ (Below.refl _ _).drew)
      (first | (go_at_call 112; refine (CV.out X.drew (Below.refl _ _).drew).mono ?_; rintro _ Y1 ⟨rfl, hy1⟩; have hz9 : Below X.heap.size X Y1 := (Below.refl _ _).drew.trans hy1))
    have hB1 : Hid (Below wo.heap.size wo Y1) := hB.out.trans (hz9.mono hB.out.size)
    have HBY : Hid (Below w.heap.size w Y1) := HBX.out.trans (hz9.mono HBX.out.size)
    clear hB CV HSS hy1 hz9
    cases ok
    case false =>
      have HX := Lib.hid (HFF.out 0 9 Y1 HBY.out (.inr (.inr ⟨HC.out, HSC.out, .inr ⟨by rw [HM.out, hcf.out.2, HAT.out, Bool.and_false], rfl, rfl⟩⟩)))
      clear hcf hB1
      go_wp2_with fail
      go_ret2
      exact HX.out
    case true =>
      obtain rfl : cs = c9 := HC9.out
      have hcf1 : Hid ((C + cs) + (cF s o (l.drop (q + 1))).2.1 = (cF s o l).2.1 ∧ (cF s o l).1 = (cF s o (l.drop (q + 1))).1) := by
        obtain ⟨h1, h2⟩ := hcf.out
        rw [HAT.out] at h1 h2
        refine ⟨?_, by rw [h2, Bool.and_true]⟩
        have h3 : C + ((cF s o (l.drop (q + 1))).2.1 + cs) = (cF s o l).2.1 := h1
        omega
      have hCb : 0 ≤ C + cs ∧ C + cs ≤ 450000000 * ((q : Int) + 1) := by have := HC2.out; omega
      have HCb := Lib.hid hCb
      have hC3 : C ≤ 450000000000 := by have := HC2.out; omega
      clear hcf HAT hCb
      go_wp2_with fail
      go_roundw
      case rel =>
        first
          | exact ⟨q + 1, by omega, by go_num, C + cs, rfl, HCb.out.1, HCb.out.2, hcf1, hB1⟩
          | (repeat apply Exists.intro
             refine ⟨?_, rfl⟩
             exact ⟨q + 1, by omega, by go_num, C + cs, rfl, HCb.out.1, HCb.out.2, hcf1, hB1⟩)
      case measure => simp [intOf]; omega
  · obtain rfl := ht2 h1
    have g3 : ¬ (q : Int) + 1 < ((k + 1 : Nat) : Int) := by omega
    clear hc1 ht2
    go_upto_region 19 with fail
    go_region_held3 (fun Z => (Z.cell? ⟨w.heap.size, 0, none⟩ = some (.slice An o cn) ∧ Z.cell? ⟨w.heap.size, 1, none⟩ = some (.slice Ao o co) ∧ Z.cell? ⟨w.heap.size, 2, none⟩ = some (.int .i64 s.keep) ∧ Z.cell? ⟨w.heap.size, 3, none⟩ = some (.int .i64 s.room)) ∧ Z.cell? ⟨b, ob + q, none⟩ = some (.int .i64 (a : Int)))
      (first | exact HSS.out _ hz9 | exact HSS.out _ (Below.refl _ _).drew)
      (first | (go_at_call 112; refine (CV.out X.drew (Below.refl _ _).drew).mono ?_; rintro _ Y1 ⟨rfl, hy1⟩; have hz9 : Below X.heap.size X Y1 := (Below.refl _ _).drew.trans hy1))
    have hB1 : Hid (Below wo.heap.size wo Y1) := hB.out.trans (hz9.mono hB.out.size)
    have HBY : Hid (Below w.heap.size w Y1) := HBX.out.trans (hz9.mono HBX.out.size)
    clear hB CV HSS hy1 hz9
    cases ok
    case false =>
      have HX := Lib.hid (HFF.out 0 9 Y1 HBY.out (.inr (.inr ⟨HC.out, HSC.out, .inr ⟨by rw [HM.out, hcf.out.2, HAT.out, Bool.and_false], rfl, rfl⟩⟩)))
      clear hcf hB1
      go_wp2_with fail
      go_ret2
      exact HX.out
    case true =>
      obtain rfl : cs = c9 := HC9.out
      have hcf1 : Hid ((C + cs) + (cF s o (l.drop (q + 1))).2.1 = (cF s o l).2.1 ∧ (cF s o l).1 = (cF s o (l.drop (q + 1))).1) := by
        obtain ⟨h1, h2⟩ := hcf.out
        rw [HAT.out] at h1 h2
        refine ⟨?_, by rw [h2, Bool.and_true]⟩
        have h3 : C + ((cF s o (l.drop (q + 1))).2.1 + cs) = (cF s o l).2.1 := h1
        omega
      have hCb : 0 ≤ C + cs ∧ C + cs ≤ 450000000 * ((q : Int) + 1) := by have := HC2.out; omega
      have HCb := Lib.hid hCb
      have hC3 : C ≤ 450000000000 := by have := HC2.out; omega
      clear hcf HAT hCb
      go_wp2_with fail
      go_roundw
      case rel =>
        first
          | exact ⟨q + 1, by omega, by go_num, C + cs, rfl, HCb.out.1, HCb.out.2, hcf1, hB1⟩
          | (repeat apply Exists.intro
             refine ⟨?_, rfl⟩
             exact ⟨q + 1, by omega, by go_num, C + cs, rfl, HCb.out.1, HCb.out.2, hcf1, hB1⟩)
      case measure => simp [intOf]; omega
end Go.Proofs.Ytpkepacbondopaa

namespace Go.Proofs.Ytpkepacbondopaa
open Go.RowKit
attribute [local go_sem] Oper.semAt_some

def lessL : List Int → List Int → Bool
  | [], [] => false
  | [], _ :: _ => true
  | _ :: _, [] => false
  | x :: a, y :: b => if x = y then lessL a b else decide (x < y)
theorem lessL_at {a b : List Int} {k : Nat} (h1 : k < a.length) (h2 : k < b.length) : lessL (a.drop k) (b.drop k) = if a.getD k 0 = b.getD k 0 then lessL (a.drop (k + 1)) (b.drop (k + 1)) else decide (a.getD k 0 < b.getD k 0) := by
  rw [List.drop_eq_getElem_cons h1, List.drop_eq_getElem_cons h2, List.getD_eq_getElem?_getD, List.getElem?_eq_getElem h1, List.getD_eq_getElem?_getD, List.getElem?_eq_getElem h2]
  rfl
theorem lessL_end {a b : List Int} {k : Nat} (h : ¬ (k < a.length ∧ k < b.length)) (h1 : k ≤ a.length) (h2 : k ≤ b.length) : lessL (a.drop k) (b.drop k) = decide (a.length < b.length) := by
  by_cases h3 : a.length ≤ k
  · rw [List.drop_of_length_le h3]
    by_cases h4 : b.length ≤ k
    · rw [List.drop_of_length_le h4, decide_eq_false (by omega)]; rfl
    · rw [List.drop_eq_getElem_cons (by omega), decide_eq_true (by omega)]; rfl
  · have h4 : b.length ≤ k := by omega
    rw [List.drop_of_length_le h4, List.drop_eq_getElem_cons (by omega), decide_eq_false (by omega)]
    rfl
set_option maxRecDepth 100000 in
set_option maxHeartbeats 2000000 in
theorem refLess_any (a b : List Int) (u v : Value) (w : World) (ha : RInts w.heap.size w u a) (hb : RInts w.heap.size w v b) (la : a.length ≤ 1000) (lb : b.length ≤ 1000) :
    Calls Try.prog 148 #[u, v] w fun e w' => e = .returned (.bool (lessL a b)) ∧ Below w.heap.size w w' := by
  obtain ⟨A, ca, rfl, -, hra⟩ := ha.open_
  obtain ⟨B, cb, rfl, -, hrb⟩ := hb.open_
  obtain ⟨n, hn⟩ : ∃ n, a.length = n := ⟨_, rfl⟩
  obtain ⟨m, hm⟩ : ∃ m, b.length = m := ⟨_, rfl⟩
  rw [hn] at hra la ⊢
  rw [hm] at hrb lb ⊢
  have HN := Lib.hid hn
  have HM := Lib.hid hm
  have HRA := Lib.hid hra
  have HRB := Lib.hid hrb
  obtain ⟨r, hr⟩ : ∃ r, lessL a b = r := ⟨_, rfl⟩
  rw [hr]
  have HR := Lib.hid hr
  clear ha hb hra hrb hn hm hr
  go_enter Try.func148, Try.ntmps148
  go_wp2_with fail
  go_loopw [5] (fun i wr => ∃ k : Nat, k ≤ n ∧ k ≤ m ∧ i = .int .i64 (k : Int) ∧ Hid (lessL (a.drop k) (b.drop k) = r) ∧ Hid (Below w.heap.size w wr)) (fun i _ => n - (intOf i).toNat)
  case atStart => exact ⟨0, Nat.zero_le _, Nat.zero_le _, rfl, HR.out, Below.refl _ _⟩
  case round =>
  obtain ⟨k, hk1, hk2, rfl, hl, hB⟩ := hrel
  obtain ⟨X, rfl⟩ : ∃ X : World, X = wr := ⟨_, rfl⟩
  by_cases hlt : k < n ∧ k < m
  case neg =>
    have HE : Hid (r = decide (n < m)) := by
      show _ = _
      rw [← hl.out, lessL_end (by rw [HN.out, HM.out]; exact hlt) (by rw [HN.out]; exact hk1) (by rw [HM.out]; exact hk2), HN.out, HM.out]
    by_cases h1 : k < n
    · have h2 : ¬ k < m := fun h => hlt ⟨h1, h⟩
      have g9 : decide ((n : Int) < (m : Int)) = decide (n < m) := by simp
      clear hlt hl
      go_wp2_with fail
      go_ret
      exact ⟨by rw [HE.out]; rfl, hB.out⟩
    · clear hlt hl
      go_wp2_with fail
      go_ret
      exact ⟨by rw [HE.out]; rfl, hB.out⟩
  obtain ⟨h1, h2⟩ := hlt
  have hat := lessL_at (a := a) (b := b) (k := k) (by rw [HN.out]; exact h1) (by rw [HM.out]; exact h2)
  rw [hl.out] at hat
  obtain ⟨g1, o1, x, rfl, hg1, c0, hx⟩ := HRA.out k h1
  obtain ⟨g2, o2, y, rfl, hg2, c1, hy⟩ := HRB.out k h2
  rw [← hB.out.cell (p := ⟨g1, o1 + k, none⟩) hg1] at c0
  rw [← hB.out.cell (p := ⟨g2, o2 + k, none⟩) hg2] at c1
  rw [hx.out, hy.out] at hat
  have HAT := Lib.hid hat
  have i1 : (k : Int) < (n : Int) := by omega
  have i2 : (k : Int) < (m : Int) := by omega
  have i0 : (0 : Int) ≤ (k : Int) := by omega
  clear hat hx hy hl
  go_upto_region 4 with fail
  go_cut [26] (fun s wx => s = .bool (x != y) ∧ Hid (Below X.heap.size X wx))
  case first =>
    go_quiet (fail)
    go_wp2_with fail
    go_meet
    exact ⟨rfl, below_drewN (Below.refl _ _) _⟩
  case rest =>
  obtain ⟨rfl, hb9⟩ := hcut
  obtain ⟨X2, rfl⟩ : ∃ X : World, X = wc := ⟨_, rfl⟩
  have hB2 : Hid (Below w.heap.size w X2) := hB.out.trans (hb9.out.mono hB.out.size)
  have e0 : X2.cell? ⟨g1, o1 + k, none⟩ = some (.int .i64 x) := (hb9.out.cell (p := ⟨g1, o1 + k, none⟩) (World.block_lt_of_cell? X _ c0)).trans c0
  have e1 : X2.cell? ⟨g2, o2 + k, none⟩ = some (.int .i64 y) := (hb9.out.cell (p := ⟨g2, o2 + k, none⟩) (World.block_lt_of_cell? X _ c1)).trans c1
  clear hb9 hB c0 c1
  by_cases hxy : x = y
  · have HL : Hid (lessL (a.drop (k + 1)) (b.drop (k + 1)) = r) := by
      have h9 := HAT.out
      rw [if_pos hxy] at h9
      exact h9.symm
    have g9 : (x != y) = false := by simp [hxy]
    clear HAT hxy e0 e1
    go_wp2_with fail
    go_roundw
    case rel =>
      first
        | exact ⟨k + 1, by omega, by omega, by go_num, HL, hB2⟩
        | (repeat apply Exists.intro
           refine ⟨?_, rfl⟩
           exact ⟨k + 1, by omega, by omega, by go_num, HL, hB2⟩)
    case measure => simp [intOf]; omega
  · have HE : Hid (r = decide (x < y)) := by
      have h9 := HAT.out
      rw [if_neg hxy] at h9
      exact h9
    have g9 : (x != y) = true := by simpa using hxy
    clear HAT hxy
    go_upto_region 5 with fail
    go_quiet (fail)
    go_wp2_with fail
    go_ret
    exact ⟨by rw [HE.out]; rfl, below_drewN hB2.out _⟩

/-- What a week costs from an order on to another one, and behind it. -/
def VE (s : SupD) (a e : Nat) : Int := costE s a e + restOf s e
theorem VE_bound {s : SupD} (hs : s.Ok) {a e : Nat} (h1 : a < e) (h2 : e ≤ s.need.length) : 0 ≤ VE s a e ∧ VE s a e ≤ 20000000000 := by
  have h3 := hs.costE_bound h1 h2
  have h4 := (restOf_all hs).low e (Nat.zero_le _) h2
  have h5 := (restOf_all hs).all e
  have h6 := hs.weeks
  unfold VE restOf
  omega
theorem restOf_bound {s : SupD} (hs : s.Ok) {e : Nat} (h2 : e ≤ s.need.length) : 0 ≤ restOf s e ∧ restOf s e ≤ 10000000000 := by
  have h4 := (restOf_all hs).low e (Nat.zero_le _) h2
  have h5 := (restOf_all hs).all e
  have h6 := hs.weeks
  unfold restOf
  omega
/-- The first of the least ones of a list. -/
def FirstMin (V : Nat → Int) (l : List Nat) (e : Nat) : Prop := ∃ pre post, l = pre ++ e :: post ∧ (∀ x ∈ pre, V e < V x) ∧ ∀ x ∈ post, V e ≤ V x
theorem chE_first {s : SupD} {a : Nat} (V : Nat → Int) : ∀ (l pre : List Nat) (T : ChT), a < T.1.length → a < T.2.length → (∀ e ∈ l, a ≠ e ∧ V e = costE s a e + T.2.getD e 0 ∧ V e < big) →
    ((T.2.getD a 0 = big ∧ pre = []) ∨ ∃ e : Nat, T.1.getD a 0 = (e : Int) ∧ T.2.getD a 0 = V e ∧ FirstMin V pre e) → pre ++ l ≠ [] →
    ∃ e : Nat, (l.foldl (chE s a) T).1.getD a 0 = (e : Int) ∧ FirstMin V (pre ++ l) e
  | [], pre, T, _, _, _, h, hne => by
    rcases h with ⟨-, rfl⟩ | ⟨e, h1, -, h3⟩
    · exact absurd rfl hne
    · exact ⟨e, h1, by rw [List.append_nil]; exact h3⟩
  | x :: l, pre, T, hl1, hl2, hx, h, _ => by
    obtain ⟨hxa, hxv, hxb⟩ := hx x (List.mem_cons_self ..)
    show ∃ e : Nat, (l.foldl (chE s a) (chE s a T x)).1.getD a 0 = (e : Int) ∧ FirstMin V (pre ++ x :: l) e
    rw [show pre ++ x :: l = (pre ++ [x]) ++ l by simp]
    by_cases hlt : costE s a x + T.2.getD x 0 < T.2.getD a 0
    · have hT : chE s a T x = (T.1.set a (x : Int), T.2.set a (costE s a x + T.2.getD x 0)) := by unfold chE; rw [if_pos hlt]
      rw [hT]
      refine chE_first V l (pre ++ [x]) _ (by rw [List.length_set]; exact hl1) (by rw [List.length_set]; exact hl2) (fun e he => ?_) (.inr ⟨x, ?_, ?_, pre, [], by simp, fun y hy => ?_, fun y hy => (by cases hy)⟩) (by simp)
      · obtain ⟨h1, h2, h3⟩ := hx e (List.mem_cons_of_mem _ he)
        refine ⟨h1, ?_, h3⟩
        show V e = costE s a e + (T.2.set a _).getD e 0
        rw [getD_set, if_neg (fun h => h1 h.1)]
        exact h2
      · show (T.1.set a (x : Int)).getD a 0 = _
        rw [getD_set, if_pos ⟨rfl, hl1⟩]
      · show (T.2.set a _).getD a 0 = _
        rw [getD_set, if_pos ⟨rfl, hl2⟩, hxv]
      · rcases h with ⟨-, rfl⟩ | ⟨e, h1, h2, p, q, rfl, h4, h5⟩
        · cases hy
        · rw [h2] at hlt
          rw [hxv]
          rcases List.mem_append.1 hy with hy | hy
          · have := h4 y hy; omega
          · rcases List.mem_cons.1 hy with rfl | hy
            · exact hlt
            · have := h5 y hy; omega
    · have hT : chE s a T x = T := by unfold chE; rw [if_neg hlt]
      rw [hT]
      refine chE_first V l (pre ++ [x]) T hl1 hl2 (fun e he => hx e (List.mem_cons_of_mem _ he)) (.inr ?_) (by simp)
      rcases h with ⟨h1, -⟩ | ⟨e, h1, h2, p, q, rfl, h4, h5⟩
      · rw [h1] at hlt
        omega
      · refine ⟨e, h1, h2, p, q ++ [x], by simp, h4, fun y hy => ?_⟩
        rcases List.mem_append.1 hy with hy | hy
        · exact h5 y hy
        · rw [List.mem_singleton.1 hy]
          omega
theorem chTo_keep {s : SupD} (hs : s.Ok) {a j : Nat} : ∀ d k, k + d ≤ s.need.length → s.need.length - k ≤ j → a = j → (chTo s (k + d)).1.getD j 0 = (chTo s k).1.getD j 0 ∧ (chTo s (k + d)).2.getD j 0 = (chTo s k).2.getD j 0
  | 0, k, _, _, _ => ⟨rfl, rfl⟩
  | d + 1, k, h1, h2, h3 => by
    obtain ⟨h4, h5⟩ := chTo_keep hs (a := a) (j := j) d k (by omega) h2 h3
    have hb : ∀ e ∈ batchN s (s.need.length - (k + d + 1)), s.need.length - (k + d + 1) < e := fun e he => (batchN_mem (by omega) he).1
    have hf : ∀ (l : List Nat) (T : ChT), (l.foldl (chE s (s.need.length - (k + d + 1))) T).1.getD j 0 = T.1.getD j 0 ∧ (l.foldl (chE s (s.need.length - (k + d + 1))) T).2.getD j 0 = T.2.getD j 0 := by
      intro l
      induction l with
      | nil => intro T; exact ⟨rfl, rfl⟩
      | cons e l ih =>
        intro T
        obtain ⟨i1, i2⟩ := ih (chE s (s.need.length - (k + d + 1)) T e)
        refine ⟨i1.trans ?_, i2.trans ?_⟩
        · unfold chE
          split
          · show (T.1.set _ _).getD j 0 = _
            rw [getD_set, if_neg (by omega)]
          · rfl
        · unfold chE
          split
          · show (T.2.set _ _).getD j 0 = _
            rw [getD_set, if_neg (by omega)]
          · rfl
    have hw : (chTo s (k + (d + 1))) = chW s (chTo s (k + d)) (s.need.length - (k + d + 1)) := rfl
    rw [hw]
    unfold chW
    obtain ⟨i1, i2⟩ := hf (batchN s (s.need.length - (k + d + 1))) ((chTo s (k + d)).1, (chTo s (k + d)).2.set (s.need.length - (k + d + 1)) big)
    refine ⟨i1.trans h4, i2.trans ?_⟩
    show ((chTo s (k + d)).2.set _ _).getD j 0 = _
    rw [getD_set, if_neg (by omega)]
    exact h5
/-- The next order of a week is the first of the least ones. -/
theorem nextOf_first {s : SupD} (hs : s.Ok) {a : Nat} (ha : a < s.need.length) : FirstMin (VE s a) (batchN s a) (nextOf s a) := by
  have hk := chTo_ok hs (s.need.length - a - 1) (by omega)
  rw [show s.need.length - (s.need.length - a - 1) = a + 1 by omega] at hk
  have hR : ∀ e, a < e → e ≤ s.need.length → restOf s e = (chTo s (s.need.length - a - 1)).2.getD e 0 := fun e h1 h2 => by
    have h3 := (chTo_keep hs (a := e) (j := e) (a + 1) (s.need.length - a - 1) (by omega) (by omega) rfl).2
    rw [show s.need.length - a - 1 + (a + 1) = s.need.length by omega] at h3
    exact h3
  have hw := hs.weeks
  obtain ⟨e, h1, h2⟩ := chE_first (s := s) (a := a) (VE s a) (batchN s a) [] ((chTo s (s.need.length - a - 1)).1, (chTo s (s.need.length - a - 1)).2.set a big) (by have := hk.l1; show a < (chTo s (s.need.length - a - 1)).1.length; omega) (by show a < List.length _; rw [List.length_set]; have := hk.l2; omega) (fun e he => by
    have h3 := batchN_mem ha he
    have h4 := VE_bound hs h3.1 h3.2
    refine ⟨by omega, ?_, by unfold big; omega⟩
    show VE s a e = costE s a e + ((chTo s (s.need.length - a - 1)).2.set a big).getD e 0
    rw [getD_set, if_neg (by omega), ← hR e h3.1 h3.2]
    rfl) (.inl ⟨by
      show ((chTo s (s.need.length - a - 1)).2.set a big).getD a 0 = big
      rw [getD_set, if_pos ⟨rfl, by have := hk.l2; omega⟩], rfl⟩) (by
      have := batchN_next hs ha
      intro h9
      rw [List.nil_append] at h9
      rw [h9] at this
      cases this)
  rw [List.nil_append] at h2
  have h3 : nextOf s a = e := by
    have h4 := (chTo_keep hs (a := a) (j := a) a (s.need.length - a) (by omega) (by omega) rfl).1
    rw [show s.need.length - a + a = s.need.length by omega] at h4
    unfold nextOf
    rw [h4]
    have h5 : chTo s (s.need.length - a) = chW s (chTo s (s.need.length - a - 1)) a := by
      obtain ⟨k, hk9⟩ : ∃ k, s.need.length - a = k + 1 := ⟨s.need.length - a - 1, by omega⟩
      rw [hk9]
      show chW s (chTo s k) (s.need.length - (k + 1)) = chW s (chTo s (k + 1 - 1)) a
      rw [show s.need.length - (k + 1) = a by omega]
      rfl
    rw [h5]
    unfold chW
    rw [h1]
    rfl
  rw [h3]
  exact h2
end Go.Proofs.Ytpkepacbondopaa

namespace Go.Proofs.Ytpkepacbondopaa
open Go.RowKit
attribute [local go_sem] Oper.semAt_some

/-- What is known of the weeks behind a week, up to one of them: the best one. -/
structure CurI (s : SupD) (a q e : Nat) : Prop where
  lt : a < e
  up : e < q
  le : e ≤ s.need.length
  ok : okE s a e = true
  min_ : ∀ x, a < x → x < q → okE s a x = true → VE s a e ≤ VE s a x
  fst : e ≠ s.need.length → ∀ x, a < x → x < e → okE s a x = true → VE s a e < VE s a x
  lst : e ≠ s.need.length → s.need.length < q → okE s a s.need.length = true → VE s a e < VE s a s.need.length
def NoneI (s : SupD) (a q : Nat) : Prop := ∀ x, a < x → x < q → okE s a x = false
theorem NoneI.skip {s : SupD} {a q : Nat} (h : NoneI s a q) (hk : okE s a q = false) : NoneI s a (q + 1) := fun x h1 h2 => by
  rcases Nat.lt_or_ge x q with h9 | h9
  · exact h x h1 h9
  · rw [show x = q by omega]; exact hk
theorem CurI.skip {s : SupD} {a q e : Nat} (h : CurI s a q e) (hk : okE s a q = false) : CurI s a (q + 1) e := by
  refine ⟨h.lt, by have := h.up; omega, h.le, h.ok, fun x h1 h2 h3 => ?_, h.fst, fun h1 h2 h3 => ?_⟩
  · rcases Nat.lt_or_ge x q with h9 | h9
    · exact h.min_ x h1 h9 h3
    · rw [show x = q by omega, hk] at h3
      cases h3
  · rcases Nat.lt_or_ge s.need.length q with h9 | h9
    · exact h.lst h1 h9 h3
    · rw [show s.need.length = q by omega, hk] at h3
      cases h3
theorem CurI.first {s : SupD} {a q : Nat} (h : NoneI s a q) (hq : a < q) (hn : q ≤ s.need.length) (hk : okE s a q = true) : CurI s a (q + 1) q := by
  refine ⟨hq, Nat.lt_succ_self _, hn, hk, fun x h1 h2 h3 => ?_, fun _ x h1 h2 h3 => ?_, fun h1 h2 _ => by omega⟩
  · rcases Nat.lt_or_ge x q with h9 | h9
    · rw [h x h1 h9] at h3
      cases h3
    · rw [show x = q by omega]
      exact Int.le_refl _
  · rw [h x h1 h2] at h3
    cases h3
theorem CurI.take {s : SupD} {a q e : Nat} (h : CurI s a q e) (hn : q ≤ s.need.length) (hk : okE s a q = true) (hv : VE s a q < VE s a e ∨ (VE s a q = VE s a e ∧ q = s.need.length)) : CurI s a (q + 1) q := by
  have h1 := h.lt
  have h2 := h.up
  refine ⟨by omega, Nat.lt_succ_self _, hn, hk, fun x h3 h4 h5 => ?_, fun h0 x h3 h4 h5 => ?_, fun h3 h4 _ => by omega⟩
  · rcases Nat.lt_or_ge x q with h9 | h9
    · have := h.min_ x h3 h9 h5; omega
    · rw [show x = q by omega]; exact Int.le_refl _
  · have := h.min_ x h3 h4 h5; omega
theorem CurI.keep {s : SupD} {a q e : Nat} (h : CurI s a q e) (hn : q ≤ s.need.length) (hv : VE s a e < VE s a q ∨ (VE s a q = VE s a e ∧ q ≠ s.need.length)) : CurI s a (q + 1) e := by
  have h1 := h.lt
  have h2 := h.up
  refine ⟨h1, by omega, h.le, h.ok, fun x h3 h4 h5 => ?_, h.fst, fun h3 h4 h5 => ?_⟩
  · rcases Nat.lt_or_ge x q with h9 | h9
    · exact h.min_ x h3 h9 h5
    · rw [show x = q by omega]; omega
  · obtain hq : q = s.need.length := by omega
    rw [← hq]
    omega
theorem batchN_sorted (s : SupD) (a : Nat) : (batchN s a).Pairwise fun x y => x = s.need.length ∨ x < y := by
  unfold batchN
  refine List.pairwise_append.2 ⟨?_, ?_, fun x hx y _ => .inl ?_⟩
  · split
    · exact List.pairwise_singleton _ _
    · exact List.Pairwise.nil
  · refine List.Pairwise.map _ (fun x y (h : x < y) => Or.inr (by omega)) ?_
    exact (List.pairwise_lt_range).filter _
  · split at hx
    · exact List.mem_singleton.1 hx
    · cases hx
theorem CurI.next {s : SupD} (hs : s.Ok) {a e : Nat} (h : CurI s a (s.need.length + 1) e) (ha : a < s.need.length) : e = nextOf s a := by
  obtain ⟨pre, post, hl, h1, h2⟩ := nextOf_first hs ha
  have hso := batchN_sorted s a
  have hmem : ∀ x, x ∈ batchN s a ↔ (a < x ∧ x ≤ s.need.length) ∧ okE s a x = true := fun x => mem_batchN ha
  obtain ⟨k, hk⟩ : ∃ k, nextOf s a = k := ⟨_, rfl⟩
  rw [hk] at hl h1 h2 ⊢
  have hkm := (hmem k).1 (by rw [hl]; simp)
  have hem : e ∈ batchN s a := (hmem e).2 ⟨⟨h.lt, h.le⟩, h.ok⟩
  have h3 := h.min_ k hkm.1.1 (by omega) hkm.2
  rw [hl] at hem
  rcases List.mem_append.1 hem with h4 | h4
  · have := h1 e h4; omega
  rcases List.mem_cons.1 h4 with h4 | h4
  · exact h4
  have h5 := h2 e h4
  rw [hl] at hso
  have h6 := (List.pairwise_cons.1 (List.pairwise_append.1 hso).2.1).1 e h4
  by_cases hkn : k = s.need.length
  · subst hkn
    by_cases he : e = s.need.length
    · exact he
    · have := h.lst he (Nat.lt_succ_self _) hkm.2
      omega
  · by_cases he : e = s.need.length
    · -- the end stands at the head of the list
      exfalso
      have h7 : batchN s a = s.need.length :: ((List.range (s.need.length - a - 1)).filter fun j => okE s a (a + 1 + j)).map fun j => a + 1 + j := by
        unfold batchN
        rw [← he, if_pos h.ok]
        rfl
      rw [hl] at h7
      cases pre with
      | nil => exact hkn (List.cons.inj h7).1
      | cons p pre =>
        have h8 := (List.cons.inj h7).1
        have := h1 p (List.mem_cons_self ..)
        rw [h8, ← he] at this
        omega
    · rcases h6 with h6 | h6
      · exact absurd h6 hkn
      · have := h.fst he k hkm.1.1 h6 hkm.2
        omega
theorem path_more {s : SupD} (hs : s.Ok) {a : Nat} (ha : a < s.need.length) : pathF s s.need.length a = (a : Int) :: pathF s s.need.length (nextOf s a) := by
  obtain ⟨-, h1, h2, -⟩ := nextOf_ok hs ha
  obtain ⟨f, hf⟩ : ∃ f, s.need.length = f + 1 := ⟨s.need.length - 1, by omega⟩
  have h3 : pathF s s.need.length a = (a : Int) :: pathF s f (nextOf s a) := by
    conv => lhs; arg 2; rw [hf]
    show (if a < s.need.length then _ else _) = _
    rw [if_pos ha]
  rw [h3, pathF_more hs f s.need.length (nextOf s a) (by omega) (by omega)]
theorem path_end {s : SupD} (hs : s.Ok) : pathF s s.need.length s.need.length = [] := by
  obtain ⟨f, hf⟩ : ∃ f, s.need.length = f + 1 := ⟨s.need.length - 1, by have := hs.weeks; omega⟩
  conv => lhs; arg 2; rw [hf]
  unfold pathF
  rw [if_neg (by omega)]
/-- The lists are compared by their next weeks. -/
theorem less_path {s : SupD} (hs : s.Ok) {a e q : Nat} (he : e < q) (hq : q ≤ s.need.length) : lessL ((a : Int) :: pathF s s.need.length q) ((a : Int) :: pathF s s.need.length e) = decide (q = s.need.length) := by
  show (if (a : Int) = (a : Int) then _ else _) = _
  rw [if_pos rfl, path_more hs (a := e) (by omega)]
  by_cases h : q = s.need.length
  · subst h
    rw [path_end hs, decide_eq_true rfl]
    rfl
  · rw [path_more hs (a := q) (by omega), decide_eq_false h]
    show (if (q : Int) = (e : Int) then _ else _) = _
    rw [if_neg (by omega), decide_eq_false (by omega)]
/-- What lies there: the lists and the costs of the weeks from a on. -/
structure BeS (s : SupD) (w1 : World) (GL GC n a : Nat) (vs : List Value) (Lc : List Int) (X : World) : Prop where
  low : Below w1.heap.size w1 X
  bl : Blk X GL 30 vs.toArray
  bc : Blk X GC 3 (Lc.map (Value.int .i64)).toArray
  ol : w1.heap.size ≤ GL
  oc : w1.heap.size ≤ GC
  lv : vs.length = n + 1
  lc : Lc.length = n + 1
  rows : ∀ j, a ≤ j → j ≤ n → ∃ A c, vs[j]? = some (.slice A (pathF s n j).length c) ∧ OInts (max GL GC + 1) X (.slice A (pathF s n j).length c) (pathF s n j)
  cost : ∀ j, a ≤ j → j ≤ n → Lc.getD j 0 = restOf s j
section
variable {s : SupD} {w1 X Y : World} {GL GC n a : Nat} {vs : List Value} {Lc : List Int}
theorem BeS.below (h : BeS s w1 GL GC n a vs Lc X) (hb : Below X.heap.size X Y) : BeS s w1 GL GC n a vs Lc Y :=
  ⟨h.low.trans (hb.mono h.low.size), h.bl.below hb h.bl.lt, h.bc.below hb h.bc.lt, h.ol, h.oc, h.lv, h.lc, fun j h1 h2 => by
    obtain ⟨A, c, h3, h4⟩ := h.rows j h1 h2
    exact ⟨A, c, h3, ownsRow_below h4 hb⟩, h.cost⟩
theorem BeS.cellC (h : BeS s w1 GL GC n a vs Lc X) {j : Nat} (hj : j ≤ n) : X.cell? ⟨GC, j, none⟩ = some (.int .i64 (Lc.getD j 0)) := arr_cell h.bc (by rw [h.lc]; omega)
theorem BeS.cellL (h : BeS s w1 GL GC n a vs Lc X) {j : Nat} {v : Value} (hv : vs[j]? = some v) : X.cell? ⟨GL, j, none⟩ = some v := cellOf h.bl j (by simpa using hv)
theorem BeS.size (h : BeS s w1 GL GC n a vs Lc X) : max GL GC + 1 ≤ X.heap.size := by
  have h1 := h.bl.lt
  have h2 := h.bc.lt
  omega
theorem own_two {u v : Value} {m : Nat} {xs : List Value} {k : Nat} (h : X.ownsRow (max GL GC + 1) 3 1 u m xs) (x : Value) : ((X.setCell ⟨GL, k, none⟩ v).setCell ⟨GC, k, none⟩ x).ownsRow (max GL GC + 1) 3 1 u m xs := by
  have hK : KeptBut (fun j => j = GL ∨ j = GC) X ((X.setCell ⟨GL, k, none⟩ v).setCell ⟨GC, k, none⟩ x) := ((KeptBut.setCell (S := fun j => j = GL) rfl v).mono fun _ _ h => .inl h).trans (KeptBut.setCell (S := fun j => j = GC) rfl x) fun _ _ h => .inr h
  refine ownsRow_keptBut h hK fun g cs hg _ hS => ?_
  have := (h.lt g hg).1
  omega
theorem BeS.put (h : BeS s w1 GL GC n (a + 1) vs Lc X) (hne : GL ≠ GC) (u : Value) (x : Int) : BeS s w1 GL GC n (a + 1) (vs.set a u) (Lc.set a x) ((X.setCell ⟨GL, a, none⟩ u).setCell ⟨GC, a, none⟩ (.int .i64 x)) := by
  refine ⟨(h.low.setCell (by exact h.ol) _).setCell (by exact h.oc) _, ?_, ?_, h.ol, h.oc, by rw [List.length_set]; exact h.lv, by rw [List.length_set]; exact h.lc, fun j h1 h2 => ?_, fun j h1 h2 => ?_⟩
  · have h1 := (h.bl.put a u).far (p := ⟨GC, a, none⟩) hne (.int .i64 x)
    rwa [List.setIfInBounds_toArray] at h1
  · exact arr_put (h.bc.far (p := ⟨GL, a, none⟩) (fun e => hne e.symm) u) a x
  · obtain ⟨A, c, h3, h4⟩ := h.rows j h1 h2
    exact ⟨A, c, by rw [List.getElem?_set_ne (by omega)]; exact h3, own_two h4 _⟩
  · rw [getD_set, if_neg (by omega)]
    exact h.cost j h1 h2
end
/-- The best list of the week at hand. -/
def CurR (s : SupD) (GL GC n a e : Nat) (vs : List Value) (Lc : List Int) (X : World) : Prop :=
  ∃ A c, vs[a]? = some (.slice A ((pathF s n e).length + 1) c) ∧ OInts (max GL GC + 1) X (.slice A ((pathF s n e).length + 1) c) ((a : Int) :: pathF s n e) ∧ Lc.getD a 0 = VE s a e
theorem CurR.below {s : SupD} {GL GC n a e : Nat} {vs : List Value} {Lc : List Int} {X Y : World} (h : CurR s GL GC n a e vs Lc X) (hb : Below X.heap.size X Y) : CurR s GL GC n a e vs Lc Y := by
  obtain ⟨A, c, h1, h2, h3⟩ := h
  exact ⟨A, c, h1, ownsRow_below h2 hb, h3⟩
theorem BeS.done {s : SupD} (hs : s.Ok) {w1 X : World} {GL GC a e : Nat} {vs : List Value} {Lc : List Int} (h : BeS s w1 GL GC s.need.length (a + 1) vs Lc X) (ha : a < s.need.length) (hc : CurI s a (s.need.length + 1) e) (hr : CurR s GL GC s.need.length a e vs Lc X) : BeS s w1 GL GC s.need.length a vs Lc X := by
  obtain rfl := hc.next hs ha
  obtain ⟨A, c, h1, h2, h3⟩ := hr
  have hp := path_more hs ha
  obtain ⟨-, -, -, -, h5⟩ := nextOf_ok hs ha
  refine ⟨h.low, h.bl, h.bc, h.ol, h.oc, h.lv, h.lc, fun j h9 h10 => ?_, fun j h9 h10 => ?_⟩
  · rcases Nat.lt_or_ge a j with h11 | h11
    · exact h.rows j (by omega) h10
    · obtain rfl : j = a := by omega
      rw [hp]
      exact ⟨A, c, h1, h2⟩
  · rcases Nat.lt_or_ge a j with h11 | h11
    · exact h.cost j (by omega) h10
    · obtain rfl : j = a := by omega
      rw [h3]
      exact h5.symm
end Go.Proofs.Ytpkepacbondopaa

namespace Go.Proofs.Ytpkepacbondopaa
open Go.RowKit
attribute [local go_sem] Oper.semAt_some

theorem sliceLists : Try.prog.underlying 134 = some (.slice 30) := by kernel_rfl
theorem infoInts : (Try.prog.info? 30).map (fun i => (i.zero, i.size, i.bytes)) = some (some (.slice none 0 0), 1, 24) := by kernel_rfl
theorem makeLists (k : Nat) (hk : k ≤ 1000000) (u : World) : (Instr.makeSlice 134 (.int .i64 k) (.int .i64 k)).run Try.prog u =
      .ok (.slice (some ⟨u.heap.size, 0, none⟩) k k) (u.alloc (.cells (Array.replicate k (.slice none 0 0)) 30)) := by
  obtain ⟨i0, hi, hz0, hz1, hz2⟩ := info_parts infoInts
  have h := run_make (P := Try.prog) u 134 30 i0 (.slice none 0 0) sliceLists hi hz0 .i64 .i64 (k : Int) (k : Int) (by omega) (Int.le_refl _) (by rw [hz2]; omega) (by omega)
  rw [Int.toNat_natCast] at h
  have e : madeCells (Value.cells (.slice none 0 0)) (k * i0.size) = Array.replicate k (.slice none 0 0) := by
    rw [hz1, Nat.mul_one]
    apply Array.ext
    · simp [madeCells]
    · intro i h1 h2
      simp [madeCells, Value.cells, Nat.mod_one]
  rw [e] at h
  exact h
/-- What best makes first. -/
def BeStart (s : SupD) (w1 : World) (n : Nat) (s5 s6 : Value) (X : World) : Prop := ∃ GL GC, GL ≠ GC ∧ s5 = .slice (some ⟨GL, 0, none⟩) (n + 1) (n + 1) ∧ s6 = .slice (some ⟨GC, 0, none⟩) (n + 1) (n + 1) ∧ BeS s w1 GL GC n n (List.replicate (n + 1) (.slice none 0 0)) (List.replicate (n + 1) 0) X
theorem be_start {s : SupD} (hs : s.Ok) {w1 X : World} {GL GC : Nat} (low : Below w1.heap.size w1 X) (bl : Blk X GL 30 (Array.replicate (s.need.length + 1) (.slice none 0 0))) (bc : Blk X GC 3 (Array.replicate (s.need.length + 1) (.int .i64 0))) (ol : w1.heap.size ≤ GL) (oc : w1.heap.size ≤ GC) :
    BeStart s w1 s.need.length (.slice (some ⟨GL, 0, none⟩) (s.need.length + 1) (s.need.length + 1)) (.slice (some ⟨GC, 0, none⟩) (s.need.length + 1) (s.need.length + 1)) X := by
  refine ⟨GL, GC, Blk.ne bl bc (by decide), rfl, rfl, low, ?_, ?_, ol, oc, by simp, by simp, fun j h1 h2 => ?_, fun j h1 h2 => ?_⟩
  · rwa [show (List.replicate (s.need.length + 1) (Value.slice none 0 0)).toArray = Array.replicate (s.need.length + 1) (.slice none 0 0) by simp]
  · rwa [show ((List.replicate (s.need.length + 1) (0 : Int)).map (Value.int .i64)).toArray = Array.replicate (s.need.length + 1) (.int .i64 0) by simp]
  · obtain rfl : j = s.need.length := by omega
    rw [path_end hs]
    exact ⟨none, 0, by simp, World.ownsRow_nil _ _ _ _⟩
  · obtain rfl : j = s.need.length := by omega
    have h3 := (restOf_all hs).fin
    unfold restOf
    rw [h3]
    rw [List.getD_eq_getElem?_getD, List.getElem?_replicate, if_pos (by omega)]
    rfl
/-- What best answers. -/
def BestRet (s : SupD) (w : World) (e : Ending) (w' : World) : Prop :=
  ∃ GL GC n vs Lc, n = s.need.length ∧ e = .returned (.tuple #[.slice (some ⟨GL, 0, none⟩) (n + 1) (n + 1), .slice (some ⟨GC, 0, none⟩) (n + 1) (n + 1)]) ∧ BeS s w GL GC n 0 vs Lc w'
set_option maxRecDepth 100000 in
set_option maxHeartbeats 4000000 in
theorem best_any (s : SupD) (hs : s.Ok) (v : Value) (w : World) (h : RSup w.heap.size w v s) :
    Calls Try.prog 111 #[v] w (BestRet s w) := by
  have HSU := Lib.hid h
  obtain ⟨vn, vo, rfl, hN, hO⟩ := h
  obtain ⟨An, cn, rfl, hnm, -⟩ := hN.open_
  obtain ⟨Ao, co, rfl, hom, -⟩ := hO.open_
  obtain ⟨n, hn⟩ : ∃ m, s.need.length = m := ⟨_, rfl⟩
  obtain ⟨o, ho⟩ : ∃ m, s.order.length = m := ⟨_, rfl⟩
  rw [hn] at hnm HSU ⊢
  rw [ho] at hom HSU ⊢
  have HN := Lib.hid hn
  have HS := Lib.hid hs
  have hn20 : 1 ≤ n ∧ n ≤ 20 := by have := hs.weeks; omega
  have F0 : ∃ W0, w.alloc (.cells #[.slice An n cn, .slice Ao o co, .int .i64 s.keep, .int .i64 s.room] 138) = W0 ∧ Below w.heap.size w W0 ∧ Blk W0 w.heap.size 138 #[.slice An n cn, .slice Ao o co, .int .i64 s.keep, .int .i64 s.room] := ⟨_, rfl, below_alloc _ _, Blk.new _ _ _⟩
  obtain ⟨W0, e0, hb0, B0⟩ := F0
  have E0 := Lib.hid e0
  have HB0 := Lib.hid hb0
  have HK0 := Lib.hid B0
  have s0 := cellOf B0 0 (x := .slice An n cn) rfl
  have HSB : Hid (∀ X, Below W0.heap.size W0 X → Blk X w.heap.size 138 #[.slice An n cn, .slice Ao o co, .int .i64 s.keep, .int .i64 s.room]) := fun X hX => HK0.out.below hX HK0.out.lt
  have hmk : ∀ u : World, (Instr.makeSlice 30 (.int .i64 ((n : Int) + 1)) (.int .i64 ((n : Int) + 1))).run Try.prog u = .ok (.slice (some ⟨u.heap.size, 0, none⟩) (n + 1) (n + 1)) (u.alloc (.cells (Array.replicate (n + 1) (.int .i64 0)) 3)) := makeInts (n + 1) (by omega)
  have hml : ∀ u : World, (Instr.makeSlice 134 (.int .i64 ((n : Int) + 1)) (.int .i64 ((n : Int) + 1))).run Try.prog u = .ok (.slice (some ⟨u.heap.size, 0, none⟩) (n + 1) (n + 1)) (u.alloc (.cells (Array.replicate (n + 1) (.slice none 0 0)) 30)) := makeLists (n + 1) (by omega)
  have HST : Hid (∀ X GL GC, Below W0.heap.size W0 X → Blk X GL 30 (Array.replicate (n + 1) (.slice none 0 0)) → Blk X GC 3 (Array.replicate (n + 1) (.int .i64 0)) → W0.heap.size ≤ GL → W0.heap.size ≤ GC → BeStart s W0 n (.slice (some ⟨GL, 0, none⟩) (n + 1) (n + 1)) (.slice (some ⟨GC, 0, none⟩) (n + 1) (n + 1)) X) := fun X GL GC h1 h2 h3 h4 h5 => by
    rw [← HN.out] at h2 h3 ⊢
    exact be_start HS.out h1 h2 h3 h4 h5
  clear hN hO hn ho hs e0 hb0 B0
  go_enter Try.func111, Try.ntmps111
  go_upto_region 1 with fail
  rw [E0.out]
  go_upto_region 2 with fail
  clear s0
  go_cut [5, 6] from 16 to 21 (fun s5 s6 wx => BeStart s W0 n s5 s6 wx)
  case first =>
    have kw : IntKind.i64.wrap ((n : Int) + 1) = (n : Int) + 1 := IntWalk.i64_in _ ⟨by omega, by omega⟩
    go_region
    all_goals
      go_wp2_with fail
      go_meet
      first
        | exact HST.out _ _ _ (below_al (below_al (Below.refl _ _) _) _).drew ((Blk.new _ _ _).alloc _).drew_ (blk_new (by simp) _ _).drew_ (Nat.le_refl _) (by omega)
        | exact HST.out _ _ _ (below_al (below_al (Below.refl _ _) _) _).drew (blk_new (by simp) _ _).drew_ ((Blk.new _ _ _).alloc _).drew_ (by omega) (Nat.le_refl _)
  case rest =>
  obtain ⟨GL, GC, hne, rfl, rfl, hst⟩ := hcut
  obtain ⟨X, rfl⟩ : ∃ X : World, X = wc := ⟨_, rfl⟩
  have HNE := Lib.hid hne
  have HST0 := Lib.hid hst
  clear hne hst hmk hml HST
  obtain ⟨i0, hi0, hz0, hz1, hz2⟩ := info_parts infoInt0
  go_wp2_with fail
  go_loopw [7] (fun i wr => ∃ a : Nat, a ≤ n ∧ ∃ z : Int, i = .int .i64 z ∧ z = (a : Int) - 1 ∧ ∃ vs Lc, Hid (BeS s W0 GL GC n a vs Lc wr)) (fun i _ => (intOf i + 1).toNat)
  case atStart => exact ⟨n, Nat.le_refl _, _, rfl, rfl, _, _, HST0⟩
  case round =>
  clear HST0
  obtain ⟨a1, ha, z, rfl, hz, vs, Lc, hst⟩ := hrel
  obtain ⟨X, rfl⟩ : ∃ X : World, X = wr := ⟨_, rfl⟩
  rcases Nat.eq_zero_or_pos a1 with h0 | h0
  · obtain rfl : z = -1 := by omega
    have HX : Hid (BestRet s w (.returned (.tuple #[.slice (some ⟨GL, 0, none⟩) (n + 1) (n + 1), .slice (some ⟨GC, 0, none⟩) (n + 1) (n + 1)])) X) := by
      subst h0
      have h := hst.out
      have hs := HB0.out.size
      exact ⟨GL, GC, n, vs, Lc, HN.out.symm, rfl, HB0.out.trans (h.low.mono hs), h.bl, h.bc, by have := h.ol; omega, by have := h.oc; omega, h.lv, h.lc, h.rows, h.cost⟩
    clear hst hz h0
    go_wp2_with fail
    go_ret2
    exact HX.out
  obtain ⟨a, rfl⟩ : ∃ a, a1 = a + 1 := ⟨a1 - 1, by omega⟩
  obtain rfl : z = (a : Int) := by omega
  have HNO : Hid (NoneI s a (a + 1)) := fun x h1 h2 => by omega
  clear hz h0
  go_wp2_with fail
  go_loopw [8, 9] (fun f i wr => ∃ q : Nat, a < q ∧ q ≤ n + 1 ∧ i = .int .i64 (q : Int) ∧ ∃ b, f = .bool b ∧ ∃ vs Lc, Hid (BeS s W0 GL GC n (a + 1) vs Lc wr) ∧ Hid ((b = false ∧ NoneI s a q) ∨ (b = true ∧ ∃ e, CurI s a q e ∧ CurR s GL GC n a e vs Lc wr))) (fun _ i _ => n + 1 - (intOf i).toNat)
  case atStart => exact ⟨a + 1, by omega, by omega, by go_num, false, rfl, vs, Lc, hst, .inl ⟨rfl, HNO.out⟩⟩
  case round =>
  clear hst HNO
  obtain ⟨q, hq1, hq2, rfl, b, rfl, vs, Lc, hst, hcur⟩ := hrel
  obtain ⟨X, rfl⟩ : ∃ X : World, X = wr := ⟨_, rfl⟩
  by_cases hlt : q < n + 1
  case neg =>
    obtain rfl : q = n + 1 := by omega
    have HD : Hid (BeS s W0 GL GC n a vs Lc X) := by
      rcases hcur.out with ⟨rfl, h1⟩ | ⟨rfl, e, h1, h2⟩
      · exfalso
        have h3 := okE_next HS.out a
        rw [h1 (a + 1) (by omega) (by omega)] at h3
        cases h3
      · have h := hst.out
        have hn := HN.out
        rw [← hn] at h h1 h2 ⊢
        exact h.done HS.out (by rw [hn]; omega) h1 h2
    have gq : ¬ (((n + 1 : Nat) : Int)) ≤ (n : Int) := by omega
    clear hcur hst
    go_wp2_with fail
    go_roundw
    case rel =>
      first
        | exact ⟨a, by omega, _, rfl, rfl, vs, Lc, HD⟩
        | (repeat apply Exists.intro
           refine ⟨?_, rfl⟩
           exact ⟨a, by omega, _, rfl, rfl, vs, Lc, HD⟩)
    case measure => first | (simp [intOf]; done) | (simp [intOf]; omega)
  have hBX : Below w.heap.size w X := HB0.out.trans (hst.out.low.mono HB0.out.size)
  have S := HSB.out X hst.out.low
  have s0 := cellOf S 0 (x := .slice An n cn) rfl
  have s1 := cellOf S 1 (x := .slice Ao o co) rfl
  have s2 := cellOf S 2 (x := .int .i64 s.keep) rfl
  have s3 := cellOf S 3 (x := .int .i64 s.room) rfl
  have CV := Lib.hid (cover_any s HS.out a q hq1 (by rw [HN.out]; omega) _ X ((HSU.out.below hBX).more hBX.size))
  have hcb := HS.out.costE_bound (a := a) (e := q) hq1 (by rw [HN.out]; omega)
  obtain ⟨ok, hok⟩ : ∃ x, okE s a q = x := ⟨_, rfl⟩
  obtain ⟨cs, hcs⟩ : ∃ x, costE s a q = x := ⟨_, rfl⟩
  rw [hcs] at hcb
  unfold CoverRet at CV
  rw [hok, hcs] at CV
  have HOKE := Lib.hid hok
  have HCS := Lib.hid hcs
  clear hok hcs S hBX
  go_wp2_with fail
  refine CV.out.mono ?_
  rintro _ X2 ⟨rfl, hb2⟩
  have HST2 := Lib.hid (hst.out.below hb2)
  have HCUR2 : Hid ((b = false ∧ NoneI s a q) ∨ (b = true ∧ ∃ e, CurI s a q e ∧ CurR s GL GC n a e vs Lc X2)) := by
    rcases hcur.out with h | ⟨h1, e, h2, h3⟩
    · exact .inl h
    · exact .inr ⟨h1, e, h2, h3.below hb2⟩
  clear hst hcur hb2 CV s0 s1 s2 s3
  cases ok
  case false =>
    have HCN : Hid ((b = false ∧ NoneI s a (q + 1)) ∨ (b = true ∧ ∃ e, CurI s a (q + 1) e ∧ CurR s GL GC n a e vs Lc X2)) := by
      rcases HCUR2.out with ⟨h1, h2⟩ | ⟨h1, e, h2, h3⟩
      · exact .inl ⟨h1, h2.skip HOKE.out⟩
      · exact .inr ⟨h1, e, h2.skip HOKE.out, h3⟩
    clear HCUR2
    go_wp2_with fail
    go_roundw
    case rel =>
      first
        | exact ⟨q + 1, by omega, by omega, by go_num, b, rfl, vs, Lc, HST2, HCN⟩
        | (repeat apply Exists.intro
           refine ⟨?_, rfl⟩
           exact ⟨q + 1, by omega, by omega, by go_num, b, rfl, vs, Lc, HST2, HCN⟩)
    case measure => simp [intOf]; omega
  obtain ⟨hcb1, hcb2⟩ := hcb
  simp only [if_true]
  go_upto_region 12 with fail
  go_cut [12] from 12 to 12 (fun s wx => Hid (s = .slice none 0 0) ∧ wx = X2)
  case first =>
    go_wp2_with fail
    go_meet
    exact ⟨rfl, rfl⟩
  case rest =>
  obtain ⟨hnil, rfl⟩ := hcut
  obtain ⟨X2, rfl⟩ : ∃ X : World, X = wc := ⟨_, rfl⟩
  obtain ⟨Aq, cq, hvq, hrq⟩ := HST2.out.rows q (by omega) (by omega)
  obtain ⟨lq, hlq⟩ : ∃ l, (pathF s n q).length = l := ⟨_, rfl⟩
  have hlq20 : lq ≤ 20 := by have := pathF_len (s := s) n q; omega
  rw [hlq] at hvq
  have hrq9 : OInts (max GL GC + 1) X2 (.slice Aq lq cq) (pathF s n q) := by rw [hlq] at hrq; exact hrq
  have HLQ := Lib.hid hlq
  have HVQ := Lib.hid hvq
  have HRQ := Lib.hid hrq9
  clear hvq hrq hrq9 hlq
  have HSZ : Hid (max GL GC + 1 ≤ X2.heap.size) := HST2.out.size
  have HU : Hid (∀ W : World, W.ownsRow X2.heap.size 3 1 u12 0 []) := fun W => by rw [hnil.out]; exact World.ownsRow_nil _ _ _ _
  have HAp : Hid (∀ v' W1, (X2.alloc (.cells #[.int .i64 (a : Int)] 3)).grownBy W1 u12.ownBlock → W1.ownsRow X2.heap.size 3 1 v' (0 + 1) ([] ++ [.int .i64 (a : Int)]) → Hid (OInts X2.heap.size W1 v' [(a : Int)]) ∧ Hid (Below X2.heap.size X2 W1)) := fun v' W1 hg ho => by
    refine ⟨ho, (below_alloc X2 _).grown hg (by simp) fun k hk => ?_⟩
    rw [hnil.out] at hk
    cases hk
  clear hnil
  go_upto_region 14 with (at_builtin; refine wpList_append_own _ rfl _ _ 30 rfl X2.heap.size 3 i0 _ 1 8 sliceInts hi0 hz0 hz1 hz2 rfl (by decide) u12 0 [] rfl ((HU.out _)) ⟨X2.heap.size, 0, none⟩ 1 1 [.int .i64 (a : Int)] rfl rfl (cells_new _ _ _) (by simp [Value.oneCell']) (by simp only [maxLen]; omega) (by omega) (by simp) ?_; intro v2' w10 hown' hgro _; obtain ⟨Av2, cv2, rfl⟩ := ownsRow_form hown'; obtain ⟨hrow1, hbel1⟩ := HAp.out _ _ hgro hown'; clear hown' hgro)
  have HRQ1 : Hid (RInts w10.heap.size w10 (.slice Aq lq cq) (pathF s n q)) := by
    have h := ownsRow_below HRQ.out hbel1.out
    have h9 := Rd.own h (own_le h)
    exact h9
  have HST3 := Lib.hid (HST2.out.below hbel1.out)
  have cq9 := HST3.out.cellL HVQ.out
  have hrow9 : OInts X2.heap.size w10 (.slice Av2 1 cv2) [(a : Int)] := hrow1.out
  have HRW := Lib.hid hrow9
  have hnl : ([(a : Int)] : List Int).length + (pathF s n q).length = lq + 1 := by rw [HLQ.out]; simp; omega
  have HNL := Lib.hid hnl
  have HZ10 : Hid (X2.heap.size ≤ w10.heap.size) := hbel1.out.size
  have HAq : Hid (∀ A c W2, OInts X2.heap.size W2 (.slice A (lq + 1) c) ([(a : Int)] ++ pathF s n q) → w10.grownBy W2 (Value.slice Av2 1 cv2).ownBlock → Hid (OInts X2.heap.size W2 (.slice A (lq + 1) c) ((a : Int) :: pathF s n q)) ∧ Hid (Below X2.heap.size X2 W2)) := fun A c W2 ho hg =>
    ⟨ho, hbel1.out.grown hg hbel1.out.size fun k hk => (HRW.out.lt k hk).1⟩
  have iq : (q : Int) < (n : Int) + 1 := by omega
  have iq0 : (0 : Int) ≤ (q : Int) := by omega
  clear hrow1 hrow9 hnl
  go_upto_region 15 with (at_builtin; refine wpList_append_ints rfl _ _ 30 rfl X2.heap.size i0 (.int .i64 0) sliceInts hi0 hz0 hz1 hz2 rfl (.slice Av2 1 cv2) (.slice Aq lq cq) [(a : Int)] (pathF s n q) w10.heap.size rfl rfl HRW.out HRQ1.out (lq + 1) HNL.out (by omega) HZ10.out ?_; intro A9 c9 W2 ho9 hg9; obtain ⟨hrow2, hbel2⟩ := HAq.out A9 c9 W2 ho9 hg9; clear ho9 hg9)
  clear cq9 HRW HRQ1 HAq HAp HU HST3 hbel1
  have HST4 := Lib.hid (HST2.out.below hbel2.out)
  have HCUR4 : Hid ((b = false ∧ NoneI s a q) ∨ (b = true ∧ ∃ e, CurI s a q e ∧ CurR s GL GC n a e vs Lc W2)) := by
    rcases HCUR2.out with h | ⟨h1, e, h2, h3⟩
    · exact .inl h
    · exact .inr ⟨h1, e, h2, h3.below hbel2.out⟩
  have HROW : Hid (OInts (max GL GC + 1) W2 (.slice A9 (lq + 1) c9) ((a : Int) :: pathF s n q)) := ownsRow_base hrow2.out HSZ.out
  have cC := HST4.out.cellC (j := q) (by omega)
  have hcq := HST4.out.cost q (by omega) (by omega)
  rw [hcq] at cC
  have hrb := restOf_bound HS.out (e := q) (by rw [HN.out]; omega)
  obtain ⟨rq, hrq⟩ : ∃ x, restOf s q = x := ⟨_, rfl⟩
  rw [hrq] at cC hrb
  have HVE : Hid (VE s a q = cs + rq) := by show _ = _; unfold VE; rw [HCS.out, hrq]
  obtain ⟨hrb1, hrb2⟩ := hrb
  have ia : (a : Int) < (n : Int) + 1 := by omega
  have ia0 : (0 : Int) ≤ (a : Int) := by omega
  have kw : IntKind.i64.wrap (cs + rq) = cs + rq := IntWalk.i64_in _ ⟨by omega, by omega⟩
  have hva : a < vs.length := by rw [HST4.out.lv]; omega
  clear HCUR2 HST2 hrow2 hbel2 hcq hrq HZ10
  -- what is taken
  have HTK : ∃ tk : Bool, Hid (tk = true → CurI s a (q + 1) q) ∧ Hid (tk = false → b = true ∧ ∃ e, CurI s a (q + 1) e ∧ CurR s GL GC n a e vs Lc W2) ∧
      Hid (b = true → ∃ e A c ca, CurI s a q e ∧ vs[a]? = some (.slice A ((pathF s n e).length + 1) c) ∧ OInts (max GL GC + 1) W2 (.slice A ((pathF s n e).length + 1) c) ((a : Int) :: pathF s n e) ∧ Lc.getD a 0 = ca ∧ ca = VE s a e ∧ tk = (decide (cs + rq < ca) || (decide (cs + rq = ca) && decide (q = n)))) ∧ Hid (b = false → tk = true) := by
    rcases HCUR4.out with ⟨rfl, h1⟩ | ⟨rfl, e, h1, h2⟩
    · exact ⟨true, fun _ => CurI.first h1 hq1 (by rw [HN.out]; omega) HOKE.out, fun h => (by cases h), fun h => (by cases h), fun _ => rfl⟩
    · refine ⟨decide (cs + rq < VE s a e) || (decide (cs + rq = VE s a e) && decide (q = n)), fun h => ?_, fun h => ?_, fun _ => ?_, fun h => (by cases h)⟩
      · refine h1.take (by rw [HN.out]; omega) HOKE.out ?_
        rw [HVE.out]
        rw [Bool.or_eq_true, Bool.and_eq_true, decide_eq_true_eq, decide_eq_true_eq, decide_eq_true_eq] at h
        rcases h with h | h
        · exact .inl h
        · exact .inr ⟨h.1, by rw [HN.out]; exact h.2⟩
      · refine ⟨rfl, e, h1.keep (by rw [HN.out]; omega) ?_, h2⟩
        rw [HVE.out]
        rw [Bool.or_eq_false_iff, Bool.and_eq_false_iff, decide_eq_false_iff_not, decide_eq_false_iff_not, decide_eq_false_iff_not] at h
        rcases h with ⟨h3, h4 | h4⟩
        · exact .inl (by omega)
        · rcases Int.lt_or_eq_of_le (Int.not_lt.1 h3) with h5 | h5
          · exact .inl h5
          · exact .inr ⟨h5.symm, by rw [HN.out]; exact h4⟩
      · obtain ⟨A, c, h3, h4, h5⟩ := h2
        exact ⟨e, A, c, _, h1, h3, h4, h5, rfl, rfl⟩
  obtain ⟨tk, HT1, HT2, HT3, HT4⟩ := HTK
  go_cut [89] from 54 to 89 (fun s wx => s = .bool tk ∧ Hid (Below W2.heap.size W2 wx))
  case first =>
    cases b
    case false =>
      obtain rfl : tk = true := HT4.out rfl
      clear HT1 HT2 HT3 HT4 HCUR4
      go_quiet (fail)
      go_wp2_with fail
      go_meet
      exact ⟨rfl, below_drewN (Below.refl _ _) _⟩
    case true =>
    obtain ⟨e, Ae, ce, ca, hci, hve, hre, hca, hca2, htk⟩ := HT3.out rfl
    have cA := HST4.out.cellC (j := a) (by omega)
    rw [hca] at cA
    have cL := HST4.out.cellL hve
    have HTK := Lib.hid htk
    have HRE := Lib.hid hre
    have HCI := Lib.hid hci
    obtain ⟨le, hle⟩ : ∃ l, (pathF s n e).length = l := ⟨_, rfl⟩
    rw [hle] at cL
    have HLE := Lib.hid hle
    clear HT1 HT2 HT3 HT4 HCUR4 hve hca hca2 htk hre hci hle
    by_cases h1 : cs + rq < ca
    · have g1 : decide (cs + rq < ca) = true := by simp; omega
      obtain rfl : tk = true := by rw [HTK.out, g1]; rfl
      go_quiet (fail)
      go_wp2_with fail
      go_meet
      exact ⟨rfl, below_drewN (Below.refl _ _) _⟩
    have g1 : decide (cs + rq < ca) = false := by simp; omega
    by_cases h2 : cs + rq = ca
    · have g2 : (cs + rq == ca) = true := by simp [h2]
      obtain ⟨dq, hdq⟩ : ∃ d, decide (q = n) = d := ⟨_, rfl⟩
      obtain rfl : tk = dq := by rw [HTK.out, g1, decide_eq_true h2, ← hdq]; rfl
      have HL : Hid (∀ Z, Below W2.heap.size W2 Z → Calls Try.prog 148 #[.slice A9 (lq + 1) c9, .slice Ae (le + 1) ce] Z fun e w' => e = .returned (.bool tk) ∧ Below Z.heap.size Z w') := fun Z hZ => by
        have h1 := ownsRow_below HROW.out hZ
        have h2 := ownsRow_below HRE.out hZ
        have h3 : RInts Z.heap.size Z (.slice A9 (lq + 1) c9) ((a : Int) :: pathF s n q) := by
          have h9 := Rd.own h1 (own_le h1)
          exact h9
        have h4 : RInts Z.heap.size Z (.slice Ae (le + 1) ce) ((a : Int) :: pathF s n e) := by
          rw [HLE.out] at h2
          have h9 := Rd.own h2 (own_le h2)
          exact h9
        have h5 := refLess_any _ _ _ _ Z h3 h4 (by have := HLQ.out; simp; omega) (by have := pathF_len (s := s) n e; simp; omega)
        have h6 := less_path HS.out (a := a) (e := e) (q := q) HCI.out.up (by rw [HN.out]; omega)
        rw [HN.out, hdq] at h6
        rw [h6] at h5
        exact h5
      have HSS : Hid (∀ Z, Below W2.heap.size W2 Z → Z.cell? ⟨GC, q, none⟩ = some (.int .i64 rq) ∧ Z.cell? ⟨GC, a, none⟩ = some (.int .i64 ca) ∧ Z.cell? ⟨GL, a, none⟩ = some (.slice Ae (le + 1) ce)) := fun Z hZ =>
        ⟨(hZ.cell (p := ⟨GC, q, none⟩) (World.block_lt_of_cell? W2 _ cC)).trans cC, (hZ.cell (p := ⟨GC, a, none⟩) (World.block_lt_of_cell? W2 _ cA)).trans cA, (hZ.cell (p := ⟨GL, a, none⟩) (World.block_lt_of_cell? W2 _ cL)).trans cL⟩
      clear hdq cC cA cL h2
      go_region_held3 (fun Z => Z.cell? ⟨GC, q, none⟩ = some (.int .i64 rq) ∧ Z.cell? ⟨GC, a, none⟩ = some (.int .i64 ca) ∧ Z.cell? ⟨GL, a, none⟩ = some (.slice Ae (le + 1) ce))
        (first | exact HSS.out _ hz9 | exact HSS.out _ (Below.refl _ _).drew)
        (first | (go_at_call 148; refine (HL.out W2.drew (Below.refl _ _).drew).mono ?_; rintro _ Y1 ⟨rfl, hy1⟩; have hz9 : Below W2.heap.size W2 Y1 := (Below.refl _ _).drew.trans hy1))
      have hz8 := Lib.hid hz9
      clear hz9 hy1 HL HSS
      go_wp2_with fail
      go_meet
      exact ⟨rfl, hz8.out⟩
    · have g2 : (cs + rq == ca) = false := by simpa using h2
      obtain rfl : tk = false := by rw [HTK.out, g1, decide_eq_false h2]; rfl
      go_quiet (fail)
      go_wp2_with fail
      go_meet
      exact ⟨rfl, below_drewN (Below.refl _ _) _⟩
  case rest =>
  obtain ⟨rfl, hb9⟩ := hcut
  obtain ⟨X3, rfl⟩ : ∃ X : World, X = wc := ⟨_, rfl⟩
  have HST5 := Lib.hid (HST4.out.below hb9.out)
  clear cC kw HT3 HT4 HCUR4
  cases tk
  case false =>
    have HCN : Hid ((b = false ∧ NoneI s a (q + 1)) ∨ (b = true ∧ ∃ e, CurI s a (q + 1) e ∧ CurR s GL GC n a e vs Lc X3)) := by
      obtain ⟨h1, e, h2, h3⟩ := HT2.out rfl
      exact .inr ⟨h1, e, h2, h3.below hb9.out⟩
    clear HT1 HT2 HST4 hb9
    go_wp2_with fail
    go_roundw
    case rel =>
      first
        | exact ⟨q + 1, by omega, by omega, by go_num, b, rfl, vs, Lc, HST5, HCN⟩
        | (repeat apply Exists.intro
           refine ⟨?_, rfl⟩
           exact ⟨q + 1, by omega, by omega, by go_num, b, rfl, vs, Lc, HST5, HCN⟩)
    case measure => simp [intOf]; omega
  have HSTP := Lib.hid (HST5.out.put HNE.out (.slice A9 (lq + 1) c9) (cs + rq))
  have HCN : Hid ((true = false ∧ NoneI s a (q + 1)) ∨ (true = true ∧ ∃ e, CurI s a (q + 1) e ∧ CurR s GL GC n a e (vs.set a (.slice A9 (lq + 1) c9)) (Lc.set a (cs + rq)) ((X3.setCell ⟨GL, a, none⟩ (.slice A9 (lq + 1) c9)).setCell ⟨GC, a, none⟩ (.int .i64 (cs + rq))))) := by
    have h1 := own_two (GL := GL) (GC := GC) (k := a) (v := .slice A9 (lq + 1) c9) (ownsRow_below HROW.out hb9.out) (.int .i64 (cs + rq))
    refine .inr ⟨rfl, q, HT1.out rfl, A9, c9, ?_, ?_, ?_⟩
    · rw [HLQ.out, List.getElem?_set_self hva]
    · rw [HLQ.out]
      exact h1
    · rw [getD_set, if_pos ⟨rfl, by rw [HST5.out.lc]; omega⟩]
      exact HVE.out.symm
  have cC := HST5.out.cellC (j := q) (by omega)
  rw [HST5.out.cost q (by omega) (by omega)] at cC
  have hrq : restOf s q = rq := by
    have h1 := HVE.out
    unfold VE at h1
    rw [HCS.out] at h1
    omega
  rw [hrq] at cC
  have cA := HST5.out.cellC (j := a) (by omega)
  obtain ⟨ca, hca⟩ : ∃ x, Lc.getD a 0 = x := ⟨_, rfl⟩
  rw [hca] at cA
  obtain ⟨va, hva9⟩ : ∃ v, vs[a]? = some v := ⟨_, List.getElem?_eq_getElem hva⟩
  have cL := HST5.out.cellL hva9
  have fL : X3.frozen? ⟨GL, a, none⟩ = false := HST5.out.bl.frozen _
  have fC : X3.frozen? ⟨GC, a, none⟩ = false := HST5.out.bc.frozen _
  have F6 : ∃ X4, X3.setCell ⟨GL, a, none⟩ (.slice A9 (lq + 1) c9) = X4 ∧ X4.cell? ⟨GC, q, none⟩ = some (.int .i64 rq) ∧ X4.cell? ⟨GC, a, none⟩ = some (.int .i64 ca) ∧ X4.frozen? ⟨GC, a, none⟩ = false := by
    have h1 := HST5.out.bc.far (p := ⟨GL, a, none⟩) (fun e => HNE.out e.symm) (.slice A9 (lq + 1) c9)
    exact ⟨_, rfl, (cell_far X3 ⟨GL, a, none⟩ ⟨GC, q, none⟩ _ HNE.out).trans cC, (cell_far X3 ⟨GL, a, none⟩ ⟨GC, a, none⟩ _ HNE.out).trans cA, h1.frozen _⟩
  obtain ⟨X4, e6, d0, d1, d2⟩ := F6
  rw [e6] at HSTP HCN
  have E6 := Lib.hid e6
  clear HT1 HT2 HST4 hb9 hrq hca hva9 hva e6 HST5 HROW cC cA fC
  go_upto_region 17 with fail
  rw [E6.out]
  clear cL fL E6
  go_wp2_with fail
  go_roundw
  case rel =>
    first
      | exact ⟨q + 1, by omega, by omega, by go_num, true, rfl, _, _, HSTP, HCN⟩
      | (repeat apply Exists.intro
         refine ⟨?_, rfl⟩
         exact ⟨q + 1, by omega, by omega, by go_num, true, rfl, _, _, HSTP, HCN⟩)
  case measure => simp [intOf]; omega
end Go.Proofs.Ytpkepacbondopaa

namespace Go.Proofs.Ytpkepacbondopaa
open Go.RowKit
attribute [local go_sem] Oper.semAt_some

set_option maxRecDepth 100000 in
set_option maxHeartbeats 2000000 in
theorem refSchedule_any (s : SupD) (v : Value) (w : World) (h : RSup w.heap.size w v s) :
    Calls Try.prog 68 #[v] w (SchedRet s w) := by
  have HSU := Lib.hid h
  obtain ⟨vn, vo, rfl, hN, hO⟩ := h
  obtain ⟨An, cn, rfl, hnm, -⟩ := hN.open_
  obtain ⟨Ao, co, rfl, hom, -⟩ := hO.open_
  obtain ⟨n, hn⟩ : ∃ m, s.need.length = m := ⟨_, rfl⟩
  obtain ⟨o, ho⟩ : ∃ m, s.order.length = m := ⟨_, rfl⟩
  rw [hn] at hnm HSU ⊢
  rw [ho] at hom HSU ⊢
  have HN := Lib.hid hn
  obtain ⟨r, hrr⟩ : ∃ r, checkS s = r := ⟨_, rfl⟩
  have HC := Lib.hid hrr
  have F0 : ∃ W0, w.alloc (.cells #[.slice An n cn, .slice Ao o co, .int .i64 s.keep, .int .i64 s.room] 138) = W0 ∧ Below w.heap.size w W0 ∧ Blk W0 w.heap.size 138 #[.slice An n cn, .slice Ao o co, .int .i64 s.keep, .int .i64 s.room] := ⟨_, rfl, below_alloc _ _, Blk.new _ _ _⟩
  obtain ⟨W0, e0, hb0, B0⟩ := F0
  have E0 := Lib.hid e0
  have CC := Lib.hid (refCheckSupply_any s _ W0 ((HSU.out.below hb0).more hb0.size))
  rw [hrr] at CC
  have HB0 := Lib.hid hb0
  have HK0 := Lib.hid B0
  have s0 := cellOf B0 0 (x := .slice An n cn) rfl
  have s1 := cellOf B0 1 (x := .slice Ao o co) rfl
  have s2 := cellOf B0 2 (x := .int .i64 s.keep) rfl
  have s3 := cellOf B0 3 (x := .int .i64 s.room) rfl
  clear hN hO hn ho e0 hb0 B0 hrr
  go_enter Try.func68, Try.ntmps68
  go_upto_region 1 with fail
  rw [E0.out]
  go_wp2_with fail
  refine CC.out.mono ?_
  rintro _ W1 ⟨rfl, hb1⟩
  have HB1 : Hid (Below w.heap.size w W1) := HB0.out.trans (hb1.mono HB0.out.size)
  have HK1 := Lib.hid (HK0.out.below hb1 HK0.out.lt)
  clear hb1 s0 s1 s2 s3 CC
  by_cases hr0 : r = 0
  case neg =>
    have HX : Hid (SchedRet s w (.returned (.tuple #[.slice none 0 0, .int .i64 0, .int .i64 r])) W1) := ⟨_, by rw [HC.out, if_neg hr0], by rw [HC.out, if_neg hr0]; exact World.ownsRow_nil _ _ _ _, HB1.out⟩
    have hr1 : (r != 0) = true := by simpa using hr0
    clear hr0
    go_wp2_with fail
    go_ret3
    exact HX.out
  subst hr0
  have HS := Lib.hid (checkS_ok HC.out)
  have hn20 : 1 ≤ n ∧ n ≤ 20 := by have := HS.out.weeks; have := HN.out; omega
  have CB := Lib.hid (best_any s HS.out _ W1 ((HSU.out.below HB1.out).more HB1.out.size))
  have s0 := cellOf HK1.out 0 (x := .slice An n cn) rfl
  have s1 := cellOf HK1.out 1 (x := .slice Ao o co) rfl
  have s2 := cellOf HK1.out 2 (x := .int .i64 s.keep) rfl
  have s3 := cellOf HK1.out 3 (x := .int .i64 s.room) rfl
  go_wp2_with fail
  refine CB.out.mono ?_
  rintro _ W2 ⟨GL, GC, n', vs, Lc, hn', rfl, hst⟩
  obtain rfl : n' = n := hn'.trans HN.out
  obtain ⟨A, c, hv, hr⟩ := hst.rows 0 (Nat.le_refl _) (Nat.zero_le _)
  have hc := hst.cost 0 (Nat.le_refl _) (Nat.zero_le _)
  have c0 := hst.cellC (j := 0) (Nat.zero_le _)
  have c1 := hst.cellL hv
  have hp : pathF s n' 0 = weeksOf s := by unfold weeksOf; rw [HN.out]
  rw [hc] at c0
  rw [hp] at c1 hr
  have HX : Hid (∀ X, Below W2.heap.size W2 X → SchedRet s w (.returned (.tuple #[.slice A (weeksOf s).length c, .int .i64 (restOf s 0), .int .i64 0])) X) := fun X hX => by
    refine ⟨_, by rw [HC.out, if_pos rfl]; rfl, ?_, HB1.out.trans ((hst.low.trans (hX.mono hst.low.size)).mono HB1.out.size)⟩
    rw [HC.out, if_pos rfl]
    exact ownsRow_base (ownsRow_below hr hX) (by have := hst.ol; have := HB1.out.size; omega)
  clear hst hv hr hc hp s0 s1 s2 s3 CB hn'
  have g1 : (0 : Int) < (n' : Int) + 1 := by omega
  obtain ⟨lw, hlw⟩ : ∃ x, (weeksOf s).length = x := ⟨_, rfl⟩
  obtain ⟨rs, hrs⟩ : ∃ x, restOf s 0 = x := ⟨_, rfl⟩
  rw [hlw] at c1 HX
  rw [hrs] at c0 HX
  clear hlw hrs
  go_upto_region 5 with fail
  go_quiet (fail)
  go_wp2_with fail
  go_ret3
  exact HX.out _ (below_drewN (Below.refl _ _) _)
set_option maxHeartbeats 2000000 in
theorem isSchedule_all (s : SupD) (l : List Int) (v u : Value) (w : World) (h : RSup w.heap.size w v s) (hm : s.need.length ≤ 20) (hu : RInts w.heap.size w u l) (hl : l.length ≤ 1000) (hcap : ∀ A n c, u = .slice A n c → n ≤ c) (hm1 : 0 < s.need.length) :
    Calls Try.prog 88 #[v, u] w fun e w' => e = .returned (.bool (schedB s.need.length l)) ∧ Below w.heap.size w w' := by
  obtain ⟨vn, vo, rfl, hN, hO⟩ := h
  obtain ⟨An, cn, rfl, hnm, -⟩ := hN.open_
  obtain ⟨m, hm9⟩ : ∃ m, s.need.length = m := ⟨_, rfl⟩
  rw [hm9] at hm hm1 ⊢
  have F0 : ∃ W0, w.alloc (.cells #[.slice An m cn, vo, .int .i64 s.keep, .int .i64 s.room] 33) = W0 ∧ Below w.heap.size w W0 ∧ Blk W0 w.heap.size 33 #[.slice An m cn, vo, .int .i64 s.keep, .int .i64 s.room] := ⟨_, rfl, below_alloc _ _, Blk.new _ _ _⟩
  obtain ⟨W0, e0, hb0, B0⟩ := F0
  have HU : Hid (RInts W0.heap.size W0 u l) := (hu.below hb0).more hb0.size
  obtain ⟨Au, cu, rfl, -, hr⟩ := HU.out.open_
  obtain ⟨n, hn⟩ : ∃ n, l.length = n := ⟨_, rfl⟩
  have hcu := hcap _ _ _ rfl
  rw [hn] at hcu
  clear hcap
  have Hn := Lib.hid hn
  rw [hn] at hr hl ⊢
  have HE : Hid (schedB m l = (decide (0 < n) && decide (l.getD 0 0 = 0) && (List.range (n - 1)).all (stepB m l))) := by show _ = _; unfold schedB; rw [hn]
  have E0 := Lib.hid e0
  have HB0 := Lib.hid hb0
  have HK0 := Lib.hid B0
  have HR := Lib.hid hr
  have s0 := cellOf B0 0 (x := .slice An m cn) rfl
  clear hN hO hnm hm9 e0 hb0 B0 hu hn HU
  by_cases h1 : n = 0
  · have HF : Hid (schedB m l = false) := by show _ = _; rw [HE.out]; simp [h1]
    have g1 : ((n : Int) == 0) = true := by simp; omega
    clear h1 hr
    go_enter Try.func88, Try.ntmps88
    go_upto_region 1 with fail
    rw [E0.out]
    go_wp2_with fail
    go_ret
    exact ⟨by rw [HF.out]; rfl, HB0.out⟩
  have g1 : ((n : Int) == 0) = false := by simp; omega
  have gn : 0 < n := by omega
  obtain ⟨b, o, x, rfl, hb, c0, hx⟩ := hr 0 (by omega)
  rw [Nat.add_zero] at c0
  by_cases h2 : x = 0
  case neg =>
    have g2 : (x != 0) = true := by simpa using h2
    have HF : Hid (schedB m l = false) := by show _ = _; rw [HE.out, hx.out]; simp [h2]
    clear h1 hr h2 hx hb
    go_enter Try.func88, Try.ntmps88
    go_upto_region 1 with fail
    rw [E0.out]
    go_wp2_with fail
    go_ret
    exact ⟨by rw [HF.out]; rfl, HB0.out⟩
  subst h2
  have HZ0 : Hid (l.getD 0 0 = 0) := hx.out
  have HF : Hid (schedB m l = (List.range (n - 1)).all (stepB m l)) := by show _ = _; rw [HE.out, hx.out]; simp [gn]
  clear h1 hr hx hb
  by_cases hn1 : n = 1
  · have HT : Hid (schedB m l = true) := by show _ = _; rw [HF.out, hn1]; rfl
    subst hn1
    by_cases hc1 : cu = 1
    all_goals
      go_enter Try.func88, Try.ntmps88
      go_upto_region 1 with fail
      rw [E0.out]
      go_wp2_with fail
      go_loopw [19] (fun i wr => i = .int .i64 0 ∧ wr = W0) (fun _ _ => 0)
      case atStart => exact ⟨rfl, rfl⟩
      case round =>
      obtain ⟨rfl, rfl⟩ := hrel
      go_wp2_with fail
      go_ret
      exact ⟨by rw [HT.out]; rfl, HB0.out⟩
  have hc1 : ¬ cu = 1 := by omega
  clear hcu hn1
  go_enter Try.func88, Try.ntmps88
  go_upto_region 1 with fail
  rw [E0.out]
  go_wp2_with fail
  clear c0 s0 hc1
  obtain ⟨n1, hn1⟩ : ∃ a, n - 1 = a := ⟨_, rfl⟩
  rw [hn1]
  go_loopw [19] (fun i wr => ∃ k : Nat, k ≤ n1 ∧ i = .int .i64 (k : Int) ∧ Hid (∀ j, j < k → stepB m l j = true) ∧ Hid (Below W0.heap.size W0 wr)) (fun i _ => n1 - (intOf i).toNat)
  case atStart => exact ⟨0, Nat.zero_le _, rfl, fun j hj => absurd hj (Nat.not_lt_zero _), Below.refl _ _⟩
  case round =>
  obtain ⟨k, hk, rfl, hall, hB⟩ := hrel
  obtain ⟨V, rfl⟩ : ∃ V : World, V = wr := ⟨_, rfl⟩
  by_cases hlt : k < n1
  case neg =>
    have HT : Hid (schedB m l = true) := by
      show _ = _
      rw [HF.out, hn1]
      exact List.all_eq_true.2 fun j hj => hall.out j (by have := List.mem_range.1 hj; omega)
    have HB9 : Hid (Below w.heap.size w V) := HB0.out.trans (hB.out.mono HB0.out.size)
    clear hn1 hall hB
    go_wp2_with fail
    go_ret
    exact ⟨by rw [HT.out]; rfl, HB9.out⟩
  obtain ⟨g1', o1, x, e1, hg1, c0, hx⟩ := HR.out k (by omega)
  injection e1 with e1
  injection e1 with e1 e2
  subst e1
  subst e2
  obtain ⟨g2', o2, y, e2, hg2, d0, hy⟩ := HR.out (k + 1) (by omega)
  injection e2 with e1
  injection e1 with e1 e2
  subst e1
  subst e2
  rw [show o + (k + 1) = o + 1 + k by omega] at d0
  rw [← hB.out.cell (p := ⟨b, o + k, none⟩) hg1] at c0
  rw [← hB.out.cell (p := ⟨b, o + 1 + k, none⟩) hg1] at d0
  have hxb := sched_in (m := m) hm1 HZ0.out k hall.out
  rw [hx.out] at hxb
  obtain ⟨hx0, hx1⟩ := hxb
  obtain ⟨z, hz⟩ : ∃ z, x + 1 = z := ⟨_, rfl⟩
  obtain ⟨mm, hmm⟩ : ∃ z, (m : Int) - 1 = z := ⟨_, rfl⟩
  obtain ⟨b5, hb5⟩ : ∃ b, withinB y (x + 1) ((m : Int) - 1) = b := ⟨_, rfl⟩
  have C5 : Hid (∀ W, Calls Try.prog 75 #[.int .i64 y, .int .i64 (x + 1), .int .i64 ((m : Int) - 1)] W fun e w' => e = .returned (.bool b5) ∧ w' = W) := fun W => (within_let hb5 W).mono fun e w' h => ⟨h.1, h.2.symm⟩
  have HW : Hid (stepB m l k = b5) := by show _ = _; unfold stepB; rw [hx.out, hy.out, hb5]
  have kw1 : IntKind.i64.wrap (x + 1) = x + 1 := IntWalk.i64_in _ ⟨by omega, by omega⟩
  have kw2 : IntKind.i64.wrap ((m : Int) - 1) = (m : Int) - 1 := IntWalk.i64_in _ ⟨by omega, by omega⟩
  have HKV := Lib.hid (HK0.out.below hB.out HK0.out.lt)
  have s0 := cellOf HKV.out 0 (x := .slice An m cn) rfl
  have hkn : k < n := by omega
  have HBV : Hid (Below w.heap.size w V) := HB0.out.trans (hB.out.mono HB0.out.size)
  have HN1 := Lib.hid hn1
  clear hb5 hx hy hn1 hz hmm hg2
  go_upto_region 6 with fail
  go_cut [35] (fun s wx => s = .bool (!b5) ∧ Hid (Below V.heap.size V wx))
  case first =>
    go_quiet ((go_at_call 75; refine Calls.quiet_of_same (C5.out _)))
    all_goals
      go_wp2_with fail
      go_meet
      exact ⟨rfl, below_drewN (Below.refl _ _) _⟩
  case rest =>
  obtain ⟨rfl, hb9⟩ := hcut
  obtain ⟨V2, rfl⟩ : ∃ X, X = wc := ⟨_, rfl⟩
  have HB2 : Hid (Below w.heap.size w V2) := HBV.out.trans (hb9.out.mono HBV.out.size)
  have HB3 : Hid (Below W0.heap.size W0 V2) := hB.out.trans (hb9.out.mono hB.out.size)
  clear hb9 hB c0 d0 s0 HKV C5
  cases b5
  · have HT : Hid (schedB m l = false) := by
      show _ = _
      rw [HF.out, HN1.out]
      refine Bool.eq_false_iff.2 fun h9 => ?_
      have := List.all_eq_true.1 h9 k (List.mem_range.2 hlt)
      rw [HW.out] at this
      cases this
    go_wp2_with fail
    go_ret
    exact ⟨by rw [HT.out]; rfl, HB2.out⟩
  · have HA : Hid (∀ j, j < k + 1 → stepB m l j = true) := fun j hj => by
      rcases Nat.lt_or_ge j k with h | h
      · exact hall.out j h
      · obtain rfl : j = k := by omega
        exact HW.out
    clear hall
    go_wp2_with fail
    go_roundw
    case rel => exact ⟨k + 1, by omega, by go_num, HA, HB3⟩
    case measure => simp [intOf]; omega
end Go.Proofs.Ytpkepacbondopaa
