/-
  weekdays, areDays, areHolidays.
-/
import Derived.Test.YtlmpbmlbllndcaaMal
namespace Go.Proofs.Ytlmpbmlbllndcaa
open Go.RowKit
attribute [local go_sem] Oper.semAt_some

theorem wkF_bd (x a b : Int) (ha : 0 ≤ a) (hb : b ≤ 20000) : -30000 ≤ wkF x a b ∧ wkF x a b ≤ 30000 := by
  unfold wkF
  split
  · omega
  · have h1 := befN_le x.toNat (b + 1).toNat (by omega)
    have h2 := befN_le x.toNat a.toNat (by omega)
    omega
set_option maxRecDepth 100000 in
set_option maxHeartbeats 4000000 in
theorem weekdays_any (id fr to_ dy : Int) (hx : 0 ≤ dy ∧ dy < 128) (u : Value) (a b : Int) (ha : 0 ≤ a) (hb : b ≤ 20000) (w : World) :
    Calls Try.prog 136 #[.agg #[.int .i64 id, .int .i64 fr, .int .i64 to_, .int .i64 dy, u], .int .i64 a, .int .i64 b] w fun e w' => e = .returned (.int .i64 (wkF dy a b)) ∧ Below w.heap.size w w' := by
  obtain ⟨x, rfl⟩ : ∃ x : Nat, dy = (x : Int) := ⟨dy.toNat, by omega⟩
  obtain ⟨r, hr⟩ : ∃ r, wkF (x : Int) a b = r := ⟨_, rfl⟩
  have HRB := wkF_bd x a b ha hb
  rw [hr] at HRB ⊢
  obtain ⟨hr1, hr2⟩ := HRB
  have HR : Hid (r = if b < a then 0 else (befN x (b + 1).toNat : Int) - befN x a.toNat) := by show _ = _; rw [← hr]; rfl
  clear hr
  have F0 : ∃ W0, w.alloc (.cells #[.int .i64 id, .int .i64 fr, .int .i64 to_, .int .i64 (x : Int), u] 42) = W0 ∧ Hid (Below w.heap.size w W0) ∧ Hid (Blk W0 w.heap.size 42 #[.int .i64 id, .int .i64 fr, .int .i64 to_, .int .i64 (x : Int), u]) := ⟨_, rfl, below_alloc _ _, Blk.new _ _ _⟩
  obtain ⟨W0, e0, HB0, HK0⟩ := F0
  have E0 := Lib.hid e0
  obtain ⟨p, hp⟩ : ∃ p, w.heap.size = p := ⟨_, rfl⟩
  have HP := Lib.hid hp
  clear e0 hp
  by_cases hlt : b < a
  · have HX : Hid ((0 : Int) = r) := by show _ = _; rw [HR.out, if_pos hlt]
    go_enter Try.func136, Try.ntmps136
    go_upto_region 1 with fail
    rw [E0.out]
    go_wp2_with fail
    go_ret
    exact ⟨ri HX.out.symm, HB0.out⟩
  obtain ⟨m, rfl⟩ : ∃ m : Nat, a = (m : Int) := ⟨a.toNat, by omega⟩
  obtain ⟨k, rfl⟩ : ∃ k : Nat, b = (k : Int) := ⟨b.toNat, by omega⟩
  obtain ⟨A, hA⟩ : ∃ A, befN x (k + 1) = A := ⟨_, rfl⟩
  obtain ⟨B, hB⟩ : ∃ B, befN x m = B := ⟨_, rfl⟩
  have hA2 : A ≤ 30000 := by rw [← hA]; exact befN_le _ _ (by omega)
  have hB2 : B ≤ 30000 := by rw [← hB]; exact befN_le _ _ (by omega)
  have HX : Hid ((A : Int) - B = r) := by
    show _ = _
    rw [HR.out, if_neg hlt, show ((k : Int) + 1).toNat = k + 1 by omega, show ((m : Int)).toNat = m by omega, hA, hB]
  have S0 : Hid (∀ X, Below W0.heap.size W0 X → X.cell? ⟨p, 0, none⟩ = some (.int .i64 id) ∧ X.cell? ⟨p, 1, none⟩ = some (.int .i64 fr) ∧ X.cell? ⟨p, 2, none⟩ = some (.int .i64 to_) ∧ X.cell? ⟨p, 3, none⟩ = some (.int .i64 (x : Int)) ∧ X.cell? ⟨p, 4, none⟩ = some u) := fun X hX => by
    have h := HK0.out.below hX HK0.out.lt
    rw [HP.out] at h
    exact ⟨cellOf h 0 rfl, cellOf h 1 rfl, cellOf h 2 rfl, cellOf h 3 rfl, cellOf h 4 rfl⟩
  have C1 : Hid (∀ W, Below W0.heap.size W0 W → Calls Try.prog 147 #[.agg #[.int .i64 id, .int .i64 fr, .int .i64 to_, .int .i64 (x : Int), u], .int .i64 ((k : Int) + 1)] W fun e w' => e = .returned (.int .i64 (A : Int)) ∧ Hid (Below W0.heap.size W0 w') ∧ (w'.cell? ⟨p, 0, none⟩ = some (.int .i64 id) ∧ w'.cell? ⟨p, 1, none⟩ = some (.int .i64 fr) ∧ w'.cell? ⟨p, 2, none⟩ = some (.int .i64 to_) ∧ w'.cell? ⟨p, 3, none⟩ = some (.int .i64 (x : Int)) ∧ w'.cell? ⟨p, 4, none⟩ = some u)) := fun W hW => (wkBefore_any id fr to_ x (by omega) u (k + 1) (by omega) W).mono fun e w' h => by
      have h1 := hW.trans (h.2.mono hW.size)
      exact ⟨by rw [h.1, hA], h1, S0.out _ h1⟩
  have C2 : Hid (∀ W, Below W0.heap.size W0 W → Calls Try.prog 147 #[.agg #[.int .i64 id, .int .i64 fr, .int .i64 to_, .int .i64 (x : Int), u], .int .i64 (m : Int)] W fun e w' => e = .returned (.int .i64 (B : Int)) ∧ Hid (Below W0.heap.size W0 w') ∧ (w'.cell? ⟨p, 0, none⟩ = some (.int .i64 id) ∧ w'.cell? ⟨p, 1, none⟩ = some (.int .i64 fr) ∧ w'.cell? ⟨p, 2, none⟩ = some (.int .i64 to_) ∧ w'.cell? ⟨p, 3, none⟩ = some (.int .i64 (x : Int)) ∧ w'.cell? ⟨p, 4, none⟩ = some u)) := fun W hW => (wkBefore_any id fr to_ x (by omega) u m (by omega) W).mono fun e w' h => by
      have h1 := hW.trans (h.2.mono hW.size)
      exact ⟨by rw [h.1, hB], h1, S0.out _ h1⟩
  have S1 := S0.out W0 (Below.refl _ _)
  have HD0 : Hid (Below W0.heap.size W0 W0.drew) := (Below.refl _ _).drew
  have hk0 : (0 : Int) ≤ (k : Int) + 1 := by omega
  have hk2 : (k : Int) + 1 ≤ 20001 := by omega
  have hk1 : IntKind.i64.wrap ((k : Int) + 1) = (k : Int) + 1 := IntWalk.i64_in _ ⟨by omega, by omega⟩
  have hsb : IntKind.i64.wrap ((A : Int) - B) = (A : Int) - B := IntWalk.i64_in _ ⟨by omega, by omega⟩
  clear hA hB ha hb
  go_enter Try.func136, Try.ntmps136
  go_upto_region 1 with fail
  rw [E0.out]
  clear E0
  go_upto_region 3 with fail
  rw [HP.out]
  go_region_held3 (fun X => X.cell? ⟨p, 0, none⟩ = some (.int .i64 id) ∧ X.cell? ⟨p, 1, none⟩ = some (.int .i64 fr) ∧ X.cell? ⟨p, 2, none⟩ = some (.int .i64 to_) ∧ X.cell? ⟨p, 3, none⟩ = some (.int .i64 (x : Int)) ∧ X.cell? ⟨p, 4, none⟩ = some u) (first | with_reducible exact T2 | with_reducible exact T1 | with_reducible exact S1 | go_keep)
    (first | (go_at_call 147; with_reducible refine (C1.out _ HD0.out).mono ?_; rintro _ y1 ⟨rfl, H1, T1⟩)
           | (go_at_call 147; with_reducible refine (C2.out _ HD0.out).mono ?_; rintro _ y1 ⟨rfl, H1, T1⟩)
           | (go_at_call 147; with_reducible refine (C1.out _ H1.out).mono ?_; rintro _ y2 ⟨rfl, H2, T2⟩)
           | (go_at_call 147; with_reducible refine (C2.out _ H1.out).mono ?_; rintro _ y2 ⟨rfl, H2, T2⟩))
  all_goals
    clear S1 hk1 hsb
    go_wp2_with fail
    go_ret
    exact ⟨ri HX.out.symm, HB0.out.trans (H2.out.mono HB0.out.size)⟩
/-- Whether two numbers are the first and the last one of some days. -/
def dayB (a b : Int) : Bool := inB a 0 b && decide (b ≤ 20000)
theorem dayB_iff {a b : Int} : dayB a b = true ↔ 0 ≤ a ∧ a ≤ b ∧ b ≤ 20000 := by
  unfold dayB
  rw [Bool.and_eq_true, inB_iff, decide_eq_true_eq]
  omega
theorem areDays_any (a b : Int) (w : World) : Calls Try.prog 87 #[.int .i64 a, .int .i64 b] w fun e w' => e = .returned (.bool (dayB a b)) ∧ w = w' := by
  obtain ⟨c, hc⟩ : ∃ c, inB a 0 b = c := ⟨_, rfl⟩
  have C1 := Lib.hid (fun w => within_any a 0 b w)
  rw [hc] at C1
  have HE : Hid (dayB a b = (c && decide (b ≤ 20000))) := by show _ = _; rw [← hc]; rfl
  clear hc
  cases c
  · go_enter Try.func87, Try.ntmps87
    go_wp2_with (go_at_call 74; with_reducible refine (C1.out _).mono ?_; rintro e w' ⟨rfl, rfl⟩)
    go_ret
    exact ⟨by rw [HE.out]; rfl, rfl⟩
  · by_cases h : b ≤ 20000
    · have HE2 : Hid (dayB a b = true) := by show _ = _; rw [HE.out, decide_eq_true h]; rfl
      go_enter Try.func87, Try.ntmps87
      go_wp2_with (go_at_call 74; with_reducible refine (C1.out _).mono ?_; rintro e w' ⟨rfl, rfl⟩)
      go_ret
      exact ⟨by rw [HE2.out]; rfl, rfl⟩
    · have HE2 : Hid (dayB a b = false) := by show _ = _; rw [HE.out, decide_eq_false h]; rfl
      go_enter Try.func87, Try.ntmps87
      go_wp2_with (go_at_call 74; with_reducible refine (C1.out _).mono ?_; rintro e w' ⟨rfl, rfl⟩)
      go_ret
      exact ⟨rb (HE2.out.trans (decide_eq_false (by omega)).symm), rfl⟩
def SpanD.cells (x : SpanD) : List Value := [.int .i64 x.lo, .int .i64 x.hi]
def RSpans (B : Nat) (w : World) (v : Value) (l : List SpanD) : Prop := Rd B w 2 v l.length (l.flatMap SpanD.cells)
theorem spans_later {w : World} {v : Value} {l : List SpanD} (h : RSpans w.heap.size w v l) : ∃ A c, v = .slice A l.length c ∧ l.length ≤ 9223372036854775807 ∧ Hid (∀ k x, l[k]? = some x → ∃ g o, A = some ⟨g, o, none⟩ ∧ Hid (∀ X, Below w.heap.size w X → X.cell? ⟨g, o + k * 2, none⟩ = some (.int .i64 x.lo) ∧ X.cell? ⟨g, o + k * 2 + 1, none⟩ = some (.int .i64 x.hi))) := by
  obtain ⟨A, c, rfl, -, hm, hr⟩ := h
  refine ⟨A, c, rfl, by simpa [maxLen] using hm, fun k x hx => ?_⟩
  have hk : k < l.length := (List.getElem?_eq_some_iff.1 hx).1
  obtain ⟨g, o, hA, hb, hc⟩ := hr (by omega)
  have hf := fun j hj => flat_at SpanD.cells 2 (fun _ => rfl) _ k j _ hx hj
  exact ⟨g, o, hA, fun X hX => ⟨(hX.cell (p := ⟨g, o + k * 2, none⟩) hb).trans (hc _ _ (hf 0 (by omega))), (hX.cell (p := ⟨g, o + k * 2 + 1, none⟩) hb).trans (hc _ _ (hf 1 (by omega)))⟩⟩
/-- Whether holidays follow each other, none before first. -/
def holR : Int → List SpanD → Bool
  | _, [] => true
  | first, h :: l => (!decide (h.lo < first) && dayB h.lo h.hi) && holR (h.hi + 2) l
def holB (l : List SpanD) : Bool := decide (l.length ≤ 20) && holR 0 l
theorem holR_ok : ∀ {l : List SpanD} {first : Int}, holR first l = true → HolOk first l
  | [], _, _ => trivial
  | h :: l, first, hr => by
    unfold holR at hr
    rw [Bool.and_eq_true, Bool.and_eq_true, dayB_iff, Bool.not_eq_true', decide_eq_false_iff_not] at hr
    exact ⟨by omega, by omega, by omega, holR_ok hr.2⟩
theorem holR_of : ∀ {l : List SpanD} {first : Int}, 0 ≤ first → HolOk first l → holR first l = true
  | [], _, _, _ => rfl
  | h :: l, first, h0, ⟨h1, h2, h3, h4⟩ => by
    unfold holR
    rw [Bool.and_eq_true, Bool.and_eq_true, dayB_iff, Bool.not_eq_true', decide_eq_false_iff_not]
    exact ⟨⟨by omega, by omega, by omega, by omega⟩, holR_of (by omega) h4⟩
theorem drop_cons {α : Type} {l : List α} {k : Nat} {x : α} (h : l[k]? = some x) : l.drop k = x :: l.drop (k + 1) := by
  obtain ⟨hk, hx⟩ := List.getElem?_eq_some_iff.1 h
  rw [List.drop_eq_getElem_cons hk, hx]
set_option maxRecDepth 100000 in
set_option maxHeartbeats 2000000 in
theorem areHol_any (l : List SpanD) (v : Value) (w : World) (h : RSpans w.heap.size w v l) : Calls Try.prog 135 #[v] w fun e w' => e = .returned (.bool (holB l)) ∧ Below w.heap.size w w' := by
  obtain ⟨A, c, rfl, hlm, HD⟩ := spans_later h
  obtain ⟨n, hn⟩ : ∃ n, l.length = n := ⟨_, rfl⟩
  obtain ⟨r, hr⟩ : ∃ r, holB l = r := ⟨_, rfl⟩
  have HR : Hid (r = (decide (n ≤ 20) && holR 0 l)) := by show _ = _; rw [← hr, ← hn]; rfl
  rw [hn] at hlm
  rw [hn, hr]
  have HN := Lib.hid hn
  clear h hn hr
  by_cases h4 : 20 < n
  · have HX : Hid (false = r) := by show _ = _; rw [HR.out, decide_eq_false (by omega)]; rfl
    go_enter Try.func135, Try.ntmps135
    go_wp2
    go_ret
    exact ⟨rb HX.out.symm, Below.refl _ _⟩
  have HR2 : Hid (r = holR 0 l) := by show _ = _; rw [HR.out, decide_eq_true (by omega)]; rfl
  clear HR
  go_enter Try.func135, Try.ntmps135
  go_wp2_with fail
  go_loopw [3, 11] (fun s i wr => ∃ k : Nat, k ≤ n ∧ i = .int .i64 k ∧ ∃ f : Int, s = .int .i64 f ∧ 0 ≤ f ∧ f ≤ 20002 ∧ Hid (r = holR f (l.drop k)) ∧ Hid (Below w.heap.size w wr)) (fun _ i _ => n - (intOf i).toNat)
  case atStart => exact ⟨0, Nat.zero_le _, rfl, 0, rfl, by omega, by omega, HR2.out, Below.refl _ _⟩
  case round =>
  clear HR2
  obtain ⟨k, hk, rfl, f, rfl, hf1, hf2, hr, hB⟩ := hrel
  obtain ⟨X, rfl⟩ : ∃ X : World, X = wr := ⟨_, rfl⟩
  by_cases hlt : k < n
  · obtain ⟨x, hx⟩ : ∃ x, l[k]? = some x := ⟨_, List.getElem?_eq_getElem (by rw [HN.out]; exact hlt)⟩
    obtain ⟨g, o, rfl, HX⟩ := HD.out k x hx
    obtain ⟨c0, c1⟩ := HX.out X hB.out
    have F1 : ∃ X1, X.alloc (.cells #[.int .i64 x.lo, .int .i64 x.hi] 87) = X1 ∧ Hid (Below X.heap.size X X1) ∧ Hid (Blk X1 X.heap.size 87 #[.int .i64 x.lo, .int .i64 x.hi]) := ⟨_, rfl, below_alloc _ _, Blk.new _ _ _⟩
    obtain ⟨X1, e1, HX1, HK1⟩ := F1
    have E1 := Lib.hid e1
    have HB1 : Hid (Below w.heap.size w X1) := hB.out.trans (HX1.out.mono hB.out.size)
    have d0 := cellOf HK1.out 0 (x := .int .i64 x.lo) rfl
    have d1 := cellOf HK1.out 1 (x := .int .i64 x.hi) rfl
    have HRR : Hid (r = ((!decide (x.lo < f) && dayB x.lo x.hi) && holR (x.hi + 2) (l.drop (k + 1)))) := by show _ = _; rw [hr.out, drop_cons hx]; rfl
    have k0 : (0 : Int) ≤ (k : Int) := by omega
    have k1 : (k : Int) < (n : Int) := by omega
    clear hx e1 hB HX hr
    by_cases hfl : x.lo < f
    · have HXE : Hid (false = r) := by show _ = _; rw [HRR.out, decide_eq_true hfl]; rfl
      go_upto_region 7 with fail
      rw [E1.out]
      clear E1 c0 c1
      go_wp2_with fail
      go_ret
      exact ⟨rb HXE.out.symm, HB1.out⟩
    · have HRR2 : Hid (r = (dayB x.lo x.hi && holR (x.hi + 2) (l.drop (k + 1)))) := by show _ = _; rw [HRR.out, decide_eq_false hfl]; rfl
      have CD := Lib.hid (areDays_any x.lo x.hi X1)
      obtain ⟨db, hdb⟩ : ∃ b, dayB x.lo x.hi = b := ⟨_, rfl⟩
      rw [hdb] at CD
      have HDB := Lib.hid hdb
      clear hdb HRR
      go_upto_region 7 with fail
      rw [E1.out]
      clear E1 c0 c1
      go_wp2_with fail
      refine CD.out.mono ?_
      rintro _ Y ⟨rfl, rfl⟩
      clear CD
      cases db
      · have HXE : Hid (false = r) := by show _ = _; rw [HRR2.out, HDB.out]; rfl
        go_wp2_with fail
        go_ret
        exact ⟨rb HXE.out.symm, HB1.out⟩
      · have HR3 : Hid (r = holR (x.hi + 2) (l.drop (k + 1))) := by show _ = _; rw [HRR2.out, HDB.out]; rfl
        obtain ⟨e1, e2, e3⟩ := dayB_iff.1 HDB.out
        go_wp2_with fail
        go_roundw
        case rel => exact ⟨k + 1, by omega, by go_num, _, rfl, by omega, by omega, HR3, HB1⟩
        case measure => simp [intOf]; omega
  · have HXE : Hid (true = r) := by show _ = _; rw [hr.out, List.drop_of_length_le (by rw [HN.out]; omega)]; rfl
    go_wp2_with fail
    go_ret
    exact ⟨rb HXE.out.symm, hB.out⟩
end Go.Proofs.Ytlmpbmlbllndcaa
