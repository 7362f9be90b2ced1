/-
  A round of Proves.
-/
import Derived.RangeFuncFrom
import Derived.Test.YtpkepacbondopaaLu
import Derived.Test.YtpkepacbondopaaZd
namespace Go.Proofs.Ytpkepacbondopaa
open Go.RowKit Go.Shelf
attribute [local go_sem] Oper.semAt_some

noncomputable def pvLoop (k : Nat) : Code := (Try.f35.body.bind (loopAt k)).getD .skip
def PvOk (s : SupD) (p : List Int) (k : Nat) (l : List (Bt s k)) : Prop := ∀ z ∈ l, p.getD z.1 0 ≤ p.getD k 0 + costE s k z.1
def PvBad (s : SupD) (p : List Int) (k : Nat) (l : List (Bt s k)) : Prop := ∃ z, z ∈ l ∧ ¬ p.getD z.1 0 ≤ p.getD k 0 + costE s k z.1
/-- The week's batches cost what the prices rise by, at least. -/
def WkOk (s : SupD) (p : List Int) (k : Nat) : Prop := ∀ e ∈ batchN s k, p.getD e 0 ≤ p.getD k 0 + costE s k e
set_option maxRecDepth 1000000 in
set_option maxHeartbeats 4000000 in
theorem proves_round (u0 u1 u6 u7 u8 u9 u10 u11 u12 u13 u14 u15 u16 u17 u18 u19 u20 u23 u24 u25 u26 u27 u28 u29 u30 u31 u32 u33 u34 u35 u36 u37 u38 u39 u40 u41 u42 u43 u44 u45 u46 u47 : Value) {s : SupD} {p : List Int} {m cn co cu gu ou k : Nat} {An Ao : Option Addr} {ds : List Deferred} {w X : World} {Q : Exit → Act → World → Prop}
    (hs : Hid s.Ok) (hm : Hid (s.need.length = m)) (hk : k < m) (hm20 : m ≤ 20) (hsup : Hid (RSup w.heap.size w (.agg #[.slice An s.need.length cn, .slice Ao s.need.length co, .int .i64 s.keep, .int .i64 s.room]) s)) (hst : Hid (PvSt w s An Ao (some ⟨gu, ou, none⟩) cn co (m + 1) cu 0 0 ds X))
    (hp : Hid (∀ X, Below w.heap.size w X → ∀ j, j ≤ m → X.cell? ⟨gu, ou + j, none⟩ = some (.int .i64 (p.getD j 0)))) (hpb : Hid (∀ j, j ≤ m → -1000000000000 ≤ p.getD j 0 ∧ p.getD j 0 ≤ 1000000000000))
    (hQ : Hid (∀ (x7 x8 x9 x23 x24 x25 x26 x27 x28 x29 x30 x31 x32 x33 x34 x35 x36 x37 x38 x39 x40 x41 : Value) (ds' : List Deferred) (Y : World), PvSt w s An Ao (some ⟨gu, ou, none⟩) cn co (m + 1) cu 0 0 ds' Y → WkOk s p k → Q .normal ⟨List.toArray (u0 :: u1 :: (.pointer (some ⟨w.heap.size, 0, none⟩)) :: (.pointer (some ⟨w.heap.size + 1, 0, none⟩)) :: (.pointer (some ⟨w.heap.size + 1 + 1, 0, none⟩)) :: (.pointer (some ⟨w.heap.size + 1 + 1 + 1, 0, none⟩)) :: u6 :: x7 :: x8 :: x9 :: u10 :: u11 :: u12 :: u13 :: u14 :: u15 :: u16 :: u17 :: u18 :: u19 :: u20 :: (.int .i64 (m : Int)) :: (.int .i64 ((k : Int) + 1)) :: x23 :: x24 :: x25 :: x26 :: x27 :: x28 :: x29 :: x30 :: x31 :: x32 :: x33 :: x34 :: x35 :: x36 :: x37 :: x38 :: x39 :: x40 :: x41 :: u42 :: u43 :: u44 :: u45 :: u46 :: u47 :: []), ds'⟩ Y))
    (hQr : Hid (∀ (x7 x8 x9 x23 x24 x25 x26 x27 x28 x29 x30 x31 x32 x33 x34 x35 x36 x37 x38 x39 x40 x41 : Value) (ds' : List Deferred) (Y : World), PvSt w s An Ao (some ⟨gu, ou, none⟩) cn co (m + 1) cu 0 7 ds' Y → ¬ WkOk s p k → Q .ret ⟨List.toArray (u0 :: u1 :: (.pointer (some ⟨w.heap.size, 0, none⟩)) :: (.pointer (some ⟨w.heap.size + 1, 0, none⟩)) :: (.pointer (some ⟨w.heap.size + 1 + 1, 0, none⟩)) :: (.pointer (some ⟨w.heap.size + 1 + 1 + 1, 0, none⟩)) :: u6 :: x7 :: x8 :: x9 :: u10 :: u11 :: u12 :: u13 :: u14 :: u15 :: u16 :: u17 :: u18 :: u19 :: u20 :: (.int .i64 (m : Int)) :: (.int .i64 (k : Int)) :: x23 :: x24 :: x25 :: x26 :: x27 :: x28 :: x29 :: x30 :: x31 :: x32 :: x33 :: x34 :: x35 :: x36 :: x37 :: x38 :: x39 :: x40 :: x41 :: u42 :: u43 :: u44 :: u45 :: u46 :: u47 :: []), ds'⟩ Y)) :
    Code.wp Try.prog (pvLoop 7) Q ⟨List.toArray (u0 :: u1 :: (.pointer (some ⟨w.heap.size, 0, none⟩)) :: (.pointer (some ⟨w.heap.size + 1, 0, none⟩)) :: (.pointer (some ⟨w.heap.size + 1 + 1, 0, none⟩)) :: (.pointer (some ⟨w.heap.size + 1 + 1 + 1, 0, none⟩)) :: u6 :: u7 :: u8 :: u9 :: u10 :: u11 :: u12 :: u13 :: u14 :: u15 :: u16 :: u17 :: u18 :: u19 :: u20 :: (.int .i64 (m : Int)) :: (.int .i64 (k : Int)) :: u23 :: u24 :: u25 :: u26 :: u27 :: u28 :: u29 :: u30 :: u31 :: u32 :: u33 :: u34 :: u35 :: u36 :: u37 :: u38 :: u39 :: u40 :: u41 :: u42 :: u43 :: u44 :: u45 :: u46 :: u47 :: []), ds⟩ X := by
  have hki : (k : Int) < (m : Int) := by omega
  have hkl : k < s.need.length := by rw [hm.out]; exact hk
  have F1 : ∃ X1, X.alloc (.cells #[.int .i64 (k : Int)] 3) = X1 ∧ Below X.heap.size X X1 ∧ Blk X1 X.heap.size 3 #[.int .i64 (k : Int)] := ⟨_, rfl, below_alloc _ _, Blk.new _ _ _⟩
  obtain ⟨X1, e1, hb1, B1⟩ := F1
  have E1 := Lib.hid e1
  have HK1 := Lib.hid B1
  have HS1 := Lib.hid (hst.out.below hb1)
  have d0 := cellOf B1 0 (x := .int .i64 (k : Int)) rfl
  have S := HS1.out.sup
  rw [hm.out] at S
  have s0 := cellOf S 0 (x := .slice An m cn) rfl
  have s1 := cellOf S 1 (x := .slice Ao m co) rfl
  have s2 := cellOf S 2 (x := .int .i64 s.keep) rfl
  have s3 := cellOf S 3 (x := .int .i64 s.room) rfl
  have hz1 : X.heap.size < X1.heap.size := B1.lt
  have hz4 := HS1.out.r5.lt
  obtain ⟨B4, hB4⟩ : ∃ b, X.heap.size = b := ⟨_, rfl⟩
  have HB4 := Lib.hid hB4
  have HX5 : Hid (w.heap.size + 1 + 1 + 1 < X.heap.size) := hst.out.r5.lt
  clear e1 hb1 B1 S
  conv => arg 2; whnf
  go_upto_region 9 with fail
  rw [E1.out]
  rw [hB4] at d0 HK1 hz1 HX5
  clear hB4
  go_wp2_with fail
  refine (batches_any s An Ao m cn co (k : Int) _).mono ?_
  rintro _ W3 ⟨rfl, hW3⟩
  obtain ⟨hb3, hKs, hKi⟩ := hW3.out
  obtain ⟨SW, hSW⟩ : ∃ b, X1.heap.size = b := ⟨_, rfl⟩
  have HS3 := Lib.hid (HS1.out.below hb3)
  have HK4 := Lib.hid (HK1.out.below hb3 HK1.out.lt)
  rw [hSW] at hKs hKi hz1 hz4
  have hnW : w.heap.size ≤ W3.heap.size := HS3.out.below_.size
  have HKs := Lib.hid hKs
  have HKi := Lib.hid hKi
  have hseq := batches_stops 9 (by omega) s hs.out k hkl An Ao cn co SW (SW + 1) w.heap.size W3 (by rw [hm.out]; exact hKs) hKi hnW (hsup.out.below HS3.out.below_)
  have HLt := Lib.hid HS3.out.lt
  have hI0 : PvSt w s An Ao (some ⟨gu, ou, none⟩) cn co (m + 1) cu 0 0 ds W3 ∧ Blk W3 B4 3 #[.int .i64 (k : Int)] ∧ PvOk s p k [] := ⟨HS3.out, HK4.out, fun _ h => by cases h⟩
  clear hW3 hb3 hKs hKi d0 s0 s1 s2 s3
  go_wp2_with fail
  have HSW := Lib.hid hSW
  clear hSW
  refine (wpIn_wide (n := 10)).1 ?_
  refine wpIn_rangeFunc_ownF rfl (by omega) (gf := 132) (lb := #[.pointer (some ⟨SW, 0, none⟩), .pointer (some ⟨SW + 1, 0, none⟩)]) rfl trivial (enters_of Try.func132 (by kernel_rfl) rfl)
    hseq KpB.trans (KpB.putObj hnW HKs.out.lt HKi.out.lt) (Below.refl _ _) (fun _ => rfl)
    (fun (pre : List (Bt s k)) Y => PvSt w s An Ao (some ⟨gu, ou, none⟩) cn co (m + 1) cu 0 0 ds Y ∧ Blk Y B4 3 #[.int .i64 (k : Int)] ∧ PvOk s p k pre) (fun c pre Y => c = .ret ∧ PvSt w s An Ao (some ⟨gu, ou, none⟩) cn co (m + 1) cu 0 7 ds Y ∧ PvBad s p k pre)
    (fun _ A B row hs hg hr => ⟨hs.1.grow hg hr hnW HLt.out, blk_grown hs.2.1 hg hr, hs.2.2⟩) (fun _ _ A B row hs hg hr => ⟨hs.1, hs.2.1.grow hg hr hnW HLt.out, hs.2.2⟩) hI0
    (fun y : Bt s k => { tmps := List.toArray (u0 :: u1 :: (.pointer (some ⟨w.heap.size, 0, none⟩)) :: (.pointer (some ⟨w.heap.size + 1, 0, none⟩)) :: (.pointer (some ⟨w.heap.size + 1 + 1, 0, none⟩)) :: (.pointer (some ⟨w.heap.size + 1 + 1 + 1, 0, none⟩)) :: u6 :: (.pointer (some ⟨B4, 0, none⟩)) :: (.int .i64 (y.1 : Int)) :: (.int .i64 (costE s k y.1)) :: u10 :: u11 :: u12 :: u13 :: u14 :: u15 :: u16 :: u17 :: u18 :: u19 :: u20 :: (.int .i64 (m : Int)) :: (.int .i64 (k : Int)) :: (.bool true) :: (.int .i64 (k : Int)) :: (.agg #[.slice An m cn, .slice Ao m co, .int .i64 s.keep, .int .i64 s.room]) :: (.int .i64 (k : Int)) :: (.func (.func 132) #[] #[.pointer (some ⟨SW, 0, none⟩), .pointer (some ⟨SW + 1, 0, none⟩)]) :: (.int .i64 (y.1 : Int)) :: (.int .i64 (costE s k y.1)) :: u30 :: u31 :: u32 :: u33 :: u34 :: u35 :: u36 :: u37 :: u38 :: u39 :: u40 :: u41 :: u42 :: u43 :: u44 :: u45 :: u46 :: u47 :: []), defers := [] }) ?assign ?body ?done ?stop
  case assign =>
    intro l y Y K hK
    gi_wp2
    exact hK
  case body =>
    rintro l pre ⟨e, he1, he2⟩ Y ⟨hst9, hw9, hall⟩ hlen
    have hcb := hs.out.costE_bound he1 he2
    rw [hm.out] at he2
    have hbk := hpb.out k (by omega)
    have hbe := hpb.out e he2
    have cck := hp.out Y hst9.below_ k (by omega)
    have cce := hp.out Y hst9.below_ e he2
    have HZ : Hid (∀ a C b, costE s k e = C → p.getD k 0 = a → p.getD e 0 = b → b ≤ a + C → PvOk s p k (pre ++ [(⟨e, he1, by rw [hm.out]; exact he2⟩ : Bt s k)])) := fun a C b h1 h2 h3 h4 z hz => by
      rcases List.mem_append.1 hz with h | h
      · exact hall z h
      · rw [List.mem_singleton.1 h]
        show p.getD e 0 ≤ p.getD k 0 + costE s k e
        omega
    obtain ⟨C, hC⟩ : ∃ C, costE s k e = C := ⟨_, rfl⟩
    obtain ⟨a, ha⟩ : ∃ a, p.getD k 0 = a := ⟨_, rfl⟩
    obtain ⟨b, hb⟩ : ∃ b, p.getD e 0 = b := ⟨_, rfl⟩
    have HZ2 := Lib.hid (HZ.out a C b hC ha hb)
    have HBD : Hid (a + C < b → ¬ p.getD e 0 ≤ p.getD k 0 + costE s k e) := fun h9 => by rw [hC, ha, hb]; omega
    rw [hC] at hcb
    rw [ha] at hbk cck
    rw [hb] at hbe cce
    have kw : IntKind.i64.wrap (a + C) = a + C := IntWalk.i64_in _ ⟨by omega, by omega⟩
    have hst9d : PvSt w s An Ao (some ⟨gu, ou, none⟩) cn co (m + 1) cu 0 0 ds Y.drew := ⟨⟨hst9.below_.os, hst9.below_.tape, hst9.below_.output, hst9.below_.size, hst9.below_.block⟩, hst9.sup, hst9.box, hst9.r4, hst9.r5, hst9.defs⟩
    have HD := Lib.hid hst9d
    have HW9 := Lib.hid hw9
    have hpx := cellOf hst9.box 0 (x := .slice (some ⟨gu, ou, none⟩) (m + 1) cu) rfl
    have h4 := cellOf hw9 0 (x := .int .i64 (k : Int)) rfl
    have hr4 := cellOf hst9.r4 0 (x := .int .i64 0) rfl
    have hr5 := cellOf hst9.r5 0 (x := .int .i64 0) rfl
    have hf4 := hst9.r4.frozen 0
    have hf5 := hst9.r5.frozen 0
    have hel : (e : Int) < ((m + 1 : Nat) : Int) := by omega
    have hkl2 : (k : Int) < ((m + 1 : Nat) : Int) := by omega
    have he0 : (0 : Int) ≤ (e : Int) := by omega
    try dsimp only
    rw [hC]
    clear hcb hbk hbe ha hb hC hI0 hseq hlen hst9 hw9 hst9d HZ hall
    gi_upto_region 12 with fail
    refine wpIn_tail 10 (by kernel_rfl) (by kernel_rfl) (by kernel_rfl) ?_
    simp only [List.take_succ_cons, List.take_zero, List.drop_succ_cons, List.drop_zero]
    repeat go_big_quiet_step (fail)
    refine wpQuiet_nil ?_
    by_cases hlt : a + C < b
    · have HFin : Hid (KeepsOthers Y ((Y.drew.setCell ⟨w.heap.size + 1 + 1, 0, none⟩ (.int .i64 0)).setCell ⟨w.heap.size + 1 + 1 + 1, 0, none⟩ (.int .i64 7)) ∧ PvSt w s An Ao (some ⟨gu, ou, none⟩) cn co (m + 1) cu 0 7 ds ((Y.drew.setCell ⟨w.heap.size + 1 + 1, 0, none⟩ (.int .i64 0)).setCell ⟨w.heap.size + 1 + 1 + 1, 0, none⟩ (.int .i64 7)) ∧ PvBad s p k (pre ++ [(⟨e, he1, by rw [hm.out]; exact he2⟩ : Bt s k)])) :=
        ⟨((KeepsOthers.drew Y).trans (KeepsOthers.setCell _ _ _)).trans (KeepsOthers.setCell _ _ _), HD.out.put 0 7, ⟨e, he1, by rw [hm.out]; exact he2⟩, List.mem_append_right _ (List.mem_singleton.2 rfl), HBD.out hlt⟩
      gi_wp2_with fail
      exact ⟨HFin.out.1, rfl, HFin.out.2.1, HFin.out.2.2⟩
    · have HFin : Hid (KeepsOthers Y Y.drew ∧ KpB w.heap.size SW (SW + 1) Y Y.drew ∧ PvSt w s An Ao (some ⟨gu, ou, none⟩) cn co (m + 1) cu 0 0 ds Y.drew ∧ Blk Y.drew B4 3 #[.int .i64 (k : Int)] ∧ PvOk s p k (pre ++ [(⟨e, he1, by rw [hm.out]; exact he2⟩ : Bt s k)])) :=
        ⟨KeepsOthers.drew Y, ⟨(Below.refl _ _).drew, rfl, rfl⟩, HD.out, HW9.out, HZ2.out (by omega)⟩
      gi_wp2_with fail
      exact HFin.out
  case done =>
    rintro D ys Y hD rfl ⟨hst9, -, hall⟩ hK
    have HA : Hid (WkOk s p k) := fun e he => by
      rw [← batchN_val hkl] at he
      obtain ⟨z, hz, rfl⟩ := List.mem_map.1 he
      exact hall z hz
    have HN : Hid (PvSt w s An Ao (some ⟨gu, ou, none⟩) cn co (m + 1) cu 0 0 ({ target := .collected D, args := #[] } :: ds) Y) := hst9.range (fun D' hD' => Nat.lt_of_lt_of_le (HLt.out D' hD') hD) (Nat.le_trans hnW hD) hK
    clear hst9 hK hD hI0 hseq hall
    go_wp2_with fail
    exact hQ.out _ _ _ _ _ _ _ _ _ _ _ _ _ _ _ _ _ _ _ _ _ _ _ _ HN.out HA.out
  case stop =>
    rintro D c pre Y hD hpre ⟨rfl, hst9, z, hz, hbad⟩ hK
    have HN : Hid (PvSt w s An Ao (some ⟨gu, ou, none⟩) cn co (m + 1) cu 0 7 ({ target := .collected D, args := #[] } :: ds) Y) := hst9.range (fun D' hD' => Nat.lt_of_lt_of_le (HLt.out D' hD') hD) (Nat.le_trans hnW hD) hK
    have hmem : z.1 ∈ batchN s k := by
      rw [← batchN_val hkl]
      exact List.mem_map.2 ⟨z, hpre.subset hz, rfl⟩
    have HBd : Hid (¬ WkOk s p k) := fun h9 => hbad (h9 z.1 hmem)
    clear hst9 hK hD hI0 hseq hbad hz hmem hpre
    refine wpIn_wide.2 ?_
    go_wp2_with fail
    exact hQr.out _ _ _ _ _ _ _ _ _ _ _ _ _ _ _ _ _ _ _ _ _ _ _ _ HN.out HBd.out
end Go.Proofs.Ytpkepacbondopaa
