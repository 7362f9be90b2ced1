/-
  methods: what the program says of methods, beside the reference.
-/
import Derived.Test.YtlmpbmlbllndcaaMbn
import Derived.Test.YtlmpbmlbllndcaaMbq
namespace Go.Proofs.Ytlmpbmlbllndcaa
open Go.RowKit
attribute [local go_sem] Oper.semAt_some

theorem sliceRMeth : Try.prog.underlying 107 = some (.slice 108) := by kernel_rfl
theorem infoRMeth : (Try.prog.info? 108).map (fun i => (i.zero, i.size, i.bytes)) = some (some (.agg #[.int .i64 0, .int .i64 0]), 2, 16) := by kernel_rfl
theorem fieldsRSc : Try.prog.underlying 110 = some (.struct (Try.prog.fieldsOf 110)) := by kernel_rfl
theorem heldRSc : Try.prog.stoodInHeld 110 = false := by kernel_rfl
theorem flRSc : (Try.prog.fieldsOf 110).toList.map (fun f => (f.name != "_", f.type, f.offset)) = [(true, 3, 0), (true, 58, 1)] := by kernel_rfl
theorem eqRScore (a b c : Int) (w : World) : (Op.equalIn 10000 110 (.agg #[.int .i64 a, .int .i64 b, .int .i64 c]) (.agg #[.int .i64 a, .int .i64 b, .int .i64 c])).run Try.prog w = .ok true w := by
  rw [run_equalIn_agg w 9999 _ _ _ fieldsRSc heldRSc]
  have hl := flRSc
  generalize (Try.prog.fieldsOf 110).toList = fs at hl ⊢
  obtain ⟨f0, r0, rfl, h0, hl⟩ := List.map_eq_cons_iff.1 hl
  obtain ⟨f1, r1, rfl, h1, hl⟩ := List.map_eq_cons_iff.1 hl
  obtain rfl := List.map_eq_nil_iff.1 hl
  simp only [Prod.mk.injEq, bne_iff_ne, ne_eq] at h0 h1
  obtain ⟨n0, t0, o0⟩ := h0
  obtain ⟨n1, t1, o1⟩ := h1
  clear hl
  have hi : Try.prog.underlying 3 = some (.int .i64) := by kernel_rfl
  simp [Op.eqFields, n0, n1, t0, t1, o0, o1, go_sem]
theorem sc_new {Z Y : World} {u0 u1 u2 : Value} (hB : Below Z.heap.size Z Y) : Blk (Y.alloc (.cells #[u0, u1, u2] 110)) Y.heap.size 110 #[u0, u1, u2] ∧ Below Z.heap.size Z (Y.alloc (.cells #[u0, u1, u2] 110)) := ⟨Blk.new _ _ _, sbelow_al hB _⟩
theorem sc_put {Z Y : World} {b : Nat} {z0 z1 z2 u0 u1 u2 : Value} (hK : Blk Y b 110 #[z0, z1, z2]) (hB : Below Z.heap.size Z Y) (hb : Z.heap.size ≤ b) :
    Blk (((Y.setCell ⟨b, 0, none⟩ u0).setCell ⟨b, 1, none⟩ u1).setCell ⟨b, 2, none⟩ u2) b 110 #[u0, u1, u2] ∧ Below Z.heap.size Z (((Y.setCell ⟨b, 0, none⟩ u0).setCell ⟨b, 1, none⟩ u1).setCell ⟨b, 2, none⟩ u2) :=
  ⟨put3_blk hK _ _ _, hB.trans ((put3_kept Y b _ _ _).below (fun i hi => by rw [hi]; exact hb) hB.size)⟩
theorem meth_row {X : World} {A : Option Addr} {n c : Nat} {l : List MethD} (h : RMeths X.heap.size X (.slice A n c) l) {j : Nat} {m : MethD} (hm : l[j]? = some m) : ∃ g o, A = some ⟨g, o, none⟩ ∧ Hid (∀ Y, Below X.heap.size X Y → Y.cell? ⟨g, o + j * 2, none⟩ = some (.int .i64 m.kind) ∧ Y.cell? ⟨g, o + j * 2 + 1, none⟩ = some (.int .i64 m.days)) := by
  obtain ⟨A', c', e, -, HD⟩ := meths_later h
  cases e
  exact HD.out j m hm
set_option maxRecDepth 1000000 in
set_option maxHeartbeats 4000000 in
theorem methods_any (l : List MethD) (h : List DayD) (hl : l.length ≤ 1000) (hh : h.length ≤ 2000000) (day a b : Int) (v vh : Value) (w : World) (hv : RMeths w.heap.size w v l) (hvh : RDays w.heap.size w vh h) :
    Calls Try.prog 16 #[v, vh, .int .i64 day, .int .i64 a, .int .i64 b] w fun e w' => e = .returned (.bool true) ∧ Below w.heap.size w w' := by
  have HR := Lib.hid hvh
  have HM := Lib.hid hv
  obtain ⟨A, c, rfl, hlm, HD⟩ := meths_later hv
  obtain ⟨A2, c2, rfl, -, -⟩ := days_later hvh
  obtain ⟨n, hn⟩ : ∃ n, l.length = n := ⟨_, rfl⟩
  obtain ⟨n2, hn2⟩ : ∃ n, h.length = n := ⟨_, rfl⟩
  have HN := Lib.hid hn
  have HN2 := Lib.hid hn2
  have HHL := Lib.hid hh
  rw [hn] at HM hlm hl ⊢
  rw [hn2] at HR ⊢
  have HRY : Hid (∀ Y, Below w.heap.size w Y → RDays Y.heap.size Y (.slice A2 n2 c2) h) := fun Y hY => (Rd.below HR.out hY).more hY.size
  have HMY : Hid (∀ Y, Below w.heap.size w Y → RMeths Y.heap.size Y (.slice A n c) l) := fun Y hY => (Rd.below HM.out hY).more hY.size
  have C1 := Lib.hid (cloneDays_any h hh (.slice A2 n2 c2) w (HRY.out w (Below.refl _ _)))
  have CM := Lib.hid (fun (Y : World) (hY : Below w.heap.size w Y) => cloneMeths_any l (by omega) (.slice A n c) Y (HMY.out Y hY))
  have CD : Hid (∀ Y, Below w.heap.size w Y → Calls Try.prog 41 #[.slice A2 n2 c2] Y fun e w' => ∃ A' c', e = .returned (.slice A' n2 c') ∧ Hid (Below Y.heap.size Y w') ∧ Hid (∀ X, Below w'.heap.size w' X → RDays X.heap.size X (.slice A' n2 c') h)) := fun Y hY => by
    refine (days_any h HHL.out (.slice A2 n2 c2) Y (HRY.out Y hY)).mono ?_
    rintro _ w' ⟨A', c', rfl, hO, hb⟩
    rw [HN2.out] at hO ⊢
    refine ⟨A', c', rfl, hb, fun X hX => ?_⟩
    have h1 : RDays w'.heap.size w' (.slice A' n2 c') h := by show Rd _ _ _ _ _ _; rw [HN2.out]; exact Rd.own hO (own_le hO)
    exact (Rd.below h1 hX).more hX.size
  obtain ⟨i0, hi0, hz0, hz1, hz2⟩ := info_parts infoRMeth
  clear hv hvh hn hn2 hh
  go_enter Try.func16, Try.ntmps16
  go_wp2_with fail
  refine C1.out.mono ?_
  rintro _ Y1 ⟨u, rfl, hO1, hb1⟩
  have HB1 := Lib.hid hb1
  have HO1 := Lib.hid hO1
  obtain ⟨B1, d1, rfl⟩ := ownsRow_form hO1
  rw [HN2.out] at HO1 ⊢
  have C2 := Lib.hid (CM.out Y1 HB1.out)
  clear C1 hO1 hb1 CM
  go_wp2_with fail
  refine C2.out.mono ?_
  rintro _ Y2 ⟨u, rfl, hO2, hb2⟩
  have HB2 : Hid (Below w.heap.size w Y2) := HB1.out.trans (hb2.mono HB1.out.size)
  have HO2 := Lib.hid hO2
  obtain ⟨B2, d2, rfl⟩ := ownsRow_form hO2
  rw [HN.out] at HO2 ⊢
  have HOW : Hid (∀ Y, Below Y2.heap.size Y2 Y → RDays Y.heap.size Y (.slice B1 n2 d1) h) := fun Y hY => by
    have h1 : RDays Y1.heap.size Y1 (.slice B1 n2 d1) h := by show Rd _ _ _ _ _ _; rw [HN2.out]; exact Rd.own HO1.out (own_le HO1.out)
    have h2 : Below Y1.heap.size Y1 Y := hb2.trans (hY.mono hb2.size)
    exact (Rd.below h1 h2).more h2.size
  have HOM : Hid (∀ Y, Below Y2.heap.size Y2 Y → RMeths Y.heap.size Y (.slice B2 n d2) l) := fun Y hY => by
    have h1 : RMeths Y2.heap.size Y2 (.slice B2 n d2) l := by show Rd _ _ _ _ _ _; rw [HN.out]; exact Rd.own HO2.out (own_le HO2.out)
    exact (Rd.below h1 hY).more hY.size
  have HTO : Hid (∀ Y, Below Y2.heap.size Y2 Y → Below w.heap.size w Y) := fun Y hY => HB2.out.trans (hY.mono HB2.out.size)
  have HO0 : Hid (Y2.ownsRow Y2.heap.size 108 2 (.slice none 0 0) 0 ((l.take 0).flatMap MethD.cells)) := World.ownsRow_nil _ _ _ _
  clear C2 hO2 hb2 HB1 HO1 HO2
  go_wp2_with fail
  go_loopw [13, 38] (fun s i wr => ∃ k : Nat, k ≤ n ∧ i = .int .i64 k ∧ Hid (wr.ownsRow Y2.heap.size 108 2 s k ((l.take k).flatMap MethD.cells)) ∧ Hid (Below Y2.heap.size Y2 wr)) (fun _ i _ => n - (intOf i).toNat)
  case atStart => exact ⟨0, Nat.zero_le _, rfl, HO0.out, Below.refl _ _⟩
  case round =>
  clear HO0
  obtain ⟨k, hk, rfl, hO, hB⟩ := hrel
  obtain ⟨X, rfl⟩ : ∃ X : World, X = wr := ⟨_, rfl⟩
  obtain ⟨Av, cv, rfl⟩ := ownsRow_form hO.out
  by_cases hlt : k < n
  · obtain ⟨m, hm⟩ : ∃ x, l[k]? = some x := ⟨_, List.getElem?_eq_getElem (by rw [HN.out]; exact hlt)⟩
    obtain ⟨g, o, rfl, HX⟩ := HD.out k m hm
    obtain ⟨c0, c1⟩ := HX.out X (HTO.out X hB.out)
    have F1 : ∃ X1, X.alloc (.cells #[.int .i64 m.kind, .int .i64 m.days] 56) = X1 ∧ Hid (Below X.heap.size X X1) ∧ Hid (Blk X1 X.heap.size 56 #[.int .i64 m.kind, .int .i64 m.days]) := ⟨_, rfl, below_alloc _ _, Blk.new _ _ _⟩
    obtain ⟨X1, e1, HX1, HK1⟩ := F1
    have E1 := Lib.hid e1
    have F2 : ∃ X2, X1.alloc (.cells #[.int .i64 m.kind, .int .i64 m.days] 108) = X2 ∧ Hid (Below X1.heap.size X1 X2) := ⟨_, rfl, below_alloc _ _⟩
    obtain ⟨X2, e2, HX2⟩ := F2
    have HC2 := Lib.hid (cells_new X1 #[.int .i64 m.kind, .int .i64 m.days] 108)
    rw [e2] at HC2
    have E2 := Lib.hid e2
    have HO2 : Hid (X2.ownsRow Y2.heap.size 108 2 (.slice Av k cv) k ((l.take k).flatMap MethD.cells)) := ownsRow_below (ownsRow_below hO.out HX1.out) HX2.out
    have HB3 : Hid (Below Y2.heap.size Y2 X2) := hB.out.trans ((HX1.out.trans (HX2.out.mono HX1.out.size)).mono hB.out.size)
    have HTK : Hid ((l.take (k + 1)).flatMap MethD.cells = (l.take k).flatMap MethD.cells ++ m.cells) := by
      show _ = _
      rw [List.take_add_one, hm, Option.toList_some, List.flatMap_append]
      simp
    obtain ⟨q, hq⟩ : ∃ q, X.heap.size = q := ⟨_, rfl⟩
    rw [hq] at HK1
    have HQ := Lib.hid hq
    have d0 := cellOf HK1.out 0 (x := .int .i64 m.kind) rfl
    have d1 := cellOf HK1.out 1 (x := .int .i64 m.days) rfl
    have k0 : (0 : Int) ≤ (k : Int) := by omega
    have k1 : (k : Int) < (n : Int) := by omega
    clear hm HX e1 e2 hq hO hB HX1 HX2
    go_upto_region 6 with fail
    rw [E1.out, HQ.out]
    clear E1 c0 c1
    go_wp2_with (at_builtin; rw [E2.out]; refine wpList_append_own _ rfl _ _ 107 rfl Y2.heap.size 108 i0 _ 2 16 sliceRMeth hi0 hz0 hz1 hz2 rfl (by decide) (.slice Av k cv) k ((l.take k).flatMap MethD.cells) rfl HO2.out ⟨X1.heap.size, 0, none⟩ 1 1 [.int .i64 m.kind, .int .i64 m.days] rfl rfl HC2.out (by simp [Value.oneCell']) (by simp only [maxLen]; omega) (by omega) HB3.out.size ?_; intro v2 w2 hO4 hG4 hN4)
    have hB4 : Below Y2.heap.size Y2 w2 := HB3.out.trans ((KeptBut.grown (S := fun j => some j = (Value.slice Av k cv).ownBlock) hG4 fun j hj => hj).below (fun i hi => (ownsRow_own HO2.out hi.symm).1) HB3.out.size)
    refine ⟨⟨k + 1, by omega, by go_num, ?_, hB4⟩, by simp [intOf]; omega⟩
    show World.ownsRow _ _ _ _ _ _ _
    rw [HTK.out]
    exact hO4
  obtain rfl : k = n := by omega
  have HRF : Hid (∀ Y, Below X.heap.size X Y → RMeths Y.heap.size Y (.slice Av k cv) l) := fun Y hY => by
    have h1 := hO.out
    rw [List.take_of_length_le (by rw [HN.out]; omega)] at h1
    have h2 : RMeths X.heap.size X (.slice Av k cv) l := by show Rd _ _ _ _ _ _; rw [HN.out]; exact Rd.own h1 (own_le h1)
    exact (Rd.below h2 hY).more hY.size
  have HT2 : Hid (∀ Y, Below X.heap.size X Y → Below Y2.heap.size Y2 Y) := fun Y hY => hB.out.trans (hY.mono hB.out.size)
  clear hO hB i0 hi0 hz0 hz1 hz2
  go_wp2_with fail
  go_loopw [49] (fun i wr => ∃ j : Nat, j ≤ k ∧ i = .int .i64 j ∧ Hid (Below X.heap.size X wr)) (fun i _ => k - (intOf i).toNat)
  case atStart => exact ⟨0, Nat.zero_le _, rfl, Below.refl _ _⟩
  case round =>
  obtain ⟨j, hj, rfl, hB⟩ := hrel
  obtain ⟨U, rfl⟩ : ∃ U : World, U = wr := ⟨_, rfl⟩
  by_cases hlt : j < k
  · obtain ⟨m, hm⟩ : ∃ x, l[j]? = some x := ⟨_, List.getElem?_eq_getElem (by rw [HN.out]; exact hlt)⟩
    obtain ⟨g, o, rfl, HX⟩ := HD.out j m hm
    obtain ⟨g2, o2, rfl, HXR⟩ := meth_row (HRF.out X (Below.refl _ _)) hm
    obtain ⟨c0, c1⟩ := HX.out U (HTO.out U (HT2.out U hB.out))
    obtain ⟨SV, hSV⟩ : ∃ z, saysV m h day = z := ⟨_, rfl⟩
    obtain ⟨SB, hSB⟩ : ∃ z, saysB m h day = z := ⟨_, rfl⟩
    obtain ⟨SE, hSE⟩ : ∃ z, saysE m h day = z := ⟨_, rfl⟩
    obtain ⟨RE, hRE⟩ : ∃ z, rateE m h a b = z := ⟨_, rfl⟩
    obtain ⟨R1, hR1⟩ : ∃ z, (rateS m h a b).days = z := ⟨_, rfl⟩
    obtain ⟨R2, hR2⟩ : ∃ z, (rateS m h a b).n = z := ⟨_, rfl⟩
    obtain ⟨R3, hR3⟩ : ∃ z, (rateS m h a b).d = z := ⟨_, rfl⟩
    have PSY : Hid (∀ Y, Below X.heap.size X Y → Calls Try.prog 27 #[.agg #[.int .i64 m.kind, .int .i64 m.days], .slice B1 n2 d1, .int .i64 day] Y fun e w' => e = .returned (.tuple #[.int .i64 SV, .bool SB, .int .i64 SE]) ∧ Below Y.heap.size Y w') := fun Y hY => by
      rw [← hSV, ← hSB, ← hSE]
      exact Says_any m h day _ Y (HOW.out Y (HT2.out Y hY))
    have RSY : Hid (∀ Y A' c', Below X.heap.size X Y → RDays Y.heap.size Y (.slice A' n2 c') h → Calls Try.prog 50 #[.agg #[.int .i64 m.kind, .int .i64 m.days], .slice A' n2 c', .int .i64 day] Y fun e w' => e = .returned (.tuple #[.int .i64 SV, .bool SB, .int .i64 SE]) ∧ Hid (Below Y.heap.size Y w')) := fun Y A' c' hY hD => by
      rw [← hSV, ← hSB, ← hSE]
      exact refSays_any m h day _ Y hD
    have PRA : Hid (∀ Y, Below X.heap.size X Y → Calls Try.prog 26 #[.agg #[.int .i64 m.kind, .int .i64 m.days], .slice B1 n2 d1, .int .i64 a, .int .i64 b] Y fun e w' => e = .returned (.tuple #[.agg #[.int .i64 R1, .int .i64 R2, .int .i64 R3], .int .i64 RE]) ∧ Below Y.heap.size Y w') := fun Y hY => by
      obtain ⟨e1, e2, e3, e4⟩ := rate_same m h a b
      have h1 := Rate_any m h a b (.slice B1 n2 d1) Y (HOW.out Y (HT2.out Y hY))
      rw [e1, e2, e3, e4, hRE, hR1, hR2, hR3] at h1
      exact h1
    have RRA : Hid (∀ Y A' c', Below X.heap.size X Y → RDays Y.heap.size Y (.slice A' n2 c') h → Calls Try.prog 51 #[.agg #[.int .i64 m.kind, .int .i64 m.days], .slice A' n2 c', .int .i64 a, .int .i64 b] Y fun e w' => e = .returned (.tuple #[.agg #[.int .i64 R1, .int .i64 R2, .int .i64 R3], .int .i64 RE]) ∧ Hid (Below Y.heap.size Y w')) := fun Y A' c' hY hD => by
      rw [← hRE, ← hR1, ← hR2, ← hR3]
      exact refRate_any m h a b _ Y hD
    have HXC : Hid (∀ Y, Below X.heap.size X Y → Y.cell? ⟨g2, o2 + j * 2, none⟩ = some (.int .i64 m.kind) ∧ Y.cell? ⟨g2, o2 + j * 2 + 1, none⟩ = some (.int .i64 m.days)) := HXR
    have F1 : ∃ U1, U.alloc (.cells #[.int .i64 m.kind, .int .i64 m.days] 56) = U1 ∧ Hid (Below U.heap.size U U1) ∧ Hid (Blk U1 U.heap.size 56 #[.int .i64 m.kind, .int .i64 m.days]) := ⟨_, rfl, below_alloc _ _, Blk.new _ _ _⟩
    obtain ⟨U1, e1, HU1, HK1⟩ := F1
    have E1 := Lib.hid e1
    have HB1 : Hid (Below X.heap.size X U1) := hB.out.trans (HU1.out.mono hB.out.size)
    obtain ⟨q, hq⟩ : ∃ q, U.heap.size = q := ⟨_, rfl⟩
    rw [hq] at HK1
    have HQ := Lib.hid hq
    have HSM : Hid (∀ Y, Below U1.heap.size U1 Y → Y.cell? ⟨q, 0, none⟩ = some (.int .i64 m.kind) ∧ Y.cell? ⟨q, 1, none⟩ = some (.int .i64 m.days)) := fun Y hY => by
      have h1 := HK1.out.below hY HK1.out.lt
      exact ⟨cellOf h1 0 rfl, cellOf h1 1 rfl⟩
    obtain ⟨z0, z1⟩ := HSM.out U1 (Below.refl _ _)
    have k0 : (0 : Int) ≤ (j : Int) := by omega
    have k1 : (j : Int) < (k : Int) := by omega
    have gSV : (SV != SV) = false := by simp
    have gSB : (SB != SB) = false := by simp
    have gSE : (SE != SE) = false := by simp
    have gRE : (RE != RE) = false := by simp
    clear hm HX e1 hq hB HU1 HK1 hSV hSB hSE hRE hR1 hR2 hR3 HXR
    go_upto_region 11 with fail
    rw [E1.out, HQ.out]
    clear E1 c0 c1
    go_wp2_with fail
    refine (PSY.out U1 HB1.out).mono ?_
    rintro _ U2 ⟨rfl, hb2⟩
    have HBU2 : Hid (Below U1.heap.size U1 U2) := hb2
    have HB2' : Hid (Below X.heap.size X U2) := HB1.out.trans (hb2.mono HB1.out.size)
    clear hb2 z0 z1 PSY
    go_upto_region 12 with fail
    go_cut [21, 22, 23] from 63 to 73 (fun s21 s22 s23 wx => s21 = .int .i64 SV ∧ s22 = .bool SB ∧ s23 = .int .i64 SE ∧ Hid (Below U2.heap.size U2 wx))
    case first =>
      have HTT : Hid (∀ Y, Below U2.heap.size U2 Y → Y.cell? ⟨g2, o2 + j * 2, none⟩ = some (.int .i64 m.kind) ∧ Y.cell? ⟨g2, o2 + j * 2 + 1, none⟩ = some (.int .i64 m.days)) := fun Y hY => HXC.out Y (HB2'.out.trans (hY.mono HB2'.out.size))
      have S1 := HTT.out U2 (Below.refl _ _)
      have HD0 : Hid (Below U2.heap.size U2 U2.drew) := (Below.refl _ _).drew
      have CDU : Hid (∀ Y, Below U2.heap.size U2 Y → Calls Try.prog 41 #[.slice A2 n2 c2] Y fun e w' => ∃ A' c', e = .returned (.slice A' n2 c') ∧ Hid (Below Y.heap.size Y w') ∧ Hid (∀ X, Below w'.heap.size w' X → RDays X.heap.size X (.slice A' n2 c') h)) := fun Y hY => CD.out Y (HTO.out Y (HT2.out Y (HB2'.out.trans (hY.mono HB2'.out.size))))
      have CSU : Hid (∀ Y A' c', Below U2.heap.size U2 Y → RDays Y.heap.size Y (.slice A' n2 c') h → Calls Try.prog 50 #[.agg #[.int .i64 m.kind, .int .i64 m.days], .slice A' n2 c', .int .i64 day] Y fun e w' => e = .returned (.tuple #[.int .i64 SV, .bool SB, .int .i64 SE]) ∧ Hid (Below Y.heap.size Y w')) := fun Y A' c' hY hD => RSY.out Y A' c' (HB2'.out.trans (hY.mono HB2'.out.size)) hD
      clear CD HRY HMY HOW HOM HTO HRF HT2 RSY PRA RRA HXC HSM HB1 HBU2 HB2'
      go_region_held3 (fun X => X.cell? ⟨g2, o2 + j * 2, none⟩ = some (.int .i64 m.kind) ∧ X.cell? ⟨g2, o2 + j * 2 + 1, none⟩ = some (.int .i64 m.days))
        (first | with_reducible exact T2 | with_reducible exact T1 | with_reducible exact S1 | go_keep)
        (first | (go_at_call 41; with_reducible refine (CDU.out _ HD0.out).mono ?_; rintro _ y1 ⟨A', c', rfl, HY1, HRD⟩; have H1 := Lib.hid (HD0.out.trans (HY1.out.mono HD0.out.size)); have T1 := HTT.out y1 H1.out)
               | (go_at_call 50; with_reducible refine (CSU.out _ _ _ H1.out (HRD.out _ (Below.refl _ _))).mono ?_; rintro _ y2 ⟨rfl, HY2⟩; have H2 := Lib.hid (H1.out.trans (HY2.out.mono H1.out.size)); have T2 := HTT.out y2 H2.out))
      all_goals
        clear S1
        go_wp2_with fail
        go_meet
        exact ⟨rfl, rfl, rfl, H2.out⟩
    case rest =>
    obtain ⟨rfl, rfl, rfl, hbe⟩ := hcut
    obtain ⟨U3, rfl⟩ : ∃ V : World, V = wc := ⟨_, rfl⟩
    have HBU3 : Hid (Below U1.heap.size U1 U3) := HBU2.out.trans (hbe.out.mono HBU2.out.size)
    have HB3 : Hid (Below X.heap.size X U3) := HB2'.out.trans (hbe.out.mono HB2'.out.size)
    obtain ⟨z0, z1⟩ := HSM.out U3 HBU3.out
    clear hbe RSY HBU2 HB2'
    go_wp2_with fail
    refine (PRA.out U3 HB3.out).mono ?_
    rintro _ U4 ⟨rfl, hb4⟩
    have F5 : ∃ U5, U4.alloc (.cells #[.int .i64 R1, .int .i64 R2, .int .i64 R3] 60) = U5 ∧ Hid (Below U4.heap.size U4 U5) ∧ Hid (Blk U5 U4.heap.size 60 #[.int .i64 R1, .int .i64 R2, .int .i64 R3]) := ⟨_, rfl, below_alloc _ _, Blk.new _ _ _⟩
    obtain ⟨U5, e5, HU5, HK5⟩ := F5
    have E5 := Lib.hid e5
    have HB5 : Hid (Below X.heap.size X U5) := HB3.out.trans ((hb4.trans (HU5.out.mono hb4.size)).mono HB3.out.size)
    obtain ⟨q5, hq5⟩ : ∃ q, U4.heap.size = q := ⟨_, rfl⟩
    rw [hq5] at HK5
    have HQ5 := Lib.hid hq5
    clear e5 hq5 hb4 HU5 z0 z1 PRA
    go_upto_region 16 with fail
    rw [E5.out, HQ5.out]
    clear E5
    go_cut [25, 23] from 96 to 106 (fun s25 s23 wx => ∃ ac : Nat, s25 = .pointer (some ⟨ac, 0, none⟩) ∧ s23 = .int .i64 RE ∧ Hid (Blk wx ac 110 #[.int .i64 R1, .int .i64 R2, .int .i64 R3]) ∧ Hid (Below U5.heap.size U5 wx))
    case first =>
      have HTT : Hid (∀ Y, Below U5.heap.size U5 Y → Y.cell? ⟨g2, o2 + j * 2, none⟩ = some (.int .i64 m.kind) ∧ Y.cell? ⟨g2, o2 + j * 2 + 1, none⟩ = some (.int .i64 m.days)) := fun Y hY => HXC.out Y (HB5.out.trans (hY.mono HB5.out.size))
      have S1 := HTT.out U5 (Below.refl _ _)
      have HD0 : Hid (Below U5.heap.size U5 U5.drew) := (Below.refl _ _).drew
      have HDA : Hid (∀ o, Below U5.heap.size U5 (U5.alloc o).drew) := fun o => (below_alloc _ o).drew
      have CDU : Hid (∀ Y, Below U5.heap.size U5 Y → Calls Try.prog 41 #[.slice A2 n2 c2] Y fun e w' => ∃ A' c', e = .returned (.slice A' n2 c') ∧ Hid (Below Y.heap.size Y w') ∧ Hid (∀ X, Below w'.heap.size w' X → RDays X.heap.size X (.slice A' n2 c') h)) := fun Y hY => CD.out Y (HTO.out Y (HT2.out Y (HB5.out.trans (hY.mono HB5.out.size))))
      have CSU : Hid (∀ Y A' c', Below U5.heap.size U5 Y → RDays Y.heap.size Y (.slice A' n2 c') h → Calls Try.prog 51 #[.agg #[.int .i64 m.kind, .int .i64 m.days], .slice A' n2 c', .int .i64 a, .int .i64 b] Y fun e w' => e = .returned (.tuple #[.agg #[.int .i64 R1, .int .i64 R2, .int .i64 R3], .int .i64 RE]) ∧ Hid (Below Y.heap.size Y w')) := fun Y A' c' hY hD => RRA.out Y A' c' (HB5.out.trans (hY.mono HB5.out.size)) hD
      clear CD HRY HMY HOW HOM HTO HRF HT2 RRA HXC HSM HB1 HBU3 HB3 HB5 HK5
      go_region_held3 (fun X => X.cell? ⟨g2, o2 + j * 2, none⟩ = some (.int .i64 m.kind) ∧ X.cell? ⟨g2, o2 + j * 2 + 1, none⟩ = some (.int .i64 m.days))
        (first | with_reducible exact T2 | with_reducible exact T1 | with_reducible exact S1 | with_reducible exact HTT.out _ (((H2.out.setCell (p := ⟨_, 0, none⟩) (Nat.le_refl _) _).setCell (p := ⟨_, 1, none⟩) (Nat.le_refl _) _).setCell (p := ⟨_, 2, none⟩) (Nat.le_refl _) _) | with_reducible exact HTT.out _ (((H2.out.setCell (p := ⟨_, 0, none⟩) HSZ.out _).setCell (p := ⟨_, 1, none⟩) HSZ.out _).setCell (p := ⟨_, 2, none⟩) HSZ.out _) | with_reducible exact HTT.out _ (sbelow_al H2.out _) | go_keep)
        (first | (go_at_call 41; with_reducible refine (CDU.out _ HD0.out).mono ?_; rintro _ y1 ⟨A', c', rfl, HY1, HRD⟩; have H1 := Lib.hid (HD0.out.trans (HY1.out.mono HD0.out.size)); have T1 := HTT.out y1 H1.out)
               | (go_at_call 41; with_reducible refine (CDU.out _ (HDA.out _)).mono ?_; rintro _ y1 ⟨A', c', rfl, HY1, HRD⟩; have H1 := Lib.hid ((HDA.out _).trans (HY1.out.mono (HDA.out _).size)); have T1 := HTT.out y1 H1.out; have K := Lib.hid (((Blk.new U5 110 #[.int .i64 0, .int .i64 0, .int .i64 0]).drew_).below HY1.out ((Blk.new U5 110 #[.int .i64 0, .int .i64 0, .int .i64 0]).drew_).lt))
               | (go_at_call 51; with_reducible refine (CSU.out _ _ _ H1.out (HRD.out _ (Below.refl _ _))).mono ?_; rintro _ y2 ⟨rfl, HY2⟩; have H2 := Lib.hid (H1.out.trans (HY2.out.mono H1.out.size)); have T2 := HTT.out y2 H2.out; have K2 := Lib.hid (K.out.below HY2.out K.out.lt); have a0 := cellOf K2.out 0 (x := .int .i64 0) rfl; have a1 := cellOf K2.out 1 (x := .int .i64 0) rfl; have a2 := cellOf K2.out 2 (x := .int .i64 0) rfl; have f0 := K2.out.frozen 0; have f1 := K2.out.frozen 1; have f2 := K2.out.frozen 2)
               | (go_at_call 51; with_reducible refine (CSU.out _ _ _ H1.out (HRD.out _ (Below.refl _ _))).mono ?_; rintro _ y2 ⟨rfl, HY2⟩; have H2 := Lib.hid (H1.out.trans (HY2.out.mono H1.out.size)); have T2 := HTT.out y2 H2.out)
               | (go_at_call 51; with_reducible refine (CSU.out _ _ _ (sbelow_al H1.out _) (HRD.out _ (below_alloc _ _))).mono ?_; rintro _ y2 ⟨rfl, HY2⟩; have H2 := Lib.hid ((sbelow_al H1.out _).trans (HY2.out.mono (sbelow_al H1.out _).size)); have T2 := HTT.out y2 H2.out; have K2 := Lib.hid ((Blk.new y1 110 #[.int .i64 0, .int .i64 0, .int .i64 0]).below HY2.out (Blk.new y1 _ _).lt); have HSZ := Lib.hid H1.out.size; have a0 := cellOf K2.out 0 (x := .int .i64 0) rfl; have a1 := cellOf K2.out 1 (x := .int .i64 0) rfl; have a2 := cellOf K2.out 2 (x := .int .i64 0) rfl; have f0 := K2.out.frozen 0; have f1 := K2.out.frozen 1; have f2 := K2.out.frozen 2))
      all_goals
        clear S1
        go_wp2_with fail
        go_meet
        first
          | exact ⟨_, rfl, rfl, (sc_new H2.out).1, (sc_new H2.out).2⟩
          | exact ⟨_, rfl, rfl, (sc_put K2.out H2.out (Nat.le_refl _)).1, (sc_put K2.out H2.out (Nat.le_refl _)).2⟩
          | exact ⟨_, rfl, rfl, (sc_put K2.out H2.out HSZ.out).1, (sc_put K2.out H2.out HSZ.out).2⟩
    case rest =>
    obtain ⟨ac, rfl, rfl, hbr, hbe⟩ := hcut
    obtain ⟨U6, rfl⟩ : ∃ V : World, V = wc := ⟨_, rfl⟩
    have HB6 : Hid (Below X.heap.size X U6) := HB5.out.trans (hbe.out.mono HB5.out.size)
    have HK6 := Lib.hid (HK5.out.below hbe.out HK5.out.lt)
    have a0 := cellOf HK6.out 0 (x := .int .i64 R1) rfl
    have a1 := cellOf HK6.out 1 (x := .int .i64 R2) rfl
    have a2 := cellOf HK6.out 2 (x := .int .i64 R3) rfl
    have b0 := cellOf hbr.out 0 (x := .int .i64 R1) rfl
    have b1 := cellOf hbr.out 1 (x := .int .i64 R2) rfl
    have b2 := cellOf hbr.out 2 (x := .int .i64 R3) rfl
    have heq : ∀ W, (Op.equalIn 10000 110 (.agg #[.int .i64 R1, .int .i64 R2, .int .i64 R3]) (.agg #[.int .i64 R1, .int .i64 R2, .int .i64 R3])).run Try.prog W = .ok true W := fun W => eqRScore _ _ _ W
    clear hbe hbr HK5 HK6 HB5 HB3 HBU3 HSM RRA HXC
    go_wp2_with fail
    go_roundw
    case rel => exact ⟨j + 1, by omega, by go_num, HB6⟩
    case measure => simp [intOf]; omega
  obtain rfl : j = k := by omega
  obtain ⟨CE, hCE⟩ : ∃ z, chE l h a b = z := ⟨_, rfl⟩
  obtain ⟨CM, hCM⟩ : ∃ z, (chR l h a b).m = z := ⟨_, rfl⟩
  obtain ⟨R1, hR1⟩ : ∃ z, (chR l h a b).days = z := ⟨_, rfl⟩
  obtain ⟨R2, hR2⟩ : ∃ z, (chR l h a b).n = z := ⟨_, rfl⟩
  obtain ⟨R3, hR3⟩ : ∃ z, (chR l h a b).d = z := ⟨_, rfl⟩
  have C1 := Lib.hid (Choose_any l h a b (.slice B2 j d2) (.slice B1 n2 d1) U (HOM.out U (HT2.out U hB.out)) (HOW.out U (HT2.out U hB.out)))
  have C2 : Hid (∀ Y A' c', Below X.heap.size X Y → RDays Y.heap.size Y (.slice A' n2 c') h → Calls Try.prog 52 #[.slice Av j cv, .slice A' n2 c', .int .i64 a, .int .i64 b] Y fun e w' => e = .returned (.tuple #[.int .i64 CM, .agg #[.int .i64 R1, .int .i64 R2, .int .i64 R3], .int .i64 CE]) ∧ Below Y.heap.size Y w') := fun Y A' c' hY hD => by
    rw [← hCE, ← hCM, ← hR1, ← hR2, ← hR3]
    exact refChoose_any l h a b _ _ Y (HRF.out Y hY) hD
  rw [hCE, hCM, hR1, hR2, hR3] at C1
  clear hCE hCM hR1 hR2 hR3
  go_wp2_with fail
  refine C1.out.mono ?_
  rintro _ V1 ⟨rfl, hv1⟩
  have F2 : ∃ V2, V1.alloc (.cells #[.int .i64 R1, .int .i64 R2, .int .i64 R3] 60) = V2 ∧ Hid (Below V1.heap.size V1 V2) ∧ Hid (Blk V2 V1.heap.size 60 #[.int .i64 R1, .int .i64 R2, .int .i64 R3]) := ⟨_, rfl, below_alloc _ _, Blk.new _ _ _⟩
  obtain ⟨V2, e2, HV2, HK2⟩ := F2
  have E2 := Lib.hid e2
  have HB2 : Hid (Below X.heap.size X V2) := hB.out.trans ((hv1.trans (HV2.out.mono hv1.size)).mono hB.out.size)
  obtain ⟨q2, hq2⟩ : ∃ q, V1.heap.size = q := ⟨_, rfl⟩
  rw [hq2] at HK2
  have HQ2 := Lib.hid hq2
  clear C1 e2 hq2 hv1 HV2 hB
  go_upto_region 21 with fail
  rw [E2.out, HQ2.out]
  clear E2
  go_wp2_with fail
  refine (CD.out V2 (HTO.out V2 (HT2.out V2 HB2.out))).mono ?_
  rintro _ V3 ⟨A', c', rfl, hv3, hrd⟩
  have HB3 : Hid (Below X.heap.size X V3) := HB2.out.trans (hv3.out.mono HB2.out.size)
  have HK3 := Lib.hid (HK2.out.below hv3.out HK2.out.lt)
  have C3 := Lib.hid (C2.out V3 A' c' HB3.out (hrd.out V3 (Below.refl _ _)))
  clear hv3 hrd C2 HK2 HB2
  go_wp2_with fail
  refine C3.out.mono ?_
  rintro _ V4 ⟨rfl, hv4⟩
  have F5 : ∃ V5, V4.alloc (.cells #[.int .i64 R1, .int .i64 R2, .int .i64 R3] 110) = V5 ∧ Hid (Below V4.heap.size V4 V5) ∧ Hid (Blk V5 V4.heap.size 110 #[.int .i64 R1, .int .i64 R2, .int .i64 R3]) := ⟨_, rfl, below_alloc _ _, Blk.new _ _ _⟩
  obtain ⟨V5, e5, HV5, HK5⟩ := F5
  have E5 := Lib.hid e5
  have HB35 : Hid (Below V3.heap.size V3 V5) := hv4.trans (HV5.out.mono hv4.size)
  have HB5 : Hid (Below X.heap.size X V5) := HB3.out.trans (HB35.out.mono HB3.out.size)
  have HK25 := Lib.hid (HK3.out.below HB35.out HK3.out.lt)
  obtain ⟨q5, hq5⟩ : ∃ q, V4.heap.size = q := ⟨_, rfl⟩
  rw [hq5] at HK5
  have HQ5 := Lib.hid hq5
  have a0 := cellOf HK25.out 0 (x := .int .i64 R1) rfl
  have a1 := cellOf HK25.out 1 (x := .int .i64 R2) rfl
  have a2 := cellOf HK25.out 2 (x := .int .i64 R3) rfl
  have b0 := cellOf HK5.out 0 (x := .int .i64 R1) rfl
  have b1 := cellOf HK5.out 1 (x := .int .i64 R2) rfl
  have b2 := cellOf HK5.out 2 (x := .int .i64 R3) rfl
  have heq : ∀ W, (Op.equalIn 10000 110 (.agg #[.int .i64 R1, .int .i64 R2, .int .i64 R3]) (.agg #[.int .i64 R1, .int .i64 R2, .int .i64 R3])).run Try.prog W = .ok true W := fun W => eqRScore _ _ _ W
  have gCM : (CM == CM) = true := by simp
  have gCE : (CE == CE) = true := by simp
  have CED : Hid (Calls Try.prog 45 #[.slice B1 n2 d1, .slice A2 n2 c2] V5 fun e w' => e = .returned (.bool true) ∧ Below V5.heap.size V5 w') := Lib.hid (by
    have h1 := eqDays_any (.slice B1 n2 d1) (.slice A2 n2 c2) h h V5 (HOW.out V5 (HT2.out V5 HB5.out)) (HRY.out V5 (HTO.out V5 (HT2.out V5 HB5.out)))
    simpa using h1)
  have CEM : Hid (∀ Y, Below V5.heap.size V5 Y → Calls Try.prog 53 #[.slice B2 j d2, .slice A j c] Y fun e w' => e = .returned (.bool true) ∧ Below Y.heap.size Y w') := fun Y hY => by
    have hX := HB5.out.trans (hY.mono HB5.out.size)
    have h1 := eqMeths_any (.slice B2 j d2) (.slice A j c) l l Y (HOM.out Y (HT2.out Y hX)) (HMY.out Y (HTO.out Y (HT2.out Y hX)))
    simpa using h1
  have HBW := Lib.hid (HTO.out V5 (HT2.out V5 HB5.out))
  clear C3 e5 hq5 hv4 HV5 HK5 HK25 HK3 HB35 HB3 CD HRY HMY HOW HOM HTO HRF HT2
  go_upto_region 22 with fail
  rw [E5.out, HQ5.out]
  clear E5
  go_wp2_with (go_at_call 45; refine CED.out.mono ?_; rintro _ V6 ⟨rfl, hv6⟩; have HV6 := Lib.hid hv6; clear hv6)
  go_wp2_with (go_at_call 53; refine (CEM.out V6 HV6.out).mono ?_; rintro _ V7 ⟨rfl, hv7⟩; have HV7 := Lib.hid (HV6.out.trans (hv7.mono HV6.out.size)); clear hv7)
  go_ret
  exact ⟨rfl, HBW.out.trans (HV7.out.mono HBW.out.size)⟩
end Go.Proofs.Ytlmpbmlbllndcaa
