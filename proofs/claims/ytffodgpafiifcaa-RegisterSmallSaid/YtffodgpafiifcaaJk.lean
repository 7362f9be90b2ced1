/-
  RegisterLoops: the walk.
-/
import Derived.Test.YtffodgpafiifcaaJj
namespace Go.Proofs.Ytffodgpafiifcaa
open Go.RowKit

set_option maxRecDepth 100000 in
set_option maxHeartbeats 12000000 in
theorem Loops_any (d nn bb st e : Int) (he : -9223372036854775808 ≤ e ∧ e ≤ 9223372036854775807) (vn vb vm : Value) (noise blur moves : List Int) (w : World) (hn : RInts w.heap.size w vn noise) (hb : RInts w.heap.size w vb blur) (hm : RInts w.heap.size w vm moves) (iN : InI noise) (iB : InI blur) (iM : InI moves) :
    Calls Try.prog 3 #[.agg #[.int .i64 d, .int .i64 nn, .int .i64 bb, .int .i64 st], .int .i64 e, vn, vb, vm] w fun en w' => en = .returned (.bool true) ∧ Below w.heap.size w w' := by
  obtain ⟨l, hl⟩ : ∃ l : LoopD, l = ⟨d, nn, bb, st⟩ := ⟨_, rfl⟩
  have HLd := Lib.hid hl
  have Hn := Lib.hid hn
  have Hb := Lib.hid hb
  have Hm := Lib.hid hm
  have IN := Lib.hid iN
  have IB := Lib.hid iB
  have IM := Lib.hid iM
  have HE := Lib.hid he
  obtain ⟨A1, c1, rfl, -, -⟩ := hn.open_
  obtain ⟨A2, c2, rfl, -, -⟩ := hb.open_
  obtain ⟨A3, c3, rfl, -, -⟩ := hm.open_
  obtain ⟨n1, hn1⟩ : ∃ n, noise.length = n := ⟨_, rfl⟩
  obtain ⟨n2, hn2⟩ : ∃ n, blur.length = n := ⟨_, rfl⟩
  obtain ⟨n3, hn3⟩ : ∃ n, moves.length = n := ⟨_, rfl⟩
  have N1 := Lib.hid hn1
  have N2 := Lib.hid hn2
  have N3 := Lib.hid hn3
  rw [hn1] at Hn ⊢
  rw [hn2] at Hb ⊢
  rw [hn3] at Hm ⊢
  obtain ⟨w1, e1, B1⟩ : ∃ w1, w.alloc (.cells #[.int .i64 d, .int .i64 nn, .int .i64 bb, .int .i64 st] 23) = w1 ∧ Below w.heap.size w w1 := ⟨_, rfl, below_alloc _ _⟩
  have V1 : Blk w1 w.heap.size 23 #[.int .i64 d, .int .i64 nn, .int .i64 bb, .int .i64 st] := e1 ▸ Blk.new _ _ _
  have E1 := Lib.hid e1
  have HB1 := Lib.hid B1
  obtain ⟨b5, hb5⟩ : ∃ b, w.heap.size = b := ⟨_, rfl⟩
  rw [hb5] at V1
  have HV1 := Lib.hid V1
  clear hl hn hb hm iN iB iM he hn1 hn2 hn3 e1 B1 V1
  go_enter Try.func3, Try.ntmps3
  go_upto_region 1 with fail
  rw [E1.out]
  clear hb5
  by_cases hbig : ¬ (n1 ≤ 60 ∧ n2 ≤ 60 ∧ n3 ≤ 40)
  · have CA := Lib.hid (awake_any w1)
    rcases (show (60 : Int) < (n1 : Int) ∨ (¬ (60 : Int) < (n1 : Int) ∧ (60 : Int) < (n2 : Int)) ∨ (¬ (60 : Int) < (n1 : Int) ∧ ¬ (60 : Int) < (n2 : Int) ∧ (40 : Int) < (n3 : Int)) by omega) with h1 | ⟨h1, h2⟩ | ⟨h1, h2, h3⟩
    all_goals
      clear hbig
      go_wp2_with fail
      refine CA.out.mono ?_
      rintro en w9 ⟨rfl, hb9⟩
      have HB9 := Lib.hid (HB1.out.trans (hb9.mono HB1.out.size))
      clear hb9
      go_wp2
      go_ret
      exact ⟨rfl, HB9.out⟩
  have i1 : ¬ (60 : Int) < (n1 : Int) := by omega
  have i2 : ¬ (60 : Int) < (n2 : Int) := by omega
  have i3 : ¬ (40 : Int) < (n3 : Int) := by omega
  have hs1 : n1 ≤ 60 := by omega
  have hs2 : n2 ≤ 60 := by omega
  have hs3 : n3 ≤ 40 := by omega
  clear hbig
  have v0 := cellOf HV1.out 0 (x := .int .i64 d) rfl
  have v1 := cellOf HV1.out 1 (x := .int .i64 nn) rfl
  have v2 := cellOf HV1.out 2 (x := .int .i64 bb) rfl
  have v3 := cellOf HV1.out 3 (x := .int .i64 st) rfl
  obtain ⟨w2, e2, B2⟩ : ∃ w2, w1.alloc (.cells #[.int .i64 d, .int .i64 nn, .int .i64 bb, .int .i64 st] 26) = w2 ∧ Below w1.heap.size w1 w2 := ⟨_, rfl, below_alloc _ _⟩
  have V2 : Blk w2 w1.heap.size 26 #[.int .i64 d, .int .i64 nn, .int .i64 bb, .int .i64 st] := e2 ▸ Blk.new _ _ _
  have E2 := Lib.hid e2
  have HB2 := Lib.hid (HB1.out.trans (B2.mono HB1.out.size))
  obtain ⟨b11, hb11⟩ : ∃ b, w1.heap.size = b := ⟨_, rfl⟩
  rw [hb11] at V2
  obtain ⟨rs, hrs⟩ : ∃ rs : List (Value × List Int), rs = [(.slice A1 n1 c1, noise), (.slice A2 n2 c2, blur), (.slice A3 n3 c3, moves)] := ⟨_, rfl⟩
  have hL : LS w l b5 b11 rs w2 := by
    have e9 := HLd.out
    subst e9
    refine ⟨HB2.out, HV1.out.below B2 HV1.out.lt, V2, fun r hr => ?_⟩
    rw [hrs] at hr
    simp only [List.mem_cons, List.not_mem_nil, or_false] at hr
    rcases hr with rfl | rfl | rfl
    · exact (RInts.below Hn.out HB2.out).more HB2.out.size
    · exact (RInts.below Hb.out HB2.out).more HB2.out.size
    · exact (RInts.below Hm.out HB2.out).more HB2.out.size
  have M1 := Lib.hid (show (Value.slice A1 n1 c1, noise) ∈ rs by rw [hrs]; simp)
  have M2 := Lib.hid (show (Value.slice A2 n2 c2, blur) ∈ rs by rw [hrs]; simp)
  have M3 := Lib.hid (show (Value.slice A3 n3 c3, moves) ∈ rs by rw [hrs]; simp)
  have hval : l.val = .agg #[.int .i64 d, .int .i64 nn, .int .i64 bb, .int .i64 st] := by rw [HLd.out]; rfl
  have HVl := Lib.hid hval
  have HL : Hid (Below w.heap.size w w2 ∧ True) := ⟨HB2.out, trivial⟩
  clear HL
  have HL := Lib.hid hL
  obtain ⟨bv, ce, hbr⟩ := bound_parts l
  obtain ⟨sv, se, hsr⟩ := settle_parts l e
  have HBR := Lib.hid hbr
  have HSR := Lib.hid hsr
  clear hrs hL e2 B2 V2 hval hbr hsr
  have hcells : Hid (l.dead = d ∧ l.noise = nn ∧ l.blur = bb ∧ l.step = st) := by rw [HLd.out]; exact ⟨rfl, rfl, rfl, rfl⟩
  go_upto_region 4 with fail
  rw [E2.out]
  clear hb11 v0 v1 v2 v3 i1 i2 i3 E1 E2
  have CC := Bound_any l w2
  rw [HVl.out] at CC
  rw [HBR.out] at CC
  have CC := Lib.hid CC
  have v0 := cellOf HL.out.b11 0 (x := .int .i64 l.dead) rfl
  have v1 := cellOf HL.out.b11 1 (x := .int .i64 l.noise) rfl
  have v2 := cellOf HL.out.b11 2 (x := .int .i64 l.blur) rfl
  have v3 := cellOf HL.out.b11 3 (x := .int .i64 l.step) rfl
  rw [hcells.out.1] at v0
  rw [hcells.out.2.1] at v1
  rw [hcells.out.2.2.1] at v2
  rw [hcells.out.2.2.2] at v3
  go_wp2_with fail
  refine CC.out.mono ?_
  rintro en w3 ⟨rfl, hbY⟩
  have HY := Lib.hid (HL.out.next hbY)
  clear CC hbY HL v0 v1 v2 v3
  have HL := HY
  clear HY
  have CC := refBound_any l w3
  rw [HVl.out] at CC
  rw [HBR.out] at CC
  have CC := Lib.hid CC
  have v0 := cellOf HL.out.b5 0 (x := .int .i64 l.dead) rfl
  have v1 := cellOf HL.out.b5 1 (x := .int .i64 l.noise) rfl
  have v2 := cellOf HL.out.b5 2 (x := .int .i64 l.blur) rfl
  have v3 := cellOf HL.out.b5 3 (x := .int .i64 l.step) rfl
  rw [hcells.out.1] at v0
  rw [hcells.out.2.1] at v1
  rw [hcells.out.2.2.1] at v2
  rw [hcells.out.2.2.2] at v3
  go_wp2_with fail
  refine CC.out.mono ?_
  rintro en w4 ⟨rfl, hbY⟩
  have HY := Lib.hid (HL.out.next hbY)
  clear CC hbY HL v0 v1 v2 v3
  have HL := HY
  clear HY
  have CKr : Hid (∀ Y, Below w4.heap.size w4 Y → Calls Try.prog 14 #[.agg #[.int .i64 d, .int .i64 nn, .int .i64 bb, .int .i64 st]] Y fun e w' => e = .returned (.int .i64 (checkE l)) ∧ Below w4.heap.size w4 w' ∧ ((w'.cell? ⟨b11, 0, none⟩ = some (.int .i64 d) ∧ w'.cell? ⟨b11, 1, none⟩ = some (.int .i64 nn) ∧ w'.cell? ⟨b11, 2, none⟩ = some (.int .i64 bb) ∧ w'.cell? ⟨b11, 3, none⟩ = some (.int .i64 st)) ∧ w'.cell? ⟨b5, 0, none⟩ = some (.int .i64 d) ∧ w'.cell? ⟨b5, 1, none⟩ = some (.int .i64 nn) ∧ w'.cell? ⟨b5, 2, none⟩ = some (.int .i64 bb) ∧ w'.cell? ⟨b5, 3, none⟩ = some (.int .i64 st))) := fun Y hY => by
    have h9 := Check_any l Y
    rw [HVl.out] at h9
    refine h9.mono ?_
    rintro e w' ⟨rfl, hb⟩
    have hw := hY.trans (hb.mono hY.size)
    have h1 := HL.out.next hw
    obtain ⟨q1, q2, q3, q4⟩ := hcells.out
    have h2 := h1.b11
    have h3 := h1.b5
    rw [q1, q2, q3, q4] at h2 h3
    exact ⟨rfl, hw, ⟨cellOf h2 0 rfl, cellOf h2 1 rfl, cellOf h2 2 rfl, cellOf h2 3 rfl⟩, cellOf h3 0 rfl, cellOf h3 1 rfl, cellOf h3 2 rfl, cellOf h3 3 rfl⟩
  have CKf : Hid (∀ Y, Below w4.heap.size w4 Y → Calls Try.prog 15 #[.agg #[.int .i64 d, .int .i64 nn, .int .i64 bb, .int .i64 st]] Y fun e w' => e = .returned (.int .i64 (checkE l)) ∧ Below w4.heap.size w4 w' ∧ ((w'.cell? ⟨b11, 0, none⟩ = some (.int .i64 d) ∧ w'.cell? ⟨b11, 1, none⟩ = some (.int .i64 nn) ∧ w'.cell? ⟨b11, 2, none⟩ = some (.int .i64 bb) ∧ w'.cell? ⟨b11, 3, none⟩ = some (.int .i64 st)) ∧ w'.cell? ⟨b5, 0, none⟩ = some (.int .i64 d) ∧ w'.cell? ⟨b5, 1, none⟩ = some (.int .i64 nn) ∧ w'.cell? ⟨b5, 2, none⟩ = some (.int .i64 bb) ∧ w'.cell? ⟨b5, 3, none⟩ = some (.int .i64 st))) := fun Y hY => by
    have h9 := refCheck_any l Y
    rw [HVl.out] at h9
    refine h9.mono ?_
    rintro e w' ⟨rfl, hb⟩
    have hw := hY.trans (hb.mono hY.size)
    have h1 := HL.out.next hw
    obtain ⟨q1, q2, q3, q4⟩ := hcells.out
    have h2 := h1.b11
    have h3 := h1.b5
    rw [q1, q2, q3, q4] at h2 h3
    exact ⟨rfl, hw, ⟨cellOf h2 0 rfl, cellOf h2 1 rfl, cellOf h2 2 rfl, cellOf h2 3 rfl⟩, cellOf h3 0 rfl, cellOf h3 1 rfl, cellOf h3 2 rfl, cellOf h3 3 rfl⟩
  have hS0 : (w4.cell? ⟨b11, 0, none⟩ = some (.int .i64 d) ∧ w4.cell? ⟨b11, 1, none⟩ = some (.int .i64 nn) ∧ w4.cell? ⟨b11, 2, none⟩ = some (.int .i64 bb) ∧ w4.cell? ⟨b11, 3, none⟩ = some (.int .i64 st)) ∧ w4.cell? ⟨b5, 0, none⟩ = some (.int .i64 d) ∧ w4.cell? ⟨b5, 1, none⟩ = some (.int .i64 nn) ∧ w4.cell? ⟨b5, 2, none⟩ = some (.int .i64 bb) ∧ w4.cell? ⟨b5, 3, none⟩ = some (.int .i64 st) := by
    obtain ⟨q1, q2, q3, q4⟩ := hcells.out
    have h2 := HL.out.b11
    have h3 := HL.out.b5
    rw [q1, q2, q3, q4] at h2 h3
    exact ⟨⟨cellOf h2 0 rfl, cellOf h2 1 rfl, cellOf h2 2 rfl, cellOf h2 3 rfl⟩, cellOf h3 0 rfl, cellOf h3 1 rfl, cellOf h3 2 rfl, cellOf h3 3 rfl⟩
  obtain ⟨⟨z0, z1, z2, z3⟩, z4, z5, z6, z7⟩ := hS0
  obtain ⟨ck, hck⟩ : ∃ ck, checkE l = ck := ⟨_, rfl⟩
  rw [hck] at CKr CKf
  clear hck
  go_upto_region 6 with fail
  go_cut [64] (fun s wx => CutF w l b5 b11 rs s wx)
  case first =>
    go_region_held3 (fun X => (X.cell? ⟨b11, 0, none⟩ = some (.int .i64 d) ∧ X.cell? ⟨b11, 1, none⟩ = some (.int .i64 nn) ∧ X.cell? ⟨b11, 2, none⟩ = some (.int .i64 bb) ∧ X.cell? ⟨b11, 3, none⟩ = some (.int .i64 st)) ∧ X.cell? ⟨b5, 0, none⟩ = some (.int .i64 d) ∧ X.cell? ⟨b5, 1, none⟩ = some (.int .i64 nn) ∧ X.cell? ⟨b5, 2, none⟩ = some (.int .i64 bb) ∧ X.cell? ⟨b5, 3, none⟩ = some (.int .i64 st))
      (first | exact S1 | exact S2 | go_keep)
      (first | (go_at_call 14; refine (CKr.out _ (by first | exact hy2 | exact Below.refl _ _ | exact (Below.refl _ _).drew)).mono ?_; rintro _ y1 ⟨rfl, hy1, S1⟩) | (go_at_call 15; refine (CKf.out _ (by first | exact hy1 | exact Below.refl _ _ | exact (Below.refl _ _).drew)).mono ?_; rintro _ y2 ⟨rfl, hy2, S2⟩))
    all_goals
      go_wp2_with fail
      go_meet
      first | exact ⟨rfl, HL.out.next hy2⟩ | exact ⟨rfl, HL.out.next hy1⟩
  case rest =>
    obtain ⟨rfl, hLS⟩ := hcut
    clear CKr CKf z0 z1 z2 z3 z4 z5 z6 z7 HL
    have HL := Lib.hid hLS
    obtain ⟨w5, rfl⟩ : ∃ X, X = wc := ⟨_, rfl⟩
    clear hLS
    have CC := Settle_any l e w5 HE.out
    rw [HVl.out] at CC
    rw [HSR.out] at CC
    have CC := Lib.hid CC
    have v0 := cellOf HL.out.b11 0 (x := .int .i64 l.dead) rfl
    have v1 := cellOf HL.out.b11 1 (x := .int .i64 l.noise) rfl
    have v2 := cellOf HL.out.b11 2 (x := .int .i64 l.blur) rfl
    have v3 := cellOf HL.out.b11 3 (x := .int .i64 l.step) rfl
    rw [hcells.out.1] at v0
    rw [hcells.out.2.1] at v1
    rw [hcells.out.2.2.1] at v2
    rw [hcells.out.2.2.2] at v3
    go_wp2_with fail
    refine CC.out.mono ?_
    rintro en w6 ⟨rfl, hbY⟩
    have HY := Lib.hid (HL.out.next hbY)
    clear CC hbY HL v0 v1 v2 v3
    have HL := HY
    clear HY
    have CC := refSettle_any l e w6
    rw [HVl.out] at CC
    rw [HSR.out] at CC
    have CC := Lib.hid CC
    have v0 := cellOf HL.out.b5 0 (x := .int .i64 l.dead) rfl
    have v1 := cellOf HL.out.b5 1 (x := .int .i64 l.noise) rfl
    have v2 := cellOf HL.out.b5 2 (x := .int .i64 l.blur) rfl
    have v3 := cellOf HL.out.b5 3 (x := .int .i64 l.step) rfl
    rw [hcells.out.1] at v0
    rw [hcells.out.2.1] at v1
    rw [hcells.out.2.2.1] at v2
    rw [hcells.out.2.2.2] at v3
    go_wp2_with fail
    refine CC.out.mono ?_
    rintro en w7 ⟨rfl, hbY⟩
    have HY := Lib.hid (HL.out.next hbY)
    clear CC hbY HL v0 v1 v2 v3
    have HL := HY
    clear HY
    have CC := CopyInts_any (Value.slice A1 n1 c1) noise w7 (HL.out.rows (Value.slice A1 n1 c1, noise) M1.out) (by rw [N1.out]; omega)
    have CC := Lib.hid CC
    go_wp2_with fail
    refine CC.out.mono ?_
    rintro en w8 ⟨u1, rfl, hu, hbY⟩
    have HY := Lib.hid (HL.out.next hbY)
    have HY2 := Lib.hid (HY.out.add (Rd.own hu (own_le hu) : RInts w8.heap.size w8 u1 noise))
    clear HY hu
    have HY := HY2
    clear HY2
    clear CC hbY HL
    have HL := HY
    clear HY
    have CC := CopyInts_any (Value.slice A2 n2 c2) blur w8 (HL.out.rows (Value.slice A2 n2 c2, blur) (List.mem_cons_of_mem _ M2.out)) (by rw [N2.out]; omega)
    have CC := Lib.hid CC
    go_wp2_with fail
    refine CC.out.mono ?_
    rintro en w9 ⟨u2, rfl, hu, hbY⟩
    have HY := Lib.hid (HL.out.next hbY)
    have HY2 := Lib.hid (HY.out.add (Rd.own hu (own_le hu) : RInts w9.heap.size w9 u2 blur))
    clear HY hu
    have HY := HY2
    clear HY2
    clear CC hbY HL
    have HL := HY
    clear HY
    have CC := CopyInts_any (Value.slice A3 n3 c3) moves w9 (HL.out.rows (Value.slice A3 n3 c3, moves) (List.mem_cons_of_mem _ (List.mem_cons_of_mem _ M3.out))) (by rw [N3.out]; omega)
    have CC := Lib.hid CC
    go_wp2_with fail
    refine CC.out.mono ?_
    rintro en w10 ⟨u3, rfl, hu, hbY⟩
    have HY := Lib.hid (HL.out.next hbY)
    have HY2 := Lib.hid (HY.out.add (Rd.own hu (own_le hu) : RInts w10.heap.size w10 u3 moves))
    clear HY hu
    have HY := HY2
    clear HY2
    clear CC hbY HL
    have HL := HY
    clear HY
    have U1 := Lib.hid (HL.out.rows (u1, noise) (by simp))
    have U2 := Lib.hid (HL.out.rows (u2, blur) (by simp))
    have K1 : Hid ((u1, noise) ∈ (u3, moves) :: (u2, blur) :: (u1, noise) :: rs) := Lib.hid (show _ ∈ _ by simp)
    have K2 : Hid ((u2, blur) ∈ (u3, moves) :: (u2, blur) :: (u1, noise) :: rs) := Lib.hid (show _ ∈ _ by simp)
    have K3 : Hid ((u3, moves) ∈ (u3, moves) :: (u2, blur) :: (u1, noise) :: rs) := Lib.hid (show _ ∈ _ by simp)
    have Q1 : Hid ((Value.slice A1 n1 c1, noise) ∈ (u3, moves) :: (u2, blur) :: (u1, noise) :: rs) := List.mem_cons_of_mem _ (List.mem_cons_of_mem _ (List.mem_cons_of_mem _ M1.out))
    have Q2 : Hid ((Value.slice A2 n2 c2, blur) ∈ (u3, moves) :: (u2, blur) :: (u1, noise) :: rs) := List.mem_cons_of_mem _ (List.mem_cons_of_mem _ (List.mem_cons_of_mem _ M2.out))
    have Q3 : Hid ((Value.slice A3 n3 c3, moves) ∈ (u3, moves) :: (u2, blur) :: (u1, noise) :: rs) := List.mem_cons_of_mem _ (List.mem_cons_of_mem _ (List.mem_cons_of_mem _ M3.out))
    obtain ⟨rq, hrq⟩ : ∃ rq, (u3, moves) :: (u2, blur) :: (u1, noise) :: rs = rq := ⟨_, rfl⟩
    rw [hrq] at HL K1 K2 K3 Q1 Q2 Q3
    clear hrq U1 U2 M1 M2 M3
    have CC := Play_any l e HE.out noise blur _ _ w10 (HL.out.rows _ K1.out) (HL.out.rows _ K2.out) IN.out IB.out
    rw [HVl.out] at CC
    have CC := Lib.hid CC
    have v0 := cellOf HL.out.b11 0 (x := .int .i64 l.dead) rfl
    have v1 := cellOf HL.out.b11 1 (x := .int .i64 l.noise) rfl
    have v2 := cellOf HL.out.b11 2 (x := .int .i64 l.blur) rfl
    have v3 := cellOf HL.out.b11 3 (x := .int .i64 l.step) rfl
    rw [hcells.out.1] at v0
    rw [hcells.out.2.1] at v1
    rw [hcells.out.2.2.1] at v2
    rw [hcells.out.2.2.2] at v3
    go_wp2_with fail
    refine CC.out.mono ?_
    rintro en w11 ⟨⟨um, ms, ep, rfl, hpi, hrm⟩, hbY⟩
    have HY := Lib.hid (HL.out.next hbY)
    have HPi := Lib.hid hpi
    have HRm := Lib.hid hrm
    obtain ⟨Am, cm, rfl, -, -⟩ := hrm.open_
    clear hpi hrm
    clear CC hbY HL v0 v1 v2 v3
    have HL := HY
    clear HY
    have CC := refPlay_any l e noise blur _ _ w11 (HL.out.rows _ Q1.out) (HL.out.rows _ Q2.out)
    rw [HVl.out] at CC
    have CC := Lib.hid CC
    have v0 := cellOf HL.out.b5 0 (x := .int .i64 l.dead) rfl
    have v1 := cellOf HL.out.b5 1 (x := .int .i64 l.noise) rfl
    have v2 := cellOf HL.out.b5 2 (x := .int .i64 l.blur) rfl
    have v3 := cellOf HL.out.b5 3 (x := .int .i64 l.step) rfl
    rw [hcells.out.1] at v0
    rw [hcells.out.2.1] at v1
    rw [hcells.out.2.2.1] at v2
    rw [hcells.out.2.2.2] at v3
    go_wp2_with fail
    refine CC.out.mono ?_
    rintro en w12 ⟨⟨um2, ms2, ep2, rfl, hpi, hrm⟩, hbY⟩
    have HY := Lib.hid (HL.out.next hbY)
    obtain ⟨rfl, rfl⟩ := HPi.out.one hpi
    have HRm1 := Lib.hid (HRm.out.later hbY)
    have HRm2 := Lib.hid hrm
    obtain ⟨Am2, cm2, rfl, -, -⟩ := hrm.open_
    clear hpi hrm HRm
    clear CC hbY HL v0 v1 v2 v3
    have HL := HY
    clear HY
    have CC := sameMoments_yes _ _ ms w12 HRm1.out HRm2.out
    have CC := Lib.hid CC
    go_wp2_with fail
    refine CC.out.mono ?_
    rintro en w13 ⟨rfl, hbY⟩
    have HY := Lib.hid (HL.out.next hbY)
    clear HRm1 HRm2
    clear CC hbY HL
    have HL := HY
    clear HY
    have CC := Worst_any l w13
    rw [HVl.out] at CC
    have CC := Lib.hid CC
    have v0 := cellOf HL.out.b11 0 (x := .int .i64 l.dead) rfl
    have v1 := cellOf HL.out.b11 1 (x := .int .i64 l.noise) rfl
    have v2 := cellOf HL.out.b11 2 (x := .int .i64 l.blur) rfl
    have v3 := cellOf HL.out.b11 3 (x := .int .i64 l.step) rfl
    rw [hcells.out.1] at v0
    rw [hcells.out.2.1] at v1
    rw [hcells.out.2.2.1] at v2
    rw [hcells.out.2.2.2] at v3
    go_wp2_with fail
    refine CC.out.mono ?_
    rintro en w14 ⟨⟨x1, x2, l1, l2, ew, rfl, hwi, ho1, ho2⟩, hbY⟩
    have HY := Lib.hid (HL.out.next hbY)
    have HWi := Lib.hid hwi
    have HO1 : Hid (RInts w14.heap.size w14 x1 l1) := Rd.own ho1 (own_le ho1)
    have HO2 : Hid (RInts w14.heap.size w14 x2 l2) := Rd.own ho2 (own_le ho2)
    clear hwi ho1 ho2
    clear CC hbY HL v0 v1 v2 v3
    have HL := HY
    clear HY
    have CC := refWorst_any l w14
    rw [HVl.out] at CC
    have CC := Lib.hid CC
    have v0 := cellOf HL.out.b5 0 (x := .int .i64 l.dead) rfl
    have v1 := cellOf HL.out.b5 1 (x := .int .i64 l.noise) rfl
    have v2 := cellOf HL.out.b5 2 (x := .int .i64 l.blur) rfl
    have v3 := cellOf HL.out.b5 3 (x := .int .i64 l.step) rfl
    rw [hcells.out.1] at v0
    rw [hcells.out.2.1] at v1
    rw [hcells.out.2.2.1] at v2
    rw [hcells.out.2.2.2] at v3
    go_wp2_with fail
    refine CC.out.mono ?_
    rintro en w15 ⟨⟨x3, x4, l3, l4, ew2, rfl, hwi, ho3, ho4⟩, hbY⟩
    have HY := Lib.hid (HL.out.next hbY)
    obtain ⟨rfl, rfl, rfl⟩ := HWi.out.one hwi
    have HO3 : Hid (RInts w15.heap.size w15 x3 l1) := Rd.own ho3 (own_le ho3)
    have HO4 : Hid (RInts w15.heap.size w15 x4 l2) := Rd.own ho4 (own_le ho4)
    have HO1' := Lib.hid ((HO1.out.below hbY).more hbY.size)
    have HO2' := Lib.hid ((HO2.out.below hbY).more hbY.size)
    clear hwi ho3 ho4 HO1 HO2
    clear CC hbY HL v0 v1 v2 v3
    have HL := HY
    clear HY
    have CC := sameInts_any _ _ l1 l1 w15 HO1'.out HO3.out
    rw [show decide (l1 = l1) = true by simp] at CC
    have CC := Lib.hid CC
    go_wp2_with fail
    refine CC.out.mono ?_
    rintro en w16 ⟨rfl, hbY⟩
    have HY := Lib.hid (HL.out.next hbY)
    have HO2 := Lib.hid ((HO2'.out.below hbY).more hbY.size)
    have HO5 := Lib.hid ((HO4.out.below hbY).more hbY.size)
    clear HO1' HO3 HO2' HO4
    clear CC hbY HL
    have HL := HY
    clear HY
    have CC := sameInts_any _ _ l2 l2 w16 HO2.out HO5.out
    rw [show decide (l2 = l2) = true by simp] at CC
    have CC := Lib.hid CC
    go_wp2_with fail
    refine CC.out.mono ?_
    rintro en w17 ⟨rfl, hbY⟩
    have HY := Lib.hid (HL.out.next hbY)
    clear HO2 HO5
    clear CC hbY HL
    have HL := HY
    clear HY
    have CC := Beat_any l e HE.out moves _ w17 (HL.out.rows _ K3.out) IM.out
    rw [HVl.out] at CC
    have CC := Lib.hid CC
    have v0 := cellOf HL.out.b11 0 (x := .int .i64 l.dead) rfl
    have v1 := cellOf HL.out.b11 1 (x := .int .i64 l.noise) rfl
    have v2 := cellOf HL.out.b11 2 (x := .int .i64 l.blur) rfl
    have v3 := cellOf HL.out.b11 3 (x := .int .i64 l.step) rfl
    rw [hcells.out.1] at v0
    rw [hcells.out.2.1] at v1
    rw [hcells.out.2.2.1] at v2
    rw [hcells.out.2.2.2] at v3
    go_wp2_with fail
    refine CC.out.mono ?_
    rintro en w18 ⟨⟨x5, l5, eb, rfl, hwi, ho1⟩, hbY⟩
    have HY := Lib.hid (HL.out.next hbY)
    have HWi2 := Lib.hid hwi
    have HO1 : Hid (RInts w18.heap.size w18 x5 l5) := Rd.own ho1 (own_le ho1)
    clear hwi ho1
    clear CC hbY HL v0 v1 v2 v3
    have HL := HY
    clear HY
    have CC := refBeat_any l e moves _ w18 (HL.out.rows _ Q3.out)
    rw [HVl.out] at CC
    have CC := Lib.hid CC
    have v0 := cellOf HL.out.b5 0 (x := .int .i64 l.dead) rfl
    have v1 := cellOf HL.out.b5 1 (x := .int .i64 l.noise) rfl
    have v2 := cellOf HL.out.b5 2 (x := .int .i64 l.blur) rfl
    have v3 := cellOf HL.out.b5 3 (x := .int .i64 l.step) rfl
    rw [hcells.out.1] at v0
    rw [hcells.out.2.1] at v1
    rw [hcells.out.2.2.1] at v2
    rw [hcells.out.2.2.2] at v3
    go_wp2_with fail
    refine CC.out.mono ?_
    rintro en w19 ⟨⟨x6, l6, eb2, rfl, hwi, ho3⟩, hbY⟩
    have HY := Lib.hid (HL.out.next hbY)
    obtain ⟨rfl, rfl⟩ := HWi2.out.one hwi
    have HO3 : Hid (RInts w19.heap.size w19 x6 l5) := Rd.own ho3 (own_le ho3)
    have HO2 := Lib.hid ((HO1.out.below hbY).more hbY.size)
    clear hwi ho3 HO1
    clear CC hbY HL v0 v1 v2 v3
    have HL := HY
    clear HY
    have CC := sameInts_any _ _ l5 l5 w19 HO2.out HO3.out
    rw [show decide (l5 = l5) = true by simp] at CC
    have CC := Lib.hid CC
    go_wp2_with fail
    refine CC.out.mono ?_
    rintro en w20 ⟨rfl, hbY⟩
    have HY := Lib.hid (HL.out.next hbY)
    clear HO2 HO3
    clear CC hbY HL
    have HL := HY
    clear HY
    have CC := sameInts_any _ _ noise noise w20 (HL.out.rows _ K1.out) (HL.out.rows _ Q1.out)
    rw [show decide (noise = noise) = true by simp] at CC
    have CC := Lib.hid CC
    go_wp2_with fail
    refine CC.out.mono ?_
    rintro en w21 ⟨rfl, hbY⟩
    have HY := Lib.hid (HL.out.next hbY)
    clear CC hbY HL
    have HL := HY
    clear HY
    have CC := sameInts_any _ _ blur blur w21 (HL.out.rows _ K2.out) (HL.out.rows _ Q2.out)
    rw [show decide (blur = blur) = true by simp] at CC
    have CC := Lib.hid CC
    go_wp2_with fail
    refine CC.out.mono ?_
    rintro en w22 ⟨rfl, hbY⟩
    have HY := Lib.hid (HL.out.next hbY)
    clear CC hbY HL
    have HL := HY
    clear HY
    have CC := sameInts_any _ _ moves moves w22 (HL.out.rows _ K3.out) (HL.out.rows _ Q3.out)
    rw [show decide (moves = moves) = true by simp] at CC
    have CC := Lib.hid CC
    go_wp2_with fail
    refine CC.out.mono ?_
    rintro en w23 ⟨rfl, hbY⟩
    have HY := Lib.hid (HL.out.next hbY)
    clear CC hbY HL
    have HL := HY
    clear HY
    have CC := awake_any w23
    have CC := Lib.hid CC
    go_wp2_with fail
    refine CC.out.mono ?_
    rintro en w24 ⟨rfl, hbY⟩
    have HY := Lib.hid (HL.out.next hbY)
    clear CC hbY HL
    have HL := HY
    clear HY
    go_wp2
    go_ret
    exact ⟨rfl, HL.out.below⟩
end Go.Proofs.Ytffodgpafiifcaa
