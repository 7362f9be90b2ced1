/-
  The reference's Follow, given what its Check returns.
-/
import Derived.Test.YtdbfhdncjblleaaRh
namespace Go.Proofs.Ytdbfhdncjblleaa
open Go.RowKit

theorem fieldsSR : Try.prog.underlying 30 = some (.struct (Try.prog.fieldsOf 30)) := by kernel_rfl
theorem heldSR : Try.prog.stoodInHeld 30 = false := by kernel_rfl
theorem flSR : (Try.prog.fieldsOf 30).toList.map (fun f => (f.name != "_", f.type, f.offset)) = [(true, 3, 0), (true, 3, 1), (true, 3, 2), (true, 3, 3)] := by kernel_rfl
theorem eq4R (a b c d a' b' c' d' : Int) (w : World) : (Op.equalIn 10000 30 (.agg #[.int .i64 a, .int .i64 b, .int .i64 c, .int .i64 d]) (.agg #[.int .i64 a', .int .i64 b', .int .i64 c', .int .i64 d'])).run Try.prog w = .ok (decide ((⟨a, b, c, d⟩ : SpotD) = ⟨a', b', c', d'⟩)) w := by
  rw [run_equalIn_agg w 9999 _ _ _ fieldsSR heldSR]
  have hl := flSR
  generalize (Try.prog.fieldsOf 30).toList = fs at hl ⊢
  obtain ⟨f0, r0, rfl, h0, hl⟩ := List.map_eq_cons_iff.1 hl
  obtain ⟨f1, r1, rfl, h1, hl⟩ := List.map_eq_cons_iff.1 hl
  obtain ⟨f2, r2, rfl, h2, hl⟩ := List.map_eq_cons_iff.1 hl
  obtain ⟨f3, r3, rfl, h3, hl⟩ := List.map_eq_cons_iff.1 hl
  obtain rfl := List.map_eq_nil_iff.1 hl
  simp only [Prod.mk.injEq, bne_iff_ne, ne_eq] at h0 h1 h2 h3
  obtain ⟨n0, t0, o0⟩ := h0
  obtain ⟨n1, t1, o1⟩ := h1
  obtain ⟨n2, t2, o2⟩ := h2
  obtain ⟨n3, t3, o3⟩ := h3
  clear hl
  simp [Op.eqFields, n0, n1, n2, n3, t0, t1, t2, t3, o0, o1, o2, o3, go_sem]
  by_cases ea : a = a' <;> by_cases eb : b = b' <;> by_cases ec : c = c' <;> by_cases ed : d = d' <;> simp [ea, eb, ec, ed]
/-- No place up to here is printed by the spot. -/
def NotYet (s : SpotD) (l : List (SpotD × PlaceD)) : Prop := ∀ y ∈ l, y.1 ≠ s
theorem followO_none {r : RunD} {s : SpotD} (h : NotYet s (placesD r)) : followO r s = none := by
  unfold followO
  have : (placesD r).find? (fun x => decide (x.1 = s)) = none := List.find?_eq_none.2 fun x hx => by simpa using h x hx
  rw [this]; rfl

set_option maxRecDepth 100000 in
set_option maxHeartbeats 4000000 in
theorem refFollow_any (RC : RefCheckOk) (v : Value) (r : RunD) (s : SpotD) (w : World) (h : RRun w.heap.size w v r) (hsm : SmallRun r) :
    Calls Try.prog 24 #[v, .agg #[.int .i64 s.web, .int .i64 s.side, .int .i64 s.row, .int .i64 s.col]] w fun e w' => e = .returned (placeRet (followD r s)) ∧ Below w.heap.size w w' := by
  have HRC := Lib.hid RC
  have HSM := Lib.hid hsm
  have hrun := Lib.hid h
  obtain ⟨A1, c1, A2, c2, A3, c3, rfl⟩ := h.shape
  clear h RC hsm
  obtain ⟨tw, ts, tr, tc⟩ := s
  have F0 : ∃ W0, ((w.alloc (.cells #[.slice A1 r.webs.length c1, .slice A2 r.ribs.length c2, .slice A3 r.stacks.length c3, .bool r.coll] 26)).alloc (.cells #[.int .i64 tw, .int .i64 ts, .int .i64 tr, .int .i64 tc] 30)).alloc (.cells #[.int .i64 0, .int .i64 0, .int .i64 0] 28) = W0 ∧
      W0.heap.size = w.heap.size + 3 ∧ Below w.heap.size w W0 ∧ Blk W0 w.heap.size 26 #[.slice A1 r.webs.length c1, .slice A2 r.ribs.length c2, .slice A3 r.stacks.length c3, .bool r.coll] ∧ Blk W0 (w.heap.size + 1) 30 #[.int .i64 tw, .int .i64 ts, .int .i64 tr, .int .i64 tc] ∧ Blk W0 (w.heap.size + 1 + 1) 28 #[.int .i64 0, .int .i64 0, .int .i64 0] := by
    refine ⟨_, rfl, by simp, (((Below.refl _ _).alloc (Nat.le_refl _) _).alloc (by simp) _).alloc (by simp; omega) _, ((Blk.new w _ _).alloc _).alloc _, ?_, ?_⟩
    · have := Blk.new (w.alloc (.cells #[.slice A1 r.webs.length c1, .slice A2 r.ribs.length c2, .slice A3 r.stacks.length c3, .bool r.coll] 26)) 30 #[.int .i64 tw, .int .i64 ts, .int .i64 tr, .int .i64 tc]
      rw [World.size_alloc] at this
      exact this.alloc _
    · have := Blk.new ((w.alloc (.cells #[.slice A1 r.webs.length c1, .slice A2 r.ribs.length c2, .slice A3 r.stacks.length c3, .bool r.coll] 26)).alloc (.cells #[.int .i64 tw, .int .i64 ts, .int .i64 tr, .int .i64 tc] 30)) 28 #[.int .i64 0, .int .i64 0, .int .i64 0]
      rw [World.size_alloc, World.size_alloc] at this
      exact this
  obtain ⟨W0, e0, z0, B0, V0, P0, R0⟩ := F0
  have E0 := Lib.hid e0
  have hb2 : w.heap.size ≤ w.heap.size + 1 + 1 := by omega
  obtain ⟨b1, hb1e⟩ : ∃ b1, w.heap.size + 1 = b1 := ⟨_, rfl⟩
  obtain ⟨b2, hb2e⟩ : ∃ b2, b1 + 1 = b2 := ⟨_, rfl⟩
  rw [hb1e] at P0 R0 hb2
  rw [hb2e] at R0 hb2
  have o0 := cellOf V0 0 (x := .slice A1 r.webs.length c1) rfl
  have o1 := cellOf V0 1 (x := .slice A2 r.ribs.length c2) rfl
  have o2 := cellOf V0 2 (x := .slice A3 r.stacks.length c3) rfl
  have o3 := cellOf V0 3 (x := .bool r.coll) rfl
  have C := Lib.hid (HRC.out _ r W0 ((hrun.out.below B0).more B0.size) HSM.out)
  clear e0 z0
  go_enter Try.func24, Try.ntmps24
  go_upto_region 1 with fail
  rw [E0.out]
  try simp only [hb1e, hb2e]
  clear hb1e hb2e
  go_wp2_with fail
  refine C.out.mono ?_
  rintro e w3 ⟨rfl, hb3⟩
  have B3 := B0.trans (hb3.mono B0.size)
  have V3 := V0.below hb3 V0.lt
  have P3 := P0.below hb3 P0.lt
  have R3 := R0.below hb3 R0.lt
  clear C o0 o1 o2 o3 V0 P0 R0 hb3
  by_cases hck : checkE r = 0
  case neg =>
    have Hn := Lib.hid (follow_bad (s := ⟨tw, ts, tr, tc⟩) hck)
    have hck' : (checkE r != 0) = true := by simpa using hck
    have r0 := cellOf R3 0 (x := .int .i64 0) rfl
    have r1 := cellOf R3 1 (x := .int .i64 0) rfl
    have r2 := cellOf R3 2 (x := .int .i64 0) rfl
    have f0 := R3.frozen 0
    have f1 := R3.frozen 1
    have f2 := R3.frozen 2
    clear hck V3 P3 R3
    generalize checkE r = ck at *
    go_wp2
    refine bodyPost_ret (v := .tuple #[.agg #[.int .i64 0, .int .i64 0, .int .i64 0], .int .i64 ck]) (by simp [results, Try.results24, go_sem, r0, r1, r2]) rfl ⟨?_, below_set3 B3 hb2 _ _ _⟩
    rw [Hn.out]; rfl
  rw [hck]
  have Hok := Lib.hid hck
  have o0 := cellOf V3 0 (x := .slice A1 r.webs.length c1) rfl
  have o1 := cellOf V3 1 (x := .slice A2 r.ribs.length c2) rfl
  have o2 := cellOf V3 2 (x := .slice A3 r.stacks.length c3) rfl
  have o3 := cellOf V3 3 (x := .bool r.coll) rfl
  have C := Lib.hid (All_any _ r w3 ((hrun.out.below B3).more B3.size) hck)
  clear hck V3
  go_upto_region 4 with fail
  go_wp2_with fail
  refine C.out.mono ?_
  rintro e w4 ⟨u, rfl, hu, hb4⟩
  have B4 := B3.trans (hb4.mono B3.size)
  obtain ⟨A, c0, rfl, hA1, hA⟩ := RAll.open_ hu.reads
  have HA := Lib.hid hA
  have HP4 := Lib.hid (P3.below hb4 P3.lt)
  have HR4 := Lib.hid (R3.below hb4 R3.lt)
  clear C o0 o1 o2 o3 hu hA hb4 P3 R3
  go_wp2
  go_loopw [8] (fun i wr => ∃ c : Nat, c ≤ (layoutD r).length ∧ i = .int .i64 c ∧ Hid (NotYet ⟨tw, ts, tr, tc⟩ (row3 ((layoutD r).take c))) ∧ Below w4.heap.size w4 wr) (fun i _ => (layoutD r).length - (intOf i).toNat)
  case atStart => exact ⟨0, Nat.zero_le _, rfl, fun y hy => by simp [row3] at hy, Below.refl _ _⟩
  case round =>
    obtain ⟨c, hc, rfl, hN, hB⟩ := hrel
    by_cases hltc : c < (layoutD r).length
    case neg =>
      have Hn : Hid (followD r ⟨tw, ts, tr, tc⟩ = (place0, 6)) := by
        refine follow_no Hok.out (followO_none ?_)
        have := hN.out
        rwa [show (layoutD r).take c = layoutD r from List.take_of_length_le (by omega)] at this
      have R5 := HR4.out.below hB HR4.out.lt
      have r0 := cellOf R5 0 (x := .int .i64 0) rfl
      have r1 := cellOf R5 1 (x := .int .i64 0) rfl
      have r2 := cellOf R5 2 (x := .int .i64 0) rfl
      have f0 := R5.frozen 0
      have f1 := R5.frozen 1
      have f2 := R5.frozen 2
      have BF := B4.trans (hB.mono B4.size)
      clear R5
      go_wp2
      refine bodyPost_ret (v := .tuple #[.agg #[.int .i64 0, .int .i64 0, .int .i64 0], .int .i64 6]) (by simp [results, Try.results24, go_sem, r0, r1, r2]) rfl ⟨?_, below_set3 BF hb2 _ _ _⟩
      rw [Hn.out]; rfl
    obtain ⟨S, hS⟩ : ∃ S, (layoutD r)[c]? = some S := ⟨_, List.getElem?_eq_getElem hltc⟩
    obtain ⟨g, o, u1, rfl, hg, m0, hp⟩ := HA.out c S hS
    obtain ⟨A5, c5, rfl, hA5l, hA5⟩ := RAll.open_ hp
    have HA5 := Lib.hid hA5
    have HS := Lib.hid hS
    have hci : (c : Int) < ((layoutD r).length : Int) := by omega
    have hN2 : Hid (NotYet ⟨tw, ts, tr, tc⟩ (row3 ((layoutD r).take c) ++ row2 c (S.take 0))) := by
      show NotYet _ _
      simpa [row2] using hN.out
    have HM0 : Hid (∀ X, Below w4.heap.size w4 X → X.cell? ⟨g, o + c, none⟩ = some (.slice A5 S.length c5)) := fun X hX => (hX.cell (p := ⟨g, o + c, none⟩) hg).trans m0
    clear hp hA5 hS m0 hN
    go_wp2
    obtain ⟨wo, rfl⟩ : ∃ wo, wo = wr := ⟨wr, rfl⟩
    go_loopw [9] (fun i wr => ∃ k : Nat, k ≤ S.length ∧ i = .int .i64 k ∧ Hid (NotYet ⟨tw, ts, tr, tc⟩ (row3 ((layoutD r).take c) ++ row2 c (S.take k))) ∧ Below w4.heap.size w4 wr) (fun i _ => S.length - (intOf i).toNat)
    case atStart => exact ⟨0, Nat.zero_le _, rfl, hN2, hB⟩
    case round =>
      clear hB hN2
      obtain ⟨k, hk, rfl, hN, hB⟩ := hrel
      have m0 := HM0.out wr hB
      by_cases hltk : k < S.length
      case neg =>
        have hN3 : Hid (NotYet ⟨tw, ts, tr, tc⟩ (row3 ((layoutD r).take (c + 1)))) := by
          show NotYet _ _
          rw [row3_next HS.out]
          have := hN.out
          rwa [show S.take k = S from List.take_of_length_le (by omega)] at this
        clear hN
        go_wp2
        go_roundw
        case rel => exact ⟨c + 1, by omega, by go_num, hN3, hB⟩
        case measure => (simp [intOf]) <;> omega
      obtain ⟨l, hl⟩ : ∃ l, S[k]? = some l := ⟨_, List.getElem?_eq_getElem hltk⟩
      obtain ⟨g2, o2, u2, rfl, hg2, m1, hp⟩ := HA5.out k l hl
      obtain ⟨A7, c7, rfl, hA7l, hA7⟩ := RSpots.open_ hp
      have HA7 := Lib.hid hA7
      have HL := Lib.hid hl
      have hki : (k : Int) < (S.length : Int) := by omega
      have hN2 : Hid (NotYet ⟨tw, ts, tr, tc⟩ (row3 ((layoutD r).take c) ++ (row2 c (S.take k) ++ row1 c k (l.take 0)))) := by
        show NotYet _ _
        simpa [row1] using hN.out
      have HM1 : Hid (∀ X, Below w4.heap.size w4 X → X.cell? ⟨g2, o2 + k, none⟩ = some (.slice A7 l.length c7)) := fun X hX => (hX.cell (p := ⟨g2, o2 + k, none⟩) hg2).trans m1
      clear hp hA7 hl m1 hN
      go_wp2
      clear m0
      obtain ⟨wo2, rfl⟩ : ∃ wo, wo = wr := ⟨wr, rfl⟩
      go_loopw [10] (fun i wr => ∃ m : Nat, m ≤ l.length ∧ i = .int .i64 m ∧ Hid (NotYet ⟨tw, ts, tr, tc⟩ (row3 ((layoutD r).take c) ++ (row2 c (S.take k) ++ row1 c k (l.take m)))) ∧ Below w4.heap.size w4 wr) (fun i _ => l.length - (intOf i).toNat)
      case atStart => exact ⟨0, Nat.zero_le _, rfl, hN2, hB⟩
      case round =>
        clear hB hN2
        obtain ⟨m, hm, rfl, hN, hB⟩ := hrel
        have m0 := HM0.out wr hB
        have m1 := HM1.out wr hB
        by_cases hltm : m < l.length
        case neg =>
          have hN3 : Hid (NotYet ⟨tw, ts, tr, tc⟩ (row3 ((layoutD r).take c) ++ row2 c (S.take (k + 1)))) := by
            show NotYet _ _
            rw [row2_next HL.out]
            have := hN.out
            rwa [show l.take m = l from List.take_of_length_le (by omega)] at this
          clear hN
          go_wp2
          go_roundw
          case rel => exact ⟨k + 1, by omega, by go_num, hN3, hB⟩
          case measure => (simp [intOf]) <;> omega
        obtain ⟨x, hx⟩ : ∃ x, l[m]? = some x := ⟨_, List.getElem?_eq_getElem hltm⟩
        obtain ⟨g3, o3, rfl, hg3, n0, n1, n2, n3⟩ := HA7.out m x hx
        have n0 := (hB.cell (p := ⟨g3, o3 + m * 4, none⟩) hg3).trans n0
        have n1 := (hB.cell (p := ⟨g3, o3 + m * 4 + 1, none⟩) hg3).trans n1
        have n2 := (hB.cell (p := ⟨g3, o3 + m * 4 + 2, none⟩) hg3).trans n2
        have n3 := (hB.cell (p := ⟨g3, o3 + m * 4 + 3, none⟩) hg3).trans n3
        have P5 := HP4.out.below hB HP4.out.lt
        have p0 := cellOf P5 0 (x := .int .i64 tw) rfl
        have p1 := cellOf P5 1 (x := .int .i64 ts) rfl
        have p2 := cellOf P5 2 (x := .int .i64 tr) rfl
        have p3 := cellOf P5 3 (x := .int .i64 tc) rfl
        have hmi : (m : Int) < (l.length : Int) := by omega
        have HX := Lib.hid hx
        obtain ⟨xw, xs, xr, xc⟩ := x
        dsimp only at n0 n1 n2 n3
        have he : ∀ W, (Op.equalIn 10000 30 (.agg #[.int .i64 xw, .int .i64 xs, .int .i64 xr, .int .i64 xc]) (.agg #[.int .i64 tw, .int .i64 ts, .int .i64 tr, .int .i64 tc])).run Try.prog W = .ok (decide ((⟨xw, xs, xr, xc⟩ : SpotD) = ⟨tw, ts, tr, tc⟩)) W := fun W => eq4R _ _ _ _ _ _ _ _ W
        clear hx P5
        cases hd : decide ((⟨xw, xs, xr, xc⟩ : SpotD) = ⟨tw, ts, tr, tc⟩)
        case false =>
          rw [hd] at he
          have hne := of_decide_eq_false hd
          have hN3 : Hid (NotYet ⟨tw, ts, tr, tc⟩ (row3 ((layoutD r).take c) ++ (row2 c (S.take k) ++ row1 c k (l.take (m + 1))))) := by
            show NotYet _ _
            rw [row1_next HX.out, ← List.append_assoc, ← List.append_assoc]
            intro y hy
            rcases List.mem_append.1 hy with hy | hy
            · exact hN.out y (by rw [← List.append_assoc]; exact hy)
            · rw [List.mem_singleton] at hy; subst hy; exact hne
          have hBD : ∀ n, Below w4.heap.size w4 (wr.drewN n) := fun n => below_drewN hB n
          clear hN hd hne
          go_wp2
          go_quiet (fail)
          go_wp2
          go_roundw
          case rel => exact ⟨m + 1, by omega, by go_num, hN3, hBD _⟩
          case measure => (simp [intOf]) <;> omega
        rw [hd] at he
        have hxe := of_decide_eq_true hd
        have Hn : Hid (followD r ⟨tw, ts, tr, tc⟩ = (⟨c, k, m⟩, 0)) := by
          refine follow_yes Hok.out ((follow_mem Hok.out).2 (place_mem.2 ⟨c, k, m, S, l, rfl, HS.out, HL.out, ?_⟩))
          rw [← hxe]; exact HX.out
        have R5 := HR4.out.below hB HR4.out.lt
        have r0 := cellOf R5 0 (x := .int .i64 0) rfl
        have r1 := cellOf R5 1 (x := .int .i64 0) rfl
        have r2 := cellOf R5 2 (x := .int .i64 0) rfl
        have f0 := R5.frozen 0
        have f1 := R5.frozen 1
        have f2 := R5.frozen 2
        have BF := B4.trans (hB.mono B4.size)
        have hBD : ∀ n, Below w.heap.size w (wr.drewN n) := fun n => below_drewN BF n
        clear hN hd hxe R5
        go_wp2
        go_quiet (fail)
        go_wp2
        refine bodyPost_ret (v := .tuple #[.agg #[.int .i64 (c : Int), .int .i64 (k : Int), .int .i64 (m : Int)], .int .i64 0]) (by simp [results, Try.results24, go_sem, r0, r1, r2]) rfl ⟨?_, below_set3 (hBD _) hb2 _ _ _⟩
        rw [Hn.out]; rfl
end Go.Proofs.Ytdbfhdncjblleaa
