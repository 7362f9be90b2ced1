/-
  Same: a run of the program and one of the reference, compared.
-/
import Derived.Test.YtdbfhdncjblleaaKl
namespace Go.Proofs.Ytdbfhdncjblleaa
open Go.RowKit

/-- Two webs, each in a block of its own, whichever was made first. -/
def WebsCut (w0 : World) (ca cb : Array Value) (s6 s7 : Value) (wx : World) : Prop :=
  ∃ P Q, s6 = .pointer (some ⟨P, 0, none⟩) ∧ s7 = .pointer (some ⟨Q, 0, none⟩) ∧ Blk wx P 87 ca ∧ Blk wx Q 97 cb ∧ Below w0.heap.size w0 wx
theorem take_same {α : Type} {l m : List α} {k : Nat} {x : α} (h : Hid (l.take k = m.take k)) (hl : l[k]? = some x) (hm : m[k]? = some x) : Hid (l.take (k + 1) = m.take (k + 1)) := by
  show l.take (k + 1) = m.take (k + 1)
  rw [List.take_add_one, List.take_add_one, hl, hm, h.out]
theorem take_end {α : Type} {l m : List α} {k : Nat} (h : Hid (l.take k = m.take k)) (hl : l.length ≤ k) (hm : m.length ≤ k) : l = m := by
  have := h.out
  rwa [List.take_of_length_le hl, List.take_of_length_le hm] at this
theorem ne_here {α : Type} {l m : List α} {k : Nat} {x y : α} (hl : l[k]? = some x) (hm : m[k]? = some y) (h : x ≠ y) : l ≠ m := fun e => h (by rw [e, hm] at hl; exact (Option.some.inj hl).symm)

theorem fieldsP : Try.prog.underlying 98 = some (.struct (Try.prog.fieldsOf 98)) := by kernel_rfl
theorem heldP : Try.prog.stoodInHeld 98 = false := by kernel_rfl
theorem flP : (Try.prog.fieldsOf 98).toList.map (fun f => (f.name != "_", f.type, f.offset)) = [(true, 3, 0), (true, 4, 1)] := by kernel_rfl
theorem infoI : Try.prog.underlying 3 = some (.int .i64) := by kernel_rfl
theorem infoB : Try.prog.underlying 4 = some .bool := by kernel_rfl
theorem eqPlate (a : Int) (b : Bool) (a' : Int) (b' : Bool) (w : World) : (Op.equalIn 10000 98 (.agg #[.int .i64 a, .bool b]) (.agg #[.int .i64 a', .bool b'])).run Try.prog w = .ok (decide (a = a' ∧ b = b')) w := by
  rw [run_equalIn_agg w 9999 _ _ _ fieldsP heldP]
  have hl := flP
  generalize (Try.prog.fieldsOf 98).toList = fs at hl ⊢
  obtain ⟨f0, r0, rfl, h0, hl⟩ := List.map_eq_cons_iff.1 hl
  obtain ⟨f1, r1, rfl, h1, hl⟩ := List.map_eq_cons_iff.1 hl
  obtain rfl := List.map_eq_nil_iff.1 hl
  simp only [Prod.mk.injEq, bne_iff_ne, ne_eq] at h0 h1
  obtain ⟨n0, t0, o0⟩ := h0
  obtain ⟨n1, t1, o1⟩ := h1
  clear hl
  have e1 := run_equalIn_bool' (P := Try.prog) w 9998 4 b b' infoB
  simp [Op.eqFields, n0, n1, t0, t1, o0, o1, go_sem, e1]
  by_cases ea : a = a' <;> by_cases eb : b = b' <;> simp [ea, eb]
theorem fieldsR : Try.prog.underlying 99 = some (.struct (Try.prog.fieldsOf 99)) := by kernel_rfl
theorem heldR : Try.prog.stoodInHeld 99 = false := by kernel_rfl
theorem flR : (Try.prog.fieldsOf 99).toList.map (fun f => (f.name != "_", f.type, f.offset)) = [(true, 3, 0), (true, 3, 1), (true, 3, 2), (true, 4, 3), (true, 4, 4)] := by kernel_rfl
theorem eqRib (a b c : Int) (d e : Bool) (a' b' c' : Int) (d' e' : Bool) (w : World) : (Op.equalIn 10000 99 (.agg #[.int .i64 a, .int .i64 b, .int .i64 c, .bool d, .bool e]) (.agg #[.int .i64 a', .int .i64 b', .int .i64 c', .bool d', .bool e'])).run Try.prog w = .ok (decide (a = a' ∧ b = b' ∧ c = c' ∧ d = d' ∧ e = e')) w := by
  rw [run_equalIn_agg w 9999 _ _ _ fieldsR heldR]
  have hl := flR
  generalize (Try.prog.fieldsOf 99).toList = fs at hl ⊢
  obtain ⟨f0, r0, rfl, h0, hl⟩ := List.map_eq_cons_iff.1 hl
  obtain ⟨f1, r1, rfl, h1, hl⟩ := List.map_eq_cons_iff.1 hl
  obtain ⟨f2, r2, rfl, h2, hl⟩ := List.map_eq_cons_iff.1 hl
  obtain ⟨f3, r3, rfl, h3, hl⟩ := List.map_eq_cons_iff.1 hl
  obtain ⟨f4, r4, rfl, h4, hl⟩ := List.map_eq_cons_iff.1 hl
  obtain rfl := List.map_eq_nil_iff.1 hl
  simp only [Prod.mk.injEq, bne_iff_ne, ne_eq] at h0 h1 h2 h3 h4
  obtain ⟨n0, t0, o0⟩ := h0
  obtain ⟨n1, t1, o1⟩ := h1
  obtain ⟨n2, t2, o2⟩ := h2
  obtain ⟨n3, t3, o3⟩ := h3
  obtain ⟨n4, t4, o4⟩ := h4
  clear hl
  have e1 := fun x y w => run_equalIn_bool' (P := Try.prog) w 9998 4 x y infoB
  simp [Op.eqFields, n0, n1, n2, n3, n4, t0, t1, t2, t3, t4, o0, o1, o2, o3, o4, go_sem, e1]
  by_cases ea : a = a' <;> by_cases eb : b = b' <;> by_cases ec : c = c' <;> by_cases ed : d = d' <;> by_cases ee : e = e' <;> simp [ea, eb, ec, ed, ee]
theorem webs_cutA {w0 : World} {ca cb : Array Value} : WebsCut w0 ca cb (.pointer (some ⟨w0.heap.size, 0, none⟩)) (.pointer (some ⟨w0.heap.size + 1, 0, none⟩)) ((w0.alloc (.cells ca 87)).alloc (.cells cb 97)).drew :=
  ⟨_, _, rfl, rfl, (Blk.new _ _ _).alloc _, blk_new (by simp) _ _, (((Below.refl _ _).alloc (Nat.le_refl _) _).alloc (by simp) _).drew⟩
theorem webs_cutB {w0 : World} {ca cb : Array Value} : WebsCut w0 ca cb (.pointer (some ⟨w0.heap.size + 1, 0, none⟩)) (.pointer (some ⟨w0.heap.size, 0, none⟩)) ((w0.alloc (.cells cb 97)).alloc (.cells ca 87)).drew :=
  ⟨_, _, rfl, rfl, blk_new (by simp) _ _, (Blk.new _ _ _).alloc _, (((Below.refl _ _).alloc (Nat.le_refl _) _).alloc (by simp) _).drew⟩

set_option maxRecDepth 100000 in
set_option maxHeartbeats 4000000 in
theorem Same_any (u v : Value) (a b : RunD) (w : World) (ha : RRun w.heap.size w u a) (hb : RRun w.heap.size w v b) :
    Calls Try.prog 29 #[u, v] w fun e w' => e = .returned (.bool (decide (a = b))) ∧ Below w.heap.size w w' := by
  obtain ⟨A1, c1, A2, c2, A3, c3, rfl⟩ := ha.shape
  obtain ⟨D1, d1, D2, d2, D3, d3, rfl⟩ := hb.shape
  have HA := Lib.hid ha
  have HB := Lib.hid hb
  clear ha hb
  have F0 : ∃ W0, (w.alloc (.cells #[.slice A1 a.webs.length c1, .slice A2 a.ribs.length c2, .slice A3 a.stacks.length c3, .bool a.coll] 36)).alloc (.cells #[.slice D1 b.webs.length d1, .slice D2 b.ribs.length d2, .slice D3 b.stacks.length d3, .bool b.coll] 26) = W0 ∧ W0.heap.size = w.heap.size + 2 ∧ Below w.heap.size w W0 ∧
      Blk W0 w.heap.size 36 #[.slice A1 a.webs.length c1, .slice A2 a.ribs.length c2, .slice A3 a.stacks.length c3, .bool a.coll] ∧ Blk W0 (w.heap.size + 1) 26 #[.slice D1 b.webs.length d1, .slice D2 b.ribs.length d2, .slice D3 b.stacks.length d3, .bool b.coll] :=
    ⟨_, rfl, by simp, ((Below.refl _ _).alloc (Nat.le_refl _) _).alloc (by simp) _, (Blk.new _ _ _).alloc _, blk_new (by simp) _ _⟩
  obtain ⟨W0, e0, z0, B0, V0, U0⟩ := F0
  have E0 := Lib.hid e0
  have x0 := cellOf V0 0 (x := .slice A1 a.webs.length c1) rfl
  have x1 := cellOf V0 1 (x := .slice A2 a.ribs.length c2) rfl
  have x2 := cellOf V0 2 (x := .slice A3 a.stacks.length c3) rfl
  have x3 := cellOf V0 3 (x := .bool a.coll) rfl
  have y0 := cellOf U0 0 (x := .slice D1 b.webs.length d1) rfl
  have y1 := cellOf U0 1 (x := .slice D2 b.ribs.length d2) rfl
  have y2 := cellOf U0 2 (x := .slice D3 b.stacks.length d3) rfl
  have y3 := cellOf U0 3 (x := .bool b.coll) rfl
  clear e0 z0
  go_enter Try.func29, Try.ntmps29
  go_upto_region 1 with fail
  rw [E0.out]
  by_cases hc : a.coll = b.coll
  case neg =>
    have HN : Hid (decide (a = b) = false) := decide_eq_false fun e => hc (by rw [e])
    go_wp2
    go_ret
    exact ⟨rb HN.out, B0⟩
  have Hc := Lib.hid hc
  rw [hc] at x3
  clear hc
  have C := Lib.hid (SameLists_any _ _ a.stacks b.stacks W0 (((HA.out.stacks).below B0).more B0.size) (((HB.out.stacks).below B0).more B0.size))
  by_cases hs : a.stacks = b.stacks
  case neg =>
    rw [decide_eq_false hs] at C
    have HN : Hid (decide (a = b) = false) := decide_eq_false fun e => hs (by rw [e])
    clear hs
    go_wp2_with fail
    refine C.out.mono ?_
    rintro e w3 ⟨rfl, hb3⟩
    have B3 := B0.trans (hb3.mono B0.size)
    go_wp2
    go_ret
    exact ⟨rb HN.out, B3⟩
  rw [decide_eq_true hs] at C
  have Hs := Lib.hid hs
  clear hs
  go_wp2_with fail
  refine C.out.mono ?_
  rintro e w3 ⟨rfl, hb3⟩
  have B3 := B0.trans (hb3.mono B0.size)
  have V3 := V0.below hb3 V0.lt
  have U3 := U0.below hb3 U0.lt
  clear C hb3 V0 U0 B0 x0 x1 x2 x3 y0 y1 y2 y3
  have x0 := cellOf V3 0 (x := .slice A1 a.webs.length c1) rfl
  have x1 := cellOf V3 1 (x := .slice A2 a.ribs.length c2) rfl
  have y0 := cellOf U3 0 (x := .slice D1 b.webs.length d1) rfl
  have y1 := cellOf U3 1 (x := .slice D2 b.ribs.length d2) rfl
  by_cases hw : a.webs.length = b.webs.length
  case neg =>
    have hw' : ((a.webs.length : Int) != (b.webs.length : Int)) = true := by simp; omega
    have HN : Hid (decide (a = b) = false) := decide_eq_false fun e => hw (by rw [e])
    clear hw
    go_wp2
    go_ret
    exact ⟨rb HN.out, B3⟩
  by_cases hr : a.ribs.length = b.ribs.length
  case neg =>
    have hw' : ((a.webs.length : Int) != (b.webs.length : Int)) = false := by simp; omega
    have hr' : ((a.ribs.length : Int) != (b.ribs.length : Int)) = true := by simp; omega
    have HN : Hid (decide (a = b) = false) := decide_eq_false fun e => hr (by rw [e])
    clear hw hr
    go_wp2
    go_ret
    exact ⟨rb HN.out, B3⟩
  have hw' : ((a.webs.length : Int) != (b.webs.length : Int)) = false := by simp; omega
  have hr' : ((a.ribs.length : Int) != (b.ribs.length : Int)) = false := by simp; omega
  have Hw := Lib.hid hw
  have Hr := Lib.hid hr
  clear hw hr
  go_wp2
  clear hw' hr'
  obtain ⟨Ea, ca, ea, hla, hWa⟩ := (HA.out.webs).open_
  cases ea
  obtain ⟨Eb, cb, eb, -, hWb⟩ := (HB.out.webs).open_
  cases eb
  have HWa := Lib.hid hWa
  have HWb := Lib.hid hWb
  clear hWa hWb
  have hbox : ∀ X, Below w3.heap.size w3 X → X.cell? ⟨w.heap.size, 0, none⟩ = some (.slice A1 a.webs.length c1) ∧ X.cell? ⟨w.heap.size, 1, none⟩ = some (.slice A2 a.ribs.length c2) ∧ X.cell? ⟨w.heap.size + 1, 0, none⟩ = some (.slice D1 b.webs.length d1) ∧ X.cell? ⟨w.heap.size + 1, 1, none⟩ = some (.slice D2 b.ribs.length d2) := fun X hX => by
    have k1 := V3.below hX V3.lt
    have k2 := U3.below hX U3.lt
    exact ⟨cellOf k1 0 rfl, cellOf k1 1 rfl, cellOf k2 0 rfl, cellOf k2 1 rfl⟩
  have HV := Lib.hid hbox
  have hz1 : w.heap.size + 1 < w3.heap.size := U3.lt
  clear hbox V3 U3 x0 x1 y0 y1
  go_loopw [5] (fun i wr => ∃ k : Nat, k ≤ a.webs.length ∧ i = .int .i64 k ∧ Hid (a.webs.take k = b.webs.take k) ∧ Below w3.heap.size w3 wr) (fun i _ => a.webs.length - (intOf i).toNat)
  case atStart => exact ⟨0, Nat.zero_le _, rfl, rfl, Below.refl _ _⟩
  case round =>
    obtain ⟨k, hk, rfl, ht, hB⟩ := hrel
    obtain ⟨x0, x1, y0, y1⟩ := HV.out wr hB
    have Bw := B3.trans (hB.mono B3.size)
    by_cases hlt : k < a.webs.length
    case neg =>
      have HWE : Hid (a.webs = b.webs) := take_end ht (by omega) (by have := Hw.out; omega)
      clear ht
      obtain ⟨Fa, fa, efa, hlr, hRa⟩ := RRibs.open_ (by obtain ⟨u1, u2, u3, e, -, h, -⟩ := HA.out; cases e; exact h)
      cases efa
      obtain ⟨Fb, fb, efb, -, hRb⟩ := RRibs.open_ (by obtain ⟨u1, u2, u3, e, -, h, -⟩ := HB.out; cases e; exact h)
      cases efb
      have HRa := Lib.hid hRa
      have HRb := Lib.hid hRb
      clear hRa hRb
      go_wp2
      clear x0 x1 y0 y1 hlt hk
      obtain ⟨wo, rfl⟩ : ∃ wo, wo = wr := ⟨wr, rfl⟩
      go_loopw [9] (fun i wr => ∃ j : Nat, j ≤ a.ribs.length ∧ i = .int .i64 j ∧ Hid (a.ribs.take j = b.ribs.take j) ∧ Below w3.heap.size w3 wr) (fun i _ => a.ribs.length - (intOf i).toNat)
      case atStart => exact ⟨0, Nat.zero_le _, rfl, rfl, hB⟩
      case round =>
        clear hB Bw
        obtain ⟨j, hj, rfl, htj, hB⟩ := hrel
        obtain ⟨x0, x1, y0, y1⟩ := HV.out wr hB
        have Bw := B3.trans (hB.mono B3.size)
        by_cases hltj : j < a.ribs.length
        case neg =>
          have HRE : Hid (a.ribs = b.ribs) := take_end htj (by omega) (by have := Hr.out; omega)
          have HE : Hid (decide (a = b) = true) := by
            show decide (a = b) = true
            have h1 := HWE.out
            have h2 := HRE.out
            have h3 := Hs.out
            have h4 := Hc.out
            refine decide_eq_true ?_
            cases a
            cases b
            simp only at h1 h2 h3 h4
            subst h1 h2 h3 h4
            rfl
          clear htj
          go_wp2
          go_ret
          exact ⟨rb HE.out, Bw⟩
        obtain ⟨⟨pw, pc, pd, pt, pl⟩, hp⟩ : ∃ p, a.ribs[j]? = some p := ⟨_, List.getElem?_eq_getElem hltj⟩
        obtain ⟨⟨qw, qc, qd, qt, ql⟩, hq⟩ : ∃ p, b.ribs[j]? = some p := ⟨_, List.getElem?_eq_getElem (by have := Hr.out; omega)⟩
        obtain ⟨g3, o3, rfl, hb3, t0, t1, t2, t3, t4⟩ := HRa.out j _ hp
        obtain ⟨g4, o4, rfl, hb4, s0, s1, s2, s3, s4⟩ := HRb.out j _ hq
        have t0 := (Bw.cell (p := ⟨g3, o3 + j * 5, none⟩) hb3).trans t0
        have t1 := (Bw.cell (p := ⟨g3, o3 + j * 5 + 1, none⟩) hb3).trans t1
        have t2 := (Bw.cell (p := ⟨g3, o3 + j * 5 + 2, none⟩) hb3).trans t2
        have t3 := (Bw.cell (p := ⟨g3, o3 + j * 5 + 3, none⟩) hb3).trans t3
        have t4 := (Bw.cell (p := ⟨g3, o3 + j * 5 + 4, none⟩) hb3).trans t4
        have s0 := (Bw.cell (p := ⟨g4, o4 + j * 5, none⟩) hb4).trans s0
        have s1 := (Bw.cell (p := ⟨g4, o4 + j * 5 + 1, none⟩) hb4).trans s1
        have s2 := (Bw.cell (p := ⟨g4, o4 + j * 5 + 2, none⟩) hb4).trans s2
        have s3 := (Bw.cell (p := ⟨g4, o4 + j * 5 + 3, none⟩) hb4).trans s3
        have s4 := (Bw.cell (p := ⟨g4, o4 + j * 5 + 4, none⟩) hb4).trans s4
        dsimp only at t0 t1 t2 t3 t4 s0 s1 s2 s3 s4
        have i3 : (j : Int) < (a.ribs.length : Int) := by omega
        have i4 : (j : Int) < (b.ribs.length : Int) := by have := Hr.out; omega
        have HPJ := Lib.hid hp
        have HQJ := Lib.hid hq
        clear hp hq
        by_cases e4 : pw = qw ∧ pc = qc ∧ pd = qd ∧ pt = qt ∧ pl = ql
        · obtain ⟨rfl, rfl, rfl, rfl, rfl⟩ := e4
          have HT := take_same htj HPJ.out HQJ.out
          clear htj
          go_upto_region 17 with fail
          go_quiet (fail)
          go_wp2
          exact ⟨⟨j + 1, by omega, by go_num, HT, below_drewN hB _⟩, by simp [intOf]; omega⟩
        · have HN : Hid (decide (a = b) = false) := decide_eq_false fun e => ne_here HPJ.out HQJ.out (fun e => e4 (by cases e; exact ⟨rfl, rfl, rfl, rfl, rfl⟩)) (by rw [e])
          have hq := eqRib pw pc pd pt pl qw qc qd qt ql
          rw [decide_eq_false e4] at hq
          go_upto_region 17 with fail
          go_quiet (fail)
          go_wp2
          go_ret
          exact ⟨rb HN.out, below_drewN Bw _⟩
    obtain ⟨⟨xc, xr, xp⟩, hx⟩ : ∃ x, a.webs[k]? = some x := ⟨_, List.getElem?_eq_getElem hlt⟩
    obtain ⟨⟨yc, yr, yp⟩, hy⟩ : ∃ y, b.webs[k]? = some y := ⟨_, List.getElem?_eq_getElem (by have := Hw.out; omega)⟩
    obtain ⟨g, o, u, rfl, hgb, h0, h1, h2, hp⟩ := HWa.out k _ hx
    obtain ⟨g', o', u', rfl, hgb', h0', h1', h2', hp'⟩ := HWb.out k _ hy
    obtain ⟨A5, c5, rfl, hlx, hP⟩ := hp.open_
    obtain ⟨D5, d5, rfl, -, hQ⟩ := hp'.open_
    dsimp only at h0 h1 h2 h0' h1' h2' hP hQ hlx
    have q0 := (Bw.cell (p := ⟨g, o + k * 3, none⟩) hgb).trans h0
    have q1 := (Bw.cell (p := ⟨g, o + k * 3 + 1, none⟩) hgb).trans h1
    have q2 := (Bw.cell (p := ⟨g, o + k * 3 + 2, none⟩) hgb).trans h2
    have r0 := (Bw.cell (p := ⟨g', o' + k * 3, none⟩) hgb').trans h0'
    have r1 := (Bw.cell (p := ⟨g', o' + k * 3 + 1, none⟩) hgb').trans h1'
    have r2 := (Bw.cell (p := ⟨g', o' + k * 3 + 2, none⟩) hgb').trans h2'
    have HX := Lib.hid hx
    have HY := Lib.hid hy
    have HP := Lib.hid hP
    have HQ := Lib.hid hQ
    have i1 : (k : Int) < (a.webs.length : Int) := by omega
    have i2 : (k : Int) < (b.webs.length : Int) := by have := Hw.out; omega
    have n1 : g < wr.heap.size := Nat.lt_of_lt_of_le hgb Bw.size
    have n2 : g' < wr.heap.size := Nat.lt_of_lt_of_le hgb' Bw.size
    have n3 : w.heap.size + 1 < wr.heap.size := Nat.lt_of_lt_of_le hz1 hB.size
    have n4 : w.heap.size < wr.heap.size := by omega
    clear hx hy hP hQ h0 h1 h2 h0' h1' h2' hp hp'
    go_upto_region 6 with fail
    go_cut [6, 7] (fun s6 s7 wx => WebsCut wr #[.int .i64 xc, .int .i64 xr, .slice A5 xp.length c5] #[.int .i64 yc, .int .i64 yr, .slice D5 yp.length d5] s6 s7 wx)
    case first =>
      go_region
      all_goals (go_wp2_with fail; go_meet)
      all_goals first | exact webs_cutA | exact webs_cutB
    case rest =>
    obtain ⟨P, Q, rfl, rfl, hP6, hQ6, hbc⟩ := hcut
    have Bc := hB.trans (hbc.mono hB.size)
    have p0 := cellOf hP6 0 (x := .int .i64 xc) rfl
    have p1 := cellOf hP6 1 (x := .int .i64 xr) rfl
    have p2 := cellOf hP6 2 (x := .slice A5 xp.length c5) rfl
    have s0 := cellOf hQ6 0 (x := .int .i64 yc) rfl
    have s1 := cellOf hQ6 1 (x := .int .i64 yr) rfl
    have s2 := cellOf hQ6 2 (x := .slice D5 yp.length d5) rfl
    have BF := B3.trans (Bc.mono B3.size)
    clear x0 x1 y0 y1 q0 q1 q2 r0 r1 r2 n1 n2 n3 n4 hB Bw
    have hne : (⟨xc, xr, xp⟩ : WebD) ≠ ⟨yc, yr, yp⟩ → decide (a = b) = false := fun h => decide_eq_false fun e => ne_here HX.out HY.out h (by rw [e])
    have HNE := Lib.hid hne
    clear hne
    by_cases e1 : xc = yc
    case neg =>
      have k1 : (xc != yc) = true := by simpa using e1
      have HN := Lib.hid (HNE.out (fun e => e1 (by cases e; rfl)))
      clear e1
      go_wp2
      go_ret
      exact ⟨rb HN.out, BF⟩
    by_cases e2 : xr = yr
    case neg =>
      have k1 : (xr != yr) = true := by simpa using e2
      have k0 : (xc != yc) = false := by simpa using e1
      have HN := Lib.hid (HNE.out (fun e => e2 (by cases e; rfl)))
      clear e1 e2
      go_wp2
      go_ret
      exact ⟨rb HN.out, BF⟩
    by_cases e3 : xp.length = yp.length
    case neg =>
      have k2 : ((xp.length : Int) != (yp.length : Int)) = true := by simp; omega
      have k1 : (xr != yr) = false := by simpa using e2
      have k0 : (xc != yc) = false := by simpa using e1
      have HN := Lib.hid (HNE.out (fun e => e3 (by cases e; rfl)))
      clear e1 e2 e3
      go_wp2
      go_ret
      exact ⟨rb HN.out, BF⟩
    have k2 : ((xp.length : Int) != (yp.length : Int)) = false := by simp; omega
    have k1 : (xr != yr) = false := by simpa using e2
    have k0 : (xc != yc) = false := by simpa using e1
    have H1 := Lib.hid e1
    have H2 := Lib.hid e2
    have H3 := Lib.hid e3
    clear e1 e2 e3
    go_wp2
    clear k0 k1 k2 p0 p1 p2 s0 s1 s2
    obtain ⟨wo, rfl⟩ : ∃ wo, wo = wr := ⟨wr, rfl⟩
    go_loopw [8] (fun i wr => ∃ j : Nat, j ≤ xp.length ∧ i = .int .i64 j ∧ Hid (xp.take j = yp.take j) ∧ Below wc.heap.size wc wr) (fun i _ => xp.length - (intOf i).toNat)
    case atStart => exact ⟨0, Nat.zero_le _, rfl, rfl, Below.refl _ _⟩
    case round =>
      obtain ⟨j, hj, rfl, htj, hBj⟩ := hrel
      have hP7 := hP6.below hBj hP6.lt
      have hQ7 := hQ6.below hBj hQ6.lt
      have p2 := cellOf hP7 2 (x := .slice A5 xp.length c5) rfl
      have s2 := cellOf hQ7 2 (x := .slice D5 yp.length d5) rfl
      have Bj := Bc.trans (hBj.mono Bc.size)
      have BFj := B3.trans (Bj.mono B3.size)
      by_cases hltj : j < xp.length
      case neg =>
        have HE : Hid (xp = yp) := take_end htj (by omega) (by have := H3.out; omega)
        have HT := take_same ht HX.out (by rw [HY.out, H1.out, H2.out, HE.out])
        clear ht htj
        go_wp2
        go_roundw
        case rel => exact ⟨k + 1, by omega, by go_num, HT, Bj⟩
        case measure => simp [intOf]; omega
      obtain ⟨⟨pg, up⟩, hp⟩ : ∃ p, xp[j]? = some p := ⟨_, List.getElem?_eq_getElem hltj⟩
      obtain ⟨⟨qg, uq⟩, hq⟩ : ∃ p, yp[j]? = some p := ⟨_, List.getElem?_eq_getElem (by have := H3.out; omega)⟩
      obtain ⟨g3, o3, rfl, hb3, t0, t1⟩ := HP.out j _ hp
      obtain ⟨g4, o4, rfl, hb4, t2, t3⟩ := HQ.out j _ hq
      have t0 := (BFj.cell (p := ⟨g3, o3 + j * 2, none⟩) hb3).trans t0
      have t1 := (BFj.cell (p := ⟨g3, o3 + j * 2 + 1, none⟩) hb3).trans t1
      have t2 := (BFj.cell (p := ⟨g4, o4 + j * 2, none⟩) hb4).trans t2
      have t3 := (BFj.cell (p := ⟨g4, o4 + j * 2 + 1, none⟩) hb4).trans t3
      dsimp only at t0 t1 t2 t3
      have i3 : (j : Int) < (xp.length : Int) := by omega
      have i4 : (j : Int) < (yp.length : Int) := by have := H3.out; omega
      have HPJ := Lib.hid hp
      have HQJ := Lib.hid hq
      clear hp hq hP7 hQ7
      by_cases e4 : pg = qg ∧ up = uq
      · obtain ⟨rfl, rfl⟩ := e4
        have HT := take_same htj HPJ.out HQJ.out
        clear htj
        go_upto_region 12 with fail
        go_quiet (fail)
        go_wp2
        exact ⟨⟨j + 1, by omega, by go_num, HT, below_drewN hBj _⟩, by simp [intOf]; omega⟩
      · have HN : Hid (decide (a = b) = false) := HNE.out (fun e => by
          cases e
          have h := HPJ.out.symm.trans HQJ.out
          simp only [Option.some.injEq, PlateD.mk.injEq] at h
          exact e4 h)
        have hq := eqPlate pg up qg uq
        rw [decide_eq_false e4] at hq
        go_upto_region 12 with fail
        go_quiet (fail)
        go_wp2
        go_ret
        exact ⟨rb HN.out, below_drewN BFj _⟩
end Go.Proofs.Ytdbfhdncjblleaa
