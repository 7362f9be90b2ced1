/-
  ReelMargin: the walk.
-/
import Derived.Test.YtpkepacbondopaaWa
namespace Go.Proofs.Ytpkepacbondopaa
open Go.RowKit
attribute [local go_sem] Oper.semAt_some

/-- What lies there while the second press is changed. -/
structure MgSt (w2 : World) (p : PressD) (mm b a : Int) (Q gq nw cq k : Nat) (X : World) : Prop where
  below_ : Below w2.heap.size w2 X
  press : Blk X Q 24 #[.int .i64 p.cut, .int .i64 (p.margin + mm), .slice (some ⟨gq, 0, none⟩) nw cq]
  webs : OWebs w2.heap.size X (.slice (some ⟨gq, 0, none⟩) nw cq) (mixW b a p.webs k)
  base : w2.heap.size ≤ Q
theorem MgSt.next {w2 : World} {p : PressD} {mm b a : Int} {Q gq nw cq k : Nat} {X : World} {x : WebD} (h : MgSt w2 p mm b a Q gq nw cq k X) (hnw : p.webs.length = nw) (hx : p.webs[k]? = some x) :
    (X.cell? ⟨gq, k * 4 + 2, none⟩ = some (.int .i64 x.before) ∧ X.frozen? ⟨gq, k * 4 + 2, none⟩ = false) ∧
    ∃ X1, X.setCell ⟨gq, k * 4 + 2, none⟩ (.int .i64 (x.before + b)) = X1 ∧ Blk X1 Q 24 #[.int .i64 p.cut, .int .i64 (p.margin + mm), .slice (some ⟨gq, 0, none⟩) nw cq] ∧ (X1.cell? ⟨gq, k * 4 + 3, none⟩ = some (.int .i64 x.after) ∧ X1.frozen? ⟨gq, k * 4 + 3, none⟩ = false) ∧
    MgSt w2 p mm b a Q gq nw cq (k + 1) (X1.setCell ⟨gq, k * 4 + 3, none⟩ (.int .i64 (x.after + a))) := by
  obtain ⟨hb, hp, hw, hq⟩ := h
  have hlen := mixW_len b a p.webs k
  obtain ⟨hx1, hx2⟩ := mixW_at (b := b) (a := a) hx
  rw [hnw] at hlen
  rw [← hlen] at hw
  obtain ⟨c2, -, f2, -⟩ := hw.cells hx1
  have hg : w2.heap.size ≤ gq ∧ gq ≠ Q := by
    obtain ⟨vs, h1, -⟩ := hw
    obtain ⟨h2, cs, h3⟩ := ownsRow_own h1 (g := gq) rfl
    exact ⟨h2, fun e => by subst e; exact Blk.ne h3 hp (by decide) rfl⟩
  have w1 := hw.put hx1 2 (by omega) ⟨x.reels, x.off, x.before + b, x.after⟩ (.int .i64 (x.before + b)) rfl (fun v => rfl)
  have hk := (List.getElem?_eq_some_iff.1 hx1).1
  have hx3 : ((mixW b a p.webs k).set k ⟨x.reels, x.off, x.before + b, x.after⟩)[k]? = some ⟨x.reels, x.off, x.before + b, x.after⟩ := List.getElem?_set_self hk
  have k1 : KeptBut (fun j => j = gq) X (X.setCell ⟨gq, k * 4 + 2, none⟩ (.int .i64 (x.before + b))) := KeptBut.setCell (S := fun j => j = gq) rfl _
  have e1 : (mixW b a p.webs k).length = ((mixW b a p.webs k).set k ⟨x.reels, x.off, x.before + b, x.after⟩).length := by rw [List.length_set]
  rw [e1] at w1
  obtain ⟨-, c3, -, f3⟩ := w1.cells hx3
  have w3 := w1.put hx3 3 (by omega) ⟨x.reels, x.off, x.before + b, x.after + a⟩ (.int .i64 (x.after + a)) rfl (fun v => rfl)
  rw [List.set_set] at w3
  rw [← e1, hlen] at w3
  refine ⟨⟨c2, f2⟩, _, rfl, k1.blk hp (fun e => hg.2 e.symm), ⟨c3, f3⟩, ?_, ?_, ?_, hq⟩
  · exact (hb.setCell (p := ⟨gq, k * 4 + 2, none⟩) hg.1 _).setCell (p := ⟨gq, k * 4 + 3, none⟩) hg.1 _
  · have k2 : KeptBut (fun j => j = gq) (X.setCell ⟨gq, k * 4 + 2, none⟩ (.int .i64 (x.before + b))) ((X.setCell ⟨gq, k * 4 + 2, none⟩ (.int .i64 (x.before + b))).setCell ⟨gq, k * 4 + 3, none⟩ (.int .i64 (x.after + a))) := KeptBut.setCell (S := fun j => j = gq) rfl _
    exact k2.blk (k1.blk hp fun e => hg.2 e.symm) fun e => hg.2 e.symm
  · rw [← hx2]
    exact w3
set_option maxRecDepth 1000000 in
set_option maxHeartbeats 4000000 in
theorem ReelMargin_any (l : List Int) (hl : Bytes l) (x : Int) (hx : 0 ≤ x ∧ x ≤ 255) (b : Int) (hb : 0 ≤ b ∧ b ≤ 255) (a : Int) (ha : 0 ≤ a ∧ a ≤ 255) (y : Int) (hy : 0 ≤ y ∧ y ≤ 65535) (vl : Value) (w : World) (h : RBytes w.heap.size w vl l) :
    Calls Try.prog 9 #[vl, .int .u8 x, .int .u8 b, .int .u8 a, .int .u16 y] w fun e w' => e = .returned (.bool true) ∧ Below w.heap.size w w' := by
  obtain ⟨hx1, hx2⟩ := hx
  obtain ⟨hb1', hb2'⟩ := hb
  obtain ⟨ha1, ha2⟩ := ha
  obtain ⟨hy1, hy2⟩ := hy
  have HL := Lib.hid hl
  have HRB := Lib.hid h
  have CM := Lib.hid (Made_any l hl vl w h)
  have hchk := made_check l
  have hok := made_ok l
  have hrb := reach_bound hok
  have HCH := Lib.hid hchk
  have HNB : Hid (1 ≤ (madeP l).webs.length ∧ (madeP l).margin ≤ 3 ∧ ∀ x ∈ (madeP l).webs, x.before ≤ 447 ∧ x.after ≤ 596) := by
    refine ⟨hok.webs.1, ?_, fun x hx => ?_⟩
    · have := nxD_bound l 1 4 (by omega)
      show nxD l 1 4 ≤ 3
      omega
    · have key : ∀ k, ∀ x ∈ websM l k, x.before ≤ 447 ∧ x.after ≤ 596 := by
        intro k
        induction k with
        | zero => intro x hx; cases hx
        | succ k ih =>
          intro x hx
          unfold websM at hx
          rcases List.mem_append.1 hx with hx | hx
          · exact ih x hx
          · rw [List.mem_singleton.1 hx]
            have h1 := nxD_bound l (atM l k + 1) 150 (by omega)
            have h2 := nxD_bound l (atM l k + 2) 150 (by omega)
            constructor
            · show 3 * nxD l (atM l k + 1) 150 ≤ 447
              omega
            · show 4 * nxD l (atM l k + 2) 150 ≤ 596
              omega
      exact key _ x hx
  clear hl h hchk hok
  go_enter Try.func9, Try.ntmps9
  go_wp2_with fail
  refine CM.out.mono ?_
  rintro _ w1 ⟨u, rfl, ⟨v, rfl, hO⟩, hbw1⟩
  obtain ⟨Av, cv, hvf⟩ := ownsRow_form hO.choose_spec.1
  subst hvf
  obtain ⟨p, hp⟩ : ∃ p, madeP l = p := ⟨_, rfl⟩
  have HPE := Lib.hid hp
  rw [hp] at hO hrb HCH HNB ⊢
  have F2 : ∃ w2, w1.alloc (.cells #[.int .i64 p.cut, .int .i64 p.margin, .slice Av p.webs.length cv] 24) = w2 ∧ Below w1.heap.size w1 w2 ∧ Blk w2 w1.heap.size 24 #[.int .i64 p.cut, .int .i64 p.margin, .slice Av p.webs.length cv] := ⟨_, rfl, below_alloc _ _, Blk.new _ _ _⟩
  obtain ⟨w2, e2, hbw2, k2⟩ := F2
  have E2 := Lib.hid e2
  obtain ⟨P, hP⟩ : ∃ a, w1.heap.size = a := ⟨_, rfl⟩
  have HP2 : Hid (RPress w2.heap.size w2 (.agg #[.int .i64 p.cut, .int .i64 p.margin, .slice Av p.webs.length cv]) p) := ⟨_, rfl, (hO.reads.below hbw2).more hbw2.size⟩
  have HB2 : Hid (Below w.heap.size w w2) := hbw1.trans (hbw2.mono hbw1.size)
  rw [hP] at k2
  have K2 := Lib.hid k2
  have CM2 := Lib.hid (Made_any l HL.out vl w2 ((HRB.out.keep fun q hq => HB2.out.cell hq) |> fun h9 => Rd.more h9 HB2.out.size))
  clear CM hO hbw1 e2 hbw2 k2
  go_upto_region 2 with fail
  rw [E2.out]
  clear hP
  go_wp2_with fail
  refine CM2.out.mono ?_
  rintro _ w3 ⟨u, rfl, ⟨v, rfl, hO⟩, hb3⟩
  rw [HPE.out] at hO ⊢
  obtain ⟨Aq, cq, hvf⟩ := ownsRow_form hO.choose_spec.1
  subst hvf
  obtain ⟨gq, rfl, hgq, -⟩ := ownsRow_block hO.choose_spec.1 (by have := HNB.out.1; omega)
  have F4 : ∃ w4, w3.alloc (.cells #[.int .i64 p.cut, .int .i64 p.margin, .slice (some ⟨gq, 0, none⟩) p.webs.length cq] 24) = w4 ∧ Below w3.heap.size w3 w4 ∧ Blk w4 w3.heap.size 24 #[.int .i64 p.cut, .int .i64 p.margin, .slice (some ⟨gq, 0, none⟩) p.webs.length cq] := ⟨_, rfl, below_alloc _ _, Blk.new _ _ _⟩
  obtain ⟨w4, e4, hb4, k4⟩ := F4
  have E4 := Lib.hid e4
  obtain ⟨Q, hQ⟩ : ∃ a, w3.heap.size = a := ⟨_, rfl⟩
  rw [hQ] at k4
  have hx3 : 0 ≤ x % 10 := Int.emod_nonneg _ (by omega)
  have hx4 : x % 10 < 10 := Int.emod_lt_of_pos _ (by omega)
  obtain ⟨mm, hmm⟩ : ∃ a, x % 10 = a := ⟨_, rfl⟩
  rw [hmm] at hx3 hx4
  have hkk : KeptBut (fun j => j = Q) w4 (w4.setCell ⟨Q, 1, none⟩ (.int .i64 (p.margin + mm))) := KeptBut.setCell (S := fun j => j = Q) rfl _
  have F5 : ∃ w5, w4.setCell ⟨Q, 1, none⟩ (.int .i64 (p.margin + mm)) = w5 ∧ MgSt w2 p mm b a Q gq p.webs.length cq 0 w5 := by
    refine ⟨_, rfl, ?_, k4.put 1 _, ?_, by rw [← hQ]; exact hb3.size⟩
    · exact (hb3.trans (hb4.mono hb3.size)).setCell (p := ⟨Q, 1, none⟩) (by show w2.heap.size ≤ Q; rw [← hQ]; exact hb3.size) _
    · have h9 : mixW b a p.webs 0 = p.webs := by unfold mixW; rfl
      rw [h9]
      exact (OWebs.keep hO (KeptBut.of_below (S := fun _ => False) hb4) (fun _ _ _ _ _ h => h)).keep hkk fun g cs t hB ht e => by
        subst e
        rcases ht with rfl | rfl <;> exact Blk.ne hB k4 (by decide) rfl
  obtain ⟨w5, e5, hst5⟩ := F5
  have E5 := Lib.hid e5
  have HS5 := Lib.hid hst5
  have q1 := cellOf k4 1 (x := .int .i64 p.margin) rfl
  have qf := k4.frozen 1
  obtain ⟨re, hre⟩ : ∃ a, p.reach = a := ⟨_, rfl⟩
  obtain ⟨cut, hcut⟩ : ∃ a, p.cut = a := ⟨_, rfl⟩
  obtain ⟨mg, hmg⟩ : ∃ a, p.margin = a := ⟨_, rfl⟩
  obtain ⟨nw, hnw⟩ : ∃ a, p.webs.length = a := ⟨_, rfl⟩
  have hmg9 : 0 ≤ mg ∧ mg ≤ 3 := by
    have h1 := (checkE_ok HCH.out).margin
    have h2 := HNB.out.2.1
    omega
  have hnw6 : 1 ≤ nw ∧ nw ≤ 6 := by have := (checkE_ok HCH.out).webs; omega
  rw [hre] at hrb
  rw [hcut, hmg, hnw] at E4 HP2 K2 ⊢
  rw [hmg] at E5 q1
  rw [hnw] at HS5
  have HRE := Lib.hid hre
  have HCUT := Lib.hid hcut
  have HMG := Lib.hid hmg
  have HNW := Lib.hid hnw
  obtain ⟨hr0, hr1⟩ := hrb
  obtain ⟨hmg1, hmg2⟩ := hmg9
  clear hO hgq e4 hb4 k4 hkk e5 hst5 hre hcut hmg hnw hp hb3 E2
  go_upto_region 3 with fail
  rw [E4.out]
  clear hQ
  go_upto_region 4 with fail
  rw [E5.out]
  have hpq := HS5.out.press
  rw [HCUT.out, HMG.out] at hpq
  have q2 := cellOf hpq 2 (x := .slice (some ⟨gq, 0, none⟩) nw cq) rfl
  clear q1 qf E5 E4 hpq
  have HMM := Lib.hid hmm
  clear hmm
  go_wp2_with fail
  clear q2
  go_loopw [38] (fun i wr => ∃ k : Nat, k ≤ nw ∧ i = .int .i64 k ∧ Hid (MgSt w2 p mm b a Q gq nw cq k wr)) (fun i _ => nw - (intOf i).toNat)
  case atStart => exact ⟨0, Nat.zero_le _, rfl, HS5⟩
  case round =>
  clear HS5
  obtain ⟨k, hk, rfl, hst⟩ := hrel
  by_cases hlt : k < nw
  · obtain ⟨z, hz⟩ : ∃ x, p.webs[k]? = some x := ⟨_, List.getElem?_eq_getElem (by rw [HNW.out]; exact hlt)⟩
    have hzo := (checkE_ok HCH.out).web z (List.mem_of_getElem? hz)
    obtain ⟨⟨c2, f2⟩, X1, e1, hp1, ⟨c3, f3⟩, hnx⟩ := hst.out.next HNW.out hz
    have E1 := Lib.hid e1
    have HNX := Lib.hid hnx
    obtain ⟨zb, hzb⟩ : ∃ a, z.before = a := ⟨_, rfl⟩
    obtain ⟨za, hza⟩ : ∃ a, z.after = a := ⟨_, rfl⟩
    obtain ⟨-, hz1, hz2⟩ := hzo
    rw [hzb] at c2 E1 hz1
    rw [hza] at c3 HNX hz2
    obtain ⟨hz11, hz12⟩ := hz1
    obtain ⟨hz21, hz22⟩ := hz2
    have hpx := hst.out.press
    rw [HCUT.out, HMG.out] at hpx hp1
    have q2 := cellOf hpx 2 (x := .slice (some ⟨gq, 0, none⟩) nw cq) rfl
    have r2 := cellOf hp1 2 (x := .slice (some ⟨gq, 0, none⟩) nw cq) rfl
    clear hz e1 hp1 hnx hzb hza hpx
    go_upto_region 8 with fail
    rw [E1.out]
    clear c2 f2 q2
    go_wp2_with fail
    clear c3 f3 r2
    go_roundw
    case rel => exact ⟨k + 1, by omega, by go_num, HNX⟩
    case measure => simp [intOf]; omega
  obtain rfl : k = nw := by omega
  obtain ⟨q, hq⟩ : ∃ q, moreP p mm b a = q := ⟨_, rfl⟩
  obtain ⟨X0, rfl⟩ : ∃ X : World, X = wr := ⟨_, rfl⟩
  have HCQ : Hid (checkE q = 0) := by
    show _ = _
    rw [← hq]
    refine more_check HCH.out ⟨by rw [HMG.out]; omega, by rw [HMG.out]; omega⟩ fun x hx => ?_
    obtain ⟨h1, h2, h3⟩ := (checkE_ok HCH.out).web x hx
    have h4 := HNB.out.2.2 x hx
    exact ⟨h1, ⟨by show 0 ≤ x.before + b; omega, by show x.before + b ≤ 5000; omega⟩, by show 0 ≤ x.after + a; omega, by show x.after + a ≤ 5000; omega⟩
  have HRQ : Hid (q.reach = re) := by show _ = _; rw [← hq, more_reach, HRE.out]
  have HPQ : Hid (RPress X0.heap.size X0 (.agg #[.int .i64 cut, .int .i64 (mg + mm), .slice (some ⟨gq, 0, none⟩) k cq]) q) := by
    refine ⟨.slice (some ⟨gq, 0, none⟩) k cq, ?_, ?_⟩
    · rw [← hq]
      show Value.agg #[_, _, _] = Value.agg #[.int .i64 p.cut, .int .i64 (p.margin + mm), _]
      rw [HCUT.out, HMG.out]
    · have h9 := hst.out.webs
      rw [show mixW b a p.webs k = p.webs.map (chgW b a) by unfold mixW; rw [List.take_of_length_le (by rw [HNW.out]; exact Nat.le_refl _), List.drop_of_length_le (by rw [HNW.out]; exact Nat.le_refl _), List.append_nil]] at h9
      rw [← hq]
      exact h9.reads
  have HQQ : Hid (Blk X0 Q 24 #[.int .i64 cut, .int .i64 (mg + mm), .slice (some ⟨gq, 0, none⟩) k cq]) := by
    show Blk _ _ _ _
    have h9 := hst.out.press
    rwa [HCUT.out, HMG.out] at h9
  have HBX := Lib.hid hst.out.below_
  have HPX : Hid (RPress X0.heap.size X0 (.agg #[.int .i64 cut, .int .i64 mg, .slice Av k cv]) p) := (HP2.out.below HBX.out).more HBX.out.size
  have HPK := Lib.hid (K2.out.below HBX.out K2.out.lt)
  have HB0 : Hid (Below w.heap.size w X0) := HB2.out.trans (HBX.out.mono HB2.out.size)
  have HQE := Lib.hid hq
  have C1 := reach_ok p HCH.out _ X0 HPX.out
  rw [HRE.out] at C1
  have C1 := Lib.hid C1
  have m0 := cellOf HPK.out 0 (x := .int .i64 cut) rfl
  have m1 := cellOf HPK.out 1 (x := .int .i64 mg) rfl
  have m2 := cellOf HPK.out 2 (x := .slice Av k cv) rfl
  clear hst hq HBX HP2 K2 HB2 CM2
  go_wp2_with fail
  refine C1.out.mono ?_
  rintro _ X1 ⟨rfl, hb1⟩
  have HB1 := Lib.hid hb1
  have hn0 : 0 ≤ y % (re + 1) := Int.emod_nonneg _ (by omega)
  have hn1 : y % (re + 1) < re + 1 := Int.emod_lt_of_pos _ (by omega)
  obtain ⟨n, hn⟩ : ∃ a, y % (re + 1) = a := ⟨_, rfl⟩
  rw [hn] at hn0 hn1
  have hre9 : (0 : Int) < re + 1 := by omega
  have hne : ((re + 1) == 0) = false := by simp; omega
  have hne' : ¬ re + 1 = 0 := by omega
  -- all calls of p and of q, at any later world
  have HPA : Hid (∀ X, Below X0.heap.size X0 X → RPress X.heap.size X (.agg #[.int .i64 cut, .int .i64 mg, .slice Av k cv]) p ∧ (X.cell? ⟨P, 0, none⟩ = some (.int .i64 cut) ∧ X.cell? ⟨P, 1, none⟩ = some (.int .i64 mg) ∧ X.cell? ⟨P, 2, none⟩ = some (.slice Av k cv))) := fun X hX =>
    ⟨(HPX.out.below hX).more hX.size, cellOf (HPK.out.below hX HPK.out.lt) 0 rfl, cellOf (HPK.out.below hX HPK.out.lt) 1 rfl, cellOf (HPK.out.below hX HPK.out.lt) 2 rfl⟩
  have HQA : Hid (∀ X, Below X0.heap.size X0 X → RPress X.heap.size X (.agg #[.int .i64 cut, .int .i64 (mg + mm), .slice (some ⟨gq, 0, none⟩) k cq]) q ∧ (X.cell? ⟨Q, 0, none⟩ = some (.int .i64 cut) ∧ X.cell? ⟨Q, 1, none⟩ = some (.int .i64 (mg + mm)) ∧ X.cell? ⟨Q, 2, none⟩ = some (.slice (some ⟨gq, 0, none⟩) k cq))) := fun X hX =>
    ⟨(HPQ.out.below hX).more hX.size, cellOf (HQQ.out.below hX HQQ.out.lt) 0 rfl, cellOf (HQQ.out.below hX HQQ.out.lt) 1 rfl, cellOf (HQQ.out.below hX HQQ.out.lt) 2 rfl⟩
  clear m0 m1 m2 C1 hb1 HPK HQQ HPX HPQ
  obtain ⟨hp1, m0, m1, m2⟩ := HPA.out X1 HB1.out
  have C1 := Lib.hid (thrown_ok p HCH.out n hn0 (by rw [HRE.out]; omega) _ X1 hp1)
  clear hp1
  go_wp2_with fail
  refine C1.out.mono ?_
  rintro _ X2 ⟨A1, n1, c1, l1, rfl, h2⟩
  rw [hn]
  have HB2 : Hid (Below X0.heap.size X0 X2) := HB1.out.trans (h2.out.2.2.2.2.mono HB1.out.size)
  have HT1 : Hid (p.ThrownIs n l1 ∧ l1.length = n1) := ⟨h2.out.1, h2.out.2.2.1⟩
  have HL1 : Hid (l1.length ≤ 120 ∧ RSpans X2.heap.size X2 (.slice A1 n1 c1) l1) := ⟨h2.out.2.1, h2.out.2.2.2.1⟩
  clear m0 m1 m2 C1 h2 hn hne hne' hre9
  obtain ⟨hp1, m0, m1, m2⟩ := HQA.out X2 HB2.out
  have C1 := Lib.hid (thrown_ok q HCQ.out n hn0 (by rw [HRQ.out]; omega) _ X2 hp1)
  clear hp1
  go_wp2_with fail
  refine C1.out.mono ?_
  rintro _ X3 ⟨A2, n2, c2, l2, rfl, h3⟩
  have hb3 := h3.out.2.2.2.2
  have HB3 : Hid (Below X0.heap.size X0 X3) := HB2.out.trans (hb3.mono HB2.out.size)
  have HT2 : Hid (q.ThrownIs n l2) := h3.out.1
  have HL2 : Hid (l2.length ≤ 120 ∧ RSpans X3.heap.size X3 (.slice A2 n2 c2) l2) := ⟨h3.out.2.1, h3.out.2.2.2.1⟩
  have HL3 : Hid (RSpans X3.heap.size X3 (.slice A1 n1 c1) l1) := (Rd.below HL1.out.2 hb3).more hb3.size
  have hn120 : n1 ≤ 120 := by have := HL1.out.1; have := HT1.out.2; omega
  have HIN : Hid (∀ s ∈ l1, l2.any (inB s) = true) := fun s hs => by
    have h9 := HT2.out
    rw [← HQE.out] at h9
    exact more_in (checkE_ok HCH.out) hx3 hb1' ha1 HT1.out.1 h9 hs
  clear m0 m1 m2 C1 h3 hb3
  have hmf : ∀ (fn : Fn) (first cap : Array Value) (w : World), (Instr.makeFunc fn first cap).run Try.prog w = .ok (.func fn first cap) w := fun _ _ _ _ => rfl
  go_wp2_with fail
  go_loopw [96] (fun i wr => ∃ j : Nat, j ≤ n1 ∧ i = .int .i64 j ∧ Hid (Below X3.heap.size X3 wr)) (fun i _ => n1 - (intOf i).toNat)
  case atStart => exact ⟨0, Nat.zero_le _, rfl, Below.refl _ _⟩
  case round =>
  obtain ⟨j, hj, rfl, hB⟩ := hrel
  obtain ⟨Y, rfl⟩ : ∃ Y : World, Y = wr := ⟨_, rfl⟩
  by_cases hlj : j < n1
  · obtain ⟨s, hs⟩ : ∃ s, l1[j]? = some s := ⟨_, List.getElem?_eq_getElem (by rw [HT1.out.2]; exact hlj)⟩
    obtain ⟨A', c', e9, -, hR⟩ := HL3.out.open_
    injection e9 with e91 e92 e93
    subst e91
    obtain ⟨g, o, rfl, hg, c0, c1'⟩ := hR j s hs
    rw [← hB.out.cell (p := ⟨g, o + j * 2, none⟩) hg] at c0
    rw [← hB.out.cell (p := ⟨g, o + j * 2 + 1, none⟩) hg] at c1'
    have F1 : ∃ Y1, Y.alloc (.cells #[.int .i64 s.lo, .int .i64 s.hi] 45) = Y1 ∧ Below Y.heap.size Y Y1 ∧ Blk Y1 Y.heap.size 45 #[.int .i64 s.lo, .int .i64 s.hi] := ⟨_, rfl, below_alloc _ _, Blk.new _ _ _⟩
    obtain ⟨Y1, e1, hy1', B1⟩ := F1
    have E1 := Lib.hid e1
    have HK1 := Lib.hid B1
    have HBY : Hid (Below X3.heap.size X3 Y1) := hB.out.trans (hy1'.mono hB.out.size)
    have CC : Hid (Calls Try.prog 26 #[.slice A2 n2 c2, .func (.func 27) #[] #[.pointer (some ⟨Y.heap.size, 0, none⟩)]] Y1 fun e w' => e = .returned (.bool true) ∧ Below Y1.heap.size Y1 w') := by
      have h9 := containsSpan_any 27 (.pointer (some ⟨Y.heap.size, 0, none⟩)) (inB s) l2 _ Y1 ((Rd.below HL2.out.2 HBY.out).more HBY.out.size) (by have := HL2.out.1; omega)
        (fun x X hX => margin1_any s Y.heap.size x X (HK1.out.below hX HK1.out.lt))
        (enters_of Try.func27 (by kernel_rfl) rfl)
      rw [HIN.out s (List.mem_of_getElem? hs)] at h9
      exact h9
    clear hs hR e1 hy1' B1 e92 e93 hB
    go_upto_region 21 with fail
    rw [E1.out]
    clear c0 c1'
    go_wp2_with fail
    refine CC.out.mono ?_
    rintro _ Y2 ⟨rfl, hb2⟩
    have HB9 : Hid (Below X3.heap.size X3 Y2) := HBY.out.trans (hb2.mono HBY.out.size)
    clear hb2 CC
    go_wp2_with fail
    go_roundw
    case rel => exact ⟨j + 1, by omega, by go_num, HB9⟩
    case measure => simp [intOf]; omega
  have HBY : Hid (Below X0.heap.size X0 Y) := HB3.out.trans (hB.out.mono HB3.out.size)
  obtain ⟨hp1, m0, m1, m2⟩ := HPA.out Y HBY.out
  have C1 := Lib.hid (run_ok2 p HCH.out n hn0 (by omega) _ Y hp1)
  clear hp1 hB hmf
  go_wp2_with fail
  refine C1.out.mono ?_
  rintro e1 Y1 ⟨hb1, lp, hlp, hc1⟩
  have HBY1 : Hid (Below X0.heap.size X0 Y1) := HBY.out.trans (hb1.out.mono HBY.out.size)
  clear m0 m1 m2 C1 hb1
  obtain ⟨hp1, m0, m1, m2⟩ := HQA.out Y1 HBY1.out
  have C2 : Hid (Calls Try.prog 23 #[(.agg #[.int .i64 cut, .int .i64 (mg + mm), .slice (some ⟨gq, 0, none⟩) k cq]), .int .i64 n] Y1 fun e w' => Hid (Below X0.heap.size X0 w') ∧ ((e = .returned (.tuple #[.int .i64 0, .int .i64 70])) ∨ (runL n lp ≤ re ∧ ∃ z, runL n lp ≤ z ∧ e = .returned (.tuple #[.int .i64 z, .int .i64 0])))) := by
    refine (run_ok2 q HCQ.out n hn0 (by omega) _ Y1 hp1).mono ?_
    rintro e Y2 ⟨hb2, lq, hlq, hc2⟩
    refine ⟨HBY1.out.trans (hb2.out.mono HBY1.out.size), ?_⟩
    rcases hc2 with ⟨-, he⟩ | ⟨h9, he⟩
    · exact .inl he
    · refine .inr ?_
      have h8 := hlq.out
      rw [HRQ.out] at h8 h9
      rw [← HQE.out, ← HRE.out] at h8
      have h7 := more_run (checkE_ok HCH.out) hx3 hb1' ha1 hn0 hlp.out h8
      exact ⟨by omega, _, h7, he⟩
  obtain ⟨zp, hzp⟩ : ∃ z, runL n lp = z := ⟨_, rfl⟩
  rw [HRE.out, hzp] at hc1
  rw [hzp] at C2
  clear hp1 hzp hlp
  rcases hc1 with ⟨hlt9, rfl⟩ | ⟨hle9, rfl⟩
  all_goals
    go_wp2_with fail
    refine C2.out.mono ?_
    rintro _ Y2 ⟨hb2, rfl | ⟨hz1, z, hz2, rfl⟩⟩
    · have CA := Lib.hid (awake_any Y2)
      have HB9 : Hid (Below w.heap.size w Y2) := HB0.out.trans (hb2.out.mono HB0.out.size)
      clear m0 m1 m2 C2
      go_wp2_with fail
      refine CA.out.mono ?_
      rintro _ wz ⟨rfl, hbz⟩
      have HBZ : Hid (Below w.heap.size w wz) := HB9.out.trans (hbz.mono HB9.out.size)
      clear hbz CA
      go_wp2_with fail
      go_ret
      exact ⟨rfl, HBZ.out⟩
    · first
        | (exfalso; omega)
        | (have CA := Lib.hid (awake_any Y2)
           have HB9 : Hid (Below w.heap.size w Y2) := HB0.out.trans (hb2.out.mono HB0.out.size)
           clear m0 m1 m2 C2
           have g1 : decide (zp ≤ z) = true := by simp [hz2]
           go_wp2_with fail
           refine CA.out.mono ?_
           rintro _ wz ⟨rfl, hbz⟩
           have HBZ : Hid (Below w.heap.size w wz) := HB9.out.trans (hbz.mono HB9.out.size)
           clear hbz CA
           go_wp2_with fail
           go_ret
           exact ⟨rfl, HBZ.out⟩)
end Go.Proofs.Ytpkepacbondopaa
