/-
  RegisterDesks: the walk.
-/
import Derived.Test.YtffodgpafiifcaaQp
import Derived.Test.YtffodgpafiifcaaEc
namespace Go.Proofs.Ytffodgpafiifcaa
open Go.RowKit

/-- What lies there between two readings. -/
def LSt (w : World) (D bT : Nat) (vp vl : Value) (W lim : Int) (i : Nat) (waste : Value) (X : World) : Prop :=
  ∃ (d : DeskD) (F P : Nat → Prop) (pc : Value), PSt w D d F X ∧ QSt vp vl pc d P X ∧ (∀ k, P k → ¬ F k) ∧ (∀ k, P k → k ≠ bT) ∧ ¬ F bT ∧ Blk X bT 68 #[vp, vl, .int .i64 W, .int .i64 lim, pc] ∧ d.W = W ∧ d.limit = lim ∧ d.copies.length ≤ i ∧ waste = .int .i64 (wasteD d.copies : Nat) ∧ Below w.heap.size w X

set_option maxRecDepth 100000 in
set_option maxHeartbeats 40000000 in
theorem Desks_any (vp vl vr : Value) (marks : List Int) (loops : List LoopD) (W lim : Int) (reads : List (List Int)) (w : World) (hp : RInts w.heap.size w vp marks) (hl : RLoops w.heap.size w vl loops) (hr : RIntss w vr reads) :
    Calls Try.prog 5 #[vp, vl, .int .i64 W, .int .i64 lim, vr] w fun e w' => e = .returned (.bool true) ∧ Below w.heap.size w w' := by
  have CA := Lib.hid awake_any
  have HP := Lib.hid hp
  have HL := Lib.hid hl
  have HR := Lib.hid hr
  obtain ⟨Ap, cp, rfl, hpm⟩ := slice_len hp
  obtain ⟨Al, cl, rfl, hlm⟩ := slice_len hl
  obtain ⟨Ar, cr, rfl, hrm⟩ := hr.form
  obtain ⟨np, hnp⟩ : ∃ n, marks.length = n := ⟨_, rfl⟩
  obtain ⟨nl, hnl⟩ : ∃ n, loops.length = n := ⟨_, rfl⟩
  obtain ⟨nr, hnr⟩ : ∃ n, reads.length = n := ⟨_, rfl⟩
  have HNP := Lib.hid hnp
  have HNL := Lib.hid hnl
  have HNR := Lib.hid hnr
  rw [hnp] at HP hpm ⊢
  rw [hnl] at HL hlm ⊢
  rw [hnr] at HR hrm ⊢
  clear hp hl hr hnp hnl hnr
  go_enter Try.func5, Try.ntmps5
  by_cases hsz : np ≤ 20 ∧ nl ≤ 20 ∧ nr ≤ 10
  case neg =>
    have CAw := Lib.hid (CA.out w)
    have h3 : 20 < np ∨ (np ≤ 20 ∧ 20 < nl) ∨ (np ≤ 20 ∧ nl ≤ 20 ∧ 10 < nr) := by omega
    rcases h3 with h3 | ⟨h3, h4⟩ | ⟨h3, h4, h5⟩
    · have i1 : (20 : Int) < (np : Int) := by omega
      clear hsz h3
      go_wp2_with fail
      refine CAw.out.mono ?_
      rintro _ w9 ⟨rfl, hb9⟩
      go_wp2
      go_ret
      exact ⟨rfl, hb9⟩
    · have i1 : ¬ (20 : Int) < (np : Int) := by omega
      have i2 : (20 : Int) < (nl : Int) := by omega
      clear hsz h3 h4
      go_wp2_with fail
      refine CAw.out.mono ?_
      rintro _ w9 ⟨rfl, hb9⟩
      go_wp2
      go_ret
      exact ⟨rfl, hb9⟩
    · have i1 : ¬ (20 : Int) < (np : Int) := by omega
      have i2 : ¬ (20 : Int) < (nl : Int) := by omega
      have i3 : (10 : Int) < (nr : Int) := by omega
      clear hsz h3 h4 h5
      go_wp2_with fail
      refine CAw.out.mono ?_
      rintro _ w9 ⟨rfl, hb9⟩
      go_wp2
      go_ret
      exact ⟨rfl, hb9⟩
  obtain ⟨hs1, hs2, hs3⟩ := hsz
  have i1 : ¬ (20 : Int) < (np : Int) := by omega
  have i2 : ¬ (20 : Int) < (nl : Int) := by omega
  have i3 : ¬ (10 : Int) < (nr : Int) := by omega
  have CP := Lib.hid (CopyInts_any (.slice Ap np cp) marks w HP.out (by rw [HNP.out]; omega))
  go_wp2_with fail
  refine CP.out.mono ?_
  rintro _ w1 ⟨up, rfl, hup, hb1⟩
  clear i1 i2 i3
  have CL := Lib.hid (lawLoops_any (.slice Al nl cl) loops w1 ((Rd.below HL.out hb1).more hb1.size) (by rw [HNL.out]; exact hs2))
  have HUP1 := Lib.hid hup
  have HB1 := Lib.hid hb1
  clear hup hb1 CP
  go_wp2_with fail
  refine CL.out.mono ?_
  rintro _ w2 ⟨ux, rfl, hux, hb2⟩
  have hup2 := ownsRow_below HUP1.out hb2
  have HUP2 := Lib.hid hup2
  have HUX2 := Lib.hid hux
  have HB2 := Lib.hid (HB1.out.trans (hb2.mono HB1.out.size))
  have HZ12 := Lib.hid hb2.size
  obtain ⟨Aup, cup, rfl⟩ : ∃ A c, up = .slice A np c := by
    obtain ⟨A, c, e⟩ := ownsRow_form hup2
    exact ⟨A, c, by rw [← HNP.out]; exact e⟩
  obtain ⟨Aux, cux, rfl⟩ : ∃ A c, ux = .slice A nl c := by
    obtain ⟨A, c, e⟩ := ownsRow_form hux
    exact ⟨A, c, by rw [← HNL.out]; exact e⟩
  have CN := Lib.hid (New_any (.slice Aup np cup) (.slice Aux nl cux) marks loops W lim w2 (Rd.own hup2 (own_le hup2)) (Rd.own hux (own_le hux)) (by rw [HNP.out]; omega) (by rw [HNL.out]; omega))
  have CR := Lib.hid (fun (X : World) (hX : Below w.heap.size w X) => refNew_any (.slice Ap np cp) (.slice Al nl cl) marks loops W lim X ((RInts.below HP.out hX).more hX.size) ((Rd.below HL.out hX).more hX.size) (by rw [HNP.out]; omega) (by rw [HNL.out]; omega))
  clear hup2 hux hb2 CL
  go_wp2_with fail
  refine CN.out.mono ?_
  rintro e w3 ⟨hnew, hb23⟩
  have HB23 := Lib.hid hb23
  have HB3 := Lib.hid (HB2.out.trans (hb23.mono HB2.out.size))
  have CR3 := Lib.hid (CR.out w3 HB3.out)
  clear hb23 CN CR
  rcases hnew with ⟨code, hc, hi, rfl⟩ | ⟨hi, D, mv, cv, Cs, vs, rfl, hok, hat⟩
  · -- no desk
    have HI := Lib.hid hi
    clear hi
    go_wp2_with fail
    refine CR3.out.mono ?_
    rintro _ w4 ⟨code', x, hi', -, hx, rfl, hb4⟩
    obtain rfl : code' = code := hi'.one HI.out
    obtain rfl : x = zeroDesk := hx hc
    unfold zeroDesk
    have hc1 : (code' != 0) = true := by simpa using hc
    have HB4 := Lib.hid (HB3.out.trans (hb4.mono HB3.out.size))
    have HB24 := Lib.hid (HB23.out.trans (hb4.mono HB23.out.size))
    have CS := Lib.hid (fun (X : World) (hX : Below w4.heap.size w4 X) => sameInts_one (.slice Aup np cup) (.slice Ap np cp) marks X (by
      have h9 := ownsRow_below HUP2.out (HB24.out.trans (hX.mono HB24.out.size))
      exact Rd.own h9 (own_le h9)) (by
      have h9 := HB4.out.trans (hX.mono HB4.out.size)
      exact (RInts.below HP.out h9).more h9.size))
    have HBA := Lib.hid (fun o => below_alloc w4 o)
    clear hi' hx hb4 CR3
    go_wp2_with fail
    refine (CS.out _ (HBA.out _)).mono ?_
    rintro _ w5 ⟨rfl, hb5⟩
    have hb45 := (HBA.out _).trans (hb5.mono (HBA.out _).size)
    have HB5 := Lib.hid (HB4.out.trans (hb45.mono HB4.out.size))
    have CA5 := Lib.hid (CA.out w5)
    clear hb5 hb45 HBA CS
    go_wp2_with fail
    refine CA5.out.mono ?_
    rintro _ w9 ⟨rfl, hb9⟩
    have HB9 := Lib.hid (HB5.out.trans (hb9.mono HB5.out.size))
    clear hb9
    go_wp2
    go_ret
    exact ⟨rfl, HB9.out⟩
  have HI := Lib.hid hi
  have HOk := Lib.hid hok
  have HAt := Lib.hid hat
  clear hi hok hat
  go_wp2_with fail
  refine CR3.out.mono ?_
  rintro _ w4 ⟨code', x, hi', hx, -, rfl, hb4⟩
  obtain rfl : code' = 0 := hi'.one HI.out
  obtain rfl : x = _ := hx rfl
  obtain ⟨hmn, hln⟩ := HI.out.many
  rw [HNP.out] at hmn hln
  rw [HNL.out] at hln
  have hnl1 : nl + 1 ≤ np := by omega
  have hnl2 : np ≤ nl + 1 := by omega
  obtain ⟨bT, hbT⟩ : ∃ b, w4.heap.size = b := ⟨_, rfl⟩
  obtain ⟨w5, e5, B5, T5⟩ : ∃ w5, w4.alloc (.cells #[.slice Ap np cp, .slice Al nl cl, .int .i64 W, .int .i64 lim, .slice none 0 0] 68) = w5 ∧ Below w4.heap.size w4 w5 ∧ Blk w5 bT 68 #[.slice Ap np cp, .slice Al nl cl, .int .i64 W, .int .i64 lim, .slice none 0 0] := ⟨_, rfl, below_alloc _ _, hbT ▸ Blk.new _ _ _⟩
  have hb35 := hb4.trans (B5.mono hb4.size)
  have HB35 := Lib.hid hb35
  have HB5 := Lib.hid (HB3.out.trans (hb35.mono HB3.out.size))
  have HB25 := Lib.hid (HB23.out.trans (hb35.mono HB23.out.size))
  have HAt5 := Lib.hid (HAt.out.below hb35)
  have hup5 := ownsRow_below HUP2.out HB25.out
  have HUP5 := Lib.hid hup5
  have HUX5 := Lib.hid (ownsRow_below HUX2.out HB25.out)
  have HZT : Hid (w3.heap.size ≤ bT) := Lib.hid (by rw [← hbT]; exact hb4.size)
  have E5 := Lib.hid e5
  have HT5 := Lib.hid T5
  have CS5 := Lib.hid (sameInts_one (.slice Aup np cup) (.slice Ap np cp) marks w5 (Rd.own hup5 (own_le hup5)) ((RInts.below HP.out HB5.out).more HB5.out.size))
  clear hi' hx hb4 CR3 e5 B5 T5 hb35 hup5 hln
  go_wp2_with fail
  rw [E5.out]
  clear E5
  refine CS5.out.mono ?_
  rintro _ w6 ⟨rfl, hb56⟩
  have HB56 := Lib.hid hb56
  have HB6 := Lib.hid (HB5.out.trans (hb56.mono HB5.out.size))
  have hup6 := ownsRow_below HUP5.out hb56
  have hux6 := ownsRow_below HUX5.out hb56
  have HT6 := Lib.hid (HT5.out.below hb56 HT5.out.lt)
  have HAt6 := Lib.hid (HAt5.out.below hb56)
  obtain ⟨gp, curp, rfl, hgp, hBp, hsp⟩ : ∃ g cs, Aup = some ⟨g, 0, none⟩ ∧ w.heap.size ≤ g ∧ Blk w6 g 3 cs ∧ np * 1 ≤ cs.size := by
    have h9 := hup6
    unfold OInts at h9
    rw [HNP.out] at h9
    exact own_blk h9 (by omega)
  obtain ⟨gx, curx, rfl, hgx, hBx, hsx⟩ : ∃ g cs, Aux = some ⟨g, 0, none⟩ ∧ w1.heap.size ≤ g ∧ Blk w6 g 26 cs ∧ nl * 4 ≤ cs.size := by
    have h9 := hux6
    unfold OLoops at h9
    rw [HNL.out] at h9
    exact own_blk h9 (by omega)
  have hgp1 : gp < w1.heap.size := (HUP1.out.lt gp rfl).2
  have hgx2 : gx < w2.heap.size := (HUX2.out.lt gx rfl).2
  have hz12 := HZ12.out
  have HBp := Lib.hid hBp
  have HBx := Lib.hid hBx
  clear hup6 hux6 hb56 hBp hBx CS5 hbT HB1 HB35 HB25 HAt5 HUP5 HUX5 HUP1 HUP2 HUX2 HT5
  go_wp2
  -- p is written
  go_loopw [17] (fun iq wr => ∃ (k : Nat) (cs : Array Value), k ≤ np ∧ iq = .int .i64 k ∧ Blk wr gp 3 cs ∧ np * 1 ≤ cs.size ∧ KeptBut (fun j => j = gp) w6 wr) (fun iq _ => np - (intOf iq).toNat)
  case atStart => exact ⟨0, curp, Nat.zero_le _, rfl, HBp.out, hsp, KeptBut.refl _ _⟩
  case round =>
    obtain ⟨k, cs, hk, rfl, hcs, hcl, hkb⟩ := hrel
    have HKb := Lib.hid hkb
    clear hkb
    by_cases hlt : k < np
    ·
      obtain ⟨v0, hv0⟩ := blk_some hcs (j := k) (by omega)
      have f0 := hcs.frozen k
      have ik : (k : Int) < (np : Int) := by omega
      have HN : Hid (Blk (wr.setCell ⟨gp, k, none⟩ (.int .i64 0)) gp 3 (cs.setIfInBounds k (.int .i64 0)) ∧ KeptBut (fun j => j = gp) w6 (wr.setCell ⟨gp, k, none⟩ (.int .i64 0))) := Lib.hid ⟨hcs.put k _, kb_set HKb.out⟩
      clear hcs
      go_wp2
      go_roundw
      case rel => exact ⟨k + 1, _, by omega, by go_num, HN.out.1, by rw [Array.size_setIfInBounds]; exact hcl, HN.out.2⟩
      case measure => simp [intOf]; omega
    · obtain rfl : np = k := by omega
      have hne : gx ≠ gp := by omega
      have HBx7 := Lib.hid (HKb.out.blk HBx.out hne)
      have HK7 : Hid (KeptBut (fun j => j = gp ∨ j = gx) w6 wr) := Lib.hid (HKb.out.mono fun _ _ h => .inl h)
      clear hcs hcl HKb
      go_wp2
      -- x is written
      go_loopw [18] (fun iq wr => ∃ (k : Nat) (cs : Array Value), k ≤ nl ∧ iq = .int .i64 k ∧ Blk wr gx 26 cs ∧ nl * 4 ≤ cs.size ∧ KeptBut (fun j => j = gp ∨ j = gx) w6 wr) (fun iq _ => nl - (intOf iq).toNat)
      case atStart => exact ⟨0, curx, Nat.zero_le _, rfl, HBx7.out, hsx, HK7.out⟩
      case round =>
        clear HK7
        obtain ⟨k, cs, hk, rfl, hcs, hcl, hkb⟩ := hrel
        have HKb := Lib.hid hkb
        clear hkb
        by_cases hlt : k < nl
        ·
          obtain ⟨v0, hv0⟩ := blk_some hcs (j := k * 4) (by omega)
          obtain ⟨v1, hv1⟩ := blk_some hcs (j := k * 4 + 1) (by omega)
          obtain ⟨v2, hv2⟩ := blk_some hcs (j := k * 4 + 2) (by omega)
          obtain ⟨v3, hv3⟩ := blk_some hcs (j := k * 4 + 3) (by omega)
          have f0 := hcs.frozen (k * 4)
          have f1 := hcs.frozen (k * 4 + 1)
          have f2 := hcs.frozen (k * 4 + 2)
          have f3 := hcs.frozen (k * 4 + 3)
          have ik : (k : Int) < (nl : Int) := by omega
          have HN : Hid (Blk ((((wr.setCell ⟨gx, k * 4, none⟩ (.int .i64 0)).setCell ⟨gx, k * 4 + 1, none⟩ (.int .i64 0)).setCell ⟨gx, k * 4 + 2, none⟩ (.int .i64 0)).setCell ⟨gx, k * 4 + 3, none⟩ (.int .i64 0)) gx 26 ((((cs.setIfInBounds (k * 4) (.int .i64 0)).setIfInBounds (k * 4 + 1) (.int .i64 0)).setIfInBounds (k * 4 + 2) (.int .i64 0)).setIfInBounds (k * 4 + 3) (.int .i64 0)) ∧ KeptBut (fun j => j = gp ∨ j = gx) w6 ((((wr.setCell ⟨gx, k * 4, none⟩ (.int .i64 0)).setCell ⟨gx, k * 4 + 1, none⟩ (.int .i64 0)).setCell ⟨gx, k * 4 + 2, none⟩ (.int .i64 0)).setCell ⟨gx, k * 4 + 3, none⟩ (.int .i64 0))) :=
            Lib.hid ⟨(((hcs.put _ _).put _ _).put _ _).put _ _, kb2_set (kb2_set (kb2_set (kb2_set HKb.out (.inr rfl)) (.inr rfl)) (.inr rfl)) (.inr rfl)⟩
          clear hcs
          go_wp2
          go_roundw
          case rel => exact ⟨k + 1, _, by omega, by go_num, HN.out.1, by simp only [Array.size_setIfInBounds]; exact hcl, HN.out.2⟩
          case measure => simp [intOf]; omega
        · obtain rfl : nl = k := by omega
          obtain ⟨w8, hw8⟩ : ∃ X, X = wr := ⟨_, rfl⟩
          subst hw8
          have HB8 : Hid (Below w.heap.size w w8) := Lib.hid (HB6.out.trans (HKb.out.below (fun k hk => by rcases hk with rfl | rfl <;> (have := HB2.out.size; omega)) HB6.out.size))
          have hz23 : w2.heap.size ≤ w3.heap.size := HB23.out.size
          have hTp : bT ≠ gp := by have := HZT.out; omega
          have hTx : bT ≠ gx := by have := HZT.out; omega
          have HL8 : Hid (LSt w D bT (.slice Ap np cp) (.slice Al nl cl) W lim 0 (.int .i64 0) w8) := Lib.hid (by
            refine ⟨desk0 marks loops W lim, Foot D mv cv (.slice none 0 0) Cs vs [], fun k => k < w.heap.size, .slice none 0 0, ⟨w2.heap.size, mv, cv, _, Cs, vs, [], HB2.out.size, HOk.out, HAt6.out.keep HKb.out fun k hf => ?_, fun k => Iff.rfl⟩, QSt.start ?_ ?_ HB8.out, fun k hk hf => ?_, fun k hk => ?_, fun hf => ?_, HKb.out.blk HT6.out ?_, rfl, rfl, Nat.le_refl _, rfl, HB8.out⟩
            · have := (HAt6.out.foot_lt hf).1
              omega
            · have h9 := HP.out
              show RInts _ _ _ _
              unfold RInts at h9 ⊢
              rw [HNP.out] at h9 ⊢
              exact h9
            · have h9 := HL.out
              unfold RLoops at h9 ⊢
              rw [HNL.out] at h9 ⊢
              exact h9
            · have := (HAt6.out.foot_lt hf).1
              have := HB2.out.size
              omega
            · have := HZT.out
              have := HB3.out.size
              omega
            · have := (HAt.out.foot_lt hf).2
              have := HZT.out
              omega
            · intro h9
              rcases h9 with h9 | h9
              · exact hTp h9
              · exact hTx h9)
          have HZbT : Hid (w.heap.size ≤ bT) := Lib.hid (by have := HZT.out; have := HB3.out.size; omega)
          clear hcs hcl HKb HBx7 hTp hTx hz23 hne hk hlt HB8 HT6 HAt6 HAt HOk HBp HBx HB56 HB6 HB5 HB3 HB23 HB2 HZT
          go_wp2
          go_loopw [19, 20, 21, 22, 23, 24, 25, 26, 27] (fun wz iq _ _ _ _ _ _ _ wr => ∃ i : Nat, i ≤ nr ∧ iq = .int .i64 i ∧ LSt w D bT (.slice Ap np cp) (.slice Al nl cl) W lim i wz wr) (fun _ iq _ _ _ _ _ _ _ _ => nr - (intOf iq).toNat)
          case atStart => exact ⟨0, Nat.zero_le _, rfl, HL8.out⟩
          case round =>
            clear HL8
            obtain ⟨i, hi, rfl, hst⟩ := hrel
            obtain ⟨wo, hwo⟩ : ∃ X, X = wr := ⟨_, rfl⟩
            subst hwo
            by_cases hlt : i < nr
            ·
              obtain ⟨d, F, P, pc, hps, hqs, hdis, hPT, hFT, hT, hdW, hdL, hcl, rfl, hb⟩ := hst
              obtain ⟨l, hl⟩ : ∃ l, reads[i]? = some l := ⟨_, List.getElem?_eq_getElem (by rw [HNR.out]; exact hlt)⟩
              obtain ⟨g, o, u, rfl, hg, cu, hu⟩ := HR.out.at hl
              obtain ⟨Au, cu9, rfl, hlm9⟩ := slice_len hu
              obtain ⟨n, hn⟩ : ∃ n, l.length = n := ⟨_, rfl⟩
              have HN := Lib.hid hn
              have HU := Lib.hid hu
              rw [hn] at cu HU hlm9
              have cu' := (hb.cell (p := ⟨g, o + i, none⟩) hg).trans cu
              have ii : (i : Int) < (nr : Int) := by omega
              have HB := Lib.hid hb
              have HPs := Lib.hid hps
              have HQs := Lib.hid hqs
              have HT := Lib.hid hT
              have HDis := Lib.hid hdis
              have HPT := Lib.hid hPT
              have HFT := Lib.hid hFT
              have HdW := Lib.hid hdW
              have HdL := Lib.hid hdL
              obtain ⟨nw, hnw⟩ : ∃ nw : Nat, wasteD d.copies = nw := ⟨_, rfl⟩
              have HNW := Lib.hid hnw
              have hnw5 : nw ≤ 10 := by
                have h9 := wasteD_le d.copies
                omega
              rw [hnw]
              have HCL := Lib.hid hcl
              clear hl cu hb hps hqs hT hdis hPT hFT hdW hdL hnw hcl hn hu
              by_cases hlong : 60 < n
              · have hl60 : (60 : Int) < (n : Int) := by omega
                go_wp2
                go_roundw
                case rel => exact ⟨i + 1, by omega, by go_num, d, F, P, pc, HPs.out, HQs.out, HDis.out, HPT.out, HFT.out, HT.out, HdW.out, HdL.out, by have := HCL.out; omega, by rw [HNW.out], HB.out⟩
                case measure => simp [intOf]; omega
              · have hl60 : ¬ (60 : Int) < (n : Int) := by omega
                have huo : RInts wo.heap.size wo (.slice Au n cu9) l := (RInts.below HU.out HB.out).more HB.out.size
                have CC := Lib.hid (CopyInts_any _ l wo huo (by rw [HN.out]; omega))
                clear huo hlong
                go_wp2_with fail
                refine CC.out.mono ?_
                rintro _ wa ⟨uo, rfl, huo, hba⟩
                obtain ⟨Ao, co, rfl⟩ : ∃ A c, uo = .slice A n c := by
                  obtain ⟨A, c, e⟩ := ownsRow_form huo
                  exact ⟨A, c, by rw [← HN.out]; exact e⟩
                have HUo := Lib.hid huo
                have HBa := Lib.hid hba
                have HPa := Lib.hid (HPs.out.below hba)
                have CRd := Lib.hid (HPa.out.read _ l (Rd.own huo (own_le huo)) (by rw [HN.out]; omega))
                clear huo hba CC
                go_wp2_with fail
                refine CRd.out.mono ?_
                rintro e wb ⟨c, code, d', F', ue, um, rfl, his, hps', hkF, hF', hue, hum, hno⟩
                clear CRd
                obtain ⟨bA, hbA⟩ : ∃ b, wb.heap.size = b := ⟨_, rfl⟩
                obtain ⟨Ae, ce, rfl⟩ : ∃ A k, ue = .slice A c.errors.length k := ownsRow_form hue
                obtain ⟨Am, cm, rfl⟩ : ∃ A k, um = .slice A c.moves.length k := ownsRow_form hum
                obtain ⟨wy, ec, Bc, Kc⟩ : ∃ wy, wb.alloc (.cells #[.bool c.good, .int .i64 c.shift, .slice Ae c.errors.length ce, .slice Am c.moves.length cm] 72) = wy ∧ Below wb.heap.size wb wy ∧ Blk wy bA 72 #[.bool c.good, .int .i64 c.shift, .slice Ae c.errors.length ce, .slice Am c.moves.length cm] := ⟨_, rfl, below_alloc _ _, hbA ▸ Blk.new _ _ _⟩
                have EC := Lib.hid ec
                have HKc := Lib.hid Kc
                have HBc := Lib.hid Bc
                have HkF := Lib.hid hkF
                have HHis := Lib.hid his
                have HPb := Lib.hid hps'
                have HF' := Lib.hid hF'
                have HUe := Lib.hid hue
                have HUm := Lib.hid hum
                have HNo := Lib.hid hno
                have HZA : Hid (wb.heap.size ≤ bA) := Lib.hid (by omega)
                have hFlt : ∀ k, F k → k < wo.heap.size := fun k hk => (HPs.out.lt hk).2
                have HQa := HQs.out.below HBa.out
                have HQb := HQa.keep hkF (fun k hk => HDis.out k hk)
                have HQc := Lib.hid (HQb.below Bc)
                have hTa := HT.out.below HBa.out HT.out.lt
                have hTc := (hkF.blk hTa HFT.out).below Bc (hkF.blk hTa HFT.out).lt
                have HTc := Lib.hid hTc
                have HBab : Hid (Below w.heap.size wa wb) := Lib.hid (hkF.below (fun k hk => (HPs.out.lt hk).1) (Nat.le_trans HB.out.size HBa.out.size))
                have HBwc : Hid (Below w.heap.size w wy) := Lib.hid (HB.out.trans ((HBa.out.mono HB.out.size).trans (HBab.out.trans (Bc.mono (by have h1 := HB.out.size; have h2 := HBa.out.size; have h3 := hkF.size; omega)))))
                have cuc := (HBwc.out.cell (p := ⟨g, o + i, none⟩) hg).trans ((HB.out.cell (p := ⟨g, o + i, none⟩) hg).symm.trans cu')
                have hUc : RInts wy.heap.size wy (.slice Au n cu9) l := (RInts.below HU.out HBwc.out).more HBwc.out.size
                have CQ : Hid (∀ X : World, Below wy.heap.size wy X → Calls Try.prog 33 #[.agg #[.slice Ap np cp, .slice Al nl cl, .int .i64 W, .int .i64 lim, pc], .slice Au n cu9] X fun e w' => ∃ (c2 : CopyD) (code2 : Int) (d2 : DeskD) (A2 A3 A4 : Option Addr) (k2 k3 k4 : Nat) (P2 : Nat → Prop), e = .returned (.tuple #[.agg #[.slice Ap np cp, .slice Al nl cl, .int .i64 W, .int .i64 lim, .slice A2 d2.copies.length k2], .agg #[.bool c2.good, .int .i64 c2.shift, .slice A3 c2.errors.length k3, .slice A4 c2.moves.length k4], .int .i64 code2]) ∧ ReadIs d l c2 code2 d2 ∧
                    QSt (.slice Ap np cp) (.slice Al nl cl) (.slice A2 d2.copies.length k2) d2 P2 w' ∧ (∀ k, P2 k → P k ∨ (X.heap.size ≤ k ∧ k < w'.heap.size)) ∧ OInts X.heap.size w' (.slice A3 c2.errors.length k3) c2.errors ∧ OInts X.heap.size w' (.slice A4 c2.moves.length k4) c2.moves ∧ Below X.heap.size X w') := Lib.hid fun X hdr => by
                  have C9 := (HQc.out.below hdr).read HPs.out.ok _ l ((hUc.below hdr).more hdr.size) (by rw [HN.out]; omega)
                  rw [HdW.out, HdL.out] at C9
                  refine C9.mono ?_
                  rintro e w' ⟨c2, code2, d2, pc2, ue2, um2, P2, rfl, his2, hqd, hP2, hue2, hum2, hbd⟩
                  obtain ⟨A2, k2, rfl⟩ : ∃ A k, pc2 = .slice A d2.copies.length k := by
                    obtain ⟨es, hd⟩ := hqd.desk
                    exact rd_form hd.rows
                  obtain ⟨A3, k3, rfl⟩ : ∃ A k, ue2 = .slice A c2.errors.length k := ownsRow_form hue2
                  obtain ⟨A4, k4, rfl⟩ : ∃ A k, um2 = .slice A c2.moves.length k := ownsRow_form hum2
                  exact ⟨c2, code2, d2, A2, A3, A4, k2, k3, k4, P2, by rw [HdW.out, HdL.out], his2, hqd, hP2, hue2, hum2, hbd⟩
                have HPlt := Lib.hid HQc.out.1
                clear ec Kc Bc hkF his hps' hF' hue hum hno HQa HQb hTa hFlt hUc cu'
                go_upto_region 25 with fail
                rw [EC.out]
                clear hbA EC
                obtain ⟨pA, pn, pcc, hpc, hpn⟩ : ∃ A n c, pc = .slice A n c ∧ n = d.copies.length := by
                  obtain ⟨es, hd⟩ := HQc.out.desk
                  obtain ⟨A, c9, e⟩ := rd_form hd.rows
                  exact ⟨A, _, c9, e, rfl⟩
                subst hpc
                have HPn := Lib.hid hpn
                clear hpn
                have x0 := cellOf hTc 0 (x := .slice Ap np cp) rfl
                have x1 := cellOf hTc 1 (x := .slice Al nl cl) rfl
                have x2 := cellOf hTc 2 (x := .int .i64 W) rfl
                have x3 := cellOf hTc 3 (x := .int .i64 lim) rfl
                have x4 := cellOf hTc 4 (x := .slice pA pn pcc) rfl
                have HSb : Hid (∀ X : World, Below wy.heap.size wy X → X.cell? ⟨bT, 0, none⟩ = some (.slice Ap np cp) ∧ X.cell? ⟨bT, 1, none⟩ = some (.slice Al nl cl) ∧ X.cell? ⟨bT, 2, none⟩ = some (.int .i64 W) ∧ X.cell? ⟨bT, 3, none⟩ = some (.int .i64 lim) ∧ X.cell? ⟨bT, 4, none⟩ = some (.slice pA pn pcc) ∧ X.cell? ⟨g, o + i, none⟩ = some (.slice Au n cu9)) := Lib.hid fun X hX =>
                  ⟨(hX.cell (p := ⟨bT, 0, none⟩) hTc.lt).trans x0, (hX.cell (p := ⟨bT, 1, none⟩) hTc.lt).trans x1, (hX.cell (p := ⟨bT, 2, none⟩) hTc.lt).trans x2, (hX.cell (p := ⟨bT, 3, none⟩) hTc.lt).trans x3, (hX.cell (p := ⟨bT, 4, none⟩) hTc.lt).trans x4, (hX.cell (p := ⟨g, o + i, none⟩) (Nat.lt_of_lt_of_le hg HBwc.out.size)).trans cuc⟩
                clear hTc
                go_cut [24, 25, 26] (fun s24 s25 s26 wx => DCut (.slice Ap np cp) (.slice Al nl cl) W lim d l P wy s24 s25 s26 wx)
                case first =>
                  go_region_held3 (fun X => X.cell? ⟨bT, 0, none⟩ = some (.slice Ap np cp) ∧ X.cell? ⟨bT, 1, none⟩ = some (.slice Al nl cl) ∧ X.cell? ⟨bT, 2, none⟩ = some (.int .i64 W) ∧ X.cell? ⟨bT, 3, none⟩ = some (.int .i64 lim) ∧ X.cell? ⟨bT, 4, none⟩ = some (.slice pA pn pcc) ∧ X.cell? ⟨g, o + i, none⟩ = some (.slice Au n cu9))
                    (first | with_reducible exact S10 | (refine HSb.out _ ?_; (repeat (first | (with_reducible exact HBx.out) | (with_reducible exact Below.refl _ _) | (with_reducible refine below_far ?_ (by first | omega | (simp; omega))) | (with_reducible refine below_al0 ?_ _) | (with_reducible refine Below.drew ?_))); done) | go_keep)
                    (first
                      | (go_at_call 33; (with_reducible refine (CQ.out wy.drew (Below.refl wy.heap.size wy).drew).mono ?_); rintro e wd ⟨c2, code2, d2, A2, A3, A4, k2, k3, k4, P2, rfl, his2, hqd, hP2, hue2, hum2, hbd⟩; have hbx := (Below.refl wy.heap.size wy).drew.trans (hbd.mono (Below.refl wy.heap.size wy).drew.size); have S10 := HSb.out wd hbx; have hzw : wy.heap.size ≤ wd.heap.size := hbx.size; have HPre := Lib.hid (DPre.mk (W := W) (lim := lim) his2 hqd hP2 hue2 hum2 hbx HPlt.out); have HBx := Lib.hid hbx; have hzd := hbd.size; clear his2 hqd hP2 hue2 hum2 hbx hbd)
                      | (go_at_call 33; (with_reducible refine (CQ.out (wy.alloc (.cells #[.slice none 0 0, .slice none 0 0, .int .i64 0, .int .i64 0, .slice none 0 0] 68)).drew (below_alloc wy (.cells #[.slice none 0 0, .slice none 0 0, .int .i64 0, .int .i64 0, .slice none 0 0] 68)).drew).mono ?_); rintro e wd ⟨c2, code2, d2, A2, A3, A4, k2, k3, k4, P2, rfl, his2, hqd, hP2, hue2, hum2, hbd⟩; have hbx := (below_alloc wy (.cells #[.slice none 0 0, .slice none 0 0, .int .i64 0, .int .i64 0, .slice none 0 0] 68)).drew.trans (hbd.mono (below_alloc wy (.cells #[.slice none 0 0, .slice none 0 0, .int .i64 0, .int .i64 0, .slice none 0 0] 68)).drew.size); have S10 := HSb.out wd hbx; have hzw : wy.heap.size ≤ wd.heap.size := hbx.size; have KD : Blk wd wy.heap.size 68 #[.slice none 0 0, .slice none 0 0, .int .i64 0, .int .i64 0, .slice none 0 0] := (blk_drew (Blk.new wy 68 #[.slice none 0 0, .slice none 0 0, .int .i64 0, .int .i64 0, .slice none 0 0])).below hbd (blk_drew (Blk.new wy 68 #[.slice none 0 0, .slice none 0 0, .int .i64 0, .int .i64 0, .slice none 0 0])).lt; have KDt0 := cellOf KD 0 (x := .slice none 0 0) rfl; have KDf0 := KD.frozen 0; have KDt1 := cellOf KD 1 (x := .slice none 0 0) rfl; have KDf1 := KD.frozen 1; have KDt2 := cellOf KD 2 (x := .int .i64 0) rfl; have KDf2 := KD.frozen 2; have KDt3 := cellOf KD 3 (x := .int .i64 0) rfl; have KDf3 := KD.frozen 3; have KDt4 := cellOf KD 4 (x := .slice none 0 0) rfl; have KDf4 := KD.frozen 4; have KDl := KD.lt; have HKD := Lib.hid KD; clear KD; have HPre := Lib.hid (DPre.mk (W := W) (lim := lim) his2 hqd hP2 hue2 hum2 hbx HPlt.out); have HBx := Lib.hid hbx; have hzd := hbd.size; clear his2 hqd hP2 hue2 hum2 hbx hbd)
                      | (go_at_call 33; (with_reducible refine (CQ.out (wy.alloc (.cells #[.bool false, .int .i64 0, .slice none 0 0, .slice none 0 0] 75)).drew (below_alloc wy (.cells #[.bool false, .int .i64 0, .slice none 0 0, .slice none 0 0] 75)).drew).mono ?_); rintro e wd ⟨c2, code2, d2, A2, A3, A4, k2, k3, k4, P2, rfl, his2, hqd, hP2, hue2, hum2, hbd⟩; have hbx := (below_alloc wy (.cells #[.bool false, .int .i64 0, .slice none 0 0, .slice none 0 0] 75)).drew.trans (hbd.mono (below_alloc wy (.cells #[.bool false, .int .i64 0, .slice none 0 0, .slice none 0 0] 75)).drew.size); have S10 := HSb.out wd hbx; have hzw : wy.heap.size ≤ wd.heap.size := hbx.size; have KC : Blk wd wy.heap.size 75 #[.bool false, .int .i64 0, .slice none 0 0, .slice none 0 0] := (blk_drew (Blk.new wy 75 #[.bool false, .int .i64 0, .slice none 0 0, .slice none 0 0])).below hbd (blk_drew (Blk.new wy 75 #[.bool false, .int .i64 0, .slice none 0 0, .slice none 0 0])).lt; have KCt0 := cellOf KC 0 (x := .bool false) rfl; have KCf0 := KC.frozen 0; have KCt1 := cellOf KC 1 (x := .int .i64 0) rfl; have KCf1 := KC.frozen 1; have KCt2 := cellOf KC 2 (x := .slice none 0 0) rfl; have KCf2 := KC.frozen 2; have KCt3 := cellOf KC 3 (x := .slice none 0 0) rfl; have KCf3 := KC.frozen 3; have KCl := KC.lt; have HKC := Lib.hid KC; clear KC; have HPre := Lib.hid (DPre.mk (W := W) (lim := lim) his2 hqd hP2 hue2 hum2 hbx HPlt.out); have HBx := Lib.hid hbx; have hzd := hbd.size; clear his2 hqd hP2 hue2 hum2 hbx hbd)
                      | (go_at_call 33; (with_reducible refine (CQ.out ((wy.alloc (.cells #[.slice none 0 0, .slice none 0 0, .int .i64 0, .int .i64 0, .slice none 0 0] 68)).alloc (.cells #[.bool false, .int .i64 0, .slice none 0 0, .slice none 0 0] 75)).drew ((below_alloc wy (.cells #[.slice none 0 0, .slice none 0 0, .int .i64 0, .int .i64 0, .slice none 0 0] 68)).trans ((below_alloc (wy.alloc (.cells #[.slice none 0 0, .slice none 0 0, .int .i64 0, .int .i64 0, .slice none 0 0] 68)) (.cells #[.bool false, .int .i64 0, .slice none 0 0, .slice none 0 0] 75)).mono (below_alloc wy (.cells #[.slice none 0 0, .slice none 0 0, .int .i64 0, .int .i64 0, .slice none 0 0] 68)).size)).drew).mono ?_); rintro e wd ⟨c2, code2, d2, A2, A3, A4, k2, k3, k4, P2, rfl, his2, hqd, hP2, hue2, hum2, hbd⟩; have hbx := ((below_alloc wy (.cells #[.slice none 0 0, .slice none 0 0, .int .i64 0, .int .i64 0, .slice none 0 0] 68)).trans ((below_alloc (wy.alloc (.cells #[.slice none 0 0, .slice none 0 0, .int .i64 0, .int .i64 0, .slice none 0 0] 68)) (.cells #[.bool false, .int .i64 0, .slice none 0 0, .slice none 0 0] 75)).mono (below_alloc wy (.cells #[.slice none 0 0, .slice none 0 0, .int .i64 0, .int .i64 0, .slice none 0 0] 68)).size)).drew.trans (hbd.mono ((below_alloc wy (.cells #[.slice none 0 0, .slice none 0 0, .int .i64 0, .int .i64 0, .slice none 0 0] 68)).trans ((below_alloc (wy.alloc (.cells #[.slice none 0 0, .slice none 0 0, .int .i64 0, .int .i64 0, .slice none 0 0] 68)) (.cells #[.bool false, .int .i64 0, .slice none 0 0, .slice none 0 0] 75)).mono (below_alloc wy (.cells #[.slice none 0 0, .slice none 0 0, .int .i64 0, .int .i64 0, .slice none 0 0] 68)).size)).drew.size); have S10 := HSb.out wd hbx; have hzw : wy.heap.size ≤ wd.heap.size := hbx.size; have KD : Blk wd wy.heap.size 68 #[.slice none 0 0, .slice none 0 0, .int .i64 0, .int .i64 0, .slice none 0 0] := (blk_drew ((Blk.new wy 68 #[.slice none 0 0, .slice none 0 0, .int .i64 0, .int .i64 0, .slice none 0 0]).alloc (.cells #[.bool false, .int .i64 0, .slice none 0 0, .slice none 0 0] 75))).below hbd (blk_drew ((Blk.new wy 68 #[.slice none 0 0, .slice none 0 0, .int .i64 0, .int .i64 0, .slice none 0 0]).alloc (.cells #[.bool false, .int .i64 0, .slice none 0 0, .slice none 0 0] 75))).lt; have KDt0 := cellOf KD 0 (x := .slice none 0 0) rfl; have KDf0 := KD.frozen 0; have KDt1 := cellOf KD 1 (x := .slice none 0 0) rfl; have KDf1 := KD.frozen 1; have KDt2 := cellOf KD 2 (x := .int .i64 0) rfl; have KDf2 := KD.frozen 2; have KDt3 := cellOf KD 3 (x := .int .i64 0) rfl; have KDf3 := KD.frozen 3; have KDt4 := cellOf KD 4 (x := .slice none 0 0) rfl; have KDf4 := KD.frozen 4; have KDl := KD.lt; have HKD := Lib.hid KD; clear KD; have KC : Blk wd (wy.heap.size + 1) 75 #[.bool false, .int .i64 0, .slice none 0 0, .slice none 0 0] := (blk_drew (w := ((wy.alloc (.cells #[.slice none 0 0, .slice none 0 0, .int .i64 0, .int .i64 0, .slice none 0 0] 68)).alloc (.cells #[.bool false, .int .i64 0, .slice none 0 0, .slice none 0 0] 75))) (blk_new (by simp) 75 #[.bool false, .int .i64 0, .slice none 0 0, .slice none 0 0])).below hbd (blk_drew (w := ((wy.alloc (.cells #[.slice none 0 0, .slice none 0 0, .int .i64 0, .int .i64 0, .slice none 0 0] 68)).alloc (.cells #[.bool false, .int .i64 0, .slice none 0 0, .slice none 0 0] 75))) (blk_new (by simp) 75 #[.bool false, .int .i64 0, .slice none 0 0, .slice none 0 0])).lt; have KCt0 := cellOf KC 0 (x := .bool false) rfl; have KCf0 := KC.frozen 0; have KCt1 := cellOf KC 1 (x := .int .i64 0) rfl; have KCf1 := KC.frozen 1; have KCt2 := cellOf KC 2 (x := .slice none 0 0) rfl; have KCf2 := KC.frozen 2; have KCt3 := cellOf KC 3 (x := .slice none 0 0) rfl; have KCf3 := KC.frozen 3; have KCl := KC.lt; have HKC := Lib.hid KC; clear KC; have HPre := Lib.hid (DPre.mk (W := W) (lim := lim) his2 hqd hP2 hue2 hum2 hbx HPlt.out); have HBx := Lib.hid hbx; have hzd := hbd.size; clear his2 hqd hP2 hue2 hum2 hbx hbd)
                      | (go_at_call 33; (with_reducible refine (CQ.out ((wy.alloc (.cells #[.bool false, .int .i64 0, .slice none 0 0, .slice none 0 0] 75)).alloc (.cells #[.slice none 0 0, .slice none 0 0, .int .i64 0, .int .i64 0, .slice none 0 0] 68)).drew ((below_alloc wy (.cells #[.bool false, .int .i64 0, .slice none 0 0, .slice none 0 0] 75)).trans ((below_alloc (wy.alloc (.cells #[.bool false, .int .i64 0, .slice none 0 0, .slice none 0 0] 75)) (.cells #[.slice none 0 0, .slice none 0 0, .int .i64 0, .int .i64 0, .slice none 0 0] 68)).mono (below_alloc wy (.cells #[.bool false, .int .i64 0, .slice none 0 0, .slice none 0 0] 75)).size)).drew).mono ?_); rintro e wd ⟨c2, code2, d2, A2, A3, A4, k2, k3, k4, P2, rfl, his2, hqd, hP2, hue2, hum2, hbd⟩; have hbx := ((below_alloc wy (.cells #[.bool false, .int .i64 0, .slice none 0 0, .slice none 0 0] 75)).trans ((below_alloc (wy.alloc (.cells #[.bool false, .int .i64 0, .slice none 0 0, .slice none 0 0] 75)) (.cells #[.slice none 0 0, .slice none 0 0, .int .i64 0, .int .i64 0, .slice none 0 0] 68)).mono (below_alloc wy (.cells #[.bool false, .int .i64 0, .slice none 0 0, .slice none 0 0] 75)).size)).drew.trans (hbd.mono ((below_alloc wy (.cells #[.bool false, .int .i64 0, .slice none 0 0, .slice none 0 0] 75)).trans ((below_alloc (wy.alloc (.cells #[.bool false, .int .i64 0, .slice none 0 0, .slice none 0 0] 75)) (.cells #[.slice none 0 0, .slice none 0 0, .int .i64 0, .int .i64 0, .slice none 0 0] 68)).mono (below_alloc wy (.cells #[.bool false, .int .i64 0, .slice none 0 0, .slice none 0 0] 75)).size)).drew.size); have S10 := HSb.out wd hbx; have hzw : wy.heap.size ≤ wd.heap.size := hbx.size; have KC : Blk wd wy.heap.size 75 #[.bool false, .int .i64 0, .slice none 0 0, .slice none 0 0] := (blk_drew ((Blk.new wy 75 #[.bool false, .int .i64 0, .slice none 0 0, .slice none 0 0]).alloc (.cells #[.slice none 0 0, .slice none 0 0, .int .i64 0, .int .i64 0, .slice none 0 0] 68))).below hbd (blk_drew ((Blk.new wy 75 #[.bool false, .int .i64 0, .slice none 0 0, .slice none 0 0]).alloc (.cells #[.slice none 0 0, .slice none 0 0, .int .i64 0, .int .i64 0, .slice none 0 0] 68))).lt; have KCt0 := cellOf KC 0 (x := .bool false) rfl; have KCf0 := KC.frozen 0; have KCt1 := cellOf KC 1 (x := .int .i64 0) rfl; have KCf1 := KC.frozen 1; have KCt2 := cellOf KC 2 (x := .slice none 0 0) rfl; have KCf2 := KC.frozen 2; have KCt3 := cellOf KC 3 (x := .slice none 0 0) rfl; have KCf3 := KC.frozen 3; have KCl := KC.lt; have HKC := Lib.hid KC; clear KC; have KD : Blk wd (wy.heap.size + 1) 68 #[.slice none 0 0, .slice none 0 0, .int .i64 0, .int .i64 0, .slice none 0 0] := (blk_drew (w := ((wy.alloc (.cells #[.bool false, .int .i64 0, .slice none 0 0, .slice none 0 0] 75)).alloc (.cells #[.slice none 0 0, .slice none 0 0, .int .i64 0, .int .i64 0, .slice none 0 0] 68))) (blk_new (by simp) 68 #[.slice none 0 0, .slice none 0 0, .int .i64 0, .int .i64 0, .slice none 0 0])).below hbd (blk_drew (w := ((wy.alloc (.cells #[.bool false, .int .i64 0, .slice none 0 0, .slice none 0 0] 75)).alloc (.cells #[.slice none 0 0, .slice none 0 0, .int .i64 0, .int .i64 0, .slice none 0 0] 68))) (blk_new (by simp) 68 #[.slice none 0 0, .slice none 0 0, .int .i64 0, .int .i64 0, .slice none 0 0])).lt; have KDt0 := cellOf KD 0 (x := .slice none 0 0) rfl; have KDf0 := KD.frozen 0; have KDt1 := cellOf KD 1 (x := .slice none 0 0) rfl; have KDf1 := KD.frozen 1; have KDt2 := cellOf KD 2 (x := .int .i64 0) rfl; have KDf2 := KD.frozen 2; have KDt3 := cellOf KD 3 (x := .int .i64 0) rfl; have KDf3 := KD.frozen 3; have KDt4 := cellOf KD 4 (x := .slice none 0 0) rfl; have KDf4 := KD.frozen 4; have KDl := KD.lt; have HKD := Lib.hid KD; clear KD; have HPre := Lib.hid (DPre.mk (W := W) (lim := lim) his2 hqd hP2 hue2 hum2 hbx HPlt.out); have HBx := Lib.hid hbx; have hzd := hbd.size; clear his2 hqd hP2 hue2 hum2 hbx hbd))
                  · go_wp2_with fail
                    go_meet
                    with_reducible exact dcut_1 HPre.out (by simp)
                  · go_wp2_with fail
                    go_meet
                    with_reducible exact dcut_2 HPre.out (by simp)
                  · go_wp2_with fail
                    go_meet
                    with_reducible exact dcut_3 HPre.out (by simp) HKD.out rfl
                  · go_wp2_with fail
                    go_meet
                    with_reducible exact dcut_4 HPre.out (by simp) HKD.out rfl HKC.out rfl
                  · go_wp2_with fail
                    go_meet
                    with_reducible exact dcut_5 HPre.out (by simp) HKC.out rfl
                  · go_wp2_with fail
                    go_meet
                    with_reducible exact dcut_6 HPre.out (by simp) HKD.out rfl HKC.out rfl
                case rest =>
                  obtain ⟨c2, code2, d2, A2, k2, u3, u4, P2, b24, b25, rfl, rfl, rfl, his2, hqd, hP2, hr3, hr4, hK24, hK25, hbd⟩ := hcut
                  obtain ⟨wd, rfl⟩ : ∃ wd, wd = wc := ⟨wc, rfl⟩
                  obtain ⟨rfl, rfl, rfl⟩ := his2.one HHis.out
                  have HQd := Lib.hid hqd
                  have HP2 := Lib.hid hP2
                  have HR3 := Lib.hid hr3
                  have HR4 := Lib.hid hr4
                  have HK24 := Lib.hid hK24
                  have HK25 := Lib.hid hK25
                  have HBd := Lib.hid hbd
                  have hyd := hbd.size
                  have HBwd : Hid (Below w.heap.size w wd) := Lib.hid (HBwc.out.trans (hbd.mono HBwc.out.size))
                  have HTd : Hid (Blk wd bT 68 #[.slice Ap np cp, .slice Al nl cl, .int .i64 W, .int .i64 lim, .slice pA pn pcc]) := Lib.hid (HTc.out.below hbd HTc.out.lt)
                  have hby : Below wb.heap.size wb wd := HBc.out.trans (hbd.mono HBc.out.size)
                  have HBy := Lib.hid hby
                  have HKd := Lib.hid (HKc.out.below hbd HKc.out.lt)
                  have HPd : Hid (PSt w D d2 F' wd) := Lib.hid (HPb.out.below hby)
                  have hue2 := ownsRow_below HUe.out hby
                  have hum2 := ownsRow_below HUm.out hby
                  have HUe2 : Hid (OInts wa.heap.size wd (.slice Ae c2.errors.length ce) c2.errors) := Lib.hid hue2
                  have HUm2 : Hid (OInts wa.heap.size wd (.slice Am c2.moves.length cm) c2.moves) := Lib.hid hum2
                  have huo2 : OInts wo.heap.size wd (.slice Ao n co) l := by
                    have h9 : wb.ownsRow wo.heap.size 3 1 (.slice Ao n co) l.length (l.map (Value.int .i64)) := ownsRow_keep HUo.out HkF.out fun j hj hf => by
                      have h1 := (HUo.out.lt j hj).1
                      have h2 := (HPs.out.lt hf).2
                      omega
                    exact ownsRow_below h9 hby
                  have HUo2 := Lib.hid huo2
                  have cud := (HBwd.out.cell (p := ⟨g, o + i, none⟩) hg).trans ((HBwc.out.cell (p := ⟨g, o + i, none⟩) hg).symm.trans cuc)
                  have CS := Lib.hid (sameCopy_yes c2.good c2.shift (.slice Ae c2.errors.length ce) (.slice Am c2.moves.length cm) u3 u4 c2.errors c2.moves wd (Rd.own hue2 (own_le hue2)) (Rd.own hum2 (own_le hum2)) hr3 hr4)
                  have t0 := cellOf HKd.out 0 (x := .bool c2.good) rfl
                  have t1 := cellOf HKd.out 1 (x := .int .i64 c2.shift) rfl
                  have t2 := cellOf HKd.out 2 (x := .slice Ae c2.errors.length ce) rfl
                  have t3 := cellOf HKd.out 3 (x := .slice Am c2.moves.length cm) rfl
                  have y0 := cellOf hK25 0 (x := .bool c2.good) rfl
                  have y1 := cellOf hK25 1 (x := .int .i64 c2.shift) rfl
                  have y2 := cellOf hK25 2 (x := u3) rfl
                  have y3 := cellOf hK25 3 (x := u4) rfl
                  clear hqd hP2 hr3 hr4 hK24 hK25 hbd his2 hby hue2 hum2 huo2 x0 x1 x2 x3 x4 cuc HSb CQ
                  go_upto_region 26 with fail
                  go_cut [156] (fun s wx => s = .bool false ∧ Below wd.heap.size wd wx)
                  case first =>
                    go_wp2_with fail
                    refine CS.out.mono ?_
                    rintro _ we ⟨rfl, hbe⟩
                    have CI := Lib.hid (sameInts_one (.slice Ao n co) (.slice Au n cu9) l we (by
                      have h9 := ownsRow_below HUo2.out hbe
                      exact Rd.own h9 (own_le h9)) (by
                      have h9 := HBwd.out.trans (hbe.mono HBwd.out.size)
                      exact (RInts.below HU.out h9).more h9.size))
                    have cue := (hbe.cell (p := ⟨g, o + i, none⟩) (Nat.lt_of_lt_of_le hg HBwd.out.size)).trans cud
                    have HBe := Lib.hid hbe
                    clear hbe CS t0 t1 t2 t3 y0 y1 y2 y3 cud
                    go_wp2_with fail
                    refine CI.out.mono ?_
                    rintro _ wf ⟨rfl, hbf⟩
                    have HBf := Lib.hid (HBe.out.trans (hbf.mono HBe.out.size))
                    clear hbf CI cue
                    go_wp2_with fail
                    go_meet
                    exact ⟨rfl, HBf.out⟩
                  case rest =>
                  obtain ⟨h156, hbe⟩ := hcut
                  obtain ⟨we, rfl⟩ : ∃ we, we = wc := ⟨wc, rfl⟩
                  subst h156
                  have HBe := Lib.hid hbe
                  have HBwe : Hid (Below w.heap.size w we) := Lib.hid (HBwd.out.trans (hbe.mono HBwd.out.size))
                  have hTe := HTd.out.below hbe HTd.out.lt
                  have h24e := HK24.out.below hbe HK24.out.lt
                  have h25e := HK25.out.below hbe HK25.out.lt
                  have hAe := HKd.out.below hbe HKd.out.lt
                  have HTe := Lib.hid hTe
                  have H24e := Lib.hid h24e
                  have HAe := Lib.hid hAe
                  have HPe : Hid (PSt w D d2 F' we) := Lib.hid (HPd.out.below hbe)
                  have HQe := Lib.hid (HQd.out.below hbe)
                  have HUe3 : Hid (OInts wa.heap.size we (.slice Ae c2.errors.length ce) c2.errors) := Lib.hid (ownsRow_below HUe2.out hbe)
                  have HUm3 : Hid (OInts wa.heap.size we (.slice Am c2.moves.length cm) c2.moves) := Lib.hid (ownsRow_below HUm2.out hbe)
                  have hpn : pn = d.copies.length := HPn.out
                  have hgr := HHis.out.grows
                  obtain ⟨n2, hn2⟩ : ∃ n, d2.copies.length = n := ⟨_, rfl⟩
                  obtain ⟨bad, hbad1, hbad2, hnw2⟩ : ∃ bad : Bool, (bad = true → pn < n2 ∧ c2.good = false) ∧ (bad = false → pn < n2 → c2.good = true) ∧ wasteD d2.copies = nw + (if bad then 1 else 0) := by
                    rcases hgr with rfl | rfl
                    · exact ⟨false, fun h => (by cases h), fun _ h => by omega, by rw [HNW.out]; rfl⟩
                    · refine ⟨!c2.good, fun h => ⟨?_, by simpa using h⟩, fun h _ => by simpa using h, ?_⟩
                      · rw [← hn2, hpn]
                        show d.copies.length < (d.copies ++ [c2]).length
                        simp
                      · show wasteD (d.copies ++ [c2]) = _
                        rw [wasteD_snoc, HNW.out]
                        cases c2.good <;> rfl
                  have hn5 : n2 ≤ i + 1 := by
                    have h9 := HCL.out
                    rcases hgr with rfl | rfl
                    · omega
                    · rw [← hn2]
                      show (d.copies ++ [c2]).length ≤ _
                      simp
                      omega
                  obtain ⟨nw2, hn9⟩ : ∃ k : Nat, nw + (if bad then 1 else 0) = k := ⟨_, rfl⟩
                  rw [hn9] at hnw2
                  have hnw6 : nw2 ≤ 11 := by rw [← hn9]; split <;> omega
                  have hpn5 : pn ≤ 10 := by have := HCL.out; omega
                  have HNW2 := Lib.hid hnw2
                  have HN9 := Lib.hid hn9
                  have HN2 := Lib.hid hn2
                  rw [hn2] at h24e HQe
                  have q4 := cellOf h24e 4 (x := .slice A2 n2 k2) rfl
                  have p4 := cellOf hTe 4 (x := .slice pA pn pcc) rfl
                  have g0 := cellOf h25e 0 (x := .bool c2.good) rfl
                  clear hbe hTe h24e h25e hAe hpn hgr hn2 hnw2 hn9 CS t0 t1 t2 t3 y0 y1 y2 y3 cud
                  go_upto_region 28 with fail
                  go_cut [168] (fun s wx => s = .bool bad ∧ Below we.heap.size we wx)
                  case first =>
                    by_cases hlt9 : pn < n2
                    · have hi9 : (pn : Int) < (n2 : Int) := by omega
                      have hg9 : c2.good = !bad := by
                        cases bad
                        · exact hbad2 rfl hlt9
                        · exact (hbad1 rfl).2
                      rw [hg9] at g0
                      clear hbad1 hbad2 hg9
                      go_wp2_with fail
                      go_meet
                      exact ⟨by simp, Below.refl _ _⟩
                    · have hi9 : ¬ (pn : Int) < (n2 : Int) := by omega
                      have hb9 : bad = false := by
                        cases bad
                        · rfl
                        · exact absurd (hbad1 rfl).1 hlt9
                      subst hb9
                      clear hbad1 hbad2
                      go_wp2_with fail
                      go_meet
                      exact ⟨rfl, Below.refl _ _⟩
                  case rest =>
                  obtain ⟨h168, hb9⟩ := hcut
                  obtain ⟨wf, rfl⟩ : ∃ wf, wf = wc := ⟨wc, rfl⟩
                  have H168 := Lib.hid h168
                  have HBf := Lib.hid hb9
                  clear h168 hb9 q4 p4 g0
                  go_upto_region 30 with fail
                  go_cut [19] (fun s wx => s = .int .i64 nw2 ∧ Below wf.heap.size wf wx)
                  case first =>
                    have h9 := HN9.out
                    have h8 := H168.out
                    subst h8
                    cases hb8 : bad
                    · rw [hb8] at h9
                      have h10 : nw2 = nw := by simpa using h9.symm
                      subst h10
                      clear h9 hbad1 hbad2 HN9 HNW2 HNW
                      go_wp2_with fail
                      go_meet
                      exact ⟨rfl, Below.refl _ _⟩
                    · rw [hb8] at h9
                      have h10 : nw2 = nw + 1 := by simpa using h9.symm
                      subst h10
                      clear h9 hbad1 hbad2
                      go_wp2_with fail
                      go_meet
                      exact ⟨by go_num, Below.refl _ _⟩
                  case rest =>
                  obtain ⟨h19, hb9⟩ := hcut
                  obtain ⟨wg, rfl⟩ : ∃ wg, wg = wc := ⟨wc, rfl⟩
                  subst h19
                  have hbg : Below we.heap.size we wg := HBf.out.trans (hb9.mono HBf.out.size)
                  have HBwg : Hid (Below w.heap.size w wg) := Lib.hid (HBwe.out.trans (hbg.mono HBwe.out.size))
                  have hTg := HTe.out.below hbg HTe.out.lt
                  have h24g := H24e.out.below hbg H24e.out.lt
                  have hAg := HAe.out.below hbg HAe.out.lt
                  rw [HN2.out] at h24g
                  have HPg : Hid (PSt w D d2 F' wg) := Lib.hid (HPe.out.below hbg)
                  have HQg := Lib.hid (HQe.out.below hbg)
                  have HUe4 : Hid (OInts wa.heap.size wg (.slice Ae c2.errors.length ce) c2.errors) := Lib.hid (ownsRow_below HUe3.out hbg)
                  have HUm4 : Hid (OInts wa.heap.size wg (.slice Am c2.moves.length cm) c2.moves) := Lib.hid (ownsRow_below HUm3.out hbg)
                  obtain ⟨wh, eh, hTh, hbh, hkh⟩ := desk_set2 rfl hTg HBwg.out HZbT.out (.slice Ap np cp) (.slice Al nl cl) (.int .i64 W) (.int .i64 lim) (.slice A2 n2 k2)
                  have EH := Lib.hid eh
                  have HAh := Lib.hid (hkh.blk hAg (Blk.ne hAg hTg (by decide)))
                  have HTh := Lib.hid hTh
                  have HKh := Lib.hid hkh
                  have HBwh := Lib.hid hbh
                  have x0 := cellOf h24g 0 (x := .slice Ap np cp) rfl
                  have x1 := cellOf h24g 1 (x := .slice Al nl cl) rfl
                  have x2 := cellOf h24g 2 (x := .int .i64 W) rfl
                  have x3 := cellOf h24g 3 (x := .int .i64 lim) rfl
                  have x4 := cellOf h24g 4 (x := .slice A2 n2 k2) rfl
                  have y0 := cellOf hTg 0 (x := .slice Ap np cp) rfl
                  have y1 := cellOf hTg 1 (x := .slice Al nl cl) rfl
                  have y2 := cellOf hTg 2 (x := .int .i64 W) rfl
                  have y3 := cellOf hTg 3 (x := .int .i64 lim) rfl
                  have y4 := cellOf hTg 4 (x := .slice pA pn pcc) rfl
                  have z0 := hTg.frozen 0
                  have z1 := hTg.frozen 1
                  have z2 := hTg.frozen 2
                  have z3 := hTg.frozen 3
                  have z4 := hTg.frozen 4
                  obtain ⟨hle, hlm8⟩ := HHis.out.lens
                  obtain ⟨nm, hnm⟩ : ∃ n, c2.moves.length = n := ⟨_, rfl⟩
                  rw [hnm] at hle hlm8
                  have HNM := Lib.hid hnm
                  have HLE := Lib.hid hle
                  have hnm9 : nm ≤ 11 := by
                    have h1 := HPs.out.ok.len
                    have h2 := HPs.out.ok.many
                    omega
                  obtain ⟨S, hS⟩ : ∃ S : Nat → Prop, ∀ k, S k ↔ ((Value.slice Ae c2.errors.length ce).ownBlock = some k ∨ (Value.slice Am c2.moves.length cm).ownBlock = some k) := ⟨_, fun _ => Iff.rfl⟩
                  have hSr : ∀ k, S k → wa.heap.size ≤ k ∧ k < wb.heap.size := fun k hk => by
                    rcases (hS k).1 hk with h | h
                    · exact HUe.out.lt k h
                    · exact HUm.out.lt k h
                  have hTo : bT < wo.heap.size := HT.out.lt
                  have HBao := Lib.hid HBa.out.size
                  have hTS : ¬ S bT := fun h => by have h1 := (hSr _ h).1; have h2 := HBao.out; omega
                  have HSA : Hid (∀ k, S k → k ≠ bA) := Lib.hid fun k hk e => by have h1 := (hSr k hk).2; have h2 := HZA.out; omega
                  have HRows : Hid (RowsAt Ae Am nm S wh wh) := Lib.hid (RowsAt.start HUe4.out HUm4.out hle hnm (hkh.mono fun k _ hk => by rw [hk]; exact hTS) fun k hk => (hS k).2 hk)
                  have HFin : Hid (∀ X, KeptBut S wh X → LSt w D bT (.slice Ap np cp) (.slice Al nl cl) W lim (i + 1) (.int .i64 nw2) X) := Lib.hid fun X hX => by
                    have hFT' : ∀ k, F' k → k ≠ bT := fun k hk e => by
                      rcases HF'.out k hk with h | h
                      · exact HFT.out (e ▸ h)
                      · have h2 := HBao.out; omega
                    have hPo : ∀ k, P k → k < wo.heap.size := HQs.out.1
                    have hby := HBy.out.size
                    have hyb := HBc.out.size
                    have hPT' : ∀ k, P2 k → k ≠ bT := fun k hk e => by
                      rcases HP2.out k hk with h | h
                      · exact HPT.out k h e
                      · have h2 := HBao.out; have h3 := HkF.out.size; omega
                    refine ⟨d2, F', P2, .slice A2 n2 k2, (HPg.out.keep HKh.out fun k hk => hFT' k hk).keep hX fun k hk hs => HNo.out k ((hS k).1 hs) hk, (HQg.out.keep HKh.out fun k hk => hPT' k hk).keep hX fun k hk hs => ?_, fun k hk hf => ?_, hPT', fun h => hFT' _ h rfl, hX.blk HTh.out hTS, ?_, ?_, ?_, by rw [HNW2.out], HBwh.out.trans (hX.below (fun k hk => ?_) HBwh.out.size)⟩
                    · have h1 := hSr k hs
                      have h2 := HBao.out
                      rcases HP2.out k hk with h | h
                      · have := hPo k h; omega
                      · omega
                    · have h2 := HBao.out
                      have h3 := HPb.out.lt hf
                      rcases HP2.out k hk with h | h
                      · rcases HF'.out k hf with h4 | h4
                        · exact HDis.out k h h4
                        · have := hPo k h; omega
                      · omega
                    · rcases HHis.out.grows with h | h <;> rw [h]
                      · exact HdW.out
                      · exact HdW.out
                    · rcases HHis.out.grows with h | h <;> rw [h]
                      · exact HdL.out
                      · exact HdL.out
                    · rw [HN2.out]; exact hn5
                    · have h1 := hSr k hk
                      have h2 := HBao.out
                      have h3 := HB.out.size
                      omega
                  clear hb9 hbg hTg h24g hAg eh hTh hbh hkh hle hnm hS hSr hTo hTS hlm8
                  have HSe := HSA
                  clear HSA
                  go_upto_region 31 with fail
                  rw [EH.out]
                  clear EH x0 x1 x2 x3 x4 y0 y1 y2 y3 y4 z0 z1 z2 z3 z4
                  go_wp2
                  obtain ⟨wp, hwp⟩ : ∃ X, X = wh := ⟨_, rfl⟩
                  go_loopw [27] (fun kq wr => ∃ k : Nat, k ≤ nm ∧ kq = .int .i64 k ∧ RowsAt Ae Am nm S wh wr) (fun kq _ => nm - (intOf kq).toNat)
                  case atStart => exact ⟨0, Nat.zero_le _, rfl, HRows.out⟩
                  case round =>
                    clear HRows hwp
                    obtain ⟨k, hk, rfl, hrw⟩ := hrel
                    have HRw := Lib.hid hrw
                    have hA := hrw.1.blk HAh.out fun h => HSe.out _ h rfl
                    have t2 := cellOf hA 2 (x := .slice Ae nm ce) (by rw [← HLE.out]; rfl)
                    have t3 := cellOf hA 3 (x := .slice Am nm cm) (by rw [← HNM.out]; rfl)
                    by_cases hkn : k < nm
                    · obtain ⟨ge, gm, cse, csm, rfl, rfl, se, sm, q1, q2, n1, n2'⟩ := hrw.2 (by omega)
                      obtain ⟨v1, r1⟩ := blk_some q1 (j := k) (by omega)
                      obtain ⟨v2, r2⟩ := blk_some q2 (j := k) (by omega)
                      have f1 := q1.frozen k
                      have f2 := q2.frozen k
                      have a1 : bA ≠ ge := fun h => HSe.out _ se h.symm
                      have a2 : bA ≠ gm := fun h => HSe.out _ sm h.symm
                      have ik : (k : Int) < (nm : Int) := by omega
                      have ik0 : (0 : Int) ≤ (k : Int) := by omega
                      have HQQ := Lib.hid se
                      have HQM := Lib.hid sm
                      clear hrw hA q1 q2 se sm
                      by_cases hge : ge = gm
                      · subst hge
                        go_wp2_with fail
                        go_region
                        all_goals
                          go_wp2
                          go_roundw
                          case rel => exact ⟨k + 1, by omega, by go_num, by repeat (first | exact HRw.out | refine RowsAt.set ?_ HQQ.out | refine RowsAt.drew ?_)⟩
                          case measure => simp [intOf]; omega
                      · have hge' : ¬ gm = ge := fun h => hge h.symm
                        go_wp2_with fail
                        go_region
                        all_goals
                          go_wp2
                          go_roundw
                          case rel => exact ⟨k + 1, by omega, by go_num, by repeat (first | exact HRw.out | refine RowsAt.set ?_ HQQ.out | refine RowsAt.set ?_ HQM.out | refine RowsAt.drew ?_)⟩
                          case measure => simp [intOf]; omega
                    · have hkn9 : nm = k := by omega
                      have ik : ¬ (k : Int) < (nm : Int) := by omega
                      have HEnd := Lib.hid (HFin.out _ hrw.1)
                      clear hrw hA hkn9
                      go_wp2
                      go_roundw
                      case rel => exact ⟨i + 1, by omega, by go_num, HEnd.out⟩
                      case measure => simp [intOf]; omega
            · have hge : ¬ (i : Int) < (nr : Int) := by omega
              obtain ⟨d, F, P, pc, hps, hqs, hdis, hPT, hFT, hT, hdW, hdL, hcl, rfl, hb⟩ := hst
              obtain ⟨nd, hnd⟩ : ∃ n, d.copies.length = n := ⟨_, rfl⟩
              obtain ⟨Apc, cpc, rfl⟩ : ∃ A c, pc = .slice A nd c := by
                obtain ⟨es, hd⟩ := hqs.desk
                obtain ⟨A, c, e⟩ := rd_form hd.rows
                exact ⟨A, c, by rw [← hnd]; exact e⟩
              have hnd5 : nd ≤ 10 := by omega
              have HND := Lib.hid hnd
              have HPs := Lib.hid hps
              have HQs := Lib.hid hqs
              have HTo := Lib.hid hT
              have HTo9 := Lib.hid hT.lt
              have HBo := Lib.hid hb
              have HFlt : Hid (∀ k, F k → k < wo.heap.size) := Lib.hid fun k hk => (hps.lt hk).2
              have HPlt : Hid (∀ k, P k → k < wo.heap.size) := Lib.hid hqs.1
              obtain ⟨nw, hnw⟩ : ∃ nw : Nat, wasteD d.copies = nw := ⟨_, rfl⟩
              have HNW := Lib.hid hnw
              rw [hnw]
              have CC := Lib.hid hps.copies
              clear hnw hnd hps hqs hdis hPT hFT hT hdW hdL hcl hb
              go_wp2_with fail
              refine CC.out.mono ?_
              rintro _ wa ⟨u, es, rfl, hocp, hris, hba⟩
              obtain ⟨Au, cu, rfl⟩ : ∃ A c, u = .slice A nd c := by
                obtain ⟨A, c, e⟩ := hocp.form
                exact ⟨A, c, by rw [← HND.out]; exact e⟩
              have HOc := Lib.hid hocp
              have HRis := Lib.hid hris
              have HBa := Lib.hid hba
              have CW := Lib.hid ((HPs.out.below hba).waste)
              clear hocp hris hba CC
              go_wp2_with fail
              rw [HNW.out] at CW
              refine CW.out.mono ?_
              rintro _ wb ⟨rfl, hbb⟩
              have hab : Below wo.heap.size wo wb := HBa.out.trans (hbb.mono HBa.out.size)
              have HBab := Lib.hid hab
              have HOb := Lib.hid (HOc.out.below hbb)
              have hTb := HTo.out.below hab HTo.out.lt
              have HTb := Lib.hid hTb
              have HZo : Hid (wo.heap.size ≤ wa.heap.size) := Lib.hid HBa.out.size
              have p4 := cellOf hTb 4 (x := .slice Apc nd cpc) rfl
              clear hbb hab hTb CW HOc HTo
              go_upto_region 39 with fail
              clear p4
              go_wp2
              go_loopw [30, 31] (fun kq _ wr => ∃ k : Nat, k ≤ nd ∧ kq = .int .i64 k ∧ KeptBut (Spent es k) wb wr) (fun kq _ _ => nd - (intOf kq).toNat)
              case atStart => exact ⟨0, Nat.zero_le _, rfl, spent_zero es wb⟩
              case round =>
                obtain ⟨k, hk, rfl, hkb⟩ := hrel
                obtain ⟨wx, hwx⟩ : ∃ X, X = wr := ⟨_, rfl⟩
                subst hwx
                have HKb := Lib.hid hkb
                have hzx : wb.heap.size ≤ wx.heap.size := hkb.size
                have hzo := HBab.out.size
                have HSg : Hid (∀ j, Spent es k j → wo.heap.size ≤ j ∧ j < wb.heap.size) := Lib.hid fun j hj => spent_ge HOb.out hj
                have HQx : Hid (QSt (.slice Ap np cp) (.slice Al nl cl) (.slice Apc nd cpc) d P wx) := Lib.hid ((HQs.out.below HBab.out).keep hkb fun j hj hs => by have h1 := HPlt.out j hj; have h2 := (HSg.out j hs).1; omega)
                have hTx : Blk wx bT 68 #[.slice Ap np cp, .slice Al nl cl, .int .i64 W, .int .i64 lim, .slice Apc nd cpc] := hkb.blk HTb.out fun hs => by have h2 := (HSg.out _ hs).1; have h3 := HTo9.out; omega
                have p4 := cellOf hTx 4 (x := .slice Apc nd cpc) rfl
                have HTx := Lib.hid hTx
                have HBx : Hid (Below w.heap.size w wx) := Lib.hid (HBo.out.trans ((HBab.out.mono HBo.out.size).trans (hkb.below (fun j hs => by have h2 := (HSg.out _ hs).1; have h3 := HBo.out.size; omega) (by have h3 := HBo.out.size; omega))))
                have HPx : Hid (PSt w D d F wx) := Lib.hid ((HPs.out.below HBab.out).keep hkb fun j hj hs => by have h1 := HFlt.out j hj; have h2 := (HSg.out j hs).1; omega)
                clear hkb hTx
                by_cases hkn : k < nd
                · obtain ⟨c, hc⟩ : ∃ c, d.copies[k]? = some c := ⟨_, List.getElem?_eq_getElem (by rw [HND.out]; exact hkn)⟩
                  obtain ⟨g1, o1, A1, c1, A2, c2, rfl, hg1, a0, a1, a2, a3, hu1, hu2, hes, hne⟩ := all_at HOb.out HRis.out HKb.out hc
                  obtain ⟨ts, hd⟩ := HQx.out.desk
                  obtain ⟨g2, o2, ve, vm, rfl, hg2, b0, b1, b2, b3, hr1, hr2⟩ := hd.at hc
                  have CS := Lib.hid (fun (X : World) (hX : Below wx.heap.size wx X) => sameCopy_yes c.good c.shift (.slice A1 c.errors.length c1) (.slice A2 c.moves.length c2) ve vm c.errors c.moves X (by
                    have h9 := ownsRow_below hu1 hX
                    exact Rd.own h9 (own_le h9)) (by
                    have h9 := ownsRow_below hu2 hX
                    exact Rd.own h9 (own_le h9)) ((hr1.below hX).more hX.size) ((hr2.below hX).more hX.size))
                  have HU1 := Lib.hid hu1
                  have HEs := Lib.hid hes
                  have HNe := Lib.hid hne
                  have ik : (k : Int) < (nd : Int) := by omega
                  have ik0 : (0 : Int) ≤ (k : Int) := by omega
                  have HA2 := Lib.hid a2
                  have HG1 := Lib.hid hg1
                  have hlx : bT < wx.heap.size := HTx.out.lt
                  have HS9 : Hid (∀ X : World, Below wx.heap.size wx X → X.cell? ⟨g1, o1 + k * 4, none⟩ = some (.bool c.good) ∧ X.cell? ⟨g1, o1 + k * 4 + 1, none⟩ = some (.int .i64 c.shift) ∧ X.cell? ⟨g1, o1 + k * 4 + 2, none⟩ = some (.slice A1 c.errors.length c1) ∧ X.cell? ⟨g1, o1 + k * 4 + 3, none⟩ = some (.slice A2 c.moves.length c2) ∧ X.cell? ⟨bT, 4, none⟩ = some (.slice (some ⟨g2, o2, none⟩) nd cpc) ∧ X.cell? ⟨g2, o2 + k * 4, none⟩ = some (.bool c.good) ∧ X.cell? ⟨g2, o2 + k * 4 + 1, none⟩ = some (.int .i64 c.shift) ∧ X.cell? ⟨g2, o2 + k * 4 + 2, none⟩ = some ve ∧ X.cell? ⟨g2, o2 + k * 4 + 3, none⟩ = some vm) := Lib.hid fun X hX =>
                    ⟨(hX.cell (p := ⟨g1, _, none⟩) hg1).trans a0, (hX.cell (p := ⟨g1, _, none⟩) hg1).trans a1, (hX.cell (p := ⟨g1, _, none⟩) hg1).trans a2, (hX.cell (p := ⟨g1, _, none⟩) hg1).trans a3, (hX.cell (p := ⟨bT, _, none⟩) hlx).trans p4, (hX.cell (p := ⟨g2, _, none⟩) hg2).trans b0, (hX.cell (p := ⟨g2, _, none⟩) hg2).trans b1, (hX.cell (p := ⟨g2, _, none⟩) hg2).trans b2, (hX.cell (p := ⟨g2, _, none⟩) hg2).trans b3⟩
                  have HCk := Lib.hid hc
                  clear hu1 hu2 hes hne hr1 hr2 hd hc
                  go_upto_region 42 with fail
                  go_cut [232] (fun s X => s = .bool false ∧ Below wx.heap.size wx X)
                  case first =>
                    go_region_held3 (fun X => X.cell? ⟨g1, o1 + k * 4, none⟩ = some (.bool c.good) ∧ X.cell? ⟨g1, o1 + k * 4 + 1, none⟩ = some (.int .i64 c.shift) ∧ X.cell? ⟨g1, o1 + k * 4 + 2, none⟩ = some (.slice A1 c.errors.length c1) ∧ X.cell? ⟨g1, o1 + k * 4 + 3, none⟩ = some (.slice A2 c.moves.length c2) ∧ X.cell? ⟨bT, 4, none⟩ = some (.slice (some ⟨g2, o2, none⟩) nd cpc) ∧ X.cell? ⟨g2, o2 + k * 4, none⟩ = some (.bool c.good) ∧ X.cell? ⟨g2, o2 + k * 4 + 1, none⟩ = some (.int .i64 c.shift) ∧ X.cell? ⟨g2, o2 + k * 4 + 2, none⟩ = some ve ∧ X.cell? ⟨g2, o2 + k * 4 + 3, none⟩ = some vm)
                      (first | with_reducible exact S10 | go_keep)
                      ((go_at_call 34; (with_reducible refine (CS.out wx.drew (Below.refl wx.heap.size wx).drew).mono ?_); rintro _ w9 ⟨rfl, hb9⟩; have hb10 := (Below.refl wx.heap.size wx).drew.trans (hb9.mono (Below.refl wx.heap.size wx).drew.size); have S10 := HS9.out w9 hb10; have HB10 := Lib.hid hb10; clear hb9 hb10))
                    all_goals
                      go_wp2_with fail
                      go_meet
                      exact ⟨rfl, HB10.out⟩
                  case rest =>
                  obtain ⟨h232, hb9⟩ := hcut
                  obtain ⟨wy, hwy⟩ : ∃ X, X = wc := ⟨_, rfl⟩
                  subst hwy
                  subst h232
                  obtain ⟨ne, hne9⟩ : ∃ n, c.errors.length = n := ⟨_, rfl⟩
                  have hu1y := ownsRow_below HU1.out hb9
                  have a2 := (HS9.out wy hb9).2.2.1
                  have HRow : Hid (RowsAt A1 A1 ne (fun j => (Value.slice A1 c.errors.length c1).ownBlock = some j) wy wy) := Lib.hid (RowsAt.start hu1y hu1y hne9 hne9 (KeptBut.refl _ _) fun k hk => hk.elim id id)
                  have HA2y := Lib.hid a2
                  have hgy : g1 < wy.heap.size := Nat.lt_of_lt_of_le HG1.out hb9.size
                  have HGy := Lib.hid hgy
                  have HB9 := Lib.hid hb9
                  have HNE := Lib.hid hne9
                  have hne10 : ne ≤ 1000000 := by
                    have h1 := HPx.out.ok
                    have h2 := h1.each c (List.mem_of_getElem? HCk.out)
                    have h3 := h1.len
                    have h4 := h1.many
                    omega
                  clear hb9 hu1y a0 a1 a2 a3 b0 b1 b2 b3 p4 hne9 hgy CS HS9
                  go_upto_region 44 with fail
                  go_wp2
                  go_loopw [31] (fun mq wr => ∃ m : Nat, m ≤ ne ∧ mq = .int .i64 m ∧ RowsAt A1 A1 ne (fun j => (Value.slice A1 c.errors.length c1).ownBlock = some j) wy wr) (fun mq _ => ne - (intOf mq).toNat)
                  case atStart => exact ⟨0, Nat.zero_le _, rfl, HRow.out⟩
                  case round =>
                    clear HRow
                    obtain ⟨m, hm, rfl, hrw⟩ := hrel
                    have HRw := Lib.hid hrw
                    have a2 := (kept_cell (p := ⟨g1, o1 + k * 4 + 2, none⟩) hrw.1 HGy.out fun h => HNe.out _ h rfl).trans HA2y.out
                    rw [HNE.out] at a2
                    by_cases hmn : m < ne
                    · obtain ⟨ge, gm, cse, csm, hA1, -, se, -, q1, -, n1, -⟩ := hrw.2 (by omega)
                      subst hA1
                      obtain ⟨v1, r1⟩ := blk_some q1 (j := m) (by omega)
                      have f1 := q1.frozen m
                      have im : (m : Int) < (ne : Int) := by omega
                      have im0 : (0 : Int) ≤ (m : Int) := by omega
                      have HSe := Lib.hid se
                      clear hrw q1 se
                      go_wp2
                      go_roundw
                      case rel => exact ⟨m + 1, by omega, by go_num, HRw.out.set HSe.out⟩
                      case measure => simp [intOf]; omega
                    · have im : ¬ (m : Int) < (ne : Int) := by omega
                      have HNx := Lib.hid (spent_next HKb.out HEs.out ((KeptBut.of_below HB9.out).trans (T := fun j => (Value.slice A1 c.errors.length c1).ownBlock = some j) hrw.1 fun _ _ h => h))
                      clear hrw
                      go_wp2
                      go_roundw
                      case rel => exact ⟨k + 1, by omega, by go_num, HNx.out⟩
                      case measure => simp [intOf]; omega
                · have hkn9 : ¬ (k : Int) < (nd : Int) := by omega
                  have C2 := Lib.hid HPx.out.copies
                  clear p4
                  go_wp2_with fail
                  refine C2.out.mono ?_
                  rintro _ wz ⟨u2, es2, rfl, hoc2, hri2, hbz⟩
                  obtain ⟨Au2, cu2, rfl⟩ : ∃ A c, u2 = .slice A nd c := by
                    obtain ⟨A, c, e⟩ := hoc2.form
                    exact ⟨A, c, by rw [← HND.out]; exact e⟩
                  have HBz := Lib.hid (HBx.out.trans (hbz.mono HBx.out.size))
                  have hTz := HTx.out.below hbz HTx.out.lt
                  have p4 := cellOf hTz 4 (x := .slice Apc nd cpc) rfl
                  have HQz := Lib.hid (HQx.out.below hbz)
                  have HTz := Lib.hid hTz
                  have HAw := Lib.hid (fun (X : World) (hX : Below wz.heap.size wz X) => (CA.out X).mono (fun e w' (h : e = Ending.returned (Value.bool true) ∧ Below X.heap.size X w') => (⟨h.1, hX.trans (h.2.mono hX.size)⟩ : e = Ending.returned (Value.bool true) ∧ Below wz.heap.size wz w')))
                  clear hbz hTz C2
                  by_cases h0 : nd = 0
                  · subst h0
                    go_upto_region 49 with fail
                    refine wp_region_still_tail 21 (by kernel_rfl) (by kernel_rfl) ?_
                    simp only [List.take_succ_cons, List.take_zero, List.drop_succ_cons, List.drop_zero]
                    still_step
                    still_step
                    still_step
                    still_step
                    still_step
                    still_step
                    refine still_want (by kernel_rfl) (fun K hK => ?_)
                    go_simp
                    refine hK _ ?_
                    clear hK K
                    refine still_want (by kernel_rfl) (fun K hK => ?_)
                    go_simp
                    refine hK _ ?_
                    clear hK K
                    refine still_want (by kernel_rfl) (fun K hK => ?_)
                    go_simp
                    refine hK _ ?_
                    clear hK K
                    refine still_run [_, _, _, _, _, _, _, _] (.tmp 263) (by kernel_rfl) rfl (by simp only [Act.put, Act.eval, List.setIfInBounds_toArray, List.set_cons_zero, List.set_cons_succ]; rfl) ?h1 (by simp only [skipsTo, List.foldl, Act.put, List.setIfInBounds_toArray, List.set_cons_zero, List.set_cons_succ]; rfl) ?h2
                    case h1 => kernel_rfl
                    case h2 =>
                    refine still_want (by kernel_rfl) (fun K hK => ?_)
                    go_simp
                    refine hK _ ?_
                    clear hK K
                    still_step
                    still_step
                    refine wpStill_nil ?_
                    change wpList _ _ _ _ _ wz.drew
                    go_wp2_with fail
                    refine (HAw.out _ (Below.refl wz.heap.size wz).drew).mono ?_
                    rintro _ w9 ⟨rfl, hb9⟩
                    have HB9 := Lib.hid (HBz.out.trans (hb9.mono HBz.out.size))
                    clear hb9
                    go_wp2
                    go_ret
                    exact ⟨rfl, HB9.out⟩
                  · have i0 : ((nd : Int) == 0) = false := by simpa using h0
                    obtain ⟨c, hc⟩ : ∃ c, d.copies[0]? = some c := ⟨_, List.getElem?_eq_getElem (by rw [HND.out]; omega)⟩
                    obtain ⟨g1, o1, A1, c1, A2, c2, rfl, hg1, a0, a1, a2, a3, hu1, hu2, hes, hne⟩ := all_at hoc2 hri2 (spent_zero es2 wz) hc
                    obtain ⟨ts, hd⟩ := HQz.out.desk
                    obtain ⟨g2, o2, ve, vm, rfl, hg2, b0, b1, b2, b3, hr1, hr2⟩ := hd.at hc
                    simp only [Nat.zero_mul, Nat.add_zero] at a0 a1 a2 a3 b0 b1 b2 b3
                    have CS := Lib.hid (fun (X : World) (hX : Below wz.heap.size wz X) => sameCopy_yes c.good c.shift (.slice A1 c.errors.length c1) (.slice A2 c.moves.length c2) ve vm c.errors c.moves X (by
                      have h9 := ownsRow_below hu1 hX
                      exact Rd.own h9 (own_le h9)) (by
                      have h9 := ownsRow_below hu2 hX
                      exact Rd.own h9 (own_le h9)) ((hr1.below hX).more hX.size) ((hr2.below hX).more hX.size))
                    have hlx : bT < wz.heap.size := HTz.out.lt
                    have in0 : (0 : Int) < (nd : Int) := by omega
                    have nn0 : 0 < nd := by omega
                    have HS9 : Hid (∀ X : World, Below wz.heap.size wz X → X.cell? ⟨g1, o1, none⟩ = some (.bool c.good) ∧ X.cell? ⟨g1, o1 + 1, none⟩ = some (.int .i64 c.shift) ∧ X.cell? ⟨g1, o1 + 2, none⟩ = some (.slice A1 c.errors.length c1) ∧ X.cell? ⟨g1, o1 + 3, none⟩ = some (.slice A2 c.moves.length c2) ∧ X.cell? ⟨bT, 4, none⟩ = some (.slice (some ⟨g2, o2, none⟩) nd cpc) ∧ X.cell? ⟨g2, o2, none⟩ = some (.bool c.good) ∧ X.cell? ⟨g2, o2 + 1, none⟩ = some (.int .i64 c.shift) ∧ X.cell? ⟨g2, o2 + 2, none⟩ = some ve ∧ X.cell? ⟨g2, o2 + 3, none⟩ = some vm) := Lib.hid fun X hX =>
                      ⟨(hX.cell (p := ⟨g1, _, none⟩) hg1).trans a0, (hX.cell (p := ⟨g1, _, none⟩) hg1).trans a1, (hX.cell (p := ⟨g1, _, none⟩) hg1).trans a2, (hX.cell (p := ⟨g1, _, none⟩) hg1).trans a3, (hX.cell (p := ⟨bT, _, none⟩) hlx).trans p4, (hX.cell (p := ⟨g2, _, none⟩) hg2).trans b0, (hX.cell (p := ⟨g2, _, none⟩) hg2).trans b1, (hX.cell (p := ⟨g2, _, none⟩) hg2).trans b2, (hX.cell (p := ⟨g2, _, none⟩) hg2).trans b3⟩
                    clear hu1 hu2 hes hne hr1 hr2 hd hc hoc2 hri2
                    go_upto_region 49 with fail
                    go_region_held3 (fun X => X.cell? ⟨g1, o1, none⟩ = some (.bool c.good) ∧ X.cell? ⟨g1, o1 + 1, none⟩ = some (.int .i64 c.shift) ∧ X.cell? ⟨g1, o1 + 2, none⟩ = some (.slice A1 c.errors.length c1) ∧ X.cell? ⟨g1, o1 + 3, none⟩ = some (.slice A2 c.moves.length c2) ∧ X.cell? ⟨bT, 4, none⟩ = some (.slice (some ⟨g2, o2, none⟩) nd cpc) ∧ X.cell? ⟨g2, o2, none⟩ = some (.bool c.good) ∧ X.cell? ⟨g2, o2 + 1, none⟩ = some (.int .i64 c.shift) ∧ X.cell? ⟨g2, o2 + 2, none⟩ = some ve ∧ X.cell? ⟨g2, o2 + 3, none⟩ = some vm)
                      (first | with_reducible exact S10 | with_reducible exact S11 | go_keep)
                      (first
                        | (go_at_call 34; (with_reducible refine (CS.out wz.drew (Below.refl wz.heap.size wz).drew).mono ?_); rintro _ w9 ⟨rfl, hb9⟩; have hb10 := (Below.refl wz.heap.size wz).drew.trans (hb9.mono (Below.refl wz.heap.size wz).drew.size); have S10 := HS9.out w9 hb10; have HB10 := Lib.hid hb10; clear hb9 hb10)
                        | (go_at_call 11; (with_reducible refine (HAw.out w9 HB10.out).mono ?_); rintro _ w11 ⟨rfl, hb11⟩; have S11 := HS9.out w11 hb11; have HB9 := Lib.hid (HBz.out.trans (hb11.mono HBz.out.size)); clear hb11))
                    all_goals
                      go_wp2
                      go_ret
                      exact ⟨rfl, HB9.out⟩
end Go.Proofs.Ytffodgpafiifcaa
