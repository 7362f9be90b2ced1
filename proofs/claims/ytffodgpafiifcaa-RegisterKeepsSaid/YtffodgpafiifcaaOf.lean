/-
  Read: what it leaves, and its parts.
-/
import Derived.LaidEqlPtr
import Derived.Test.YtffodgpafiifcaaOg
import Derived.Test.YtffodgpafiifcaaCh
namespace Go.Proofs.Ytffodgpafiifcaa
open Go.RowKit

def BadCut (d : DeskD) (l : List Int) (ct : Int) (w6 : World) (s : Value) (X : World) : Prop := ∃ b, s = .bool b ∧ (b = true ↔ BadFit d l ct) ∧ Below w6.heap.size w6 X
theorem getD_mem' {l : List Int} {i : Nat} (h : i < l.length) : l.getD i 0 ∈ l := by
  rw [List.getD_eq_getElem?_getD, List.getElem?_eq_getElem h]
  exact List.getElem_mem h
theorem errs_bound {marks found : List Int} {n : Nat} (hm : ∀ x ∈ marks, 0 ≤ x ∧ x ≤ 100000) (hf : ∀ x ∈ found, x = lostD ∨ (-100000 ≤ x ∧ x ≤ 200000)) (hml : marks.length = n + 1) (hfl : found.length = n + 1) : ∀ x ∈ errsD marks found n, x ≤ 1000000000000 ∧ -1000000000000 ≤ x := fun x hx => by
  obtain ⟨i, hi, rfl⟩ := List.mem_map.1 hx
  have hi' := List.mem_range.1 hi
  have f1 := hf _ (getD_mem' (l := found) (i := i + 1) (by omega))
  have f0 := hf _ (getD_mem' (l := found) (i := 0) (by omega))
  have m1 := hm _ (getD_mem' (l := marks) (i := i + 1) (by omega))
  have m0 := hm _ (getD_mem' (l := marks) (i := 0) (by omega))
  unfold errD
  unfold lostD at *
  split <;> omega
def ErrMid (d : DeskD) (l : List Int) (s : Int) (n : Nat) (w3 : World) (b8 : Nat) (X : World) : Prop := ∃ A c, Blk X b8 72 #[.bool false, .int .i64 s, .slice A n c, .slice none 0 0] ∧ OInts w3.heap.size X (.slice A n c) (errsD d.marks l n) ∧ Below w3.heap.size w3 X
theorem copy_put0 {w : World} {b : Nat} {x0 x1 x2 x3 : Value} (h : Blk w b 72 #[x0, x1, x2, x3]) (u : Value) : Blk (w.setCell ⟨b, 0, none⟩ u) b 72 #[u, x1, x2, x3] := h.put 0 u
theorem copy_put1 {w : World} {b : Nat} {x0 x1 x2 x3 : Value} (h : Blk w b 72 #[x0, x1, x2, x3]) (u : Value) : Blk (w.setCell ⟨b, 1, none⟩ u) b 72 #[x0, u, x2, x3] := h.put 1 u
theorem kb_set {w X : World} {b j : Nat} {u : Value} (h : KeptBut (fun k => k = b) w X) : KeptBut (fun k => k = b) w (X.setCell ⟨b, j, none⟩ u) := h.trans (KeptBut.setCell (S := fun k => k = b) (p := ⟨b, j, none⟩) rfl u) fun _ _ h => h
theorem blk_drew {w : World} {b : Nat} {t : TypeId} {cs : Array Value} (h : Blk w b t cs) : Blk w.drew b t cs := h
theorem kb_drew {S : Nat → Prop} {w X : World} (h : KeptBut S w X) : KeptBut S w X.drew := ⟨h.os, h.tape, h.output, h.size, h.block⟩
/-- An answer of Read. -/
def ReadRet (base D : Nat) (d : DeskD) (mv cv pv : Value) (Cs : List Nat) (vs : List Value) (es : List (Value × Value)) (seen : List Int) (w : World) (e : Ending) (w' : World) : Prop :=
  ∃ (c : CopyD) (code : Int) (d' : DeskD) (pv' : Value) (vs' : List Value) (es' : List (Value × Value)) (ue um : Value), e = .returned (.tuple #[.agg #[.bool c.good, .int .i64 c.shift, ue, um], .int .i64 code]) ∧ ReadIs d seen c code d' ∧ DeskOk d' ∧
    DeskAt base w' D d' mv cv pv' Cs vs' es' ∧ KeptBut (Foot D mv cv pv Cs vs es) w w' ∧ (∀ k, Foot D mv cv pv' Cs vs' es' k → Foot D mv cv pv Cs vs es k ∨ w.heap.size ≤ k) ∧
    OInts w.heap.size w' ue c.errors ∧ OInts w.heap.size w' um c.moves ∧ ∀ k, (ue.ownBlock = some k ∨ um.ownBlock = some k) → ¬ Foot D mv cv pv' Cs vs' es' k
theorem ReadRet.still {base D : Nat} {d : DeskD} {mv cv pv : Value} {Cs : List Nat} {vs : List Value} {es : List (Value × Value)} {seen : List Int} {w w' : World} {code : Int} (h : DeskAt base w D d mv cv pv Cs vs es) (hok : DeskOk d) (hb : Below w.heap.size w w') (hi : ReadIs d seen zeroC code d) :
    ReadRet base D d mv cv pv Cs vs es seen w (.returned (.tuple #[.agg #[.bool false, .int .i64 0, .slice none 0 0, .slice none 0 0], .int .i64 code])) w' :=
  ⟨zeroC, code, d, pv, vs, es, .slice none 0 0, .slice none 0 0, rfl, hi, hok, h.below hb, KeptBut.of_below hb, fun _ => .inl, World.ownsRow_nil _ _ _ _, World.ownsRow_nil _ _ _ _, fun k hk => by rcases hk with hk | hk <;> cases hk⟩

theorem infoCopy : (Try.prog.info? 72).map (fun i => (i.zero, i.size, i.bytes)) = some (some (.agg #[.bool false, .int .i64 0, .slice none 0 0, .slice none 0 0]), 4, 64) := by kernel_rfl
theorem kb_set4 {w : World} {b : Nat} (x0 x1 x2 x3 : Value) : KeptBut (fun k => k = b) w ((((w.setCell ⟨b, 0, none⟩ x0).setCell ⟨b, 1, none⟩ x1).setCell ⟨b, 2, none⟩ x2).setCell ⟨b, 3, none⟩ x3) :=
  kb_set (kb_set (kb_set (kb_set (KeptBut.refl _ _))))
theorem read_end {base D : Nat} {w w3 wY wC : World} {d d' : DeskD} {mv cv pv pv' : Value} {Cs : List Nat} {vs vs' : List Value} {es es' : List (Value × Value)} {seen : List Int} {c : CopyD} {code : Int} {ue um : Value} {cs : Array Value}
    (H : DeskAt base w D d mv cv pv Cs vs es) (hok' : DeskOk d') (hB3 : Below w.heap.size w w3) (hlt : w.heap.size < w3.heap.size) (hY : DeskAt base wY D d' mv cv pv' Cs vs' es') (hkY : KeptBut (fun k => Foot D mv cv pv Cs vs es k ∨ w3.heap.size ≤ k) w3 wY)
    (hfY : ∀ k, Foot D mv cv pv' Cs vs' es' k → Foot D mv cv pv Cs vs es k ∨ w3.heap.size ≤ k) (hC : Below wY.heap.size wY wC) (hue : OInts wY.heap.size wC ue c.errors) (hum : OInts wY.heap.size wC um c.moves) (hR : Blk wC w.heap.size 72 cs) (his : ReadIs d seen c code d') (x0 x1 x2 x3 : Value) :
    ReadRet base D d mv cv pv Cs vs es seen w (.returned (.tuple #[.agg #[.bool c.good, .int .i64 c.shift, ue, um], .int .i64 code])) ((((wC.setCell ⟨w.heap.size, 0, none⟩ x0).setCell ⟨w.heap.size, 1, none⟩ x1).setCell ⟨w.heap.size, 2, none⟩ x2).setCell ⟨w.heap.size, 3, none⟩ x3) := by
  have hz : w.heap.size ≤ wY.heap.size := Nat.le_trans hB3.size hkY.size
  refine ⟨c, code, d', pv', vs', es', ue, um, rfl, his, hok', ?_, ?_, fun k hk => ?_, oints_set4 (ownsRow_base hue hz) hR _ _ _ _, oints_set4 (ownsRow_base hum hz) hR _ _ _ _, fun k hk hf => ?_⟩
  · refine (hY.below hC).keep (kb_set4 (b := w.heap.size) _ _ _ _) fun k hk e => ?_
    subst e
    rcases hfY _ hk with h | h
    · have := (H.foot_lt h).2
      omega
    · omega
  · have k1 : KeptBut (Foot D mv cv pv Cs vs es) w w3 := KeptBut.of_below hB3
    have k2 := k1.trans hkY fun i hi hs => by
      rcases hs with hs | hs
      · exact hs
      · have := hB3.size
        omega
    have k3 := k2.trans (T := fun _ => False) (KeptBut.of_below hC) fun _ _ h => h.elim
    exact k3.trans (kb_set4 (b := w.heap.size) x0 x1 x2 x3) fun i hi hs => by omega
  · rcases hfY k hk with h | h
    · exact .inl h
    · exact .inr (by omega)
  · have h1 := (hY.foot_lt hf).2
    rcases hk with hk | hk
    · have := (hue.lt k hk).1
      omega
    · have := (hum.lt k hk).1
      omega

set_option maxRecDepth 100000 in
theorem isMade_any (D : Nat) (w : World) (h : w.cell? ⟨D, 2, none⟩ = some (.pointer (some ⟨D, 0, none⟩))) : Calls Try.prog 56 #[.pointer (some ⟨D, 0, none⟩)] w fun e w' => e = .returned (.bool true) ∧ w = w' := by
  obtain ⟨j, hj⟩ : ∃ j, Try.prog.info? 90 = some j := ⟨_, rfl⟩
  have q := fun W => run_eql_ptr_same (P := Try.prog) (w := W) (tp := 63) (te := 90) ⟨D, 0, none⟩ (by kernel_rfl) hj
  go_enter Try.func56, Try.ntmps56
  go_wp2
  go_ret
  exact ⟨rfl, rfl⟩

set_option maxRecDepth 100000 in
set_option maxHeartbeats 8000000 in
theorem Read_any (base D : Nat) (d : DeskD) (mv cv pv : Value) (Cs : List Nat) (vs : List Value) (es : List (Value × Value)) (w : World) (h : DeskAt base w D d mv cv pv Cs vs es) (hok : DeskOk d) (vsn : Value) (seen : List Int) (hs : RInts w.heap.size w vsn seen) (hl : seen.length ≤ 1000000) :
    Calls Try.prog 32 #[.pointer (some ⟨D, 0, none⟩), vsn] w (ReadRet base D d mv cv pv Cs vs es seen w) := by
  have H := Lib.hid h
  have HOk := Lib.hid hok
  have HSn := Lib.hid hs
  obtain ⟨w1, e1, B1, R1⟩ : ∃ w1, w.alloc (.cells #[.bool false, .int .i64 0, .slice none 0 0, .slice none 0 0] 72) = w1 ∧ Below w.heap.size w w1 ∧ Blk w1 w.heap.size 72 #[.bool false, .int .i64 0, .slice none 0 0, .slice none 0 0] := ⟨_, rfl, below_alloc _ _, Blk.new _ _ _⟩
  have E1 := Lib.hid e1
  have HB1 := Lib.hid B1
  have HR1 := Lib.hid R1
  have h1 := h.below B1
  have H1 := Lib.hid h1
  obtain ⟨np, hnp⟩ : ∃ n, d.copies.length = n := ⟨_, rfl⟩
  obtain ⟨n1, hn1⟩ : ∃ n, d.loops.length = n := ⟨_, rfl⟩
  have HNP := Lib.hid hnp
  have HN1 := Lib.hid hn1
  have hp5 := hok.play
  rw [hnp] at hp5
  obtain ⟨Ap, cp, rfl⟩ : ∃ A c, pv = .slice A np c := by
    obtain ⟨A, c, e⟩ := ownsRow_form h.rows
    exact ⟨A, c, by rw [← hnp]; exact e⟩
  obtain ⟨Ac, cc, rfl⟩ : ∃ A c, cv = .slice A n1 c := by
    obtain ⟨A, c, e⟩ := ownsRow_form h.ptrs
    exact ⟨A, c, by rw [← hn1]; exact e⟩
  obtain ⟨nm, hnm⟩ : ∃ n, d.marks.length = n := ⟨_, rfl⟩
  have HNM := Lib.hid hnm
  obtain ⟨Am, cm, rfl⟩ : ∃ A c, mv = .slice A nm c := by
    obtain ⟨A, c, e⟩ := ownsRow_form h.marks
    exact ⟨A, c, by rw [← hnm]; exact e⟩
  obtain ⟨As, csn, rfl, -⟩ := slice_len hs
  have hmm := hok.many
  have hml := hok.len
  have hli := hok.limit
  rw [hnm] at hmm hml
  rw [hn1] at hml
  have hml1 : n1 + 1 ≤ nm := by omega
  have hml2 : nm ≤ n1 + 1 := by omega
  clear hml
  have d0 := cellOf h1.desk 0 (x := .slice Am nm cm) rfl
  have d1 := cellOf h1.desk 1 (x := .int .i64 d.W) rfl
  have d5 := cellOf h1.desk 5 (x := .slice Ap np cp) rfl
  have CI := Lib.hid (isMade_any D w1 (cellOf h1.desk 2 rfl))
  have CMt := Lib.hid (match_any (.slice Am nm cm) (.slice As seen.length csn) d.marks d.W seen w1 (Rd.own h1.marks (own_le h1.marks)) ((hs.below B1).more B1.size) (by omega) hl)
  have r0 := cellOf R1 0 (x := .bool false) rfl
  have r1 := cellOf R1 1 (x := .int .i64 0) rfl
  have r2 := cellOf R1 2 (x := .slice none 0 0) rfl
  have r3 := cellOf R1 3 (x := .slice none 0 0) rfl
  have g0 := R1.frozen 0
  have g1 := R1.frozen 1
  have g2 := R1.frozen 2
  have g3 := R1.frozen 3
  clear h hok hs e1 B1 R1 h1 hnp hn1 hnm
  go_enter Try.func32, Try.ntmps32
  go_upto_region 1 with fail
  rw [E1.out]
  go_wp2_with fail
  refine CI.out.mono ?_
  rintro _ _ ⟨rfl, rfl⟩
  by_cases hfull : np = 5000
  · have HI : Hid (ReadIs d seen zeroC 2 d) := Lib.hid (.inl ⟨HNP.out.trans hfull, rfl, rfl, rfl⟩)
    subst hfull
    have HBe : ∀ x0 x1 x2 x3, Below w.heap.size w ((((w1.setCell ⟨w.heap.size, 0, none⟩ x0).setCell ⟨w.heap.size, 1, none⟩ x1).setCell ⟨w.heap.size, 2, none⟩ x2).setCell ⟨w.heap.size, 3, none⟩ x3) := fun x0 x1 x2 x3 => below_set4 HB1.out (Nat.le_refl _) _ _ _ _
    have HBE := Lib.hid HBe
    clear CMt HBe d0 d1
    go_wp2
    refine bodyPost_ret (v := .tuple #[.agg #[.bool false, .int .i64 0, .slice none 0 0, .slice none 0 0], .int .i64 2]) (by simp [results, Try.results32, go_sem, r0, r1, r2, r3]) rfl (ReadRet.still H.out HOk.out (HBE.out _ _ _ _) HI.out)
  have hnf : ¬ (np : Int) = 5000 := by omega
  have hnf2 : ((np : Int) == 5000) = false := by simpa using hnf
  go_wp2_with fail
  refine CMt.out.mono ?_
  rintro en w2 ⟨⟨s, ct, l, err, u, rfl, hfit, hu⟩, hb2⟩
  clear CMt CI
  obtain ⟨Au, cu, rfl⟩ := ownsRow_form hu
  obtain ⟨nl, hnl⟩ : ∃ n, l.length = n := ⟨_, rfl⟩
  have HNL := Lib.hid hnl
  have hu : OInts w1.heap.size w2 (.slice Au nl cu) l := by rw [hnl] at hu; exact hu
  rw [hnl]
  have HFit := Lib.hid hfit
  obtain ⟨w3, e3, B3, F3⟩ : ∃ w3, w2.alloc (.cells #[.int .i64 s, .int .i64 ct, .slice Au nl cu] 52) = w3 ∧ Below w2.heap.size w2 w3 ∧ Blk w3 w2.heap.size 52 #[.int .i64 s, .int .i64 ct, .slice Au nl cu] := ⟨_, rfl, below_alloc _ _, Blk.new _ _ _⟩
  have E3 := Lib.hid e3
  have hb3 := hb2.trans (B3.mono hb2.size)
  have h3 := H1.out.below hb3
  have HB3 := Lib.hid hb3
  have H3 := Lib.hid h3
  have hR3 := HR1.out.below hb3 HR1.out.lt
  have HR3 := Lib.hid hR3
  have HU3 : Hid (OInts w1.heap.size w3 (.slice Au nl cu) l) := Lib.hid (ownsRow_below hu B3)
  have HF3 := Lib.hid F3
  clear hfit hu hnl e3 B3 hb2 d0 d1 d5 r0 r1 r2 r3 g0 g1 g2 g3
  go_upto_region 6 with fail
  rw [E3.out]
  by_cases herr : err = 0
  · subst herr
    have hd5 : d.copies.length ≠ 5000 := by rw [HNP.out]; exact hfull
    obtain ⟨hfl, hfr, hca, hsa, hse, hce, hle⟩ : nl = n1 + 1 ∧ (∀ x ∈ l, x = lostD ∨ (-100000 ≤ x ∧ x ≤ 200000)) ∧ AllowOk d.marks d.W ∧ SeenAsc seen ∧ s = (bestD d.marks d.W seen).1 ∧ ct = (bestD d.marks d.W seen).2 ∧ l = fitD d.marks d.W seen := by
      rcases HFit.out with ⟨-, -, -, -, h9⟩ | ⟨-, -, -, -, -, h9⟩ | ⟨-, -, -, -, -, -, h9⟩ | ⟨-, h2, h3, h4, h5, h6, -⟩
      · omega
      · omega
      · omega
      · refine ⟨?_, fun x hx => ?_, h2, h3, h4, h5, h6⟩
        · have h8 : l.length = d.marks.length := by rw [h6]; exact fitTo_len _ _ _ _
          rw [HNL.out, HNM.out] at h8
          omega
        · obtain ⟨i, hi, rfl⟩ := List.getElem_of_mem hx
          have h8 : l.length = d.marks.length := by rw [h6]; exact fitTo_len _ _ _ _
          have h7 := fitD_at (W := d.W) (seen := seen) (List.getElem?_eq_getElem (show i < d.marks.length by omega))
          rw [← h6, List.getElem?_eq_getElem hi] at h7
          injection h7 with h7
          rw [h7]
          by_cases hl9 : findD seen (d.marks[i]'(by omega) + (bestD d.marks d.W seen).1 - d.W) (d.marks[i]'(by omega) + (bestD d.marks d.W seen).1 + d.W) = lostD
          · exact .inl hl9
          · exact .inr (h3.place _ (findD_mem hl9).1)
    have hct : 0 ≤ ct ∧ ct ≤ 12 := by
      have h9 := best_is (seen := seen) hca
      have h8 := countD_le d.marks d.W seen (bestD d.marks d.W seen).1
      rw [HNM.out] at h8
      rw [hce, h9]
      omega
    clear hca hsa hse hce hle
    have HFR := Lib.hid hfr
    clear hfr
    rw [hfl] at HNL HU3 HF3 F3 ⊢
    clear hfl E3
    -- Repeat, the copy in the making
    have d3 := cellOf h3.desk 3 (x := .slice Ac n1 cc) rfl
    obtain ⟨w4, e4, B4, L4⟩ : ∃ w4, w3.alloc (.cells #[.int .i64 1000000000] 3) = w4 ∧ Below w3.heap.size w3 w4 ∧ RInts w4.heap.size w4 (.slice (some ⟨w3.heap.size, 0, none⟩) 1 1) [lostD] := by
      refine ⟨_, rfl, below_alloc _ _, some ⟨w3.heap.size, 0, none⟩, 1, rfl, rfl, by simp [maxLen], fun _ => ⟨w3.heap.size, 0, rfl, by simp, fun j u hu => ?_⟩⟩
      have h := cells_new w3 #[.int .i64 1000000000] 3 j u hu
      rwa [show (⟨w3.heap.size, 0, none⟩ : Addr).add j = ⟨w3.heap.size, 0 + j, none⟩ from by unfold Addr.add; split <;> simp_all] at h
    have CRep := Lib.hid (Repeat_any lostD n1 (by omega) (by omega) _ w4 L4)
    have E4 := Lib.hid e4
    have HB4 := Lib.hid B4
    clear e4 B4 L4 h3 hR3 F3 hb3
    have hDl := H3.out.desk.lt
    go_upto_region 8 with fail
    go_wp2_with fail
    rw [E4.out]
    refine CRep.out.mono ?_
    rintro _ w5 ⟨u5, rfl, hu5, hb5⟩
    have hw5 : w3.heap.size ≤ w5.heap.size := Nat.le_trans HB4.out.size hb5.size
    obtain ⟨A5, c5, rfl⟩ := ownsRow_form hu5
    rw [List.length_replicate] at *
    obtain ⟨w6, e6, B6, T6⟩ : ∃ w6, w5.alloc (.cells #[.bool false, .int .i64 0, .slice A5 n1 c5, .slice none 0 0] 72) = w6 ∧ Below w5.heap.size w5 w6 ∧ Blk w6 w5.heap.size 72 #[.bool false, .int .i64 0, .slice A5 n1 c5, .slice none 0 0] := ⟨_, rfl, below_alloc _ _, Blk.new _ _ _⟩
    have E6 := Lib.hid e6
    have hb36 : Below w3.heap.size w3 w6 := HB4.out.trans ((hb5.mono HB4.out.size).trans (B6.mono (Nat.le_trans HB4.out.size hb5.size)))
    have HB36 := Lib.hid hb36
    have h6 := H3.out.below hb36
    have H6 := Lib.hid h6
    have HT6 := Lib.hid T6
    have HU6 : Hid (OInts w4.heap.size w6 (.slice A5 n1 c5) (List.replicate n1 lostD)) := Lib.hid (ownsRow_below hu5 B6)
    have hF6 := HF3.out.below hb36 HF3.out.lt
    have hR6 : OInts w1.heap.size w6 (.slice Au (n1 + 1) cu) l := ownsRow_below HU3.out hb36
    have HRd6 : Hid (RInts w6.heap.size w6 (.slice Au (n1 + 1) cu) l) := Lib.hid (by
      have h9 := Rd.own hR6 (own_le hR6)
      rw [HNL.out] at h9
      show Rd _ _ _ _ l.length _
      rw [HNL.out]
      exact h9)
    clear hu5 hb5 e6 B6 T6 hb36 d3 CRep
    go_upto_region 9 with fail
    rw [E6.out]
    -- the front of what was found
    obtain ⟨f0, hf0⟩ : ∃ x, l[0]? = some x := ⟨_, List.getElem?_eq_getElem (by rw [HNL.out]; omega)⟩
    obtain ⟨gF, oF, rfl, hgF, cf0⟩ := HRd6.out.at hf0
    rw [Nat.add_zero] at cf0
    have HF0 := Lib.hid hf0
    have x0 := cellOf hF6 0 (x := .int .i64 s) rfl
    have x1 := cellOf hF6 1 (x := .int .i64 ct) rfl
    have x2 := cellOf hF6 2 (x := .slice (some ⟨gF, oF, none⟩) (n1 + 1) cu) rfl
    have y0 := cellOf h6.desk 0 (x := .slice Am nm cm) rfl
    have in1 : (0 : Int) < (n1 : Int) + 1 := by omega
    have kw1 : IntKind.i64.wrap (2 * ct) = 2 * ct := IntWalk.i64_in _ ⟨by omega, by omega⟩
    clear hf0 hF6 hR6
    have hbf : BadFit d l ct ↔ (f0 = 1000000000 ∨ 2 * ct < (nm : Int)) := by
      unfold BadFit
      rw [List.getD_eq_getElem?_getD, HF0.out, HNM.out]
      exact Iff.rfl
    have HBF := Lib.hid hbf
    clear hbf
    go_cut [57] (fun s57 wx => BadCut d l ct w6 s57 wx)
    case first =>
      by_cases c1 : f0 = 1000000000
      · have HBt : Hid (BadFit d l ct) := Lib.hid (HBF.out.2 (.inl c1))
        subst c1
        clear HBF
        go_quiet (fail)
        go_wp2_with fail
        go_meet
        exact ⟨true, rfl, ⟨fun _ => HBt.out, fun _ => rfl⟩, below_drewN (Below.refl _ _) _⟩
      · have c1' : (f0 == 1000000000) = false := by simpa using c1
        by_cases c2 : 2 * ct < (nm : Int)
        · have HBt : Hid (BadFit d l ct) := Lib.hid (HBF.out.2 (.inr c2))
          clear HBF
          go_quiet (fail)
          go_wp2_with fail
          go_meet
          exact ⟨true, rfl, ⟨fun _ => HBt.out, fun _ => rfl⟩, below_drewN (Below.refl _ _) _⟩
        · have HBt : Hid (¬ BadFit d l ct) := Lib.hid fun h => by rcases HBF.out.1 h with h | h <;> contradiction
          clear HBF
          go_quiet (fail)
          go_wp2_with fail
          go_meet
          exact ⟨false, rfl, ⟨fun h => (by cases h), fun h => absurd h HBt.out⟩, below_drewN (Below.refl _ _) _⟩
    case rest =>
    obtain ⟨b, h57, hbad, hb67⟩ := hcut
    obtain ⟨w7, rfl⟩ : ∃ w7, w7 = wc := ⟨wc, rfl⟩
    have H57 := Lib.hid h57
    have HBad := Lib.hid hbad
    have HB67 := Lib.hid hb67
    have HB37 : Hid (Below w3.heap.size w3 w7) := Lib.hid (HB36.out.trans (hb67.mono HB36.out.size))
    clear h57 hbad hb67 x0 x1 x2 y0 h6 cf0
    have hb8w : w3.heap.size ≤ w5.heap.size := hw5
    obtain ⟨b8, hb8⟩ : ∃ b, w5.heap.size = b := ⟨_, rfl⟩
    rw [hb8] at HT6 hb8w ⊢
    clear hb8 E6
    obtain ⟨bF, hbF⟩ : ∃ b, w2.heap.size = b := ⟨_, rfl⟩
    rw [hbF] at HF3 ⊢
    clear hbF
    go_upto_region 13 with fail
    go_cut [7] (fun s7 wx => ReadCut d l s ct w3 b8 s7 wx)
    case first =>
      have h57 := H57.out
      subst h57
      have hT7 := HT6.out.below HB67.out HT6.out.lt
      cases b
      · have hnb : ¬ BadFit d l ct := fun h => (by have := HBad.out.2 h; cases this)
        have HNB := Lib.hid hnb
        have hf0n : ∀ x, l[0]? = some x → x ≠ lostD := fun x hx he => by
          rw [HF0.out] at hx
          injection hx with hx
          exact hnb (HBF.out.2 (.inl (hx.trans he)))
        have hdk := H6.out.below HB67.out
        have HD7 := Lib.hid hdk
        have HU7 : Hid (OInts w1.heap.size w7 (.slice (some ⟨gF, oF, none⟩) (n1 + 1) cu) l) := Lib.hid (ownsRow_below HU3.out HB37.out)
        have hF7 := HF3.out.below HB37.out HF3.out.lt
        have HF7 := Lib.hid hF7
        have HT7 := Lib.hid hT7
        have hnD : D ≠ b8 := Blk.ne hdk.desk hT7 (by decide)
        have hnF : bF ≠ b8 := Blk.ne hF7 hT7 (by decide)
        have HErr : Hid (∀ (Y : World) (x0 x1 x2 x3 : Value), KeptBut (fun k => k = b8) w7 Y → Blk Y b8 72 #[x0, x1, x2, x3] → Calls Try.prog 57 #[.agg #[.slice Am nm cm, .int .i64 d.W], .slice (some ⟨gF, oF, none⟩) (n1 + 1) cu] Y fun e w' => ∃ A c, e = .returned (.slice A n1 c) ∧ OInts w7.heap.size w' (.slice A n1 c) (errsD d.marks l n1) ∧ KeptBut (fun k => k = b8) w7 w' ∧ Blk w' b8 72 #[x0, x1, x2, x3]) := Lib.hid fun Y x0 x1 x2 x3 hY hB => by
          have m9 := ownsRow_keptBut HD7.out.marks hY fun g cs hg hB e => Blk.ne hB HT7.out (by decide) e
          have f9 := ownsRow_keptBut HU7.out hY fun g cs hg hB e => Blk.ne hB HT7.out (by decide) e
          have hm9 : RInts Y.heap.size Y (.slice Am nm cm) d.marks := Rd.own m9 (own_le m9)
          have hf9 : RInts Y.heap.size Y (.slice (some ⟨gF, oF, none⟩) (n1 + 1) cu) l := Rd.own f9 (own_le f9)
          have hcap : ∀ A c, Value.slice (some ⟨gF, oF, none⟩) (n1 + 1) cu = .slice A (n1 + 1) c → n1 + 1 ≤ c := fun A c e => by
            injection e with e1 e2 e3
            rw [← e3]
            rcases HU3.out.2 with ⟨h1, -⟩ | ⟨g', cap', cur, h1, -, -, h2, -⟩
            · cases h1
            · injection h1 with a1 a2 a3
              rw [HNL.out] at h2
              omega
          refine (errors_any _ _ d.marks l d.W Y n1 hm9 hf9 (by rw [HNM.out]; omega) HNL.out (by omega) (by omega) hcap HOk.out.allow.place HFR.out hf0n).mono ?_
          rintro e w' ⟨u, rfl, h1, h2⟩
          obtain ⟨A, c, rfl⟩ := ownsRow_form h1
          rw [errsD_len]
          rw [errsD_len] at h1
          exact ⟨A, c, rfl, ownsRow_base h1 hY.size, hY.trans (T := fun _ => False) (KeptBut.of_below h2) (fun _ _ h => h.elim), hB.below h2 hB.lt⟩
        have HS8 : Hid (∀ X, KeptBut (fun k => k = b8) w7 X → X.cell? ⟨bF, 0, none⟩ = some (.int .i64 s) ∧ X.cell? ⟨bF, 2, none⟩ = some (.slice (some ⟨gF, oF, none⟩) (n1 + 1) cu) ∧ X.cell? ⟨D, 0, none⟩ = some (.slice Am nm cm) ∧ X.cell? ⟨D, 1, none⟩ = some (.int .i64 d.W)) := Lib.hid fun X hX => by
          have f9 := hX.blk HF7.out hnF
          have d9 := hX.blk HD7.out.desk hnD
          exact ⟨cellOf f9 0 rfl, cellOf f9 2 rfl, cellOf d9 0 rfl, cellOf d9 1 rfl⟩
        have x0 := cellOf hF7 0 (x := .int .i64 s) rfl
        have x2 := cellOf hF7 2 (x := .slice (some ⟨gF, oF, none⟩) (n1 + 1) cu) rfl
        have y0 := cellOf hdk.desk 0 (x := .slice Am nm cm) rfl
        have y1 := cellOf hdk.desk 1 (x := .int .i64 d.W) rfl
        have t1 := cellOf hT7 1 (x := .int .i64 0) rfl
        have t2 := cellOf hT7 2 (x := .slice A5 n1 c5) rfl
        have p1 := hT7.frozen 1
        have p2 := hT7.frozen 2
        clear hF7 hnb hf0n hdk hT7
        go_upto_region 11 with fail
        go_cut [59] (fun _ wx => ErrMid d l s n1 w3 b8 wx)
        case first =>
          go_region_held3 (fun X => X.cell? ⟨bF, 0, none⟩ = some (.int .i64 s) ∧ X.cell? ⟨bF, 2, none⟩ = some (.slice (some ⟨gF, oF, none⟩) (n1 + 1) cu) ∧ X.cell? ⟨D, 0, none⟩ = some (.slice Am nm cm) ∧ X.cell? ⟨D, 1, none⟩ = some (.int .i64 d.W))
            (first | exact S8 | with_reducible exact HS8.out _ (kb_set hk8) | with_reducible exact HS8.out _ (kb_set (kb_set hk8)) | go_keep)
            (first | (go_at_call 57; refine (HErr.out w7.drew _ _ _ _ (kb_drew (KeptBut.refl _ _)) (blk_drew HT7.out)).mono ?_; rintro _ w8 ⟨A8, c8, rfl, hv8, hk8, K8⟩; have S8 := HS8.out w8 hk8; have t1 := cellOf K8 1 (x := _) rfl; have t2 := cellOf K8 2 (x := _) rfl; have p1 := K8.frozen 1; have p2 := K8.frozen 2))
          all_goals
            have HM : Hid (ErrMid d l s n1 w3 b8 ((w8.setCell ⟨b8, 1, none⟩ (.int .i64 s)).setCell ⟨b8, 2, none⟩ (.slice A8 n1 c8))) := Lib.hid ⟨A8, c8, copy_put2 (copy_put1 K8 _) _, oints_set (oints_set (ownsRow_base hv8 HB37.out.size) K8) (copy_put1 K8 _), below_far (below_far (HB37.out.trans (hk8.below (fun k hk => by rw [hk]; exact hb8w) HB37.out.size)) hb8w) hb8w⟩
            clear hv8 hk8 K8 S8
            go_wp2_with fail
            go_meet
            exact HM.out
        case rest =>
          obtain ⟨A9, c9, hK9, hv9, hb9⟩ := hcut
          have HK9 := Lib.hid hK9
          have HV9 := Lib.hid hv9
          have HB9 := Lib.hid hb9
          have hD9 := H3.out.desk.below hb9 H3.out.desk.lt
          have z4 := cellOf hD9 4 (x := .int .i64 d.limit) rfl
          have q0 := cellOf hK9 0 (x := .bool false) rfl
          have q2 := cellOf hK9 2 (x := .slice A9 n1 c9) rfl
          have p0 := hK9.frozen 0
          have heb := errs_bound (n := n1) HOk.out.allow.place HFR.out (by rw [HNM.out]; omega) HNL.out
          have HEB := Lib.hid heb
          have CW := Lib.hid (areWithin_any d.limit (.slice A9 n1 c9) (errsD d.marks l n1) wc.drew hli (by
            have h9 := Rd.own hv9 (own_le hv9)
            show Rd _ _ _ _ (errsD d.marks l n1).length _
            exact h9) (fun x hx => by have := heb x hx; omega))
          obtain ⟨gg, hgg⟩ : ∃ gg, decide (farD (errsD d.marks l n1) ≤ d.limit) = gg := ⟨_, rfl⟩
          rw [hgg] at CW
          have HGG := Lib.hid hgg
          have HS12 : Hid (∀ u, (wc.setCell ⟨b8, 0, none⟩ u).drew.cell? ⟨D, 4, none⟩ = some (.int .i64 d.limit) ∧ (wc.setCell ⟨b8, 0, none⟩ u).drew.cell? ⟨b8, 2, none⟩ = some (.slice A9 n1 c9)) := Lib.hid fun u => ⟨cellOf (blk_drew (hD9.far (p := ⟨b8, 0, none⟩) hnD u)) 4 rfl, cellOf (blk_drew (copy_put0 hK9 u)) 2 rfl⟩
          clear hK9 hv9 hb9 hD9 heb hgg x0 x2 y0 y1 t1 t2 p1 p2 HErr HS8
          go_upto_region 12 with fail
          go_region_held3 (fun X => X.cell? ⟨D, 4, none⟩ = some (.int .i64 d.limit) ∧ X.cell? ⟨b8, 2, none⟩ = some (.slice A9 n1 c9))
            (first | exact HS12.out _ | go_keep)
            (first | (go_at_call 43; refine CW.out.mono ?_; rintro _ _ ⟨rfl, rfl⟩))
          all_goals
            go_wp2_with fail
            go_meet
            exact ⟨gg, s, 0, errsD d.marks l d.loops.length, .slice A9 n1 c9, rfl, .inr ⟨HNB.out, by rw [HN1.out]; exact HGG.out.symm, rfl, rfl, rfl⟩, errsD_len _ _ _, by rw [HN1.out]; exact HEB.out, blk_drew (copy_put0 HK9.out _), by rw [HN1.out]; exact ownsRow_below (oints_set HV9.out HK9.out) (below_drewN (Below.refl _ _) 1), (below_far HB9.out hb8w).drew⟩
      · have hbb := HBad.out.1 rfl
        have HBB := Lib.hid hbb
        clear hbb
        go_wp2_with fail
        go_meet
        refine ⟨false, 0, 4, List.replicate d.loops.length lostD, .slice A5 n1 c5, rfl, .inl ⟨HBB.out, rfl, rfl, rfl, rfl⟩, by simp, fun x hx => ?_, hT7, ?_, HB37.out⟩
        · rw [List.eq_of_mem_replicate hx]
          unfold lostD
          omega
        · rw [HN1.out]
          exact ownsRow_base (ownsRow_below HU6.out HB67.out) HB4.out.size
    case rest =>
    obtain ⟨g, sh, code, errs, ve, h7, hcase, hel, heb, hK, hve, hbc⟩ := hcut
    subst h7
    obtain ⟨w8, rfl⟩ : ∃ w8, w8 = wc := ⟨wc, rfl⟩
    have hdsk := H3.out.below hbc
    have HD8 := Lib.hid hdsk
    obtain ⟨Av, cvv, rfl⟩ : ∃ A c, ve = .slice A n1 c := by
      obtain ⟨A, c, e⟩ := ownsRow_form hve
      exact ⟨A, c, by rw [e, hel, HN1.out]⟩
    have HV8 := Lib.hid hve
    have HCase := Lib.hid hcase
    have HEl := Lib.hid hel
    have HEb := Lib.hid heb
    have HBc := Lib.hid hbc
    have HK8 := Lib.hid hK
    have HB8w := Lib.hid hb8w
    obtain ⟨d2, hd2⟩ : ∃ d2, d.add (readWith d g sh errs) = d2 := ⟨_, rfl⟩
    have HD2 := Lib.hid hd2
    have q2 := cellOf hK 2 (x := .slice Av n1 cvv) rfl
    have hve8 : RInts w8.heap.size w8 (.slice Av n1 cvv) errs := Rd.own hve (own_le hve)
    have hCF8 : ∀ k, (Value.slice Av n1 cvv).ownBlock = some k → ¬ CtlF Cs vs k := fun k hk hf => by
      have h1 := (hve.lt k hk).1
      have h2 := (H3.out.ctls.lt hf).2
      omega
    have CD := Lib.hid (deskDecide_any base D d.loops (Qd d) (Qd d2) errs Cs vs (.slice Ac n1 cc) (.slice Av n1 cvv) w8 n1 (cellOf hdsk.desk 3 rfl) ⟨_, _, hdsk.desk, by decide, by decide⟩ (by have h9 := hdsk.ptrs; rw [HN1.out] at h9; exact h9) hdsk.ctls
      (fun l9 hl9 => ⟨(HOk.out.loops l9 hl9).2.2.2.2.2.2.1, (HOk.out.loops l9 hl9).2.2.2.2.2.2.2.2⟩) HN1.out (by omega) (fun i hi => by
        obtain ⟨l9, hl9⟩ : ∃ l9, d.loops[i]? = some l9 := ⟨_, List.getElem?_eq_getElem (by rw [HN1.out]; exact hi)⟩
        exact Qd_ok HOk.out hl9) hve8 (by rw [hel, HN1.out]) heb hCF8 (fun i l9 hl9 => by rw [← hd2]; exact Qd_next hl9))
    clear hcase hel heb hK hve hbc hdsk hd2 hve8 hCF8 H57 HBad HBF hb8w
    go_upto_region 13 with fail
    go_wp2_with fail
    refine CD.out.mono ?_
    rintro _ w12 ⟨um, vs', rfl, hum, hct, hk12, hf12, ha12⟩
    clear CD q2
    obtain ⟨Aw, cw, rfl⟩ : ∃ A c, um = .slice A n1 c := by
      obtain ⟨A, c, e⟩ := ownsRow_form hum
      exact ⟨A, c, by rw [e, movesD_len, HN1.out]⟩
    have hK12 := hk12.blk HK8.out (HD8.out.ctls.notF HK8.out (by decide) (by decide))
    have q3 := cellOf hK12 3 (x := .slice none 0 0) rfl
    have p3 := hK12.frozen 3
    -- the world behind the store of the corrections
    obtain ⟨w13, e13⟩ : ∃ w13, w12.setCell ⟨b8, 3, none⟩ (.slice Aw n1 cw) = w13 := ⟨_, rfl⟩
    have hkX : KeptBut (fun k => CtlF Cs vs k ∨ w3.heap.size ≤ k) w3 w13 := by
      have k1 : KeptBut (fun k => CtlF Cs vs k ∨ w3.heap.size ≤ k) w3 w8 := KeptBut.of_below HBc.out
      have k2 := k1.trans hk12 fun i _ hs => .inl hs
      rw [← e13]
      exact k2.trans (KeptBut.setCell (S := fun k => k = b8) (p := ⟨b8, 3, none⟩) rfl _) fun i _ hs => .inr (by rw [hs]; exact HB8w.out)
    have hct13 : CtlsAt base w13 d.loops (Qd d2) Cs vs' := by
      rw [← e13]
      refine hct.keep (S := fun k => k = b8) (KeptBut.setCell (S := fun k => k = b8) (p := ⟨b8, 3, none⟩) rfl _) fun k hk e => ?_
      subst e
      exact hct.notF hK12 (by decide) (by decide) hk
    have hfX : ∀ j, CtlF Cs vs' j → CtlF Cs vs j ∨ w3.heap.size ≤ j := fun j hj => by
      rcases hf12 j hj with h | h
      · exact .inl h
      · exact .inr (Nat.le_trans HBc.out.size h)
    have hve13 : OInts w3.heap.size w13 (.slice Av n1 cvv) errs := by
      rw [← e13]
      exact oints_set (ownsRow_keep HV8.out hk12 fun j hj hf => by
        have h1 := (HV8.out.lt j hj).1
        have h2 := (H3.out.ctls.lt hf).2
        omega) hK12
    have hum13 : OInts w3.heap.size w13 (.slice Aw n1 cw) (movesD d.loops (Qd d) errs) := by
      rw [← e13]
      exact oints_set (ownsRow_base hum HBc.out.size) hK12
    have hap13 : ∀ k, ((Value.slice Av n1 cvv).ownBlock = some k ∨ (Value.slice Aw n1 cw).ownBlock = some k) → ¬ CtlF Cs vs' k := fun k hk hf => by
      rcases hk with hk | hk
      · have h1 := HV8.out.lt k hk
        rcases hf12 k hf with h | h
        · have := (H3.out.ctls.lt h).2
          omega
        · omega
      · exact ha12 k hk hf
    have hK13 : Blk w13 b8 72 #[.bool g, .int .i64 sh, .slice Av n1 cvv, .slice Aw n1 cw] := by
      rw [← e13]
      exact copy_put3 hK12 _
    have hFD : ∀ k, Foot D (.slice Am nm cm) (.slice Ac n1 cc) (.slice Ap np cp) Cs vs es k → k < w.heap.size := fun k hk => (H.out.foot_lt hk).2
    have hw3lt : w.heap.size < w3.heap.size := by
      have h1 := HR1.out.lt
      have h2 := HB3.out.size
      omega
    have hnb : w.heap.size ≠ b8 := by have := HB8w.out; omega
    have hR13 : Blk w13 w.heap.size 72 #[.bool false, .int .i64 0, .slice none 0 0, .slice none 0 0] := by
      have h1 : Blk w12 w.heap.size 72 #[.bool false, .int .i64 0, .slice none 0 0, .slice none 0 0] := by
        refine hk12.blk (HR3.out.below HBc.out HR3.out.lt) fun hf => ?_
        have := hFD _ (.inr (.inr (.inr (.inr hf))))
        omega
      rw [← e13]
      exact h1.far hnb _
    have hD13 : Blk w13 D 90 (deskCells D d (.slice Am nm cm) (.slice Ac n1 cc) (.slice Ap np cp)) := by
      have h1 := hk12.blk HD8.out.desk (HD8.out.ctls.notF HD8.out.desk (by decide) (by decide))
      rw [← e13]
      exact h1.far (fun e => Blk.ne h1 hK12 (by decide) e) _
    have hP13 : w13.ownsRow base 72 4 (.slice Ap np cp) np (rowsC d.copies es) := by
      have h0 := H3.out.rows
      rw [HNP.out] at h0
      refine ownsRow_keep h0 hkX fun j hj hs => ?_
      have hlt := hFD j (.inr (.inr (.inl hj)))
      rcases hs with hs | hs
      · rcases h0.2 with ⟨h9, -⟩ | ⟨g', c', cur, h9, -, hB, -⟩
        · rw [h9] at hj; cases hj
        · rw [h9] at hj
          obtain rfl : g' = j := by injection hj
          exact H3.out.ctls.notF (t := 72) (cs := cur) hB (by decide) (by decide) hs
      · omega
    have HX := Lib.hid (⟨hkX, hct13, hfX, hve13, hum13, hap13⟩ : _ ∧ _ ∧ _ ∧ _ ∧ _ ∧ _)
    have HGr : Hid (∀ w14, (w13.alloc (.cells #[.bool g, .int .i64 sh, .slice Av n1 cvv, .slice Aw n1 cw] 72)).grownBy w14 (Value.slice Ap np cp).ownBlock → Blk w14 D 90 (deskCells D d (.slice Am nm cm) (.slice Ac n1 cc) (.slice Ap np cp)) ∧ Blk w14 b8 72 #[.bool g, .int .i64 sh, .slice Av n1 cvv, .slice Aw n1 cw] ∧ Blk w14 w.heap.size 72 #[.bool false, .int .i64 0, .slice none 0 0, .slice none 0 0]) := Lib.hid fun w14 hg => by
      have key : ∀ (b : Nat) (t : TypeId) (cs : Array Value), Blk w13 b t cs → (Value.slice Ap np cp).ownBlock ≠ some b → Blk w14 b t cs := fun b t cs hB hne =>
        (hg.block b (by have := hB.lt; simp; omega) (fun e => hne e.symm)).trans (hB.alloc _)
      refine ⟨key _ _ _ hD13 fun e => ?_, key _ _ _ hK13 fun e => ?_, key _ _ _ hR13 fun e => ?_⟩
      · rcases hP13.2 with ⟨h9, -⟩ | ⟨g', c', cur, h9, -, hB, -⟩
        · rw [h9] at e; cases e
        · rw [h9] at e
          obtain rfl : g' = D := by injection e
          exact Blk.ne (t := 72) (ds := cur) hD13 hB (by decide) rfl
      · have := hFD _ (.inr (.inr (.inl e)))
        have := HB8w.out
        omega
      · have := hFD _ (.inr (.inr (.inl e)))
        omega
    have HIs : Hid (ReadIs d seen (readWith d g sh errs) code d2) := Lib.hid (by
      refine .inr ⟨hd5, s, ct, l, 0, HFit.out, ?_⟩
      rw [← HD2.out]
      rcases HCase.out with ⟨a1, a2, a3, a4, a5⟩ | ⟨a1, a2, a3, a4, a5⟩
      · exact .inr (.inl ⟨rfl, a1, by rw [a2, a3, a4]; rfl, a5, rfl⟩)
      · exact .inr (.inr ⟨rfl, a1, by rw [a2, a3, a4]; rfl, a5, rfl⟩))
    have HOk2 : Hid (DeskOk d2) := Lib.hid (by rw [← HD2.out]; exact HOk.out.add (by rw [HNP.out]; omega) HEl.out)
    have HBw3 : Hid (Below w.heap.size w w3) := Lib.hid (HB1.out.trans (HB3.out.mono HB1.out.size))
    have HLen : Hid (errs.length ≤ 1000000 ∧ (movesD d.loops (Qd d) errs).length ≤ 1000000) := Lib.hid ⟨by rw [HEl.out, HN1.out]; omega, by rw [movesD_len, HN1.out]; omega⟩
    have HRF : Hid (w.heap.size ≠ D) := Lib.hid fun e => Blk.ne hR13 hD13 (by decide) e
    have HKF : Hid (b8 ≠ D) := Lib.hid fun e => Blk.ne hK13 hD13 (by decide) e
    obtain ⟨i1, hi1, hy0, hy1, hy2⟩ := info_parts infoCopy
    have HP13 := Lib.hid hP13
    have E13 := Lib.hid e13
    have z5 := cellOf hD13 5 (x := .slice Ap np cp) rfl
    have k0 := cellOf hK13 0 (x := .bool g) rfl
    have k1 := cellOf hK13 1 (x := .int .i64 sh) rfl
    have k2 := cellOf hK13 2 (x := .slice Av n1 cvv) rfl
    have k3 := cellOf hK13 3 (x := .slice Aw n1 cw) rfl
    have hbz : base ≤ w13.heap.size := by
      have h1 := H.out.low
      have h2 := hD13.lt
      omega
    have hnp5 : np ≤ 4999 := by omega
    have hDl13 := hD13.lt
    have hbl13 := hK13.lt
    clear e13 hkX hct13 hfX hve13 hum13 hap13 hK13 hFD hR13 hD13 hP13 hK12 hum hct hk12 hf12 ha12 hnb
    go_upto_region 14 with fail
    rw [E13.out]
    clear q3 p3
    go_region_law (first | (refine step_append_lies _ (by rfl) _ _ _ (by rfl) base 72 i1 (.agg #[.bool false, .int .i64 0, .slice none 0 0, .slice none 0 0]) 4 64 Try.underlying79 hi1 hy0 hy1 hy2 rfl (by decide) (.slice Ap np cp) np _ (by rfl) (by first | exact HP13.out.alloc _ | exact (HP13.out.alloc _).drew) ⟨w13.heap.size, 0, none⟩ 1 1 [.bool g, .int .i64 sh, .slice Av n1 cvv, .slice Aw n1 cw] (by rfl) (by rfl) (World.news_of_block (cs := #[.bool g, .int .i64 sh, .slice Av n1 cvv, .slice Aw n1 cw]) (t := 72) (fr := (0, 0)) (heap_alloc_new w13 _)) (by simp [Value.oneCell']) (by omega) (by simp only [maxLen]; omega) (by omega) (by simp; omega) (w13.heap.size + 1) (by simp) ?_; intro g8 c8 w14 hown hgrow hat hlt14; have HW14 := Lib.hid (⟨hown, (⟨hgrow.os, hgrow.tape, hgrow.output, hgrow.size, hgrow.block⟩ : (w13.alloc (.cells #[.bool g, .int .i64 sh, .slice Av n1 cvv, .slice Aw n1 cw] 72)).grownBy w14 (Value.slice Ap np cp).ownBlock), hat⟩ : _ ∧ _ ∧ _); have d14 := cellOf (HGr.out w14 HW14.out.2.1).1 5 (x := .slice Ap np cp) rfl; have f14 := (HGr.out w14 HW14.out.2.1).1.frozen 5; clear hown hgrow hat hlt14))
    all_goals
      have hread := desk_read (g := g) (sh := sh) (errs := errs) H3.out HNP.out HX.out.1 (by rw [HD2.out]; exact HX.out.2.1) HX.out.2.2.1 HX.out.2.2.2.1 HX.out.2.2.2.2.1 HX.out.2.2.2.2.2 HW14.out.1 HW14.out.2.1 HW14.out.2.2
      rw [HD2.out] at hread
      have hKY := (HGr.out w14 HW14.out.2.1).2.1.far (p := ⟨D, 5, none⟩) HKF.out (.slice (some ⟨g8, 0, none⟩) (np + 1) c8)
      have hRY := (HGr.out w14 HW14.out.2.1).2.2.far (p := ⟨D, 5, none⟩) HRF.out (.slice (some ⟨g8, 0, none⟩) (np + 1) c8)
      obtain ⟨wY, hwY⟩ : ∃ X, w14.setCell ⟨D, 5, none⟩ (.slice (some ⟨g8, 0, none⟩) (np + 1) c8) = X := ⟨_, rfl⟩
      rw [hwY] at hread hKY hRY ⊢
      obtain ⟨hY, hkY, hfY, hveY, humY⟩ := hread
      have CC := Lib.hid (clone_any g sh (.slice Av n1 cvv) (.slice Aw n1 cw) errs (movesD d.loops (Qd d) errs) wY (Rd.own hveY (own_le hveY)) (Rd.own humY (own_le humY)) HLen.out.1 HLen.out.2)
      have HYs := Lib.hid (⟨hY, hkY, hfY⟩ : _ ∧ _ ∧ _)
      have HRY := Lib.hid hRY
      have k0 := cellOf hKY 0 (x := .bool g) rfl
      have k1 := cellOf hKY 1 (x := .int .i64 sh) rfl
      have k2 := cellOf hKY 2 (x := .slice Av n1 cvv) rfl
      have k3 := cellOf hKY 3 (x := .slice Aw n1 cw) rfl
      clear hY hkY hfY hveY humY hRY hKY hwY d14 f14 HW14 z5 HX HGr HP13 hDl13 hbl13
      go_wp2_with fail
      refine CC.out.mono ?_
      rintro _ wC ⟨ue, um', rfl, hue, hum', hC⟩
      obtain ⟨Au', cu', rfl⟩ := ownsRow_form hue
      obtain ⟨Am', cm', rfl⟩ := ownsRow_form hum'
      have hRC := HRY.out.below hC HRY.out.lt
      have r0 := cellOf hRC 0 (x := .bool false) rfl
      have r1 := cellOf hRC 1 (x := .int .i64 0) rfl
      have r2 := cellOf hRC 2 (x := .slice none 0 0) rfl
      have r3 := cellOf hRC 3 (x := .slice none 0 0) rfl
      have g0 := hRC.frozen 0
      have g1 := hRC.frozen 1
      have g2 := hRC.frozen 2
      have g3 := hRC.frozen 3
      have HFin := Lib.hid (fun x0 x1 x2 x3 => read_end (c := readWith d g sh errs) H.out HOk2.out HBw3.out hw3lt HYs.out.1 HYs.out.2.1 HYs.out.2.2 hC hue hum' hRC HIs.out x0 x1 x2 x3)
      clear hue hum' hC hRC CC k0 k1 k2 k3
      go_wp2
      refine bodyPost_ret (v := .tuple #[.agg #[.bool g, .int .i64 sh, .slice Au' errs.length cu', .slice Am' (movesD d.loops (Qd d) errs).length cm'], .int .i64 code]) (by simp [results, Try.results32, go_sem, r0, r1, r2, r3]) rfl (HFin.out _ _ _ _)
  · have HI : Hid (ReadIs d seen zeroC err d) := Lib.hid (.inr ⟨by rw [HNP.out]; omega, s, ct, l, err, HFit.out, .inl ⟨herr, rfl, rfl, rfl⟩⟩)
    have HBE : Hid (∀ x0 x1 x2 x3, Below w.heap.size w ((((w3.setCell ⟨w.heap.size, 0, none⟩ x0).setCell ⟨w.heap.size, 1, none⟩ x1).setCell ⟨w.heap.size, 2, none⟩ x2).setCell ⟨w.heap.size, 3, none⟩ x3)) := Lib.hid fun x0 x1 x2 x3 => below_set4 (HB1.out.trans (HB3.out.mono HB1.out.size)) (Nat.le_refl _) _ _ _ _
    have r0 := cellOf hR3 0 (x := .bool false) rfl
    have r1 := cellOf hR3 1 (x := .int .i64 0) rfl
    have r2 := cellOf hR3 2 (x := .slice none 0 0) rfl
    have r3 := cellOf hR3 3 (x := .slice none 0 0) rfl
    have g0 := hR3.frozen 0
    have g1 := hR3.frozen 1
    have g2 := hR3.frozen 2
    have g3 := hR3.frozen 3
    clear h3 hR3 F3 hb3
    go_wp2
    refine bodyPost_ret (v := .tuple #[.agg #[.bool false, .int .i64 0, .slice none 0 0, .slice none 0 0], .int .i64 err]) (by simp [results, Try.results32, go_sem, r0, r1, r2, r3]) rfl (ReadRet.still H.out HOk.out (HBE.out _ _ _ _) HI.out)
end Go.Proofs.Ytffodgpafiifcaa
