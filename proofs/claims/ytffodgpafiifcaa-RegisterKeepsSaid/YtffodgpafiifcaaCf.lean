/-
  Play, of a right loop and numbers that are allowed.
-/
import Derived.Test.YtffodgpafiifcaaCe
namespace Go.Proofs.Ytffodgpafiifcaa
open Go.RowKit

theorem ownsRow_keptBut {S : Nat → Prop} {w w' : World} {base k n : Nat} {e : TypeId} {v : Value} {xs : List Value} (h : w.ownsRow base e k v n xs) (hk : KeptBut S w w') (hS : ∀ g cs, v.ownBlock = some g → Blk w g e cs → ¬ S g) : w'.ownsRow base e k v n xs := by
  refine ⟨h.1, ?_⟩
  rcases h.2 with h2 | ⟨g, cap, cur, rfl, hb, hg, r⟩
  · exact .inl h2
  · exact .inr ⟨g, cap, cur, rfl, hb, hk.blk hg (hS g cur rfl hg), r⟩
theorem Blk.ne {w : World} {a b : Nat} {s t : TypeId} {cs ds : Array Value} (h : Blk w a s cs) (k : Blk w b t ds) (hne : s ≠ t) : a ≠ b := fun e => by
  subst e
  have := h.symm.trans k
  simp at this
  exact hne this.2
/-- A row of another type stays when a control is called. -/
theorem Ctl.row {base C b k n : Nat} {w w' : World} {l : LoopD} {v v' u : Value} {q : List Int} {e : TypeId} {xs : List Value} (h : Ctl base w C l v q) (hk : CtlKept C v v' w w') (hr : w.ownsRow b e k u n xs) (h1 : e ≠ 3) (h2 : e ≠ 123) : w'.ownsRow b e k u n xs :=
  ownsRow_keptBut hr hk.1 fun g cs hg hB => by
    rintro (rfl | hs)
    · exact Blk.ne hB h.2.1 h2 rfl
    · obtain ⟨-, -, cs', hB'⟩ := h.2.2.block g hs.symm
      exact Blk.ne hB hB' h1 rfl
theorem Ctl.grew {base C : Nat} {w w' : World} {l : LoopD} {v : Value} {q : List Int} {e : TypeId} (h : Ctl base w C l v q) (hg : Grew e w w') (h1 : 3 ≠ e) (h2 : 123 ≠ e) : Ctl base w' C l v q :=
  ⟨h.1, h.2.1.grew hg h2, h.2.2.keep fun _ _ _ hB => hB.grew hg h1⟩
theorem CtlKept.below {base C : Nat} {w w' : World} {l : LoopD} {v v' : Value} {q : List Int} (h : Ctl base w C l v q) (hk : CtlKept C v v' w w') {B : Nat} (hB : B ≤ base) (hz : B ≤ w.heap.size) : Below B w w' :=
  hk.1.below (fun j hj => by
    rcases hj with rfl | hj
    · exact Nat.le_trans hB h.1
    · exact Nat.le_trans hB (h.2.2.block j hj.symm).1) hz

theorem Ctl.base_ {base b' C : Nat} {w : World} {l : LoopD} {v : Value} {q : List Int} (h : Ctl base w C l v q) (hb : b' ≤ base) : Ctl b' w C l v q := by
  refine ⟨Nat.le_trans hb h.1, h.2.1, h.2.2.1, ?_⟩
  rcases h.2.2.2 with h2 | ⟨g, o, cap, cur, h2, h3, r⟩
  · exact .inl h2
  · exact .inr ⟨g, o, cap, cur, h2, Nat.le_trans hb h3, r⟩
/-- A loop that is played. -/
structure PlayD where
  l : LoopD
  e : Int
  noise : List Int
  blur : List Int
  d : Nat
def PlayD.n (p : PlayD) (i : Nat) : Int := p.noise.getD i 0
def PlayD.b (p : PlayD) (i : Nat) : Int := p.blur.getD i 0
def PlayD.err (p : PlayD) (t : Nat) : Int := eD p.l.step p.n p.b p.e p.d t
def PlayD.move (p : PlayD) (t : Nat) : Int := uD p.l.step p.n p.b p.e t
def PlayD.queue (p : PlayD) (t : Nat) : List Int := qD p.l.step p.n p.b p.e p.d t
def PlayD.moms (p : PlayD) (k : Nat) : List (Int × Int) := (List.range k).map fun t => (p.err t, p.move t)
def momCells (l : List (Int × Int)) : List Value := l.flatMap fun x => [.int .i64 x.1, .int .i64 x.2]
structure PlayOk (p : PlayD) : Prop where
  ok : LoopOk p.l
  dead : p.l.dead = p.d
  e : p.e ≤ 1000000 ∧ -1000000 ≤ p.e
  len : p.blur.length = p.noise.length
  le : p.noise.length ≤ 5000
  noise : ∀ x ∈ p.noise, x ≤ p.l.noise ∧ -p.l.noise ≤ x
  blur : ∀ x ∈ p.blur, x ≤ p.l.blur ∧ -p.l.blur ≤ x
theorem getD_within {l : List Int} {m : Int} (hm : 0 ≤ m) (h : ∀ x ∈ l, x ≤ m ∧ -m ≤ x) (i : Nat) : l.getD i 0 ≤ m ∧ -m ≤ l.getD i 0 := by
  rw [List.getD_eq_getElem?_getD]
  cases hx : l[i]? with
  | none => simp; omega
  | some x => exact h x (List.mem_of_getElem? hx)
section
variable {p : PlayD}
theorem PlayOk.n_le (h : PlayOk p) (t : Nat) : p.n t ≤ p.l.noise ∧ -p.l.noise ≤ p.n t := getD_within h.ok.2.2.1 h.noise t
theorem PlayOk.b_le (h : PlayOk p) (t : Nat) : p.b t ≤ p.l.blur ∧ -p.l.blur ≤ p.b t := getD_within h.ok.2.2.2.2.1 h.blur t
theorem PlayOk.err_le (h : PlayOk p) {t : Nat} (ht : t ≤ 5001) : p.err t ≤ 100000000 ∧ -100000000 ≤ p.err t := by
  have := e_small (b := p.b) (e0 := p.e) h.ok h.n_le p.d t
  have := h.e
  unfold PlayD.err
  omega
theorem PlayOk.queue_le (h : PlayOk p) (t : Nat) : ∀ y ∈ p.queue t, y ≤ 10000 ∧ -10000 ≤ y := fun y hy => by
  obtain ⟨i, -, rfl⟩ := List.mem_map.1 hy
  have := U_le (n := p.n) (b := p.b) (e0 := p.e) h.ok ((t : Int) - p.d + i)
  have := h.ok.2.2.2.2.2.2.2.2
  omega
theorem PlayOk.move_le (h : PlayOk p) (t : Nat) : p.move t ≤ 10000 ∧ -10000 ≤ p.move t := by
  have := u_le (n := p.n) (b := p.b) (e0 := p.e) h.ok t
  have := h.ok.2.2.2.2.2.2.2.2
  unfold PlayD.move
  omega
theorem PlayOk.act_le (h : PlayOk p) (t : Int) : UD p.l.step p.n p.b p.e t ≤ 10000 ∧ -10000 ≤ UD p.l.step p.n p.b p.e t := by
  have := U_le (n := p.n) (b := p.b) (e0 := p.e) h.ok t
  have := h.ok.2.2.2.2.2.2.2.2
  omega
theorem PlayD.decided (p : PlayD) (t : Nat) : clampD p.l.step (p.err t + p.b t + (p.queue t).sum) = p.move t := by
  unfold PlayD.move uD PlayD.err eD PlayD.queue
  congr 1
  omega
theorem PlayD.next (p : PlayD) (t : Nat) : p.err (t + 1) = p.err t + (UD p.l.step p.n p.b p.e ((t : Int) - p.d) + p.n t) := by
  unfold PlayD.err; rw [eD_step]; omega
theorem PlayD.queue_len (p : PlayD) (t : Nat) : (p.queue t).length = p.d := qD_len _ _ _ _ _ _
theorem PlayD.queue_zero (p : PlayD) : p.queue 0 = List.replicate p.d 0 := qD_zero _ _ _ _ _
theorem PlayD.err_zero (p : PlayD) : p.err 0 = p.e := eD_zero _ _ _ _ _
theorem PlayD.moms_len (p : PlayD) (k : Nat) : (p.moms k).length = k := by simp [PlayD.moms]
theorem PlayD.moms_snoc (p : PlayD) (k : Nat) : p.moms (k + 1) = p.moms k ++ [(p.err k, p.move k)] := by unfold PlayD.moms; rw [List.range_succ, List.map_append]; rfl
theorem momCells_snoc (l : List (Int × Int)) (x : Int × Int) : momCells (l ++ [x]) = momCells l ++ [.int .i64 x.1, .int .i64 x.2] := by simp [momCells]
end
theorem infoMom : (Try.prog.info? 95).map (fun i => (i.zero, i.size, i.bytes)) = some (some (.agg #[.int .i64 0, .int .i64 0]), 2, 16) := by kernel_rfl
def OMoms (base : Nat) (w : World) (v : Value) (l : List (Int × Int)) : Prop := w.ownsRow base 95 2 v l.length (momCells l)

/-- What stands between two copies. -/
def PlaySt (w0 w : World) (p : PlayD) (C : Nat) (k : Nat) (m : Value) : Prop := (∃ v, Ctl w0.heap.size w C p.l v (p.queue k)) ∧ OMoms w0.heap.size w m (p.moms k) ∧ Below w0.heap.size w0 w

set_option maxRecDepth 100000 in
set_option maxHeartbeats 4000000 in
theorem Play_ok (p : PlayD) (h : PlayOk p) (vn vb : Value) (w : World) (hn : RInts w.heap.size w vn p.noise) (hb : RInts w.heap.size w vb p.blur) :
    Calls Try.prog 19 #[p.l.val, .int .i64 p.e, vn, vb] w fun e w' => ∃ u, e = .returned (.tuple #[u, .int .i64 0]) ∧ OMoms w.heap.size w' u (p.moms p.noise.length) ∧ Below w.heap.size w w' := by
  obtain ⟨i0, hi, hz0, hz1, hz2⟩ := info_parts infoMom
  have HP := Lib.hid h
  have HN := Lib.hid hn
  have HBl := Lib.hid hb
  obtain ⟨An, cn, rfl, hlm, hAn⟩ := hn.open_
  obtain ⟨Ab, cb, rfl, -, hAb⟩ := hb.open_
  have HAn := Lib.hid hAn
  have HAb := Lib.hid hAb
  have hl5 := h.le
  obtain ⟨n, hnl⟩ : ∃ n, p.noise.length = n := ⟨_, rfl⟩
  have hbl : p.blur.length = n := h.len.trans hnl
  have Hnl := Lib.hid hnl
  have Hbl := Lib.hid hbl
  rw [hbl]
  rw [hnl] at hl5 ⊢
  obtain ⟨w1, e1, B1, V1⟩ : ∃ w1, w.alloc (.cells p.l.cells 26) = w1 ∧ Below w.heap.size w w1 ∧ Blk w1 w.heap.size 26 p.l.cells := ⟨_, rfl, below_alloc _ _, Blk.new _ _ _⟩
  unfold LoopD.cells at e1 V1
  have E1 := Lib.hid e1
  have v0 := cellOf V1 0 (x := .int .i64 p.l.dead) rfl
  have v1 := cellOf V1 1 (x := .int .i64 p.l.noise) rfl
  have v2 := cellOf V1 2 (x := .int .i64 p.l.blur) rfl
  have v3 := cellOf V1 3 (x := .int .i64 p.l.step) rfl
  have C1 := Lib.hid (Check_any p.l w1)
  rw [checkE_ok h.ok] at C1
  unfold LoopD.val at C1 ⊢
  clear e1 h hn hb hAn hAb hnl hbl hlm
  go_enter Try.func19, Try.ntmps19
  go_upto_region 1 with fail
  rw [E1.out]
  go_wp2_with fail
  refine C1.out.mono ?_
  rintro e w2 ⟨rfl, hb2⟩
  have V2 := V1.below hb2 V1.lt
  have B2 := B1.trans (hb2.mono B1.size)
  clear C1 v0 v1 v2 v3 V1 B1 hb2
  obtain ⟨w3, e3, hb3, V3⟩ : ∃ w3, w2.alloc (.cells #[.int .i64 p.e] 3) = w3 ∧ Below w2.heap.size w2 w3 ∧ Blk w3 w2.heap.size 3 #[.int .i64 p.e] := ⟨_, rfl, below_alloc _ _, Blk.new _ _ _⟩
  have E3 := Lib.hid e3
  have B3 := B2.trans (hb3.mono B2.size)
  have W3 := V2.below hb3 V2.lt
  have CA := Lib.hid (areWithin_any 1000000 _ [p.e] w3 ⟨by omega, by omega⟩ (rints_one V3) (fun x hx => by rw [List.mem_singleton] at hx; rw [hx]; have := HP.out.e; omega))
  rw [decide_eq_true (by rw [farD_one]; have := HP.out.e; omega)] at CA
  have CN := Lib.hid (areWithin_any p.l.noise _ p.noise w3 ⟨HP.out.ok.2.2.1, by have := HP.out.ok.2.2.2.1; omega⟩ ((HN.out.below B3).more B3.size) (inI_all ⟨HP.out.ok.2.2.1, by have := HP.out.ok.2.2.2.1; omega⟩ HP.out.noise))
  rw [decide_eq_true (within_all HP.out.ok.2.2.1 HP.out.noise)] at CN
  have CB := Lib.hid (areWithin_any p.l.blur _ p.blur w3 ⟨HP.out.ok.2.2.2.2.1, by have := HP.out.ok.2.2.2.2.2.1; omega⟩ ((HBl.out.below B3).more B3.size) (inI_all ⟨HP.out.ok.2.2.2.2.1, by have := HP.out.ok.2.2.2.2.2.1; omega⟩ HP.out.blur))
  rw [decide_eq_true (within_all HP.out.ok.2.2.2.2.1 HP.out.blur)] at CB
  have v0 := cellOf W3 0 (x := .int .i64 p.l.dead) rfl
  have v1 := cellOf W3 1 (x := .int .i64 p.l.noise) rfl
  have v2 := cellOf W3 2 (x := .int .i64 p.l.blur) rfl
  have v3 := cellOf W3 3 (x := .int .i64 p.l.step) rfl
  rw [Hnl.out] at CN
  rw [Hbl.out] at CB
  have CC := Lib.hid (newControl_any p.l p.d HP.out.dead (by have := HP.out.ok.2.1; have := HP.out.dead; omega) w3)
  clear e3 V2 V3 W3 B2 hb3
  go_wp2_with fail
  rw [E3.out]
  refine CA.out.mono ?_
  rintro e w' ⟨rfl, rfl⟩
  go_wp2_with fail
  refine CN.out.mono ?_
  rintro e w' ⟨rfl, rfl⟩
  go_wp2_with fail
  refine CB.out.mono ?_
  rintro e w' ⟨rfl, rfl⟩
  unfold LoopD.val at CC
  go_wp2_with fail
  refine CC.out.mono ?_
  rintro e w4 ⟨C, v, rfl, hc4, hb4⟩
  have HS : Hid (PlaySt w w4 p C 0 (.slice none 0 0)) := ⟨⟨v, by rw [p.queue_zero]; exact hc4.base_ B3.size⟩, World.ownsRow_nil _ _ _ _, B3.trans (hb4.mono B3.size)⟩
  have HE : Hid (p.e = p.err 0) := p.err_zero.symm
  clear CA CN CB CC v0 v1 v2 v3 E1 E3 hc4 hb4 B3
  go_wp2
  go_loopw [1, 12, 13, 14, 52] (fun e m _ _ i wr => ∃ k : Nat, k ≤ n ∧ i = .int .i64 k ∧ e = .int .i64 (p.err k) ∧ PlaySt w wr p C k m) (fun _ _ _ _ i _ => n - (intOf i).toNat)
  case atStart => exact ⟨0, Nat.zero_le _, rfl, by rw [HE.out], HS.out⟩
  case round =>
    obtain ⟨k, hk, rfl, rfl, hst⟩ := hrel
    by_cases hlt : k < n
    · obtain ⟨⟨v2, hc⟩, hm, hb⟩ := hst
      obtain ⟨g, o, y, rfl, hg1, cy, hy⟩ := HAn.out k (by rw [Hnl.out]; exact hlt)
      obtain ⟨g2, o2, z, rfl, hg2, cz, hz⟩ := HAb.out k (by rw [Hbl.out]; exact hlt)
      replace hy : Hid (p.n k = y) := hy
      replace hz : Hid (p.b k = z) := hz
      have e1 := HP.out.err_le (t := k) (by omega)
      have e2 := HP.out.b_le k
      have e3 := HP.out.n_le k
      rw [hz.out] at e2
      rw [hy.out] at e3
      have e4 := HP.out.ok.2.2.2.1
      have e5 := HP.out.ok.2.2.2.2.2.1
      have cz' := (hb.cell (p := ⟨g2, o2 + k, none⟩) hg2).trans cz
      have C1 := Lib.hid (decide_any _ C p.l v2 (p.queue k) (p.err k + z) wr hc (by rw [p.queue_len]; have := HP.out.ok.2.1; have := HP.out.dead; omega) ⟨HP.out.ok.2.2.2.2.2.2.1, HP.out.ok.2.2.2.2.2.2.2.2⟩ (HP.out.queue_le k) (by omega))
      have hdec := p.decided k
      rw [hz.out] at hdec
      rw [hdec] at C1
      replace hm : wr.ownsRow w.heap.size 95 2 u12 k (momCells (p.moms k)) := by have h1 := hm; unfold OMoms at h1; rw [p.moms_len] at h1; exact h1
      obtain ⟨A, cA, rfl⟩ := ownsRow_form hm
      have HCt := Lib.hid hc
      have HM := Lib.hid hm
      have HB := Lib.hid hb
      clear hc hm hb hdec cz
      go_wp2_with fail
      refine C1.out.mono ?_
      rintro e w5 ⟨rfl, hd5⟩
      have hb5 : Below wr.heap.size wr w5 := by obtain ⟨m, rfl⟩ := hd5; exact below_drewN (Below.refl _ _) m
      have HM5 := Lib.hid (ownsRow_below HM.out hb5)
      have HB5 := Lib.hid (HB.out.trans (hb5.mono HB.out.size))
      have HC5 := Lib.hid (HCt.out.below hb5)
      have hz5 := HB5.out.size
      have HAp : Hid (∀ v' w6, w6.ownsRow w.heap.size 95 2 v' (k + 1) (momCells (p.moms k) ++ [.int .i64 (p.err k), .int .i64 (p.move k)]) → (w5.alloc (.cells #[.int .i64 (p.err k), .int .i64 (p.move k)] 95)).grownBy w6 (Value.slice A k cA).ownBlock →
          Ctl w.heap.size w6 C p.l v2 (p.queue k) ∧ OMoms w.heap.size w6 v' (p.moms (k + 1)) ∧ Below w.heap.size w w6) := fun v' w6 ho hg => by
        refine ⟨HC5.out.grew (Grew.of_append HM5.out hg) (by decide) (by decide), ?_, ?_⟩
        · unfold OMoms
          rw [p.moms_len, p.moms_snoc, momCells_snoc]
          exact ho
        · exact (HB5.out.alloc hz5 _).grown hg (by simp; omega) fun j hj => (HM5.out.lt j hj).1
      clear C1 hd5 hb5 cz' cy
      go_wp2_with (at_builtin; refine wpList_append_own _ rfl _ _ 36 rfl w.heap.size 95 i0 _ 2 16 Try.underlying36 hi hz0 hz1 hz2 rfl (by decide) (.slice A k cA) k _ rfl (HM5.out.alloc _) ⟨w5.heap.size, 0, none⟩ 1 1 [.int .i64 (p.err k), .int .i64 (p.move k)] rfl rfl (cells_new _ _ _) (by simp [Value.oneCell']) (by simp only [maxLen]; omega) (by omega) (by simp; omega) ?_; intro v' w6 hown hgrow _; have HA := Lib.hid (HAp.out v' w6 hown hgrow); clear hown hgrow)
      have hB6 := HA.out.2.2
      have cy6 := (hB6.cell (p := ⟨g, o + k, none⟩) hg1).trans (by have := HAn.out k (by rw [Hnl.out]; exact hlt); obtain ⟨g', o', y', h1, -, h2, h3⟩ := this; cases h1; replace h3 : Hid (p.n k = y') := h3; rw [h2, ← h3.out, hy.out] : w.cell? ⟨g, o + k, none⟩ = some (.int .i64 y))
      have HB6 := Lib.hid hB6
      have hz6 := hB6.size
      obtain ⟨U, hU⟩ : ∃ U, UD p.l.step p.n p.b p.e ((k : Int) - p.d) = U := ⟨_, rfl⟩
      have hU2 := HP.out.act_le ((k : Int) - p.d)
      have hnx := p.next k
      have hsn : p.queue k ++ [p.move k] = _ := qD_snoc p.l.step p.n p.b p.e p.d k
      rw [hU] at hU2 hnx hsn
      rw [hy.out] at hnx
      have HNx := Lib.hid hnx
      have CD : Hid (∀ X, Below w6.heap.size w6 X → Calls Try.prog 47 #[.pointer (some ⟨C, 0, none⟩), .int .i64 (p.move k)] X (fun e X' => e = .returned (.int .i64 U) ∧ X'.cell? ⟨g, o + k, none⟩ = some (.int .i64 y) ∧ PlaySt w X' p C (k + 1) v')) := fun X hX => by
        have hc := HA.out.1.below hX
        refine (delay_any _ C p.l v2 U (p.move k) (p.queue k) (p.queue (k + 1)) X hc (by rw [p.queue_len]; have := HP.out.ok.2.1; have := HP.out.dead; omega) hsn).mono ?_
        rintro e X' ⟨u, v3, rfl, rfl, hc', hk'⟩
        have hbX : Below w.heap.size w X := HB6.out.trans (hX.mono hz6)
        have hbX' : Below w.heap.size w X' := hbX.trans (hk'.below hc (Nat.le_refl _) hbX.size)
        refine ⟨rfl, ?_, ⟨v3, hc'⟩, ?_, hbX'⟩
        · have h0 := HAn.out k (by rw [Hnl.out]; exact hlt)
          obtain ⟨g', o', y', h1, -, h2, h3⟩ := h0
          cases h1
          replace h3 : Hid (p.n k = y') := h3
          rw [(hbX'.cell (p := ⟨g, o + k, none⟩) hg1), h2, ← h3.out, hy.out]
        · exact hc.row hk' (ownsRow_below HA.out.2.1 hX) (by decide) (by decide)
      obtain ⟨hU1, hU2⟩ := hU2
      obtain ⟨e11, e12⟩ := e1
      obtain ⟨e31, e32⟩ := e3
      have kw1 : IntKind.i64.wrap (U + y) = U + y := IntWalk.i64_in _ ⟨by omega, by omega⟩
      have kw2 : IntKind.i64.wrap (p.err k + (U + y)) = p.err k + (U + y) := IntWalk.i64_in _ ⟨by omega, by omega⟩
      have ik1 : (0 : Int) ≤ (k : Int) := by omega
      have ik2 : (k : Int) < (n : Int) := by omega
      clear hB6 hU hnx hsn HA HAp HM5 HB5 HC5 HM HB HCt e2 e31 e32 e11 e12 e4 e5 hU1 hU2 hz5 hg2 hz
      go_region_held3 (fun X => X.cell? ⟨g, o + k, none⟩ = some (.int .i64 y))
        (first | exact hcy7 | go_keep)
        (first | (go_at_call 47; refine (CD.out _ (by first | exact Below.refl _ _ | exact (Below.refl _ _).drew)).mono ?_; rintro e w7 ⟨rfl, hcy7, hst7⟩))
      all_goals
        clear kw1 kw2
        go_wp2
        go_roundw
        case rel => exact ⟨k + 1, by omega, by go_num, by rw [HNx.out], hst7⟩
        case measure => simp [intOf]; omega
    · have hk' : k = n := by omega
      subst hk'
      obtain ⟨-, hm, hb⟩ := hst
      have HR : Hid (OMoms w.heap.size wr u12 (p.moms k) ∧ Below w.heap.size w wr) := ⟨hm, hb⟩
      clear hm hb
      go_wp2
      go_ret2
      exact ⟨_, rfl, HR.out⟩
end Go.Proofs.Ytffodgpafiifcaa
