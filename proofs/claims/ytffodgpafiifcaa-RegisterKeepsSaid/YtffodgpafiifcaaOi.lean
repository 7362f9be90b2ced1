/-
  New.
-/
import Derived.Test.YtffodgpafiifcaaOh
import Derived.Test.YtffodgpafiifcaaDf
import Derived.Test.YtffodgpafiifcaaIa
namespace Go.Proofs.Ytffodgpafiifcaa
open Go.RowKit

def loopCells (ls : List LoopD) : List Value := ls.flatMap fun l => [.int .i64 l.dead, .int .i64 l.noise, .int .i64 l.blur, .int .i64 l.step]
def RLoops (B : Nat) (w : World) (v : Value) (ls : List LoopD) : Prop := Rd B w 4 v ls.length (loopCells ls)
theorem RLoops.at {B : Nat} {w : World} {A : Option Addr} {n c : Nat} {ls : List LoopD} (h : RLoops B w (.slice A n c) ls) {k : Nat} {l : LoopD} (hl : ls[k]? = some l) :
    ∃ g o, A = some ⟨g, o, none⟩ ∧ g < B ∧ w.cell? ⟨g, o + k * 4, none⟩ = some (.int .i64 l.dead) ∧ w.cell? ⟨g, o + k * 4 + 1, none⟩ = some (.int .i64 l.noise) ∧ w.cell? ⟨g, o + k * 4 + 2, none⟩ = some (.int .i64 l.blur) ∧ w.cell? ⟨g, o + k * 4 + 3, none⟩ = some (.int .i64 l.step) := by
  have hk := (List.getElem?_eq_some_iff.1 hl).1
  obtain ⟨A', c', e', -, hlm, hr⟩ := h
  cases e'
  obtain ⟨g, o, hA, hb, hcl⟩ := hr (by omega)
  have hf := fun j (hj : j < 4) => flat_at (fun l : LoopD => [Value.int .i64 l.dead, .int .i64 l.noise, .int .i64 l.blur, .int .i64 l.step]) 4 (fun _ => rfl) ls k j _ hl hj
  refine ⟨g, o, hA, hb, ?_, ?_, ?_, ?_⟩
  · exact hcl (k * 4) _ (by have := hf 0 (by omega); simpa [loopCells] using this)
  · have := hcl (k * 4 + 1) (.int .i64 l.noise) (by have := hf 1 (by omega); simpa [loopCells] using this)
    rwa [← Nat.add_assoc] at this
  · have := hcl (k * 4 + 2) (.int .i64 l.blur) (by have := hf 2 (by omega); simpa [loopCells] using this)
    rwa [← Nat.add_assoc] at this
  · have := hcl (k * 4 + 3) (.int .i64 l.step) (by have := hf 3 (by omega); simpa [loopCells] using this)
    rwa [← Nat.add_assoc] at this
/-- What New must answer. -/
def NewIs (marks : List Int) (loops : List LoopD) (W limit code : Int) : Prop :=
  (¬ (2 ≤ marks.length ∧ marks.length ≤ 12) ∧ code = 2) ∨ ((2 ≤ marks.length ∧ marks.length ≤ 12) ∧ (∃ l ∈ loops, ¬ LoopOk l) ∧ code = 60) ∨
  ((2 ≤ marks.length ∧ marks.length ≤ 12) ∧ (∀ l ∈ loops, LoopOk l) ∧ loops.length + 1 ≠ marks.length ∧ code = 1) ∨
  ((2 ≤ marks.length ∧ marks.length ≤ 12) ∧ (∀ l ∈ loops, LoopOk l) ∧ loops.length + 1 = marks.length ∧ ¬ (AllowOk marks W ∧ 0 ≤ limit ∧ limit ≤ 1000000) ∧ code = 6) ∨
  ((2 ≤ marks.length ∧ marks.length ≤ 12) ∧ (∀ l ∈ loops, LoopOk l) ∧ loops.length + 1 = marks.length ∧ (AllowOk marks W ∧ 0 ≤ limit ∧ limit ≤ 1000000) ∧ code = 0)
theorem NewIs.one {marks : List Int} {loops : List LoopD} {W limit c c' : Int} (h : NewIs marks loops W limit c) (h' : NewIs marks loops W limit c') : c = c' := by
  rcases h with ⟨h1, rfl⟩ | ⟨h1, ⟨l, hl, hn⟩, rfl⟩ | ⟨h1, h2, h3, rfl⟩ | ⟨h1, h2, h3, h4, rfl⟩ | ⟨h1, h2, h3, h4, rfl⟩ <;>
  rcases h' with ⟨g1, rfl⟩ | ⟨g1, ⟨m, hm, gn⟩, rfl⟩ | ⟨g1, g2, g3, rfl⟩ | ⟨g1, g2, g3, g4, rfl⟩ | ⟨g1, g2, g3, g4, rfl⟩ <;>
  first | rfl | exact absurd g1 h1 | exact absurd h1 g1 | exact absurd (g2 l hl) hn | exact absurd (h2 m hm) gn | exact absurd h3 g3 | exact absurd g3 h3 | exact absurd h4 g4 | exact absurd g4 h4
def desk0 (marks : List Int) (loops : List LoopD) (W limit : Int) : DeskD := ⟨marks, W, loops, limit, []⟩
def NewRet (marks : List Int) (loops : List LoopD) (W limit : Int) (w : World) (e : Ending) (w' : World) : Prop :=
  ((∃ code, code ≠ 0 ∧ NewIs marks loops W limit code ∧ e = .returned (.tuple #[.pointer none, .int .i64 code])) ∨
   (NewIs marks loops W limit 0 ∧ ∃ (D : Nat) (mv cv : Value) (Cs : List Nat) (vs : List Value), e = .returned (.tuple #[.pointer (some ⟨D, 0, none⟩), .int .i64 0]) ∧ DeskOk (desk0 marks loops W limit) ∧
     DeskAt w.heap.size w' D (desk0 marks loops W limit) mv cv (.slice none 0 0) Cs vs [])) ∧ Below w.heap.size w w'
/-- A new control beside the others. -/
theorem CtlsAt.snoc {base C : Nat} {w w' : World} {loops : List LoopD} {Q : Nat → List Int} {Cs : List Nat} {vs : List Value} {l : LoopD} {v : Value} (h : CtlsAt base w loops Q Cs vs) (hb : Below w.heap.size w w') (hz : base ≤ w.heap.size) (hc : Ctl w.heap.size w' C l v (Q loops.length)) :
    CtlsAt base w' (loops ++ [l]) Q (Cs ++ [C]) (vs ++ [v]) := by
  have h' : CtlsAt base w' loops Q Cs vs := h.keep (S := fun _ => False) (KeptBut.of_below hb) fun _ _ => id
  have hC : w.heap.size ≤ C := hc.1
  have hv : ∀ k, v.ownBlock = some k → w.heap.size ≤ k := fun k hk => (hc.2.2.block k hk).1
  have hCs : ∀ i C', Cs[i]? = some C' → C' < w.heap.size := fun i C' hi => (h.lt (.inl (List.mem_of_getElem? hi))).2
  have hvs : ∀ (i : Nat) (u : Value) (k : Nat), vs[i]? = some u → u.ownBlock = some k → k < w.heap.size := fun i u k hi hk => (h.lt (.inr ⟨u, List.mem_of_getElem? hi, hk⟩)).2
  have split : ∀ {α : Type} {xs : List α} {y z : α} {i : Nat}, (xs ++ [y])[i]? = some z → (i < xs.length ∧ xs[i]? = some z) ∨ (i = xs.length ∧ z = y) := fun hi => snoc_get hi
  refine ⟨by simp [h.lenC], by simp [h.lenV], fun i l' C' v' hl hC' hv' => ?_, fun i j C' hi hj => ?_, fun i j u u' k hi hj hk hk' => ?_⟩
  · rcases split hl with ⟨hi, hl⟩ | ⟨hi, rfl⟩
    · rcases split hC' with ⟨-, hC'⟩ | ⟨hi', -⟩
      · rcases split hv' with ⟨-, hv'⟩ | ⟨hi', -⟩
        · exact h'.ctl i l' C' v' hl hC' hv'
        · have := h.lenV; omega
      · have := h.lenC; omega
    · rcases split hC' with ⟨hi', -⟩ | ⟨-, rfl⟩
      · have := h.lenC; omega
      · rcases split hv' with ⟨hi', -⟩ | ⟨-, rfl⟩
        · have := h.lenV; omega
        · rw [hi]
          exact hc.base_ hz
  · rcases split hi with ⟨h1, h2⟩ | ⟨h1, h2⟩ <;> rcases split hj with ⟨g1, g2⟩ | ⟨g1, g2⟩
    · exact h.apC i j C' h2 g2
    · have := hCs i C' h2; omega
    · have := hCs j C' g2; omega
    · omega
  · rcases split hi with ⟨h1, h2⟩ | ⟨h1, rfl⟩ <;> rcases split hj with ⟨g1, g2⟩ | ⟨g1, rfl⟩
    · exact h.apV i j u u' k h2 g2 hk hk'
    · have := hvs i u k h2 hk
      have := hv k hk'
      omega
    · have := hvs j u' k g2 hk'
      have := hv k hk
      omega
    · omega
theorem CtlsAt.nil (base : Nat) (w : World) (Q : Nat → List Int) : CtlsAt base w [] Q [] [] := ⟨rfl, rfl, fun i l C v h => by simp at h, fun i j C h => by simp at h, fun i j v v' k h => by simp at h⟩
theorem ctlF_snoc {Cs : List Nat} {vs : List Value} {C k : Nat} {v : Value} (h : CtlF (Cs ++ [C]) (vs ++ [v]) k) : CtlF Cs vs k ∨ k = C ∨ v.ownBlock = some k := by
  rcases h with h | ⟨u, hu, hk⟩
  · rcases List.mem_append.1 h with h | h
    · exact .inl (.inl h)
    · exact .inr (.inl (by simpa using h))
  · rcases List.mem_append.1 hu with hu | hu
    · exact .inl (.inr ⟨u, hu, hk⟩)
    · rw [List.mem_singleton] at hu
      subst hu
      exact .inr (.inr hk)
/-- The desk in the making. -/
structure MkSt (w : World) (D : Nat) (marks : List Int) (loops : List LoopD) (W limit : Int) (mv : Value) (k : Nat) (cv : Value) (Cs : List Nat) (vs : List Value) (X : World) : Prop where
  low : w.heap.size ≤ D
  desk : Blk X D 90 #[mv, .int .i64 W, .pointer (some ⟨D, 0, none⟩), cv, .int .i64 limit, .slice none 0 0]
  mrow : OInts w.heap.size X mv marks
  ptrs : X.ownsRow w.heap.size 108 1 cv k (Cs.map fun C => .pointer (some ⟨C, 0, none⟩))
  ctls : CtlsAt w.heap.size X (loops.take k) (Qd (desk0 marks loops W limit)) Cs vs
  apart : ∀ j, mv.ownBlock = some j → ¬ CtlF Cs vs j
  below : Below w.heap.size w X
theorem MkSt.done {w X : World} {D n : Nat} {marks : List Int} {loops : List LoopD} {W limit : Int} {mv cv : Value} {Cs : List Nat} {vs : List Value} (h : MkSt w D marks loops W limit mv n cv Cs vs X) (hn : loops.length = n) :
    DeskAt w.heap.size X D (desk0 marks loops W limit) mv cv (.slice none 0 0) Cs vs [] := by
  refine ⟨h.low, h.desk, h.mrow, ?_, ?_, World.ownsRow_nil _ _ _ _, rfl, fun i c e hc => by simp [desk0] at hc, fun k hk => ?_⟩
  · have := h.ptrs
    show X.ownsRow _ _ _ _ loops.length _
    rw [hn]
    exact this
  · have := h.ctls
    rw [← hn, List.take_of_length_le (Nat.le_refl _)] at this
    exact this
  · rcases hk with hk | ⟨e, he, -⟩
    · exact h.apart k hk
    · simp at he
theorem Qd0 {marks : List Int} {loops : List LoopD} {W limit : Int} {k : Nat} {l : LoopD} (h : loops[k]? = some l) : Qd (desk0 marks loops W limit) k = List.replicate l.dead.toNat 0 := by
  rw [Qd_at (d := desk0 marks loops W limit) h]
  exact queueD_nil _

theorem MkSt.still {w X Y : World} {D k : Nat} {marks : List Int} {loops : List LoopD} {W limit : Int} {mv cv : Value} {Cs : List Nat} {vs : List Value} (h : MkSt w D marks loops W limit mv k cv Cs vs X) (hb : Below X.heap.size X Y) : MkSt w D marks loops W limit mv k cv Cs vs Y :=
  ⟨h.low, h.desk.below hb h.desk.lt, ownsRow_below h.mrow hb, ownsRow_below h.ptrs hb, h.ctls.keep (S := fun _ => False) (KeptBut.of_below hb) fun _ _ => id, h.apart, h.below.trans (hb.mono h.below.size)⟩
theorem MkSt.next {w X Y Z : World} {D k C gp cap : Nat} {marks : List Int} {loops : List LoopD} {W limit : Int} {mv cv v : Value} {Cs : List Nat} {vs : List Value} {l : LoopD} (h : MkSt w D marks loops W limit mv k cv Cs vs X) (hl : loops[k]? = some l)
    (hb : Below X.heap.size X Y) (hc : Ctl X.heap.size Y C l v (List.replicate l.dead.toNat 0))
    (hrow : Z.ownsRow w.heap.size 108 1 (.slice (some ⟨gp, 0, none⟩) (k + 1) cap) (k + 1) ((Cs.map fun C => Value.pointer (some ⟨C, 0, none⟩)) ++ [.pointer (some ⟨C, 0, none⟩)]))
    (hgrow : (Y.alloc (.cells #[.pointer (some ⟨C, 0, none⟩)] 108)).grownBy Z cv.ownBlock) :
    MkSt w D marks loops W limit mv (k + 1) (.slice (some ⟨gp, 0, none⟩) (k + 1) cap) (Cs ++ [C]) (vs ++ [v]) (Z.setCell ⟨D, 3, none⟩ (.slice (some ⟨gp, 0, none⟩) (k + 1) cap)) := by
  have hzw : w.heap.size ≤ X.heap.size := h.below.size
  have hcY : CtlsAt w.heap.size Y (loops.take (k + 1)) (Qd (desk0 marks loops W limit)) (Cs ++ [C]) (vs ++ [v]) := by
    rw [take_one hl]
    refine h.ctls.snoc hb hzw ?_
    have hk : (loops.take k).length = k := by
      have := (List.getElem?_eq_some_iff.1 hl).1
      rw [List.length_take]; omega
    rw [hk, Qd0 hl]
    exact hc
  have hpY := ownsRow_below h.ptrs hb
  have hdY := h.desk.below hb h.desk.lt
  have hgr : Grew 108 Y Z := (Grew.of_below (below_alloc Y _)).trans fun b cs' t fr hcc hne => by
    refine hgrow.block b (Array.getElem?_eq_some_iff.1 hcc).1 fun he => ?_
    rcases hpY.2 with ⟨rfl, -⟩ | ⟨g', c', cur, rfl, -, hB, -⟩
    · cases he
    · obtain rfl : b = g' := by injection he
      have h9 := (Below.heap_alloc Y (.cells #[.pointer (some ⟨C, 0, none⟩)] 108) b (Array.getElem?_eq_some_iff.1 hB).1).trans hB
      rw [h9] at hcc
      injection hcc with hcc
      injection hcc with hc1 hc2
      exact hne hc2.symm
  have hdZ := hdY.grew hgr (by decide)
  have hgs : ∀ u, Grew 90 Z (Z.setCell ⟨D, 3, none⟩ u) := fun u => Grew.set hdZ 3 u
  have hKZ : KeptBut (fun j => cv.ownBlock = some j) Y Z := (KeptBut.of_below (below_alloc Y _)).trans (KeptBut.grown (S := fun j => cv.ownBlock = some j) hgrow fun j hj => hj.symm) fun i _ hi => hi
  refine ⟨h.low, hdZ.put 3 _, ownsRow_grew (ownsRow_grew (ownsRow_below h.mrow hb) hgr (by decide)) (hgs _) (by decide), ?_, ?_, fun j hj hf => ?_, ?_⟩
  · rw [List.map_append]
    exact ownsRow_grew hrow (hgs _) (by decide)
  · refine (hcY.keep hKZ fun j hj he => ?_).keep (S := fun j => j = D) (KeptBut.setCell (S := fun j => j = D) (p := ⟨D, 3, none⟩) rfl _) fun j hj he => ?_
    · rcases hpY.2 with ⟨rfl, -⟩ | ⟨g', c', cur, rfl, -, hB, -⟩
      · cases he
      · obtain rfl : g' = j := by injection he
        exact hcY.notF (t := 108) (cs := cur) hB (by decide) (by decide) hj
    · subst he
      exact hcY.notF hdY (by decide) (by decide) hj
  · have hlt := (h.mrow.lt j hj).2
    rcases ctlF_snoc hf with h9 | h9 | h9
    · exact h.apart j hj h9
    · have := hc.1
      omega
    · have := (hc.2.2.block j h9).1
      omega
  · have b1 : Below w.heap.size w Y := h.below.trans (hb.mono hzw)
    have b2 : Below w.heap.size w Z := (b1.alloc b1.size _).grown hgrow (by have := b1.size; simp; omega) fun j hj => (hpY.lt j hj).1
    exact b2.trans (below_far (Below.refl _ _) h.low)

set_option maxRecDepth 100000 in
set_option maxHeartbeats 8000000 in
theorem New_any (vm vl : Value) (marks : List Int) (loops : List LoopD) (W limit : Int) (w : World) (hm : RInts w.heap.size w vm marks) (hl : RLoops w.heap.size w vl loops) (hlm : marks.length ≤ 1000000) (hll : loops.length ≤ 1000000) :
    Calls Try.prog 30 #[vm, vl, .int .i64 W, .int .i64 limit] w (NewRet marks loops W limit w) := by
  have HM := Lib.hid hm
  have HL := Lib.hid hl
  obtain ⟨Am, cm, rfl, -⟩ := slice_len hm
  obtain ⟨Al, cl, rfl, -⟩ := slice_len hl
  obtain ⟨nm, hnm⟩ : ∃ n, marks.length = n := ⟨_, rfl⟩
  obtain ⟨nl, hnl⟩ : ∃ n, loops.length = n := ⟨_, rfl⟩
  have HNM := Lib.hid hnm
  have HNL := Lib.hid hnl
  have CCl := Lib.hid (cloneInts_any _ marks w hm hlm)
  rw [hnm] at hlm CCl HM ⊢
  rw [hnl] at hll HL ⊢
  clear hm hl hnm hnl
  go_enter Try.func30, Try.ntmps30
  go_wp2_with fail
  refine CCl.out.mono ?_
  rintro _ w1 ⟨um, rfl, hum, hb1⟩
  obtain ⟨Au, cu, rfl⟩ : ∃ A c, um = .slice A nm c := by
    obtain ⟨A, c, e⟩ := ownsRow_form hum
    exact ⟨A, c, by rw [e, HNM.out]⟩
  obtain ⟨w2, e2, B2, K2⟩ : ∃ w2, w1.alloc (.cells #[.slice Au nm cu, .int .i64 W] 87) = w2 ∧ Below w1.heap.size w1 w2 ∧ Blk w2 w1.heap.size 87 #[.slice Au nm cu, .int .i64 W] := ⟨_, rfl, below_alloc _ _, Blk.new _ _ _⟩
  have E2 := Lib.hid e2
  have HB2 := Lib.hid (hb1.trans (B2.mono hb1.size))
  have HU2 : Hid (OInts w.heap.size w2 (.slice Au nm cu) marks) := Lib.hid (ownsRow_below hum B2)
  have HK2 := Lib.hid K2
  have l0 := cellOf K2 0 (x := .slice Au nm cu) rfl
  have l1 := cellOf K2 1 (x := .int .i64 W) rfl
  clear e2 B2 K2 hb1 hum CCl
  go_upto_region 2 with fail
  rw [E2.out]
  by_cases hmany : 2 ≤ nm ∧ nm ≤ 12
  case neg =>
    have CH := Lib.hid (hasMarks_no Au nm cu W hmany w2)
    have HI : Hid (NewIs marks loops W limit 2) := Lib.hid (.inl ⟨by rw [HNM.out]; exact hmany, rfl⟩)
    go_wp2_with fail
    refine CH.out.mono ?_
    rintro _ w3 ⟨rfl, hb3⟩
    have HBe := Lib.hid (HB2.out.trans (hb3.mono HB2.out.size))
    clear hb3 CH l0 l1
    go_wp2
    refine bodyPost_ret (v := .tuple #[.pointer none, .int .i64 2]) (by simp [results, Try.results30, go_sem]) rfl ⟨.inl ⟨2, by omega, HI.out, rfl⟩, HBe.out⟩
  have CH := Lib.hid (hasMarks_yes Au nm cu W hmany w2)
  have HMany : Hid (2 ≤ marks.length ∧ marks.length ≤ 12) := Lib.hid (by rw [HNM.out]; exact hmany)
  go_wp2_with fail
  refine CH.out.mono ?_
  rintro _ w3 ⟨rfl, hb3⟩
  have HB3 := Lib.hid (HB2.out.trans (hb3.mono HB2.out.size))
  have HU3 := Lib.hid (ownsRow_below HU2.out hb3)
  have HK3 := Lib.hid (HK2.out.below hb3 HK2.out.lt)
  clear hb3 CH l0 l1 HU2 HK2 HB2
  go_wp2
  go_loopw [12, 13, 26] (fun _ _ iq wr => ∃ k : Nat, k ≤ nl ∧ iq = .int .i64 k ∧ (∀ l ∈ loops.take k, LoopOk l) ∧ Below w3.heap.size w3 wr) (fun _ _ iq _ => nl - (intOf iq).toNat)
  case atStart => exact ⟨0, Nat.zero_le _, rfl, by simp, Below.refl _ _⟩
  case round =>
    obtain ⟨k, hk, rfl, hok, hb⟩ := hrel
    have HOks := Lib.hid hok
    have HBr := Lib.hid hb
    have hww := HB3.out.trans (hb.mono HB3.out.size)
    clear hok
    by_cases hlt : k < nl
    · obtain ⟨l, hl⟩ : ∃ l, loops[k]? = some l := ⟨_, List.getElem?_eq_getElem (by rw [HNL.out]; exact hlt)⟩
      obtain ⟨g, o, rfl, hg, c0, c1, c2, c3⟩ := HL.out.at hl
      have c0' := (hww.cell (p := ⟨g, o + k * 4, none⟩) hg).trans c0
      have c1' := (hww.cell (p := ⟨g, o + k * 4 + 1, none⟩) hg).trans c1
      have c2' := (hww.cell (p := ⟨g, o + k * 4 + 2, none⟩) hg).trans c2
      have c3' := (hww.cell (p := ⟨g, o + k * 4 + 3, none⟩) hg).trans c3
      have CK := Lib.hid (fun Y => Check_any l Y)
      unfold LoopD.val at CK
      have HLk := Lib.hid hl
      have ik : (k : Int) < (nl : Int) := by omega
      have HBa := fun o => HBr.out.alloc HBr.out.size o
      have HWa := Lib.hid hww
      clear hl c0 c1 c2 c3 hb hww
      by_cases hlo : LoopOk l
      · have hce := checkE_ok hlo
        rw [hce] at CK
        have HNext : Hid (∀ x ∈ loops.take (k + 1), LoopOk x) := Lib.hid fun x hx => by
          rw [take_one HLk.out] at hx
          rcases List.mem_append.1 hx with hx | hx
          · exact HOks.out x hx
          · rw [List.mem_singleton] at hx
            subst hx
            exact hlo
        go_wp2_with fail
        refine (CK.out _).mono ?_
        rintro _ w5 ⟨rfl, hb5⟩
        have HB5 := Lib.hid ((HBa _).trans (hb5.mono (HBa _).size))
        clear hb5 c0' c1' c2' c3' HBa
        go_wp2
        go_roundw
        case rel => exact ⟨k + 1, by omega, by go_num, HNext.out, HB5.out⟩
        case measure => simp [intOf]; omega
      · have hce := checkE_no hlo
        rw [hce] at CK
        have HI : Hid (NewIs marks loops W limit 60) := Lib.hid (.inr (.inl ⟨HMany.out, ⟨l, List.mem_of_getElem? HLk.out, hlo⟩, rfl⟩))
        go_wp2_with fail
        refine (CK.out _).mono ?_
        rintro _ w5 ⟨rfl, hb5⟩
        have HB5 := Lib.hid (HB3.out.trans (((HBa _).trans (hb5.mono (HBa _).size)).mono HB3.out.size))
        clear hb5 c0' c1' c2' c3' HBa
        go_wp2
        refine bodyPost_ret (v := .tuple #[.pointer none, .int .i64 60]) (by simp [results, Try.results30, go_sem]) rfl ⟨.inl ⟨60, by omega, HI.out, rfl⟩, HB5.out⟩
    · obtain rfl : nl = k := by omega
      have HAll : Hid (∀ l ∈ loops, LoopOk l) := Lib.hid (by
        have h9 := HOks.out
        rw [← HNL.out, List.take_of_length_le (Nat.le_refl _)] at h9
        exact h9)
      obtain ⟨w4, hw4⟩ : ∃ X, X = wr := ⟨_, rfl⟩
      subst hw4
      have HB4 := Lib.hid hww
      have HU4 := Lib.hid (ownsRow_below HU3.out HBr.out)
      have HK4 := Lib.hid (HK3.out.below HBr.out HK3.out.lt)
      clear hb hww HOks hk hlt
      by_cases hlen : nl + 1 = nm
      case neg =>
        have HI : Hid (NewIs marks loops W limit 1) := Lib.hid (.inr (.inr (.inl ⟨HMany.out, HAll.out, by rw [HNL.out, HNM.out]; exact hlen, rfl⟩)))
        have hne : ¬ (nl : Int) = (nm : Int) - 1 := by omega
        have hne2 : ((nl : Int) != (nm : Int) - 1) = true := by simpa using hne
        go_wp2
        refine bodyPost_ret (v := .tuple #[.pointer none, .int .i64 1]) (by simp [results, Try.results30, go_sem]) rfl ⟨.inl ⟨1, by omega, HI.out, rfl⟩, HB4.out⟩
      have hne : (nl : Int) = (nm : Int) - 1 := by omega
      have hne2 : ((nl : Int) != (nm : Int) - 1) = false := by simpa using hne
      have HLen : Hid (loops.length + 1 = marks.length) := Lib.hid (by rw [HNL.out, HNM.out]; exact hlen)
      have hmi : (nm : Int) - 1 = (nl : Int) := hne.symm
      clear hne
      have l0 := cellOf HK4.out 0 (x := .slice Au nm cu) rfl
      have l1 := cellOf HK4.out 1 (x := .int .i64 W) rfl
      have CA := Lib.hid (isAllowed_any (.slice Au nm cu) marks W w4 (Rd.own HU4.out (own_le HU4.out)) (by rw [HNM.out]; omega))
      have hK4l := HK4.out.lt
      go_upto_region 13 with fail
      go_wp2_with fail
      refine CA.out.mono ?_
      rintro _ w5 ⟨⟨b, rfl, hbb⟩, hb5⟩
      have HBB := Lib.hid hbb
      have HB5 := Lib.hid (HB4.out.trans (hb5.mono HB4.out.size))
      have HU5 := Lib.hid (ownsRow_below HU4.out hb5)
      have hK5 := HK4.out.below hb5 HK4.out.lt
      have HK5 := Lib.hid hK5
      clear CA hbb hb5 l0 l1
      have l0 := cellOf hK5 0 (x := .slice Au nm cu) rfl
      have l1 := cellOf hK5 1 (x := .int .i64 W) rfl
      clear hK5
      cases b
      case false =>
        have HI : Hid (NewIs marks loops W limit 6) := Lib.hid (.inr (.inr (.inr (.inl ⟨HMany.out, HAll.out, HLen.out, fun h => (by have := HBB.out.2 h.1; cases this), rfl⟩))))
        go_wp2_with fail
        refine bodyPost_ret (v := .tuple #[.pointer none, .int .i64 6]) (by simp [results, Try.results30, go_sem]) rfl ⟨.inl ⟨6, by omega, HI.out, rfl⟩, HB5.out⟩
      have HAllow : Hid (AllowOk marks W) := Lib.hid (HBB.out.1 rfl)
      by_cases hlim : 0 ≤ limit ∧ limit ≤ 1000000
      case neg =>
        have HI : Hid (NewIs marks loops W limit 6) := Lib.hid (.inr (.inr (.inr (.inl ⟨HMany.out, HAll.out, HLen.out, fun h => hlim h.2, rfl⟩))))
        have CW := Lib.hid (within_no limit 0 1000000 hlim w5)
        go_wp2_with fail
        refine CW.out.mono ?_
        rintro _ _ ⟨rfl, rfl⟩
        go_wp2
        refine bodyPost_ret (v := .tuple #[.pointer none, .int .i64 6]) (by simp [results, Try.results30, go_sem]) rfl ⟨.inl ⟨6, by omega, HI.out, rfl⟩, HB5.out⟩
      have HI : Hid (NewIs marks loops W limit 0) := Lib.hid (.inr (.inr (.inr (.inr ⟨HMany.out, HAll.out, HLen.out, ⟨HAllow.out, hlim⟩, rfl⟩))))
      have HDk : Hid (DeskOk (desk0 marks loops W limit)) := Lib.hid ⟨HAllow.out, HMany.out, HLen.out, HAll.out, hlim, by simp [desk0], by simp [desk0]⟩
      have CW := Lib.hid (within_yes limit 0 1000000 hlim w5)
      go_wp2_with fail
      refine CW.out.mono ?_
      rintro _ _ ⟨rfl, rfl⟩
      clear CW
      go_upto_region 17 with fail
      obtain ⟨w6, e6, M6⟩ : ∃ w6, w5.alloc (.cells #[.slice Au nm cu, .int .i64 W, .pointer (some ⟨w5.heap.size, 0, none⟩), .slice none 0 0, .int .i64 limit, .slice none 0 0] 90) = w6 ∧ MkSt w w5.heap.size marks loops W limit (.slice Au nm cu) 0 (.slice none 0 0) [] [] w6 :=
        ⟨_, rfl, HB5.out.size, Blk.new _ _ _, ownsRow_below HU5.out (below_alloc _ _), World.ownsRow_nil _ _ _ _, CtlsAt.nil _ _ _, fun j _ hf => by rcases hf with h | ⟨v, hv, -⟩ <;> simp at *, HB5.out.trans ((below_alloc _ _).mono HB5.out.size)⟩
      rw [e6]
      obtain ⟨D, hD⟩ : ∃ D, w5.heap.size = D := ⟨_, rfl⟩
      rw [hD] at M6 ⊢
      have HM6 := Lib.hid M6
      obtain ⟨i2, hi2, hp0, hp1, hp2⟩ := info_parts infoPtr
      clear e6 hD M6 l0 l1 HBB hK4l HK5 HU5 HB5 HK4 HU4 HB4 HU3 HK3 HB3
      go_wp2
      go_loopw [16, 60] (fun _ iq wr => ∃ (k : Nat) (cv : Value) (Cs : List Nat) (vs : List Value), k ≤ nl ∧ iq = .int .i64 k ∧ MkSt w D marks loops W limit (.slice Au nm cu) k cv Cs vs wr) (fun _ iq _ => nl - (intOf iq).toNat)
      case atStart => exact ⟨0, _, [], [], Nat.zero_le _, rfl, HM6.out⟩
      case round =>
        clear HM6
        obtain ⟨k, cv, Cs, vs, hk, rfl, hmk⟩ := hrel
        obtain ⟨Ac, cc, rfl⟩ := ownsRow_form hmk.ptrs
        have HMk := Lib.hid hmk
        by_cases hlt : k < nl
        · obtain ⟨l, hl⟩ : ∃ l, loops[k]? = some l := ⟨_, List.getElem?_eq_getElem (by rw [HNL.out]; exact hlt)⟩
          have hlo := HAll.out l (List.mem_of_getElem? hl)
          obtain ⟨g, o, rfl, hg, c0, c1, c2, c3⟩ := HL.out.at hl
          have hww := hmk.below
          have c0' := (hww.cell (p := ⟨g, o + k * 4, none⟩) hg).trans c0
          have c1' := (hww.cell (p := ⟨g, o + k * 4 + 1, none⟩) hg).trans c1
          have c2' := (hww.cell (p := ⟨g, o + k * 4 + 2, none⟩) hg).trans c2
          have c3' := (hww.cell (p := ⟨g, o + k * 4 + 3, none⟩) hg).trans c3
          have HLk := Lib.hid hl
          have ik : (k : Int) < (nl : Int) := by omega
          obtain ⟨w9, e9, B9, K9⟩ : ∃ w9, wr.alloc (.cells #[.int .i64 l.dead, .int .i64 l.noise, .int .i64 l.blur, .int .i64 l.step] 26) = w9 ∧ Below wr.heap.size wr w9 ∧ Blk w9 wr.heap.size 26 #[.int .i64 l.dead, .int .i64 l.noise, .int .i64 l.blur, .int .i64 l.step] := ⟨_, rfl, below_alloc _ _, Blk.new _ _ _⟩
          have E9 := Lib.hid e9
          have hm9 := hmk.still B9
          have HM9 := Lib.hid hm9
          have z3 := cellOf hm9.desk 3 (x := .slice Ac k cc) rfl
          have q0 := cellOf K9 0 (x := .int .i64 l.dead) rfl
          have q1 := cellOf K9 1 (x := .int .i64 l.noise) rfl
          have q2 := cellOf K9 2 (x := .int .i64 l.blur) rfl
          have q3 := cellOf K9 3 (x := .int .i64 l.step) rfl
          have hdn : l.dead = (l.dead.toNat : Int) := (Int.toNat_of_nonneg hlo.1).symm
          have CN : Hid (∀ Y, Below w9.heap.size w9 Y → Calls Try.prog 45 #[.agg #[.int .i64 l.dead, .int .i64 l.noise, .int .i64 l.blur, .int .i64 l.step]] Y fun e w' => ∃ C v, e = .returned (.pointer (some ⟨C, 0, none⟩)) ∧ Ctl w9.heap.size w' C l v (List.replicate l.dead.toNat 0) ∧ Below w9.heap.size w9 w' ∧ Blk w' D 90 #[.slice Au nm cu, .int .i64 W, .pointer (some ⟨D, 0, none⟩), .slice Ac k cc, .int .i64 limit, .slice none 0 0]) := Lib.hid fun Y hY => by
            refine (newControl_any l l.dead.toNat hdn (by have := hlo.2.1; omega) Y).mono ?_
            rintro e w' ⟨C, v, rfl, h1, h2⟩
            have h3 := hY.trans (h2.mono hY.size)
            exact ⟨C, v, rfl, h1.base_ hY.size, h3, HM9.out.desk.below h3 HM9.out.desk.lt⟩
          have HP : Hid (∀ Y, Below w9.heap.size w9 Y → Y.ownsRow w.heap.size 108 1 (.slice Ac k cc) k (Cs.map fun C => .pointer (some ⟨C, 0, none⟩))) := Lib.hid fun Y hY => ownsRow_below HM9.out.ptrs hY
          have HDg : Hid (∀ (X Y : World) (C : Nat), Blk X D 90 #[.slice Au nm cu, .int .i64 W, .pointer (some ⟨D, 0, none⟩), .slice Ac k cc, .int .i64 limit, .slice none 0 0] → Below w9.heap.size w9 X → (X.alloc (.cells #[.pointer (some ⟨C, 0, none⟩)] 108)).grownBy Y (Value.slice Ac k cc).ownBlock → Blk Y D 90 #[.slice Au nm cu, .int .i64 W, .pointer (some ⟨D, 0, none⟩), .slice Ac k cc, .int .i64 limit, .slice none 0 0]) := Lib.hid fun X Y C hX hb hg => by
            refine (hg.block D (by have := hX.lt; simp; omega) (fun e => ?_)).trans (hX.alloc _)
            rcases (HP.out X hb).2 with ⟨h9, -⟩ | ⟨g', c', cur, h9, -, hB, -⟩
            · rw [h9] at e; cases e
            · rw [h9] at e
              obtain rfl : D = g' := by injection e
              exact Blk.ne (t := 108) (ds := cur) hX hB (by decide) rfl
          have hz9 : w.heap.size ≤ w9.heap.size := HM9.out.below.size
          have hk6 : k ≤ 1000000 := by omega
          have hDl := hm9.desk.lt
          clear hl hlo c0 c1 c2 c3 hww e9 B9 K9 hm9 hdn hmk
          go_upto_region 20 with fail
          rw [E9.out]
          clear c0' c1' c2' c3'
          go_region_law (first
            | (have hx := hb10; refine step_append_lies _ (by rfl) _ _ _ (by rfl) w.heap.size 108 i2 (.pointer none) 1 8 Try.underlying88 hi2 hp0 hp1 hp2 rfl (by decide) (.slice Ac k cc) k _ (by rfl) (by first | exact (HP.out w10 hb10).alloc _ | exact ((HP.out w10 hb10).alloc _).drew) ⟨w10.heap.size, 0, none⟩ 1 1 [.pointer (some ⟨C, 0, none⟩)] (by rfl) (by rfl) (World.news_of_block (cs := #[.pointer (some ⟨C, 0, none⟩)]) (t := 108) (fr := (0, 0)) (heap_alloc_new w10 _)) (by simp [Value.oneCell']) (by omega) (by simp only [maxLen]; omega) (by omega) (by have := hb10.size; simp; omega) (w10.heap.size + 1) (by simp) ?_; intro g8 c8 w11 hown hgrow hat hlt11; have HW11 := Lib.hid (⟨hown, (⟨hgrow.os, hgrow.tape, hgrow.output, hgrow.size, hgrow.block⟩ : (w10.alloc (.cells #[.pointer (some ⟨C, 0, none⟩)] 108)).grownBy w11 (Value.slice Ac k cc).ownBlock)⟩ : _ ∧ _); have D11 := HDg.out w10 w11 C D10 hb10 HW11.out.2; have d11 := cellOf D11 3 (x := .slice Ac k cc) rfl; have f11 := D11.frozen 3; clear hown hgrow hat hlt11)
            | (go_simp; go_at_call 45; refine (CN.out _ (by first | exact Below.refl _ _ | exact (Below.refl _ _).drew)).mono ?_; rintro _ w10 ⟨C, v, rfl, hc10, hb10, D10⟩; have z3 := cellOf D10 3 (x := .slice Ac k cc) rfl; have hDl := D10.lt; go_wp2_with fail))
          all_goals
            have HNx := Lib.hid (HM9.out.next HLk.out hb10 hc10 HW11.out.1 HW11.out.2)
            clear HW11 hc10 hb10 D10 D11 d11 f11
            go_wp2
            go_roundw
            case rel => exact ⟨k + 1, _, _, _, by omega, by go_num, HNx.out⟩
            case measure => simp [intOf]; omega
        · obtain rfl : nl = k := by omega
          have HEnd := Lib.hid (hmk.done HNL.out)
          have HBe := Lib.hid hmk.below
          clear hmk
          go_wp2
          refine bodyPost_ret (v := .tuple #[.pointer (some ⟨D, 0, none⟩), .int .i64 0]) (by simp [results, Try.results30, go_sem]) rfl ⟨.inr ⟨HI.out, D, _, _, Cs, vs, rfl, HDk.out, HEnd.out⟩, HBe.out⟩
end Go.Proofs.Ytffodgpafiifcaa
