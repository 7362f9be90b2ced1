/-
  ReelCopies: the reference and the law, part 3.
-/
import Derived.Test.YtpkepacbondopaaS2
import Derived.WalkLawsBesides
import Derived.Lib.SmallJoins
import Derived.Test.YtpkepacbondopaaOd
namespace Go.Proofs.Ytpkepacbondopaa
open Go.RowKit Go.Shelf
attribute [local go_sem] Oper.semAt_some

def SUses (B : Nat) (w : World) (v : Value) (l : List UseD) : Prop := Rd B w 3 v l.length (l.flatMap UseD.cells)
theorem suses_later {w : World} {v : Value} {l : List UseD} (h : SUses w.heap.size w v l) : ∃ A c, v = .slice A l.length c ∧ l.length ≤ 9223372036854775807 ∧ Hid (∀ k x, l[k]? = some x → ∃ g o, A = some ⟨g, o, none⟩ ∧ Hid (∀ X, Below w.heap.size w X → X.cell? ⟨g, o + k * 3, none⟩ = some (.int .i64 x.reel) ∧ X.cell? ⟨g, o + k * 3 + 1, none⟩ = some (.int .i64 x.used) ∧ X.cell? ⟨g, o + k * 3 + 2, none⟩ = some (.int .i64 x.rest))) := by
  obtain ⟨A, c, rfl, -, hm, hr⟩ := h
  refine ⟨A, c, rfl, by simpa [maxLen] using hm, fun k x hx => ?_⟩
  have hk : k < l.length := (List.getElem?_eq_some_iff.1 hx).1
  obtain ⟨g, o, hA, hb, hc⟩ := hr (by omega)
  have hf := fun j hj => flat_at UseD.cells 3 (fun _ => rfl) _ k j _ hx hj
  exact ⟨g, o, hA, fun X hX => ⟨(hX.cell (p := ⟨g, o + k * 3, none⟩) hb).trans (hc _ _ (hf 0 (by omega))), (hX.cell (p := ⟨g, o + k * 3 + 1, none⟩) hb).trans (hc _ _ (hf 1 (by omega))), (hX.cell (p := ⟨g, o + k * 3 + 2, none⟩) hb).trans (hc _ _ (hf 2 (by omega)))⟩⟩
theorem fieldsUr : Try.prog.underlying 119 = some (.struct (Try.prog.fieldsOf 119)) := by kernel_rfl
theorem heldUr : Try.prog.stoodInHeld 119 = false := by kernel_rfl
theorem flUr : (Try.prog.fieldsOf 119).toList.map (fun f => (f.name != "_", f.type, f.offset)) = [(true, 3, 0), (true, 3, 1), (true, 3, 2)] := by kernel_rfl
theorem eqUse (w : World) (a b c : Int) : (Op.equalIn 10000 119 (.agg #[.int .i64 a, .int .i64 b, .int .i64 c]) (.agg #[.int .i64 a, .int .i64 b, .int .i64 c])).run Try.prog w = .ok true w := by
  rw [run_equalIn_agg w 9999 _ _ _ fieldsUr heldUr]
  have hl := flUr
  generalize (Try.prog.fieldsOf 119).toList = fs at hl ⊢
  obtain ⟨f0, r0, rfl, h0, hl⟩ := List.map_eq_cons_iff.1 hl
  obtain ⟨f1, r1, rfl, h1, hl⟩ := List.map_eq_cons_iff.1 hl
  obtain ⟨f2, r2, rfl, h2, hl⟩ := List.map_eq_cons_iff.1 hl
  obtain rfl := List.map_eq_nil_iff.1 hl
  simp only [Prod.mk.injEq, bne_iff_ne, ne_eq] at h0 h1 h2
  obtain ⟨n0, t0, o0⟩ := h0
  obtain ⟨n1, t1, o1⟩ := h1
  obtain ⟨n2, t2, o2⟩ := h2
  clear hl
  simp [Op.eqFields, n0, n1, n2, t0, t1, t2, o0, o1, o2, go_sem]
set_option maxRecDepth 100000 in
set_option maxHeartbeats 2000000 in
theorem prints1_same (x : UseD) (w : World) :
    Calls Try.prog 53 #[.agg #[.int .i64 x.reel, .int .i64 x.used, .int .i64 x.rest], .agg #[.int .i64 x.reel, .int .i64 x.used, .int .i64 x.rest]] w fun e w' => e = .returned (.bool true) ∧ Below w.heap.size w w' := by
  have F0 : ∃ W0, (w.alloc (.cells #[.int .i64 x.reel, .int .i64 x.used, .int .i64 x.rest] 60)).alloc (.cells #[.int .i64 x.reel, .int .i64 x.used, .int .i64 x.rest] 119) = W0 ∧ Hid (Below w.heap.size w W0) ∧ Hid (Blk W0 w.heap.size 60 #[.int .i64 x.reel, .int .i64 x.used, .int .i64 x.rest] ∧ Blk W0 (w.heap.size + 1) 119 #[.int .i64 x.reel, .int .i64 x.used, .int .i64 x.rest]) := by
    have k1 := Blk.new w 60 #[.int .i64 x.reel, .int .i64 x.used, .int .i64 x.rest]
    have b1 := below_alloc w (.cells #[.int .i64 x.reel, .int .i64 x.used, .int .i64 x.rest] 60)
    obtain ⟨V1, e1⟩ : ∃ V, w.alloc (.cells #[.int .i64 x.reel, .int .i64 x.used, .int .i64 x.rest] 60) = V := ⟨_, rfl⟩
    rw [e1] at k1 b1 ⊢
    have z1 : V1.heap.size = w.heap.size + 1 := by rw [← e1]; simp
    refine ⟨_, rfl, sbelow_al b1 _, k1.below (below_alloc _ _) k1.lt, ?_⟩
    rw [← z1]
    exact Blk.new _ _ _
  obtain ⟨W0, e0, HB0, HK⟩ := F0
  have E0 := Lib.hid e0
  have q0 := cellOf HK.out.1 0 (x := .int .i64 x.reel) rfl
  have q1 := cellOf HK.out.1 1 (x := .int .i64 x.used) rfl
  have q2 := cellOf HK.out.1 2 (x := .int .i64 x.rest) rfl
  have r0 := cellOf HK.out.2 0 (x := .int .i64 x.reel) rfl
  have r1 := cellOf HK.out.2 1 (x := .int .i64 x.used) rfl
  have r2 := cellOf HK.out.2 2 (x := .int .i64 x.rest) rfl
  have hse : ∀ W, (Op.equalIn 10000 119 (.agg #[.int .i64 x.reel, .int .i64 x.used, .int .i64 x.rest]) (.agg #[.int .i64 x.reel, .int .i64 x.used, .int .i64 x.rest])).run Try.prog W = .ok true W := fun W => eqUse W _ _ _
  clear e0
  go_enter Try.func53, Try.ntmps53
  go_upto_region 1 with fail
  rw [E0.out]
  clear E0
  go_wp2_with fail
  go_ret
  exact ⟨rfl, HB0.out⟩
set_option maxRecDepth 100000 in
set_option maxHeartbeats 2000000 in
theorem eqUses_same (a b : Value) (l : List UseD) (w : World) (ha : SUses w.heap.size w a l) (hb : SUses w.heap.size w b l) :
    Calls Try.prog 52 #[a, b, .func (.func 53) #[] #[]] w fun e w' => e = .returned (.bool true) ∧ Below w.heap.size w w' := by
  obtain ⟨A, c, rfl, hlm, HA⟩ := suses_later ha
  obtain ⟨B, d, rfl, -, HB⟩ := suses_later hb
  obtain ⟨n, hn⟩ : ∃ n, l.length = n := ⟨_, rfl⟩
  rw [hn] at hlm ⊢
  have HN := Lib.hid hn
  clear ha hb hn
  go_enter Try.func52, Try.ntmps52
  go_wp2_with fail
  go_loopw [17] (fun i wr => ∃ k : Nat, k ≤ n ∧ i = .int .i64 k ∧ Hid (Below w.heap.size w wr)) (fun i _ => n - (intOf i).toNat)
  case atStart => exact ⟨0, Nat.zero_le _, rfl, Below.refl _ _⟩
  case round =>
  obtain ⟨k, hk, rfl, hB⟩ := hrel
  obtain ⟨X, rfl⟩ : ∃ X : World, X = wr := ⟨_, rfl⟩
  by_cases hlt : k < n
  · obtain ⟨x, hx⟩ : ∃ x, l[k]? = some x := ⟨_, List.getElem?_eq_getElem (by rw [HN.out]; exact hlt)⟩
    obtain ⟨g, o, rfl, HXA⟩ := HA.out k x hx
    obtain ⟨g', o', rfl, HXB⟩ := HB.out k x hx
    obtain ⟨c0, c1, c2'⟩ := HXA.out X hB.out
    have F1 : ∃ X1, X.alloc (.cells #[.int .i64 x.reel, .int .i64 x.used, .int .i64 x.rest] 60) = X1 ∧ Hid (Below X.heap.size X X1) ∧ Hid (Blk X1 X.heap.size 60 #[.int .i64 x.reel, .int .i64 x.used, .int .i64 x.rest]) := ⟨_, rfl, below_alloc _ _, Blk.new _ _ _⟩
    obtain ⟨X1, e1, HX1, HK1⟩ := F1
    have HB1 : Hid (Below w.heap.size w X1) := hB.out.trans (HX1.out.mono hB.out.size)
    obtain ⟨d0, d1, d2'⟩ := HXB.out X1 HB1.out
    have F2 : ∃ X2, X1.alloc (.cells #[.int .i64 x.reel, .int .i64 x.used, .int .i64 x.rest] 119) = X2 ∧ Hid (Below X1.heap.size X1 X2) ∧ Hid (Blk X2 X1.heap.size 119 #[.int .i64 x.reel, .int .i64 x.used, .int .i64 x.rest]) := ⟨_, rfl, below_alloc _ _, Blk.new _ _ _⟩
    obtain ⟨X2, e2, HX2, HK2⟩ := F2
    have HB2 : Hid (Below w.heap.size w X2) := HB1.out.trans (HX2.out.mono HB1.out.size)
    have C1 := Lib.hid (prints1_same x X2)
    have E1 := Lib.hid e1
    have E2 := Lib.hid e2
    have hK1 := HK1.out.below HX2.out HK1.out.lt
    have q0 := cellOf hK1 0 (x := .int .i64 x.reel) rfl
    have q1 := cellOf hK1 1 (x := .int .i64 x.used) rfl
    have q2 := cellOf hK1 2 (x := .int .i64 x.rest) rfl
    have r0 := cellOf HK2.out 0 (x := .int .i64 x.reel) rfl
    have r1 := cellOf HK2.out 1 (x := .int .i64 x.used) rfl
    have r2 := cellOf HK2.out 2 (x := .int .i64 x.rest) rfl
    have k0 : (0 : Int) ≤ (k : Int) := by omega
    have k1 : (k : Int) < (n : Int) := by omega
    clear hx e1 e2 hK1
    go_upto_region 6 with fail
    rw [E1.out]
    go_upto_region 7 with fail
    rw [E2.out]
    clear c0 c1 c2' d0 d1 d2'
    go_wp2_with fail
    refine C1.out.mono ?_
    rintro _ Y ⟨rfl, hb⟩
    have HBY : Hid (Below w.heap.size w Y) := HB2.out.trans (hb.mono HB2.out.size)
    clear C1 hb q0 q1 q2 r0 r1 r2
    go_wp2_with fail
    go_roundw
    case rel => exact ⟨k + 1, by omega, by go_num, HBY⟩
    case measure => simp [intOf]; omega
  · go_wp2_with fail
    go_ret
    exact ⟨rfl, hB.out⟩
theorem sliceReelP : Try.prog.underlying 28 = some (.slice 58) := by kernel_rfl
theorem infoReelP : (Try.prog.info? 58).map (fun i => (i.zero, i.size, i.bytes)) = some (some (.agg #[.int .i64 0, .int .i64 0, .int .i64 0, .int .i64 0]), 4, 32) := by kernel_rfl
def OReelsP (base : Nat) (w : World) (v : Value) (l : List ReelD) : Prop := w.ownsRow base 58 4 v l.length (l.flatMap ReelD.cells)
theorem reel_cells_one (l : List ReelD) : ∀ u ∈ l.flatMap ReelD.cells, u.oneCell' = true := fun u hu => by
  obtain ⟨x, -, h⟩ := List.mem_flatMap.1 hu
  unfold ReelD.cells at h
  simp at h
  rcases h with rfl | rfl | rfl | rfl <;> rfl
set_option maxHeartbeats 2000000 in
set_option maxRecDepth 100000 in
theorem cloneReels_any (v : Value) (l : List ReelD) (w : World) (h : RReels w.heap.size w v l) (hn : l.length ≤ 1000000) :
    Calls Try.prog 57 #[v] w fun e w' => ∃ u, e = .returned u ∧ OReelsP w.heap.size w' u l ∧ Below w.heap.size w w' := by
  obtain ⟨i0, hi, hz0, hz1, hz2⟩ := info_parts infoReelP
  obtain ⟨A, c, rfl, hl, h0, hc⟩ := rd_slice h
  have q : ∀ (w : World) (a : Option Addr) (n c n' c' : Nat), (binOp .eql 28 (.slice a n c) (.slice none n' c')).run Try.prog w = .ok (.bool a.isNone) w := fun w a n c n' c' => Lib.run_eql_slice_nil w _ _ a n c n' c' sliceReelP
  have u22 : ∀ w, Sem.run Try.prog (underlying 28) w = .ok (TypeDesc.slice 58) w := run_underlying sliceReelP
  rcases A with - | a
  · have : l.length = 0 := by
      rcases Nat.eq_zero_or_pos l.length with h | h
      · exact h
      · exact absurd rfl (h0 h)
    have hx : l = [] := List.eq_nil_of_length_eq_zero this
    subst hx
    clear h h0 hc
    go_enter Try.func57, Try.ntmps57
    go_wp2
    go_ret
    exact ⟨_, rfl, World.ownsRow_nil _ _ _ _, Below.refl _ _⟩
  · have HC := Lib.hid (hc a rfl)
    obtain ⟨n, hnn⟩ : ∃ n, l.length = n := ⟨_, rfl⟩
    have HN := Lib.hid hnn
    rw [hnn] at hn hl ⊢
    clear h h0 hc hnn
    go_enter Try.func57, Try.ntmps57
    go_wp2_with (at_builtin; refine wpList_append_own _ rfl _ _ 28 rfl w.heap.size 58 i0 _ 4 32 sliceReelP hi hz0 hz1 hz2 rfl (by decide) _ _ _ rfl (World.ownsRow_made w #[] 0 (Nat.le_refl _) (Nat.zero_le _) rfl) a n c (l.flatMap ReelD.cells) rfl hl ?qc2 (reel_cells_one l) ?qc4 ?qc5 ?qc6 ?_)
    case qc2 =>
      intro j u hj
      exact Lib.cell?_alloc_some _ (HC.out j u hj)
    case qc4 => unfold maxLen; omega
    case qc5 => omega
    case qc6 => simp
    intro v' w1 hown hgrow hnil
    have HR : Hid (OReelsP w.heap.size w1 v' l) := Lib.hid (by
      unfold OReelsP
      rw [HN.out]
      simpa using hown)
    go_wp2
    go_ret
    exact ⟨v', rfl, HR.out, ((Below.refl _ w).alloc (Nat.le_refl _) _).grown hgrow (by simp) (by intro k hk; simp [Value.ownBlock] at hk; omega)⟩
end Go.Proofs.Ytpkepacbondopaa

namespace Go.Proofs.Ytpkepacbondopaa
open Go.RowKit Go.Shelf
attribute [local go_sem] Oper.semAt_some

/-- What copied answers: the press twice. -/
def CopRet (p : PressD) (n : Nat) (w : World) (e : Ending) (w' : World) : Prop := ∃ B d C e', e = .returned (.tuple #[.agg #[.int .i64 p.cut, .int .i64 p.margin, .slice B n d], .agg #[.int .i64 p.cut, .int .i64 p.margin, .slice C n e']]) ∧ Hid (RWebs w'.heap.size w' (.slice B n d) p.webs ∧ RWebs w'.heap.size w' (.slice C n e') p.webs ∧ Below w.heap.size w w')
theorem RPress.of {B : Nat} {w : World} {p : PressD} {u : Value} (h : RWebs B w u p.webs) : RPress B w (.agg #[.int .i64 p.cut, .int .i64 p.margin, u]) p := ⟨u, rfl, h⟩
theorem thrown_two {p : PressD} {n : Int} {l l' : List Sp} (h1 : copiesE p n = 0 → p.ThrownIs n l) (h2 : copiesE p n ≠ 0 → l = []) (k1 : copiesE p n = 0 → p.ThrownIs n l') (k2 : copiesE p n ≠ 0 → l' = []) : l = l' := by
  by_cases h : copiesE p n = 0
  · exact PressD.ThrownIs.one (h1 h) (k1 h)
  · rw [h2 h, k2 h]
set_option maxRecDepth 1000000 in
set_option maxHeartbeats 4000000 in
theorem prints_any (p : PressD) (web cps good : Int) (hcop : ∀ (v : Value) (w : World), RPress w.heap.size w v p → Calls Try.prog 43 #[v] w (CopRet p p.webs.length w)) (v : Value) (w : World) (h : RPress w.heap.size w v p) :
    Calls Try.prog 14 #[v, .int .i64 web, .int .i64 cps, .int .i64 good] w fun e w' => e = .returned (.bool true) ∧ Below w.heap.size w w' := by
  obtain ⟨u, rfl, hw⟩ := h
  obtain ⟨A, c, rfl, hlm, -⟩ := hw.open_
  have HW := Lib.hid hw
  have HCOP := Lib.hid hcop
  obtain ⟨n, hn⟩ : ∃ n, p.webs.length = n := ⟨_, rfl⟩
  rw [hn] at hlm HW HCOP ⊢
  have HN := Lib.hid hn
  have F0 : ∃ W0, w.alloc (.cells #[.int .i64 p.cut, .int .i64 p.margin, .slice A n c] 24) = W0 ∧ Hid (Below w.heap.size w W0) ∧ Hid (Blk W0 w.heap.size 24 #[.int .i64 p.cut, .int .i64 p.margin, .slice A n c]) := ⟨_, rfl, below_alloc _ _, Blk.new _ _ _⟩
  obtain ⟨W0, e0, HB0, HK0⟩ := F0
  have E0 := Lib.hid e0
  have z0 := cellOf HK0.out 0 (x := .int .i64 p.cut) rfl
  have z1 := cellOf HK0.out 1 (x := .int .i64 p.margin) rfl
  have z2 := cellOf HK0.out 2 (x := .slice A n c) rfl
  have C0 := Lib.hid (HCOP.out _ W0 (RPress.of ((HW.out.below HB0.out).more HB0.out.size)))
  clear hw hn e0 hcop
  go_enter Try.func14, Try.ntmps14
  go_upto_region 1 with fail
  rw [E0.out]
  clear E0
  go_wp2_with fail
  refine C0.out.mono ?_
  rintro _ W1 ⟨B, d, C, ke, rfl, H1⟩
  have F2 : ∃ W2, (W1.alloc (.cells #[.int .i64 p.cut, .int .i64 p.margin, .slice B n d] 24)).alloc (.cells #[.int .i64 p.cut, .int .i64 p.margin, .slice C n ke] 105) = W2 ∧ Hid (Below W1.heap.size W1 W2) ∧ Hid (Blk W2 W1.heap.size 24 #[.int .i64 p.cut, .int .i64 p.margin, .slice B n d] ∧ Blk W2 (W1.heap.size + 1) 105 #[.int .i64 p.cut, .int .i64 p.margin, .slice C n ke]) := by
    have k1 := Blk.new W1 24 #[.int .i64 p.cut, .int .i64 p.margin, .slice B n d]
    have b1 := below_alloc W1 (.cells #[.int .i64 p.cut, .int .i64 p.margin, .slice B n d] 24)
    obtain ⟨V1, e1⟩ : ∃ V, W1.alloc (.cells #[.int .i64 p.cut, .int .i64 p.margin, .slice B n d] 24) = V := ⟨_, rfl⟩
    rw [e1] at k1 b1 ⊢
    have q1 : V1.heap.size = W1.heap.size + 1 := by rw [← e1]; simp
    refine ⟨_, rfl, sbelow_al b1 _, k1.below (below_alloc _ _) k1.lt, ?_⟩
    rw [← q1]
    exact Blk.new _ _ _
  obtain ⟨W2, e2, HB12, HK2⟩ := F2
  have E2 := Lib.hid e2
  have HK02 := Lib.hid ((HK0.out.below H1.out.2.2 HK0.out.lt).below HB12.out (Nat.lt_of_lt_of_le HK0.out.lt H1.out.2.2.size))
  have HB2 : Hid (Below w.heap.size w W2) := HB0.out.trans ((H1.out.2.2.trans (HB12.out.mono H1.out.2.2.size)).mono HB0.out.size)
  have HRP : Hid (∀ X, Below W2.heap.size W2 X → Hid (RPress X.heap.size X (.agg #[.int .i64 p.cut, .int .i64 p.margin, .slice B n d]) p ∧ RPress X.heap.size X (.agg #[.int .i64 p.cut, .int .i64 p.margin, .slice C n ke]) p ∧ RPress X.heap.size X (.agg #[.int .i64 p.cut, .int .i64 p.margin, .slice A n c]) p)) := fun X hX => by
    have h1 := HB12.out.trans (hX.mono HB12.out.size)
    have h2 := HB2.out.trans (hX.mono HB2.out.size)
    exact ⟨RPress.of ((H1.out.1.below h1).more h1.size), RPress.of ((H1.out.2.1.below h1).more h1.size), RPress.of ((HW.out.below h2).more h2.size)⟩
  obtain ⟨b4, hb4⟩ : ∃ b, w.heap.size = b := ⟨_, rfl⟩
  obtain ⟨b9, hb9⟩ : ∃ b, W1.heap.size = b := ⟨_, rfl⟩
  have HS : Hid (∀ X, Below W2.heap.size W2 X → (X.cell? ⟨b9, 0, none⟩ = some (.int .i64 p.cut) ∧ X.cell? ⟨b9, 1, none⟩ = some (.int .i64 p.margin) ∧ X.cell? ⟨b9, 2, none⟩ = some (.slice B n d) ∧ X.cell? ⟨b9 + 1, 0, none⟩ = some (.int .i64 p.cut) ∧ X.cell? ⟨b9 + 1, 1, none⟩ = some (.int .i64 p.margin) ∧ X.cell? ⟨b9 + 1, 2, none⟩ = some (.slice C n ke) ∧ X.cell? ⟨b4, 0, none⟩ = some (.int .i64 p.cut) ∧ X.cell? ⟨b4, 1, none⟩ = some (.int .i64 p.margin) ∧ X.cell? ⟨b4, 2, none⟩ = some (.slice A n c))) := fun X hX => by
    have k1 := HK2.out.1.below hX HK2.out.1.lt
    have k2 := HK2.out.2.below hX HK2.out.2.lt
    have k3 := HK02.out.below hX HK02.out.lt
    rw [← hb9, ← hb4]
    exact ⟨cellOf k1 0 rfl, cellOf k1 1 rfl, cellOf k1 2 rfl, cellOf k2 0 rfl, cellOf k2 1 rfl, cellOf k2 2 rfl, cellOf k3 0 rfl, cellOf k3 1 rfl, cellOf k3 2 rfl⟩
  clear z0 z1 z2 C0 e2
  go_upto_region 2 with fail
  rw [E2.out]
  clear E2 H1 HK02 HK2 HB12 hb4 hb9
  obtain ⟨ce, hce⟩ : ∃ ce, checkE p = ce := ⟨_, rfl⟩
  have CY : Hid (∀ X, Below W2.heap.size W2 X → Calls Try.prog 44 #[(.agg #[.int .i64 p.cut, .int .i64 p.margin, .slice B n d])] X fun e w' => e = .returned (.int .i64 ce) ∧ Hid (Below W2.heap.size W2 w') ∧ (w'.cell? ⟨b9, 0, none⟩ = some (.int .i64 p.cut) ∧ w'.cell? ⟨b9, 1, none⟩ = some (.int .i64 p.margin) ∧ w'.cell? ⟨b9, 2, none⟩ = some (.slice B n d) ∧ w'.cell? ⟨b9 + 1, 0, none⟩ = some (.int .i64 p.cut) ∧ w'.cell? ⟨b9 + 1, 1, none⟩ = some (.int .i64 p.margin) ∧ w'.cell? ⟨b9 + 1, 2, none⟩ = some (.slice C n ke))) := fun X hX => by
    refine (Check_any p _ X (HRP.out X hX).out.1).mono ?_
    rintro e w' ⟨rfl, h1⟩
    have h2 := hX.trans (h1.mono hX.size)
    obtain ⟨x0, x1, x2, y0, y1, y2, -⟩ := HS.out _ h2
    exact ⟨by rw [hce], h2, x0, x1, x2, y0, y1, y2⟩
  have CZ : Hid (∀ X, Below W2.heap.size W2 X → Calls Try.prog 45 #[(.agg #[.int .i64 p.cut, .int .i64 p.margin, .slice C n ke])] X fun e w' => e = .returned (.int .i64 ce) ∧ Hid (Below W2.heap.size W2 w') ∧ (w'.cell? ⟨b9, 0, none⟩ = some (.int .i64 p.cut) ∧ w'.cell? ⟨b9, 1, none⟩ = some (.int .i64 p.margin) ∧ w'.cell? ⟨b9, 2, none⟩ = some (.slice B n d) ∧ w'.cell? ⟨b9 + 1, 0, none⟩ = some (.int .i64 p.cut) ∧ w'.cell? ⟨b9 + 1, 1, none⟩ = some (.int .i64 p.margin) ∧ w'.cell? ⟨b9 + 1, 2, none⟩ = some (.slice C n ke))) := fun X hX => by
    refine (refCheck_any p _ X (HRP.out X hX).out.2.1).mono ?_
    rintro e w' ⟨rfl, h1⟩
    have h2 := hX.trans (h1.mono hX.size)
    obtain ⟨x0, x1, x2, y0, y1, y2, -⟩ := HS.out _ h2
    exact ⟨by rw [hce], h2, x0, x1, x2, y0, y1, y2⟩
  clear hce
  go_cut [30] from 26 to 30 (fun q wx => q = .bool false ∧ Hid (Below W2.heap.size W2 wx))
  case first =>
    obtain ⟨x0, x1, x2, y0, y1, y2, z0, z1, z2⟩ := HS.out W2 (Below.refl _ _)
    have S1 : W2.cell? ⟨b9, 0, none⟩ = some (.int .i64 p.cut) ∧ W2.cell? ⟨b9, 1, none⟩ = some (.int .i64 p.margin) ∧ W2.cell? ⟨b9, 2, none⟩ = some (.slice B n d) ∧ W2.cell? ⟨b9 + 1, 0, none⟩ = some (.int .i64 p.cut) ∧ W2.cell? ⟨b9 + 1, 1, none⟩ = some (.int .i64 p.margin) ∧ W2.cell? ⟨b9 + 1, 2, none⟩ = some (.slice C n ke) := ⟨x0, x1, x2, y0, y1, y2⟩
    clear x0 x1 x2 y0 y1 y2 z0 z1 z2
    have HD0 : Hid (Below W2.heap.size W2 W2.drew) := (Below.refl _ _).drew
    go_region_held3 (fun X => X.cell? ⟨b9, 0, none⟩ = some (.int .i64 p.cut) ∧ X.cell? ⟨b9, 1, none⟩ = some (.int .i64 p.margin) ∧ X.cell? ⟨b9, 2, none⟩ = some (.slice B n d) ∧ X.cell? ⟨b9 + 1, 0, none⟩ = some (.int .i64 p.cut) ∧ X.cell? ⟨b9 + 1, 1, none⟩ = some (.int .i64 p.margin) ∧ X.cell? ⟨b9 + 1, 2, none⟩ = some (.slice C n ke))
      (first | with_reducible exact T2 | with_reducible exact T1 | with_reducible exact S1 | go_keep)
      (first | (go_at_call 44; with_reducible refine (CY.out _ HD0.out).mono ?_; rintro _ y1 ⟨rfl, H1, T1⟩)
             | (go_at_call 44; with_reducible refine (CY.out _ H2.out).mono ?_; rintro _ y1 ⟨rfl, H1, T1⟩)
             | (go_at_call 45; with_reducible refine (CZ.out _ HD0.out).mono ?_; rintro _ y2 ⟨rfl, H2, T2⟩)
             | (go_at_call 45; with_reducible refine (CZ.out _ H1.out).mono ?_; rintro _ y2 ⟨rfl, H2, T2⟩))
    all_goals
      clear S1
      go_wp2_with fail
      go_meet
      first
        | exact ⟨rfl, H2⟩
        | exact ⟨rfl, H1⟩
  case rest =>
  obtain ⟨rfl, HBW3⟩ := hcut
  obtain ⟨W3, rfl⟩ : ∃ X : World, X = wc := ⟨_, rfl⟩
  clear CY CZ
  obtain ⟨rx, hrx⟩ : ∃ x, (if checkE p = 0 then p.reach else 0) = x := ⟨_, rfl⟩
  obtain ⟨rc, hrc⟩ : ∃ x, checkE p = x := ⟨_, rfl⟩
  have FR1 : Hid (∀ X, RPress X.heap.size X (.agg #[.int .i64 p.cut, .int .i64 p.margin, .slice B n d]) p → Calls Try.prog 19 #[(.agg #[.int .i64 p.cut, .int .i64 p.margin, .slice B n d])] X fun e w' => e = .returned (.tuple #[.int .i64 rx, .int .i64 rc]) ∧ Below X.heap.size X w') := fun X hX => (Reach_any p _ X hX).mono fun e w' h => ⟨by rw [h.1, hrx, hrc], h.2⟩
  have FR2 : Hid (∀ X, RPress X.heap.size X (.agg #[.int .i64 p.cut, .int .i64 p.margin, .slice C n ke]) p → Calls Try.prog 46 #[(.agg #[.int .i64 p.cut, .int .i64 p.margin, .slice C n ke])] X fun e w' => e = .returned (.tuple #[.int .i64 rx, .int .i64 rc]) ∧ Below X.heap.size X w') := fun X hX => (refReach2_any p _ X hX).mono fun e w' h => ⟨by rw [h.1, hrx, hrc], h.2⟩
  clear hrx hrc
  obtain ⟨x0, x1, x2, y0, y1, y2, z0, z1, z2⟩ := HS.out W3 HBW3.out
  have C1 := Lib.hid (FR1.out W3 (HRP.out W3 HBW3.out).out.1)
  go_wp2_with fail
  refine C1.out.mono ?_
  rintro _ W4 ⟨rfl, hb1⟩
  have HBW4 : Hid (Below W2.heap.size W2 W4) := HBW3.out.trans (hb1.mono HBW3.out.size)
  have HL1 := Lib.hid hb1
  clear C1 hb1 x0 x1 x2 y0 y1 y2 z0 z1 z2
  obtain ⟨x0, x1, x2, y0, y1, y2, z0, z1, z2⟩ := HS.out W4 HBW4.out
  have C2 := Lib.hid (FR2.out W4 (HRP.out W4 HBW4.out).out.2.1)
  go_wp2_with fail
  refine C2.out.mono ?_
  rintro _ W5 ⟨rfl, hb2⟩
  have HBW5 : Hid (Below W2.heap.size W2 W5) := HBW4.out.trans (hb2.mono HBW4.out.size)
  have HL2 := Lib.hid hb2
  clear C2 hb2 x0 x1 x2 y0 y1 y2 z0 z1 z2
  obtain ⟨x0, x1, x2, y0, y1, y2, z0, z1, z2⟩ := HS.out W5 HBW5.out
  have C1 := Lib.hid (Splices_any p web _ W5 (HRP.out W5 HBW5.out).out.1)
  go_wp2_with fail
  refine C1.out.mono ?_
  rintro _ W8 ⟨u8, rfl, hu8, hb1⟩
  have HBW8 : Hid (Below W2.heap.size W2 W8) := HBW5.out.trans (hb1.mono HBW5.out.size)
  have HL1 := Lib.hid hb1
  clear C1 hb1 x0 x1 x2 y0 y1 y2 z0 z1 z2
  obtain ⟨x0, x1, x2, y0, y1, y2, z0, z1, z2⟩ := HS.out W8 HBW8.out
  have C2 := Lib.hid (refSplices_any p web _ W8 (HRP.out W8 HBW8.out).out.2.1)
  go_wp2_with fail
  refine C2.out.mono ?_
  rintro _ W9 ⟨u9, rfl, hu9, hb2⟩
  have HBW9 : Hid (Below W2.heap.size W2 W9) := HBW8.out.trans (hb2.mono HBW8.out.size)
  have HL2 := Lib.hid hb2
  clear C2 hb2 x0 x1 x2 y0 y1 y2 z0 z1 z2
  have HU8 : Hid (RInts W9.heap.size W9 u8 (splL p web)) := (hu8.below HL2.out).more HL2.out.size
  obtain ⟨A8, k8, rfl, -, -⟩ := hu8.open_
  obtain ⟨A9, k9, rfl, -, -⟩ := hu9.open_
  have HU9 := Lib.hid hu9
  clear hu8 hu9 HL1 HL2
  have C3 := Lib.hid (eqInts_any _ _ _ _ W9 HU8.out HU9.out)
  rw [decide_eq_true rfl] at C3
  go_wp2_with fail
  refine C3.out.mono ?_
  rintro _ W10 ⟨rfl, hb3⟩
  have HBW10 : Hid (Below W2.heap.size W2 W10) := HBW9.out.trans (hb3.mono HBW9.out.size)
  clear C3 hb3
  obtain ⟨x0, x1, x2, y0, y1, y2, z0, z1, z2⟩ := HS.out W10 HBW10.out
  have C1 := Lib.hid (Thrown_any p cps _ W10 (HRP.out W10 HBW10.out).out.1)
  go_wp2_with fail
  refine C1.out.mono ?_
  rintro _ W12 ⟨u12, l12, rfl, ht1, ht2, -, ho12, hb1⟩
  have HBW12 : Hid (Below W2.heap.size W2 W12) := HBW10.out.trans (hb1.mono HBW10.out.size)
  have HL1 := Lib.hid hb1
  clear C1 hb1 x0 x1 x2 y0 y1 y2 z0 z1 z2
  obtain ⟨x0, x1, x2, y0, y1, y2, z0, z1, z2⟩ := HS.out W12 HBW12.out
  have C2 := Lib.hid (refThrown_any p cps _ W12 (HRP.out W12 HBW12.out).out.2.1)
  go_wp2_with fail
  refine C2.out.mono ?_
  rintro _ W13 ⟨u13, l13, rfl, ht3, ht4, hu13, hb2⟩
  have HBW13 : Hid (Below W2.heap.size W2 W13) := HBW12.out.trans (hb2.mono HBW12.out.size)
  have HL2 := Lib.hid hb2
  clear C2 hb2 x0 x1 x2 y0 y1 y2 z0 z1 z2
  obtain rfl := thrown_two ht1 ht2 ht3 ht4
  have hu12 := OSpans.reads ho12
  have HU12 : Hid (RSpans W13.heap.size W13 u12 l12) := (Rd.below hu12 HL2.out).more HL2.out.size
  obtain ⟨A12, k12, rfl, -, -⟩ := hu12.open_
  obtain ⟨A13, k13, rfl, -, -⟩ := hu13.open_
  have HU13 := Lib.hid hu13
  clear ho12 hu12 hu13 ht1 ht2 ht3 ht4 HL1 HL2
  have C3 := Lib.hid (eqSpans_any _ _ _ _ W13 HU12.out HU13.out)
  rw [decide_eq_true rfl] at C3
  go_wp2_with fail
  refine C3.out.mono ?_
  rintro _ W14 ⟨rfl, hb3⟩
  have HBW14 : Hid (Below W2.heap.size W2 W14) := HBW13.out.trans (hb3.mono HBW13.out.size)
  clear C3 hb3
  obtain ⟨x0, x1, x2, y0, y1, y2, z0, z1, z2⟩ := HS.out W14 HBW14.out
  have C1 := Lib.hid (Run_any p good _ W14 (HRP.out W14 HBW14.out).out.1)
  go_wp2_with fail
  refine C1.out.mono ?_
  rintro _ W16 hr16
  have HR16 := Lib.hid hr16
  obtain ⟨n16, c16, rfl, hb1, -⟩ := hr16
  have HBW16 : Hid (Below W2.heap.size W2 W16) := HBW14.out.trans (hb1.mono HBW14.out.size)
  have HL1 := Lib.hid hb1
  clear C1 hb1 x0 x1 x2 y0 y1 y2 z0 z1 z2
  obtain ⟨x0, x1, x2, y0, y1, y2, z0, z1, z2⟩ := HS.out W16 HBW16.out
  have C2 := Lib.hid (refRun_any p good _ W16 (HRP.out W16 HBW16.out).out.2.1)
  go_wp2_with fail
  refine C2.out.mono ?_
  rintro _ W17 hr17
  have he17 := RunRet.one HR16.out hr17
  obtain ⟨n17, c17, rfl, hb2, -⟩ := hr17
  injection he17 with he17
  injection he17 with he17
  have e1 : n17 = n16 := by
    have := congrArg (fun a : Array Value => a[0]?) he17
    simp at this
    exact this.symm
  have e2 : c17 = c16 := by
    have := congrArg (fun a : Array Value => a[1]?) he17
    simp at this
    exact this.symm
  subst e1
  subst e2
  clear he17 HR16
  have HBW17 : Hid (Below W2.heap.size W2 W17) := HBW16.out.trans (hb2.mono HBW16.out.size)
  have HL2 := Lib.hid hb2
  clear C2 hb2 x0 x1 x2 y0 y1 y2 z0 z1 z2
  obtain ⟨x0, x1, x2, y0, y1, y2, z0, z1, z2⟩ := HS.out W17 HBW17.out
  have C1 := Lib.hid (Used_any p cps _ W17 (HRP.out W17 HBW17.out).out.1)
  go_wp2_with fail
  refine C1.out.mono ?_
  rintro _ W20 ⟨u20, rfl, ho20, hb1⟩
  have HBW20 : Hid (Below W2.heap.size W2 W20) := HBW17.out.trans (hb1.mono HBW17.out.size)
  have HL1 := Lib.hid hb1
  clear C1 hb1 x0 x1 x2 y0 y1 y2 z0 z1 z2
  obtain ⟨x0, x1, x2, y0, y1, y2, z0, z1, z2⟩ := HS.out W20 HBW20.out
  have C2 := Lib.hid (refUsed_any p cps _ W20 (HRP.out W20 HBW20.out).out.2.1)
  go_wp2_with fail
  refine C2.out.mono ?_
  rintro _ W21 ⟨u21, rfl, ho21, hb2⟩
  have HBW21 : Hid (Below W2.heap.size W2 W21) := HBW20.out.trans (hb2.mono HBW20.out.size)
  have HL2 := Lib.hid hb2
  clear C2 hb2 x0 x1 x2 y0 y1 y2 z0 z1 z2
  obtain ⟨LU, hLU⟩ : ∃ L, (if copiesE p cps = 0 then usesTo p cps p.webs.length else []) = L := ⟨_, rfl⟩
  rw [hLU] at ho20 ho21
  have hu20 : SUses W20.heap.size W20 u20 LU := Rd.own ho20 (own_le ho20)
  have hu21 : SUses W21.heap.size W21 u21 LU := Rd.own ho21 (own_le ho21)
  have hu22 : SUses W21.heap.size W21 u20 LU := (Rd.below hu20 HL2.out).more HL2.out.size
  obtain ⟨A20, k20, rfl⟩ := ownsRow_form ho20
  obtain ⟨A21, k21, rfl⟩ := ownsRow_form ho21
  obtain ⟨nu, hnu⟩ : ∃ a, LU.length = a := ⟨_, rfl⟩
  rw [hnu] at hu21 hu22 ⊢
  have HU20 := Lib.hid hu22
  have HU21 := Lib.hid hu21
  clear ho20 ho21 hu20 hu21 hu22 hLU hnu HL1 HL2
  have C3 := Lib.hid (eqUses_same _ _ _ W21 HU20.out HU21.out)
  go_wp2_with fail
  refine C3.out.mono ?_
  rintro _ W22 ⟨rfl, hb3⟩
  have HBW22 : Hid (Below W2.heap.size W2 W22) := HBW21.out.trans (hb3.mono HBW21.out.size)
  clear C3 hb3
  obtain ⟨x0, x1, x2, y0, y1, y2, z0, z1, z2⟩ := HS.out W22 HBW22.out
  have C4 := Lib.hid (kept_same p (.agg #[.int .i64 p.cut, .int .i64 p.margin, .slice B n d]) (.agg #[.int .i64 p.cut, .int .i64 p.margin, .slice A n c]) W22 (HRP.out W22 HBW22.out).out.1 (HRP.out W22 HBW22.out).out.2.2)
  go_wp2_with fail
  refine C4.out.mono ?_
  rintro _ W23 ⟨rfl, hb4'⟩
  have HBF : Hid (Below w.heap.size w W23) := HB2.out.trans ((HBW22.out.trans (hb4'.mono HBW22.out.size)).mono HB2.out.size)
  clear C4 hb4' x0 x1 x2 y0 y1 y2 z0 z1 z2
  go_wp2_with fail
  go_ret
  exact ⟨rfl, HBF.out⟩
end Go.Proofs.Ytpkepacbondopaa

namespace Go.Proofs.Ytpkepacbondopaa
open Go.RowKit Go.ChangeShapes Go.WideShapes Go.ChangeAt Go.Deep Go.Joins
section
variable {H : Type} {enc : TypeId × Value → H} {w : World} {base b0 : Nat} {rc : Reach} {spare : Nat → Bool} {held : Bool}
theorem elem_fields {e : TypeId} {fs : Array Field} {n : Nat} {b : Addr} {cs : List Value} {x : DataW H × List MemPlace} (hs : Try.prog.underlying e = some (.struct fs)) (hone : oneCellFields Try.prog fs = true) (hC : Try.prog.cellsOf e = fs.size)
    (hc : w.cells? base b (Try.prog.cellsOf e) = some cs) (ht : DataW.trod enc Try.prog w base spare held n e cs = some x) :
    ∃ (ys : List (DataW H × List MemPlace)) (n' : Nat), x.1 = .agg (ys.map (·.1)) ∧ ∀ (j : Nat) (f : Field), fs[j]? = some f → ∃ v y, w.cell? (b.add j) = some v ∧ ys[j]? = some y ∧ DataW.trod enc Try.prog w base spare held n' f.type [v] = some y := by
  obtain ⟨ys, n', -, rfl, hl, hlen, hf⟩ := DataW.trod_struct hs ht
  obtain ⟨-, hcl, hat⟩ := World.cells?_some hc
  refine ⟨ys, n', rfl, fun j f hj => ?_⟩
  have hjl : j < fs.size := (Array.getElem?_eq_some_iff.1 hj).1
  obtain ⟨ho, hk⟩ := hone_of hone j f hj
  have h1 := hf j f hj
  have hjc : j < cs.length := by omega
  rw [ho, hk, List.drop_eq_getElem_cons hjc, List.take_succ_cons, List.take_zero] at h1
  have hy : ys[j]? = some (ys[j]'(by omega)) := List.getElem?_eq_getElem (by omega)
  exact ⟨_, _, by rw [hat j (by omega)]; exact List.getElem?_eq_getElem hjc, hy, h1.trans hy⟩


theorem reels_of {n : Nat} {v : Value} {y : DataW H × List MemPlace} (h : DataW.trod enc Try.prog w base spare held n 28 [v] = some y) : ∃ l : List ReelD, RReels w.heap.size w v l := by
  rcases open_slice Try.underlying28 h with ⟨hv, rfl⟩ | ⟨a, len, cap, m, n', D, Pl, hv, hb, hl, hm, hmm, rfl, hx⟩
  · obtain rfl : v = .slice none 0 0 := by simpa using hv
    exact ⟨[], Rd.nil⟩
  · obtain rfl : v = .slice (some a) len cap := by simpa using hv
    have hle : len ≤ m := by rw [hmm]; split <;> omega
    have hC : Try.prog.cellsOf 58 = 4 := by kernel_rfl
    obtain ⟨l, hl2, hp⟩ := pick_list (P := fun i (z : ReelD) => ∀ r u, z.cells[r]? = some u → w.cell? (a.add (i * 4 + r)) = some u) len fun i hi => by
      obtain ⟨cs, h1, h2⟩ := hx i (by omega)
      obtain ⟨ys, n2, -, hf⟩ := elem_fields Try.underlying58 (by kernel_rfl) hC h1 h2
      obtain ⟨v0, y0, c0, -, t0⟩ := hf 0 _ rfl
      obtain ⟨v1, y1, c1, -, t1⟩ := hf 1 _ rfl
      obtain ⟨v2, y2, c2, -, t2⟩ := hf 2 _ rfl
      obtain ⟨v3, y3, c3, -, t3⟩ := hf 3 _ rfl
      obtain ⟨z0, rfl, -⟩ := field_int t0
      obtain ⟨z1, rfl, -⟩ := field_int t1
      obtain ⟨z2, rfl, -⟩ := field_int t2
      obtain ⟨z3, rfl, -⟩ := field_int t3
      rw [hC, addAdd] at c0 c1 c2 c3
      refine ⟨⟨z0, z1, z2, z3⟩, fun r u hu => ?_⟩
      match r, hu with
      | 0, hu => simp only [ReelD.cells, List.getElem?_cons_zero, Option.some.injEq] at hu; rw [← hu]; exact c0
      | 1, hu => simp only [ReelD.cells, List.getElem?_cons_succ, List.getElem?_cons_zero, Option.some.injEq] at hu; rw [← hu]; exact c1
      | 2, hu => simp only [ReelD.cells, List.getElem?_cons_succ, List.getElem?_cons_zero, Option.some.injEq] at hu; rw [← hu]; exact c2
      | 3, hu => simp only [ReelD.cells, List.getElem?_cons_succ, List.getElem?_cons_zero, Option.some.injEq] at hu; rw [← hu]; exact c3
      | r + 4, hu => simp [ReelD.cells] at hu
    exact ⟨l, rd_rows ReelD.cells 4 (fun _ => rfl) (by omega) hl2 (by omega) fun i x r u hx hu => hp i x hx r u hu⟩
theorem webs_of {n : Nat} {v : Value} {y : DataW H × List MemPlace} (h : DataW.trod enc Try.prog w base spare held n 22 [v] = some y) : ∃ l : List WebD, RWebs w.heap.size w v l := by
  rcases open_slice Try.underlying22 h with ⟨hv, rfl⟩ | ⟨a, len, cap, m, n', D, Pl, hv, hb, hl, hm, hmm, rfl, hx⟩
  · obtain rfl : v = .slice none 0 0 := by simpa using hv
    exact ⟨[], [], Rd.nil, rfl, fun i u x h => by simp at h⟩
  · obtain rfl : v = .slice (some a) len cap := by simpa using hv
    have hle : len ≤ m := by rw [hmm]; split <;> omega
    have hC : Try.prog.cellsOf 47 = 4 := by kernel_rfl
    obtain ⟨l, hl2, hp⟩ := pick_list (P := fun i (z : WebD × Value) => (∀ r u, (webCells z.1 z.2)[r]? = some u → w.cell? (a.add (i * 4 + r)) = some u) ∧ RReels w.heap.size w z.2 z.1.reels) len fun i hi => by
      obtain ⟨cs, h1, h2⟩ := hx i (by omega)
      obtain ⟨ys, n2, -, hf⟩ := elem_fields Try.underlying47 (by kernel_rfl) hC h1 h2
      obtain ⟨v0, y0, c0, -, t0⟩ := hf 0 _ rfl
      obtain ⟨v1, y1, c1, -, t1⟩ := hf 1 _ rfl
      obtain ⟨v2, y2, c2, -, t2⟩ := hf 2 _ rfl
      obtain ⟨v3, y3, c3, -, t3⟩ := hf 3 _ rfl
      obtain ⟨pl, hpl⟩ := reels_of t0
      obtain ⟨z1, rfl, -⟩ := field_int t1
      obtain ⟨z2, rfl, -⟩ := field_int t2
      obtain ⟨z3, rfl, -⟩ := field_int t3
      rw [hC, addAdd] at c0 c1 c2 c3
      refine ⟨(⟨pl, z1, z2, z3⟩, v0), fun r u hu => ?_, hpl⟩
      match r, hu with
      | 0, hu => simp only [webCells, List.getElem?_cons_zero, Option.some.injEq] at hu; rw [← hu]; exact c0
      | 1, hu => simp only [webCells, List.getElem?_cons_succ, List.getElem?_cons_zero, Option.some.injEq] at hu; rw [← hu]; exact c1
      | 2, hu => simp only [webCells, List.getElem?_cons_succ, List.getElem?_cons_zero, Option.some.injEq] at hu; rw [← hu]; exact c2
      | 3, hu => simp only [webCells, List.getElem?_cons_succ, List.getElem?_cons_zero, Option.some.injEq] at hu; rw [← hu]; exact c3
      | r + 4, hu => simp [webCells] at hu
    have hzip : (l.map (·.1)).zip (l.map (·.2)) = l := by
      rw [List.zip_map']
      simp
    refine ⟨l.map (·.1), l.map (·.2), ?_, by simp, fun i u x hu hx => ?_⟩
    · have := rd_rows (fun z : WebD × Value => webCells z.1 z.2) 4 (fun _ => rfl) (by omega) (c := cap) (a := a) hl2 (by omega) fun i x r u hx hu => (hp i x hx).1 r u hu
      rw [hzip, List.length_map]
      rw [hl2] at this ⊢
      exact this
    · rw [List.getElem?_map] at hu hx
      obtain ⟨z, hz, rfl⟩ := Option.map_eq_some_iff.1 hu
      rw [hz] at hx
      simp only [Option.map_some, Option.some.injEq] at hx
      subst hx
      exact (hp i z hz).2
set_option maxRecDepth 100000 in
theorem press_arg {v : Value} {d : DataW H} {p : List MemPlace} (hv : Value.okWide Try.prog w rc b0 24 v) (h : DataW.Trod enc Try.prog w base spare held 24 v d p) : ∃ q : PressD, RPress w.heap.size w v q := by
  obtain ⟨v0, v1, v2, y0, y1, y2, n, rfl, -, -, t0, t1, t2⟩ := open_agg3 Try.underlying24 (by kernel_rfl) (by kernel_rfl) hv h
  obtain ⟨x, rfl, -⟩ := field_int t0
  obtain ⟨y, rfl, -⟩ := field_int t1
  obtain ⟨l, hl⟩ := webs_of t2
  exact ⟨⟨x, y, l⟩, v2, rfl, hl⟩
end
end Go.Proofs.Ytpkepacbondopaa

namespace Go.Proofs.Ytpkepacbondopaa
open Go.RowKit Go.Shelf
attribute [local go_sem] Oper.semAt_some

set_option maxRecDepth 1000000 in
set_option maxHeartbeats 4000000 in
theorem ReelCopies_over (p : PressD) (web cps good : Int) (hcop : p.webs.length ≤ 8 ∧ FewR p.webs → ∀ (v : Value) (w : World), RPress w.heap.size w v p → Calls Try.prog 43 #[v] w (CopRet p p.webs.length w)) (v : Value) (w : World) (h : RPress w.heap.size w v p) :
    Calls Try.prog 3 #[v, .int .i64 web, .int .i64 cps, .int .i64 good] w fun e w' => e = .returned (.bool true) ∧ Below w.heap.size w w' := by
  have HCOP := Lib.hid hcop
  have HP := Lib.hid h
  obtain ⟨u, rfl, hw⟩ := h
  obtain ⟨A, c, rfl, hlm, -⟩ := hw.open_
  obtain ⟨n, hn⟩ : ∃ n, p.webs.length = n := ⟨_, rfl⟩
  have HN := Lib.hid hn
  rw [hn] at HP hlm ⊢
  have F0 : ∃ W0, w.alloc (.cells #[.int .i64 p.cut, .int .i64 p.margin, .slice A n c] 24) = W0 ∧ Hid (Below w.heap.size w W0) ∧ Hid (Blk W0 w.heap.size 24 #[.int .i64 p.cut, .int .i64 p.margin, .slice A n c]) := ⟨_, rfl, below_alloc _ _, Blk.new _ _ _⟩
  obtain ⟨W0, e0, HB0, HK0⟩ := F0
  have E0 := Lib.hid e0
  have z0 := cellOf HK0.out 0 (x := .int .i64 p.cut) rfl
  have z1 := cellOf HK0.out 1 (x := .int .i64 p.margin) rfl
  have z2 := cellOf HK0.out 2 (x := .slice A n c) rfl
  have C1 := Lib.hid (small_any p _ W0 ((HP.out.below HB0.out).more HB0.out.size))
  clear e0 hw hn hcop
  go_enter Try.func3, Try.ntmps3
  go_upto_region 1 with fail
  rw [E0.out]
  clear E0
  go_wp2_with fail
  refine C1.out.mono ?_
  rintro _ W1 ⟨b, rfl, hbP, hb1⟩
  have HB1 : Hid (Below w.heap.size w W1) := HB0.out.trans (hb1.mono HB0.out.size)
  have HK1 := Lib.hid (HK0.out.below hb1 HK0.out.lt)
  clear C1 hb1 z0 z1 z2
  cases b
  · have C3 := Lib.hid (awake_any W1)
    clear hbP
    go_wp2_with fail
    refine C3.out.mono ?_
    rintro _ W2 ⟨rfl, hb2⟩
    have HB2 : Hid (Below w.heap.size w W2) := HB1.out.trans (hb2.mono HB1.out.size)
    clear C3 hb2
    go_wp2_with fail
    go_ret
    exact ⟨rfl, HB2.out⟩
  · have z0 := cellOf HK1.out 0 (x := .int .i64 p.cut) rfl
    have z1 := cellOf HK1.out 1 (x := .int .i64 p.margin) rfl
    have z2 := cellOf HK1.out 2 (x := .slice A n c) rfl
    have C2 := Lib.hid (prints_any p web cps good (HCOP.out (hbP.out rfl)) _ W1 ((HP.out.below HB1.out).more HB1.out.size))
    clear hbP
    go_wp2_with fail
    refine C2.out.mono ?_
    rintro _ W2 ⟨rfl, hb2⟩
    have HB2 : Hid (Below w.heap.size w W2) := HB1.out.trans (hb2.mono HB1.out.size)
    have C3 := Lib.hid (awake_any W2)
    clear C2 hb2 z0 z1 z2
    go_wp2_with fail
    refine C3.out.mono ?_
    rintro _ W3 ⟨rfl, hb3⟩
    have HB3 : Hid (Below w.heap.size w W3) := HB2.out.trans (hb3.mono HB2.out.size)
    clear C3 hb3
    go_wp2_with fail
    go_ret
    exact ⟨rfl, HB3.out⟩
end Go.Proofs.Ytpkepacbondopaa
