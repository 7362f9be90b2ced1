/-
  FoldSmall: a run that is being built; wide.
-/
import Derived.Test.YtdbfhdncjblleaaSd
import Derived.Test.YtdbfhdncjblleaaKl
namespace Go.Proofs.Ytdbfhdncjblleaa
open Go.RowKit

/-- A run that is being built: its box, its webs and ribbons of one's own. -/
def GSt (w : World) (b7 : Nat) (v1 : Value) (vs : List Value) (webs : List WebD) (v2 : Value) (ribs : List RibD) (v3 : Value) (coll : Bool) (X : World) : Prop :=
  Blk X b7 26 #[v1, v2, v3, .bool coll] ∧ OWebsR w.heap.size X v1 vs webs ∧ ORibsR w.heap.size X v2 ribs ∧ Below w.heap.size w X
section
variable {w X X1 : World} {b7 : Nat} {v1 v2 v3 : Value} {vs : List Value} {webs : List WebD} {ribs : List RibD} {coll : Bool}
theorem GSt.below (h : GSt w b7 v1 vs webs v2 ribs v3 coll X) (hb : Below X.heap.size X X1) : GSt w b7 v1 vs webs v2 ribs v3 coll X1 := by
  obtain ⟨h1, h2, h3, h4⟩ := h
  exact ⟨h1.below hb h1.lt, h2.below hb, ownsRow_below h3 hb, h4.trans (hb.mono h4.size)⟩
theorem GSt.grew (h : GSt w b7 v1 vs webs v2 ribs v3 coll X) {e : TypeId} (hg : Grew e X X1) (hb : Below w.heap.size w X1) (e1 : 26 ≠ e) (e2 : 97 ≠ e) (e3 : 98 ≠ e) (e4 : 99 ≠ e) : GSt w b7 v1 vs webs v2 ribs v3 coll X1 := by
  obtain ⟨h1, h2, h3, h4⟩ := h
  exact ⟨h1.grew hg e1, h2.grew hg e2 e3, ownsRow_grew h3 hg e4, hb⟩
/-- A web more, stored into the box. -/
theorem GSt.web (h : GSt w b7 v1 vs webs v2 ribs v3 coll X) {v1' u : Value} {x : WebD} {b0 : Nat} {tmp : Obj} (hlt : ∀ (i : Nat) (u' : Value) (g : Nat), vs[i]? = some u' → u'.ownBlock = some g → g < b0) (hu : OPlatesR w.heap.size X u x.plates) (hge : ∀ g, u.ownBlock = some g → b0 ≤ g)
    (hg : (X.alloc tmp).grownBy X1 v1.ownBlock) (hown : X1.ownsRow w.heap.size 97 3 v1' (webs.length + 1) (webFlat webs vs ++ webCells x u)) (hb7 : w.heap.size ≤ b7) :
    GSt w b7 v1' (vs ++ [u]) (webs ++ [x]) v2 ribs v3 coll (X1.setCell ⟨b7, 0, none⟩ v1') ∧ Grew 97 X X1 ∧ Blk X1 b7 26 #[v1, v2, v3, .bool coll] ∧ Below w.heap.size w X1 := by
  obtain ⟨h1, h2, h3, h4⟩ := h
  have hgr : Grew 97 X X1 := Grew.of_append h2.1 hg
  have hb : Below w.heap.size w X1 := (h4.alloc h4.size tmp).grown hg (by have := h4.size; simp; omega) (fun k hk => (h2.1.lt k hk).1)
  have k1 := h1.grew hgr (by decide)
  have g2 := Grew.set k1 0 v1'
  exact ⟨⟨k1.put 0 v1', (h2.append hlt hu hge hgr hown).grew g2 (by decide) (by decide), ownsRow_grew (ownsRow_grew h3 hgr (by decide)) g2 (by decide), hb.setCell (p := ⟨b7, 0, none⟩) hb7 v1'⟩, hgr, k1, hb⟩
/-- A ribbon more, stored into the box. -/
theorem GSt.rib (h : GSt w b7 v1 vs webs v2 ribs v3 coll X) {v2' : Value} {x : RibD} {tmp : Obj}
    (hg : (X.alloc tmp).grownBy X1 v2.ownBlock) (hown : X1.ownsRow w.heap.size 99 5 v2' (ribs.length + 1) (ribs.flatMap RibD.cells ++ x.cells)) (hb7 : w.heap.size ≤ b7) :
    GSt w b7 v1 vs webs v2' (ribs ++ [x]) v3 coll (X1.setCell ⟨b7, 1, none⟩ v2') ∧ Grew 99 X X1 ∧ Blk X1 b7 26 #[v1, v2, v3, .bool coll] ∧ Below w.heap.size w X1 := by
  obtain ⟨h1, h2, h3, h4⟩ := h
  have hgr : Grew 99 X X1 := Grew.of_append h3 hg
  have hb : Below w.heap.size w X1 := (h4.alloc h4.size tmp).grown hg (by have := h4.size; simp; omega) (fun k hk => (h3.lt k hk).1)
  have k1 := h1.grew hgr (by decide)
  have g2 := Grew.set k1 1 v2'
  refine ⟨⟨k1.put 1 v2', (h2.grew hgr (by decide) (by decide)).grew g2 (by decide) (by decide), ?_, hb.setCell (p := ⟨b7, 1, none⟩) hb7 v2'⟩, hgr, k1, hb⟩
  refine ownsRow_grew ?_ g2 (by decide)
  have e : (ribs ++ [x]).flatMap RibD.cells = ribs.flatMap RibD.cells ++ x.cells := by simp
  rw [e, List.length_append]
  exact hown
end
set_option maxRecDepth 100000 in
set_option maxHeartbeats 1000000 in
theorem makePlatesR (k : Nat) (hk : k ≤ 100) (u : World) : (Instr.makeSlice 95 (.int .i64 k) (.int .i64 k)).run Try.prog u =
      .ok (.slice (some ⟨u.heap.size, 0, none⟩) k k) (u.alloc (.cells (madeCells #[.int .i64 0, .bool false] (k * 2)) 98)) := by
  obtain ⟨i0, hi, hz0, hz1, hz2⟩ := info_parts infoPlateR
  have h := run_make (P := Try.prog) u 95 98 i0 (.agg #[.int .i64 0, .bool false]) Try.underlying95 hi hz0 .i64 .i64 (k : Int) (k : Int) (by omega) (Int.le_refl _) (by rw [hz2]; omega) (by omega)
  rw [Int.toNat_natCast] at h
  simpa [hz1, Value.cells] using h
/-- wide's state. -/
def WdSt (w : World) (bS b7 : Nat) (v1 : Value) (vs : List Value) (webs : List WebD) (v2 : Value) (ribs : List RibD) (v3 : Value) (ints : List Int) (X : World) : Prop :=
  GSt w b7 v1 vs webs v2 ribs (.slice (some ⟨bS, 0, none⟩) 1 1) false X ∧ Blk X w.heap.size 26 #[.slice none 0 0, .slice none 0 0, .slice none 0 0, .bool false] ∧ Blk X bS 48 #[v3] ∧ X.ownsRow w.heap.size 3 1 v3 ints.length (ints.map (Value.int .i64))

theorem made_plates (p : Nat) : (madeCells #[.int .i64 0, .bool false] (p * 2)).toList = (List.replicate p (⟨0, false⟩ : PlateD)).flatMap PlateD.cells := by
  refine List.ext_getElem? fun j => ?_
  rcases Nat.lt_or_ge j (p * 2) with hj | hj
  · have hf := fun jj hjj => flat_at PlateD.cells 2 (fun _ => rfl) (List.replicate p (⟨0, false⟩ : PlateD)) (j / 2) jj ⟨0, false⟩ (by rw [List.getElem?_replicate]; rw [if_pos (by omega)]) hjj
    have hl : (madeCells #[Value.int .i64 0, .bool false] (p * 2)).toList[j]? = some (#[Value.int .i64 0, .bool false][j % 2]!) := by
      unfold madeCells
      simp [hj]
    rw [hl]
    rcases (show j % 2 = 0 ∨ j % 2 = 1 by omega) with e | e
    · have := hf 0 (by omega)
      rw [show j / 2 * 2 + 0 = j by omega] at this
      rw [this, e]; rfl
    · have := hf 1 (by omega)
      rw [show j / 2 * 2 + 1 = j by omega] at this
      rw [this, e]; rfl
  · rw [List.getElem?_eq_none (by simp [size_madeCells]; omega), List.getElem?_eq_none (by rw [flat_get PlateD.cells 2 (fun _ => rfl)]; simpa using hj)]
theorem own_made {X : World} {p : Nat} (hp : p ≤ 1000) : OPlatesR X.heap.size (X.alloc (.cells (madeCells #[.int .i64 0, .bool false] (p * 2)) 98)) (.slice (some ⟨X.heap.size, 0, none⟩) p p) (List.replicate p ⟨0, false⟩) := by
  have h := own_blk (base := X.heap.size) (n := p) (k := 2) (Blk.new X 98 (madeCells #[.int .i64 0, .bool false] (p * 2))) (Nat.le_refl _) (size_madeCells _ _) hp
  rw [made_plates] at h
  unfold OPlatesR
  rw [List.length_replicate]
  exact h
theorem WdSt.reads {w X : World} {v1 v2 v3 : Value} {vs : List Value} {webs : List WebD} {ribs : List RibD} {ints : List Int} (h1 : OWebsR w.heap.size X v1 vs webs) (h2 : ORibsR w.heap.size X v2 ribs) {gS : Nat} (h3 : Blk X gS 48 #[v3]) (h4 : X.ownsRow w.heap.size 3 1 v3 ints.length (ints.map (Value.int .i64))) :
    RRun X.heap.size X (.agg #[v1, v2, .slice (some ⟨gS, 0, none⟩) 1 1, .bool false]) ⟨webs, ribs, [ints], false⟩ := by
  refine orunR_reads (r := ⟨webs, ribs, [ints], false⟩) h1 h2 ⟨[v3], ⟨_, _, rfl, rfl, by simp [maxLen], fun _ => ⟨gS, 0, rfl, h3.lt, fun j u hj => ?_⟩⟩, rfl, fun i u x hu hx => ?_⟩
  · rw [Nat.zero_add, h3.cell]
    simpa using hj
  · cases i with
    | zero =>
      simp only [List.getElem?_cons_zero, Option.some.injEq] at hu hx
      subst hu hx
      exact Rd.own h4 (own_le h4)
    | succ i => simp at hu

set_option maxRecDepth 100000 in
set_option maxHeartbeats 4000000 in
theorem wide_any (nw nc nr p : Nat) (w : World) (hw : nw ≤ 20) (hc : nc ≤ 20) (hr : nr ≤ 20) (hp : 2 * (nc : Int) * (nr : Int) = (p : Int)) (hp2 : p ≤ 100) :
    Calls Try.prog 38 #[.int .i64 nw, .int .i64 nc, .int .i64 nr] w fun e w' => ∃ u r, e = .returned u ∧ RRun w'.heap.size w' u r ∧ Below w.heap.size w w' := by
  obtain ⟨i1, hi1, hw0, hw1, hw2⟩ := info_parts infoWebR
  obtain ⟨i2, hi2, hr0, hr1, hr2⟩ := info_parts infoRibR
  obtain ⟨i0, hi, hz0, hz1, hz2⟩ := info_parts infoInt0
  have hmk := fun u => makePlatesR p hp2 u
  have F0 : ∃ W0, ((w.alloc (.cells #[.slice none 0 0, .slice none 0 0, .slice none 0 0, .bool false] 26)).alloc (.cells #[.slice none 0 0] 48)).alloc (.cells #[.slice none 0 0, .slice none 0 0, .slice (some ⟨w.heap.size + 1, 0, none⟩) 1 1, .bool false] 26) = W0 ∧
      WdSt w (w.heap.size + 1) (w.heap.size + 1 + 1) (.slice none 0 0) [] [] (.slice none 0 0) [] (.slice none 0 0) [] W0 := by
    refine ⟨_, rfl, ⟨?_, OWebsR.nil, World.ownsRow_nil _ _ _ _, ((((Below.refl _ _).alloc (Nat.le_refl _) _).alloc (by simp) _).alloc (by simp; omega) _)⟩, ((Blk.new w _ _).alloc _).alloc _, ?_, World.ownsRow_nil _ _ _ _⟩
    · exact blk_new (by simp) _ _
    · exact (blk_new (by simp) _ _).alloc _
  obtain ⟨W0, e0, S0⟩ := F0
  have E0 := Lib.hid e0
  have HS0 := Lib.hid S0
  clear e0 S0
  go_enter Try.func38, Try.ntmps38
  go_upto_region 3 with fail
  rw [E0.out]
  have hb7 : w.heap.size ≤ w.heap.size + 1 + 1 := by omega
  have hbS : w.heap.size ≤ w.heap.size + 1 := by omega
  have hb7n : w.heap.size < w.heap.size + 1 + 1 := by omega
  have hb7m : w.heap.size + 1 < w.heap.size + 1 + 1 := by omega
  obtain ⟨bS, hbSe⟩ : ∃ b, w.heap.size + 1 = b := ⟨_, rfl⟩
  obtain ⟨b7, hb7e⟩ : ∃ b, bS + 1 = b := ⟨_, rfl⟩
  rw [hbSe] at HS0 hb7 hbS hb7n hb7m
  rw [hb7e] at HS0 hb7 hb7n hb7m
  try simp only [hbSe, hb7e]
  clear E0 hbSe hb7e
  go_loopw [8] (fun i wr => ∃ k : Nat, k ≤ nw ∧ i = .int .i64 k ∧ ∃ v1 vs webs v2 ribs v3 ints, Hid (WdSt w bS b7 v1 vs webs v2 ribs v3 ints wr) ∧ webs.length ≤ k ∧ ribs.length ≤ 40 ∧ ints.length ≤ ribs.length) (fun i _ => nw - (intOf i).toNat)
  case atStart => exact ⟨0, Nat.zero_le _, rfl, _, _, _, _, _, _, _, HS0, Nat.le_refl _, by simp, Nat.le_refl _⟩
  case round =>
    clear HS0
    obtain ⟨k, hk, rfl, v1, vs, webs, v2, ribs, v3, ints, hst, hl1, hl2, hl3⟩ := hrel
    obtain ⟨A1, c1, rfl⟩ := ownsRow_form hst.out.1.2.1.1
    obtain ⟨A2, c2, rfl⟩ := ownsRow_form hst.out.1.2.2.1
    have m0 := cellOf hst.out.1.1 0 (x := .slice A1 webs.length c1) rfl
    have m1 := cellOf hst.out.1.1 1 (x := .slice A2 ribs.length c2) rfl
    have m2 := cellOf hst.out.1.1 2 (x := .slice (some ⟨bS, 0, none⟩) 1 1) rfl
    have m3 := cellOf hst.out.1.1 3 (x := .bool false) rfl
    by_cases hlt : k < nw
    case neg =>
      have R9 := hst.out.2.1
      have d0 := cellOf R9 0 (x := .slice none 0 0) rfl
      have d1 := cellOf R9 1 (x := .slice none 0 0) rfl
      have d2 := cellOf R9 2 (x := .slice none 0 0) rfl
      have d3 := cellOf R9 3 (x := .bool false) rfl
      have f0 := R9.frozen 0
      have f1 := R9.frozen 1
      have f2 := R9.frozen 2
      have f3 := R9.frozen 3
      have hfin : ∀ Y, Y = ((((wr.setCell ⟨w.heap.size, 0, none⟩ (.slice A1 webs.length c1)).setCell ⟨w.heap.size, 1, none⟩ (.slice A2 ribs.length c2)).setCell ⟨w.heap.size, 2, none⟩ (.slice (some ⟨bS, 0, none⟩) 1 1)).setCell ⟨w.heap.size, 3, none⟩ (.bool false)) →
          RRun Y.heap.size Y (.agg #[.slice A1 webs.length c1, .slice A2 ribs.length c2, .slice (some ⟨bS, 0, none⟩) 1 1, .bool false]) ⟨webs, ribs, [ints], false⟩ ∧ Below w.heap.size w Y := by
        rintro Y rfl
        have k1 := R9.put 0 (.slice A1 webs.length c1)
        have k2 := k1.put 1 (.slice A2 ribs.length c2)
        have k3 := k2.put 2 (.slice (some ⟨bS, 0, none⟩) 1 1)
        have gr := (((Grew.set R9 0 (.slice A1 webs.length c1)).trans (Grew.set k1 1 (.slice A2 ribs.length c2))).trans (Grew.set k2 2 (.slice (some ⟨bS, 0, none⟩) 1 1))).trans (Grew.set k3 3 (.bool false))
        obtain ⟨⟨g1, g2, g3, g4⟩, -, g5, g6⟩ := hst.out
        exact ⟨WdSt.reads (g2.grew gr (by decide) (by decide)) (ownsRow_grew g3 gr (by decide)) (g5.grew gr (by decide)) (ownsRow_grew g6 gr (by decide)), below_set4 g4 (Nat.le_refl _) _ _ _ _⟩
      have HFIN := Lib.hid hfin
      clear hst R9 hfin
      go_wp2
      refine bodyPost_ret (v := .agg #[.slice A1 webs.length c1, .slice A2 ribs.length c2, .slice (some ⟨bS, 0, none⟩) 1 1, .bool false]) (by simp [results, Try.results38, go_sem, d0, d1, d2, d3]) rfl ⟨_, _, rfl, HFIN.out _ rfl⟩
    have hki : (k : Int) < (nw : Int) := by omega
    -- the web
    have F1 : ∃ wp, wr.alloc (.cells (madeCells #[.int .i64 0, .bool false] (p * 2)) 98) = wp ∧ Below wr.heap.size wr wp ∧ wp.heap.size = wr.heap.size + 1 ∧ OPlatesR wr.heap.size wp (.slice (some ⟨wr.heap.size, 0, none⟩) p p) (List.replicate p ⟨0, false⟩) :=
      ⟨_, rfl, (Below.refl _ _).alloc (Nat.le_refl _) _, by simp, own_made (by omega)⟩
    obtain ⟨wp, ep, hbp, zp, hpl⟩ := F1
    have Ep := Lib.hid ep
    have hstp : WdSt w bS b7 (.slice A1 webs.length c1) vs webs (.slice A2 ribs.length c2) ribs v3 ints wp := by
      obtain ⟨g1, g2, g3, g4⟩ := hst.out
      exact ⟨g1.below hbp, g2.below hbp g2.lt, g3.below hbp g3.lt, ownsRow_below g4 hbp⟩
    have hlts := hst.out.1.2.1.lts
    have hbz := hst.out.1.2.2.2.size
    have HSTP := Lib.hid hstp
    have HLT := Lib.hid hlts
    have HPL := Lib.hid hpl
    have hown := hstp.1.2.1.1
    have m0' := cellOf hstp.1.1 0 (x := .slice A1 webs.length c1) rfl
    have m0f := hstp.1.1.frozen 0
    have Zp := Lib.hid zp
    have hb7z : b7 < wr.heap.size := hst.out.1.1.lt
    have hpl2 : OPlatesR w.heap.size wp (.slice (some ⟨wr.heap.size, 0, none⟩) p p) (List.replicate p ⟨0, false⟩) := ownsRow_base hpl hbz
    have HPL2 := Lib.hid hpl2
    clear ep hbp hstp hlts hpl hpl2 zp m1 m2 m3 hst
    have hown0 : (wr.alloc (.cells (madeCells #[.int .i64 0, .bool false] (p * 2)) 98)).ownsRow w.heap.size 97 3 (.slice A1 webs.length c1) webs.length (webFlat webs vs) := by rw [Ep.out]; exact hown
    have hnews : ∀ j u, ([.int .i64 nc, .int .i64 nr, .slice (some ⟨wr.heap.size, 0, none⟩) p p] : List Value)[j]? = some u → ((wr.alloc (.cells (madeCells #[.int .i64 0, .bool false] (p * 2)) 98)).alloc (.cells #[.int .i64 nc, .int .i64 nr, .slice (some ⟨wr.heap.size, 0, none⟩) p p] 97)).cell? ((⟨wr.heap.size + 1, 0, none⟩ : Addr).add j) = some u := by
      have := cells_new (wr.alloc (.cells (madeCells #[.int .i64 0, .bool false] (p * 2)) 98)) #[.int .i64 nc, .int .i64 nr, .slice (some ⟨wr.heap.size, 0, none⟩) p p] 97
      rw [World.size_alloc] at this
      exact this
    have HOWN := Lib.hid hown0
    have HNEWS := Lib.hid hnews
    clear hown hown0 hnews
    go_upto_region 6 with fail
    clear m0
    go_wp2_with (at_builtin; (go_loud (refine wpList_append_own _ rfl _ _ 22 rfl w.heap.size 97 i1 _ 3 40 Try.underlying22 hi1 hw0 hw1 hw2 rfl (by decide) (.slice A1 webs.length c1) webs.length (webFlat webs vs) rfl (HOWN.out.alloc _) ⟨wr.heap.size + 1, 0, none⟩ 1 1 [.int .i64 nc, .int .i64 nr, .slice (some ⟨wr.heap.size, 0, none⟩) p p] rfl rfl HNEWS.out (by simp [Value.oneCell']) (by simp only [maxLen]; omega) (by omega) (by simp; omega) ?_)); intro v1' w4 hown' hgrow _; obtain ⟨A1', c1', rfl⟩ := ownsRow_form hown'; obtain ⟨hG, hgr, hk1, hb4⟩ := GSt.web (x := ⟨nc, nr, List.replicate p ⟨0, false⟩⟩) HSTP.out.1 HLT.out HPL2.out (fun g hg => by simp [Value.ownBlock] at hg; omega) (by rw [← Ep.out]; exact hgrow) hown' hb7; have m0 := cellOf hk1 0 (x := .slice A1 webs.length c1) rfl; have m0g := hk1.frozen 0)
    have hS5 : WdSt w bS b7 (.slice A1' (webs.length + 1) c1') (vs ++ [.slice (some ⟨wr.heap.size, 0, none⟩) p p]) (webs ++ [⟨nc, nr, List.replicate p ⟨0, false⟩⟩]) (.slice A2 ribs.length c2) ribs v3 ints (w4.setCell ⟨b7, 0, none⟩ (.slice A1' (webs.length + 1) c1')) := by
      obtain ⟨-, g2, g3, g4⟩ := HSTP.out
      have gs := Grew.set hk1 0 (.slice A1' (webs.length + 1) c1')
      exact ⟨hG, (g2.grew hgr (by decide)).far (p := ⟨b7, 0, none⟩) (by show w.heap.size ≠ b7; omega) _, (g3.grew hgr (by decide)).grew gs (by decide), ownsRow_grew (ownsRow_grew g4 hgr (by decide)) gs (by decide)⟩
    have HS5 := Lib.hid hS5
    have hl5 : (webs ++ [(⟨nc, nr, List.replicate p ⟨0, false⟩⟩ : WebD)]).length ≤ k + 1 := by simp; omega
    clear m0 m0g hG hgr hk1 hb4 hown' hgrow HSTP HLT HPL HPL2 HOWN HNEWS Ep Zp hS5 m0' m0f hbz hb7z
    go_loopw [10] (fun i wr => ∃ c : Nat, c ≤ nc ∧ i = .int .i64 c ∧ ∃ v1 vs webs v2 ribs v3 ints, Hid (WdSt w bS b7 v1 vs webs v2 ribs v3 ints wr) ∧ webs.length ≤ k + 1 ∧ ribs.length ≤ 40 ∧ ints.length ≤ ribs.length) (fun i _ => nc - (intOf i).toNat)
    case atStart => exact ⟨0, Nat.zero_le _, rfl, _, _, _, _, _, _, _, HS5, hl5, hl2, hl3⟩
    case round =>
      clear HS5 hl1 hl2 hl3 hl5
      obtain ⟨c, hcc, rfl, v1, vs, webs, v2, ribs, v3, ints, hst, hl1, hl2, hl3⟩ := hrel
      obtain ⟨A2, c2, rfl⟩ := ownsRow_form hst.out.1.2.2.1
      obtain ⟨A3, c3, rfl⟩ := ownsRow_form hst.out.2.2.2
      have m1 := cellOf hst.out.1.1 1 (x := .slice A2 ribs.length c2) rfl
      have hm1f := hst.out.1.1.frozen 1
      by_cases hltc : c < nc
      case neg =>
        clear hm1f
        go_wp2
        go_roundw
        case rel => exact ⟨k + 1, by omega, by go_num, _, _, _, _, _, _, _, hst, hl1, hl2, hl3⟩
        case measure => (simp [intOf]) <;> omega
      by_cases h40 : ribs.length < 40
      case neg =>
        clear hm1f
        have h40' : ¬ (ribs.length : Int) < 40 := by omega
        go_wp2
        go_roundw
        case rel => exact ⟨k + 1, by omega, by go_num, _, _, _, _, _, _, _, hst, hl1, hl2, hl3⟩
        case measure => (simp [intOf]) <;> omega
      have h40' : (ribs.length : Int) < 40 := by omega
      have m2 := cellOf hst.out.1.1 2 (x := .slice (some ⟨bS, 0, none⟩) 1 1) rfl
      have s0 := cellOf hst.out.2.2.1 0 (x := .slice A3 ints.length c3) rfl
      have s0f := hst.out.2.2.1.frozen 0
      have hbz := hst.out.1.2.2.2.size
      go_upto_region 11 with fail
      have hown := hst.out.2.2.2
      have hBw := hst.out.1.2.2.2
      have hGw : ∀ o, Grew 3 wr (wr.alloc o) := fun o => Grew.alloc _ o
      have hGd : ∀ o, Grew 3 wr (wr.alloc o).drew := fun o => Grew.alloc _ o
      have hb7z : b7 < wr.heap.size := hst.out.1.1.lt
      have hbSz : bS < wr.heap.size := hst.out.2.2.1.lt
      have HA : Hid (∀ X Y, Below w.heap.size w Y → Grew 3 wr Y → Y.ownsRow w.heap.size 3 1 (.slice A3 ints.length c3) ints.length (ints.map (Value.int .i64)) → Y.grownBy X (Value.slice A3 ints.length c3).ownBlock → Grew 3 wr X ∧ Below w.heap.size w X) := fun X Y hb hg ho hgr =>
        ⟨hg.trans (Grew.of_row ho rfl hgr), hb.grown hgr hb.size fun j hj => (ho.lt j hj).1⟩
      have HB : Hid (∀ X, Grew 3 wr X → X.cell? ⟨b7, 1, none⟩ = some (.slice A2 ribs.length c2) ∧ X.cell? ⟨b7, 2, none⟩ = some (.slice (some ⟨bS, 0, none⟩) 1 1) ∧ X.cell? ⟨bS, 0, none⟩ = some (.slice A3 ints.length c3) ∧ X.frozen? ⟨bS, 0, none⟩ = false) := fun X hg => by
        have k1 := hst.out.1.1.grew hg (by decide)
        have k2 := hst.out.2.2.1.grew hg (by decide)
        exact ⟨cellOf k1 1 rfl, cellOf k1 2 rfl, cellOf k2 0 rfl, k2.frozen 0⟩
      clear hm1f
      go_region_law (first | (refine step_append_lies _ (by rfl) _ _ _ (by rfl) w.heap.size 3 i0 (.int .i64 0) 1 8 Try.underlying48 hi hz0 hz1 hz2 rfl (by decide) (.slice A3 ints.length c3) ints.length _ (by rfl) (by first | exact hown.alloc _ | exact (hown.alloc _).drew) ⟨wr.heap.size, 0, none⟩ 1 1 [.int .i64 ribs.length] (by rfl) (by rfl) (World.news_of_block (cs := #[.int .i64 ribs.length]) (t := 3) (fr := (0, 0)) (heap_alloc_new wr _)) (by simp [Value.oneCell']) (by omega) (by simp only [maxLen]; omega) (by omega) (by simp; omega) (wr.heap.size + 1) (by simp) ?_; intro g9 c9 w8 hown' hgrow hat hlt9; obtain ⟨hgr, hb8⟩ := HA.out w8 _ (by first | exact (hBw.alloc hbz _).drew | exact hBw.alloc hbz _) (by first | exact hGd _ | exact hGw _) (by first | exact (hown.alloc _).drew | exact hown.alloc _) hgrow; obtain ⟨p1, p2, p3, p4⟩ := HB.out w8 hgr))
      all_goals
        have hS9 : WdSt w bS b7 v1 vs webs (.slice A2 ribs.length c2) ribs (.slice (some ⟨g9, 0, none⟩) (ints.length + 1) c9) (ints ++ [(ribs.length : Int)]) (w8.setCell ⟨bS, 0, none⟩ (.slice (some ⟨g9, 0, none⟩) (ints.length + 1) c9)) := by
          obtain ⟨g1, g2, g3, g4⟩ := hst.out
          have k3 := g3.grew hgr (by decide)
          have gs := Grew.set k3 0 (.slice (some ⟨g9, 0, none⟩) (ints.length + 1) c9)
          exact ⟨(g1.grew hgr hb8 (by decide) (by decide) (by decide) (by decide)).grew gs (hb8.setCell (p := ⟨bS, 0, none⟩) hbS _) (by decide) (by decide) (by decide) (by decide), (g2.grew hgr (by decide)).grew gs (by decide), k3.put 0 _, by simpa using ownsRow_grew hown' gs (by decide)⟩
        obtain ⟨w9, e9⟩ : ∃ w9, w8.setCell ⟨bS, 0, none⟩ (.slice (some ⟨g9, 0, none⟩) (ints.length + 1) c9) = w9 := ⟨_, rfl⟩
        rw [e9] at hS9 ⊢
        have HS9 := Lib.hid hS9
        clear e9 p1 p2 p3 p4 hgr hb8 hown' hgrow hat hlt9 HA HB hown hst hBw hGw hGd hb7z hbSz hbz m1 m2 s0 s0f
        have m1 := cellOf hS9.1.1 1 (x := .slice A2 ribs.length c2) rfl
        have m1f := hS9.1.1.frozen 1
        have hown := hS9.1.2.2.1
        have hbz := hS9.1.2.2.2.size
        have hci : (c : Int) < (nc : Int) := by omega
        clear hS9
        go_wp2_with (at_builtin; (go_loud (refine wpList_append_own _ rfl _ _ 23 rfl w.heap.size 99 i2 _ 5 32 Try.underlying23 hi2 hr0 hr1 hr2 rfl (by decide) (.slice A2 ribs.length c2) ribs.length (ribs.flatMap RibD.cells) rfl (hown.alloc _) ⟨w9.heap.size, 0, none⟩ 1 1 [.int .i64 k, .int .i64 c, .int .i64 1, .bool false, .bool _] rfl rfl (cells_new _ _ _) (by simp [Value.oneCell']) (by simp only [maxLen]; omega) (by omega) (by simp; omega) ?_)); intro v2' w10 hown' hgrow _; obtain ⟨A2', c2', rfl⟩ := ownsRow_form hown'; obtain ⟨hG, hgr, hk1, hb10⟩ := GSt.rib (x := ⟨k, c, 1, false, _⟩) HS9.out.1 hgrow hown' hb7; clear m1 m1f; have m1 := cellOf hk1 1 (x := .slice A2 ribs.length c2) rfl; have m1f := hk1.frozen 1)
        have hS11 : Hid (WdSt w bS b7 v1 vs webs (.slice A2' (ribs.length + 1) c2') (ribs ++ [⟨k, c, 1, false, ((c : Int) % 2 == 1)⟩]) (.slice (some ⟨g9, 0, none⟩) (ints.length + 1) c9) (ints ++ [(ribs.length : Int)]) (w10.setCell ⟨b7, 1, none⟩ (.slice A2' (ribs.length + 1) c2'))) := by
          obtain ⟨-, g2, g3, g4⟩ := HS9.out
          have gs := Grew.set hk1 1 (.slice A2' (ribs.length + 1) c2')
          exact ⟨hG, (g2.grew hgr (by decide)).far (p := ⟨b7, 1, none⟩) (by show w.heap.size ≠ b7; omega) _, (g3.grew hgr (by decide)).grew gs (by decide), ownsRow_grew (ownsRow_grew g4 hgr (by decide)) gs (by decide)⟩
        clear m1 m1f hG hgr hk1 hb10 hown' hgrow hown HS9
        go_roundw
        case rel => exact ⟨c + 1, by omega, by go_num, _, _, _, _, _, _, _, hS11, hl1, by simp; omega, by simp; omega⟩
        case measure => (simp [intOf]) <;> omega
end Go.Proofs.Ytdbfhdncjblleaa
