/-
  readers.
-/
import Derived.Deep.AppendLies
import Derived.Deep.RegionHeld3
import Derived.Test.YtlmpbmlbllndcaaMbl
import Derived.Test.YtlmpbmlbllndcaaMbn
import Derived.Test.YtlmpbmlbllndcaaMbs
import Derived.Test.YtlmpbmlbllndcaaMbt
namespace Go.Proofs.Ytlmpbmlbllndcaa
open Go.RowKit
attribute [local go_sem] Oper.semAt_some

theorem sliceSubO : Try.prog.underlying 35 = some (.slice 42) := by kernel_rfl
theorem infoSubO : (Try.prog.info? 42).map (fun i => (i.zero, i.size, i.bytes)) = some (some (.agg #[.int .i64 0, .int .i64 0, .int .i64 0, .int .i64 0, .slice none 0 0]), 5, 56) := by kernel_rfl
theorem sliceRSub : Try.prog.underlying 125 = some (.slice 126) := by kernel_rfl
theorem infoRSub : (Try.prog.info? 126).map (fun i => (i.zero, i.size, i.bytes)) = some (some (.agg #[.int .i64 0, .int .i64 0, .int .i64 0, .int .i64 0, .slice none 0 0]), 5, 56) := by kernel_rfl
theorem sliceRCmp : Try.prog.underlying 133 = some (.slice 134) := by kernel_rfl
theorem infoRCmp : (Try.prog.info? 134).map (fun i => (i.zero, i.size, i.bytes)) = some (some (.agg #[.int .i64 0, .int .i64 0]), 2, 16) := by kernel_rfl
/-- The rows while the complaints are copied: the clone of the complaints, the reference's copy so far. -/
structure CpSt (w : World) (l : List SubD) (k p0 : Nat) (c0 : Array Value) (vo vr : Value) (us ur : List Value) (vb vq : Value) (m j : Nat) (c : List CmpD) (Y : World) : Prop where
  rows : RowsSt w l k p0 c0 vo vr us ur Y
  cln : Y.ownsRow w.heap.size 91 2 vb m (c.flatMap CmpD.cells)
  cop : Y.ownsRow w.heap.size 134 2 vq j ((c.take j).flatMap CmpD.cells)
section
variable {w X Y : World} {l : List SubD} {k p0 m j : Nat} {c0 : Array Value} {vo vr vb vq v2 : Value} {us ur : List Value} {c : List CmpD} {x : CmpD}
theorem CpSt.below (h : CpSt w l k p0 c0 vo vr us ur vb vq m j c X) (hb : Below X.heap.size X Y) : CpSt w l k p0 c0 vo vr us ur vb vq m j c Y := ⟨h.rows.below hb, ownsRow_below h.cln hb, ownsRow_below h.cop hb⟩
theorem CpSt.more (h : CpSt w l k p0 c0 vo vr us ur vb vq m j c X) (hx : c[j]? = some x) (ho : Y.ownsRow w.heap.size 134 2 v2 (j + 1) ((c.take j).flatMap CmpD.cells ++ x.cells)) (hg : X.grownBy Y vq.ownBlock) : CpSt w l k p0 c0 vo vr us ur vb v2 m (j + 1) c Y := by
  have hK : KeptBut (fun g => some g = vq.ownBlock) X Y := KeptBut.grown (S := fun g => some g = vq.ownBlock) hg fun _ hj => hj
  refine ⟨h.rows.keep hK fun g hg => ownsRow_own h.cop hg.symm, ownsRow_keptBut h.cln hK fun g cs hg' hB hs => ?_, ?_⟩
  · obtain ⟨-, cs', hB'⟩ := ownsRow_own h.cop hs.symm
    exact Blk.ne hB' hB (by decide) rfl
  · rw [List.take_add_one, hx, Option.toList_some, List.flatMap_append]
    simpa using ho
end
theorem own_cap {w : World} {base k n c : Nat} {e : TypeId} {A : Option Addr} {xs : List Value} (h : w.ownsRow base e k (.slice A n c) n xs) : n ≤ c := by
  rcases h.2 with ⟨h2, rfl⟩ | ⟨g, cap, cur, h2, _, _, h3, h4, _⟩
  · exact Nat.zero_le _
  · injection h2 with h5 h6 h7
    omega
set_option maxRecDepth 1000000 in
set_option maxHeartbeats 4000000 in
theorem readers_any (t : TarD) (l : List SubD) (hl6 : l.length ≤ 600) (hh : ∀ s ∈ l, manyH s = false) (c : List CmpD) (hc6 : c.length ≤ 600) (d a b : Int) (v vc : Value) (w : World) (h : RSubs w.heap.size w v l) (hc : RCmps w.heap.size w vc c) :
    Calls Try.prog 20 #[v, .agg #[.int .i64 t.price, .int .i64 t.back, .int .i64 t.late, .int .i64 t.carry, .int .i64 t.credit], vc, .int .i64 d, .int .i64 a, .int .i64 b] w fun e w' => e = .returned (.bool true) ∧ Below w.heap.size w w' := by
  have HR := Lib.hid h
  have HRC := Lib.hid hc
  have HH := Lib.hid hh
  obtain ⟨A, cc, rfl, hlm, HD⟩ := subs_later h
  obtain ⟨A2, c2, rfl, hcm, HC⟩ := cmps_later hc
  obtain ⟨n, hn⟩ : ∃ n, l.length = n := ⟨_, rfl⟩
  obtain ⟨m, hm⟩ : ∃ n, c.length = n := ⟨_, rfl⟩
  have HN := Lib.hid hn
  have HM := Lib.hid hm
  rw [hn] at HR hlm hl6 ⊢
  rw [hm] at HRC hcm hc6 ⊢
  obtain ⟨i0, hi0, hz0, hz1, hz2⟩ := info_parts infoSubO
  obtain ⟨j0, hj0, hy0, hy1, hy2⟩ := info_parts infoRSub
  have F0 : ∃ W0, w.alloc (.cells #[.int .i64 t.price, .int .i64 t.back, .int .i64 t.late, .int .i64 t.carry, .int .i64 t.credit] 37) = W0 ∧ Hid (RowsSt w l 0 w.heap.size #[.int .i64 t.price, .int .i64 t.back, .int .i64 t.late, .int .i64 t.carry, .int .i64 t.credit] (.slice none 0 0) (.slice none 0 0) [] [] W0) :=
    ⟨_, rfl, below_alloc _ _, Blk.new _ _ _, World.ownsRow_nil _ _ _ _, World.ownsRow_nil _ _ _ _, rfl, rfl, fun i u s hu => by simp at hu, fun i u s hu => by simp at hu⟩
  obtain ⟨W0, e0, HS0⟩ := F0
  have E0 := Lib.hid e0
  have CS : Hid (∀ s ∈ l, ∀ (v : Value) (W : World), RSub W.heap.size W v s → Calls Try.prog 60 #[v] W (SuRet s W)) := fun s hs v W hv => subscriber_any s (by have := HH.out s hs; unfold manyH at this; simp at this; omega) v W hv
  clear h hc hh hn hm e0
  go_enter Try.func20, Try.ntmps20
  go_upto_region 1 with fail
  rw [E0.out]
  clear E0
  obtain ⟨p0, hp0⟩ : ∃ p, w.heap.size = p := ⟨_, rfl⟩
  have HP := Lib.hid hp0
  rw [hp0] at HS0
  try rw [hp0]
  clear hp0
  go_wp2_with fail
  go_loopw [13, 14, 38] (fun qo qr i wr => ∃ (k : Nat) (us ur : List Value), k ≤ n ∧ i = .int .i64 k ∧ Hid (RowsSt w l k p0 #[.int .i64 t.price, .int .i64 t.back, .int .i64 t.late, .int .i64 t.carry, .int .i64 t.credit] qo qr us ur wr)) (fun _ _ i _ => n - (intOf i).toNat)
  case atStart => exact ⟨0, [], [], Nat.zero_le _, rfl, HS0⟩
  case round =>
    clear HS0
    obtain ⟨k, us, ur, hk, rfl, HS⟩ := hrel
    obtain ⟨X, rfl⟩ : ∃ X : World, X = wr := ⟨_, rfl⟩
    obtain ⟨Ao, co, rfl⟩ := ownsRow_form HS.out.own1
    obtain ⟨Ar, cr, rfl⟩ := ownsRow_form HS.out.own2
    by_cases hlt : k < n
    · obtain ⟨x, hx⟩ : ∃ x, l[k]? = some x := ⟨_, List.getElem?_eq_getElem (by rw [HN.out]; exact hlt)⟩
      obtain ⟨g, o, u, rfl, HXX⟩ := HD.out k x hx
      obtain ⟨⟨x0, x1, x2, x3, x4⟩, hRS⟩ := HXX.out X HS.out.low
      obtain ⟨Au, nu, cu, rfl⟩ := sub_slice (w := w) hRS
      have HRS := Lib.hid hRS
      have HX := Lib.hid hx
      have CX := Lib.hid (CS.out x (List.mem_of_getElem? hx))
      have F1 : ∃ X1, X.alloc (.cells #[.int .i64 x.id, .int .i64 x.from_, .int .i64 x.to_, .int .i64 x.days, .slice Au nu cu] 42) = X1 ∧ Hid (Below X.heap.size X X1) ∧ Hid (Blk X1 X.heap.size 42 #[.int .i64 x.id, .int .i64 x.from_, .int .i64 x.to_, .int .i64 x.days, .slice Au nu cu]) := ⟨_, rfl, below_alloc _ _, Blk.new _ _ _⟩
      obtain ⟨X1, e1, HB1, HK1⟩ := F1
      have E1 := Lib.hid e1
      clear hRS hx e1
      go_upto_region 6 with fail
      rw [E1.out]
      clear E1 x0 x1 x2 x3 x4
      have z0 := cellOf HK1.out 0 (x := .int .i64 x.id) rfl
      have z1 := cellOf HK1.out 1 (x := .int .i64 x.from_) rfl
      have z2 := cellOf HK1.out 2 (x := .int .i64 x.to_) rfl
      have z3 := cellOf HK1.out 3 (x := .int .i64 x.days) rfl
      have z4 := cellOf HK1.out 4 (x := .slice Au nu cu) rfl
      have C1 := Lib.hid (CX.out _ X1 ((HRS.out.below HB1.out).more HB1.out.size))
      go_wp2_with fail
      refine C1.out.mono ?_
      rintro _ X2 ⟨A1, A3, c1, c3, rfl, O1, O2, hb2⟩
      obtain ⟨nh, hnh⟩ : ∃ nh, x.hol.length = nh := ⟨_, rfl⟩
      have HNH := Lib.hid hnh
      have HO1 := Lib.hid O1
      have HO2 := Lib.hid O2
      have HB2 := Lib.hid hb2
      rw [hnh] at HO1 HO2 ⊢
      clear O1 O2 hb2 hnh C1 z0 z1 z2 z3 z4
      go_upto_region 7 with fail
      obtain ⟨q, hq⟩ : ∃ q, X2.heap.size = q := ⟨_, rfl⟩
      rw [hq]
      have F2 : ∃ X3, ((X2.alloc (.cells #[.int .i64 x.id, .int .i64 x.from_, .int .i64 x.to_, .int .i64 x.days, .slice A1 nh c1] 42)).alloc (.cells #[.int .i64 x.id, .int .i64 x.from_, .int .i64 x.to_, .int .i64 x.days, .slice A3 nh c3] 126)) = X3 ∧ Hid (GSt w p0 q (q + 1) #[.int .i64 t.price, .int .i64 t.back, .int .i64 t.late, .int .i64 t.carry, .int .i64 t.credit] #[.int .i64 x.id, .int .i64 x.from_, .int .i64 x.to_, .int .i64 x.days, .slice A1 nh c1] #[.int .i64 x.id, .int .i64 x.from_, .int .i64 x.to_, .int .i64 x.days, .slice A3 nh c3] (.slice Ao k co) (.slice Ar k cr) k k (((l.take k).zip us).flatMap subCells) (((l.take k).zip ur).flatMap subCells) ((.slice A1 nh c1, x.hol) :: (.slice A3 nh c3, x.hol) :: (pairsG l us ++ pairsG l ur)) X3) ∧ Hid (X3.heap.size = q + 2) := by
        have hb3 : Below X1.heap.size X1 ((X2.alloc (.cells #[.int .i64 x.id, .int .i64 x.from_, .int .i64 x.to_, .int .i64 x.days, .slice A1 nh c1] 42)).alloc (.cells #[.int .i64 x.id, .int .i64 x.from_, .int .i64 x.to_, .int .i64 x.days, .slice A3 nh c3] 126)) := HB2.out.trans (((sbelow_al (below_alloc _ _) _)).mono HB2.out.size)
        have hb4 : Below X.heap.size X ((X2.alloc (.cells #[.int .i64 x.id, .int .i64 x.from_, .int .i64 x.to_, .int .i64 x.days, .slice A1 nh c1] 42)).alloc (.cells #[.int .i64 x.id, .int .i64 x.from_, .int .i64 x.to_, .int .i64 x.days, .slice A3 nh c3] 126)) := HB1.out.trans (hb3.mono HB1.out.size)
        have hb5 : Below X2.heap.size X2 ((X2.alloc (.cells #[.int .i64 x.id, .int .i64 x.from_, .int .i64 x.to_, .int .i64 x.days, .slice A1 nh c1] 42)).alloc (.cells #[.int .i64 x.id, .int .i64 x.from_, .int .i64 x.to_, .int .i64 x.days, .slice A3 nh c3] 126)) := sbelow_al (below_alloc _ _) _
        have hw1 : w.heap.size ≤ X1.heap.size := Nat.le_trans HS.out.low.size HB1.out.size
        have hxq : X.heap.size ≤ q := by have h1 := HB1.out.size; have h2 := HB2.out.size; omega
        refine ⟨_, rfl, HS.out.start hb4 (by rw [← hq]; exact (Blk.new _ _ _).alloc _) (by rw [← hq]; exact blk_new (by simp) _ _) hxq (by omega) ((HO1.out.below hb5).base hw1) ((HO2.out.below hb5).base hw1), by show _ = _; simp [hq]⟩
      obtain ⟨X3, e3, HG3, HZ3⟩ := F2
      have E3 := Lib.hid e3
      rw [E3.out]
      have HG := GSt.all HG3.out
      have HSF : Hid (∀ (Y : World) (vo vr : Value) (n1 n2 : Nat) (xs1 xs2 : List Value), Hid (∀ Z, Below Y.heap.size Y Z → GSt w p0 q (q + 1) #[.int .i64 t.price, .int .i64 t.back, .int .i64 t.late, .int .i64 t.carry, .int .i64 t.credit] #[.int .i64 x.id, .int .i64 x.from_, .int .i64 x.to_, .int .i64 x.days, .slice A1 nh c1] #[.int .i64 x.id, .int .i64 x.from_, .int .i64 x.to_, .int .i64 x.days, .slice A3 nh c3] vo vr n1 n2 xs1 xs2 ((.slice A1 nh c1, x.hol) :: (.slice A3 nh c3, x.hol) :: (pairsG l us ++ pairsG l ur)) Z) → Hid (∀ Z, Below Y.heap.size Y Z → ((Z.cell? ⟨q, 0, none⟩ = some (.int .i64 x.id) ∧ Z.cell? ⟨q, 1, none⟩ = some (.int .i64 x.from_) ∧ Z.cell? ⟨q, 2, none⟩ = some (.int .i64 x.to_) ∧ Z.cell? ⟨q, 3, none⟩ = some (.int .i64 x.days) ∧ Z.cell? ⟨q, 4, none⟩ = some (.slice A1 nh c1)) ∧ (Z.cell? ⟨q + 1, 0, none⟩ = some (.int .i64 x.id) ∧ Z.cell? ⟨q + 1, 1, none⟩ = some (.int .i64 x.from_) ∧ Z.cell? ⟨q + 1, 2, none⟩ = some (.int .i64 x.to_) ∧ Z.cell? ⟨q + 1, 3, none⟩ = some (.int .i64 x.days) ∧ Z.cell? ⟨q + 1, 4, none⟩ = some (.slice A3 nh c3))))) := fun Y vo vr n1 n2 xs1 xs2 h Z hZ => by
        have h1 := (h.out Z hZ).b1
        have h2 := (h.out Z hZ).b2
        exact ⟨⟨cellOf h1 0 rfl, cellOf h1 1 rfl, cellOf h1 2 rfl, cellOf h1 3 rfl, cellOf h1 4 rfl⟩, ⟨cellOf h2 0 rfl, cellOf h2 1 rfl, cellOf h2 2 rfl, cellOf h2 3 rfl, cellOf h2 4 rfl⟩⟩
      have HS0 := HSF.out _ _ _ _ _ _ _ HG
      have HD3 : Hid (Below X3.heap.size X3 X3.drew) := (Below.refl _ _).drew
      have HR3 : Hid (Below X3.heap.size X3 X3) := Below.refl _ _
      have HQ3 : Hid (X3.heap.size ≤ X3.heap.size + 1) := Nat.le_succ _
      have HB9 : Hid (∀ (cs cs' : Array Value) (ta tb : TypeId), Blk ((X3.alloc (.cells cs ta)).alloc (.cells cs' tb)) (X3.heap.size + 1) tb cs') := fun cs cs' ta tb => blk_new (by simp) _ _
      have HQ4 : Hid (X3.heap.size ≤ X3.heap.size) := Nat.le_refl _
      clear e3 hq E3 HB1 HK1 HO1 HO2 HB2
      go_region_held3 (fun X => ((X.cell? ⟨q, 0, none⟩ = some (.int .i64 x.id) ∧ X.cell? ⟨q, 1, none⟩ = some (.int .i64 x.from_) ∧ X.cell? ⟨q, 2, none⟩ = some (.int .i64 x.to_) ∧ X.cell? ⟨q, 3, none⟩ = some (.int .i64 x.days) ∧ X.cell? ⟨q, 4, none⟩ = some (.slice A1 nh c1)) ∧ (X.cell? ⟨q + 1, 0, none⟩ = some (.int .i64 x.id) ∧ X.cell? ⟨q + 1, 1, none⟩ = some (.int .i64 x.from_) ∧ X.cell? ⟨q + 1, 2, none⟩ = some (.int .i64 x.to_) ∧ X.cell? ⟨q + 1, 3, none⟩ = some (.int .i64 x.days) ∧ X.cell? ⟨q + 1, 4, none⟩ = some (.slice A3 nh c3))))
        (first | with_reducible exact HS2.out _ (Below.refl _ _) | with_reducible exact HS1.out _ (Below.refl _ _) | with_reducible exact HS1.out _ (sbelow_al (Below.refl _ _) _) | with_reducible exact HS0.out _ HD3.out | with_reducible exact HS0.out _ (Below.drew (sbelow_al HR3.out _)) | with_reducible exact HS0.out _ (Below.drew (sbelow_al (sbelow_al HR3.out _) _)) | go_keep)
        (first | (refine step_append_lies _ (by rfl) _ _ 35 (by rfl) w.heap.size 42 i0 (.agg #[.int .i64 0, .int .i64 0, .int .i64 0, .int .i64 0, .slice none 0 0]) 5 56 sliceSubO hi0 hz0 hz1 hz2 (by rfl) (by decide) (.slice Ao k co) k (((l.take k).zip us).flatMap subCells) (by rfl) (HG.out _ (Below.drew (sbelow_al HR3.out _))).own1 _ 1 1 [.int .i64 x.id, .int .i64 x.from_, .int .i64 x.to_, .int .i64 x.days, .slice A1 nh c1] (by rfl) (by rfl) (World.news_of_block (cs := #[.int .i64 x.id, .int .i64 x.from_, .int .i64 x.to_, .int .i64 x.days, .slice A1 nh c1]) (t := 42) (fr := (0, 0)) (Blk.new _ _ _)) (by simp [Value.oneCell']) (by omega) (by simp only [maxLen]; omega) (by omega) (HG.out _ (Below.drew (sbelow_al HR3.out _))).low.size _ rfl ?_; intro g9 c9 W9 hown9 hgrow9 hat9 hlt9; have HM1 := GSt.all ((HG.out _ (Below.drew (sbelow_al HR3.out _))).app1 hown9 hgrow9 hat9); have HT9 := GSt.tmp HG3.out hgrow9; have HS1 := HSF.out _ _ _ _ _ _ _ HM1; clear hown9 hgrow9 hat9 hlt9) | (refine step_append_lies _ (by rfl) _ _ 35 (by rfl) w.heap.size 42 i0 (.agg #[.int .i64 0, .int .i64 0, .int .i64 0, .int .i64 0, .slice none 0 0]) 5 56 sliceSubO hi0 hz0 hz1 hz2 (by rfl) (by decide) (.slice Ao k co) k (((l.take k).zip us).flatMap subCells) (by rfl) (HG.out _ (Below.drew (sbelow_al (sbelow_al HR3.out _) _))).own1 _ 1 1 [.int .i64 x.id, .int .i64 x.from_, .int .i64 x.to_, .int .i64 x.days, .slice A1 nh c1] (by rfl) (by rfl) (World.news_of_block (cs := #[.int .i64 x.id, .int .i64 x.from_, .int .i64 x.to_, .int .i64 x.days, .slice A1 nh c1]) (t := 42) (fr := (0, 0)) (HB9.out _ _ _ _)) (by simp [Value.oneCell']) (by omega) (by simp only [maxLen]; omega) (by omega) (HG.out _ (Below.drew (sbelow_al (sbelow_al HR3.out _) _))).low.size _ rfl ?_; intro g9 c9 W9 hown9 hgrow9 hat9 hlt9; have HM1 := GSt.all ((HG.out _ (Below.drew (sbelow_al (sbelow_al HR3.out _) _))).app1 hown9 hgrow9 hat9); have HT9 := GSt.tmp HG3.out hgrow9; have HS1 := HSF.out _ _ _ _ _ _ _ HM1; clear hown9 hgrow9 hat9 hlt9) | (refine step_append_lies _ (by rfl) _ _ 35 (by rfl) w.heap.size 42 i0 (.agg #[.int .i64 0, .int .i64 0, .int .i64 0, .int .i64 0, .slice none 0 0]) 5 56 sliceSubO hi0 hz0 hz1 hz2 (by rfl) (by decide) (.slice Ao k co) k (((l.take k).zip us).flatMap subCells) (by rfl) (HG.out _ (Below.drew (sbelow_al (sbelow_al HR3.out _) _))).own1 _ 1 1 [.int .i64 x.id, .int .i64 x.from_, .int .i64 x.to_, .int .i64 x.days, .slice A1 nh c1] (by rfl) (by rfl) (World.news_of_block (cs := #[.int .i64 x.id, .int .i64 x.from_, .int .i64 x.to_, .int .i64 x.days, .slice A1 nh c1]) (t := 42) (fr := (0, 0)) ((Blk.new _ _ _).alloc _)) (by simp [Value.oneCell']) (by omega) (by simp only [maxLen]; omega) (by omega) (HG.out _ (Below.drew (sbelow_al (sbelow_al HR3.out _) _))).low.size _ rfl ?_; intro g9 c9 W9 hown9 hgrow9 hat9 hlt9; have HM1 := GSt.all ((HG.out _ (Below.drew (sbelow_al (sbelow_al HR3.out _) _))).app1 hown9 hgrow9 hat9); have HT9 := GSt.tmp HG3.out hgrow9; have HS1 := HSF.out _ _ _ _ _ _ _ HM1; clear hown9 hgrow9 hat9 hlt9) | (refine step_append_lies _ (by rfl) _ _ 125 (by rfl) w.heap.size 126 j0 (.agg #[.int .i64 0, .int .i64 0, .int .i64 0, .int .i64 0, .slice none 0 0]) 5 56 sliceRSub hj0 hy0 hy1 hy2 (by rfl) (by decide) (.slice Ar k cr) k (((l.take k).zip ur).flatMap subCells) (by rfl) (HM1.out _ (sbelow_al (Below.refl _ _) _)).own2 _ 1 1 [.int .i64 x.id, .int .i64 x.from_, .int .i64 x.to_, .int .i64 x.days, .slice A3 nh c3] (by rfl) (by rfl) (World.news_of_block (cs := #[.int .i64 x.id, .int .i64 x.from_, .int .i64 x.to_, .int .i64 x.days, .slice A3 nh c3]) (t := 126) (fr := (0, 0)) (Blk.new _ _ _)) (by simp [Value.oneCell']) (by omega) (by simp only [maxLen]; omega) (by omega) (HM1.out _ (sbelow_al (Below.refl _ _) _)).low.size _ rfl ?_; intro gA cA WA hownA hgrowA hatA hltA; have HM2 := Lib.hid ((HM1.out _ (sbelow_al (Below.refl _ _) _)).app2 hownA hgrowA hatA); have HS2 := HSF.out _ _ _ _ _ _ _ (GSt.all HM2.out); clear hownA hgrowA hatA hltA) | (refine step_append_lies _ (by rfl) _ _ 125 (by rfl) w.heap.size 126 j0 (.agg #[.int .i64 0, .int .i64 0, .int .i64 0, .int .i64 0, .slice none 0 0]) 5 56 sliceRSub hj0 hy0 hy1 hy2 (by rfl) (by decide) (.slice Ar k cr) k (((l.take k).zip ur).flatMap subCells) (by rfl) (HM1.out _ (Below.refl _ _)).own2 _ 1 1 [.int .i64 x.id, .int .i64 x.from_, .int .i64 x.to_, .int .i64 x.days, .slice A3 nh c3] (by rfl) (by rfl) (World.news_of_block (cs := #[.int .i64 x.id, .int .i64 x.from_, .int .i64 x.to_, .int .i64 x.days, .slice A3 nh c3]) (t := 126) (fr := (0, 0)) (HT9.out _ _ _ ((Blk.new _ _ _).alloc _) HQ4.out)) (by simp [Value.oneCell']) (by omega) (by simp only [maxLen]; omega) (by omega) (HM1.out _ (Below.refl _ _)).low.size _ rfl ?_; intro gA cA WA hownA hgrowA hatA hltA; have HM2 := Lib.hid ((HM1.out _ (Below.refl _ _)).app2 hownA hgrowA hatA); have HS2 := HSF.out _ _ _ _ _ _ _ (GSt.all HM2.out); clear hownA hgrowA hatA hltA) | (refine step_append_lies _ (by rfl) _ _ 125 (by rfl) w.heap.size 126 j0 (.agg #[.int .i64 0, .int .i64 0, .int .i64 0, .int .i64 0, .slice none 0 0]) 5 56 sliceRSub hj0 hy0 hy1 hy2 (by rfl) (by decide) (.slice Ar k cr) k (((l.take k).zip ur).flatMap subCells) (by rfl) (HM1.out _ (Below.refl _ _)).own2 _ 1 1 [.int .i64 x.id, .int .i64 x.from_, .int .i64 x.to_, .int .i64 x.days, .slice A3 nh c3] (by rfl) (by rfl) (World.news_of_block (cs := #[.int .i64 x.id, .int .i64 x.from_, .int .i64 x.to_, .int .i64 x.days, .slice A3 nh c3]) (t := 126) (fr := (0, 0)) (HT9.out _ _ _ (HB9.out _ _ _ _) HQ3.out)) (by simp [Value.oneCell']) (by omega) (by simp only [maxLen]; omega) (by omega) (HM1.out _ (Below.refl _ _)).low.size _ rfl ?_; intro gA cA WA hownA hgrowA hatA hltA; have HM2 := Lib.hid ((HM1.out _ (Below.refl _ _)).app2 hownA hgrowA hatA); have HS2 := HSF.out _ _ _ _ _ _ _ (GSt.all HM2.out); clear hownA hgrowA hatA hltA))
      all_goals
        have HF := Lib.hid (HM2.out.done HX.out HS.out.lu HS.out.lr)
        go_wp2_with fail
        go_roundw
        case rel => exact ⟨k + 1, us ++ [.slice A1 nh c1], ur ++ [.slice A3 nh c3], by omega, by go_num, HF⟩
        case measure => simp [intOf]; omega
    · obtain rfl : k = n := by omega
      obtain ⟨HO, HRF⟩ : Hid (RSubs X.heap.size X (.slice Ao k co) l) ∧ Hid (RSubs X.heap.size X (.slice Ar k cr) l) := by
        have h1 := HS.out
        rw [← HN.out] at h1 ⊢
        exact h1.reads
      have hcap := own_cap HS.out.own1
      obtain ⟨e, he, hek, he20⟩ : ∃ e : Nat, min (k : Int) 20 = (e : Int) ∧ e ≤ k ∧ e ≤ co := ⟨min k 20, by omega, by omega, by omega⟩
      clear CS hlt hk hcap
      go_upto_region 10 with fail
      clear HD
      go_loopw [62] (fun i wr => ∃ j : Nat, j ≤ e ∧ i = .int .i64 j ∧ Hid (RowsSt w l k p0 #[.int .i64 t.price, .int .i64 t.back, .int .i64 t.late, .int .i64 t.carry, .int .i64 t.credit] (.slice Ao k co) (.slice Ar k cr) us ur wr)) (fun i _ => e - (intOf i).toNat)
      case atStart => exact ⟨0, Nat.zero_le _, rfl, HS⟩
      case round =>
        clear HS HO HRF
        obtain ⟨j, hj, rfl, HS⟩ := hrel
        obtain ⟨Y, rfl⟩ : ∃ Y : World, Y = wr := ⟨_, rfl⟩
        by_cases hje : j < e
        · obtain ⟨x, hx⟩ : ∃ x, l[j]? = some x := ⟨_, List.getElem?_eq_getElem (by rw [HN.out]; omega)⟩
          have hrd : RSubs Y.heap.size Y (.slice Ao k co) l ∧ RSubs Y.heap.size Y (.slice Ar k cr) l := by
            have h1 := HS.out
            rw [← HN.out] at h1 ⊢
            exact h1.reads
          obtain ⟨A5, c5, hs5, -, HD5⟩ := subs_later hrd.1
          obtain ⟨A6, c6, hs6, -, HD6⟩ := subs_later hrd.2
          injection hs5 with e51 e52 e53
          injection hs6 with e61 e62 e63
          subst e51 e53 e61 e63
          clear e52 e62 hrd
          obtain ⟨g5, o5, u5, rfl, HX5⟩ := HD5.out j x hx
          obtain ⟨g6, o6, u6, rfl, HX6⟩ := HD6.out j x hx
          obtain ⟨⟨x0, x1, x2, x3, x4⟩, hRS⟩ := HX5.out Y (Below.refl _ _)
          have hRT := (HX6.out Y (Below.refl _ _)).2
          obtain ⟨Au, nu, cu, rfl⟩ := sub_slice (w := w) hRS
          obtain ⟨Ar2, nr2, cr2, rfl⟩ := sub_slice (w := w) hRT
          have HRS := Lib.hid hRS
          have HRT := Lib.hid hRT
          clear hRS hRT hx HD5 HD6
          obtain ⟨gv, hgv⟩ : ∃ z, decide (0 < copV x d d) = z := ⟨_, rfl⟩
          obtain ⟨ge, hge⟩ : ∃ z, copE x d d = z := ⟨_, rfl⟩
          obtain ⟨cv, hcv⟩ : ∃ z, copV x a b = z := ⟨_, rfl⟩
          obtain ⟨ce, hce⟩ : ∃ z, copE x a b = z := ⟨_, rfl⟩
          have CG : Hid (∀ Z, Below Y.heap.size Y Z → Calls Try.prog 36 #[.agg #[.int .i64 x.id, .int .i64 x.from_, .int .i64 x.to_, .int .i64 x.days, .slice Au nu cu], .int .i64 d] Z fun e w' => e = .returned (.tuple #[.bool gv, .int .i64 ge]) ∧ Below Y.heap.size Y w') := fun Z hZ => by
            have h1 := Gets_any x d _ Z ((HRS.out.below hZ).more hZ.size)
            refine h1.mono ?_
            rintro _ w' ⟨rfl, hb⟩
            exact ⟨by rw [← hgv, ← hge], hZ.trans (hb.mono hZ.size)⟩
          have CGr : Hid (∀ Z, Below Y.heap.size Y Z → Calls Try.prog 61 #[.agg #[.int .i64 x.id, .int .i64 x.from_, .int .i64 x.to_, .int .i64 x.days, .slice Ar2 nr2 cr2], .int .i64 d] Z fun e w' => e = .returned (.tuple #[.bool gv, .int .i64 ge]) ∧ Below Y.heap.size Y w') := fun Z hZ => by
            have h1 := refGets_any x d _ Z ((HRT.out.below hZ).more hZ.size)
            refine h1.mono ?_
            rintro _ w' ⟨rfl, hb⟩
            exact ⟨by rw [← hgv, ← hge], hZ.trans (hb.mono hZ.size)⟩
          have CC : Hid (∀ Z, Below Y.heap.size Y Z → Calls Try.prog 34 #[.agg #[.int .i64 x.id, .int .i64 x.from_, .int .i64 x.to_, .int .i64 x.days, .slice Au nu cu], .int .i64 a, .int .i64 b] Z fun e w' => e = .returned (.tuple #[.int .i64 cv, .int .i64 ce]) ∧ Below Y.heap.size Y w') := fun Z hZ => by
            have h1 := Copies_any x a b _ Z ((HRS.out.below hZ).more hZ.size)
            refine h1.mono ?_
            rintro _ w' ⟨rfl, hb⟩
            exact ⟨by rw [← hcv, ← hce], hZ.trans (hb.mono hZ.size)⟩
          have CCr : Hid (∀ Z, Below Y.heap.size Y Z → Calls Try.prog 62 #[.agg #[.int .i64 x.id, .int .i64 x.from_, .int .i64 x.to_, .int .i64 x.days, .slice Ar2 nr2 cr2], .int .i64 a, .int .i64 b] Z fun e w' => e = .returned (.tuple #[.int .i64 cv, .int .i64 ce]) ∧ Below Y.heap.size Y w') := fun Z hZ => by
            have h1 := refCopies_any x a b _ Z ((HRT.out.below hZ).more hZ.size)
            refine h1.mono ?_
            rintro _ w' ⟨rfl, hb⟩
            exact ⟨by rw [← hcv, ← hce], hZ.trans (hb.mono hZ.size)⟩
          have q1 : (gv != gv) = false := by simp
          have q2 : (ge != ge) = false := by simp
          have q3 : (cv != cv) = false := by simp
          have q4 : (ce != ce) = false := by simp
          clear hgv hge hcv hce
          go_wp2_with fail
          refine (CG.out Y (Below.refl _ _)).mono ?_
          rintro _ Y1 ⟨rfl, hb1⟩
          have HB1 := Lib.hid hb1
          clear hb1 x0 x1 x2 x3 x4
          obtain ⟨⟨x0, x1, x2, x3, x4⟩, -⟩ := HX6.out Y1 HB1.out
          go_wp2_with fail
          refine (CGr.out Y1 HB1.out).mono ?_
          rintro _ Y2 ⟨rfl, hb2⟩
          have HB2 := Lib.hid hb2
          clear hb2 x0 x1 x2 x3 x4 HB1
          obtain ⟨⟨x0, x1, x2, x3, x4⟩, -⟩ := HX5.out Y2 HB2.out
          go_wp2_with fail
          refine (CC.out Y2 HB2.out).mono ?_
          rintro _ Y3 ⟨rfl, hb3⟩
          have HB3 := Lib.hid hb3
          clear hb3 x0 x1 x2 x3 x4 HB2
          obtain ⟨⟨x0, x1, x2, x3, x4⟩, -⟩ := HX6.out Y3 HB3.out
          go_wp2_with fail
          refine (CCr.out Y3 HB3.out).mono ?_
          rintro _ Y4 ⟨rfl, hb4⟩
          have HF := Lib.hid (HS.out.below hb4)
          clear hb4 x0 x1 x2 x3 x4 HB3
          go_wp2_with fail
          go_roundw
          case rel => exact ⟨j + 1, by omega, by go_num, HF⟩
          case measure => simp [intOf]; omega
        · have hrd : RSubs Y.heap.size Y (.slice Ao k co) l ∧ RSubs Y.heap.size Y (.slice Ar k cr) l := by
            have h1 := HS.out
            rw [← HN.out] at h1 ⊢
            exact h1.reads
          have HRD := Lib.hid hrd
          obtain ⟨rE, hrE⟩ : ∃ z, rdE l d = z := ⟨_, rfl⟩
          obtain ⟨RL, hRL⟩ : ∃ z, (if rdE l d = 0 then rdK l d l.length else []) = z := ⟨_, rfl⟩
          have CR : Hid (∀ Z, Below Y.heap.size Y Z → Calls Try.prog 33 #[.slice Ao k co, .int .i64 d] Z fun e w' => ∃ A c, e = .returned (.tuple #[.slice A RL.length c, .int .i64 rE]) ∧ Hid (OInts Z.heap.size w' (.slice A RL.length c) RL) ∧ Hid (Below Z.heap.size Z w')) := fun Z hZ => by
            refine (Round_any l d _ Z ((HRD.out.1.below hZ).more hZ.size)).mono ?_
            rintro _ w' ⟨v, rfl, hO, hb⟩
            rw [hRL] at hO
            obtain ⟨A, c, rfl⟩ := ownsRow_form hO
            exact ⟨A, c, by rw [hrE], hO, hb⟩
          have CRr : Hid (∀ Z, Below Y.heap.size Y Z → Calls Try.prog 63 #[.slice Ar k cr, .int .i64 d] Z fun e w' => ∃ A c, e = .returned (.tuple #[.slice A RL.length c, .int .i64 rE]) ∧ Hid (OInts Z.heap.size w' (.slice A RL.length c) RL) ∧ Hid (Below Z.heap.size Z w')) := fun Z hZ => by
            refine (refRound_any l d _ Z ((HRD.out.2.below hZ).more hZ.size)).mono ?_
            rintro _ w' ⟨v, rfl, hO, hb⟩
            rw [hRL] at hO
            obtain ⟨A, c, rfl⟩ := ownsRow_form hO
            exact ⟨A, c, by rw [hrE], hO, hb⟩
          have q1 : (rE != rE) = false := by simp
          clear hrd hrE hRL
          obtain ⟨rl, hrl⟩ : ∃ z, RL.length = z := ⟨_, rfl⟩
          rw [hrl] at CR CRr
          have HRLL := Lib.hid hrl
          clear hrl
          go_wp2_with fail
          refine (CR.out Y (Below.refl _ _)).mono ?_
          rintro _ Y1 ⟨B1, d1, rfl, HI1, HB1⟩
          go_wp2_with fail
          refine (CRr.out Y1 HB1.out).mono ?_
          rintro _ Y2 ⟨B2, d2, rfl, HI2, HB2⟩
          have CE : Hid (Calls Try.prog 48 #[.slice B1 rl d1, .slice B2 rl d2] Y2 fun e w' => e = .returned (.bool true) ∧ Below Y2.heap.size Y2 w') := by
            have h5 : Y2.ownsRow Y.heap.size 3 1 (.slice B1 rl d1) RL.length (RL.map (Value.int .i64)) := ownsRow_below HI1.out HB2.out
            have h1 := eqInts_any (.slice B1 rl d1) (.slice B2 rl d2) RL RL Y2 (Rd.own h5 (own_le h5)) (Rd.own HI2.out (own_le HI2.out))
            simp at h1
            exact h1
          go_wp2_with fail
          refine CE.out.mono ?_
          rintro _ Y3 ⟨rfl, hb3⟩
          have HY3 : Hid (Below Y.heap.size Y Y3) := HB1.out.trans ((HB2.out.trans (hb3.mono HB2.out.size)).mono HB1.out.size)
          have HS3 := Lib.hid (HS.out.below HY3.out)
          clear hb3 HI1 HI2 HB1 HB2 CE CR CRr
          have CCL : Hid (Calls Try.prog 64 #[.slice A2 m c2] Y3 fun e w' => ∃ A c', e = .returned (.slice A m c') ∧ Hid (w'.ownsRow Y3.heap.size 91 2 (.slice A m c') m (c.flatMap CmpD.cells)) ∧ Below Y3.heap.size Y3 w') := by
            refine (cloneCmp_any c (by rw [HM.out]; omega) (.slice A2 m c2) Y3 ((Rd.below HRC.out HS3.out.low).more HS3.out.low.size)).mono ?_
            rintro _ w' ⟨u, rfl, hO, hb⟩
            rw [HM.out] at hO
            obtain ⟨A, c', rfl⟩ := ownsRow_form hO
            exact ⟨A, c', rfl, hO, hb⟩
          go_wp2_with fail
          refine CCL.out.mono ?_
          rintro _ Y4 ⟨A7, c7, rfl, HO4, hb4⟩
          have HS4 := Lib.hid (HS3.out.below hb4)
          have HOB : Hid (Y4.ownsRow w.heap.size 91 2 (.slice A7 m c7) m (c.flatMap CmpD.cells)) := ownsRow_base HO4.out HS3.out.low.size
          have HCP0 : Hid (CpSt w l k p0 #[.int .i64 t.price, .int .i64 t.back, .int .i64 t.late, .int .i64 t.carry, .int .i64 t.credit] (.slice Ao k co) (.slice Ar k cr) us ur (.slice A7 m c7) (.slice none 0 0) m 0 c Y4) := ⟨HS4.out, HOB.out, World.ownsRow_nil _ _ _ _⟩
          clear CCL HO4 hb4 HS3 HS4 HOB HS HRD HY3
          obtain ⟨i1, hi1, hw0, hw1, hw2⟩ := info_parts infoRCmp
          go_wp2_with fail
          go_loopw [31, 145] (fun q i wr => ∃ j : Nat, j ≤ m ∧ i = .int .i64 j ∧ Hid (CpSt w l k p0 #[.int .i64 t.price, .int .i64 t.back, .int .i64 t.late, .int .i64 t.carry, .int .i64 t.credit] (.slice Ao k co) (.slice Ar k cr) us ur (.slice A7 m c7) q m j c wr)) (fun _ i _ => m - (intOf i).toNat)
          case atStart => exact ⟨0, Nat.zero_le _, rfl, HCP0⟩
          case round =>
            clear HCP0
            obtain ⟨j, hj, rfl, HS⟩ := hrel
            obtain ⟨Z, rfl⟩ : ∃ Z : World, Z = wr := ⟨_, rfl⟩
            obtain ⟨Aq, cq, rfl⟩ := ownsRow_form HS.out.cop
            by_cases hjm : j < m
            · obtain ⟨x, hx⟩ : ∃ x, c[j]? = some x := ⟨_, List.getElem?_eq_getElem (by rw [HM.out]; exact hjm)⟩
              obtain ⟨g, o, rfl, HXX⟩ := HC.out j x hx
              obtain ⟨x0, x1⟩ := HXX.out Z HS.out.rows.low
              have HX := Lib.hid hx
              obtain ⟨xs, hxs⟩ : ∃ z, x.sub = z := ⟨_, rfl⟩
              obtain ⟨xd, hxd⟩ : ∃ z, x.day = z := ⟨_, rfl⟩
              rw [hxs] at x0
              rw [hxd] at x1
              have HXS := Lib.hid hxs
              have HXD := Lib.hid hxd
              have F1 : ∃ Z1, Z.alloc (.cells #[.int .i64 xs, .int .i64 xd] 91) = Z1 ∧ Hid (Below Z.heap.size Z Z1) ∧ Hid (Blk Z1 Z.heap.size 91 #[.int .i64 xs, .int .i64 xd]) := ⟨_, rfl, below_alloc _ _, Blk.new _ _ _⟩
              obtain ⟨Z1, e1, HB1, HK1⟩ := F1
              have E1 := Lib.hid e1
              clear hx e1 hxs hxd
              go_upto_region 30 with fail
              rw [E1.out]
              clear E1 x0 x1
              have z0 := cellOf HK1.out 0 (x := .int .i64 xs) rfl
              have z1 := cellOf HK1.out 1 (x := .int .i64 xd) rfl
              have HS1 := Lib.hid (HS.out.below HB1.out)
              have F5 : ∃ Z2, Z1.alloc (.cells #[.int .i64 xs, .int .i64 xd] 134) = Z2 ∧ Hid (Below Z1.heap.size Z1 Z2) := ⟨_, rfl, below_alloc _ _⟩
              obtain ⟨Z2, e5, HX5⟩ := F5
              have HC5 := Lib.hid (cells_new Z1 #[.int .i64 xs, .int .i64 xd] 134)
              rw [e5] at HC5
              have E5 := Lib.hid e5
              have HS5 := Lib.hid (HS1.out.below HX5.out)
              clear e5
              go_wp2_with (at_builtin; rw [E5.out]; refine wpList_append_own _ rfl _ _ 133 rfl w.heap.size 134 i1 _ 2 16 sliceRCmp hi1 hw0 hw1 hw2 rfl (by decide) (.slice Aq j cq) j ((c.take j).flatMap CmpD.cells) rfl HS5.out.cop ⟨Z1.heap.size, 0, none⟩ 1 1 [.int .i64 xs, .int .i64 xd] rfl rfl HC5.out (by simp [Value.oneCell']) (by simp only [maxLen]; omega) (by omega) HS5.out.rows.low.size ?_; intro v2 w2 hO4 hG4 hN4)
              rw [← HXS.out, ← HXD.out] at hO4
              refine ⟨⟨j + 1, by omega, by congr 1, HS5.out.more HX.out hO4 hG4⟩, by simp [intOf]; omega⟩
            · obtain rfl : j = m := by omega
              have HVB : Hid (RCmps Z.heap.size Z (.slice A7 j c7) c) := by
                have h1 := Rd.own HS.out.cln (own_le HS.out.cln)
                show Rd _ _ _ _ _ _
                rw [HM.out]
                exact h1
              have HVQ : Hid (RCmps Z.heap.size Z (.slice Aq j cq) c) := by
                have h1 := Rd.own HS.out.cop (own_le HS.out.cop)
                show Rd _ _ _ _ _ _
                rw [List.take_of_length_le (by rw [HM.out]; exact Nat.le_refl _)] at h1
                rw [HM.out]
                exact h1
              have HRD : Hid (RSubs Z.heap.size Z (.slice Ao k co) l ∧ RSubs Z.heap.size Z (.slice Ar k cr) l) := by
                have h1 := HS.out.rows
                rw [← HN.out] at h1 ⊢
                exact h1.reads
              obtain ⟨S, hS⟩ : ∃ z, carrS t l a b c = z := ⟨_, rfl⟩
              obtain ⟨E, hE⟩ : ∃ z, carrE t l a b c = z := ⟨_, rfl⟩
              obtain ⟨L, hL⟩ : ∃ z, carrL t l a b c = z := ⟨_, rfl⟩
              obtain ⟨ln, hln⟩ : ∃ z, L.length = z := ⟨_, rfl⟩
              have CA : Hid (∀ W, Below Z.heap.size Z W → Calls Try.prog 35 #[.agg #[.int .i64 t.price, .int .i64 t.back, .int .i64 t.late, .int .i64 t.carry, .int .i64 t.credit], .slice Ao k co, .slice A7 j c7, .int .i64 a, .int .i64 b] W fun e w' => ∃ A c', e = .returned (.tuple #[.agg #[.slice A ln c', .int .i64 S], .int .i64 E]) ∧ Hid (OLines W.heap.size w' (.slice A ln c') L) ∧ Hid (Below W.heap.size W w')) := fun W hW => by
                refine (CarrierAll_any t l a b c _ _ W ((Rd.below HVB.out hW).more hW.size) ((HRD.out.1.below hW).more hW.size)).mono ?_
                rintro _ w' ⟨u, rfl, hO, hb⟩
                rw [hL] at hO
                obtain ⟨A, c', rfl⟩ := ownsRow_form hO.out
                rw [hln] at hO ⊢
                exact ⟨A, c', by rw [hS, hE], hO, hb⟩
              have CB : Hid (∀ W, Below Z.heap.size Z W → Calls Try.prog 65 #[.agg #[.int .i64 t.price, .int .i64 t.back, .int .i64 t.late, .int .i64 t.carry, .int .i64 t.credit], .slice Ar k cr, .slice Aq j cq, .int .i64 a, .int .i64 b] W fun e w' => ∃ A c', e = .returned (.tuple #[.agg #[.slice A ln c', .int .i64 S], .int .i64 E]) ∧ Hid (ORLns W.heap.size w' (.slice A ln c') L) ∧ Hid (Below W.heap.size W w')) := fun W hW => by
                refine (refCarrier_any t l a b c _ _ W ((Rd.below HVQ.out hW).more hW.size) ((HRD.out.2.below hW).more hW.size)).mono ?_
                rintro _ w' ⟨u, rfl, hO, hb⟩
                rw [hL] at hO
                obtain ⟨A, c', rfl⟩ := ownsRow_form hO.out
                rw [hln] at hO ⊢
                exact ⟨A, c', by rw [hS, hE], hO, hb⟩
              have CEQ : Hid (∀ W, Below Z.heap.size Z W → Calls Try.prog 67 #[.slice A7 j c7, .slice A2 j c2] W fun e w' => e = .returned (.bool true) ∧ Below W.heap.size W w') := fun W hW => by
                have h1 := eqLCmp_any (.slice A7 j c7) (.slice A2 j c2) c c W ((Rd.below HVB.out hW).more hW.size) ((Rd.below HRC.out (HS.out.rows.low.trans (hW.mono HS.out.rows.low.size))).more (Nat.le_trans HS.out.rows.low.size hW.size))
                simp at h1
                exact h1
              have CSS : Hid (∀ W, Below Z.heap.size Z W → Calls Try.prog 68 #[.slice Ao k co, .slice A k cc, .func (.func 69) #[] #[]] W fun e w' => e = .returned (.bool true) ∧ Below W.heap.size W w') := fun W hW =>
                sameSubs_any l _ _ W ((HRD.out.1.below hW).more hW.size) ((HR.out.below (HS.out.rows.low.trans (hW.mono HS.out.rows.low.size))).more (Nat.le_trans HS.out.rows.low.size hW.size))
              have q1 : (E != E) = false := by simp
              have HLL := Lib.hid hln
              have b0 := HS.out.rows.b0
              have y0 := cellOf b0 0 (x := .int .i64 t.price) rfl
              have y1 := cellOf b0 1 (x := .int .i64 t.back) rfl
              have y2 := cellOf b0 2 (x := .int .i64 t.late) rfl
              have y3 := cellOf b0 3 (x := .int .i64 t.carry) rfl
              have y4 := cellOf b0 4 (x := .int .i64 t.credit) rfl
              have HB0 := Lib.hid b0
              clear b0 hS hE hL hln
              go_wp2_with fail
              refine (CA.out Z (Below.refl _ _)).mono ?_
              rintro _ Y1 ⟨D1, d1, rfl, HL1, HY1⟩
              clear y0 y1 y2 y3 y4
              have F6 : ∃ Y2, Y1.alloc (.cells #[.slice D1 ln d1, .int .i64 S] 80) = Y2 ∧ Hid (Below Y1.heap.size Y1 Y2) ∧ Hid (Blk Y2 Y1.heap.size 80 #[.slice D1 ln d1, .int .i64 S]) := ⟨_, rfl, below_alloc _ _, Blk.new _ _ _⟩
              obtain ⟨Y2, e2, HY2, HK2⟩ := F6
              have E2 := Lib.hid e2
              have HZ2 : Hid (Below Z.heap.size Z Y2) := HY1.out.trans (HY2.out.mono HY1.out.size)
              have b0 := HB0.out.below HZ2.out HB0.out.lt
              have y0 := cellOf b0 0 (x := .int .i64 t.price) rfl
              have y1 := cellOf b0 1 (x := .int .i64 t.back) rfl
              have y2 := cellOf b0 2 (x := .int .i64 t.late) rfl
              have y3 := cellOf b0 3 (x := .int .i64 t.carry) rfl
              have y4 := cellOf b0 4 (x := .int .i64 t.credit) rfl
              clear b0 e2
              go_upto_region 33 with fail
              rw [E2.out]
              clear E2
              go_wp2_with fail
              refine (CB.out Y2 HZ2.out).mono ?_
              rintro _ Y3 ⟨D2, d2, rfl, HL2, HY3⟩
              clear y0 y1 y2 y3 y4
              have F7 : ∃ Y4, Y3.alloc (.cells #[.slice D2 ln d2, .int .i64 S] 137) = Y4 ∧ Hid (Below Y3.heap.size Y3 Y4) ∧ Hid (Blk Y4 Y3.heap.size 137 #[.slice D2 ln d2, .int .i64 S]) := ⟨_, rfl, below_alloc _ _, Blk.new _ _ _⟩
              obtain ⟨Y4, e4, HY4, HK4⟩ := F7
              have E4 := Lib.hid e4
              have HY24 : Hid (Below Y2.heap.size Y2 Y4) := HY3.out.trans (HY4.out.mono HY3.out.size)
              have HZ4 : Hid (Below Z.heap.size Z Y4) := HZ2.out.trans (HY24.out.mono HZ2.out.size)
              have k2 := HK2.out.below HY24.out HK2.out.lt
              have y0 := cellOf k2 0 (x := .slice D1 ln d1) rfl
              have y1 := cellOf k2 1 (x := .int .i64 S) rfl
              have y2 := cellOf HK4.out 0 (x := .slice D2 ln d2) rfl
              have y3 := cellOf HK4.out 1 (x := .int .i64 S) rfl
              have CAC : Hid (Calls Try.prog 66 #[.agg #[.slice D1 ln d1, .int .i64 S], .agg #[.slice D2 ln d2, .int .i64 S]] Y4 fun e w' => e = .returned (.bool true) ∧ Below Y4.heap.size Y4 w') := by
                have h1 : Y4.ownsRow Z.heap.size 84 3 (.slice D1 ln d1) L.length (L.flatMap LineD.cells) := by
                  have h2 := ownsRow_below (ownsRow_below (HL1.out) HY2.out) HY24.out
                  exact h2
                have h3 : Y4.ownsRow Y2.heap.size 190 3 (.slice D2 ln d2) L.length (L.flatMap LineD.cells) := ownsRow_below HL2.out HY4.out
                exact account_same _ _ S L Y4 (Rd.own h1 (own_le h1)) (Rd.own h3 (own_le h3))
              clear k2 e4
              go_upto_region 34 with fail
              rw [E4.out]
              clear E4
              go_wp2_with fail
              refine CAC.out.mono ?_
              rintro _ Y5 ⟨rfl, hb5⟩
              have HZ5 : Hid (Below Z.heap.size Z Y5) := HZ4.out.trans (hb5.mono HZ4.out.size)
              clear hb5 y0 y1 y2 y3 CAC
              go_wp2_with fail
              refine (CEQ.out Y5 HZ5.out).mono ?_
              rintro _ Y6 ⟨rfl, hb6⟩
              have HZ6 : Hid (Below Z.heap.size Z Y6) := HZ5.out.trans (hb6.mono HZ5.out.size)
              clear hb6
              go_wp2_with fail
              refine (CSS.out Y6 HZ6.out).mono ?_
              rintro _ Y7 ⟨rfl, hb7⟩
              have HZ7 : Hid (Below w.heap.size w Y7) := HS.out.rows.low.trans ((HZ6.out.trans (hb7.mono HZ6.out.size)).mono HS.out.rows.low.size)
              clear hb7
              go_wp2_with fail
              go_ret
              first | exact ⟨rfl, HZ7.out⟩ | exact HZ7.out
end Go.Proofs.Ytlmpbmlbllndcaa
