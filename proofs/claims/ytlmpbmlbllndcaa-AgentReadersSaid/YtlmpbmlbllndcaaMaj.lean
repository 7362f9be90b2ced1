/-
  costs.best.
-/
import Derived.Deep.RegionLawGrows
import Derived.Test.YtlmpbmlbllndcaaMai
namespace Go.Proofs.Ytlmpbmlbllndcaa
open Go.RowKit
attribute [local go_sem] Oper.semAt_some

theorem sliceSup : Try.prog.underlying 193 = some (.slice 150) := by kernel_rfl
theorem infoSup : (Try.prog.info? 150).map (fun i => (i.zero, i.size, i.bytes)) = some (some (.agg #[.int .i64 0, .int .i64 0]), 2, 16) := by kernel_rfl
/-- A block that the text has written out, as a row of one's own. -/
theorem row_lit {W : World} {base g n size : Nat} {e : TypeId} {cs : Array Value} {xs : List Value} (hB : Blk W g e cs) (hb : base ≤ g) (hn : cs.size = n * size) (hm : n ≤ maxLen) (hx : cs.toList = xs) : W.ownsRow base e size (.slice (some ⟨g, 0, none⟩) n n) n xs := by
  subst hx
  exact ⟨by simp [hn], .inr ⟨g, n, cs, rfl, hb, hB, Nat.le_refl _, hm, hn, List.take_of_length_le (by simp [hn])⟩⟩
def OSups (base : Nat) (w : World) (v : Value) (l : List (Int × Int)) : Prop := w.ownsRow base 150 2 v l.length (l.flatMap supCells)
theorem OSups.reads {base : Nat} {w : World} {v : Value} {l : List (Int × Int)} (h : OSups base w v l) : RSups w.heap.size w v l := Rd.own h (own_le h)
/-- The first k days with the supply 0 ahead. -/
def candK (a b : Int) (l : List DayD) (k : Nat) : List (Int × Int) := candL a b l (l.take k)
theorem candK_len (a b : Int) (l : List DayD) (k : Nat) (hk : k ≤ l.length) : (candK a b l k).length = k + 1 := by
  unfold candK candL
  rw [List.length_cons, List.length_map, List.length_take]
  omega
theorem candK_next {a b : Int} {l : List DayD} {k : Nat} {x : DayD} (h : l[k]? = some x) : candK a b l (k + 1) = candK a b l k ++ [(x.sold, totD a b l x.sold)] := by
  unfold candK candL
  rw [List.take_add_one, h]
  simp
/-- What lies there while candidates are collected. -/
structure BeSt (w : World) (a b : Int) (v : Value) (l : List (Int × Int)) (X : World) : Prop where
  low : Below w.heap.size w X
  cost : Blk X w.heap.size 148 #[.int .i64 a, .int .i64 b]
  res : Blk X (w.heap.size + 1) 150 #[.int .i64 0, .int .i64 0]
  row : OSups (w.heap.size + 1 + 1) X v l
theorem BeSt.below {w X Y : World} {a b : Int} {v : Value} {l : List (Int × Int)} (h : BeSt w a b v l X) (hb : Below X.heap.size X Y) : BeSt w a b v l Y := ⟨h.low.trans (hb.mono h.low.size), h.cost.below hb h.cost.lt, h.res.below hb h.res.lt, ownsRow_below h.row hb⟩
theorem BeSt.app {w Y Z : World} {a b : Int} {v v' : Value} {l : List (Int × Int)} {k : Nat} {x : Int × Int} (h : BeSt w a b v l Y) (hk : l.length = k) (hg : Y.grownBy Z v.ownBlock) (ho : Z.ownsRow (w.heap.size + 1 + 1) 150 2 v' (k + 1) (l.flatMap supCells ++ [.int .i64 x.1, .int .i64 x.2])) : BeSt w a b v' (l ++ [x]) Z ∧ KeptBut (fun g => some g = v.ownBlock) Y Z := by
  have hS : ∀ g, some g = v.ownBlock → w.heap.size + 1 + 1 ≤ g ∧ ∃ cs, Blk Y g 150 cs := fun g hg => ownsRow_own h.row hg.symm
  have hK : KeptBut (fun g => some g = v.ownBlock) Y Z := KeptBut.grown (S := fun g => some g = v.ownBlock) hg fun g hg => hg
  refine ⟨⟨h.low.trans (hK.below (fun g hg => by have := (hS g hg).1; omega) h.low.size), hK.blk h.cost (fun e => by have := (hS _ e).1; omega), hK.blk h.res (fun e => by have := (hS _ e).1; omega), ?_⟩, hK⟩
  unfold OSups
  rw [List.length_append, List.flatMap_append, hk]
  simpa [supCells] using ho
set_option maxRecDepth 100000 in
set_option maxHeartbeats 4000000 in
theorem best_any (a b : Int) (hc : (0 ≤ a ∧ a ≤ 1000) ∧ (0 ≤ b ∧ b ≤ 1000)) (l : List DayD) (hl : l.length ≤ 400) (hd : ∀ d ∈ l, d.ok) (v : Value) (w : World) (h : RDays w.heap.size w v l) :
    Calls Try.prog 73 #[.agg #[.int .i64 a, .int .i64 b], v] w fun e w' => e = .returned (.agg #[.int .i64 (bestD a b l).1, .int .i64 (bestD a b l).2]) ∧ Below w.heap.size w w' := by
  obtain ⟨A, c, rfl, hlm, HD⟩ := days_later h
  have HR := Lib.hid h
  obtain ⟨n, hn⟩ : ∃ n, l.length = n := ⟨_, rfl⟩
  rw [hn] at hlm hl HR
  obtain ⟨r1, hr1⟩ : ∃ r, (bestD a b l).1 = r := ⟨_, rfl⟩
  obtain ⟨r2, hr2⟩ : ∃ r, (bestD a b l).2 = r := ⟨_, rfl⟩
  rw [hn, hr1, hr2]
  have HR1 := Lib.hid hr1
  have HR2 := Lib.hid hr2
  clear hr1 hr2
  have HN := Lib.hid hn
  have HTO : Hid (∀ (q : Int) (W : World), (0 ≤ q ∧ q ≤ 10000) → Below w.heap.size w W → Calls Try.prog 75 #[.agg #[.int .i64 a, .int .i64 b], .slice A n c, .int .i64 q] W fun e w' => e = .returned (.int .i64 (totD a b l q)) ∧ Below W.heap.size W w') := fun q W hq hW => total_any a b hc l (by rw [HN.out]; exact hl) hd q hq _ W ((Rd.below HR.out hW).more hW.size)
  have HSO : Hid (∀ x ∈ l, (0 ≤ x.sold ∧ x.sold ≤ 10000) ∧ ∀ W : World, Calls Try.prog 115 #[.agg #[.int .i64 x.sup, .int .i64 x.ret]] W fun e w' => e = .returned (.int .i64 x.sold) ∧ Below W.heap.size W w') := fun x hx => by
    have := hd x hx
    obtain ⟨h1, h2, h3, h4⟩ := id this
    exact ⟨by unfold DayD.sold; omega, fun W => sold_any x this W⟩
  have F0 : ∃ W0, (w.alloc (.cells #[.int .i64 a, .int .i64 b] 148)).alloc (.cells #[.int .i64 0, .int .i64 0] 150) = W0 ∧ Hid (Below w.heap.size w W0) ∧ Hid (Blk W0 w.heap.size 148 #[.int .i64 a, .int .i64 b] ∧ Blk W0 (w.heap.size + 1) 150 #[.int .i64 0, .int .i64 0]) ∧ W0.heap.size = w.heap.size + 1 + 1 :=
    ⟨_, rfl, sbelow_al (below_alloc _ _) _, ⟨(Blk.new _ _ _).alloc _, blk_new (by simp) _ _⟩, by simp⟩
  obtain ⟨W0, e0, HB0, HK0, hz0⟩ := F0
  have HZ0 := Lib.hid hz0
  have E0 := Lib.hid e0
  obtain ⟨p, hp⟩ : ∃ p, w.heap.size = p := ⟨_, rfl⟩
  have HP := Lib.hid hp
  have CT0 := Lib.hid (HTO.out 0 W0 (by omega) HB0.out)
  obtain ⟨t0, ht0⟩ : ∃ t, totD a b l 0 = t := ⟨_, rfl⟩
  rw [ht0] at CT0
  have HT0 := Lib.hid ht0
  have k0 : W0.cell? ⟨p, 0, none⟩ = some (.int .i64 a) := by rw [← hp]; exact cellOf HK0.out.1 0 rfl
  have k1 : W0.cell? ⟨p, 1, none⟩ = some (.int .i64 b) := by rw [← hp]; exact cellOf HK0.out.1 1 rfl
  clear h hn hd hc e0 hp ht0 hz0
  go_enter Try.func73, Try.ntmps73
  go_upto_region 1 with fail
  rw [E0.out]
  clear E0
  rw [HP.out]
  go_wp2_with fail
  refine CT0.out.mono ?_
  rintro _ W1 ⟨rfl, hb1⟩
  have F2 : ∃ W2, W1.alloc (.cells #[.int .i64 0, .int .i64 t0] 150) = W2 ∧ Hid (BeSt w a b (.slice (some ⟨W1.heap.size, 0, none⟩) 1 1) (candK a b l 0) W2) := by
    have h2 : Below W0.heap.size W0 (W1.alloc (.cells #[.int .i64 0, .int .i64 t0] 150)) := hb1.alloc hb1.size _
    refine ⟨_, rfl, HB0.out.trans (h2.mono HB0.out.size), HK0.out.1.below h2 HK0.out.1.lt, HK0.out.2.below h2 HK0.out.2.lt, ?_⟩
    have hcl : candK a b l 0 = [(0, t0)] := by simp [candK, candL, HT0.out]
    rw [hcl]
    exact row_lit (Blk.new _ _ _) (by have := hb1.size; have := HZ0.out; omega) rfl (by decide) rfl
  obtain ⟨W2, e2, HS2⟩ := F2
  have E2 := Lib.hid e2
  clear CT0 hb1 e2 k0 k1 HK0 HB0 HZ0
  go_upto_region 2 with fail
  rw [E2.out]
  clear E2
  go_wp2_with fail
  go_loopw [5, 17] (fun s i wr => ∃ k : Nat, k ≤ n ∧ i = .int .i64 k ∧ ∃ A c, s = .slice A (k + 1) c ∧ Hid (BeSt w a b (.slice A (k + 1) c) (candK a b l k) wr)) (fun _ i _ => n - (intOf i).toNat)
  case atStart => exact ⟨0, Nat.zero_le _, rfl, _, _, rfl, HS2.out⟩
  case round =>
  clear HS2
  obtain ⟨k, hk, rfl, Av, cv, rfl, hst⟩ := hrel
  obtain ⟨X, rfl⟩ : ∃ X : World, X = wr := ⟨_, rfl⟩
  by_cases hlt : k < n
  · obtain ⟨x, hx⟩ : ∃ x, l[k]? = some x := ⟨_, List.getElem?_eq_getElem (by rw [HN.out]; exact hlt)⟩
    obtain ⟨g, o, rfl, HX⟩ := HD.out k x hx
    obtain ⟨c0, c1⟩ := HX.out X hst.out.low
    have F1 : ∃ X1, X.alloc (.cells #[.int .i64 x.sup, .int .i64 x.ret] 24) = X1 ∧ Hid (Below X.heap.size X X1) ∧ Hid (Blk X1 X.heap.size 24 #[.int .i64 x.sup, .int .i64 x.ret]) := ⟨_, rfl, below_alloc _ _, Blk.new _ _ _⟩
    obtain ⟨X1, e1, HX1, HK1⟩ := F1
    have E1 := Lib.hid e1
    have HS1 := Lib.hid (hst.out.below HX1.out)
    have HQO : Hid (∀ g, (Value.slice Av (k + 1) cv).ownBlock = some g → g ≠ X.heap.size) := fun g hg => by
      have := (hst.out.row.lt g hg).2
      omega
    have HXX := Lib.hid hx
    have k0 : (0 : Int) ≤ (k : Int) := by omega
    have k1 : (k : Int) < (n : Int) := by omega
    obtain ⟨q, hq⟩ : ∃ q, X.heap.size = q := ⟨_, rfl⟩
    have HQ := Lib.hid hq
    rw [hq] at HK1 HQO
    obtain ⟨hsb, hsc⟩ := HSO.out x (List.mem_of_getElem? hx)
    obtain ⟨s, hs⟩ : ∃ s, x.sold = s := ⟨_, rfl⟩
    obtain ⟨t, ht⟩ : ∃ t, totD a b l s = t := ⟨_, rfl⟩
    have HSV : Hid (∀ X : World, Below X1.heap.size X1 X → X.cell? ⟨p, 0, none⟩ = some (.int .i64 a) ∧ X.cell? ⟨p, 1, none⟩ = some (.int .i64 b) ∧ X.cell? ⟨q, 0, none⟩ = some (.int .i64 x.sup) ∧ X.cell? ⟨q, 1, none⟩ = some (.int .i64 x.ret)) := fun X hX => by
      have h1 := HS1.out.cost.below hX HS1.out.cost.lt
      have h2 := HK1.out.below hX HK1.out.lt
      rw [HP.out] at h1
      exact ⟨cellOf h1 0 rfl, cellOf h1 1 rfl, cellOf h2 0 rfl, cellOf h2 1 rfl⟩
    have CS : Hid (∀ W : World, Below X1.heap.size X1 W → Calls Try.prog 115 #[.agg #[.int .i64 x.sup, .int .i64 x.ret]] W fun e w' => e = .returned (.int .i64 s) ∧ Hid (Below X1.heap.size X1 w') ∧ (w'.cell? ⟨p, 0, none⟩ = some (.int .i64 a) ∧ w'.cell? ⟨p, 1, none⟩ = some (.int .i64 b) ∧ w'.cell? ⟨q, 0, none⟩ = some (.int .i64 x.sup) ∧ w'.cell? ⟨q, 1, none⟩ = some (.int .i64 x.ret))) := fun W hW => (hsc W).mono fun e w' h => by
      have h1 := hW.trans (h.2.mono hW.size)
      exact ⟨by rw [h.1, hs], h1, HSV.out _ h1⟩
    have CT : Hid (∀ W : World, Below X1.heap.size X1 W → Calls Try.prog 75 #[.agg #[.int .i64 a, .int .i64 b], .slice (some ⟨g, o, none⟩) n c, .int .i64 s] W fun e w' => e = .returned (.int .i64 t) ∧ Hid (Below X1.heap.size X1 w') ∧ (w'.cell? ⟨p, 0, none⟩ = some (.int .i64 a) ∧ w'.cell? ⟨p, 1, none⟩ = some (.int .i64 b) ∧ w'.cell? ⟨q, 0, none⟩ = some (.int .i64 x.sup) ∧ w'.cell? ⟨q, 1, none⟩ = some (.int .i64 x.ret))) := fun W hW => (HTO.out s W (by rw [← hs]; exact hsb) (HS1.out.low.trans (hW.mono HS1.out.low.size))).mono fun e w' h => by
      have h1 := hW.trans (h.2.mono hW.size)
      exact ⟨by rw [h.1, ht], h1, HSV.out _ h1⟩
    have HD0 : Hid (Below X1.heap.size X1 X1.drew) := (Below.refl _ _).drew
    have S1 := HSV.out X1 (Below.refl _ _)
    have HO : Hid (∀ W, Below X1.heap.size X1 W → W.ownsRow (w.heap.size + 1 + 1) 150 2 (.slice Av (k + 1) cv) (k + 1) ((candK a b l k).flatMap supCells)) := fun W hW => by
      have h1 := (HS1.out.below hW).row
      unfold OSups at h1
      rw [candK_len a b l k (by rw [HN.out]; omega)] at h1
      exact h1
    have HZ : Hid (∀ W, Below X1.heap.size X1 W → w.heap.size + 1 + 1 ≤ W.heap.size) := fun W hW => by
      have := (HS1.out.below hW).res.lt
      omega
    have HNX : Hid (candK a b l (k + 1) = candK a b l k ++ [(s, t)]) := by show _ = _; rw [candK_next hx, hs, ht]
    have HAP : Hid (∀ (Y Z : World) (o : Obj) (v' : Value) (_ : Hid (Below X1.heap.size X1 Y)), (Y.alloc o).grownBy Z (Value.slice Av (k + 1) cv).ownBlock → Z.ownsRow (w.heap.size + 1 + 1) 150 2 v' (k + 1 + 1) ((candK a b l k).flatMap supCells ++ [.int .i64 s, .int .i64 t]) → Hid (BeSt w a b v' (candK a b l (k + 1)) Z) ∧ (Z.cell? ⟨p, 0, none⟩ = some (.int .i64 a) ∧ Z.cell? ⟨p, 1, none⟩ = some (.int .i64 b) ∧ Z.cell? ⟨q, 0, none⟩ = some (.int .i64 x.sup) ∧ Z.cell? ⟨q, 1, none⟩ = some (.int .i64 x.ret))) := fun Y Z o v' hY hg ho => by
      have h1 := HS1.out.below (sbelow_al hY.out o)
      obtain ⟨h2, h3⟩ := h1.app (x := (s, t)) (candK_len a b l k (by rw [HN.out]; omega)) hg ho
      rw [← HNX.out] at h2
      have h4 := h3.blk (HK1.out.below (sbelow_al hY.out o) HK1.out.lt) fun e => HQO.out _ e.symm rfl
      have h5 := h2.cost
      rw [HP.out] at h5
      exact ⟨h2, cellOf h5 0 rfl, cellOf h5 1 rfl, cellOf h4 0 rfl, cellOf h4 1 rfl⟩
    obtain ⟨i0, hi0, hz0, hz1, hz2⟩ := info_parts infoSup
    clear hx e1 hq hs ht hsb hsc HX hst HX1
    go_upto_region 5 with fail
    rw [E1.out, HQ.out]
    clear E1 c0 c1
    go_region_held3 (fun X => X.cell? ⟨p, 0, none⟩ = some (.int .i64 a) ∧ X.cell? ⟨p, 1, none⟩ = some (.int .i64 b) ∧ X.cell? ⟨q, 0, none⟩ = some (.int .i64 x.sup) ∧ X.cell? ⟨q, 1, none⟩ = some (.int .i64 x.ret)) (first | with_reducible exact T9 | with_reducible exact T3 | with_reducible exact T2 | with_reducible exact T1 | with_reducible exact S1 | with_reducible exact HSV.out _ (sbelow_al H3.out _) | go_keep)
      (first | (go_at_call 115; with_reducible refine (CS.out _ HD0.out).mono ?_; rintro _ y1 ⟨rfl, H1, T1⟩)
             | (go_at_call 115; with_reducible refine (CS.out _ H1.out).mono ?_; rintro _ y2 ⟨rfl, H2, T2⟩)
             | (go_at_call 115; with_reducible refine (CS.out _ H2.out).mono ?_; rintro _ y3 ⟨rfl, H3, T3⟩)
             | (go_at_call 75; with_reducible refine (CT.out _ H1.out).mono ?_; rintro _ y2 ⟨rfl, H2, T2⟩)
             | (go_at_call 75; with_reducible refine (CT.out _ H2.out).mono ?_; rintro _ y3 ⟨rfl, H3, T3⟩)
             | (refine step_append_lies _ (by rfl) _ _ 193 (by rfl) (w.heap.size + 1 + 1) 150 i0 (.agg #[.int .i64 0, .int .i64 0]) 2 16 sliceSup hi0 hz0 hz1 hz2 (by rfl) (by decide) (.slice Av (k + 1) cv) (k + 1) ((candK a b l k).flatMap supCells) (by rfl) (HO.out _ (sbelow_al H3.out _)) _ 1 1 [.int .i64 s, .int .i64 t] (by rfl) (by rfl) (World.news_of_block (cs := #[.int .i64 s, .int .i64 t]) (t := 150) (fr := (0, 0)) (Blk.new _ _ _)) (by simp [Value.oneCell']) (by omega) (by simp only [maxLen]; omega) (by omega) (by have := HZ.out _ (sbelow_al H3.out (.cells #[.int .i64 s, .int .i64 t] 150)); omega) _ rfl ?_; intro g9 c9 W9 hown9 hgrow9 hat9 hlt9; obtain ⟨H9, T9⟩ := HAP.out _ _ _ _ H3 hgrow9 hown9; clear hown9 hgrow9 hat9 hlt9))
    all_goals
      clear S1 HSV CS CT HD0 HO HZ HAP HK1 HQO HS1
      go_wp2_with fail
      go_roundw
      case rel => exact ⟨k + 1, by omega, by go_num, _, _, rfl, H9⟩
      case measure => simp [intOf]; omega
  · have hkn : k = n := by omega
    have hlen := candK_len a b l k (by rw [HN.out]; omega)
    have CL := leastS_any (candK a b l k) (by omega) _ X (by
      have h1 := hst.out.row.reads
      exact h1)
    rw [hlen] at CL
    have hbest : lstS (candK a b l k) (k + 1) = bestD a b l := by
      unfold lstS bestD
      rw [List.take_of_length_le (by omega)]
      unfold candK
      rw [List.take_of_length_le (by rw [HN.out]; omega)]
    rw [hbest] at CL
    have HCL := Lib.hid CL
    rw [HR1.out, HR2.out] at HCL
    clear hkn hlen CL hbest
    go_wp2_with fail
    refine HCL.out.mono ?_
    rintro _ Y ⟨rfl, hb3⟩
    have HSY := Lib.hid (hst.out.below hb3)
    have F4 : ∃ Z, Y.alloc (.cells #[.int .i64 r1, .int .i64 r2] 150) = Z ∧ Hid (Below Y.heap.size Y Z) ∧ Hid (Blk Z Y.heap.size 150 #[.int .i64 r1, .int .i64 r2]) := ⟨_, rfl, below_alloc _ _, Blk.new _ _ _⟩
    obtain ⟨Z, e4, HZ4, HK4⟩ := F4
    have E4 := Lib.hid e4
    have HSZ := Lib.hid (HSY.out.below HZ4.out)
    obtain ⟨y, hy⟩ : ∃ y, Y.heap.size = y := ⟨_, rfl⟩
    have HY := Lib.hid hy
    rw [hy] at HK4
    have b0 := cellOf HK4.out 0 (x := .int .i64 r1) rfl
    have b1 := cellOf HK4.out 1 (x := .int .i64 r2) rfl
    have HRB := Lib.hid HSZ.out.res
    rw [HP.out] at HRB
    have d0 := cellOf HRB.out 0 (x := .int .i64 0) rfl
    have d1 := cellOf HRB.out 1 (x := .int .i64 0) rfl
    have f0 := HRB.out.frozen 0
    have f1 := HRB.out.frozen 1
    have hK : KeptBut (fun g => g = p + 1) Z ((Z.setCell ⟨p + 1, 0, none⟩ (.int .i64 r1)).setCell ⟨p + 1, 1, none⟩ (.int .i64 r2)) := (KeptBut.setCell (S := fun g => g = p + 1) rfl _).trans (KeptBut.setCell (S := fun g => g = p + 1) rfl _) fun _ _ h => h
    have HF : Hid (Below w.heap.size w ((Z.setCell ⟨p + 1, 0, none⟩ (.int .i64 r1)).setCell ⟨p + 1, 1, none⟩ (.int .i64 r2))) := HSZ.out.low.trans (hK.below (fun g hg => by rw [hg, HP.out]; omega) HSZ.out.low.size)
    have R := (HRB.out.put 0 (.int .i64 r1)).put 1 (.int .i64 r2)
    have z0 := cellOf R 0 (x := .int .i64 r1) rfl
    have z1 := cellOf R 1 (x := .int .i64 r2) rfl
    clear hb3 e4 hy hK R HRB HK4 HZ4 HSY HSZ hst HCL
    go_upto_region 8 with fail
    rw [E4.out, HY.out]
    clear E4
    go_wp2_with fail
    exact bodyPost_ret (v := .agg #[.int .i64 r1, .int .i64 r2]) (by simp [results, Try.results73, go_sem, z0, z1]) rfl ⟨rfl, HF.out⟩
end Go.Proofs.Ytlmpbmlbllndcaa
