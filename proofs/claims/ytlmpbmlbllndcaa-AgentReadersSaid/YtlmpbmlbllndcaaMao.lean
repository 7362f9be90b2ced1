/-
  Accounts: a line is put behind the others; adder.
-/
import Derived.Deep.AppendLies
import Derived.Test.YtlmpbmlbllndcaaMan
namespace Go.Proofs.Ytlmpbmlbllndcaa
open Go.RowKit
attribute [local go_sem] Oper.semAt_some

theorem Blk.drew_ {W : World} {b : Nat} {t : TypeId} {cs : Array Value} (h : Blk W b t cs) : Blk W.drew b t cs := h
/-- What a line that is put behind the others leaves. -/
def AdRet (base Ab Pb k : Nat) (l : List LineD) (s : Int) (v : Value) (x : LineD) (X : World) (e : Ending) (w' : World) : Prop :=
  (∃ z, e = .returned z) ∧ ∃ g c, Hid (AcSt base Ab Pb (l ++ [x]) (s + x.amt) (.slice (some ⟨g, 0, none⟩) (k + 1) c) w') ∧ Hid (KeptBut (fun j => j = Ab ∨ some j = v.ownBlock) X w')
theorem AcSt.app {base Ab Pb k : Nat} {l : List LineD} {s : Int} {v v' : Value} {x : LineD} {Y Z : World} (h : AcSt base Ab Pb l s v Y) (hk : l.length = k) (hg : Y.grownBy Z v.ownBlock) (ho : Z.ownsRow base 84 3 v' (k + 1) (l.flatMap LineD.cells ++ x.cells)) :
    AcSt base Ab Pb (l ++ [x]) s v' (Z.setCell ⟨Ab, 0, none⟩ v') ∧ KeptBut (fun j => j = Ab ∨ some j = v.ownBlock) Y (Z.setCell ⟨Ab, 0, none⟩ v') ∧ Blk Z Ab 80 #[v, .int .i64 s] ∧ Blk Z Pb 228 #[.pointer (some ⟨Ab, 0, none⟩)] ∧ KeptBut (fun j => some j = v.ownBlock) Y Z := by
  have hS : ∀ g, some g = v.ownBlock → base ≤ g ∧ ∃ cs, Blk Y g 84 cs := fun g hg => ownsRow_own h.row hg.symm
  have hK : KeptBut (fun g => some g = v.ownBlock) Y Z := KeptBut.grown (S := fun g => some g = v.ownBlock) hg fun g hg => hg
  have ha : Blk Z Ab 80 _ := hK.blk h.acc fun e => by
    obtain ⟨-, cs, hB⟩ := hS _ e
    exact Blk.ne h.acc hB (by decide) rfl
  have hp : Blk Z Pb 228 _ := hK.blk h.ptr fun e => by
    obtain ⟨-, cs, hB⟩ := hS _ e
    exact Blk.ne h.ptr hB (by decide) rfl
  have hK2 : KeptBut (fun g => g = Ab) Z (Z.setCell ⟨Ab, 0, none⟩ v') := KeptBut.setCell (S := fun g => g = Ab) rfl v'
  refine ⟨⟨ha.put 0 v', hK2.blk hp (fun e => by subst e; exact Blk.ne hp ha (by decide) rfl), ?_⟩, (hK.mono fun _ _ h => .inr h).trans hK2 fun _ _ h => .inl h, ha, hp, hK⟩
  unfold OLines
  rw [List.length_append, List.flatMap_append, hk]
  exact ownsRow_keptBut (by simpa using ho) hK2 fun g cs _ hB e => by subst e; exact Blk.ne hB ha (by decide) rfl
theorem AcSt.sum {base Ab Pb : Nat} {l : List LineD} {s t : Int} {v : Value} {Y : World} (h : AcSt base Ab Pb l s v Y) : AcSt base Ab Pb l t v (Y.setCell ⟨Ab, 1, none⟩ (.int .i64 t)) ∧ KeptBut (fun j => j = Ab) Y (Y.setCell ⟨Ab, 1, none⟩ (.int .i64 t)) := by
  have hK2 : KeptBut (fun g => g = Ab) Y (Y.setCell ⟨Ab, 1, none⟩ (.int .i64 t)) := KeptBut.setCell (S := fun g => g = Ab) rfl _
  exact ⟨⟨h.acc.put 1 _, hK2.blk h.ptr (fun e => by subst e; exact Blk.ne h.ptr h.acc (by decide) rfl), ownsRow_keptBut h.row hK2 fun g cs _ hB e => by subst e; exact Blk.ne hB h.acc (by decide) rfl⟩, hK2⟩
set_option maxRecDepth 1000000 in
set_option maxHeartbeats 4000000 in
theorem add_any {base Ab Pb k : Nat} {l : List LineD} {s : Int} {Av : Option Addr} {cv : Nat} (wh cop each : Int) (hk : l.length = k) (hk2 : k ≤ 1000) (hs : -1000000000000 ≤ s ∧ s ≤ 1000000000000) (hm : -1000000000000 ≤ cop * each ∧ cop * each ≤ 1000000000000) (w : World) (hb : base ≤ w.heap.size) (h : AcSt base Ab Pb l s (.slice Av k cv) w) :
    Calls Try.prog 148 #[.int .i64 wh, .int .i64 cop, .int .i64 each, .pointer (some ⟨Pb, 0, none⟩)] w (AdRet base Ab Pb k l s (.slice Av k cv) ⟨wh, cop, cop * each⟩ w) := by
  obtain ⟨P, hP⟩ : ∃ P, cop * each = P := ⟨_, rfl⟩
  obtain ⟨hm1, hm2⟩ := hm
  obtain ⟨hs1, hs2⟩ := hs
  have F0 : ∃ X, w.alloc (.cells #[.int .i64 wh, .int .i64 cop, .int .i64 P] 84) = X ∧ Hid (Below w.heap.size w X) ∧ Hid (Blk X w.heap.size 84 #[.int .i64 wh, .int .i64 cop, .int .i64 P]) := ⟨_, rfl, below_alloc _ _, Blk.new _ _ _⟩
  obtain ⟨X, e0, HB0, HK0⟩ := F0
  rw [← hP] at e0
  have E0 := Lib.hid e0
  have HQO : Hid (∀ g, (Value.slice Av k cv).ownBlock = some g → g ≠ w.heap.size) := fun g hg => by
    have := (h.row.lt g hg).2
    omega
  have HST := Lib.hid (h.below HB0.out)
  have hb' : base ≤ X.heap.size := Nat.le_trans hb HB0.out.size
  have HZ : Hid (∀ Z, Below X.heap.size X Z → base ≤ Z.heap.size) := fun Z hZ => Nat.le_trans hb' hZ.size
  obtain ⟨q, hq⟩ : ∃ q, w.heap.size = q := ⟨_, rfl⟩
  rw [hq] at HK0 HQO
  have HQ := Lib.hid hq
  have HKX : Hid (KeptBut (fun j => j = Ab ∨ some j = (Value.slice Av k cv).ownBlock) w X) := KeptBut.of_below HB0.out
  have HO : Hid (∀ Z, Below X.heap.size X Z → Z.ownsRow base 84 3 (.slice Av k cv) k (l.flatMap LineD.cells)) := fun Z hZ => by
    have h1 := (HST.out.below hZ).row
    unfold OLines at h1
    rw [hk] at h1
    exact h1
  have HS : Hid (∀ Z, Below X.heap.size X Z → (Z.cell? ⟨Pb, 0, none⟩ = some (.pointer (some ⟨Ab, 0, none⟩)) ∧ Z.cell? ⟨Ab, 0, none⟩ = some (.slice Av k cv) ∧ Z.cell? ⟨q, 0, none⟩ = some (.int .i64 wh) ∧ Z.cell? ⟨q, 1, none⟩ = some (.int .i64 cop) ∧ Z.cell? ⟨q, 2, none⟩ = some (.int .i64 P))) := fun Z hZ => by
    have h1 := HST.out.below hZ
    have h2 := HK0.out.below hZ HK0.out.lt
    exact ⟨cellOf h1.ptr 0 rfl, cellOf h1.acc 0 rfl, cellOf h2 0 rfl, cellOf h2 1 rfl, cellOf h2 2 rfl⟩
  have HLK := Lib.hid hk
  have HAPP : Hid (∀ (Y Z : World) (v' : Value), Below X.heap.size X Y → Y.grownBy Z (Value.slice Av k cv).ownBlock → Z.ownsRow base 84 3 v' (k + 1) (l.flatMap LineD.cells ++ [.int .i64 wh, .int .i64 cop, .int .i64 P]) → (Hid (AcSt base Ab Pb (l ++ [⟨wh, cop, P⟩]) s v' (Z.setCell ⟨Ab, 0, none⟩ v') ∧ KeptBut (fun j => j = Ab ∨ some j = (Value.slice Av k cv).ownBlock) w (Z.setCell ⟨Ab, 0, none⟩ v') ∧ Blk (Z.setCell ⟨Ab, 0, none⟩ v') q 84 #[.int .i64 wh, .int .i64 cop, .int .i64 P] ∧ Blk Z Ab 80 #[(.slice Av k cv), .int .i64 s])) ∧ ((Z.cell? ⟨Pb, 0, none⟩ = some (.pointer (some ⟨Ab, 0, none⟩)) ∧ Z.cell? ⟨Ab, 0, none⟩ = some (.slice Av k cv) ∧ Z.cell? ⟨q, 0, none⟩ = some (.int .i64 wh) ∧ Z.cell? ⟨q, 1, none⟩ = some (.int .i64 cop) ∧ Z.cell? ⟨q, 2, none⟩ = some (.int .i64 P)))) := fun Y Z v' hY hg ho => by
    obtain ⟨h1, h2, h3, h4, h5⟩ := (HST.out.below hY).app (x := ⟨wh, cop, P⟩) HLK.out hg ho
    have h6 := h5.blk (HK0.out.below hY HK0.out.lt) fun e => HQO.out _ e.symm rfl
    have h7 : Blk (Z.setCell ⟨Ab, 0, none⟩ v') q 84 _ := (KeptBut.setCell (S := fun g => g = Ab) (w := Z) (p := ⟨Ab, 0, none⟩) rfl v').blk h6 fun e => by subst e; exact Blk.ne h6 h3 (by decide) rfl
    exact ⟨⟨h1, (HKX.out.trans (KeptBut.of_below (S := fun _ => False) hY) fun _ _ h => h.elim).trans h2 fun _ _ h => h, h7, h3⟩, cellOf h4 0 rfl, cellOf h3 0 rfl, cellOf h6 0 rfl, cellOf h6 1 rfl, cellOf h6 2 rfl⟩
  obtain ⟨i0, hi0, hz0, hz1, hz2⟩ := info_parts infoLine
  have HPP := Lib.hid hP
  clear h hq hk e0 hP hb hb'
  go_enter Try.func148, Try.ntmps148
  go_upto_region 1 with fail
  rw [E0.out, HQ.out]
  clear E0
  rw [HPP.out] at hm1 hm2 ⊢
  refine wp_region_noPanic ?_
  refine wp_region_T 8 (fun X => (X.cell? ⟨Pb, 0, none⟩ = some (.pointer (some ⟨Ab, 0, none⟩)) ∧ X.cell? ⟨Ab, 0, none⟩ = some (.slice Av k cv) ∧ X.cell? ⟨q, 0, none⟩ = some (.int .i64 wh) ∧ X.cell? ⟨q, 1, none⟩ = some (.int .i64 cop) ∧ X.cell? ⟨q, 2, none⟩ = some (.int .i64 P))) (by kernel_rfl) (by exact HS.out _ (by repeat (first | exact Below.refl _ _ | refine sbelow_al ?_ _ | refine Below.drew ?_))) (fun hHeld => ?_)
  refine wpAnyT_take (i := 0) (v := ?v0n1) (by kernel_rfl) (by kernel_rfl) rfl (by kernel_rfl) (by kernel_rfl) (by kernel_rfl) (by decide) (fun _ _ _ h => h) (Or.inl ⟨by rfl, ?y0n1⟩) hHeld ?r0n1
  case y0n1 =>
    intro W hSw
    try dsimp only at hSw
    go_simp
    try with_reducible rfl
  simp only [Act.put, List.setIfInBounds_toArray, List.set_cons_zero, List.set_cons_succ]
  refine wpAnyT_take (i := 1) (v := ?v1n2) (by kernel_rfl) (by kernel_rfl) rfl (by kernel_rfl) (by kernel_rfl) (by kernel_rfl) (by decide) (fun _ _ _ h => h) (Or.inl ⟨by rfl, ?y1n2⟩) hHeld ?r1n2
  case y1n2 =>
    intro W hSw
    try dsimp only at hSw
    go_simp
    try with_reducible rfl
  simp only [Act.put, List.setIfInBounds_toArray, List.set_cons_zero, List.set_cons_succ]
  refine wpAnyT_take (i := 2) (v := ?v2n3) (by kernel_rfl) (by kernel_rfl) rfl (by kernel_rfl) (by kernel_rfl) (by kernel_rfl) (by decide) (fun _ _ _ h => h) (Or.inl ⟨by rfl, ?y2n3⟩) hHeld ?r2n3
  case y2n3 =>
    intro W hSw
    try dsimp only at hSw
    go_simp
    try with_reducible rfl
  simp only [Act.put, List.setIfInBounds_toArray, List.set_cons_zero, List.set_cons_succ]
  refine wpAnyT_take (i := 3) (v := ?v3n4) (by kernel_rfl) (by kernel_rfl) rfl (by kernel_rfl) (by kernel_rfl) (by kernel_rfl) (by decide) (fun _ _ _ h => h) (Or.inl ⟨by rfl, ?y3n4⟩) hHeld ?r3n4
  case y3n4 =>
    intro W hSw
    try dsimp only at hSw
    go_simp
    try with_reducible rfl
  simp only [Act.put, List.setIfInBounds_toArray, List.set_cons_zero, List.set_cons_succ]
  refine wpAnyT_take (i := 4) (v := ?v4n5) (by kernel_rfl) (by kernel_rfl) rfl (by kernel_rfl) (by kernel_rfl) (by kernel_rfl) (by decide) (fun _ _ _ h => h) (Or.inl ⟨by rfl, ?y4n5⟩) hHeld ?r4n5
  case y4n5 =>
    intro W hSw
    try dsimp only at hSw
    go_simp
    try with_reducible rfl
  simp only [Act.put, List.setIfInBounds_toArray, List.set_cons_zero, List.set_cons_succ]
  refine wpAnyT_take (i := 5) (v := ?v5n6) (by kernel_rfl) (by kernel_rfl) rfl (by kernel_rfl) (by kernel_rfl) (by kernel_rfl) (by decide) (fun _ _ _ h => h) (Or.inl ⟨by rfl, ?y5n6⟩) hHeld ?r5n6
  case y5n6 =>
    intro W hSw
    try dsimp only at hSw
    go_simp
    try with_reducible rfl
  simp only [Act.put, List.setIfInBounds_toArray, List.set_cons_zero, List.set_cons_succ]
  refine wpAnyT_one (i := 6) (by kernel_rfl) rfl ?_
  intro K hK o ho
  cases ho
  go_simp
  refine hK.out _ _ (fun _ => ?_) (fun hHeld => ?_) (fun h => absurd h (by decide))
  · (first | exact HS1.out | exact HS.out _ (by repeat (first | exact Below.refl _ _ | refine sbelow_al ?_ _ | refine Below.drew ?_)))
  clear hK K
  try simp only [Act.put, List.setIfInBounds_toArray, List.set_cons_zero, List.set_cons_succ]
  refine wpAnyT_one (i := 7) (by kernel_rfl) rfl ?_
  intro K hK o ho
  cases ho
  refine step_append_lies _ (by rfl) _ _ 78 (by rfl) base 84 i0 (.agg #[.int .i64 0, .int .i64 0, .int .i64 0]) 3 24 sliceLine hi0 hz0 hz1 hz2 (by rfl) (by decide) (.slice Av k cv) k (l.flatMap LineD.cells) (by rfl) (HO.out _ (by repeat (first | exact Below.refl _ _ | refine sbelow_al ?_ _ | refine Below.drew ?_))) _ 1 1 [.int .i64 wh, .int .i64 cop, .int .i64 P] (by rfl) (by rfl) (World.news_of_block (cs := #[.int .i64 wh, .int .i64 cop, .int .i64 P]) (t := 84) (fr := (0, 0)) (by first | exact Blk.new _ _ _ | exact (Blk.new _ _ _).drew_)) (by simp [Value.oneCell']) (by omega) (by simp only [maxLen]; omega) (by omega) (HZ.out _ (by repeat (first | exact Below.refl _ _ | refine sbelow_al ?_ _ | refine Below.drew ?_))) _ rfl ?_
  intro g9 c9 W9 hown9 hgrow9 hat9 hlt9
  have HF := Lib.hid (HAPP.out _ _ _ (by repeat (first | exact Below.refl _ _ | refine sbelow_al ?_ _ | refine Below.drew ?_)) hgrow9 hown9)
  have HS1 : Hid ((W9.cell? ⟨Pb, 0, none⟩ = some (.pointer (some ⟨Ab, 0, none⟩)) ∧ W9.cell? ⟨Ab, 0, none⟩ = some (.slice Av k cv) ∧ W9.cell? ⟨q, 0, none⟩ = some (.int .i64 wh) ∧ W9.cell? ⟨q, 1, none⟩ = some (.int .i64 cop) ∧ W9.cell? ⟨q, 2, none⟩ = some (.int .i64 P))) := HF.out.2
  clear hown9 hgrow9 hat9 hlt9
  refine hK.out _ _ (fun _ => ?_) (fun hHeld => ?_) (fun h => absurd h (by decide))
  · (first | exact HS1.out | exact HS.out _ (by repeat (first | exact Below.refl _ _ | refine sbelow_al ?_ _ | refine Below.drew ?_)))
  clear hK K
  try simp only [Act.put, List.setIfInBounds_toArray, List.set_cons_zero, List.set_cons_succ]
  have f0 := cellOf HF.out.1.out.2.2.2 0 (x := (.slice Av k cv)) rfl
  have f1 := HF.out.1.out.2.2.2.frozen 0
  have HF1 := HF.out.1
  clear HF HS1
  refine wpAnyT_seq (k := 8) (by kernel_rfl) rfl (by kernel_rfl) ?_
  go_wp2_with fail
  refine NoPanic.normal ?_
  clear f0 f1
  obtain ⟨Y, hY⟩ : ∃ Y, W9.setCell ⟨Ab, 0, none⟩ (.slice (some ⟨g9, 0, none⟩) (k + 1) c9) = Y := ⟨_, rfl⟩
  rw [hY] at HF1 ⊢
  have HST2 := Lib.hid HF1.out.1
  have HKY := Lib.hid HF1.out.2.1
  have HLY := Lib.hid HF1.out.2.2.1
  have HS2 : Hid (∀ Z, Below Y.heap.size Y Z → (Z.cell? ⟨Pb, 0, none⟩ = some (.pointer (some ⟨Ab, 0, none⟩)) ∧ Z.cell? ⟨Ab, 1, none⟩ = some (.int .i64 s) ∧ Z.cell? ⟨q, 2, none⟩ = some (.int .i64 P))) := fun Z hZ => by
    have h1 := HST2.out.below hZ
    have h2 := HLY.out.below hZ HLY.out.lt
    exact ⟨cellOf h1.ptr 0 rfl, cellOf h1.acc 1 rfl, cellOf h2 2 rfl⟩
  have HFIN : Hid (∀ (Z : World), Below Y.heap.size Y Z → AdRet base Ab Pb k l s (.slice Av k cv) ⟨wh, cop, P⟩ w (.returned (.tuple #[])) (Z.setCell ⟨Ab, 1, none⟩ (.int .i64 (s + P))) ∧ Z.cell? ⟨Ab, 1, none⟩ = some (.int .i64 s) ∧ Z.frozen? ⟨Ab, 1, none⟩ = false) := fun Z hZ => by
    have h1 := HST2.out.below hZ
    obtain ⟨h2, h3⟩ := h1.sum (t := s + P)
    exact ⟨⟨⟨_, rfl⟩, _, _, h2, (HKY.out.trans (KeptBut.of_below (S := fun _ => False) hZ) fun _ _ h => h.elim).trans h3 fun _ _ h => .inl h⟩, cellOf h1.acc 1 rfl, h1.acc.frozen 1⟩
  have kx : IntKind.i64.wrap (s + P) = s + P := IntWalk.i64_in _ ⟨by omega, by omega⟩
  clear HF1 hY HAPP HO HS HQO
  go_upto_region 2 with fail
  refine wp_region_noPanic ?_
  refine wp_region_T 7 (fun X => (X.cell? ⟨Pb, 0, none⟩ = some (.pointer (some ⟨Ab, 0, none⟩)) ∧ X.cell? ⟨Ab, 1, none⟩ = some (.int .i64 s) ∧ X.cell? ⟨q, 2, none⟩ = some (.int .i64 P))) (by kernel_rfl) (by exact HS2.out _ (by repeat (first | exact Below.refl _ _ | refine sbelow_al ?_ _ | refine Below.drew ?_))) (fun hHeld => ?_)
  refine wpAnyT_take (i := 0) (v := ?v0n7) (by kernel_rfl) (by kernel_rfl) rfl (by kernel_rfl) (by kernel_rfl) (by kernel_rfl) (by decide) (fun _ _ _ h => h) (Or.inl ⟨by rfl, ?y0n7⟩) hHeld ?r0n7
  case y0n7 =>
    intro W hSw
    try dsimp only at hSw
    go_simp
    try with_reducible rfl
  simp only [Act.put, List.setIfInBounds_toArray, List.set_cons_zero, List.set_cons_succ]
  refine wpAnyT_take (i := 1) (v := ?v1n8) (by kernel_rfl) (by kernel_rfl) rfl (by kernel_rfl) (by kernel_rfl) (by kernel_rfl) (by decide) (fun _ _ _ h => h) (Or.inl ⟨by rfl, ?y1n8⟩) hHeld ?r1n8
  case y1n8 =>
    intro W hSw
    try dsimp only at hSw
    go_simp
    try with_reducible rfl
  simp only [Act.put, List.setIfInBounds_toArray, List.set_cons_zero, List.set_cons_succ]
  refine wpAnyT_take (i := 2) (v := ?v2n9) (by kernel_rfl) (by kernel_rfl) rfl (by kernel_rfl) (by kernel_rfl) (by kernel_rfl) (by decide) (fun _ _ _ h => h) (Or.inl ⟨by rfl, ?y2n9⟩) hHeld ?r2n9
  case y2n9 =>
    intro W hSw
    try dsimp only at hSw
    go_simp
    try with_reducible rfl
  simp only [Act.put, List.setIfInBounds_toArray, List.set_cons_zero, List.set_cons_succ]
  refine wpAnyT_take (i := 3) (v := ?v3n10) (by kernel_rfl) (by kernel_rfl) rfl (by kernel_rfl) (by kernel_rfl) (by kernel_rfl) (by decide) (fun _ _ _ h => h) (Or.inl ⟨by rfl, ?y3n10⟩) hHeld ?r3n10
  case y3n10 =>
    intro W hSw
    try dsimp only at hSw
    go_simp
    try with_reducible rfl
  simp only [Act.put, List.setIfInBounds_toArray, List.set_cons_zero, List.set_cons_succ]
  refine wpAnyT_take (i := 4) (v := ?v4n11) (by kernel_rfl) (by kernel_rfl) rfl (by kernel_rfl) (by kernel_rfl) (by kernel_rfl) (by decide) (fun _ _ _ h => h) (Or.inl ⟨by rfl, ?y4n11⟩) hHeld ?r4n11
  case y4n11 =>
    intro W hSw
    try dsimp only at hSw
    go_simp
    try with_reducible rfl
  simp only [Act.put, List.setIfInBounds_toArray, List.set_cons_zero, List.set_cons_succ]
  refine wpAnyT_take (i := 5) (v := ?v5n12) (by kernel_rfl) (by kernel_rfl) rfl (by kernel_rfl) (by kernel_rfl) (by kernel_rfl) (by decide) (fun _ _ _ h => h) (Or.inl ⟨by rfl, ?y5n12⟩) hHeld ?r5n12
  case y5n12 =>
    intro W hSw
    try dsimp only at hSw
    go_simp
    try with_reducible rfl
  simp only [Act.put, List.setIfInBounds_toArray, List.set_cons_zero, List.set_cons_succ]
  refine wpAnyT_take (i := 6) (v := ?v6n13) (by kernel_rfl) (by kernel_rfl) rfl (by kernel_rfl) (by kernel_rfl) (by kernel_rfl) (by decide) (fun _ _ _ h => h) (Or.inl ⟨by rfl, ?y6n13⟩) hHeld ?r6n13
  case y6n13 =>
    intro W hSw
    try dsimp only at hSw
    go_simp
    try with_reducible rfl
  simp only [Act.put, List.setIfInBounds_toArray, List.set_cons_zero, List.set_cons_succ]
  obtain ⟨h1, h2, h3⟩ := HFIN.out Y.drew (by repeat (first | exact Below.refl _ _ | refine sbelow_al ?_ _ | refine Below.drew ?_))
  refine wpAnyT_seq (k := 7) (by kernel_rfl) rfl (by kernel_rfl) ?_
  have HFI := Lib.hid h1
  clear h1
  go_wp2_with fail
  refine NoPanic.normal ?_
  go_wp2_with fail
  exact bodyPost_ret (results_none rfl _ _ _) rfl (by rw [HPP.out]; exact HFI.out)
theorem adder_any (Ab : Nat) (w : World) : Calls Try.prog 140 #[.pointer (some ⟨Ab, 0, none⟩)] w fun e w' => e = .returned (.func (.func 148) #[] #[.pointer (some ⟨w.heap.size, 0, none⟩)]) ∧ w.alloc (.cells #[.pointer (some ⟨Ab, 0, none⟩)] 228) = w' := by
  go_enter Try.func140, Try.ntmps140
  go_wp2
  go_ret
  exact ⟨rfl, rfl⟩
end Go.Proofs.Ytlmpbmlbllndcaa
