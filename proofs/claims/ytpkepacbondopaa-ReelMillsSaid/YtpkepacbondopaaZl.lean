/-
  ReelMills: two rows that grow side by side in a supply; region 8 of the law.
-/
import Derived.Deep.AppendLies
import Derived.Deep.RegionHeld3
import Derived.Test.YtpkepacbondopaaHa
namespace Go.Proofs.Ytpkepacbondopaa
open Go.RowKit
attribute [local go_sem] Oper.semAt_some

theorem below_al {A W : World} (h : Below A.heap.size A W) (o : Obj) : Below A.heap.size A (W.alloc o) := h.alloc h.size o
theorem Blk.drew_ {W : World} {b : Nat} {t : TypeId} {cs : Array Value} (h : Blk W b t cs) : Blk W.drew b t cs := h
/-- A supply in the making: a and b lie in its fields; u and v are rows of one's own, apart from each other. -/
structure MlSt (w : World) (Sb : Nat) (kp rm : Int) (a b u v : Value) (l m : List Int) (Y : World) : Prop where
  low : Below w.heap.size w Y
  at_ : w.heap.size ≤ Sb
  sup : Blk Y Sb 33 #[a, b, .int .i64 kp, .int .i64 rm]
  own1 : Y.ownsRow w.heap.size 3 1 u l.length (l.map (Value.int .i64))
  own2 : Y.ownsRow w.heap.size 3 1 v m.length (m.map (Value.int .i64))
  apart : ∀ g, u.ownBlock = some g → v.ownBlock ≠ some g
section
variable {w Y Z : World} {Sb : Nat} {kp rm : Int} {a b u v : Value} {l m : List Int}
theorem MlSt.below (h : MlSt w Sb kp rm a b u v l m Y) (hb : Below Y.heap.size Y Z) : MlSt w Sb kp rm a b u v l m Z :=
  ⟨h.low.trans (hb.mono h.low.size), h.at_, h.sup.below hb h.sup.lt, ownsRow_below h.own1 hb, ownsRow_below h.own2 hb, h.apart⟩
theorem MlSt.all (h : MlSt w Sb kp rm a b u v l m Y) : Hid (∀ Z, Below Y.heap.size Y Z → MlSt w Sb kp rm a b u v l m Z) := fun _ hZ => h.below hZ
theorem rows_left {x : Int} {g k c : Nat} (h1 : Y.ownsRow w.heap.size 3 1 u l.length (l.map (Value.int .i64))) (h2 : Y.ownsRow w.heap.size 3 1 v m.length (m.map (Value.int .i64))) (h3 : ∀ g, u.ownBlock = some g → v.ownBlock ≠ some g) (hk : l.length = k)
    (ho : Z.ownsRow w.heap.size 3 1 (.slice (some ⟨g, 0, none⟩) (k + 1) c) (k + 1) (l.map (Value.int .i64) ++ [.int .i64 x])) (hg : Y.grownBy Z u.ownBlock) (hat : u.ownBlock = some g ∨ g = Y.heap.size) :
    Z.ownsRow w.heap.size 3 1 (.slice (some ⟨g, 0, none⟩) (k + 1) c) (l ++ [x]).length ((l ++ [x]).map (Value.int .i64)) ∧ Z.ownsRow w.heap.size 3 1 v m.length (m.map (Value.int .i64)) ∧ ∀ q, (Value.slice (some ⟨g, 0, none⟩) (k + 1) c).ownBlock = some q → v.ownBlock ≠ some q := by
  subst hk
  refine ⟨?_, ?_, fun q hq hv => ?_⟩
  · rw [List.length_append, List.map_append]
    exact ho
  · have hK : KeptBut (fun j => some j = u.ownBlock) Y Z := KeptBut.grown (S := fun j => some j = u.ownBlock) hg fun _ hj => hj
    exact ownsRow_keptBut h2 hK fun g' cs hg' hB hs => h3 g' hs.symm hg'
  · have hq' : g = q := by simpa [Value.ownBlock] using hq
    subst hq'
    rcases hat with hat | hat
    · exact h3 g hat hv
    · have := (h2.lt g hv).2
      omega
theorem sup_grown {q : Value} {n : Nat} {xs : List Value} {cs : Array Value} (hB : Blk Y Sb 33 cs) (hq : Y.ownsRow w.heap.size 3 1 q n xs) (hg : Y.grownBy Z q.ownBlock) : Blk Z Sb 33 cs :=
  (KeptBut.grown (S := fun j => some j = q.ownBlock) hg fun _ hj => hj).blk hB fun e => by
    obtain ⟨-, cs', hB'⟩ := ownsRow_own hq e.symm
    exact Blk.ne hB' hB (by decide) rfl
theorem tmp_all {W W9 : World} (h : MlSt w Sb kp rm a b u v l m Y) (hg : W.grownBy W9 u.ownBlock) : Hid (∀ (q : Nat) (cs : Array Value), Blk W q 3 cs → Y.heap.size ≤ q → Blk W9 q 3 cs) := fun q cs hb hq =>
  (hg.block q hb.lt fun e => by have := (h.own1.lt q e.symm).2; omega).trans hb
theorem MlSt.app1 {x : Int} {g c k : Nat} (h : MlSt w Sb kp rm a b u v l m Y) (hk : l.length = k) (ho : Z.ownsRow w.heap.size 3 1 (.slice (some ⟨g, 0, none⟩) (k + 1) c) (k + 1) (l.map (Value.int .i64) ++ [.int .i64 x])) (hg : Y.grownBy Z u.ownBlock) (hat : u.ownBlock = some g ∨ g = Y.heap.size) :
    MlSt w Sb kp rm a b (.slice (some ⟨g, 0, none⟩) (k + 1) c) v (l ++ [x]) m Z := by
  obtain ⟨h1, h2, h3⟩ := rows_left h.own1 h.own2 h.apart hk ho hg hat
  exact ⟨h.low.grown hg h.low.size fun j hj => (h.own1.lt j hj).1, h.at_, sup_grown h.sup h.own1 hg, h1, h2, h3⟩
theorem MlSt.app2 {x : Int} {g c k : Nat} (h : MlSt w Sb kp rm a b u v l m Y) (hk : m.length = k) (ho : Z.ownsRow w.heap.size 3 1 (.slice (some ⟨g, 0, none⟩) (k + 1) c) (k + 1) (m.map (Value.int .i64) ++ [.int .i64 x])) (hg : Y.grownBy Z v.ownBlock) (hat : v.ownBlock = some g ∨ g = Y.heap.size) :
    MlSt w Sb kp rm a b u (.slice (some ⟨g, 0, none⟩) (k + 1) c) l (m ++ [x]) Z := by
  obtain ⟨h1, h2, h3⟩ := rows_left h.own2 h.own1 (fun g hv hu => h.apart g hu hv) hk ho hg hat
  exact ⟨h.low.grown hg h.low.size fun j hj => (h.own2.lt j hj).1, h.at_, sup_grown h.sup h.own2 hg, h2, h1, fun g hu hv => h3 g hv hu⟩
theorem MlSt.row1 {k : Nat} (h : MlSt w Sb kp rm a b u v l m Y) (hk : l.length = k) : Y.ownsRow w.heap.size 3 1 u k (l.map (Value.int .i64)) := hk ▸ h.own1
theorem MlSt.row2 {k : Nat} (h : MlSt w Sb kp rm a b u v l m Y) (hk : m.length = k) : Y.ownsRow w.heap.size 3 1 v k (m.map (Value.int .i64)) := hk ▸ h.own2
theorem MlSt.put (h : MlSt w Sb kp rm a b u v l m Y) : MlSt w Sb kp rm u v u v l m ((Y.setCell ⟨Sb, 0, none⟩ u).setCell ⟨Sb, 1, none⟩ v) := by
  have hK : KeptBut (fun j => j = Sb) Y ((Y.setCell ⟨Sb, 0, none⟩ u).setCell ⟨Sb, 1, none⟩ v) := (KeptBut.setCell (S := fun j => j = Sb) rfl u).trans (KeptBut.setCell (S := fun j => j = Sb) rfl v) fun _ _ h => h
  have hs := h.sup
  refine ⟨h.low.trans (hK.below (fun k hk => by rw [hk]; exact h.at_) h.low.size), h.at_, (hs.put 0 u).put 1 v, ownsRow_keptBut h.own1 hK fun g cs _ hB e => ?_, ownsRow_keptBut h.own2 hK fun g cs _ hB e => ?_, h.apart⟩
  · subst e; exact Blk.ne hB hs (by decide) rfl
  · subst e; exact Blk.ne hB hs (by decide) rfl
end
noncomputable def mlRegion (k : Nat) : Code := (Try.f11.body.bind (regionAt k)).getD .skip
set_option maxRecDepth 1000000 in
set_option maxHeartbeats 4000000 in
theorem mills_r8 (u2 u3 u4 u5 u6 u7 u8 u9 u10 u11 u12 u13 u14 u15 u18 u19 u20 u21 u22 u23 u24 u25 u26 u27 u28 u29 u30 u31 u32 u33 u34 u35 u36 u37 u38 u39 u40 u41 u42 u43 u44 u45 u46 u47 u48 u49 u50 u51 u52 u53 u54 u55 u56 u57 u58 u59 u60 u61 u62 u63 u64 u65 u66 u67 u68 u69 u70 u71 u72 u73 u74 u75 u76 u77 u78 u79 u80 u81 u82 u83 u84 u85 u86 u87 u88 u89 u90 u91 u92 u93 u94 u95 u96 u97 u98 u99 u100 u101 u102 u103 u104 u105 u106 u107 u108 u109 u110 u111 u112 u113 u114 u115 u116 u117 u118 u119 u120 u121 u122 u123 u124 u125 u126 u127 u128 u129 u130 u131 u132 u133 u134 u135 u136 u137 u138 u139 u140 u141 u142 u143 u144 u145 u146 u147 u148 u149 u150 u151 u152 u153 u154 u155 u156 u157 u158 u159 u160 u161 u162 u163 u164 u165 u166 u167 u168 u169 u170 u171 u172 u173 u174 u175 u176 u177 u178 u179 u180 u181 u182 u183 u184 u185 u186 u187 u188 u189 u190 u191 u192 u193 u194 u195 u196 u197 u198 u199 u200 u201 u202 u203 u204 u205 u206 u207 u208 u209 u210 u211 u212 u213 u214 u215 u216 : Value) {gn on mn cn go oo mo co k Sb cu cv : Nat} {Au Av : Option Addr} {kp rm xn xo : Int} {l m : List Int} {w X : World} {Q : Exit → Act → World → Prop}
    (hkn : k < mn) (hko : k < mo) (hk : k ≤ 12) (hll : l.length = k) (hml : m.length = k) (hn : 0 ≤ xn ∧ xn ≤ 255) (ho : 0 ≤ xo ∧ xo ≤ 255) (hgn : gn < w.heap.size) (hgo : go < w.heap.size)
    (cN : w.cell? ⟨gn, on + k, none⟩ = some (.int .u8 xn)) (cO : w.cell? ⟨go, oo + k, none⟩ = some (.int .u8 xo))
    (hst : Hid (MlSt w Sb kp rm (.slice Au k cu) (.slice Av k cv) (.slice Au k cu) (.slice Av k cv) l m X))
    (hQ : Hid (∀ (x50 x51 x52 x53 x54 x55 x56 x57 x58 x59 x60 x61 x62 x63 x64 x65 x66 x67 x68 x69 x70 : Value) (g h c d : Nat) (Y : World), Hid (MlSt w Sb kp rm (.slice (some ⟨g, 0, none⟩) (k + 1) c) (.slice (some ⟨h, 0, none⟩) (k + 1) d) (.slice (some ⟨g, 0, none⟩) (k + 1) c) (.slice (some ⟨h, 0, none⟩) (k + 1) d) (l ++ [xn.tmod 60]) (m ++ [xo]) Y) → Q .normal ⟨List.toArray ((.slice (some ⟨gn, on, none⟩) mn cn) :: (.slice (some ⟨go, oo, none⟩) mo co) :: u2 :: u3 :: u4 :: u5 :: u6 :: u7 :: u8 :: u9 :: u10 :: u11 :: u12 :: u13 :: u14 :: u15 :: (.pointer (some ⟨Sb, 0, none⟩)) :: (.int .i64 (k : Int)) :: u18 :: u19 :: u20 :: u21 :: u22 :: u23 :: u24 :: u25 :: u26 :: u27 :: u28 :: u29 :: u30 :: u31 :: u32 :: u33 :: u34 :: u35 :: u36 :: u37 :: u38 :: u39 :: u40 :: u41 :: u42 :: u43 :: u44 :: u45 :: u46 :: u47 :: u48 :: u49 :: x50 :: x51 :: x52 :: x53 :: x54 :: x55 :: x56 :: x57 :: x58 :: x59 :: x60 :: x61 :: x62 :: x63 :: x64 :: x65 :: x66 :: x67 :: x68 :: x69 :: x70 :: u71 :: u72 :: u73 :: u74 :: u75 :: u76 :: u77 :: u78 :: u79 :: u80 :: u81 :: u82 :: u83 :: u84 :: u85 :: u86 :: u87 :: u88 :: u89 :: u90 :: u91 :: u92 :: u93 :: u94 :: u95 :: u96 :: u97 :: u98 :: u99 :: u100 :: u101 :: u102 :: u103 :: u104 :: u105 :: u106 :: u107 :: u108 :: u109 :: u110 :: u111 :: u112 :: u113 :: u114 :: u115 :: u116 :: u117 :: u118 :: u119 :: u120 :: u121 :: u122 :: u123 :: u124 :: u125 :: u126 :: u127 :: u128 :: u129 :: u130 :: u131 :: u132 :: u133 :: u134 :: u135 :: u136 :: u137 :: u138 :: u139 :: u140 :: u141 :: u142 :: u143 :: u144 :: u145 :: u146 :: u147 :: u148 :: u149 :: u150 :: u151 :: u152 :: u153 :: u154 :: u155 :: u156 :: u157 :: u158 :: u159 :: u160 :: u161 :: u162 :: u163 :: u164 :: u165 :: u166 :: u167 :: u168 :: u169 :: u170 :: u171 :: u172 :: u173 :: u174 :: u175 :: u176 :: u177 :: u178 :: u179 :: u180 :: u181 :: u182 :: u183 :: u184 :: u185 :: u186 :: u187 :: u188 :: u189 :: u190 :: u191 :: u192 :: u193 :: u194 :: u195 :: u196 :: u197 :: u198 :: u199 :: u200 :: u201 :: u202 :: u203 :: u204 :: u205 :: u206 :: u207 :: u208 :: u209 :: u210 :: u211 :: u212 :: u213 :: u214 :: u215 :: u216 :: []), []⟩ Y)) :
    Code.wp Try.prog (mlRegion 8) Q ⟨List.toArray ((.slice (some ⟨gn, on, none⟩) mn cn) :: (.slice (some ⟨go, oo, none⟩) mo co) :: u2 :: u3 :: u4 :: u5 :: u6 :: u7 :: u8 :: u9 :: u10 :: u11 :: u12 :: u13 :: u14 :: u15 :: (.pointer (some ⟨Sb, 0, none⟩)) :: (.int .i64 (k : Int)) :: u18 :: u19 :: u20 :: u21 :: u22 :: u23 :: u24 :: u25 :: u26 :: u27 :: u28 :: u29 :: u30 :: u31 :: u32 :: u33 :: u34 :: u35 :: u36 :: u37 :: u38 :: u39 :: u40 :: u41 :: u42 :: u43 :: u44 :: u45 :: u46 :: u47 :: u48 :: u49 :: u50 :: u51 :: u52 :: u53 :: u54 :: u55 :: u56 :: u57 :: u58 :: u59 :: u60 :: u61 :: u62 :: u63 :: u64 :: u65 :: u66 :: u67 :: u68 :: u69 :: u70 :: u71 :: u72 :: u73 :: u74 :: u75 :: u76 :: u77 :: u78 :: u79 :: u80 :: u81 :: u82 :: u83 :: u84 :: u85 :: u86 :: u87 :: u88 :: u89 :: u90 :: u91 :: u92 :: u93 :: u94 :: u95 :: u96 :: u97 :: u98 :: u99 :: u100 :: u101 :: u102 :: u103 :: u104 :: u105 :: u106 :: u107 :: u108 :: u109 :: u110 :: u111 :: u112 :: u113 :: u114 :: u115 :: u116 :: u117 :: u118 :: u119 :: u120 :: u121 :: u122 :: u123 :: u124 :: u125 :: u126 :: u127 :: u128 :: u129 :: u130 :: u131 :: u132 :: u133 :: u134 :: u135 :: u136 :: u137 :: u138 :: u139 :: u140 :: u141 :: u142 :: u143 :: u144 :: u145 :: u146 :: u147 :: u148 :: u149 :: u150 :: u151 :: u152 :: u153 :: u154 :: u155 :: u156 :: u157 :: u158 :: u159 :: u160 :: u161 :: u162 :: u163 :: u164 :: u165 :: u166 :: u167 :: u168 :: u169 :: u170 :: u171 :: u172 :: u173 :: u174 :: u175 :: u176 :: u177 :: u178 :: u179 :: u180 :: u181 :: u182 :: u183 :: u184 :: u185 :: u186 :: u187 :: u188 :: u189 :: u190 :: u191 :: u192 :: u193 :: u194 :: u195 :: u196 :: u197 :: u198 :: u199 :: u200 :: u201 :: u202 :: u203 :: u204 :: u205 :: u206 :: u207 :: u208 :: u209 :: u210 :: u211 :: u212 :: u213 :: u214 :: u215 :: u216 :: []), []⟩ X := by
  obtain ⟨i0, hi0, hz0, hz1, hz2⟩ := info_parts infoInt0
  have HM : Hid (∀ Z, Below X.heap.size X Z → MlSt w Sb kp rm (.slice Au k cu) (.slice Av k cv) (.slice Au k cu) (.slice Av k cv) l m Z) := fun Z hZ => hst.out.below hZ
  have HSF : Hid (∀ (Z : World) (u v : Value) (l' m' : List Int), MlSt w Sb kp rm (.slice Au k cu) (.slice Av k cv) u v l' m' Z → (Z.cell? ⟨Sb, 0, none⟩ = some (.slice Au k cu) ∧ Z.cell? ⟨Sb, 1, none⟩ = some (.slice Av k cv) ∧ Z.cell? ⟨gn, on + k, none⟩ = some (.int .u8 xn) ∧ Z.cell? ⟨go, oo + k, none⟩ = some (.int .u8 xo))) := fun Z u v l' m' h =>
    ⟨cellOf h.sup 0 rfl, cellOf h.sup 1 rfl, (h.low.cell (p := ⟨gn, on + k, none⟩) hgn).trans cN, (h.low.cell (p := ⟨go, oo + k, none⟩) hgo).trans cO⟩
  have HSG : Hid (∀ (Y : World) (u v : Value) (l' m' : List Int), Hid (∀ Z, Below Y.heap.size Y Z → MlSt w Sb kp rm (.slice Au k cu) (.slice Av k cv) u v l' m' Z) → Hid (∀ Z, Below Y.heap.size Y Z → (Z.cell? ⟨Sb, 0, none⟩ = some (.slice Au k cu) ∧ Z.cell? ⟨Sb, 1, none⟩ = some (.slice Av k cv) ∧ Z.cell? ⟨gn, on + k, none⟩ = some (.int .u8 xn) ∧ Z.cell? ⟨go, oo + k, none⟩ = some (.int .u8 xo)))) := fun Y u v l' m' h Z hZ => HSF.out Z _ _ _ _ (h.out Z hZ)
  have HS : Hid (∀ Z, Below X.heap.size X Z → (Z.cell? ⟨Sb, 0, none⟩ = some (.slice Au k cu) ∧ Z.cell? ⟨Sb, 1, none⟩ = some (.slice Av k cv) ∧ Z.cell? ⟨gn, on + k, none⟩ = some (.int .u8 xn) ∧ Z.cell? ⟨go, oo + k, none⟩ = some (.int .u8 xo))) := fun Z hZ => HSF.out Z _ _ _ _ (HM.out Z hZ)
  have kx : IntKind.i64.wrap xn = xn := IntWalk.i64_in _ ⟨by omega, by omega⟩
  have ko : IntKind.i64.wrap xo = xo := IntWalk.i64_in _ ⟨by omega, by omega⟩
  have kr : IntKind.i64.wrap (xn.tmod 60) = xn.tmod 60 := by rw [Int.tmod_eq_emod_of_nonneg hn.1]; exact IntWalk.i64_in _ ⟨by omega, by omega⟩
  have b0 : (0 : Int) ≤ (k : Int) := by omega
  have b1 : (k : Int) < (mn : Int) := by omega
  have b2 : (k : Int) < (mo : Int) := by omega
  have HLL := Lib.hid hll
  have HML := Lib.hid hml
  have HQ := hQ
  clear hkn hko hn ho cN cO hst hll hml hQ
  conv => arg 2; whnf
  refine wp_region_noPanic ?_
  refine wp_region_T 20 (fun X => (X.cell? ⟨Sb, 0, none⟩ = some (.slice Au k cu) ∧ X.cell? ⟨Sb, 1, none⟩ = some (.slice Av k cv) ∧ X.cell? ⟨gn, on + k, none⟩ = some (.int .u8 xn) ∧ X.cell? ⟨go, oo + k, none⟩ = some (.int .u8 xo))) (by kernel_rfl) (by exact HS.out _ (by repeat (first | exact Below.refl _ _ | refine below_al ?_ _ | refine Below.drew ?_))) (fun hHeld => ?_)
  refine wpAnyT_take (i := 0) (v := ?v0n4) (by kernel_rfl) (by kernel_rfl) rfl (by kernel_rfl) (by kernel_rfl) (by kernel_rfl) (by decide) (fun _ _ _ h => h) (Or.inl ⟨by rfl, ?y0n4⟩) hHeld ?r0n4
  case y0n4 =>
    intro W hSw
    try dsimp only at hSw
    go_simp
    try with_reducible rfl
  simp only [Act.put, List.setIfInBounds_toArray, List.set_cons_zero, List.set_cons_succ]
  refine wpAnyT_take (i := 1) (v := ?v1n5) (by kernel_rfl) (by kernel_rfl) rfl (by kernel_rfl) (by kernel_rfl) (by kernel_rfl) (by decide) (fun _ _ _ h => h) (Or.inl ⟨by rfl, ?y1n5⟩) hHeld ?r1n5
  case y1n5 =>
    intro W hSw
    try dsimp only at hSw
    go_simp
    try with_reducible rfl
  simp only [Act.put, List.setIfInBounds_toArray, List.set_cons_zero, List.set_cons_succ]
  refine wpAnyT_take (i := 2) (v := ?v2n6) (by kernel_rfl) (by kernel_rfl) rfl (by kernel_rfl) (by kernel_rfl) (by kernel_rfl) (by decide) (fun _ _ _ h => h) (Or.inl ⟨by rfl, ?y2n6⟩) hHeld ?r2n6
  case y2n6 =>
    intro W hSw
    try dsimp only at hSw
    go_simp
    try with_reducible rfl
  simp only [Act.put, List.setIfInBounds_toArray, List.set_cons_zero, List.set_cons_succ]
  refine wpAnyT_take (i := 3) (v := ?v3n7) (by kernel_rfl) (by kernel_rfl) rfl (by kernel_rfl) (by kernel_rfl) (by kernel_rfl) (by decide) (fun _ _ _ h => h) (Or.inl ⟨by rfl, ?y3n7⟩) hHeld ?r3n7
  case y3n7 =>
    intro W hSw
    try dsimp only at hSw
    go_simp
    try with_reducible rfl
  simp only [Act.put, List.setIfInBounds_toArray, List.set_cons_zero, List.set_cons_succ]
  refine wpAnyT_take (i := 4) (v := ?v4n8) (by kernel_rfl) (by kernel_rfl) rfl (by kernel_rfl) (by kernel_rfl) (by kernel_rfl) (by decide) (fun _ _ _ h => h) (Or.inl ⟨by rfl, ?y4n8⟩) hHeld ?r4n8
  case y4n8 =>
    intro W hSw
    try dsimp only at hSw
    go_simp
    try with_reducible rfl
  simp only [Act.put, List.setIfInBounds_toArray, List.set_cons_zero, List.set_cons_succ]
  refine wpAnyT_take (i := 5) (v := ?v5n9) (by kernel_rfl) (by kernel_rfl) rfl (by kernel_rfl) (by kernel_rfl) (by kernel_rfl) (by decide) (fun _ _ _ h => h) (Or.inl ⟨by rfl, ?y5n9⟩) hHeld ?r5n9
  case y5n9 =>
    intro W hSw
    try dsimp only at hSw
    go_simp
    try with_reducible rfl
  simp only [Act.put, List.setIfInBounds_toArray, List.set_cons_zero, List.set_cons_succ]
  refine wpAnyT_take (i := 6) (v := ?v6n10) (by kernel_rfl) (by kernel_rfl) rfl (by kernel_rfl) (by kernel_rfl) (by kernel_rfl) (by decide) (fun _ _ _ h => h) (Or.inl ⟨by rfl, ?y6n10⟩) hHeld ?r6n10
  case y6n10 =>
    intro W hSw
    try dsimp only at hSw
    go_simp
    try with_reducible rfl
  simp only [Act.put, List.setIfInBounds_toArray, List.set_cons_zero, List.set_cons_succ]
  refine wpAnyT_take (i := 7) (v := ?v7n11) (by kernel_rfl) (by kernel_rfl) rfl (by kernel_rfl) (by kernel_rfl) (by kernel_rfl) (by decide) (fun _ _ _ h => h) (Or.inl ⟨by rfl, ?y7n11⟩) hHeld ?r7n11
  case y7n11 =>
    intro W hSw
    try dsimp only at hSw
    go_simp
    try with_reducible rfl
  simp only [Act.put, List.setIfInBounds_toArray, List.set_cons_zero, List.set_cons_succ]
  refine wpAnyT_take (i := 10) (v := ?v10n12) (by kernel_rfl) (by kernel_rfl) rfl (by kernel_rfl) (by kernel_rfl) (by kernel_rfl) (by decide) (fun _ _ _ h => h) (Or.inl ⟨by rfl, ?y10n12⟩) hHeld ?r10n12
  case y10n12 =>
    intro W hSw
    try dsimp only at hSw
    go_simp
    try with_reducible rfl
  simp only [Act.put, List.setIfInBounds_toArray, List.set_cons_zero, List.set_cons_succ]
  refine wpAnyT_take (i := 11) (v := ?v11n13) (by kernel_rfl) (by kernel_rfl) rfl (by kernel_rfl) (by kernel_rfl) (by kernel_rfl) (by decide) (fun _ _ _ h => h) (Or.inl ⟨by rfl, ?y11n13⟩) hHeld ?r11n13
  case y11n13 =>
    intro W hSw
    try dsimp only at hSw
    go_simp
    try with_reducible rfl
  simp only [Act.put, List.setIfInBounds_toArray, List.set_cons_zero, List.set_cons_succ]
  refine wpAnyT_take (i := 12) (v := ?v12n14) (by kernel_rfl) (by kernel_rfl) rfl (by kernel_rfl) (by kernel_rfl) (by kernel_rfl) (by decide) (fun _ _ _ h => h) (Or.inl ⟨by rfl, ?y12n14⟩) hHeld ?r12n14
  case y12n14 =>
    intro W hSw
    try dsimp only at hSw
    go_simp
    try with_reducible rfl
  simp only [Act.put, List.setIfInBounds_toArray, List.set_cons_zero, List.set_cons_succ]
  refine wpAnyT_take (i := 13) (v := ?v13n15) (by kernel_rfl) (by kernel_rfl) rfl (by kernel_rfl) (by kernel_rfl) (by kernel_rfl) (by decide) (fun _ _ _ h => h) (Or.inl ⟨by rfl, ?y13n15⟩) hHeld ?r13n15
  case y13n15 =>
    intro W hSw
    try dsimp only at hSw
    go_simp
    try with_reducible rfl
  simp only [Act.put, List.setIfInBounds_toArray, List.set_cons_zero, List.set_cons_succ]
  refine wpAnyT_take (i := 14) (v := ?v14n16) (by kernel_rfl) (by kernel_rfl) rfl (by kernel_rfl) (by kernel_rfl) (by kernel_rfl) (by decide) (fun _ _ _ h => h) (Or.inl ⟨by rfl, ?y14n16⟩) hHeld ?r14n16
  case y14n16 =>
    intro W hSw
    try dsimp only at hSw
    go_simp
    try with_reducible rfl
  simp only [Act.put, List.setIfInBounds_toArray, List.set_cons_zero, List.set_cons_succ]
  refine wpAnyT_take (i := 15) (v := ?v15n17) (by kernel_rfl) (by kernel_rfl) rfl (by kernel_rfl) (by kernel_rfl) (by kernel_rfl) (by decide) (fun _ _ _ h => h) (Or.inl ⟨by rfl, ?y15n17⟩) hHeld ?r15n17
  case y15n17 =>
    intro W hSw
    try dsimp only at hSw
    go_simp
    try with_reducible rfl
  simp only [Act.put, List.setIfInBounds_toArray, List.set_cons_zero, List.set_cons_succ]
  refine wpAnyT_take (i := 16) (v := ?v16n18) (by kernel_rfl) (by kernel_rfl) rfl (by kernel_rfl) (by kernel_rfl) (by kernel_rfl) (by decide) (fun _ _ _ h => h) (Or.inl ⟨by rfl, ?y16n18⟩) hHeld ?r16n18
  case y16n18 =>
    intro W hSw
    try dsimp only at hSw
    go_simp
    try with_reducible rfl
  simp only [Act.put, List.setIfInBounds_toArray, List.set_cons_zero, List.set_cons_succ]
  clear kx ko kr b0 b1 b2
  refine wpAnyT_two (i := 8) (j := 17) (by kernel_rfl) rfl rfl ?_ ?_
  · intro K hK o ho
    cases ho
    go_simp
    refine hK.out _ _ (fun _ => ?_) (fun hHeld => ?_) (fun h => absurd h (by decide))
    · (first | exact HS1.out _ (by repeat (first | exact Below.refl _ _ | refine below_al ?_ _ | refine Below.drew ?_)) | exact HS.out _ (by repeat (first | exact Below.refl _ _ | refine below_al ?_ _ | refine Below.drew ?_)))
    clear hK K
    try simp only [Act.put, List.setIfInBounds_toArray, List.set_cons_zero, List.set_cons_succ]
    refine wpAnyT_two (i := 9) (j := 17) (by kernel_rfl) rfl rfl ?_ ?_
    · intro K hK o ho
      cases ho
      (refine step_append_lies _ (by rfl) _ _ 30 (by rfl) w.heap.size 3 i0 (.int .i64 0) 1 8 sliceInts hi0 hz0 hz1 hz2 (by rfl) (by decide) (.slice Au k cu) k (l.map (Value.int .i64)) (by rfl) ((HM.out _ (by repeat (first | exact Below.refl _ _ | refine below_al ?_ _ | refine Below.drew ?_))).row1 HLL.out) _ 1 1 [.int .i64 (xn.tmod 60)] (by rfl) (by rfl) (World.news_of_block (cs := #[.int .i64 (xn.tmod 60)]) (t := 3) (fr := (0, 0)) (by first | exact Blk.new _ _ _ | exact (Blk.new _ _ _).drew_ | exact (Blk.new _ _ _).alloc _ | exact ((Blk.new _ _ _).alloc _).drew_ | exact blk_new (by simp) _ _ | exact (blk_new (by simp) _ _).drew_ | exact HT9.out _ _ ((Blk.new _ _ _).alloc _).drew_ (by simp) | exact HT9.out _ _ (blk_new (by simp) _ _).drew_ (by simp) | exact HT9.out _ _ ((blk_new (by simp) _ _).alloc _).drew_ (by simp))) (by simp [Value.oneCell']) (by omega) (by simp only [maxLen]; omega) (by omega) ((HM.out _ (by repeat (first | exact Below.refl _ _ | refine below_al ?_ _ | refine Below.drew ?_))).low.size) _ rfl ?_; intro g9 c9 W9 hown9 hgrow9 hat9 hlt9; have HM1 := MlSt.all ((HM.out _ (by repeat (first | exact Below.refl _ _ | refine below_al ?_ _ | refine Below.drew ?_))).app1 HLL.out hown9 hgrow9 hat9); have HS1 := HSG.out _ _ _ _ _ HM1; have HT9 := tmp_all (HM.out _ (Below.refl _ _)) hgrow9; clear hown9 hgrow9 hat9 hlt9)
      refine hK.out _ _ (fun _ => ?_) (fun hHeld => ?_) (fun h => absurd h (by decide))
      · (first | exact HS1.out _ (by repeat (first | exact Below.refl _ _ | refine below_al ?_ _ | refine Below.drew ?_)) | exact HS.out _ (by repeat (first | exact Below.refl _ _ | refine below_al ?_ _ | refine Below.drew ?_)))
      clear hK K
      try simp only [Act.put, List.setIfInBounds_toArray, List.set_cons_zero, List.set_cons_succ]
      refine wpAnyT_take (i := 19) (v := ?v19n1) (by kernel_rfl) (by kernel_rfl) rfl (by kernel_rfl) (by kernel_rfl) (by kernel_rfl) (by decide) (fun _ _ _ h => h) (Or.inl ⟨by rfl, ?y19n1⟩) hHeld ?r19n1
      case y19n1 =>
        intro W hSw
        try dsimp only at hSw
        go_simp
        try with_reducible rfl
      simp only [Act.put, List.setIfInBounds_toArray, List.set_cons_zero, List.set_cons_succ]
      refine wpAnyT_one (i := 17) (by kernel_rfl) rfl ?_
      intro K hK o ho
      cases ho
      go_simp
      refine hK.out _ _ (fun _ => ?_) (fun hHeld => ?_) (fun h => absurd h (by decide))
      · (first | exact HS1.out _ (by repeat (first | exact Below.refl _ _ | refine below_al ?_ _ | refine Below.drew ?_)) | exact HS.out _ (by repeat (first | exact Below.refl _ _ | refine below_al ?_ _ | refine Below.drew ?_)))
      clear hK K
      try simp only [Act.put, List.setIfInBounds_toArray, List.set_cons_zero, List.set_cons_succ]
      refine wpAnyT_one (i := 18) (by kernel_rfl) rfl ?_
      intro K hK o ho
      cases ho
      (refine step_append_lies _ (by rfl) _ _ 30 (by rfl) w.heap.size 3 i0 (.int .i64 0) 1 8 sliceInts hi0 hz0 hz1 hz2 (by rfl) (by decide) (.slice Av k cv) k (m.map (Value.int .i64)) (by rfl) ((HM1.out _ (by repeat (first | exact Below.refl _ _ | refine below_al ?_ _ | refine Below.drew ?_))).row2 HML.out) _ 1 1 [.int .i64 xo] (by rfl) (by rfl) (World.news_of_block (cs := #[.int .i64 xo]) (t := 3) (fr := (0, 0)) (by first | exact Blk.new _ _ _ | exact (Blk.new _ _ _).drew_ | exact (Blk.new _ _ _).alloc _ | exact ((Blk.new _ _ _).alloc _).drew_ | exact blk_new (by simp) _ _ | exact (blk_new (by simp) _ _).drew_ | exact HT9.out _ _ ((Blk.new _ _ _).alloc _).drew_ (by simp) | exact HT9.out _ _ (blk_new (by simp) _ _).drew_ (by simp) | exact HT9.out _ _ ((blk_new (by simp) _ _).alloc _).drew_ (by simp))) (by simp [Value.oneCell']) (by omega) (by simp only [maxLen]; omega) (by omega) ((HM1.out _ (by repeat (first | exact Below.refl _ _ | refine below_al ?_ _ | refine Below.drew ?_))).low.size) _ rfl ?_; intro g9 c9 W9 hown9 hgrow9 hat9 hlt9; have HM1 := MlSt.all ((HM1.out _ (by repeat (first | exact Below.refl _ _ | refine below_al ?_ _ | refine Below.drew ?_))).app2 HML.out hown9 hgrow9 hat9); have HS1 := HSG.out _ _ _ _ _ HM1; clear hown9 hgrow9 hat9 hlt9)
      refine hK.out _ _ (fun _ => ?_) (fun hHeld => ?_) (fun h => absurd h (by decide))
      · (first | exact HS1.out _ (by repeat (first | exact Below.refl _ _ | refine below_al ?_ _ | refine Below.drew ?_)) | exact HS.out _ (by repeat (first | exact Below.refl _ _ | refine below_al ?_ _ | refine Below.drew ?_)))
      clear hK K
      try simp only [Act.put, List.setIfInBounds_toArray, List.set_cons_zero, List.set_cons_succ]
      have HF := HM1.out _ (Below.refl _ _)
      have f0 := cellOf HF.sup 0 (x := (.slice Au k cu)) rfl
      have f1 := cellOf HF.sup 1 (x := (.slice Av k cv)) rfl
      have f2 := HF.sup.frozen 0
      have f3 := HF.sup.frozen 1
      have HFP := Lib.hid HF.put
      clear HF
      refine wpAnyT_seq (k := 20) (by kernel_rfl) rfl (by kernel_rfl) ?_
      go_wp2_with fail
      refine NoPanic.normal ?_
      exact HQ.out _ _ _ _ _ _ _ _ _ _ _ _ _ _ _ _ _ _ _ _ _ _ _ _ _ _ HFP
    · intro K hK o ho
      cases ho
      go_simp
      refine hK.out _ _ (fun _ => ?_) (fun hHeld => ?_) (fun h => absurd h (by decide))
      · (first | exact HS1.out _ (by repeat (first | exact Below.refl _ _ | refine below_al ?_ _ | refine Below.drew ?_)) | exact HS.out _ (by repeat (first | exact Below.refl _ _ | refine below_al ?_ _ | refine Below.drew ?_)))
      clear hK K
      try simp only [Act.put, List.setIfInBounds_toArray, List.set_cons_zero, List.set_cons_succ]
      refine wpAnyT_one (i := 9) (by kernel_rfl) rfl ?_
      intro K hK o ho
      cases ho
      (refine step_append_lies _ (by rfl) _ _ 30 (by rfl) w.heap.size 3 i0 (.int .i64 0) 1 8 sliceInts hi0 hz0 hz1 hz2 (by rfl) (by decide) (.slice Au k cu) k (l.map (Value.int .i64)) (by rfl) ((HM.out _ (by repeat (first | exact Below.refl _ _ | refine below_al ?_ _ | refine Below.drew ?_))).row1 HLL.out) _ 1 1 [.int .i64 (xn.tmod 60)] (by rfl) (by rfl) (World.news_of_block (cs := #[.int .i64 (xn.tmod 60)]) (t := 3) (fr := (0, 0)) (by first | exact Blk.new _ _ _ | exact (Blk.new _ _ _).drew_ | exact (Blk.new _ _ _).alloc _ | exact ((Blk.new _ _ _).alloc _).drew_ | exact blk_new (by simp) _ _ | exact (blk_new (by simp) _ _).drew_ | exact HT9.out _ _ ((Blk.new _ _ _).alloc _).drew_ (by simp) | exact HT9.out _ _ (blk_new (by simp) _ _).drew_ (by simp) | exact HT9.out _ _ ((blk_new (by simp) _ _).alloc _).drew_ (by simp))) (by simp [Value.oneCell']) (by omega) (by simp only [maxLen]; omega) (by omega) ((HM.out _ (by repeat (first | exact Below.refl _ _ | refine below_al ?_ _ | refine Below.drew ?_))).low.size) _ rfl ?_; intro g9 c9 W9 hown9 hgrow9 hat9 hlt9; have HM1 := MlSt.all ((HM.out _ (by repeat (first | exact Below.refl _ _ | refine below_al ?_ _ | refine Below.drew ?_))).app1 HLL.out hown9 hgrow9 hat9); have HS1 := HSG.out _ _ _ _ _ HM1; have HT9 := tmp_all (HM.out _ (Below.refl _ _)) hgrow9; clear hown9 hgrow9 hat9 hlt9)
      refine hK.out _ _ (fun _ => ?_) (fun hHeld => ?_) (fun h => absurd h (by decide))
      · (first | exact HS1.out _ (by repeat (first | exact Below.refl _ _ | refine below_al ?_ _ | refine Below.drew ?_)) | exact HS.out _ (by repeat (first | exact Below.refl _ _ | refine below_al ?_ _ | refine Below.drew ?_)))
      clear hK K
      try simp only [Act.put, List.setIfInBounds_toArray, List.set_cons_zero, List.set_cons_succ]
      refine wpAnyT_take (i := 19) (v := ?v19n2) (by kernel_rfl) (by kernel_rfl) rfl (by kernel_rfl) (by kernel_rfl) (by kernel_rfl) (by decide) (fun _ _ _ h => h) (Or.inl ⟨by rfl, ?y19n2⟩) hHeld ?r19n2
      case y19n2 =>
        intro W hSw
        try dsimp only at hSw
        go_simp
        try with_reducible rfl
      simp only [Act.put, List.setIfInBounds_toArray, List.set_cons_zero, List.set_cons_succ]
      refine wpAnyT_one (i := 18) (by kernel_rfl) rfl ?_
      intro K hK o ho
      cases ho
      (refine step_append_lies _ (by rfl) _ _ 30 (by rfl) w.heap.size 3 i0 (.int .i64 0) 1 8 sliceInts hi0 hz0 hz1 hz2 (by rfl) (by decide) (.slice Av k cv) k (m.map (Value.int .i64)) (by rfl) ((HM1.out _ (by repeat (first | exact Below.refl _ _ | refine below_al ?_ _ | refine Below.drew ?_))).row2 HML.out) _ 1 1 [.int .i64 xo] (by rfl) (by rfl) (World.news_of_block (cs := #[.int .i64 xo]) (t := 3) (fr := (0, 0)) (by first | exact Blk.new _ _ _ | exact (Blk.new _ _ _).drew_ | exact (Blk.new _ _ _).alloc _ | exact ((Blk.new _ _ _).alloc _).drew_ | exact blk_new (by simp) _ _ | exact (blk_new (by simp) _ _).drew_ | exact HT9.out _ _ ((Blk.new _ _ _).alloc _).drew_ (by simp) | exact HT9.out _ _ (blk_new (by simp) _ _).drew_ (by simp) | exact HT9.out _ _ ((blk_new (by simp) _ _).alloc _).drew_ (by simp))) (by simp [Value.oneCell']) (by omega) (by simp only [maxLen]; omega) (by omega) ((HM1.out _ (by repeat (first | exact Below.refl _ _ | refine below_al ?_ _ | refine Below.drew ?_))).low.size) _ rfl ?_; intro g9 c9 W9 hown9 hgrow9 hat9 hlt9; have HM1 := MlSt.all ((HM1.out _ (by repeat (first | exact Below.refl _ _ | refine below_al ?_ _ | refine Below.drew ?_))).app2 HML.out hown9 hgrow9 hat9); have HS1 := HSG.out _ _ _ _ _ HM1; clear hown9 hgrow9 hat9 hlt9)
      refine hK.out _ _ (fun _ => ?_) (fun hHeld => ?_) (fun h => absurd h (by decide))
      · (first | exact HS1.out _ (by repeat (first | exact Below.refl _ _ | refine below_al ?_ _ | refine Below.drew ?_)) | exact HS.out _ (by repeat (first | exact Below.refl _ _ | refine below_al ?_ _ | refine Below.drew ?_)))
      clear hK K
      try simp only [Act.put, List.setIfInBounds_toArray, List.set_cons_zero, List.set_cons_succ]
      have HF := HM1.out _ (Below.refl _ _)
      have f0 := cellOf HF.sup 0 (x := (.slice Au k cu)) rfl
      have f1 := cellOf HF.sup 1 (x := (.slice Av k cv)) rfl
      have f2 := HF.sup.frozen 0
      have f3 := HF.sup.frozen 1
      have HFP := Lib.hid HF.put
      clear HF
      refine wpAnyT_seq (k := 20) (by kernel_rfl) rfl (by kernel_rfl) ?_
      go_wp2_with fail
      refine NoPanic.normal ?_
      exact HQ.out _ _ _ _ _ _ _ _ _ _ _ _ _ _ _ _ _ _ _ _ _ _ _ _ _ _ HFP
  · intro K hK o ho
    cases ho
    go_simp
    refine hK.out _ _ (fun _ => ?_) (fun hHeld => ?_) (fun h => absurd h (by decide))
    · (first | exact HS1.out _ (by repeat (first | exact Below.refl _ _ | refine below_al ?_ _ | refine Below.drew ?_)) | exact HS.out _ (by repeat (first | exact Below.refl _ _ | refine below_al ?_ _ | refine Below.drew ?_)))
    clear hK K
    try simp only [Act.put, List.setIfInBounds_toArray, List.set_cons_zero, List.set_cons_succ]
    refine wpAnyT_one (i := 8) (by kernel_rfl) rfl ?_
    intro K hK o ho
    cases ho
    go_simp
    refine hK.out _ _ (fun _ => ?_) (fun hHeld => ?_) (fun h => absurd h (by decide))
    · (first | exact HS1.out _ (by repeat (first | exact Below.refl _ _ | refine below_al ?_ _ | refine Below.drew ?_)) | exact HS.out _ (by repeat (first | exact Below.refl _ _ | refine below_al ?_ _ | refine Below.drew ?_)))
    clear hK K
    try simp only [Act.put, List.setIfInBounds_toArray, List.set_cons_zero, List.set_cons_succ]
    refine wpAnyT_one (i := 9) (by kernel_rfl) rfl ?_
    intro K hK o ho
    cases ho
    (refine step_append_lies _ (by rfl) _ _ 30 (by rfl) w.heap.size 3 i0 (.int .i64 0) 1 8 sliceInts hi0 hz0 hz1 hz2 (by rfl) (by decide) (.slice Au k cu) k (l.map (Value.int .i64)) (by rfl) ((HM.out _ (by repeat (first | exact Below.refl _ _ | refine below_al ?_ _ | refine Below.drew ?_))).row1 HLL.out) _ 1 1 [.int .i64 (xn.tmod 60)] (by rfl) (by rfl) (World.news_of_block (cs := #[.int .i64 (xn.tmod 60)]) (t := 3) (fr := (0, 0)) (by first | exact Blk.new _ _ _ | exact (Blk.new _ _ _).drew_ | exact (Blk.new _ _ _).alloc _ | exact ((Blk.new _ _ _).alloc _).drew_ | exact blk_new (by simp) _ _ | exact (blk_new (by simp) _ _).drew_ | exact HT9.out _ _ ((Blk.new _ _ _).alloc _).drew_ (by simp) | exact HT9.out _ _ (blk_new (by simp) _ _).drew_ (by simp) | exact HT9.out _ _ ((blk_new (by simp) _ _).alloc _).drew_ (by simp))) (by simp [Value.oneCell']) (by omega) (by simp only [maxLen]; omega) (by omega) ((HM.out _ (by repeat (first | exact Below.refl _ _ | refine below_al ?_ _ | refine Below.drew ?_))).low.size) _ rfl ?_; intro g9 c9 W9 hown9 hgrow9 hat9 hlt9; have HM1 := MlSt.all ((HM.out _ (by repeat (first | exact Below.refl _ _ | refine below_al ?_ _ | refine Below.drew ?_))).app1 HLL.out hown9 hgrow9 hat9); have HS1 := HSG.out _ _ _ _ _ HM1; have HT9 := tmp_all (HM.out _ (Below.refl _ _)) hgrow9; clear hown9 hgrow9 hat9 hlt9)
    refine hK.out _ _ (fun _ => ?_) (fun hHeld => ?_) (fun h => absurd h (by decide))
    · (first | exact HS1.out _ (by repeat (first | exact Below.refl _ _ | refine below_al ?_ _ | refine Below.drew ?_)) | exact HS.out _ (by repeat (first | exact Below.refl _ _ | refine below_al ?_ _ | refine Below.drew ?_)))
    clear hK K
    try simp only [Act.put, List.setIfInBounds_toArray, List.set_cons_zero, List.set_cons_succ]
    refine wpAnyT_take (i := 19) (v := ?v19n3) (by kernel_rfl) (by kernel_rfl) rfl (by kernel_rfl) (by kernel_rfl) (by kernel_rfl) (by decide) (fun _ _ _ h => h) (Or.inl ⟨by rfl, ?y19n3⟩) hHeld ?r19n3
    case y19n3 =>
      intro W hSw
      try dsimp only at hSw
      go_simp
      try with_reducible rfl
    simp only [Act.put, List.setIfInBounds_toArray, List.set_cons_zero, List.set_cons_succ]
    refine wpAnyT_one (i := 18) (by kernel_rfl) rfl ?_
    intro K hK o ho
    cases ho
    (refine step_append_lies _ (by rfl) _ _ 30 (by rfl) w.heap.size 3 i0 (.int .i64 0) 1 8 sliceInts hi0 hz0 hz1 hz2 (by rfl) (by decide) (.slice Av k cv) k (m.map (Value.int .i64)) (by rfl) ((HM1.out _ (by repeat (first | exact Below.refl _ _ | refine below_al ?_ _ | refine Below.drew ?_))).row2 HML.out) _ 1 1 [.int .i64 xo] (by rfl) (by rfl) (World.news_of_block (cs := #[.int .i64 xo]) (t := 3) (fr := (0, 0)) (by first | exact Blk.new _ _ _ | exact (Blk.new _ _ _).drew_ | exact (Blk.new _ _ _).alloc _ | exact ((Blk.new _ _ _).alloc _).drew_ | exact blk_new (by simp) _ _ | exact (blk_new (by simp) _ _).drew_ | exact HT9.out _ _ ((Blk.new _ _ _).alloc _).drew_ (by simp) | exact HT9.out _ _ (blk_new (by simp) _ _).drew_ (by simp) | exact HT9.out _ _ ((blk_new (by simp) _ _).alloc _).drew_ (by simp))) (by simp [Value.oneCell']) (by omega) (by simp only [maxLen]; omega) (by omega) ((HM1.out _ (by repeat (first | exact Below.refl _ _ | refine below_al ?_ _ | refine Below.drew ?_))).low.size) _ rfl ?_; intro g9 c9 W9 hown9 hgrow9 hat9 hlt9; have HM1 := MlSt.all ((HM1.out _ (by repeat (first | exact Below.refl _ _ | refine below_al ?_ _ | refine Below.drew ?_))).app2 HML.out hown9 hgrow9 hat9); have HS1 := HSG.out _ _ _ _ _ HM1; clear hown9 hgrow9 hat9 hlt9)
    refine hK.out _ _ (fun _ => ?_) (fun hHeld => ?_) (fun h => absurd h (by decide))
    · (first | exact HS1.out _ (by repeat (first | exact Below.refl _ _ | refine below_al ?_ _ | refine Below.drew ?_)) | exact HS.out _ (by repeat (first | exact Below.refl _ _ | refine below_al ?_ _ | refine Below.drew ?_)))
    clear hK K
    try simp only [Act.put, List.setIfInBounds_toArray, List.set_cons_zero, List.set_cons_succ]
    have HF := HM1.out _ (Below.refl _ _)
    have f0 := cellOf HF.sup 0 (x := (.slice Au k cu)) rfl
    have f1 := cellOf HF.sup 1 (x := (.slice Av k cv)) rfl
    have f2 := HF.sup.frozen 0
    have f3 := HF.sup.frozen 1
    have HFP := Lib.hid HF.put
    clear HF
    refine wpAnyT_seq (k := 20) (by kernel_rfl) rfl (by kernel_rfl) ?_
    go_wp2_with fail
    refine NoPanic.normal ?_
    exact HQ.out _ _ _ _ _ _ _ _ _ _ _ _ _ _ _ _ _ _ _ _ _ _ _ _ _ _ HFP
end Go.Proofs.Ytpkepacbondopaa
