/-
  ReelUsed: plain; a reel; a web.
-/
import Derived.Deep.LoopGhost
import Derived.Test.YtpkepacbondopaaMa
import Derived.Test.YtpkepacbondopaaOc
import Derived.Test.YtpkepacbondopaaGf
namespace Go.Proofs.Ytpkepacbondopaa
open Go.RowKit
attribute [local go_sem] Oper.semAt_some

noncomputable def usLoop (k : Nat) : Code := (Try.f8.body.bind (loopAt k)).getD .skip
theorem reachL_le {cut : Int} : ∀ (l : List WebD) {x : WebD}, x ∈ l → reachL cut l ≤ reach1 cut x := by
  intro l
  obtain ⟨r, rfl⟩ : ∃ r, l = r.reverse := ⟨l.reverse, by simp⟩
  induction r with
  | nil => intro x hx; cases hx
  | cons y r ih =>
    intro x hx
    rw [List.reverse_cons, reachL_snoc]
    rw [List.reverse_cons] at hx
    rcases List.mem_append.1 hx with hx | hx
    · have := ih hx; omega
    · rw [List.mem_singleton.1 hx]; omega
/-- There is paper for what the copies take. -/
theorem takenW_le {p : PressD} (hp : p.Ok) {n : Int} (h0 : 0 ≤ n) (hn : n ≤ p.reach) {x : WebD} (hx : x ∈ p.webs) : 0 ≤ takenW p n x ∧ takenW p n x ≤ givesL x.reels := by
  have h1 := reachL_le (cut := p.cut) p.webs hx
  have hc := hp.cut
  have ho := (hp.web x hx).1
  have hg := (givesL_bound (hp.reel x hx)).1
  unfold takenW
  split
  · rename_i hpos
    have h2 : n ≤ max 0 (givesL x.reels - x.off) / p.cut := by unfold PressD.reach at hn; unfold reach1 at h1; omega
    have h3 : n * p.cut ≤ max 0 (givesL x.reels - x.off) := (Int.le_ediv_iff_mul_le (by omega)).1 h2
    have h4 : p.cut ≤ n * p.cut := by
      have := Int.mul_le_mul_of_nonneg_right (show (1 : Int) ≤ n by omega) (show (0 : Int) ≤ p.cut by omega)
      omega
    omega
  · omega
theorem uses_at {U tl : List UseD} {k : Nat} {left : Int} {r : ReelD} {l : List ReelD} (h : U.drop k = usesR left (r :: l) ++ tl) : U[k]? = some ⟨r.id, min left r.gives, r.length - min left r.gives⟩ ∧ U.drop (k + 1) = usesR (left - min left r.gives) l ++ tl := by
  unfold usesR at h
  have h1 : (U.drop k)[0]? = some ⟨r.id, min left r.gives, r.length - min left r.gives⟩ := by rw [h]; rfl
  rw [List.getElem?_drop, Nat.add_zero] at h1
  refine ⟨h1, ?_⟩
  have h2 : (U.drop k).drop 1 = U.drop (k + 1) := by rw [List.drop_drop]
  rw [← h2, h]
  rfl
theorem givesL_cons (r : ReelD) (l : List ReelD) : givesL (r :: l) = r.gives + givesL l := by unfold givesL; simp
def RUses (B : Nat) (w : World) (v : Value) (l : List UseD) : Prop := Rd B w 3 v l.length (l.flatMap UseD.cells)
theorem RUses.open_ {B : Nat} {w : World} {v : Value} {l : List UseD} (h : RUses B w v l) : ∃ A c, v = .slice A l.length c ∧ l.length ≤ 9223372036854775807 ∧
    ∀ k x, l[k]? = some x → ∃ g o, A = some ⟨g, o, none⟩ ∧ g < B ∧ w.cell? ⟨g, o + k * 3, none⟩ = some (.int .i64 x.reel) ∧ w.cell? ⟨g, o + k * 3 + 1, none⟩ = some (.int .i64 x.used) ∧ w.cell? ⟨g, o + k * 3 + 2, none⟩ = some (.int .i64 x.rest) := by
  obtain ⟨A, c, rfl, -, hm, hr⟩ := h
  refine ⟨A, c, rfl, by simpa [maxLen] using hm, fun k x hx => ?_⟩
  have hk : k < l.length := (List.getElem?_eq_some_iff.1 hx).1
  obtain ⟨g, o, hA, hb, hc⟩ := hr (by omega)
  have hf := fun j hj => flat_at UseD.cells 3 (fun _ => rfl) _ k j _ hx hj
  exact ⟨g, o, hA, hb, hc _ _ (hf 0 (by omega)), hc _ _ (hf 1 (by omega)), hc _ _ (hf 2 (by omega))⟩

noncomputable def usRegion (k : Nat) : Code := (Try.f8.body.bind (regionAt k)).getD .skip
set_option maxRecDepth 1000000 in
set_option maxHeartbeats 4000000 in
theorem used_r17 (u0 u1 u2 u3 u4 u5 u6 u7 u8 u11 u12 u13 u15 u17 u18 u19 u20 u21 u22 u23 u24 u25 u26 u27 u28 u29 u30 u31 u32 u33 u34 u35 u36 u37 u38 u39 u40 u41 u42 u43 u44 u45 u46 u47 u48 u49 u50 u51 u52 u53 u54 u55 u56 u57 u58 u59 u60 u61 u62 u63 u64 u65 u66 u67 u68 u69 u70 u71 u72 u73 u74 u75 u76 u77 u78 u79 u80 u81 u82 u83 u84 u85 u86 u87 u88 u89 u90 u91 u92 u93 u94 u95 u96 u97 u98 u99 u100 u101 u102 u103 u104 u105 u106 u107 u108 u109 u110 u111 u112 u113 u114 u115 u116 u117 u118 u119 u120 u121 u122 u123 u124 u125 u126 u127 u128 u129 u130 u131 u132 u133 u134 u135 u136 u137 u138 u139 u140 u141 u142 u143 u144 u145 u146 u147 u148 u149 u150 u151 u152 u153 u154 u155 u156 u157 u158 u159 u160 u161 : Value) {nu cu gu ou R q : Nat} {done : Bool} {a L M C : Int} {X : World} {Q : Exit → Act → World → Prop}
    (hq : q < nu) (hM : 0 ≤ M) (hL : 0 ≤ L ∧ L ≤ 20000000) (hC : 0 ≤ C ∧ C ≤ L) (hMC : M ≤ L - C) (hdone : done = true → M = 0)
    (c0 : X.cell? ⟨gu, ou + q * 3, none⟩ = some (.int .i64 a)) (c1 : X.cell? ⟨gu, ou + q * 3 + 1, none⟩ = some (.int .i64 M)) (c2 : X.cell? ⟨gu, ou + q * 3 + 2, none⟩ = some (.int .i64 (L - M)))
    (k0 : X.cell? ⟨R, 0, none⟩ = some (.int .i64 a)) (k2 : X.cell? ⟨R, 2, none⟩ = some (.int .i64 L)) (k3 : X.cell? ⟨R, 3, none⟩ = some (.int .i64 C))
    (hQ : Hid (∀ (x53 x54 x55 x56 x57 x58 x59 x60 x61 x62 x63 x64 x65 x66 x67 x68 x69 x70 x71 x72 x73 x74 x75 x76 x77 x78 x79 x80 x81 x82 x83 x84 x85 x86 x87 x88 x89 x90 x91 x92 x93 x94 x95 x96 x97 x98 x99 x100 x101 x102 x103 x104 x105 x106 x107 x108 x109 x110 : Value) (nq : Nat), Q .normal ⟨List.toArray (u0 :: u1 :: u2 :: u3 :: u4 :: u5 :: u6 :: u7 :: u8 :: (.slice (some ⟨gu, ou, none⟩) nu cu) :: (.int .i64 (q : Int)) :: u11 :: u12 :: u13 :: (.bool done) :: u15 :: (.pointer (some ⟨R, 0, none⟩)) :: u17 :: u18 :: u19 :: u20 :: u21 :: u22 :: u23 :: u24 :: u25 :: u26 :: u27 :: u28 :: u29 :: u30 :: u31 :: u32 :: u33 :: u34 :: u35 :: u36 :: u37 :: u38 :: u39 :: u40 :: u41 :: u42 :: u43 :: u44 :: u45 :: u46 :: u47 :: u48 :: u49 :: u50 :: u51 :: u52 :: x53 :: x54 :: x55 :: x56 :: x57 :: x58 :: x59 :: x60 :: x61 :: x62 :: x63 :: x64 :: x65 :: x66 :: x67 :: x68 :: x69 :: x70 :: x71 :: x72 :: x73 :: x74 :: x75 :: x76 :: x77 :: x78 :: x79 :: x80 :: x81 :: x82 :: x83 :: x84 :: x85 :: x86 :: x87 :: x88 :: x89 :: x90 :: x91 :: x92 :: x93 :: x94 :: x95 :: x96 :: x97 :: x98 :: x99 :: x100 :: x101 :: x102 :: x103 :: x104 :: x105 :: x106 :: x107 :: x108 :: x109 :: x110 :: (.bool false) :: u112 :: u113 :: u114 :: u115 :: u116 :: u117 :: u118 :: u119 :: u120 :: u121 :: u122 :: u123 :: u124 :: u125 :: u126 :: u127 :: u128 :: u129 :: u130 :: u131 :: u132 :: u133 :: u134 :: u135 :: u136 :: u137 :: u138 :: u139 :: u140 :: u141 :: u142 :: u143 :: u144 :: u145 :: u146 :: u147 :: u148 :: u149 :: u150 :: u151 :: u152 :: u153 :: u154 :: u155 :: u156 :: u157 :: u158 :: u159 :: u160 :: u161 :: []), []⟩ (X.drewN nq))) :
    Code.wp Try.prog (usRegion 17) Q ⟨List.toArray (u0 :: u1 :: u2 :: u3 :: u4 :: u5 :: u6 :: u7 :: u8 :: (.slice (some ⟨gu, ou, none⟩) nu cu) :: (.int .i64 (q : Int)) :: u11 :: u12 :: u13 :: (.bool done) :: u15 :: (.pointer (some ⟨R, 0, none⟩)) :: u17 :: u18 :: u19 :: u20 :: u21 :: u22 :: u23 :: u24 :: u25 :: u26 :: u27 :: u28 :: u29 :: u30 :: u31 :: u32 :: u33 :: u34 :: u35 :: u36 :: u37 :: u38 :: u39 :: u40 :: u41 :: u42 :: u43 :: u44 :: u45 :: u46 :: u47 :: u48 :: u49 :: u50 :: u51 :: u52 :: u53 :: u54 :: u55 :: u56 :: u57 :: u58 :: u59 :: u60 :: u61 :: u62 :: u63 :: u64 :: u65 :: u66 :: u67 :: u68 :: u69 :: u70 :: u71 :: u72 :: u73 :: u74 :: u75 :: u76 :: u77 :: u78 :: u79 :: u80 :: u81 :: u82 :: u83 :: u84 :: u85 :: u86 :: u87 :: u88 :: u89 :: u90 :: u91 :: u92 :: u93 :: u94 :: u95 :: u96 :: u97 :: u98 :: u99 :: u100 :: u101 :: u102 :: u103 :: u104 :: u105 :: u106 :: u107 :: u108 :: u109 :: u110 :: u111 :: u112 :: u113 :: u114 :: u115 :: u116 :: u117 :: u118 :: u119 :: u120 :: u121 :: u122 :: u123 :: u124 :: u125 :: u126 :: u127 :: u128 :: u129 :: u130 :: u131 :: u132 :: u133 :: u134 :: u135 :: u136 :: u137 :: u138 :: u139 :: u140 :: u141 :: u142 :: u143 :: u144 :: u145 :: u146 :: u147 :: u148 :: u149 :: u150 :: u151 :: u152 :: u153 :: u154 :: u155 :: u156 :: u157 :: u158 :: u159 :: u160 :: u161 :: []), []⟩ X := by
  have kw1 : IntKind.i64.wrap (M + (L - M)) = L := by rw [show M + (L - M) = L by omega]; exact IntWalk.i64_in _ ⟨by omega, by omega⟩
  have gq : decide (nu ≤ q) = false := by simp; omega
  have gm : decide (M < 0) = false := by simp; omega
  have gc : decide (L - M < C) = false := by simp; omega
  have hqi : (q : Int) < (nu : Int) := by omega
  have hq0 : (0 : Int) ≤ (q : Int) := by omega
  conv => arg 2; whnf
  cases done
  · clear hdone
    go_quiet (fail)
    exact hQ.out _ _ _ _ _ _ _ _ _ _ _ _ _ _ _ _ _ _ _ _ _ _ _ _ _ _ _ _ _ _ _ _ _ _ _ _ _ _ _ _ _ _ _ _ _ _ _ _ _ _ _ _ _ _ _ _ _ _ _
  · have gz : decide (0 < M) = false := by have := hdone rfl; simp; omega
    clear hdone
    go_quiet (fail)
    exact hQ.out _ _ _ _ _ _ _ _ _ _ _ _ _ _ _ _ _ _ _ _ _ _ _ _ _ _ _ _ _ _ _ _ _ _ _ _ _ _ _ _ _ _ _ _ _ _ _ _ _ _ _ _ _ _ _ _ _ _ _
set_option maxRecDepth 1000000 in
set_option maxHeartbeats 4000000 in
theorem used_r19 (u0 u1 u2 u3 u4 u5 u6 u7 u8 u11 u12 u13 u15 u17 u18 u19 u20 u21 u22 u23 u24 u25 u26 u27 u28 u29 u30 u31 u32 u33 u34 u35 u36 u37 u38 u39 u40 u41 u42 u43 u44 u45 u46 u47 u48 u49 u50 u51 u52 u53 u54 u55 u56 u57 u58 u59 u60 u61 u62 u63 u64 u65 u66 u67 u68 u69 u70 u71 u72 u73 u74 u75 u76 u77 u78 u79 u80 u81 u82 u83 u84 u85 u86 u87 u88 u89 u90 u91 u92 u93 u94 u95 u96 u97 u98 u99 u100 u101 u102 u103 u104 u105 u106 u107 u108 u109 u110 u111 u112 u113 u114 u115 u116 u117 u118 u119 u120 u121 u122 u123 u124 u125 u126 u127 u128 u129 u130 u131 u132 u133 u134 u135 u136 u137 u138 u139 u140 u141 u142 u143 u144 u145 u146 u147 u148 u149 u150 u151 u152 u153 u154 u155 u156 u157 u158 u159 u160 u161 : Value) {nu cu gu ou R q : Nat} {done : Bool} {L M C : Int} {X : World} {Q : Exit → Act → World → Prop}
    (hq : q < nu)
    (c2 : X.cell? ⟨gu, ou + q * 3 + 2, none⟩ = some (.int .i64 (L - M))) (k3 : X.cell? ⟨R, 3, none⟩ = some (.int .i64 C))
    (hQ : Hid (∀ (x112 x113 x114 x115 x116 x117 x118 x119 x120 x121 x122 : Value) (nq : Nat), Q .normal ⟨List.toArray (u0 :: u1 :: u2 :: u3 :: u4 :: u5 :: u6 :: u7 :: u8 :: (.slice (some ⟨gu, ou, none⟩) nu cu) :: (.int .i64 (q : Int)) :: u11 :: u12 :: u13 :: (.bool (done || decide (M < L - C))) :: u15 :: (.pointer (some ⟨R, 0, none⟩)) :: u17 :: u18 :: u19 :: u20 :: u21 :: u22 :: u23 :: u24 :: u25 :: u26 :: u27 :: u28 :: u29 :: u30 :: u31 :: u32 :: u33 :: u34 :: u35 :: u36 :: u37 :: u38 :: u39 :: u40 :: u41 :: u42 :: u43 :: u44 :: u45 :: u46 :: u47 :: u48 :: u49 :: u50 :: u51 :: u52 :: u53 :: u54 :: u55 :: u56 :: u57 :: u58 :: u59 :: u60 :: u61 :: u62 :: u63 :: u64 :: u65 :: u66 :: u67 :: u68 :: u69 :: u70 :: u71 :: u72 :: u73 :: u74 :: u75 :: u76 :: u77 :: u78 :: u79 :: u80 :: u81 :: u82 :: u83 :: u84 :: u85 :: u86 :: u87 :: u88 :: u89 :: u90 :: u91 :: u92 :: u93 :: u94 :: u95 :: u96 :: u97 :: u98 :: u99 :: u100 :: u101 :: u102 :: u103 :: u104 :: u105 :: u106 :: u107 :: u108 :: u109 :: u110 :: u111 :: x112 :: x113 :: x114 :: x115 :: x116 :: x117 :: x118 :: x119 :: x120 :: x121 :: x122 :: u123 :: u124 :: u125 :: u126 :: u127 :: u128 :: u129 :: u130 :: u131 :: u132 :: u133 :: u134 :: u135 :: u136 :: u137 :: u138 :: u139 :: u140 :: u141 :: u142 :: u143 :: u144 :: u145 :: u146 :: u147 :: u148 :: u149 :: u150 :: u151 :: u152 :: u153 :: u154 :: u155 :: u156 :: u157 :: u158 :: u159 :: u160 :: u161 :: []), []⟩ (X.drewN nq))) :
    Code.wp Try.prog (usRegion 19) Q ⟨List.toArray (u0 :: u1 :: u2 :: u3 :: u4 :: u5 :: u6 :: u7 :: u8 :: (.slice (some ⟨gu, ou, none⟩) nu cu) :: (.int .i64 (q : Int)) :: u11 :: u12 :: u13 :: (.bool done) :: u15 :: (.pointer (some ⟨R, 0, none⟩)) :: u17 :: u18 :: u19 :: u20 :: u21 :: u22 :: u23 :: u24 :: u25 :: u26 :: u27 :: u28 :: u29 :: u30 :: u31 :: u32 :: u33 :: u34 :: u35 :: u36 :: u37 :: u38 :: u39 :: u40 :: u41 :: u42 :: u43 :: u44 :: u45 :: u46 :: u47 :: u48 :: u49 :: u50 :: u51 :: u52 :: u53 :: u54 :: u55 :: u56 :: u57 :: u58 :: u59 :: u60 :: u61 :: u62 :: u63 :: u64 :: u65 :: u66 :: u67 :: u68 :: u69 :: u70 :: u71 :: u72 :: u73 :: u74 :: u75 :: u76 :: u77 :: u78 :: u79 :: u80 :: u81 :: u82 :: u83 :: u84 :: u85 :: u86 :: u87 :: u88 :: u89 :: u90 :: u91 :: u92 :: u93 :: u94 :: u95 :: u96 :: u97 :: u98 :: u99 :: u100 :: u101 :: u102 :: u103 :: u104 :: u105 :: u106 :: u107 :: u108 :: u109 :: u110 :: u111 :: u112 :: u113 :: u114 :: u115 :: u116 :: u117 :: u118 :: u119 :: u120 :: u121 :: u122 :: u123 :: u124 :: u125 :: u126 :: u127 :: u128 :: u129 :: u130 :: u131 :: u132 :: u133 :: u134 :: u135 :: u136 :: u137 :: u138 :: u139 :: u140 :: u141 :: u142 :: u143 :: u144 :: u145 :: u146 :: u147 :: u148 :: u149 :: u150 :: u151 :: u152 :: u153 :: u154 :: u155 :: u156 :: u157 :: u158 :: u159 :: u160 :: u161 :: []), []⟩ X := by
  have hqi : (q : Int) < (nu : Int) := by omega
  have hq0 : (0 : Int) ≤ (q : Int) := by omega
  conv => arg 2; whnf
  cases done
  · by_cases hm : M < L - C
    · have gr : decide (C < L - M) = true := by simp; omega
      rw [show (false || decide (M < L - C)) = true by simp [hm]] at hQ
      clear hm
      go_quiet (fail)
      exact hQ.out _ _ _ _ _ _ _ _ _ _ _ _
    · have gr : decide (C < L - M) = false := by simp; omega
      rw [show (false || decide (M < L - C)) = false by simp [hm]] at hQ
      clear hm
      go_quiet (fail)
      exact hQ.out _ _ _ _ _ _ _ _ _ _ _ _
  · rw [Bool.true_or] at hQ
    go_quiet (fail)
    exact hQ.out _ _ _ _ _ _ _ _ _ _ _ _
set_option maxRecDepth 1000000 in
set_option maxHeartbeats 4000000 in
theorem used_reel (u0 u1 u2 u3 u4 u6 u7 u11 u15 u16 u17 u18 u19 u20 u21 u22 u23 u24 u25 u26 u27 u28 u29 u30 u31 u32 u33 u34 u35 u36 u37 u38 u39 u40 u41 u42 u43 u44 u45 u46 u50 u51 u52 u53 u54 u55 u56 u57 u58 u59 u60 u61 u62 u63 u64 u65 u66 u67 u68 u69 u70 u71 u72 u73 u74 u75 u76 u77 u78 u79 u80 u81 u82 u83 u84 u85 u86 u87 u88 u89 u90 u91 u92 u93 u94 u95 u96 u97 u98 u99 u100 u101 u102 u103 u104 u105 u106 u107 u108 u109 u110 u111 u112 u113 u114 u115 u116 u117 u118 u119 u120 u121 u122 u123 u124 u125 u126 u127 u128 u129 u130 u131 u132 u133 u134 u135 u136 u137 u138 u139 u140 u141 u142 u143 u144 u145 u146 u147 u148 u149 u150 u151 u152 u153 u154 u155 u156 u157 u158 u159 u160 u161 : Value) {U tl : List UseD} {reels : List ReelD} {Au Ar : Option Addr} {nu cu nr cr P Wb q j : Nat} {n T left : Int} {done : Bool} {W0 X : World} {Q : Exit → Act → World → Prop}
    (hj : j < nr) (hnr20 : nr ≤ 20) (hnr : Hid (reels.length = nr)) (hnu : Hid (U.length = nu)) (hru : Hid (RUses W0.heap.size W0 (.slice Au nu cu) U)) (hrr : Hid (RReels W0.heap.size W0 (.slice Ar nr cr) reels)) (hok : Hid (∀ r ∈ reels, r.ok)) (hB : Hid (Below W0.heap.size W0 X)) (hnu9 : nu ≤ 1000)
    (hdrop : Hid (U.drop q = usesR left (reels.drop j) ++ tl)) (hT : T ≤ 2000000000) (hl0 : 0 ≤ left) (hl1 : left ≤ T) (hl2 : Hid (left ≤ givesL (reels.drop j))) (hdone : done = true → left = 0)
    (hQ : Hid (∀ (x16 x50 x51 x52 x53 x54 x55 x56 x57 x58 x59 x60 x61 x62 x63 x64 x65 x66 x67 x68 x69 x70 x71 x72 x73 x74 x75 x76 x77 x78 x79 x80 x81 x82 x83 x84 x85 x86 x87 x88 x89 x90 x91 x92 x93 x94 x95 x96 x97 x98 x99 x100 x101 x102 x103 x104 x105 x106 x107 x108 x109 x110 x111 x112 x113 x114 x115 x116 x117 x118 x119 x120 x121 x122 x123 x124 x125 x126 x127 x128 x129 x130 x131 x132 : Value) (left' : Int) (done' : Bool) (Z : World), U.drop (q + 1) = usesR left' (reels.drop (j + 1)) ++ tl → 0 ≤ left' → left' ≤ T → left' ≤ givesL (reels.drop (j + 1)) → (done' = true → left' = 0) → q + 1 ≤ nu → Below X.heap.size X Z → Q .normal ⟨List.toArray (u0 :: u1 :: u2 :: u3 :: u4 :: (.pointer (some ⟨P, 0, none⟩)) :: u6 :: u7 :: (.int .i64 n) :: (.slice Au nu cu) :: (.int .i64 ((q : Int) + 1)) :: u11 :: (.pointer (some ⟨Wb, 0, none⟩)) :: (.int .i64 (T - left')) :: (.bool done') :: u15 :: x16 :: u17 :: u18 :: u19 :: u20 :: u21 :: u22 :: u23 :: u24 :: u25 :: u26 :: u27 :: u28 :: u29 :: u30 :: u31 :: u32 :: u33 :: u34 :: u35 :: u36 :: u37 :: u38 :: u39 :: u40 :: u41 :: u42 :: u43 :: u44 :: u45 :: u46 :: (.slice Ar nr cr) :: (.int .i64 (nr : Int)) :: (.int .i64 ((j : Int) + 1)) :: x50 :: x51 :: x52 :: x53 :: x54 :: x55 :: x56 :: x57 :: x58 :: x59 :: x60 :: x61 :: x62 :: x63 :: x64 :: x65 :: x66 :: x67 :: x68 :: x69 :: x70 :: x71 :: x72 :: x73 :: x74 :: x75 :: x76 :: x77 :: x78 :: x79 :: x80 :: x81 :: x82 :: x83 :: x84 :: x85 :: x86 :: x87 :: x88 :: x89 :: x90 :: x91 :: x92 :: x93 :: x94 :: x95 :: x96 :: x97 :: x98 :: x99 :: x100 :: x101 :: x102 :: x103 :: x104 :: x105 :: x106 :: x107 :: x108 :: x109 :: x110 :: x111 :: x112 :: x113 :: x114 :: x115 :: x116 :: x117 :: x118 :: x119 :: x120 :: x121 :: x122 :: x123 :: x124 :: x125 :: x126 :: x127 :: x128 :: x129 :: x130 :: x131 :: x132 :: u133 :: u134 :: u135 :: u136 :: u137 :: u138 :: u139 :: u140 :: u141 :: u142 :: u143 :: u144 :: u145 :: u146 :: u147 :: u148 :: u149 :: u150 :: u151 :: u152 :: u153 :: u154 :: u155 :: u156 :: u157 :: u158 :: u159 :: u160 :: u161 :: []), []⟩ Z)) :
    Code.wp Try.prog (usLoop 15) Q ⟨List.toArray (u0 :: u1 :: u2 :: u3 :: u4 :: (.pointer (some ⟨P, 0, none⟩)) :: u6 :: u7 :: (.int .i64 n) :: (.slice Au nu cu) :: (.int .i64 (q : Int)) :: u11 :: (.pointer (some ⟨Wb, 0, none⟩)) :: (.int .i64 (T - left)) :: (.bool done) :: u15 :: u16 :: u17 :: u18 :: u19 :: u20 :: u21 :: u22 :: u23 :: u24 :: u25 :: u26 :: u27 :: u28 :: u29 :: u30 :: u31 :: u32 :: u33 :: u34 :: u35 :: u36 :: u37 :: u38 :: u39 :: u40 :: u41 :: u42 :: u43 :: u44 :: u45 :: u46 :: (.slice Ar nr cr) :: (.int .i64 (nr : Int)) :: (.int .i64 (j : Int)) :: u50 :: u51 :: u52 :: u53 :: u54 :: u55 :: u56 :: u57 :: u58 :: u59 :: u60 :: u61 :: u62 :: u63 :: u64 :: u65 :: u66 :: u67 :: u68 :: u69 :: u70 :: u71 :: u72 :: u73 :: u74 :: u75 :: u76 :: u77 :: u78 :: u79 :: u80 :: u81 :: u82 :: u83 :: u84 :: u85 :: u86 :: u87 :: u88 :: u89 :: u90 :: u91 :: u92 :: u93 :: u94 :: u95 :: u96 :: u97 :: u98 :: u99 :: u100 :: u101 :: u102 :: u103 :: u104 :: u105 :: u106 :: u107 :: u108 :: u109 :: u110 :: u111 :: u112 :: u113 :: u114 :: u115 :: u116 :: u117 :: u118 :: u119 :: u120 :: u121 :: u122 :: u123 :: u124 :: u125 :: u126 :: u127 :: u128 :: u129 :: u130 :: u131 :: u132 :: u133 :: u134 :: u135 :: u136 :: u137 :: u138 :: u139 :: u140 :: u141 :: u142 :: u143 :: u144 :: u145 :: u146 :: u147 :: u148 :: u149 :: u150 :: u151 :: u152 :: u153 :: u154 :: u155 :: u156 :: u157 :: u158 :: u159 :: u160 :: u161 :: []), []⟩ X := by
  have hji : (j : Int) < (nr : Int) := by omega
  obtain ⟨r, hr⟩ : ∃ r, reels[j]? = some r := ⟨_, List.getElem?_eq_getElem (by rw [hnr.out]; exact hj)⟩
  have hdr : reels.drop j = r :: reels.drop (j + 1) := by
    rw [List.drop_eq_getElem_cons (by rw [hnr.out]; exact hj)]
    rw [List.getElem?_eq_getElem (by rw [hnr.out]; exact hj)] at hr
    injection hr with hr
    rw [hr]
  have hd := hdrop.out
  rw [hdr] at hd
  obtain ⟨hu, hnx⟩ := uses_at hd
  have hg2 := hl2.out
  rw [hdr, givesL_cons] at hg2
  have hro := hok.out r (List.mem_of_getElem? hr)
  have hgb := gives_bound hro
  have hg3 := (givesL_bound (l := reels.drop (j + 1)) fun x hx => hok.out x (List.mem_of_mem_drop hx)).1
  have hqu : q < nu := by have := (List.getElem?_eq_some_iff.1 hu).1; rw [hnu.out] at this; exact this
  obtain ⟨A', c', e1, -, hU⟩ := hru.out.open_
  injection e1 with e11 e12 e13
  subst e11
  subst e13
  obtain ⟨gu, ou, rfl, hgu, c0, c1, c2⟩ := hU q _ hu
  obtain ⟨A'', c'', e2, -, hR⟩ := hrr.out.open_
  injection e2 with e21 e22 e23
  subst e21
  subst e23
  obtain ⟨g, o, rfl, hg, r0, r1, r2, r3⟩ := hR j r hr
  have F1 : ∃ X1, X.alloc (.cells #[.int .i64 r.id, .int .i64 r.width, .int .i64 r.length, .int .i64 r.core] 58) = X1 ∧ Below X.heap.size X X1 ∧ Blk X1 X.heap.size 58 #[.int .i64 r.id, .int .i64 r.width, .int .i64 r.length, .int .i64 r.core] := ⟨_, rfl, below_alloc _ _, Blk.new _ _ _⟩
  obtain ⟨X1, e3, hb3, B3⟩ := F1
  have E3 := Lib.hid e3
  have HB1 : Hid (Below W0.heap.size W0 X1) := hB.out.trans (hb3.mono hB.out.size)
  obtain ⟨M, hM⟩ : ∃ M, min left r.gives = M := ⟨_, rfl⟩
  rw [hM] at c1 c2 hnx
  have hM1 : 0 ≤ M ∧ M ≤ left ∧ M ≤ r.gives := by omega
  rw [← HB1.out.cell (p := ⟨gu, ou + q * 3, none⟩) hgu] at c0
  rw [← HB1.out.cell (p := ⟨gu, ou + q * 3 + 1, none⟩) hgu] at c1
  rw [← HB1.out.cell (p := ⟨gu, ou + q * 3 + 2, none⟩) hgu] at c2
  rw [← hB.out.cell (p := ⟨g, o + j * 4, none⟩) hg] at r0
  rw [← hB.out.cell (p := ⟨g, o + j * 4 + 1, none⟩) hg] at r1
  rw [← hB.out.cell (p := ⟨g, o + j * 4 + 2, none⟩) hg] at r2
  rw [← hB.out.cell (p := ⟨g, o + j * 4 + 3, none⟩) hg] at r3
  obtain ⟨⟨i1, i2⟩, -, ⟨i3, i4⟩, i5, i6⟩ := hro
  obtain ⟨a, ha⟩ : ∃ a, r.id = a := ⟨_, rfl⟩
  obtain ⟨wd, hwd⟩ : ∃ a, r.width = a := ⟨_, rfl⟩
  obtain ⟨L, hL⟩ : ∃ a, r.length = a := ⟨_, rfl⟩
  obtain ⟨C, hC⟩ : ∃ a, r.core = a := ⟨_, rfl⟩
  have hgv : r.gives = L - C := by unfold ReelD.gives; rw [hL, hC]
  rw [hgv] at hM1 hg2 hM hgb
  simp only at c0 c1 c2
  rw [ha] at c0 r0 i1 i2 e3 B3
  rw [hwd] at r1 e3 B3
  rw [hL] at c2 r2 i3 i4 i6 e3 B3
  rw [hC] at r3 i5 i6 e3 B3
  have E3 := Lib.hid e3
  have k0 := cellOf B3 0 (x := .int .i64 a) rfl
  have k2 := cellOf B3 2 (x := .int .i64 L) rfl
  have k3 := cellOf B3 3 (x := .int .i64 C) rfl
  have HFin : Hid (∀ (done' : Bool), (done' = true → left - M = 0) → U.drop (q + 1) = usesR (left - M) (reels.drop (j + 1)) ++ tl ∧ 0 ≤ left - M ∧ left - M ≤ T ∧ left - M ≤ givesL (reels.drop (j + 1)) ∧ (done' = true → left - M = 0)) := fun done' h => ⟨hnx, by omega, by omega, by omega, h⟩
  obtain ⟨hM1, hM2, hM3⟩ := hM1
  have hzero : Hid ((M < L - C → left - M = 0) ∧ (done = true → M = 0 ∧ left - M = 0)) := ⟨fun h => by omega, fun h => by have := hdone h; omega⟩
  clear hd hdr hr hu hnx hgb hgv ha hwd hL hC hU hR e3 hb3 B3 hM hg2 hg3 e12 e22 hdone
  have HX1 : Hid (Below X.heap.size X X1) := by show Below _ _ _; rw [← E3.out]; exact below_alloc _ _
  obtain ⟨R, hR⟩ : ∃ R, X.heap.size = R := ⟨_, rfl⟩
  rw [hR] at k0 k2 k3
  have hz1 : done = true → M = 0 := fun h => (hzero.out.2 h).1
  have hz2 : (done || decide (M < L - C)) = true → left - M = 0 := fun h => by
    rw [Bool.or_eq_true, decide_eq_true_eq] at h
    exact h.elim (fun h => (hzero.out.2 h).2) hzero.out.1
  obtain ⟨f1, f2, f3, f4, f5⟩ := HFin.out _ hz2
  obtain ⟨done', hd'⟩ : ∃ d, (done || decide (M < L - C)) = d := ⟨_, rfl⟩
  have HD := Lib.hid hd'
  rw [hd'] at f5
  have HF := Lib.hid f1
  have H5 := Lib.hid f5
  have H4 := Lib.hid f4
  clear f1 f4 f5 hd' hz2 HFin hzero
  conv => arg 2; whnf
  go_upto_region 17 with fail
  rw [E3.out]
  first | rw [hR] | skip
  clear r0 r1 r2 r3
  refine used_r17 _ _ _ _ _ _ _ _ _ _ _ _ _ _ _ _ _ _ _ _ _ _ _ _ _ _ _ _ _ _ _ _ _ _ _ _ _ _ _ _ _ _ _ _ _ _ _ _ _ _ _ _ _ _ _ _ _ _ _ _ _ _ _ _ _ _ _ _ _ _ _ _ _ _ _ _ _ _ _ _ _ _ _ _ _ _ _ _ _ _ _ _ _ _ _ _ _ _ _ _ _ _ _ _ _ _ _ _ _ _ _ _ _ _ _ _ _ _ _ _ _ _ _ _ _ _ _ _ _ _ _ _ _ _ _ _ _ _ _ _ _ _ _ _ _ _ _ _ _ _ _ _ _ _ _ _ _ _ hqu hM1 ⟨i3, i4⟩ ⟨i5, i6⟩ hM3 hz1 c0 c1 c2 k0 k2 k3 (Lib.hid ?_)
  intro x53 x54 x55 x56 x57 x58 x59 x60 x61 x62 x63 x64 x65 x66 x67 x68 x69 x70 x71 x72 x73 x74 x75 x76 x77 x78 x79 x80 x81 x82 x83 x84 x85 x86 x87 x88 x89 x90 x91 x92 x93 x94 x95 x96 x97 x98 x99 x100 x101 x102 x103 x104 x105 x106 x107 x108 x109 x110 nq
  obtain ⟨X2, hX2⟩ : ∃ X2, X1.drewN nq = X2 := ⟨_, rfl⟩
  have HX2 := Lib.hid hX2
  have c1' : X2.cell? ⟨gu, ou + q * 3 + 1, none⟩ = some (.int .i64 M) := by rw [← hX2]; exact c1
  have c2' : X2.cell? ⟨gu, ou + q * 3 + 2, none⟩ = some (.int .i64 (L - M)) := by rw [← hX2]; exact c2
  have k3' : X2.cell? ⟨R, 3, none⟩ = some (.int .i64 C) := by rw [← hX2]; exact k3
  rw [hX2]
  clear hX2 hR c0 c1 c2 k0 k2 k3 hz1
  go_upto_region 19 with fail
  refine used_r19 _ _ _ _ _ _ _ _ _ _ _ _ _ _ _ _ _ _ _ _ _ _ _ _ _ _ _ _ _ _ _ _ _ _ _ _ _ _ _ _ _ _ _ _ _ _ _ _ _ _ _ _ _ _ _ _ _ _ _ _ _ _ _ _ _ _ _ _ _ _ _ _ _ _ _ _ _ _ _ _ _ _ _ _ _ _ _ _ _ _ _ _ _ _ _ _ _ _ _ _ _ _ _ _ _ _ _ _ _ _ _ _ _ _ _ _ _ _ _ _ _ _ _ _ _ _ _ _ _ _ _ _ _ _ _ _ _ _ _ _ _ _ _ _ _ _ _ _ _ _ _ _ _ _ _ _ _ _ hqu c2' k3' (Lib.hid ?_)
  intro x112 x113 x114 x115 x116 x117 x118 x119 x120 x121 x122 nq3
  rw [HD.out]
  obtain ⟨X3, hX3⟩ : ∃ X3, X2.drewN nq3 = X3 := ⟨_, rfl⟩
  have HB3 : Hid (Below X.heap.size X X3) := by show Below _ _ _; rw [← hX3, ← HX2.out]; exact below_drewN (below_drewN HX1.out nq) nq3
  have c1'' : X3.cell? ⟨gu, ou + q * 3 + 1, none⟩ = some (.int .i64 M) := by rw [← hX3]; exact c1'
  rw [hX3]
  clear hX3 c1' c2' k3'
  have hqi : (q : Int) < (nu : Int) := by omega
  have hq0 : (0 : Int) ≤ (q : Int) := by omega
  go_wp2_with fail
  rw [show T - left + M = T - (left - M) by omega]
  exact hQ.out _ _ _ _ _ _ _ _ _ _ _ _ _ _ _ _ _ _ _ _ _ _ _ _ _ _ _ _ _ _ _ _ _ _ _ _ _ _ _ _ _ _ _ _ _ _ _ _ _ _ _ _ _ _ _ _ _ _ _ _ _ _ _ _ _ _ _ _ _ _ _ _ _ _ _ _ _ _ _ _ _ _ _ _ (left - M) done' X3 HF.out f2 f3 H4.out H5.out hqu HB3.out
end Go.Proofs.Ytpkepacbondopaa
