/-
  ReelClean: plain; two regions.
-/
import Derived.Test.YtpkepacbondopaaXb
namespace Go.Proofs.Ytpkepacbondopaa
open Go.RowKit
attribute [local go_sem] Oper.semAt_some

/-- A splice is near a copy. -/
def hitB (p : PressD) (k : Int) (x : WebD) (a : Int) : Bool := decide (0 < x.before + x.after) && decide (a - x.before ≤ x.off + (k + p.margin + 1) * p.cut - 1) && decide (x.off + (k - p.margin) * p.cut ≤ a + x.after - 1)
def nearB (p : PressD) (k : Int) (l : List WebD) : Bool := l.any fun x => x.places.any (hitB p k x)
theorem hit_iff {p : PressD} (hp : p.Ok) {x : WebD} (hx : x ∈ p.webs) (k a : Int) : hitB p k x a = true ↔ x.before + x.after ≠ 0 ∧ (p.span x a).lo ≤ k ∧ k ≤ (p.span x a).hi := by
  have hc := hp.cut
  have hxo := hp.web x hx
  have h2 := hxo.2.1
  have h3 := hxo.2.2
  unfold hitB PressD.span
  rw [Bool.and_eq_true, Bool.and_eq_true, decide_eq_true_eq, decide_eq_true_eq, decide_eq_true_eq]
  simp only
  have e1 : (a - x.before - x.off) / p.cut - p.margin ≤ k ↔ a - x.before ≤ x.off + (k + p.margin + 1) * p.cut - 1 := by
    have h4 := Int.ediv_lt_iff_lt_mul (a := a - x.before - x.off) (b := k + p.margin + 1) (c := p.cut) (by omega)
    constructor
    · intro h
      have := h4.1 (by omega)
      omega
    · intro h
      have := h4.2 (by omega)
      omega
  have e2 : k ≤ (a + x.after - 1 - x.off) / p.cut + p.margin ↔ x.off + (k - p.margin) * p.cut ≤ a + x.after - 1 := by
    have h4 := Int.le_ediv_iff_mul_le (a := k - p.margin) (b := a + x.after - 1 - x.off) (c := p.cut) (by omega)
    constructor
    · intro h
      have := h4.1 (by omega)
      omega
    · intro h
      have := h4.2 (by omega)
      omega
  rw [e1, e2]
  constructor
  · rintro ⟨⟨h4, h5⟩, h6⟩; exact ⟨by omega, h5, h6⟩
  · rintro ⟨h4, h5, h6⟩; exact ⟨⟨by omega, h5⟩, h6⟩
theorem near_out {p : PressD} (hp : p.Ok) {n k : Int} {l : List Sp} (h : p.ThrownIs n l) (h0 : 0 ≤ k) (h1 : k < n) : nearB p k p.webs = covB l k := by
  rw [Bool.eq_iff_iff, covB_iff, h.2 k]
  unfold nearB
  rw [List.any_eq_true]
  constructor
  · rintro ⟨x, hx, h2⟩
    obtain ⟨a, ha, h3⟩ := List.any_eq_true.1 h2
    obtain ⟨h4, h5, h6⟩ := (hit_iff hp hx k a).1 h3
    exact ⟨⟨h0, h1⟩, x, hx, h4, a, ha, h5, h6⟩
  · rintro ⟨-, x, hx, h4, a, ha, h5, h6⟩
    exact ⟨x, hx, List.any_eq_true.2 ⟨a, ha, (hit_iff hp hx k a).2 ⟨h4, h5, h6⟩⟩⟩
noncomputable def clRegion (k : Nat) : Code := (Try.f6.body.bind (regionAt k)).getD .skip
set_option maxRecDepth 1000000 in
set_option maxHeartbeats 4000000 in
theorem clean_r12 (u0 u1 u2 u3 u4 u5 u6 u7 u8 u9 u14 u15 u16 u17 u18 u19 u20 u21 u22 u23 u24 u25 u26 u27 u28 u29 u30 u31 u32 u33 u34 u35 u36 u37 u38 u39 u40 u41 u42 u43 u44 u45 u46 u47 u48 u49 u50 u51 u52 u53 u54 u55 u56 u57 u58 u59 u60 u61 u62 u63 u64 u65 u66 u67 u68 u69 u70 u71 u72 u73 u74 u75 u76 u77 u78 u79 u80 u81 u82 u83 u84 u85 u86 u87 u88 u89 u90 u91 u92 u93 u94 u95 u96 u97 u98 u99 u100 u101 u102 u103 u104 u105 u106 u107 u108 u109 u110 u111 u112 u113 u114 u115 u116 u117 u118 u119 u120 u121 u122 u123 u124 u125 u126 u127 u128 u129 u130 u131 u132 u133 u134 u135 u136 u137 u138 u139 u140 u141 u142 u143 u144 u145 u146 u147 u148 u149 u150 u151 u152 u153 u154 u155 u156 u157 u158 u159 u160 u161 u162 u163 u164 u165 u166 u167 u168 u169 u170 u171 u172 u173 u174 u175 u176 u177 u178 u179 u180 u181 u182 u183 u184 : Value) {g o m c R i : Nat} {n lo hi ph : Int} {X : World} {Q : Exit → Act → World → Prop}
    (hi0 : i < m) (hm9 : m ≤ 1000) (hlo : 0 ≤ lo) (hle : lo ≤ hi) (hn : hi < n) (hph : 0 < i → ph + 1 < lo ∧ 0 ≤ ph ∧ ph ≤ 1000000 ∧ X.cell? ⟨g, o + (i - 1) * 2 + 1, none⟩ = some (.int .i64 ph))
    (k0 : X.cell? ⟨R, 0, none⟩ = some (.int .i64 lo)) (k1 : X.cell? ⟨R, 1, none⟩ = some (.int .i64 hi))
    (hQ : Hid (∀ (x53 x54 x55 x56 x57 x58 x59 x60 x61 x62 x63 x64 x65 x66 x67 x68 x69 x70 x71 x72 x73 x74 x75 x76 x77 x78 x79 x80 x81 x82 x83 : Value) (nq : Nat), Q .normal ⟨List.toArray (u0 :: u1 :: u2 :: u3 :: u4 :: u5 :: u6 :: u7 :: u8 :: u9 :: (.int .i64 n) :: (.slice (some ⟨g, o, none⟩) m c) :: (.int .i64 (i : Int)) :: (.pointer (some ⟨R, 0, none⟩)) :: u14 :: u15 :: u16 :: u17 :: u18 :: u19 :: u20 :: u21 :: u22 :: u23 :: u24 :: u25 :: u26 :: u27 :: u28 :: u29 :: u30 :: u31 :: u32 :: u33 :: u34 :: u35 :: u36 :: u37 :: u38 :: u39 :: u40 :: u41 :: u42 :: u43 :: u44 :: u45 :: u46 :: u47 :: u48 :: u49 :: u50 :: u51 :: u52 :: x53 :: x54 :: x55 :: x56 :: x57 :: x58 :: x59 :: x60 :: x61 :: x62 :: x63 :: x64 :: x65 :: x66 :: x67 :: x68 :: x69 :: x70 :: x71 :: x72 :: x73 :: x74 :: x75 :: x76 :: x77 :: x78 :: x79 :: x80 :: x81 :: x82 :: x83 :: (.bool false) :: u85 :: u86 :: u87 :: u88 :: u89 :: u90 :: u91 :: u92 :: u93 :: u94 :: u95 :: u96 :: u97 :: u98 :: u99 :: u100 :: u101 :: u102 :: u103 :: u104 :: u105 :: u106 :: u107 :: u108 :: u109 :: u110 :: u111 :: u112 :: u113 :: u114 :: u115 :: u116 :: u117 :: u118 :: u119 :: u120 :: u121 :: u122 :: u123 :: u124 :: u125 :: u126 :: u127 :: u128 :: u129 :: u130 :: u131 :: u132 :: u133 :: u134 :: u135 :: u136 :: u137 :: u138 :: u139 :: u140 :: u141 :: u142 :: u143 :: u144 :: u145 :: u146 :: u147 :: u148 :: u149 :: u150 :: u151 :: u152 :: u153 :: u154 :: u155 :: u156 :: u157 :: u158 :: u159 :: u160 :: u161 :: u162 :: u163 :: u164 :: u165 :: u166 :: u167 :: u168 :: u169 :: u170 :: u171 :: u172 :: u173 :: u174 :: u175 :: u176 :: u177 :: u178 :: u179 :: u180 :: u181 :: u182 :: u183 :: u184 :: []), []⟩ (X.drewN nq))) :
    Code.wp Try.prog (clRegion 12) Q ⟨List.toArray (u0 :: u1 :: u2 :: u3 :: u4 :: u5 :: u6 :: u7 :: u8 :: u9 :: (.int .i64 n) :: (.slice (some ⟨g, o, none⟩) m c) :: (.int .i64 (i : Int)) :: (.pointer (some ⟨R, 0, none⟩)) :: u14 :: u15 :: u16 :: u17 :: u18 :: u19 :: u20 :: u21 :: u22 :: u23 :: u24 :: u25 :: u26 :: u27 :: u28 :: u29 :: u30 :: u31 :: u32 :: u33 :: u34 :: u35 :: u36 :: u37 :: u38 :: u39 :: u40 :: u41 :: u42 :: u43 :: u44 :: u45 :: u46 :: u47 :: u48 :: u49 :: u50 :: u51 :: u52 :: u53 :: u54 :: u55 :: u56 :: u57 :: u58 :: u59 :: u60 :: u61 :: u62 :: u63 :: u64 :: u65 :: u66 :: u67 :: u68 :: u69 :: u70 :: u71 :: u72 :: u73 :: u74 :: u75 :: u76 :: u77 :: u78 :: u79 :: u80 :: u81 :: u82 :: u83 :: u84 :: u85 :: u86 :: u87 :: u88 :: u89 :: u90 :: u91 :: u92 :: u93 :: u94 :: u95 :: u96 :: u97 :: u98 :: u99 :: u100 :: u101 :: u102 :: u103 :: u104 :: u105 :: u106 :: u107 :: u108 :: u109 :: u110 :: u111 :: u112 :: u113 :: u114 :: u115 :: u116 :: u117 :: u118 :: u119 :: u120 :: u121 :: u122 :: u123 :: u124 :: u125 :: u126 :: u127 :: u128 :: u129 :: u130 :: u131 :: u132 :: u133 :: u134 :: u135 :: u136 :: u137 :: u138 :: u139 :: u140 :: u141 :: u142 :: u143 :: u144 :: u145 :: u146 :: u147 :: u148 :: u149 :: u150 :: u151 :: u152 :: u153 :: u154 :: u155 :: u156 :: u157 :: u158 :: u159 :: u160 :: u161 :: u162 :: u163 :: u164 :: u165 :: u166 :: u167 :: u168 :: u169 :: u170 :: u171 :: u172 :: u173 :: u174 :: u175 :: u176 :: u177 :: u178 :: u179 :: u180 :: u181 :: u182 :: u183 :: u184 :: []), []⟩ X := by
  have g1 : decide (lo < 0) = false := by simp; omega
  have g2 : decide (n ≤ hi) = false := by simp; omega
  have g3 : decide (hi < lo) = false := by simp; omega
  rcases Nat.eq_zero_or_pos i with h0 | h0
  · have g4 : decide (0 < i) = false := by simp; omega
    clear hph
    conv => arg 2; whnf
    go_quiet (fail)
    exact hQ.out _ _ _ _ _ _ _ _ _ _ _ _ _ _ _ _ _ _ _ _ _ _ _ _ _ _ _ _ _ _ _ _
  · obtain ⟨h1, h2, h3, c0⟩ := hph h0
    obtain ⟨j, hj⟩ : ∃ j, i - 1 = j := ⟨_, rfl⟩
    rw [hj] at c0
    have g4' : decide (0 < i) = true := by simp [h0]
    have kw : IntKind.i64.wrap ((i : Int) - 1) = (j : Int) := by rw [show (i : Int) - 1 = (j : Int) by omega]; exact IntWalk.i64_in _ ⟨by omega, by omega⟩
    have g5 : decide (lo ≤ ph + 1) = false := by simp; omega
    have kw2 : IntKind.i64.wrap (ph + 1) = ph + 1 := IntWalk.i64_in _ ⟨by omega, by omega⟩
    have b1 : (j : Int) < (m : Int) := by omega
    have b0 : (0 : Int) ≤ (j : Int) := by omega
    clear hph h0 hj
    conv => arg 2; whnf
    go_quiet (fail)
    exact hQ.out _ _ _ _ _ _ _ _ _ _ _ _ _ _ _ _ _ _ _ _ _ _ _ _ _ _ _ _ _ _ _ _
set_option maxRecDepth 1000000 in
set_option maxHeartbeats 4000000 in
theorem clean_r25 (u0 u1 u2 u3 u4 u5 u6 u8 u9 u10 u11 u12 u13 u15 u16 u18 u19 u20 u21 u22 u23 u24 u25 u26 u27 u28 u29 u30 u31 u32 u33 u34 u35 u36 u37 u38 u39 u40 u41 u42 u43 u44 u45 u46 u47 u48 u49 u50 u51 u52 u53 u54 u55 u56 u57 u58 u59 u60 u61 u62 u63 u64 u65 u66 u67 u68 u69 u70 u71 u72 u73 u74 u75 u76 u77 u78 u79 u80 u81 u82 u83 u84 u85 u86 u87 u88 u89 u90 u91 u92 u93 u94 u95 u96 u97 u98 u99 u100 u101 u102 u103 u104 u105 u106 u107 u108 u109 u110 u111 u112 u113 u114 u115 u116 u117 u118 u119 u120 u121 u122 u123 u124 u125 u126 u127 u128 u129 u130 u131 u132 u133 u134 u135 u136 u137 u138 u139 u140 u141 u142 u143 u144 u145 u146 u147 u148 u149 u150 u151 u152 u153 u154 u155 u156 u157 u158 u159 u160 u161 u162 u163 u164 u165 u166 u167 u168 u169 u170 u171 u172 u173 u174 u175 u176 u177 u178 u179 u180 u181 u182 u183 u184 : Value) {P Wb : Nat} {k off mg cut : Int} {X : World} {Q : Exit → Act → World → Prop}
    (hk : 0 ≤ k ∧ k ≤ 1000000) (hm : 0 ≤ mg ∧ mg ≤ 20) (hc : 300 ≤ cut ∧ cut ≤ 1500) (ho : 0 ≤ off ∧ off ≤ 200000)
    (p0 : X.cell? ⟨P, 0, none⟩ = some (.int .i64 cut)) (p1 : X.cell? ⟨P, 1, none⟩ = some (.int .i64 mg)) (k1 : X.cell? ⟨Wb, 1, none⟩ = some (.int .i64 off))
    (hQ : Hid (∀ (x124 x125 x126 x127 x128 x129 x130 x131 x132 x133 x134 x135 x136 x137 x138 x139 x140 x141 x142 x143 x144 x145 : Value) (nq : Nat), Q .normal ⟨List.toArray (u0 :: u1 :: u2 :: u3 :: u4 :: u5 :: u6 :: (.pointer (some ⟨P, 0, none⟩)) :: u8 :: u9 :: u10 :: u11 :: u12 :: u13 :: (.int .i64 k) :: u15 :: u16 :: (.pointer (some ⟨Wb, 0, none⟩)) :: u18 :: u19 :: (.int .i64 (off + (k - mg) * cut)) :: (.int .i64 (off + (k + mg + 1) * cut - 1)) :: u22 :: u23 :: u24 :: u25 :: u26 :: u27 :: u28 :: u29 :: u30 :: u31 :: u32 :: u33 :: u34 :: u35 :: u36 :: u37 :: u38 :: u39 :: u40 :: u41 :: u42 :: u43 :: u44 :: u45 :: u46 :: u47 :: u48 :: u49 :: u50 :: u51 :: u52 :: u53 :: u54 :: u55 :: u56 :: u57 :: u58 :: u59 :: u60 :: u61 :: u62 :: u63 :: u64 :: u65 :: u66 :: u67 :: u68 :: u69 :: u70 :: u71 :: u72 :: u73 :: u74 :: u75 :: u76 :: u77 :: u78 :: u79 :: u80 :: u81 :: u82 :: u83 :: u84 :: u85 :: u86 :: u87 :: u88 :: u89 :: u90 :: u91 :: u92 :: u93 :: u94 :: u95 :: u96 :: u97 :: u98 :: u99 :: u100 :: u101 :: u102 :: u103 :: u104 :: u105 :: u106 :: u107 :: u108 :: u109 :: u110 :: u111 :: u112 :: u113 :: u114 :: u115 :: u116 :: u117 :: u118 :: u119 :: u120 :: u121 :: u122 :: u123 :: x124 :: x125 :: x126 :: x127 :: x128 :: x129 :: x130 :: x131 :: x132 :: x133 :: x134 :: x135 :: x136 :: x137 :: x138 :: x139 :: x140 :: x141 :: x142 :: x143 :: x144 :: x145 :: u146 :: u147 :: u148 :: u149 :: u150 :: u151 :: u152 :: u153 :: u154 :: u155 :: u156 :: u157 :: u158 :: u159 :: u160 :: u161 :: u162 :: u163 :: u164 :: u165 :: u166 :: u167 :: u168 :: u169 :: u170 :: u171 :: u172 :: u173 :: u174 :: u175 :: u176 :: u177 :: u178 :: u179 :: u180 :: u181 :: u182 :: u183 :: u184 :: []), []⟩ (X.drewN nq))) :
    Code.wp Try.prog (clRegion 25) Q ⟨List.toArray (u0 :: u1 :: u2 :: u3 :: u4 :: u5 :: u6 :: (.pointer (some ⟨P, 0, none⟩)) :: u8 :: u9 :: u10 :: u11 :: u12 :: u13 :: (.int .i64 k) :: u15 :: u16 :: (.pointer (some ⟨Wb, 0, none⟩)) :: u18 :: u19 :: u20 :: u21 :: u22 :: u23 :: u24 :: u25 :: u26 :: u27 :: u28 :: u29 :: u30 :: u31 :: u32 :: u33 :: u34 :: u35 :: u36 :: u37 :: u38 :: u39 :: u40 :: u41 :: u42 :: u43 :: u44 :: u45 :: u46 :: u47 :: u48 :: u49 :: u50 :: u51 :: u52 :: u53 :: u54 :: u55 :: u56 :: u57 :: u58 :: u59 :: u60 :: u61 :: u62 :: u63 :: u64 :: u65 :: u66 :: u67 :: u68 :: u69 :: u70 :: u71 :: u72 :: u73 :: u74 :: u75 :: u76 :: u77 :: u78 :: u79 :: u80 :: u81 :: u82 :: u83 :: u84 :: u85 :: u86 :: u87 :: u88 :: u89 :: u90 :: u91 :: u92 :: u93 :: u94 :: u95 :: u96 :: u97 :: u98 :: u99 :: u100 :: u101 :: u102 :: u103 :: u104 :: u105 :: u106 :: u107 :: u108 :: u109 :: u110 :: u111 :: u112 :: u113 :: u114 :: u115 :: u116 :: u117 :: u118 :: u119 :: u120 :: u121 :: u122 :: u123 :: u124 :: u125 :: u126 :: u127 :: u128 :: u129 :: u130 :: u131 :: u132 :: u133 :: u134 :: u135 :: u136 :: u137 :: u138 :: u139 :: u140 :: u141 :: u142 :: u143 :: u144 :: u145 :: u146 :: u147 :: u148 :: u149 :: u150 :: u151 :: u152 :: u153 :: u154 :: u155 :: u156 :: u157 :: u158 :: u159 :: u160 :: u161 :: u162 :: u163 :: u164 :: u165 :: u166 :: u167 :: u168 :: u169 :: u170 :: u171 :: u172 :: u173 :: u174 :: u175 :: u176 :: u177 :: u178 :: u179 :: u180 :: u181 :: u182 :: u183 :: u184 :: []), []⟩ X := by
  obtain ⟨y1, hy1⟩ : ∃ y, (k - mg) * cut = y := ⟨_, rfl⟩
  obtain ⟨y2, hy2⟩ : ∃ y, (k + mg + 1) * cut = y := ⟨_, rfl⟩
  rw [hy1, hy2] at hQ
  have b1 : -30000 ≤ y1 ∧ y1 ≤ 1500000000 := by
    rw [← hy1]
    constructor
    · have h1 : (-20) * cut ≤ (k - mg) * cut := Int.mul_le_mul_of_nonneg_right (by omega) (by omega)
      omega
    · have h1 : (k - mg) * cut ≤ 1000000 * cut := Int.mul_le_mul_of_nonneg_right (by omega) (by omega)
      omega
  have b2 : 0 ≤ y2 ∧ y2 ≤ 1600000000 := by
    rw [← hy2]
    constructor
    · exact Int.mul_nonneg (by omega) (by omega)
    · have h1 : (k + mg + 1) * cut ≤ 1000021 * cut := Int.mul_le_mul_of_nonneg_right (by omega) (by omega)
      omega
  have kw1 : IntKind.i64.wrap (k - mg) = k - mg := IntWalk.i64_in _ ⟨by omega, by omega⟩
  have kw2 : IntKind.i64.wrap y1 = y1 := IntWalk.i64_in _ ⟨by omega, by omega⟩
  have kw3 : IntKind.i64.wrap (off + y1) = off + y1 := IntWalk.i64_in _ ⟨by omega, by omega⟩
  have kw4 : IntKind.i64.wrap (k + mg) = k + mg := IntWalk.i64_in _ ⟨by omega, by omega⟩
  have kw5 : IntKind.i64.wrap (k + mg + 1) = k + mg + 1 := IntWalk.i64_in _ ⟨by omega, by omega⟩
  have kw6 : IntKind.i64.wrap y2 = y2 := IntWalk.i64_in _ ⟨by omega, by omega⟩
  have kw7 : IntKind.i64.wrap (off + y2) = off + y2 := IntWalk.i64_in _ ⟨by omega, by omega⟩
  have kw8 : IntKind.i64.wrap (off + y2 - 1) = off + y2 - 1 := IntWalk.i64_in _ ⟨by omega, by omega⟩
  conv => arg 2; whnf
  go_quiet (fail)
  exact hQ.out _ _ _ _ _ _ _ _ _ _ _ _ _ _ _ _ _ _ _ _ _ _ _
end Go.Proofs.Ytpkepacbondopaa
