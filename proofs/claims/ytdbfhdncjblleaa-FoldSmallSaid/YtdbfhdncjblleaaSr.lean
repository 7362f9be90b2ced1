/-
  FoldSmall: the runs at their limits.
-/
import Derived.Test.YtdbfhdncjblleaaSo
namespace Go.Proofs.Ytdbfhdncjblleaa
open Go.RowKit

/-- A run in memory, four cells side by side, that reads. -/
def RunAt (b o : Nat) (Y : World) : Prop := ∃ A1 n1 c1 A2 n2 c2 A3 n3 c3 cb r, Y.cell? ⟨b, o, none⟩ = some (.slice A1 n1 c1) ∧ Y.cell? ⟨b, o + 1, none⟩ = some (.slice A2 n2 c2) ∧ Y.cell? ⟨b, o + 2, none⟩ = some (.slice A3 n3 c3) ∧ Y.cell? ⟨b, o + 3, none⟩ = some (.bool cb) ∧ RRun Y.heap.size Y (.agg #[.slice A1 n1 c1, .slice A2 n2 c2, .slice A3 n3 c3, .bool cb]) r
theorem RunAt.below {b o : Nat} {Y Z : World} (h : RunAt b o Y) (hb : b < Y.heap.size) (hz : Below Y.heap.size Y Z) : RunAt b o Z := by
  obtain ⟨A1, n1, c1, A2, n2, c2, A3, n3, c3, cb, r, h1, h2, h3, h4, h5⟩ := h
  exact ⟨A1, n1, c1, A2, n2, c2, A3, n3, c3, cb, r, (hz.cell (p := ⟨b, o, none⟩) hb).trans h1, (hz.cell (p := ⟨b, o + 1, none⟩) hb).trans h2, (hz.cell (p := ⟨b, o + 2, none⟩) hb).trans h3, (hz.cell (p := ⟨b, o + 3, none⟩) hb).trans h4, (RRun.below h5 hz).more hz.size⟩
def Wides (b : Nat) (Y : World) : Prop := b < Y.heap.size ∧ ∀ k : Nat, k < 6 → RunAt b (k * 4) Y
theorem Wides.below {b : Nat} {Y Z : World} (h : Wides b Y) (hz : Below Y.heap.size Y Z) : Wides b Z := ⟨Nat.lt_of_lt_of_le h.1 hz.size, fun k hk => (h.2 k hk).below h.1 hz⟩
theorem run_zero (w : World) : RRun w.heap.size w (.agg #[.slice none 0 0, .slice none 0 0, .slice none 0 0, .bool false]) ⟨[], [], [], false⟩ :=
  ⟨_, _, _, rfl, ⟨[], Rd.nil, rfl, fun i u x hu _ => by simp at hu⟩, Rd.nil, ⟨[], Rd.nil, rfl, fun i u x hu _ => by simp at hu⟩⟩
theorem wides_of {W Y : World} {A0 B0 D0 A1 B1 D1 A2 B2 D2 A3 B3 D3 A4 B4 D4 A5 B5 D5 : Option Addr} {n0 c0 m0 d0 l0 e0 n1 c1 m1 d1 l1 e1 n2 c2 m2 d2 l2 e2 n3 c3 m3 d3 l3 e3 n4 c4 m4 d4 l4 e4 n5 c5 m5 d5 l5 e5 : Nat} {g0 g1 g2 g3 g4 g5 : Bool} {r0 r1 r2 r3 r4 r5 : RunD}
    (h0 : RRun W.heap.size W (.agg #[.slice A0 n0 c0, .slice B0 m0 d0, .slice D0 l0 e0, .bool g0]) r0) (h1 : RRun W.heap.size W (.agg #[.slice A1 n1 c1, .slice B1 m1 d1, .slice D1 l1 e1, .bool g1]) r1) (h2 : RRun W.heap.size W (.agg #[.slice A2 n2 c2, .slice B2 m2 d2, .slice D2 l2 e2, .bool g2]) r2) (h3 : RRun W.heap.size W (.agg #[.slice A3 n3 c3, .slice B3 m3 d3, .slice D3 l3 e3, .bool g3]) r3) (h4 : RRun W.heap.size W (.agg #[.slice A4 n4 c4, .slice B4 m4 d4, .slice D4 l4 e4, .bool g4]) r4) (h5 : RRun W.heap.size W (.agg #[.slice A5 n5 c5, .slice B5 m5 d5, .slice D5 l5 e5, .bool g5]) r5)
    (hY : Y = W.alloc (.cells #[.slice A0 n0 c0, .slice B0 m0 d0, .slice D0 l0 e0, .bool g0, .slice A1 n1 c1, .slice B1 m1 d1, .slice D1 l1 e1, .bool g1, .slice A2 n2 c2, .slice B2 m2 d2, .slice D2 l2 e2, .bool g2, .slice A3 n3 c3, .slice B3 m3 d3, .slice D3 l3 e3, .bool g3, .slice A4 n4 c4, .slice B4 m4 d4, .slice D4 l4 e4, .bool g4, .slice A5 n5 c5, .slice B5 m5 d5, .slice D5 l5 e5, .bool g5] 26)) : Wides W.heap.size Y := by
  subst hY
  have hB := Blk.new W 26 #[.slice A0 n0 c0, .slice B0 m0 d0, .slice D0 l0 e0, .bool g0, .slice A1 n1 c1, .slice B1 m1 d1, .slice D1 l1 e1, .bool g1, .slice A2 n2 c2, .slice B2 m2 d2, .slice D2 l2 e2, .bool g2, .slice A3 n3 c3, .slice B3 m3 d3, .slice D3 l3 e3, .bool g3, .slice A4 n4 c4, .slice B4 m4 d4, .slice D4 l4 e4, .bool g4, .slice A5 n5 c5, .slice B5 m5 d5, .slice D5 l5 e5, .bool g5]
  have hb := below_alloc W (.cells #[.slice A0 n0 c0, .slice B0 m0 d0, .slice D0 l0 e0, .bool g0, .slice A1 n1 c1, .slice B1 m1 d1, .slice D1 l1 e1, .bool g1, .slice A2 n2 c2, .slice B2 m2 d2, .slice D2 l2 e2, .bool g2, .slice A3 n3 c3, .slice B3 m3 d3, .slice D3 l3 e3, .bool g3, .slice A4 n4 c4, .slice B4 m4 d4, .slice D4 l4 e4, .bool g4, .slice A5 n5 c5, .slice B5 m5 d5, .slice D5 l5 e5, .bool g5] 26)
  refine ⟨hB.lt, fun k hk => ?_⟩
  match k, hk with
  | 0, _ => exact ⟨_, _, _, _, _, _, _, _, _, _, r0, cellOf hB 0 rfl, cellOf hB 1 rfl, cellOf hB 2 rfl, cellOf hB 3 rfl, (RRun.below h0 hb).more hb.size⟩
  | 1, _ => exact ⟨_, _, _, _, _, _, _, _, _, _, r1, cellOf hB 4 rfl, cellOf hB 5 rfl, cellOf hB 6 rfl, cellOf hB 7 rfl, (RRun.below h1 hb).more hb.size⟩
  | 2, _ => exact ⟨_, _, _, _, _, _, _, _, _, _, r2, cellOf hB 8 rfl, cellOf hB 9 rfl, cellOf hB 10 rfl, cellOf hB 11 rfl, (RRun.below h2 hb).more hb.size⟩
  | 3, _ => exact ⟨_, _, _, _, _, _, _, _, _, _, r3, cellOf hB 12 rfl, cellOf hB 13 rfl, cellOf hB 14 rfl, cellOf hB 15 rfl, (RRun.below h3 hb).more hb.size⟩
  | 4, _ => exact ⟨_, _, _, _, _, _, _, _, _, _, r4, cellOf hB 16 rfl, cellOf hB 17 rfl, cellOf hB 18 rfl, cellOf hB 19 rfl, (RRun.below h4 hb).more hb.size⟩
  | 5, _ => exact ⟨_, _, _, _, _, _, _, _, _, _, r5, cellOf hB 20 rfl, cellOf hB 21 rfl, cellOf hB 22 rfl, cellOf hB 23 rfl, (RRun.below h5 hb).more hb.size⟩

set_option maxRecDepth 1000000 in
set_option maxHeartbeats 4000000 in
theorem small_wides (u0 u1 u2 u3 u4 u5 u6 u7 u8 u9 u10 u11 u12 u13 u14 u15 u16 u17 u18 u19 u20 u21 u22 u23 u24 u25 u26 u27 u28 u29 u30 u31 u32 u33 u34 u35 u36 u37 u38 u39 u40 u41 u42 u43 u44 u45 u46 u47 u48 u49 u50 u51 u52 u53 u54 u55 u56 u57 u58 u59 u60 u61 u62 u63 u64 u65 u66 u67 u68 u69 u70 u71 u72 u73 u74 u75 u76 u77 u78 u79 u80 u81 u82 u83 u84 u85 u86 u87 u88 u89 u90 u91 u92 u93 u94 u95 u96 u97 u98 u99 u100 u101 u102 u103 u104 u105 u106 u107 u108 u109 u110 u111 u112 u113 u114 u115 u116 u117 u118 u119 u120 u121 u122 u123 u124 u125 u126 u127 u128 u129 u130 u131 u132 u133 u134 u135 u136 u137 u138 u139 u140 u141 u142 u143 u144 u145 u146 u147 u148 u149 u150 u151 u152 u153 u154 u155 u156 u157 u158 u159 u160 u161 u162 u163 u164 u165 u166 u167 u168 u169 u170 u171 u172 u173 u174 u175 u176 u177 u178 u179 u180 u181 u182 u183 u184 u185 u186 u187 u188 u189 u190 u191 u192 u193 u194 u195 u196 u197 u198 u199 u200 u201 u202 u203 u204 u205 u206 u207 u208 u209 u210 u211 u212 u213 u214 u215 u216 u217 u218 u219 u220 u221 u222 u223 u224 u225 u226 u227 u228 u229 u230 u231 u232 u233 u234 u235 u236 u237 u238 u239 u240 u241 u242 u243 u244 u245 u246 u247 u248 u249 u250 u251 u252 u253 u254 u255 u256 u257 u258 u259 u260 u261 u262 u263 u264 u265 u266 u267 u268 u269 u270 u271 u272 u273 u274 u275 u276 u277 : Value) {X : World} {Q : Exit → Act → World → Prop}
    (hQ : Hid (∀ (x245 x246 x247 x248 x249 x250 : Value) (b : Nat) (Y : World), Wides b Y → Below X.heap.size X Y → Q .normal ⟨List.toArray (u0 :: u1 :: u2 :: u3 :: u4 :: u5 :: u6 :: u7 :: u8 :: u9 :: u10 :: u11 :: u12 :: u13 :: u14 :: u15 :: u16 :: u17 :: u18 :: u19 :: u20 :: u21 :: u22 :: u23 :: u24 :: u25 :: u26 :: u27 :: u28 :: u29 :: u30 :: u31 :: u32 :: u33 :: u34 :: u35 :: u36 :: u37 :: u38 :: u39 :: u40 :: u41 :: u42 :: u43 :: u44 :: u45 :: u46 :: u47 :: u48 :: u49 :: u50 :: u51 :: u52 :: u53 :: u54 :: u55 :: u56 :: u57 :: u58 :: u59 :: u60 :: u61 :: u62 :: u63 :: u64 :: u65 :: u66 :: u67 :: u68 :: u69 :: u70 :: u71 :: u72 :: u73 :: u74 :: u75 :: u76 :: u77 :: u78 :: u79 :: u80 :: u81 :: u82 :: u83 :: u84 :: u85 :: u86 :: u87 :: u88 :: u89 :: u90 :: u91 :: u92 :: u93 :: u94 :: u95 :: u96 :: u97 :: u98 :: u99 :: u100 :: u101 :: u102 :: u103 :: u104 :: u105 :: u106 :: u107 :: u108 :: u109 :: u110 :: u111 :: u112 :: u113 :: u114 :: u115 :: u116 :: u117 :: u118 :: u119 :: u120 :: u121 :: u122 :: u123 :: u124 :: u125 :: u126 :: u127 :: u128 :: u129 :: u130 :: u131 :: u132 :: u133 :: u134 :: u135 :: u136 :: u137 :: u138 :: u139 :: u140 :: u141 :: u142 :: u143 :: u144 :: u145 :: u146 :: u147 :: u148 :: u149 :: u150 :: u151 :: u152 :: u153 :: u154 :: u155 :: u156 :: u157 :: u158 :: u159 :: u160 :: u161 :: u162 :: u163 :: u164 :: u165 :: u166 :: u167 :: u168 :: u169 :: u170 :: u171 :: u172 :: u173 :: u174 :: u175 :: u176 :: u177 :: u178 :: u179 :: u180 :: u181 :: u182 :: u183 :: u184 :: u185 :: u186 :: u187 :: u188 :: u189 :: u190 :: u191 :: u192 :: u193 :: u194 :: u195 :: u196 :: u197 :: u198 :: u199 :: u200 :: u201 :: u202 :: u203 :: u204 :: u205 :: u206 :: u207 :: u208 :: u209 :: u210 :: u211 :: u212 :: u213 :: u214 :: u215 :: u216 :: u217 :: u218 :: u219 :: u220 :: u221 :: u222 :: u223 :: u224 :: u225 :: u226 :: u227 :: u228 :: u229 :: u230 :: u231 :: u232 :: u233 :: u234 :: u235 :: u236 :: u237 :: u238 :: u239 :: u240 :: u241 :: u242 :: u243 :: u244 :: x245 :: x246 :: x247 :: x248 :: x249 :: x250 :: (.slice (some ⟨b, 0, none⟩) 6 6) :: (.int .i64 6) :: (.int .i64 0) :: u254 :: u255 :: u256 :: u257 :: u258 :: u259 :: u260 :: u261 :: u262 :: u263 :: u264 :: u265 :: u266 :: u267 :: u268 :: u269 :: u270 :: u271 :: u272 :: u273 :: u274 :: u275 :: u276 :: u277 :: []), []⟩ Y)) :
    Code.wp Try.prog (smallRegion 53) Q ⟨List.toArray (u0 :: u1 :: u2 :: u3 :: u4 :: u5 :: u6 :: u7 :: u8 :: u9 :: u10 :: u11 :: u12 :: u13 :: u14 :: u15 :: u16 :: u17 :: u18 :: u19 :: u20 :: u21 :: u22 :: u23 :: u24 :: u25 :: u26 :: u27 :: u28 :: u29 :: u30 :: u31 :: u32 :: u33 :: u34 :: u35 :: u36 :: u37 :: u38 :: u39 :: u40 :: u41 :: u42 :: u43 :: u44 :: u45 :: u46 :: u47 :: u48 :: u49 :: u50 :: u51 :: u52 :: u53 :: u54 :: u55 :: u56 :: u57 :: u58 :: u59 :: u60 :: u61 :: u62 :: u63 :: u64 :: u65 :: u66 :: u67 :: u68 :: u69 :: u70 :: u71 :: u72 :: u73 :: u74 :: u75 :: u76 :: u77 :: u78 :: u79 :: u80 :: u81 :: u82 :: u83 :: u84 :: u85 :: u86 :: u87 :: u88 :: u89 :: u90 :: u91 :: u92 :: u93 :: u94 :: u95 :: u96 :: u97 :: u98 :: u99 :: u100 :: u101 :: u102 :: u103 :: u104 :: u105 :: u106 :: u107 :: u108 :: u109 :: u110 :: u111 :: u112 :: u113 :: u114 :: u115 :: u116 :: u117 :: u118 :: u119 :: u120 :: u121 :: u122 :: u123 :: u124 :: u125 :: u126 :: u127 :: u128 :: u129 :: u130 :: u131 :: u132 :: u133 :: u134 :: u135 :: u136 :: u137 :: u138 :: u139 :: u140 :: u141 :: u142 :: u143 :: u144 :: u145 :: u146 :: u147 :: u148 :: u149 :: u150 :: u151 :: u152 :: u153 :: u154 :: u155 :: u156 :: u157 :: u158 :: u159 :: u160 :: u161 :: u162 :: u163 :: u164 :: u165 :: u166 :: u167 :: u168 :: u169 :: u170 :: u171 :: u172 :: u173 :: u174 :: u175 :: u176 :: u177 :: u178 :: u179 :: u180 :: u181 :: u182 :: u183 :: u184 :: u185 :: u186 :: u187 :: u188 :: u189 :: u190 :: u191 :: u192 :: u193 :: u194 :: u195 :: u196 :: u197 :: u198 :: u199 :: u200 :: u201 :: u202 :: u203 :: u204 :: u205 :: u206 :: u207 :: u208 :: u209 :: u210 :: u211 :: u212 :: u213 :: u214 :: u215 :: u216 :: u217 :: u218 :: u219 :: u220 :: u221 :: u222 :: u223 :: u224 :: u225 :: u226 :: u227 :: u228 :: u229 :: u230 :: u231 :: u232 :: u233 :: u234 :: u235 :: u236 :: u237 :: u238 :: u239 :: u240 :: u241 :: u242 :: u243 :: u244 :: u245 :: u246 :: u247 :: u248 :: u249 :: u250 :: u251 :: u252 :: u253 :: u254 :: u255 :: u256 :: u257 :: u258 :: u259 :: u260 :: u261 :: u262 :: u263 :: u264 :: u265 :: u266 :: u267 :: u268 :: u269 :: u270 :: u271 :: u272 :: u273 :: u274 :: u275 :: u276 :: u277 :: []), []⟩ X := by
  have C1 : Hid (∀ W, Calls Try.prog 38 #[.int .i64 9, .int .i64 4, .int .i64 2] W fun e w' => ∃ u r, e = .returned u ∧ RRun w'.heap.size w' u r ∧ Below W.heap.size W w') := fun W => wide_any 9 4 2 16 W (by omega) (by omega) (by omega) (by omega) (by omega)
  have C2 : Hid (∀ W, Calls Try.prog 38 #[.int .i64 8, .int .i64 4, .int .i64 2] W fun e w' => ∃ u r, e = .returned u ∧ RRun w'.heap.size w' u r ∧ Below W.heap.size W w') := fun W => wide_any 8 4 2 16 W (by omega) (by omega) (by omega) (by omega) (by omega)
  have C3 : Hid (∀ W, Calls Try.prog 38 #[.int .i64 8, .int .i64 5, .int .i64 1] W fun e w' => ∃ u r, e = .returned u ∧ RRun w'.heap.size w' u r ∧ Below W.heap.size W w') := fun W => wide_any 8 5 1 10 W (by omega) (by omega) (by omega) (by omega) (by omega)
  have C4 : Hid (∀ W, Calls Try.prog 38 #[.int .i64 1, .int .i64 1, .int .i64 3] W fun e w' => ∃ u r, e = .returned u ∧ RRun w'.heap.size w' u r ∧ Below W.heap.size W w') := fun W => wide_any 1 1 3 6 W (by omega) (by omega) (by omega) (by omega) (by omega)
  have C5 : Hid (∀ W, Calls Try.prog 38 #[.int .i64 1, .int .i64 0, .int .i64 1] W fun e w' => ∃ u r, e = .returned u ∧ RRun w'.heap.size w' u r ∧ Below W.heap.size W w') := fun W => wide_any 1 0 1 0 W (by omega) (by omega) (by omega) (by omega) (by omega)
  conv => arg 2; whnf
  go_wp2_with fail
  refine (C1.out _).mono ?_
  rintro _ w1 ⟨u1, r1, rfl, h1, hb1⟩
  obtain ⟨A1, c1, B1, d1, D1, e1, rfl⟩ := h1.shape
  obtain ⟨n1, hn1⟩ : ∃ n, r1.webs.length = n := ⟨_, rfl⟩
  obtain ⟨m1, hm1⟩ : ∃ n, r1.ribs.length = n := ⟨_, rfl⟩
  obtain ⟨l1, hl1⟩ : ∃ n, r1.stacks.length = n := ⟨_, rfl⟩
  obtain ⟨g1, hg1⟩ : ∃ n, r1.coll = n := ⟨_, rfl⟩
  rw [hn1, hm1, hl1, hg1] at h1
  try rw [hn1, hm1, hl1, hg1]
  have H1 := Lib.hid h1
  have B91 := Lib.hid hb1
  clear h1 hb1 hn1 hm1 hl1 hg1
  go_wp2_with fail
  refine (C2.out _).mono ?_
  rintro _ w2 ⟨u2, r2, rfl, h2, hb2⟩
  obtain ⟨A2, c2, B2, d2, D2, e2, rfl⟩ := h2.shape
  obtain ⟨n2, hn2⟩ : ∃ n, r2.webs.length = n := ⟨_, rfl⟩
  obtain ⟨m2, hm2⟩ : ∃ n, r2.ribs.length = n := ⟨_, rfl⟩
  obtain ⟨l2, hl2⟩ : ∃ n, r2.stacks.length = n := ⟨_, rfl⟩
  obtain ⟨g2, hg2⟩ : ∃ n, r2.coll = n := ⟨_, rfl⟩
  rw [hn2, hm2, hl2, hg2] at h2
  try rw [hn2, hm2, hl2, hg2]
  have H2 := Lib.hid h2
  have B92 := Lib.hid hb2
  clear h2 hb2 hn2 hm2 hl2 hg2
  go_wp2_with fail
  refine (C3.out _).mono ?_
  rintro _ w3 ⟨u3, r3, rfl, h3, hb3⟩
  obtain ⟨A3, c3, B3, d3, D3, e3, rfl⟩ := h3.shape
  obtain ⟨n3, hn3⟩ : ∃ n, r3.webs.length = n := ⟨_, rfl⟩
  obtain ⟨m3, hm3⟩ : ∃ n, r3.ribs.length = n := ⟨_, rfl⟩
  obtain ⟨l3, hl3⟩ : ∃ n, r3.stacks.length = n := ⟨_, rfl⟩
  obtain ⟨g3, hg3⟩ : ∃ n, r3.coll = n := ⟨_, rfl⟩
  rw [hn3, hm3, hl3, hg3] at h3
  try rw [hn3, hm3, hl3, hg3]
  have H3 := Lib.hid h3
  have B93 := Lib.hid hb3
  clear h3 hb3 hn3 hm3 hl3 hg3
  go_wp2_with fail
  refine (C4.out _).mono ?_
  rintro _ w4 ⟨u4, r4, rfl, h4, hb4⟩
  obtain ⟨A4, c4, B4, d4, D4, e4, rfl⟩ := h4.shape
  obtain ⟨n4, hn4⟩ : ∃ n, r4.webs.length = n := ⟨_, rfl⟩
  obtain ⟨m4, hm4⟩ : ∃ n, r4.ribs.length = n := ⟨_, rfl⟩
  obtain ⟨l4, hl4⟩ : ∃ n, r4.stacks.length = n := ⟨_, rfl⟩
  obtain ⟨g4, hg4⟩ : ∃ n, r4.coll = n := ⟨_, rfl⟩
  rw [hn4, hm4, hl4, hg4] at h4
  try rw [hn4, hm4, hl4, hg4]
  have H4 := Lib.hid h4
  have B94 := Lib.hid hb4
  clear h4 hb4 hn4 hm4 hl4 hg4
  go_wp2_with fail
  refine (C5.out _).mono ?_
  rintro _ w5 ⟨u5, r5, rfl, h5, hb5⟩
  obtain ⟨A5, c5, B5, d5, D5, e5, rfl⟩ := h5.shape
  obtain ⟨n5, hn5⟩ : ∃ n, r5.webs.length = n := ⟨_, rfl⟩
  obtain ⟨m5, hm5⟩ : ∃ n, r5.ribs.length = n := ⟨_, rfl⟩
  obtain ⟨l5, hl5⟩ : ∃ n, r5.stacks.length = n := ⟨_, rfl⟩
  obtain ⟨g5, hg5⟩ : ∃ n, r5.coll = n := ⟨_, rfl⟩
  rw [hn5, hm5, hl5, hg5] at h5
  try rw [hn5, hm5, hl5, hg5]
  have H5 := Lib.hid h5
  have B95 := Lib.hid hb5
  clear h5 hb5 hn5 hm5 hl5 hg5
  clear C1 C2 C3 C4 C5
  go_wp2_with fail
  have k45 := B95.out
  have k35 := B94.out.trans (k45.mono B94.out.size)
  have k25 := B93.out.trans (k35.mono B93.out.size)
  have k15 := B92.out.trans (k25.mono B92.out.size)
  have kX5 := B91.out.trans (k15.mono B91.out.size)
  have hW := wides_of (run_zero w5) ((RRun.below H1.out k15).more k15.size) ((RRun.below H2.out k25).more k25.size) ((RRun.below H3.out k35).more k35.size) ((RRun.below H4.out k45).more k45.size) H5.out rfl
  exact hQ.out _ _ _ _ _ _ _ _ hW (kX5.alloc kX5.size _)

set_option maxRecDepth 1000000 in
set_option maxHeartbeats 4000000 in
theorem small_last (u0 u1 u2 u3 u4 u5 u6 u7 u8 u9 u10 u11 u12 u13 u14 u15 u16 u17 u18 u19 u20 u21 u22 u23 u24 u25 u26 u27 u28 u29 u30 u31 u32 u33 u34 u35 u36 u37 u38 u39 u40 u41 u42 u43 u44 u45 u46 u47 u48 u49 u50 u51 u52 u53 u54 u55 u56 u57 u58 u59 u60 u61 u62 u63 u64 u65 u66 u67 u68 u69 u70 u71 u72 u73 u74 u75 u76 u77 u78 u79 u80 u81 u82 u83 u84 u85 u86 u87 u88 u89 u90 u91 u92 u93 u94 u95 u96 u97 u98 u99 u100 u101 u102 u103 u104 u105 u106 u107 u108 u109 u110 u111 u112 u113 u114 u115 u116 u117 u118 u119 u120 u121 u122 u123 u124 u125 u126 u127 u128 u129 u130 u131 u132 u133 u134 u135 u136 u137 u138 u139 u140 u141 u142 u143 u144 u145 u146 u147 u148 u149 u150 u151 u152 u153 u154 u155 u156 u157 u158 u159 u160 u161 u162 u163 u164 u165 u166 u167 u168 u169 u170 u171 u172 u173 u174 u175 u176 u177 u178 u179 u180 u181 u182 u183 u184 u185 u186 u187 u188 u189 u190 u191 u192 u193 u194 u195 u196 u197 u198 u199 u200 u201 u202 u203 u204 u205 u206 u207 u208 u209 u210 u211 u212 u213 u214 u215 u216 u217 u218 u219 u220 u221 u222 u223 u224 u225 u226 u227 u228 u229 u230 u231 u232 u233 u234 u235 u236 u237 u238 u239 u240 u241 u242 u243 u244 u245 u246 u247 u248 u249 u250 u254 u255 u256 u257 u258 u259 u260 u261 u262 u263 u264 u265 u266 u267 u268 u269 u270 u271 u272 u273 u274 u275 u276 u277 : Value) {b k : Nat} {X : World} {Q : Exit → Act → World → Prop}
    (RC : Hid RefCheckOk) (hk : k < 6) (hW : Hid (Wides b X))
    (hQ : Hid (∀ (x22 x23 x254 x255 x256 x257 x258 x259 x260 x261 x262 x263 x264 x265 x266 x267 x268 x269 x270 x271 x272 x273 x274 x275 x276 : Value) (Y : World), Below X.heap.size X Y → Q .normal ⟨List.toArray (u0 :: u1 :: u2 :: u3 :: u4 :: u5 :: u6 :: u7 :: u8 :: u9 :: u10 :: u11 :: u12 :: u13 :: u14 :: u15 :: u16 :: u17 :: u18 :: u19 :: u20 :: u21 :: x22 :: x23 :: u24 :: u25 :: u26 :: u27 :: u28 :: u29 :: u30 :: u31 :: u32 :: u33 :: u34 :: u35 :: u36 :: u37 :: u38 :: u39 :: u40 :: u41 :: u42 :: u43 :: u44 :: u45 :: u46 :: u47 :: u48 :: u49 :: u50 :: u51 :: u52 :: u53 :: u54 :: u55 :: u56 :: u57 :: u58 :: u59 :: u60 :: u61 :: u62 :: u63 :: u64 :: u65 :: u66 :: u67 :: u68 :: u69 :: u70 :: u71 :: u72 :: u73 :: u74 :: u75 :: u76 :: u77 :: u78 :: u79 :: u80 :: u81 :: u82 :: u83 :: u84 :: u85 :: u86 :: u87 :: u88 :: u89 :: u90 :: u91 :: u92 :: u93 :: u94 :: u95 :: u96 :: u97 :: u98 :: u99 :: u100 :: u101 :: u102 :: u103 :: u104 :: u105 :: u106 :: u107 :: u108 :: u109 :: u110 :: u111 :: u112 :: u113 :: u114 :: u115 :: u116 :: u117 :: u118 :: u119 :: u120 :: u121 :: u122 :: u123 :: u124 :: u125 :: u126 :: u127 :: u128 :: u129 :: u130 :: u131 :: u132 :: u133 :: u134 :: u135 :: u136 :: u137 :: u138 :: u139 :: u140 :: u141 :: u142 :: u143 :: u144 :: u145 :: u146 :: u147 :: u148 :: u149 :: u150 :: u151 :: u152 :: u153 :: u154 :: u155 :: u156 :: u157 :: u158 :: u159 :: u160 :: u161 :: u162 :: u163 :: u164 :: u165 :: u166 :: u167 :: u168 :: u169 :: u170 :: u171 :: u172 :: u173 :: u174 :: u175 :: u176 :: u177 :: u178 :: u179 :: u180 :: u181 :: u182 :: u183 :: u184 :: u185 :: u186 :: u187 :: u188 :: u189 :: u190 :: u191 :: u192 :: u193 :: u194 :: u195 :: u196 :: u197 :: u198 :: u199 :: u200 :: u201 :: u202 :: u203 :: u204 :: u205 :: u206 :: u207 :: u208 :: u209 :: u210 :: u211 :: u212 :: u213 :: u214 :: u215 :: u216 :: u217 :: u218 :: u219 :: u220 :: u221 :: u222 :: u223 :: u224 :: u225 :: u226 :: u227 :: u228 :: u229 :: u230 :: u231 :: u232 :: u233 :: u234 :: u235 :: u236 :: u237 :: u238 :: u239 :: u240 :: u241 :: u242 :: u243 :: u244 :: u245 :: u246 :: u247 :: u248 :: u249 :: u250 :: (.slice (some ⟨b, 0, none⟩) 6 6) :: (.int .i64 6) :: (.int .i64 ((k : Int) + 1)) :: x254 :: x255 :: x256 :: x257 :: x258 :: x259 :: x260 :: x261 :: x262 :: x263 :: x264 :: x265 :: x266 :: x267 :: x268 :: x269 :: x270 :: x271 :: x272 :: x273 :: x274 :: x275 :: x276 :: u277 :: []), []⟩ Y)) :
    Code.wp Try.prog (smallLoop 54) Q ⟨List.toArray (u0 :: u1 :: u2 :: u3 :: u4 :: u5 :: u6 :: u7 :: u8 :: u9 :: u10 :: u11 :: u12 :: u13 :: u14 :: u15 :: u16 :: u17 :: u18 :: u19 :: u20 :: u21 :: u22 :: u23 :: u24 :: u25 :: u26 :: u27 :: u28 :: u29 :: u30 :: u31 :: u32 :: u33 :: u34 :: u35 :: u36 :: u37 :: u38 :: u39 :: u40 :: u41 :: u42 :: u43 :: u44 :: u45 :: u46 :: u47 :: u48 :: u49 :: u50 :: u51 :: u52 :: u53 :: u54 :: u55 :: u56 :: u57 :: u58 :: u59 :: u60 :: u61 :: u62 :: u63 :: u64 :: u65 :: u66 :: u67 :: u68 :: u69 :: u70 :: u71 :: u72 :: u73 :: u74 :: u75 :: u76 :: u77 :: u78 :: u79 :: u80 :: u81 :: u82 :: u83 :: u84 :: u85 :: u86 :: u87 :: u88 :: u89 :: u90 :: u91 :: u92 :: u93 :: u94 :: u95 :: u96 :: u97 :: u98 :: u99 :: u100 :: u101 :: u102 :: u103 :: u104 :: u105 :: u106 :: u107 :: u108 :: u109 :: u110 :: u111 :: u112 :: u113 :: u114 :: u115 :: u116 :: u117 :: u118 :: u119 :: u120 :: u121 :: u122 :: u123 :: u124 :: u125 :: u126 :: u127 :: u128 :: u129 :: u130 :: u131 :: u132 :: u133 :: u134 :: u135 :: u136 :: u137 :: u138 :: u139 :: u140 :: u141 :: u142 :: u143 :: u144 :: u145 :: u146 :: u147 :: u148 :: u149 :: u150 :: u151 :: u152 :: u153 :: u154 :: u155 :: u156 :: u157 :: u158 :: u159 :: u160 :: u161 :: u162 :: u163 :: u164 :: u165 :: u166 :: u167 :: u168 :: u169 :: u170 :: u171 :: u172 :: u173 :: u174 :: u175 :: u176 :: u177 :: u178 :: u179 :: u180 :: u181 :: u182 :: u183 :: u184 :: u185 :: u186 :: u187 :: u188 :: u189 :: u190 :: u191 :: u192 :: u193 :: u194 :: u195 :: u196 :: u197 :: u198 :: u199 :: u200 :: u201 :: u202 :: u203 :: u204 :: u205 :: u206 :: u207 :: u208 :: u209 :: u210 :: u211 :: u212 :: u213 :: u214 :: u215 :: u216 :: u217 :: u218 :: u219 :: u220 :: u221 :: u222 :: u223 :: u224 :: u225 :: u226 :: u227 :: u228 :: u229 :: u230 :: u231 :: u232 :: u233 :: u234 :: u235 :: u236 :: u237 :: u238 :: u239 :: u240 :: u241 :: u242 :: u243 :: u244 :: u245 :: u246 :: u247 :: u248 :: u249 :: u250 :: (.slice (some ⟨b, 0, none⟩) 6 6) :: (.int .i64 6) :: (.int .i64 (k : Int)) :: u254 :: u255 :: u256 :: u257 :: u258 :: u259 :: u260 :: u261 :: u262 :: u263 :: u264 :: u265 :: u266 :: u267 :: u268 :: u269 :: u270 :: u271 :: u272 :: u273 :: u274 :: u275 :: u276 :: u277 :: []), []⟩ X := by
  have hki : (k : Int) < 6 := by omega
  obtain ⟨A1, n1, c1, A2, n2, c2, A3, n3, c3, cb, r, m0, m1, m2, m3, hr⟩ := hW.out.2 k hk
  have hb := hW.out.1
  have F1 : ∃ X1, X.alloc (.cells #[.slice A1 n1 c1, .slice A2 n2 c2, .slice A3 n3 c3, .bool cb] 26) = X1 ∧ Below X.heap.size X X1 ∧ Blk X1 X.heap.size 26 #[.slice A1 n1 c1, .slice A2 n2 c2, .slice A3 n3 c3, .bool cb] := ⟨_, rfl, below_alloc _ _, Blk.new _ _ _⟩
  obtain ⟨X1, e1, hb1, hB⟩ := F1
  have E1 := Lib.hid e1
  have HB1 := Lib.hid hb1
  have HB := Lib.hid hB
  have HR := Lib.hid ((RRun.below hr hb1).more hb1.size)
  clear e1 hb1 hB hr
  have CR := Lib.hid (fun a b c d e f g n => Reads_any RC.out _ r a b c d e f g n X1 HR.out)
  conv => arg 2; whnf
  go_upto_region 56 with fail
  rw [E1.out]
  clear m0 m1 m2 m3 E1
  have n0 := cellOf HB.out 0 (x := .slice A1 n1 c1) rfl
  have n1' := cellOf HB.out 1 (x := .slice A2 n2 c2) rfl
  have n2' := cellOf HB.out 2 (x := .slice A3 n3 c3) rfl
  have n3' := cellOf HB.out 3 (x := .bool cb) rfl
  go_wp2_with fail
  refine (CR.out _ _ _ _ _ _ _ _).mono ?_
  rintro _ w1 ⟨rfl, hb9⟩
  have hk1 := HB.out.below hb9 HB.out.lt
  have p0 := cellOf hk1 0 (x := .slice A1 n1 c1) rfl
  have p1 := cellOf hk1 1 (x := .slice A2 n2 c2) rfl
  have p2 := cellOf hk1 2 (x := .slice A3 n3 c3) rfl
  have p3 := cellOf hk1 3 (x := .bool cb) rfl
  have hr1 : RRun w1.heap.size w1 (.agg #[.slice A1 n1 c1, .slice A2 n2 c2, .slice A3 n3 c3, .bool cb]) r := (RRun.below HR.out hb9).more hb9.size
  have hp1 : RIntss w1.heap.size w1 (.slice none 0 0) [] := ⟨[], Rd.nil, rfl, fun i u x hu _ => by simp at hu⟩
  have CF := Lib.hid (fun n => Fills_any RC.out _ _ r [] n w1 hr1 hp1)
  have HB9 := Lib.hid hb9
  clear n0 n1' n2' n3' CR hk1 hr1 hp1 hb9
  go_wp2_with fail
  refine (CF.out _).mono ?_
  rintro _ w2 ⟨rfl, hb2⟩
  have HB2 := Lib.hid (HB1.out.trans ((HB9.out.trans (hb2.mono HB9.out.size)).mono HB1.out.size))
  clear hb2 CF p0 p1 p2 p3
  go_wp2_with fail
  exact hQ.out _ _ _ _ _ _ _ _ _ _ _ _ _ _ _ _ _ _ _ _ _ _ _ _ _ _ HB2.out
end Go.Proofs.Ytdbfhdncjblleaa
