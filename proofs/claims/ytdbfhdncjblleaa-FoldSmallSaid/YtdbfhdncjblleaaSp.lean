/-
  FoldSmall: a run of two stacks.
-/
import Derived.Test.YtdbfhdncjblleaaSn
import Derived.Test.YtdbfhdncjblleaaSm
import Derived.Test.YtdbfhdncjblleaaTr
namespace Go.Proofs.Ytdbfhdncjblleaa
open Go.RowKit

theorem stk_one {wo w9 Y : World} {b2 : Nat} {v1 v2 v3 o : Value} {vs : List Value} {webs : List WebD} {ribs : List RibD} {cb : Bool} {ints : List Int} (hG : GSt wo b2 v1 vs webs v2 ribs v3 cb w9) (hi : w9.ownsRow wo.heap.size 3 1 o ints.length (ints.map (Value.int .i64))) (hl : ints.length ≤ 20)
    (hY : Y = (w9.setCell ⟨b2, 2, none⟩ (.slice (some ⟨w9.heap.size, 0, none⟩) 1 1)).alloc (.cells #[o] 48)) (hb : wo.heap.size ≤ b2) :
    StkCut wo b2 v1 v2 webs ribs cb Y ∧ Y.ownsRow wo.heap.size 3 1 o ints.length (ints.map (Value.int .i64)) ∧ GSt wo b2 v1 vs webs v2 ribs (.slice (some ⟨w9.heap.size, 0, none⟩) 1 1) cb Y := by
  have gs : Grew 26 w9 (w9.setCell ⟨b2, 2, none⟩ (.slice (some ⟨w9.heap.size, 0, none⟩) 1 1)) := Grew.set hG.1 2 _
  obtain ⟨h1, h2, h3⟩ := stk_any (us := [o]) (stacks := [ints]) hG hY hb rfl ⟨Nat.le_refl _, by simp⟩ (fun s hs => by rw [List.mem_singleton.1 hs]; exact hl) (fun i u x hu hx Z hZ hz => by
    cases i with
    | zero =>
      simp only [List.getElem?_cons_zero, Option.some.injEq] at hu hx
      subst hu hx
      have k := ownsRow_grew hi hZ (by decide)
      exact Rd.own k (own_le k)
    | succ i => simp at hu)
  exact ⟨h1, ownsRow_below (ownsRow_grew hi gs (by decide)) (by rw [World.size_setCell]; exact h2), h3⟩
theorem sub_row {Z : World} {base n c g i k c9 : Nat} {ints : List Int} (h : Z.ownsRow base 3 1 (.slice (some ⟨g, 0, none⟩) n c) n (ints.map (Value.int .i64))) (hk : i + k ≤ n) (hn : n ≤ 1000) : RInts Z.heap.size Z (.slice (some ⟨g, i, none⟩) k c9) ((ints.drop i).take k) := by
  have hl : ints.length = n := by have := h.1; simpa using this
  obtain ⟨A, c', e, hlen, hm, hr⟩ := Rd.own h (own_le h)
  cases e
  have hkl : ((ints.drop i).take k).length = k := by simp; omega
  refine ⟨some ⟨g, i, none⟩, c9, by rw [hkl], by simp, by simp only [maxLen]; omega, fun h0 => ?_⟩
  rw [hkl] at h0
  obtain ⟨g', o, hA, hg, hc⟩ := hr (by omega)
  injection hA with hA
  injection hA with hA1 hA2
  subst hA1
  subst hA2
  refine ⟨g, i, rfl, hg, fun j u hj => ?_⟩
  rw [List.getElem?_map] at hj
  obtain ⟨z, hz, rfl⟩ := Option.map_eq_some_iff.1 hj
  have hjk : j < k := by have := (List.getElem?_eq_some_iff.1 hz).1; omega
  rw [List.getElem?_take_of_lt hjk, List.getElem?_drop] at hz
  have := hc (i + j) (.int .i64 z) (by rw [List.getElem?_map, hz]; rfl)
  rwa [Nat.zero_add] at this

theorem StkCut.drew {wo X : World} {b2 : Nat} {v1 v2 : Value} {webs : List WebD} {ribs : List RibD} {cb : Bool} (h : StkCut wo b2 v1 v2 webs ribs cb X) : StkCut wo b2 v1 v2 webs ribs cb X.drew := by
  obtain ⟨v3, stacks, h1, h2, h3, h4⟩ := h
  have hb : Below X.heap.size X X.drew := (Below.refl _ X).drew
  exact ⟨v3, stacks, h1.below hb h1.lt, RRun.below h2 hb, h3.drew, h4⟩
set_option maxRecDepth 1000000 in
set_option maxHeartbeats 4000000 in
theorem small_cut (u0 u1 u3 u4 u5 u6 u7 u8 u9 u10 u11 u12 u14 u15 u16 u17 u18 u19 u20 u21 u22 u23 u24 u25 u26 u27 u28 u29 u30 u31 u32 u33 u34 u35 u36 u37 u38 u39 u40 u41 u42 u43 u44 u45 u46 u47 u48 u49 u50 u51 u52 u53 u54 u55 u56 u57 u58 u59 u60 u61 u62 u63 u64 u65 u66 u67 u68 u69 u70 u71 u72 u73 u74 u75 u76 u77 u78 u79 u80 u81 u82 u83 u84 u85 u86 u87 u88 u89 u90 u91 u92 u93 u94 u95 u96 u97 u98 u99 u100 u101 u102 u103 u104 u105 u106 u107 u108 u109 u110 u111 u112 u113 u114 u115 u116 u117 u118 u119 u120 u121 u122 u123 u124 u125 u126 u127 u128 u129 u130 u131 u132 u133 u134 u135 u136 u137 u138 u139 u140 u141 u142 u143 u144 u145 u146 u147 u148 u149 u150 u151 u152 u153 u154 u155 u156 u157 u158 u159 u160 u161 u162 u163 u164 u165 u166 u167 u168 u169 u170 u171 u172 u173 u174 u175 u176 u177 u178 u179 u180 u181 u182 u183 u184 u185 u186 u187 u188 u189 u190 u191 u192 u193 u194 u195 u196 u197 u198 u199 u200 u201 u202 u203 u204 u205 u206 u207 u208 u209 u210 u211 u212 u213 u214 u215 u216 u217 u218 u219 u220 u221 u222 u223 u224 u225 u226 u227 u228 u229 u230 u231 u232 u233 u234 u235 u236 u237 u238 u239 u240 u241 u242 u243 u244 u245 u246 u247 u248 u249 u250 u251 u252 u253 u254 u255 u256 u257 u258 u259 u260 u261 u262 u263 u264 u265 u266 u267 u268 u269 u270 u271 u272 u273 u274 u275 u276 u277 : Value) {g n c : Nat} {wo X : World} {v1 v2 v3 : Value} {vs : List Value} {webs : List WebD} {ribs : List RibD} {cb : Bool} {ints : List Int} {Q : Exit → Act → World → Prop}
    (h1n : 1 < n) (hn : n ≤ 20) (hc : n ≤ c) (hG : Hid (GSt wo wo.heap.size v1 vs webs v2 ribs v3 cb X)) (hi : Hid (X.ownsRow wo.heap.size 3 1 (.slice (some ⟨g, 0, none⟩) n c) n (ints.map (Value.int .i64))))
    (hQ : Hid (∀ (x179 x180 x181 x182 x183 x184 : Value) (Y : World), StkCut wo wo.heap.size v1 v2 webs ribs cb Y → Q .normal ⟨List.toArray (u0 :: u1 :: (.pointer (some ⟨wo.heap.size, 0, none⟩)) :: u3 :: u4 :: u5 :: u6 :: u7 :: u8 :: u9 :: u10 :: u11 :: u12 :: (.slice (some ⟨g, 0, none⟩) n c) :: u14 :: u15 :: u16 :: u17 :: u18 :: u19 :: u20 :: u21 :: u22 :: u23 :: u24 :: u25 :: u26 :: u27 :: u28 :: u29 :: u30 :: u31 :: u32 :: u33 :: u34 :: u35 :: u36 :: u37 :: u38 :: u39 :: u40 :: u41 :: u42 :: u43 :: u44 :: u45 :: u46 :: u47 :: u48 :: u49 :: u50 :: u51 :: u52 :: u53 :: u54 :: u55 :: u56 :: u57 :: u58 :: u59 :: u60 :: u61 :: u62 :: u63 :: u64 :: u65 :: u66 :: u67 :: u68 :: u69 :: u70 :: u71 :: u72 :: u73 :: u74 :: u75 :: u76 :: u77 :: u78 :: u79 :: u80 :: u81 :: u82 :: u83 :: u84 :: u85 :: u86 :: u87 :: u88 :: u89 :: u90 :: u91 :: u92 :: u93 :: u94 :: u95 :: u96 :: u97 :: u98 :: u99 :: u100 :: u101 :: u102 :: u103 :: u104 :: u105 :: u106 :: u107 :: u108 :: u109 :: u110 :: u111 :: u112 :: u113 :: u114 :: u115 :: u116 :: u117 :: u118 :: u119 :: u120 :: u121 :: u122 :: u123 :: u124 :: u125 :: u126 :: u127 :: u128 :: u129 :: u130 :: u131 :: u132 :: u133 :: u134 :: u135 :: u136 :: u137 :: u138 :: u139 :: u140 :: u141 :: u142 :: u143 :: u144 :: u145 :: u146 :: u147 :: u148 :: u149 :: u150 :: u151 :: u152 :: u153 :: u154 :: u155 :: u156 :: u157 :: u158 :: u159 :: u160 :: u161 :: u162 :: u163 :: u164 :: u165 :: u166 :: u167 :: u168 :: u169 :: u170 :: u171 :: u172 :: u173 :: u174 :: u175 :: u176 :: u177 :: u178 :: x179 :: x180 :: x181 :: x182 :: x183 :: x184 :: u185 :: u186 :: u187 :: u188 :: u189 :: u190 :: u191 :: u192 :: u193 :: u194 :: u195 :: u196 :: u197 :: u198 :: u199 :: u200 :: u201 :: u202 :: u203 :: u204 :: u205 :: u206 :: u207 :: u208 :: u209 :: u210 :: u211 :: u212 :: u213 :: u214 :: u215 :: u216 :: u217 :: u218 :: u219 :: u220 :: u221 :: u222 :: u223 :: u224 :: u225 :: u226 :: u227 :: u228 :: u229 :: u230 :: u231 :: u232 :: u233 :: u234 :: u235 :: u236 :: u237 :: u238 :: u239 :: u240 :: u241 :: u242 :: u243 :: u244 :: u245 :: u246 :: u247 :: u248 :: u249 :: u250 :: u251 :: u252 :: u253 :: u254 :: u255 :: u256 :: u257 :: u258 :: u259 :: u260 :: u261 :: u262 :: u263 :: u264 :: u265 :: u266 :: u267 :: u268 :: u269 :: u270 :: u271 :: u272 :: u273 :: u274 :: u275 :: u276 :: u277 :: []), []⟩ Y)) :
    Code.wp Try.prog (smallRegion 39) Q ⟨List.toArray (u0 :: u1 :: (.pointer (some ⟨wo.heap.size, 0, none⟩)) :: u3 :: u4 :: u5 :: u6 :: u7 :: u8 :: u9 :: u10 :: u11 :: u12 :: (.slice (some ⟨g, 0, none⟩) n c) :: u14 :: u15 :: u16 :: u17 :: u18 :: u19 :: u20 :: u21 :: u22 :: u23 :: u24 :: u25 :: u26 :: u27 :: u28 :: u29 :: u30 :: u31 :: u32 :: u33 :: u34 :: u35 :: u36 :: u37 :: u38 :: u39 :: u40 :: u41 :: u42 :: u43 :: u44 :: u45 :: u46 :: u47 :: u48 :: u49 :: u50 :: u51 :: u52 :: u53 :: u54 :: u55 :: u56 :: u57 :: u58 :: u59 :: u60 :: u61 :: u62 :: u63 :: u64 :: u65 :: u66 :: u67 :: u68 :: u69 :: u70 :: u71 :: u72 :: u73 :: u74 :: u75 :: u76 :: u77 :: u78 :: u79 :: u80 :: u81 :: u82 :: u83 :: u84 :: u85 :: u86 :: u87 :: u88 :: u89 :: u90 :: u91 :: u92 :: u93 :: u94 :: u95 :: u96 :: u97 :: u98 :: u99 :: u100 :: u101 :: u102 :: u103 :: u104 :: u105 :: u106 :: u107 :: u108 :: u109 :: u110 :: u111 :: u112 :: u113 :: u114 :: u115 :: u116 :: u117 :: u118 :: u119 :: u120 :: u121 :: u122 :: u123 :: u124 :: u125 :: u126 :: u127 :: u128 :: u129 :: u130 :: u131 :: u132 :: u133 :: u134 :: u135 :: u136 :: u137 :: u138 :: u139 :: u140 :: u141 :: u142 :: u143 :: u144 :: u145 :: u146 :: u147 :: u148 :: u149 :: u150 :: u151 :: u152 :: u153 :: u154 :: u155 :: u156 :: u157 :: u158 :: u159 :: u160 :: u161 :: u162 :: u163 :: u164 :: u165 :: u166 :: u167 :: u168 :: u169 :: u170 :: u171 :: u172 :: u173 :: u174 :: u175 :: u176 :: u177 :: u178 :: u179 :: u180 :: u181 :: u182 :: u183 :: u184 :: u185 :: u186 :: u187 :: u188 :: u189 :: u190 :: u191 :: u192 :: u193 :: u194 :: u195 :: u196 :: u197 :: u198 :: u199 :: u200 :: u201 :: u202 :: u203 :: u204 :: u205 :: u206 :: u207 :: u208 :: u209 :: u210 :: u211 :: u212 :: u213 :: u214 :: u215 :: u216 :: u217 :: u218 :: u219 :: u220 :: u221 :: u222 :: u223 :: u224 :: u225 :: u226 :: u227 :: u228 :: u229 :: u230 :: u231 :: u232 :: u233 :: u234 :: u235 :: u236 :: u237 :: u238 :: u239 :: u240 :: u241 :: u242 :: u243 :: u244 :: u245 :: u246 :: u247 :: u248 :: u249 :: u250 :: u251 :: u252 :: u253 :: u254 :: u255 :: u256 :: u257 :: u258 :: u259 :: u260 :: u261 :: u262 :: u263 :: u264 :: u265 :: u266 :: u267 :: u268 :: u269 :: u270 :: u271 :: u272 :: u273 :: u274 :: u275 :: u276 :: u277 :: []), []⟩ X := by
  have h1i : (1 : Int) < (n : Int) := by omega
  have hci : (n : Int) ≤ (c : Int) := by omega
  have m2 := cellOf hG.out.1 2 (x := v3) rfl
  have m2f := hG.out.1.frozen 2
  have hb9z : wo.heap.size < X.heap.size := hG.out.1.lt
  conv => arg 2; whnf
  refine wp_tail 4 (by kernel_rfl) (by kernel_rfl) ?_
  simp only [List.take_succ_cons, List.take_zero, List.drop_succ_cons, List.drop_zero]
  repeat go_big_quiet_step (fail)
  refine wpQuiet_nil ?_
  go_wp2_with fail
  have h9 := (stk_any (us := [.slice (some ⟨g, 0, none⟩) 1 c, .slice (some ⟨g, 1, none⟩) (n - 1) (c - 1)]) (stacks := [(ints.drop 0).take 1, (ints.drop 1).take (n - 1)]) hG.out rfl (Nat.le_refl _) rfl ⟨by simp, by simp⟩ (fun s hs => by
    have hl : ints.length = n := by have := hi.out.1; simpa using this
    simp only [List.mem_cons, List.not_mem_nil, or_false] at hs
    rcases hs with rfl | rfl <;> simp <;> omega) (fun i u x hu hx Z hZ hz => by
    have k := ownsRow_grew hi.out hZ (by decide)
    match i, hu, hx with
    | 0, hu, hx =>
      simp only [List.getElem?_cons_zero, Option.some.injEq] at hu hx
      subst hu hx
      exact sub_row k (by omega) (by omega)
    | 1, hu, hx =>
      simp only [List.getElem?_cons_succ, List.getElem?_cons_zero, Option.some.injEq] at hu hx
      subst hu hx
      exact sub_row k (by omega) (by omega)
    | i + 2, hu, hx => simp at hu)).1
  exact hQ.out _ _ _ _ _ _ _ h9.drew
end Go.Proofs.Ytdbfhdncjblleaa
