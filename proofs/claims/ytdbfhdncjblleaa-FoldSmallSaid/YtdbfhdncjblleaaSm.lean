/-
  FoldSmall: rounds of its inner loops, each a theorem of its own.
-/
import Derived.Test.YtdbfhdncjblleaaSg
namespace Go.Proofs.Ytdbfhdncjblleaa
open Go.RowKit

def firstRegion : Code → Option Nat
  | .region i _ _ => some i
  | .seq a b => match firstRegion a with
    | some c => some c
    | none => firstRegion b
  | .block _ c => firstRegion c
  | .scope c => firstRegion c
  | _ => none
/-- The body of the loop that begins with this region. -/
def loopAt (n : Nat) : Code → Option Code
  | .seq a b => match loopAt n a with
    | some c => some c
    | none => loopAt n b
  | .cond _ a b => match loopAt n a with
    | some c => some c
    | none => loopAt n b
  | .loop c => if firstRegion c = some n then some c else loopAt n c
  | .block _ c => loopAt n c
  | .scope c => loopAt n c
  | _ => none
theorem row_snoc {X : World} {b : Nat} {v : Value} {l : List Int} {z : Int} (h : X.ownsRow b 3 1 v (l.length + 1) (l.map (Value.int .i64) ++ [.int .i64 z])) : ∃ l2 : List Int, X.ownsRow b 3 1 v l2.length (l2.map (Value.int .i64)) ∧ l2.length = l.length + 1 := ⟨l ++ [z], by simpa using h, by simp⟩
noncomputable def smallLoop (k : Nat) : Code := (Try.f5.body.bind (loopAt k)).getD .skip

theorem and_one (n : Int) : bits .and .i64 n 1 = n % 2 := by
  have h127 : (BitVec.ofInt 64 1).toNat = 2 ^ 1 - 1 := by decide
  have key : (BitVec.ofInt 64 n &&& BitVec.ofInt 64 1).toNat = (n % ((2 ^ 64 : Nat) : Int)).toNat % 2 ^ 1 := by
    rw [BitVec.toNat_and, BitVec.toNat_ofInt, h127, Nat.and_two_pow_sub_one_eq_mod]
  show IntKind.i64.wrap ((BitVec.ofInt 64 n &&& BitVec.ofInt 64 1).toNat : Nat) = n % 2
  rw [key, IntKind.wrap_i64]
  omega
theorem and_three (n : Int) : bits .and .i64 n 3 = n % 4 := by
  have h127 : (BitVec.ofInt 64 3).toNat = 2 ^ 2 - 1 := by decide
  have key : (BitVec.ofInt 64 n &&& BitVec.ofInt 64 3).toNat = (n % ((2 ^ 64 : Nat) : Int)).toNat % 2 ^ 2 := by
    rw [BitVec.toNat_and, BitVec.toNat_ofInt, h127, Nat.and_two_pow_sub_one_eq_mod]
  show IntKind.i64.wrap ((BitVec.ofInt 64 n &&& BitVec.ofInt 64 3).toNat : Nat) = n % 4
  rw [key, IntKind.wrap_i64]
  omega

/-- The ribbon's box, its last cell stored. -/
def RbCut (w : World) (k c wd : Int) (tb : Bool) (X : World) : Prop := ∃ lf, Blk X w.heap.size 99 #[.int .i64 k, .int .i64 c, .int .i64 wd, .bool tb, .bool lf] ∧ Below w.heap.size w X
theorem rb_cut {w X Y : World} {k c wd : Int} {tb lf lf' : Bool} (h : Blk X w.heap.size 99 #[.int .i64 k, .int .i64 c, .int .i64 wd, .bool tb, .bool lf]) (hb : Below w.heap.size w X) (hY : Y = X.setCell ⟨w.heap.size, 4, none⟩ (.bool lf')) : RbCut w k c wd tb Y := by
  subst hY
  exact ⟨lf', h.put 4 _, hb.setCell (p := ⟨w.heap.size, 4, none⟩) (Nat.le_refl _) _⟩

/-- The run is built: it reads as data. -/
def StkCut (wo : World) (b2 : Nat) (v1 v2 : Value) (webs : List WebD) (ribs : List RibD) (cb : Bool) (X : World) : Prop :=
  ∃ v3 stacks, Blk X b2 26 #[v1, v2, v3, .bool cb] ∧ RRun X.heap.size X (.agg #[v1, v2, v3, .bool cb]) ⟨webs, ribs, stacks, cb⟩ ∧ Below wo.heap.size wo X ∧ (stacks.length ≤ 2 ∧ ∀ s ∈ stacks, s.length ≤ 20)
section
variable {wo w9 Y : World} {b2 : Nat} {v1 v2 v3 : Value} {vs : List Value} {webs : List WebD} {ribs : List RibD} {cb : Bool} {ints : List Int}
/-- The box gets a list of stacks. -/
theorem stk_any {us : List Value} {stacks : List (List Int)} (hG : GSt wo b2 v1 vs webs v2 ribs v3 cb w9) (hY : Y = (w9.setCell ⟨b2, 2, none⟩ (.slice (some ⟨w9.heap.size, 0, none⟩) us.length us.length)).alloc (.cells us.toArray 48)) (hb : wo.heap.size ≤ b2)
    (hl : us.length = stacks.length) (hn : 1 ≤ us.length ∧ us.length ≤ 2) (hs : ∀ s ∈ stacks, s.length ≤ 20)
    (hr : ∀ (i : Nat) (u : Value) (x : List Int), us[i]? = some u → stacks[i]? = some x → ∀ Z : World, Grew 26 w9 Z → w9.heap.size = Z.heap.size → RInts Z.heap.size Z u x) :
    StkCut wo b2 v1 v2 webs ribs cb Y ∧ Below w9.heap.size (w9.setCell ⟨b2, 2, none⟩ (.slice (some ⟨w9.heap.size, 0, none⟩) us.length us.length)) Y ∧ GSt wo b2 v1 vs webs v2 ribs (.slice (some ⟨w9.heap.size, 0, none⟩) us.length us.length) cb Y := by
  subst hY
  obtain ⟨h1, h2, h3, h4⟩ := hG
  obtain ⟨sl, hsl⟩ : ∃ s, Value.slice (some ⟨w9.heap.size, 0, none⟩) us.length us.length = s := ⟨_, rfl⟩
  rw [hsl]
  have gs := Grew.set h1 2 sl
  have hz : (w9.setCell ⟨b2, 2, none⟩ sl).heap.size = w9.heap.size := World.size_setCell _ _ _
  have ha : Below (w9.setCell ⟨b2, 2, none⟩ sl).heap.size (w9.setCell ⟨b2, 2, none⟩ sl) ((w9.setCell ⟨b2, 2, none⟩ sl).alloc (.cells us.toArray 48)) := (Below.refl _ _).alloc (Nat.le_refl _) _
  have k1 := (h1.put 2 sl).alloc (.cells us.toArray 48)
  have k2 := blk_new (W := w9.setCell ⟨b2, 2, none⟩ sl) (n := w9.heap.size) hz 48 us.toArray
  have hB := (h4.setCell (p := ⟨b2, 2, none⟩) hb sl)
  have q2 := (h2.grew gs (by decide) (by decide)).below ha
  have q3 := ownsRow_below (ownsRow_grew h3 gs (by decide)) ha
  have q4 := hB.trans (ha.mono hB.size)
  refine ⟨⟨sl, stacks, k1, orunR_reads (r := ⟨webs, ribs, stacks, cb⟩) q2 q3 ⟨us, ⟨some ⟨w9.heap.size, 0, none⟩, us.length, by rw [← hsl, hl], by simp [hl], by simp only [maxLen]; omega, fun _ => ⟨w9.heap.size, 0, rfl, k2.lt, fun j u hj => ?_⟩⟩, hl, fun i u x hu hx => ?_⟩, q4, by omega, hs⟩, by rw [← hz]; exact ha, ⟨k1, q2, q3, q4⟩⟩
  · rw [Nat.zero_add, k2.cell]
    simpa using hj
  · exact (RInts.below (hr i u x hu hx _ gs hz.symm) ha).more ha.size
end

set_option maxRecDepth 1000000 in
set_option maxHeartbeats 4000000 in
theorem small_plate (u0 u2 u4 u8 u9 u10 u11 u12 u13 u14 u15 u16 u17 u18 u19 u20 u21 u22 u23 u24 u25 u26 u27 u28 u29 u30 u31 u32 u33 u34 u35 u36 u37 u38 u39 u40 u41 u42 u43 u44 u45 u46 u47 u48 u49 u50 u51 u52 u53 u54 u55 u56 u57 u58 u59 u60 u61 u62 u63 u64 u65 u66 u67 u68 u69 u70 u71 u72 u73 u74 u75 u76 u77 u78 u79 u80 u81 u82 u83 u84 u85 u86 u87 u88 u89 u90 u91 u92 u93 u94 u95 u96 u97 u98 u99 u100 u101 u102 u103 u104 u105 u106 u107 u108 u109 u110 u111 u112 u113 u114 u115 u116 u117 u118 u119 u120 u121 u122 u123 u124 u125 u126 u127 u128 u129 u130 u131 u132 u133 u134 u135 u136 u137 u138 u139 u140 u141 u142 u143 u144 u145 u146 u147 u148 u149 u150 u151 u152 u153 u154 u155 u156 u157 u158 u159 u160 u161 u162 u163 u164 u165 u166 u167 u168 u169 u170 u171 u172 u173 u174 u175 u176 u177 u178 u179 u180 u181 u182 u183 u184 u185 u186 u187 u188 u189 u190 u191 u192 u193 u194 u195 u196 u197 u198 u199 u200 u201 u202 u203 u204 u205 u206 u207 u208 u209 u210 u211 u212 u213 u214 u215 u216 u217 u218 u219 u220 u221 u222 u223 u224 u225 u226 u227 u228 u229 u230 u231 u232 u233 u234 u235 u236 u237 u238 u239 u240 u241 u242 u243 u244 u245 u246 u247 u248 u249 u250 u251 u252 u253 u254 u255 u256 u257 u258 u259 u260 u261 u262 u263 u264 u265 u266 u267 u268 u269 u270 u271 u272 u273 u274 u275 u276 u277 : Value) {m i P rows cols c5 : Nat} {A5 : Option Addr} {wk : World} {pl : List PlateD} {i3 : TypeInfo} {X : World} {Q : Exit → Act → World → Prop}
    (hi3 : Try.prog.info? 98 = some i3) (hp0 : i3.zero = some (.agg #[.int .i64 0, .bool false])) (hp1 : i3.size = 2) (hp2 : i3.bytes = 16) (hm : m < 512) (hlti : i < P) (hP : 2 * (rows : Int) * (cols : Int) = (P : Int)) (hP16 : P ≤ 16) (hrow3 : (rows : Int) ≤ 2) (hwb : Hid (Blk X wk.heap.size 97 #[.int .i64 cols, .int .i64 rows, .slice A5 pl.length c5])) (hpl : Hid (OPlatesR wk.heap.size X (.slice A5 pl.length c5) pl)) (hl3 : pl.length ≤ i) (hbk : Below wk.heap.size wk X)
    (hQ : Hid (∀ (x8 x52 x53 x54 x55 x56 x57 x58 x59 x60 x61 x62 x63 x64 x65 x66 x67 x68 x69 x70 x71 x72 x73 x74 x75 x76 x77 : Value) (vp : Value) (pl2 : List PlateD) (Y : World), (Blk Y wk.heap.size 97 #[.int .i64 cols, .int .i64 rows, vp] ∧ OPlatesR wk.heap.size Y vp pl2 ∧ pl2.length ≤ i + 1 ∧ Below wk.heap.size wk Y) → Q .normal ⟨List.toArray (u0 :: (.int .i64 (m : Int)) :: u2 :: (.int .i64 (rows : Int)) :: u4 :: (.int .i64 (cols : Int)) :: (.pointer (some ⟨wk.heap.size, 0, none⟩)) :: (.int .i64 ((i : Int) + 1)) :: x8 :: u9 :: u10 :: u11 :: u12 :: u13 :: u14 :: u15 :: u16 :: u17 :: u18 :: u19 :: u20 :: u21 :: u22 :: u23 :: u24 :: u25 :: u26 :: u27 :: u28 :: u29 :: u30 :: u31 :: u32 :: u33 :: u34 :: u35 :: u36 :: u37 :: u38 :: u39 :: u40 :: u41 :: u42 :: u43 :: u44 :: u45 :: u46 :: u47 :: u48 :: u49 :: u50 :: u51 :: x52 :: x53 :: x54 :: x55 :: x56 :: x57 :: x58 :: x59 :: x60 :: x61 :: x62 :: x63 :: x64 :: x65 :: x66 :: x67 :: x68 :: x69 :: x70 :: x71 :: x72 :: x73 :: x74 :: x75 :: x76 :: x77 :: u78 :: u79 :: u80 :: u81 :: u82 :: u83 :: u84 :: u85 :: u86 :: u87 :: u88 :: u89 :: u90 :: u91 :: u92 :: u93 :: u94 :: u95 :: u96 :: u97 :: u98 :: u99 :: u100 :: u101 :: u102 :: u103 :: u104 :: u105 :: u106 :: u107 :: u108 :: u109 :: u110 :: u111 :: u112 :: u113 :: u114 :: u115 :: u116 :: u117 :: u118 :: u119 :: u120 :: u121 :: u122 :: u123 :: u124 :: u125 :: u126 :: u127 :: u128 :: u129 :: u130 :: u131 :: u132 :: u133 :: u134 :: u135 :: u136 :: u137 :: u138 :: u139 :: u140 :: u141 :: u142 :: u143 :: u144 :: u145 :: u146 :: u147 :: u148 :: u149 :: u150 :: u151 :: u152 :: u153 :: u154 :: u155 :: u156 :: u157 :: u158 :: u159 :: u160 :: u161 :: u162 :: u163 :: u164 :: u165 :: u166 :: u167 :: u168 :: u169 :: u170 :: u171 :: u172 :: u173 :: u174 :: u175 :: u176 :: u177 :: u178 :: u179 :: u180 :: u181 :: u182 :: u183 :: u184 :: u185 :: u186 :: u187 :: u188 :: u189 :: u190 :: u191 :: u192 :: u193 :: u194 :: u195 :: u196 :: u197 :: u198 :: u199 :: u200 :: u201 :: u202 :: u203 :: u204 :: u205 :: u206 :: u207 :: u208 :: u209 :: u210 :: u211 :: u212 :: u213 :: u214 :: u215 :: u216 :: u217 :: u218 :: u219 :: u220 :: u221 :: u222 :: u223 :: u224 :: u225 :: u226 :: u227 :: u228 :: u229 :: u230 :: u231 :: u232 :: u233 :: u234 :: u235 :: u236 :: u237 :: u238 :: u239 :: u240 :: u241 :: u242 :: u243 :: u244 :: u245 :: u246 :: u247 :: u248 :: u249 :: u250 :: u251 :: u252 :: u253 :: u254 :: u255 :: u256 :: u257 :: u258 :: u259 :: u260 :: u261 :: u262 :: u263 :: u264 :: u265 :: u266 :: u267 :: u268 :: u269 :: u270 :: u271 :: u272 :: u273 :: u274 :: u275 :: u276 :: u277 :: []), []⟩ Y)) :
    Code.wp Try.prog (smallLoop 12) Q ⟨List.toArray (u0 :: (.int .i64 (m : Int)) :: u2 :: (.int .i64 (rows : Int)) :: u4 :: (.int .i64 (cols : Int)) :: (.pointer (some ⟨wk.heap.size, 0, none⟩)) :: (.int .i64 (i : Int)) :: u8 :: u9 :: u10 :: u11 :: u12 :: u13 :: u14 :: u15 :: u16 :: u17 :: u18 :: u19 :: u20 :: u21 :: u22 :: u23 :: u24 :: u25 :: u26 :: u27 :: u28 :: u29 :: u30 :: u31 :: u32 :: u33 :: u34 :: u35 :: u36 :: u37 :: u38 :: u39 :: u40 :: u41 :: u42 :: u43 :: u44 :: u45 :: u46 :: u47 :: u48 :: u49 :: u50 :: u51 :: u52 :: u53 :: u54 :: u55 :: u56 :: u57 :: u58 :: u59 :: u60 :: u61 :: u62 :: u63 :: u64 :: u65 :: u66 :: u67 :: u68 :: u69 :: u70 :: u71 :: u72 :: u73 :: u74 :: u75 :: u76 :: u77 :: u78 :: u79 :: u80 :: u81 :: u82 :: u83 :: u84 :: u85 :: u86 :: u87 :: u88 :: u89 :: u90 :: u91 :: u92 :: u93 :: u94 :: u95 :: u96 :: u97 :: u98 :: u99 :: u100 :: u101 :: u102 :: u103 :: u104 :: u105 :: u106 :: u107 :: u108 :: u109 :: u110 :: u111 :: u112 :: u113 :: u114 :: u115 :: u116 :: u117 :: u118 :: u119 :: u120 :: u121 :: u122 :: u123 :: u124 :: u125 :: u126 :: u127 :: u128 :: u129 :: u130 :: u131 :: u132 :: u133 :: u134 :: u135 :: u136 :: u137 :: u138 :: u139 :: u140 :: u141 :: u142 :: u143 :: u144 :: u145 :: u146 :: u147 :: u148 :: u149 :: u150 :: u151 :: u152 :: u153 :: u154 :: u155 :: u156 :: u157 :: u158 :: u159 :: u160 :: u161 :: u162 :: u163 :: u164 :: u165 :: u166 :: u167 :: u168 :: u169 :: u170 :: u171 :: u172 :: u173 :: u174 :: u175 :: u176 :: u177 :: u178 :: u179 :: u180 :: u181 :: u182 :: u183 :: u184 :: u185 :: u186 :: u187 :: u188 :: u189 :: u190 :: u191 :: u192 :: u193 :: u194 :: u195 :: u196 :: u197 :: u198 :: u199 :: u200 :: u201 :: u202 :: u203 :: u204 :: u205 :: u206 :: u207 :: u208 :: u209 :: u210 :: u211 :: u212 :: u213 :: u214 :: u215 :: u216 :: u217 :: u218 :: u219 :: u220 :: u221 :: u222 :: u223 :: u224 :: u225 :: u226 :: u227 :: u228 :: u229 :: u230 :: u231 :: u232 :: u233 :: u234 :: u235 :: u236 :: u237 :: u238 :: u239 :: u240 :: u241 :: u242 :: u243 :: u244 :: u245 :: u246 :: u247 :: u248 :: u249 :: u250 :: u251 :: u252 :: u253 :: u254 :: u255 :: u256 :: u257 :: u258 :: u259 :: u260 :: u261 :: u262 :: u263 :: u264 :: u265 :: u266 :: u267 :: u268 :: u269 :: u270 :: u271 :: u272 :: u273 :: u274 :: u275 :: u276 :: u277 :: []), []⟩ X := by
  have hii : (i : Int) < (P : Int) := by omega
  have q2 := cellOf hwb.out 2 (x := .slice A5 pl.length c5) rfl
  have q2f := hwb.out.frozen 2
  have hown : X.ownsRow wk.heap.size 98 2 (.slice A5 pl.length c5) pl.length (pl.flatMap PlateD.cells) := hpl.out
  have hbz := hbk.size
  conv => arg 2; whnf
  go_wp2_with (at_builtin; (go_loud (refine wpList_append_own _ rfl _ _ 95 rfl wk.heap.size 98 i3 _ 2 16 slicePlatesR hi3 hp0 hp1 hp2 rfl (by decide) (.slice A5 pl.length c5) pl.length (pl.flatMap PlateD.cells) rfl (hown.alloc _) ⟨X.heap.size, 0, none⟩ 1 1 [.int .i64 _, .bool _] rfl rfl (cells_new _ _ _) (by simp [Value.oneCell']) (by simp only [maxLen]; omega) (by omega) (by simp; omega) ?_)); intro vp' w4 hown' hgrow _; obtain ⟨A5', c5', rfl⟩ := ownsRow_form hown'; have hgr := Grew.of_append hown hgrow; have hb4 : Below wk.heap.size wk w4 := (hbk.alloc hbz _).grown hgrow (by simp; omega) (fun j hj => (hown.lt j hj).1); have hwb4 := hwb.out.grew hgr (by decide); clear q2 q2f; have q2 := cellOf hwb4 2 (x := .slice A5 pl.length c5) rfl; have q2f := hwb4.frozen 2)
  have hN1 : Blk (w4.setCell ⟨wk.heap.size, 2, none⟩ (.slice A5' (pl.length + 1) c5')) wk.heap.size 97 #[.int .i64 cols, .int .i64 rows, .slice A5' (pl.length + 1) c5'] := hwb4.put 2 _
  have hN2 : OPlatesR wk.heap.size (w4.setCell ⟨wk.heap.size, 2, none⟩ (.slice A5' (pl.length + 1) c5')) (.slice A5' (pl.length + 1) c5') (pl ++ [⟨1 + ((i : Int) * 7 + m) % 128, ((i : Int) + m) % 11 == 0⟩]) := by
    unfold OPlatesR
    rw [cells_snoc, List.length_append]
    exact ownsRow_grew hown' (Grew.set hwb4 2 (.slice A5' (pl.length + 1) c5')) (by decide)
  have hN3 : Below wk.heap.size wk (w4.setCell ⟨wk.heap.size, 2, none⟩ (.slice A5' (pl.length + 1) c5')) := hb4.setCell (p := ⟨wk.heap.size, 2, none⟩) (Nat.le_refl _) _
  have hl9 : (pl ++ [(⟨1 + ((i : Int) * 7 + m) % 128, ((i : Int) + m) % 11 == 0⟩ : PlateD)]).length ≤ i + 1 := by simp; omega
  have HN := Lib.hid (show _ ∧ _ ∧ _ ∧ _ from ⟨hN1, hN2, hl9, hN3⟩)
  clear q2 q2f hgr hb4 hwb4 hown' hgrow hown hwb hpl hbk hN1 hN2 hN3
  go_wp2
  exact hQ.out _ _ _ _ _ _ _ _ _ _ _ _ _ _ _ _ _ _ _ _ _ _ _ _ _ _ _ _ _ _ HN.out
set_option maxRecDepth 1000000 in
set_option maxHeartbeats 4000000 in
theorem small_rib (u0 u3 u6 u7 u8 u9 u11 u12 u13 u14 u15 u16 u17 u18 u19 u20 u21 u22 u23 u24 u25 u26 u27 u28 u29 u30 u31 u32 u33 u34 u35 u36 u37 u38 u39 u40 u41 u42 u43 u44 u45 u46 u47 u48 u49 u50 u51 u52 u53 u54 u55 u56 u57 u58 u59 u60 u61 u62 u63 u64 u65 u66 u67 u68 u69 u70 u71 u72 u73 u74 u75 u76 u77 u78 u79 u80 u81 u82 u83 u84 u85 u86 u87 u88 u89 u90 u91 u92 u93 u94 u95 u96 u97 u98 u99 u100 u101 u102 u103 u104 u105 u106 u107 u108 u109 u110 u111 u112 u113 u114 u115 u116 u117 u118 u119 u120 u121 u122 u123 u124 u125 u126 u127 u128 u129 u130 u131 u132 u133 u134 u135 u136 u137 u138 u139 u140 u141 u142 u143 u144 u145 u146 u147 u148 u149 u150 u151 u152 u153 u154 u155 u156 u157 u158 u159 u160 u161 u162 u163 u164 u165 u166 u167 u168 u169 u170 u171 u172 u173 u174 u175 u176 u177 u178 u179 u180 u181 u182 u183 u184 u185 u186 u187 u188 u189 u190 u191 u192 u193 u194 u195 u196 u197 u198 u199 u200 u201 u202 u203 u204 u205 u206 u207 u208 u209 u210 u211 u212 u213 u214 u215 u216 u217 u218 u219 u220 u221 u222 u223 u224 u225 u226 u227 u228 u229 u230 u231 u232 u233 u234 u235 u236 u237 u238 u239 u240 u241 u242 u243 u244 u245 u246 u247 u248 u249 u250 u251 u252 u253 u254 u255 u256 u257 u258 u259 u260 u261 u262 u263 u264 u265 u266 u267 u268 u269 u270 u271 u272 u273 u274 u275 u276 u277 : Value) {m k cols c : Nat} {wo : World} {v1 v2 : Value} {vs : List Value} {webs : List WebD} {ribs : List RibD} {cb : Bool} {i2 : TypeInfo} {X : World} {Q : Exit → Act → World → Prop}
    (hi2 : Try.prog.info? 99 = some i2) (hr0 : i2.zero = some (.agg #[.int .i64 0, .int .i64 0, .int .i64 0, .bool false, .bool false])) (hr1 : i2.size = 5) (hr2 : i2.bytes = 32) (hm : m < 512) (hk2 : k < 2) (hltc : c < cols) (hc4 : cols ≤ 4) (hst : Hid (GSt wo wo.heap.size v1 vs webs v2 ribs (.slice none 0 0) cb X)) (hl2 : ribs.length ≤ 20)
    (hQ : Hid (∀ (x11 x12 x85 x86 x87 x88 x89 x90 x91 x92 x93 x94 x95 x96 x97 x98 x99 x100 x101 x102 x103 x104 x105 x106 x107 x108 x109 x110 x111 x112 x113 x114 x115 x116 x117 x118 x119 x120 x121 x122 x123 x124 x125 x126 x127 x128 x129 x130 x131 x132 : Value) (wd : Nat) (v3 : Value) (ribs2 : List RibD) (Y : World), ((1 ≤ wd ∧ c + wd ≤ cols) ∧ GSt wo wo.heap.size v1 vs webs v3 ribs2 (.slice none 0 0) cb Y ∧ ribs2.length = ribs.length + 1) → Q .normal ⟨List.toArray (u0 :: (.int .i64 (m : Int)) :: (.pointer (some ⟨wo.heap.size, 0, none⟩)) :: u3 :: (.int .i64 (k : Int)) :: (.int .i64 (cols : Int)) :: u6 :: u7 :: u8 :: u9 :: (.int .i64 ((c : Int) + (wd : Int))) :: x11 :: x12 :: u13 :: u14 :: u15 :: u16 :: u17 :: u18 :: u19 :: u20 :: u21 :: u22 :: u23 :: u24 :: u25 :: u26 :: u27 :: u28 :: u29 :: u30 :: u31 :: u32 :: u33 :: u34 :: u35 :: u36 :: u37 :: u38 :: u39 :: u40 :: u41 :: u42 :: u43 :: u44 :: u45 :: u46 :: u47 :: u48 :: u49 :: u50 :: u51 :: u52 :: u53 :: u54 :: u55 :: u56 :: u57 :: u58 :: u59 :: u60 :: u61 :: u62 :: u63 :: u64 :: u65 :: u66 :: u67 :: u68 :: u69 :: u70 :: u71 :: u72 :: u73 :: u74 :: u75 :: u76 :: u77 :: u78 :: u79 :: u80 :: u81 :: u82 :: u83 :: u84 :: x85 :: x86 :: x87 :: x88 :: x89 :: x90 :: x91 :: x92 :: x93 :: x94 :: x95 :: x96 :: x97 :: x98 :: x99 :: x100 :: x101 :: x102 :: x103 :: x104 :: x105 :: x106 :: x107 :: x108 :: x109 :: x110 :: x111 :: x112 :: x113 :: x114 :: x115 :: x116 :: x117 :: x118 :: x119 :: x120 :: x121 :: x122 :: x123 :: x124 :: x125 :: x126 :: x127 :: x128 :: x129 :: x130 :: x131 :: x132 :: u133 :: u134 :: u135 :: u136 :: u137 :: u138 :: u139 :: u140 :: u141 :: u142 :: u143 :: u144 :: u145 :: u146 :: u147 :: u148 :: u149 :: u150 :: u151 :: u152 :: u153 :: u154 :: u155 :: u156 :: u157 :: u158 :: u159 :: u160 :: u161 :: u162 :: u163 :: u164 :: u165 :: u166 :: u167 :: u168 :: u169 :: u170 :: u171 :: u172 :: u173 :: u174 :: u175 :: u176 :: u177 :: u178 :: u179 :: u180 :: u181 :: u182 :: u183 :: u184 :: u185 :: u186 :: u187 :: u188 :: u189 :: u190 :: u191 :: u192 :: u193 :: u194 :: u195 :: u196 :: u197 :: u198 :: u199 :: u200 :: u201 :: u202 :: u203 :: u204 :: u205 :: u206 :: u207 :: u208 :: u209 :: u210 :: u211 :: u212 :: u213 :: u214 :: u215 :: u216 :: u217 :: u218 :: u219 :: u220 :: u221 :: u222 :: u223 :: u224 :: u225 :: u226 :: u227 :: u228 :: u229 :: u230 :: u231 :: u232 :: u233 :: u234 :: u235 :: u236 :: u237 :: u238 :: u239 :: u240 :: u241 :: u242 :: u243 :: u244 :: u245 :: u246 :: u247 :: u248 :: u249 :: u250 :: u251 :: u252 :: u253 :: u254 :: u255 :: u256 :: u257 :: u258 :: u259 :: u260 :: u261 :: u262 :: u263 :: u264 :: u265 :: u266 :: u267 :: u268 :: u269 :: u270 :: u271 :: u272 :: u273 :: u274 :: u275 :: u276 :: u277 :: []), []⟩ Y)) :
    Code.wp Try.prog (smallLoop 19) Q ⟨List.toArray (u0 :: (.int .i64 (m : Int)) :: (.pointer (some ⟨wo.heap.size, 0, none⟩)) :: u3 :: (.int .i64 (k : Int)) :: (.int .i64 (cols : Int)) :: u6 :: u7 :: u8 :: u9 :: (.int .i64 (c : Int)) :: u11 :: u12 :: u13 :: u14 :: u15 :: u16 :: u17 :: u18 :: u19 :: u20 :: u21 :: u22 :: u23 :: u24 :: u25 :: u26 :: u27 :: u28 :: u29 :: u30 :: u31 :: u32 :: u33 :: u34 :: u35 :: u36 :: u37 :: u38 :: u39 :: u40 :: u41 :: u42 :: u43 :: u44 :: u45 :: u46 :: u47 :: u48 :: u49 :: u50 :: u51 :: u52 :: u53 :: u54 :: u55 :: u56 :: u57 :: u58 :: u59 :: u60 :: u61 :: u62 :: u63 :: u64 :: u65 :: u66 :: u67 :: u68 :: u69 :: u70 :: u71 :: u72 :: u73 :: u74 :: u75 :: u76 :: u77 :: u78 :: u79 :: u80 :: u81 :: u82 :: u83 :: u84 :: u85 :: u86 :: u87 :: u88 :: u89 :: u90 :: u91 :: u92 :: u93 :: u94 :: u95 :: u96 :: u97 :: u98 :: u99 :: u100 :: u101 :: u102 :: u103 :: u104 :: u105 :: u106 :: u107 :: u108 :: u109 :: u110 :: u111 :: u112 :: u113 :: u114 :: u115 :: u116 :: u117 :: u118 :: u119 :: u120 :: u121 :: u122 :: u123 :: u124 :: u125 :: u126 :: u127 :: u128 :: u129 :: u130 :: u131 :: u132 :: u133 :: u134 :: u135 :: u136 :: u137 :: u138 :: u139 :: u140 :: u141 :: u142 :: u143 :: u144 :: u145 :: u146 :: u147 :: u148 :: u149 :: u150 :: u151 :: u152 :: u153 :: u154 :: u155 :: u156 :: u157 :: u158 :: u159 :: u160 :: u161 :: u162 :: u163 :: u164 :: u165 :: u166 :: u167 :: u168 :: u169 :: u170 :: u171 :: u172 :: u173 :: u174 :: u175 :: u176 :: u177 :: u178 :: u179 :: u180 :: u181 :: u182 :: u183 :: u184 :: u185 :: u186 :: u187 :: u188 :: u189 :: u190 :: u191 :: u192 :: u193 :: u194 :: u195 :: u196 :: u197 :: u198 :: u199 :: u200 :: u201 :: u202 :: u203 :: u204 :: u205 :: u206 :: u207 :: u208 :: u209 :: u210 :: u211 :: u212 :: u213 :: u214 :: u215 :: u216 :: u217 :: u218 :: u219 :: u220 :: u221 :: u222 :: u223 :: u224 :: u225 :: u226 :: u227 :: u228 :: u229 :: u230 :: u231 :: u232 :: u233 :: u234 :: u235 :: u236 :: u237 :: u238 :: u239 :: u240 :: u241 :: u242 :: u243 :: u244 :: u245 :: u246 :: u247 :: u248 :: u249 :: u250 :: u251 :: u252 :: u253 :: u254 :: u255 :: u256 :: u257 :: u258 :: u259 :: u260 :: u261 :: u262 :: u263 :: u264 :: u265 :: u266 :: u267 :: u268 :: u269 :: u270 :: u271 :: u272 :: u273 :: u274 :: u275 :: u276 :: u277 :: []), []⟩ X := by
  have hci : (c : Int) < (cols : Int) := by omega
  have hA1 : ∀ x, bits .and .i64 x 1 = x % 2 := and_one
  obtain ⟨wr, hwr⟩ : ∃ Z, Z = X := ⟨_, rfl⟩
  subst hwr
  conv => arg 2; whnf
  go_upto_region 22 with fail
  obtain ⟨wd, hwd, hwd1, hwd2⟩ : ∃ wd : Nat, (if (cols : Int) - (c : Int) < 1 + ((m : Int) / 16 + (c : Int)) % 2 then (cols : Int) - (c : Int) else 1 + ((m : Int) / 16 + (c : Int)) % 2) = (wd : Int) ∧ 1 ≤ wd ∧ c + wd ≤ cols := by
    split
    · exact ⟨cols - c, by omega, by omega, by omega⟩
    · exact ⟨(1 + ((m : Int) / 16 + (c : Int)) % 2).toNat, by omega, by omega, by omega⟩
  obtain ⟨tb, htb⟩ : ∃ tb, (((m : Int) / 32 + (c : Int)) % 2 == 1) = tb := ⟨_, rfl⟩
  rw [hwd, htb]
  clear hwd htb
  have F6 : ∃ w6, wr.alloc (.cells #[.int .i64 k, .int .i64 c, .int .i64 wd, .bool tb, .bool false] 99) = w6 ∧ Below wr.heap.size wr w6 ∧ Blk w6 wr.heap.size 99 #[.int .i64 k, .int .i64 c, .int .i64 wd, .bool tb, .bool false] :=
    ⟨_, rfl, (Below.refl _ _).alloc (Nat.le_refl _) _, Blk.new _ _ _⟩
  obtain ⟨w6, e6, hb6, hx6⟩ := F6
  have E6 := Lib.hid e6
  rw [E6.out]
  have x2 := cellOf hx6 2 (x := .int .i64 wd) rfl
  have x4 := cellOf hx6 4 (x := .bool false) rfl
  have x4f := hx6.frozen 4
  have HX6 := Lib.hid hx6
  have HB6 := Lib.hid hb6
  clear e6 E6 hx6 hb6
  go_cut [120] from 85 to 132 (fun _ wx => RbCut wr k c wd tb wx)
  case first =>
    cases hw1 : ((wd : Int) == 1)
    all_goals
      go_wp2_with fail
      go_meet
      exact rb_cut HX6.out HB6.out rfl
  case rest =>
  obtain ⟨lf, hx7, hb7⟩ := hcut
  obtain ⟨w7, rfl⟩ : ∃ w7, w7 = wc := ⟨wc, rfl⟩
  clear x2 x4 x4f HX6 HB6
  obtain ⟨A2, c2, rfl⟩ := ownsRow_form hst.out.2.2.1
  have hG := hst.out.below hb7
  have m1 := cellOf hG.1 1 (x := .slice A2 ribs.length c2) rfl
  have m1f := hG.1.frozen 1
  have x0 := cellOf hx7 0 (x := .int .i64 k) rfl
  have x1 := cellOf hx7 1 (x := .int .i64 c) rfl
  have x2 := cellOf hx7 2 (x := .int .i64 wd) rfl
  have x3 := cellOf hx7 3 (x := .bool tb) rfl
  have x4 := cellOf hx7 4 (x := .bool lf) rfl
  have hown : w7.ownsRow wo.heap.size 99 5 (.slice A2 ribs.length c2) ribs.length (ribs.flatMap RibD.cells) := hG.2.2.1
  have hbz := hG.2.2.2.size
  have hzz : wo.heap.size < wr.heap.size := hst.out.1.lt
  have hz7 := hb7.size
  have HG := Lib.hid hG
  have HX7 := Lib.hid hx7
  have HNE : Hid (∀ g, (Value.slice A2 ribs.length c2).ownBlock = some g → g < wr.heap.size) := fun g hg => (hst.out.2.2.1.lt g hg).2
  clear hG hx7 hb7 hst
  go_wp2_with (at_builtin; (go_loud (refine wpList_append_own _ rfl _ _ 23 rfl wo.heap.size 99 i2 _ 5 32 Try.underlying23 hi2 hr0 hr1 hr2 rfl (by decide) (.slice A2 ribs.length c2) ribs.length (ribs.flatMap RibD.cells) rfl (hown.alloc _) ⟨w7.heap.size, 0, none⟩ 1 1 [.int .i64 k, .int .i64 c, .int .i64 wd, .bool tb, .bool lf] rfl rfl (cells_new _ _ _) (by simp [Value.oneCell']) (by simp only [maxLen]; omega) (by omega) (by simp; omega) ?_)); intro v2' w8 hown' hgrow _; obtain ⟨A2', c2', rfl⟩ := ownsRow_form hown'; (go_loud (obtain ⟨hG8, hgr, hk1, hb8⟩ := GSt.rib (x := ⟨k, c, wd, tb, lf⟩) HG.out hgrow hown' (Nat.le_refl _))); (go_loud (have hx8 : Blk w8 wr.heap.size 99 #[.int .i64 k, .int .i64 c, .int .i64 wd, .bool tb, .bool lf] := (hgrow.block _ (by have := HX7.out.lt; simp; omega) (fun e => by have := HNE.out _ e.symm; omega)).trans (HX7.out.alloc _))); clear m1 m1f x0 x1 x2 x3 x4; have m1 := cellOf hk1 1 (x := .slice A2 ribs.length c2) rfl; have m1f := hk1.frozen 1; have x2 := cellOf hx8 2 (x := .int .i64 wd) rfl; have hnz : wr.heap.size ≠ wo.heap.size := by omega)
  have hl9 : (ribs ++ [(⟨k, c, wd, tb, lf⟩ : RibD)]).length = ribs.length + 1 := by simp
  have HN := Lib.hid (show _ ∧ _ ∧ _ from ⟨And.intro hwd1 hwd2, hG8, hl9⟩)
  clear m1 m1f x2 hnz hx8 hk1 hb8 hgr hG8 hown' hgrow hown HG HX7 HNE
  exact hQ.out _ _ _ _ _ _ _ _ _ _ _ _ _ _ _ _ _ _ _ _ _ _ _ _ _ _ _ _ _ _ _ _ _ _ _ _ _ _ _ _ _ _ _ _ _ _ _ _ _ _ _ _ _ _ HN.out
set_option maxRecDepth 1000000 in
set_option maxHeartbeats 4000000 in
theorem small_web (u0 u5 u6 u7 u8 u9 u10 u11 u12 u13 u14 u15 u16 u17 u18 u19 u20 u21 u22 u23 u24 u25 u26 u27 u28 u29 u30 u31 u32 u33 u34 u35 u36 u37 u38 u39 u40 u41 u42 u43 u44 u45 u46 u47 u48 u49 u50 u51 u52 u53 u54 u55 u56 u57 u58 u59 u60 u61 u62 u63 u64 u65 u66 u67 u68 u69 u70 u71 u72 u73 u74 u75 u76 u77 u78 u79 u80 u81 u82 u83 u84 u85 u86 u87 u88 u89 u90 u91 u92 u93 u94 u95 u96 u97 u98 u99 u100 u101 u102 u103 u104 u105 u106 u107 u108 u109 u110 u111 u112 u113 u114 u115 u116 u117 u118 u119 u120 u121 u122 u123 u124 u125 u126 u127 u128 u129 u130 u131 u132 u133 u134 u135 u136 u137 u138 u139 u140 u141 u142 u143 u144 u145 u146 u147 u148 u149 u150 u151 u152 u153 u154 u155 u156 u157 u158 u159 u160 u161 u162 u163 u164 u165 u166 u167 u168 u169 u170 u171 u172 u173 u174 u175 u176 u177 u178 u179 u180 u181 u182 u183 u184 u185 u186 u187 u188 u189 u190 u191 u192 u193 u194 u195 u196 u197 u198 u199 u200 u201 u202 u203 u204 u205 u206 u207 u208 u209 u210 u211 u212 u213 u214 u215 u216 u217 u218 u219 u220 u221 u222 u223 u224 u225 u226 u227 u228 u229 u230 u231 u232 u233 u234 u235 u236 u237 u238 u239 u240 u241 u242 u243 u244 u245 u246 u247 u248 u249 u250 u251 u252 u253 u254 u255 u256 u257 u258 u259 u260 u261 u262 u263 u264 u265 u266 u267 u268 u269 u270 u271 u272 u273 u274 u275 u276 u277 : Value) {m k rows nw : Nat} {wo : World} {v1 v2 : Value} {vs : List Value} {webs : List WebD} {ribs : List RibD} {cb : Bool} {i1 i2 i3 : TypeInfo} {X : World} {Q : Exit → Act → World → Prop}
    (hi1 : Try.prog.info? 97 = some i1) (hw0 : i1.zero = some (.agg #[.int .i64 0, .int .i64 0, .slice none 0 0])) (hw1 : i1.size = 3) (hw2 : i1.bytes = 40) (hi2 : Try.prog.info? 99 = some i2) (hr0 : i2.zero = some (.agg #[.int .i64 0, .int .i64 0, .int .i64 0, .bool false, .bool false])) (hr1 : i2.size = 5) (hr2 : i2.bytes = 32) (hi3 : Try.prog.info? 98 = some i3) (hp0 : i3.zero = some (.agg #[.int .i64 0, .bool false])) (hp1 : i3.size = 2) (hp2 : i3.bytes = 16) (hm : m < 512) (hnw : 1 + (m : Int) % 2 = (nw : Int)) (hk2 : k < nw) (hrow2 : rows ≤ 2) (hst : Hid (GSt wo wo.heap.size v1 vs webs v2 ribs (.slice none 0 0) cb X)) (hl1 : webs.length ≤ k) (hl2 : ribs.length ≤ 10 * k) (hw9 : Hid (∀ x ∈ webs, x.plates.length ≤ 1000))
    (hQ : Hid (∀ (x5 x6 x7 x8 x9 x10 x11 x12 x36 x37 x38 x39 x40 x41 x42 x43 x44 x45 x46 x47 x48 x49 x50 x51 x52 x53 x54 x55 x56 x57 x58 x59 x60 x61 x62 x63 x64 x65 x66 x67 x68 x69 x70 x71 x72 x73 x74 x75 x76 x77 x78 x79 x80 x81 x82 x83 x84 x85 x86 x87 x88 x89 x90 x91 x92 x93 x94 x95 x96 x97 x98 x99 x100 x101 x102 x103 x104 x105 x106 x107 x108 x109 x110 x111 x112 x113 x114 x115 x116 x117 x118 x119 x120 x121 x122 x123 x124 x125 x126 x127 x128 x129 x130 x131 x132 : Value) (v1b : Value) (vsb : List Value) (websb : List WebD) (v2b : Value) (ribsb : List RibD) (Y : World), (GSt wo wo.heap.size v1b vsb websb v2b ribsb (.slice none 0 0) cb Y ∧ websb.length ≤ k + 1 ∧ ribsb.length ≤ 10 * (k + 1) ∧ ∀ x ∈ websb, x.plates.length ≤ 1000) → Q .normal ⟨List.toArray (u0 :: (.int .i64 (m : Int)) :: (.pointer (some ⟨wo.heap.size, 0, none⟩)) :: (.int .i64 (rows : Int)) :: (.int .i64 ((k : Int) + 1)) :: x5 :: x6 :: x7 :: x8 :: x9 :: x10 :: x11 :: x12 :: u13 :: u14 :: u15 :: u16 :: u17 :: u18 :: u19 :: u20 :: u21 :: u22 :: u23 :: u24 :: u25 :: u26 :: u27 :: u28 :: u29 :: u30 :: u31 :: u32 :: u33 :: u34 :: u35 :: x36 :: x37 :: x38 :: x39 :: x40 :: x41 :: x42 :: x43 :: x44 :: x45 :: x46 :: x47 :: x48 :: x49 :: x50 :: x51 :: x52 :: x53 :: x54 :: x55 :: x56 :: x57 :: x58 :: x59 :: x60 :: x61 :: x62 :: x63 :: x64 :: x65 :: x66 :: x67 :: x68 :: x69 :: x70 :: x71 :: x72 :: x73 :: x74 :: x75 :: x76 :: x77 :: x78 :: x79 :: x80 :: x81 :: x82 :: x83 :: x84 :: x85 :: x86 :: x87 :: x88 :: x89 :: x90 :: x91 :: x92 :: x93 :: x94 :: x95 :: x96 :: x97 :: x98 :: x99 :: x100 :: x101 :: x102 :: x103 :: x104 :: x105 :: x106 :: x107 :: x108 :: x109 :: x110 :: x111 :: x112 :: x113 :: x114 :: x115 :: x116 :: x117 :: x118 :: x119 :: x120 :: x121 :: x122 :: x123 :: x124 :: x125 :: x126 :: x127 :: x128 :: x129 :: x130 :: x131 :: x132 :: u133 :: u134 :: u135 :: u136 :: u137 :: u138 :: u139 :: u140 :: u141 :: u142 :: u143 :: u144 :: u145 :: u146 :: u147 :: u148 :: u149 :: u150 :: u151 :: u152 :: u153 :: u154 :: u155 :: u156 :: u157 :: u158 :: u159 :: u160 :: u161 :: u162 :: u163 :: u164 :: u165 :: u166 :: u167 :: u168 :: u169 :: u170 :: u171 :: u172 :: u173 :: u174 :: u175 :: u176 :: u177 :: u178 :: u179 :: u180 :: u181 :: u182 :: u183 :: u184 :: u185 :: u186 :: u187 :: u188 :: u189 :: u190 :: u191 :: u192 :: u193 :: u194 :: u195 :: u196 :: u197 :: u198 :: u199 :: u200 :: u201 :: u202 :: u203 :: u204 :: u205 :: u206 :: u207 :: u208 :: u209 :: u210 :: u211 :: u212 :: u213 :: u214 :: u215 :: u216 :: u217 :: u218 :: u219 :: u220 :: u221 :: u222 :: u223 :: u224 :: u225 :: u226 :: u227 :: u228 :: u229 :: u230 :: u231 :: u232 :: u233 :: u234 :: u235 :: u236 :: u237 :: u238 :: u239 :: u240 :: u241 :: u242 :: u243 :: u244 :: u245 :: u246 :: u247 :: u248 :: u249 :: u250 :: u251 :: u252 :: u253 :: u254 :: u255 :: u256 :: u257 :: u258 :: u259 :: u260 :: u261 :: u262 :: u263 :: u264 :: u265 :: u266 :: u267 :: u268 :: u269 :: u270 :: u271 :: u272 :: u273 :: u274 :: u275 :: u276 :: u277 :: []), []⟩ Y)) :
    Code.wp Try.prog (smallLoop 7) Q ⟨List.toArray (u0 :: (.int .i64 (m : Int)) :: (.pointer (some ⟨wo.heap.size, 0, none⟩)) :: (.int .i64 (rows : Int)) :: (.int .i64 (k : Int)) :: u5 :: u6 :: u7 :: u8 :: u9 :: u10 :: u11 :: u12 :: u13 :: u14 :: u15 :: u16 :: u17 :: u18 :: u19 :: u20 :: u21 :: u22 :: u23 :: u24 :: u25 :: u26 :: u27 :: u28 :: u29 :: u30 :: u31 :: u32 :: u33 :: u34 :: u35 :: u36 :: u37 :: u38 :: u39 :: u40 :: u41 :: u42 :: u43 :: u44 :: u45 :: u46 :: u47 :: u48 :: u49 :: u50 :: u51 :: u52 :: u53 :: u54 :: u55 :: u56 :: u57 :: u58 :: u59 :: u60 :: u61 :: u62 :: u63 :: u64 :: u65 :: u66 :: u67 :: u68 :: u69 :: u70 :: u71 :: u72 :: u73 :: u74 :: u75 :: u76 :: u77 :: u78 :: u79 :: u80 :: u81 :: u82 :: u83 :: u84 :: u85 :: u86 :: u87 :: u88 :: u89 :: u90 :: u91 :: u92 :: u93 :: u94 :: u95 :: u96 :: u97 :: u98 :: u99 :: u100 :: u101 :: u102 :: u103 :: u104 :: u105 :: u106 :: u107 :: u108 :: u109 :: u110 :: u111 :: u112 :: u113 :: u114 :: u115 :: u116 :: u117 :: u118 :: u119 :: u120 :: u121 :: u122 :: u123 :: u124 :: u125 :: u126 :: u127 :: u128 :: u129 :: u130 :: u131 :: u132 :: u133 :: u134 :: u135 :: u136 :: u137 :: u138 :: u139 :: u140 :: u141 :: u142 :: u143 :: u144 :: u145 :: u146 :: u147 :: u148 :: u149 :: u150 :: u151 :: u152 :: u153 :: u154 :: u155 :: u156 :: u157 :: u158 :: u159 :: u160 :: u161 :: u162 :: u163 :: u164 :: u165 :: u166 :: u167 :: u168 :: u169 :: u170 :: u171 :: u172 :: u173 :: u174 :: u175 :: u176 :: u177 :: u178 :: u179 :: u180 :: u181 :: u182 :: u183 :: u184 :: u185 :: u186 :: u187 :: u188 :: u189 :: u190 :: u191 :: u192 :: u193 :: u194 :: u195 :: u196 :: u197 :: u198 :: u199 :: u200 :: u201 :: u202 :: u203 :: u204 :: u205 :: u206 :: u207 :: u208 :: u209 :: u210 :: u211 :: u212 :: u213 :: u214 :: u215 :: u216 :: u217 :: u218 :: u219 :: u220 :: u221 :: u222 :: u223 :: u224 :: u225 :: u226 :: u227 :: u228 :: u229 :: u230 :: u231 :: u232 :: u233 :: u234 :: u235 :: u236 :: u237 :: u238 :: u239 :: u240 :: u241 :: u242 :: u243 :: u244 :: u245 :: u246 :: u247 :: u248 :: u249 :: u250 :: u251 :: u252 :: u253 :: u254 :: u255 :: u256 :: u257 :: u258 :: u259 :: u260 :: u261 :: u262 :: u263 :: u264 :: u265 :: u266 :: u267 :: u268 :: u269 :: u270 :: u271 :: u272 :: u273 :: u274 :: u275 :: u276 :: u277 :: []), []⟩ X := by
  have hmi : (m : Int) < 512 := by omega
  have hA1 : ∀ x, bits .and .i64 x 1 = x % 2 := and_one
  have hA3 : ∀ x, bits .and .i64 x 3 = x % 4 := and_three
  have hki : (k : Int) < 1 + (m : Int) % 2 := by omega
  have hk9 : k < 2 := by omega
  have hrow3 : (rows : Int) ≤ 2 := by omega
  obtain ⟨wr, hwr⟩ : ∃ Z, Z = X := ⟨_, rfl⟩
  subst hwr
  obtain ⟨A1, c1, rfl⟩ := ownsRow_form hst.out.2.1.1
  conv => arg 2; whnf
  go_upto_region 11 with fail
  obtain ⟨cols, hcols, hc1, hc4⟩ : ∃ cols : Nat, 1 + (m : Int) / 2 ^ (1 + k) % 4 = (cols : Int) ∧ 1 ≤ cols ∧ cols ≤ 4 := by
    generalize (m : Int) / 2 ^ (1 + k) = q
    exact ⟨(1 + q % 4).toNat, by omega, by omega, by omega⟩
  obtain ⟨P, hP, hP16⟩ : ∃ P : Nat, 2 * (rows : Int) * (cols : Int) = (P : Int) ∧ P ≤ 16 := ⟨2 * rows * cols, by simp, Nat.mul_le_mul (Nat.mul_le_mul_left 2 hrow2) hc4⟩
  rw [hcols]
  clear hcols
  have F2 : ∃ w2, wr.alloc (.cells #[.int .i64 cols, .int .i64 rows, .slice none 0 0] 97) = w2 ∧ Below wr.heap.size wr w2 ∧ Blk w2 wr.heap.size 97 #[.int .i64 cols, .int .i64 rows, .slice none 0 0] :=
    ⟨_, rfl, (Below.refl _ _).alloc (Nat.le_refl _) _, Blk.new _ _ _⟩
  obtain ⟨w2, e2, hb2, hwb⟩ := F2
  have E2 := Lib.hid e2
  rw [E2.out]
  clear e2 E2
  have HWB := Lib.hid hwb
  have HGK := Lib.hid hst.out
  clear hwb hst
  go_wp2
  obtain ⟨wk, rfl⟩ : ∃ wk, wk = wr := ⟨wr, rfl⟩
  go_loopw [7] (fun i wr => ∃ i' : Nat, i' ≤ P ∧ i = .int .i64 i' ∧ ∃ vp pl, Hid (Blk wr wk.heap.size 97 #[.int .i64 cols, .int .i64 rows, vp]) ∧ Hid (OPlatesR wk.heap.size wr vp pl) ∧ pl.length ≤ i' ∧ Below wk.heap.size wk wr) (fun i _ => P - (intOf i).toNat)
  case atStart => exact ⟨0, Nat.zero_le _, rfl, _, [], HWB, World.ownsRow_nil _ _ _ _, Nat.le_refl _, hb2⟩
  case round =>
    clear HWB hb2
    obtain ⟨i, hi9, rfl, vp, pl, hwb, hpl, hl3, hbk⟩ := hrel
    obtain ⟨A5, c5, rfl⟩ := ownsRow_form hpl.out
    by_cases hlti : i < P
    case pos =>
      refine small_plate _ _ _ _ _ _ _ _ _ _ _ _ _ _ _ _ _ _ _ _ _ _ _ _ _ _ _ _ _ _ _ _ _ _ _ _ _ _ _ _ _ _ _ _ _ _ _ _ _ _ _ _ _ _ _ _ _ _ _ _ _ _ _ _ _ _ _ _ _ _ _ _ _ _ _ _ _ _ _ _ _ _ _ _ _ _ _ _ _ _ _ _ _ _ _ _ _ _ _ _ _ _ _ _ _ _ _ _ _ _ _ _ _ _ _ _ _ _ _ _ _ _ _ _ _ _ _ _ _ _ _ _ _ _ _ _ _ _ _ _ _ _ _ _ _ _ _ _ _ _ _ _ _ _ _ _ _ _ _ _ _ _ _ _ _ _ _ _ _ _ _ _ _ _ _ _ _ _ _ _ _ _ _ _ _ _ _ _ _ _ _ _ _ _ _ _ _ _ _ _ _ _ _ _ _ _ _ _ _ _ _ _ _ _ _ _ _ _ _ _ _ _ _ _ _ _ _ _ _ _ _ _ _ _ _ _ _ _ _ _ _ _ _ _ _ _ _ _ _ _ _ _ _ _ _ _ _ _ _ _ _ _ _ _ _ _ _ _ _ _ _ _ _ hi3 hp0 hp1 hp2 hm hlti hP hP16 hrow3 hwb hpl hl3 hbk (Lib.hid ?_)
      clear hwb hpl hl3 hbk
      intro _ _ _ _ _ _ _ _ _ _ _ _ _ _ _ _ _ _ _ _ _ _ _ _ _ _ _ vp2 pl2 Y hY
      have HN := Lib.hid hY
      clear hY
      go_wp2_with fail
      go_roundw
      case rel => exact ⟨i + 1, by omega, by go_num, _, _, Lib.hid HN.out.1, Lib.hid HN.out.2.1, HN.out.2.2.1, HN.out.2.2.2⟩
      case measure => (simp [intOf]) <;> omega
    have hii : ¬ (i : Int) < (P : Int) := by omega
    have q2 := cellOf hwb.out 2 (x := .slice A5 pl.length c5) rfl
    have hG := HGK.out.below hbk
    have m0 := cellOf hG.1 0 (x := .slice A1 webs.length c1) rfl
    have m0f := hG.1.frozen 0
    have q0 := cellOf hwb.out 0 (x := .int .i64 cols) rfl
    have q1 := cellOf hwb.out 1 (x := .int .i64 rows) rfl
    have hown := hG.2.1.1
    have hlts := HGK.out.2.1.lts
    have hbz := hG.2.2.2.size
    have hbz2 := HGK.out.2.2.2.size
    have hu : OPlatesR wo.heap.size wr (.slice A5 pl.length c5) pl := ownsRow_base hpl.out hbz2
    have hge : ∀ g, (Value.slice A5 pl.length c5).ownBlock = some g → wk.heap.size ≤ g := fun g hg => (hpl.out.lt g hg).1
    have HG := Lib.hid hG
    have HLT := Lib.hid hlts
    have HU := Lib.hid hu
    have HGE := Lib.hid hge
    clear hG hlts hu hge hpl
    go_wp2_with (at_builtin; (go_loud (refine wpList_append_own _ rfl _ _ 22 rfl wo.heap.size 97 i1 _ 3 40 Try.underlying22 hi1 hw0 hw1 hw2 rfl (by decide) (.slice A1 webs.length c1) webs.length (webFlat webs vs) rfl (hown.alloc _) ⟨wr.heap.size, 0, none⟩ 1 1 [.int .i64 cols, .int .i64 rows, .slice A5 pl.length c5] rfl rfl (cells_new _ _ _) (by simp [Value.oneCell']) (by simp only [maxLen]; omega) (by omega) (by simp; omega) ?_)); intro v1' w5 hown' hgrow _; obtain ⟨A1', c1', rfl⟩ := ownsRow_form hown'; obtain ⟨hG5, hgr, hk1, hb5⟩ := GSt.web (x := ⟨cols, rows, pl⟩) HG.out HLT.out HU.out HGE.out hgrow hown' (Nat.le_refl _); clear m0 m0f; have m0 := cellOf hk1 0 (x := .slice A1 webs.length c1) rfl; have m0f := hk1.frozen 0)
    have HG5 := Lib.hid hG5
    have hl5 : (webs ++ [(⟨cols, rows, pl⟩ : WebD)]).length ≤ k + 1 := by simp; omega
    have HW5 : Hid (∀ x ∈ webs ++ [(⟨cols, rows, pl⟩ : WebD)], x.plates.length ≤ 1000) := Lib.hid fun x hx => by
      rcases List.mem_append.1 hx with h | h
      · exact hw9.out x h
      · rw [List.mem_singleton.1 h]
        show pl.length ≤ 1000
        omega
    clear m0 m0f q0 q1 q2 hwb hbk hown hbz hbz2 HG HLT HU HGE hown' hgrow hG5 hgr hk1 hb5 HGK hii
    go_loopw [10] (fun i wr => ∃ c : Nat, c ≤ cols ∧ i = .int .i64 c ∧ ∃ v2 ribs, Hid (GSt wo wo.heap.size (.slice A1' (webs.length + 1) c1') (vs ++ [.slice A5 pl.length c5]) (webs ++ [⟨cols, rows, pl⟩]) v2 ribs (.slice none 0 0) cb wr) ∧ ribs.length ≤ 10 * k + c) (fun i _ => cols - (intOf i).toNat)
    case atStart => exact ⟨0, Nat.zero_le _, rfl, _, _, HG5, by omega⟩
    case round =>
      clear HG5 hl2
      obtain ⟨c, hcc, rfl, v2, ribs, hst, hl2⟩ := hrel
      by_cases hltc : c < cols
      case neg =>
        have hcn : ¬ (c : Int) < (cols : Int) := by omega
        go_wp2_with fail
        exact hQ.out _ _ _ _ _ _ _ _ _ _ _ _ _ _ _ _ _ _ _ _ _ _ _ _ _ _ _ _ _ _ _ _ _ _ _ _ _ _ _ _ _ _ _ _ _ _ _ _ _ _ _ _ _ _ _ _ _ _ _ _ _ _ _ _ _ _ _ _ _ _ _ _ _ _ _ _ _ _ _ _ _ _ _ _ _ _ _ _ _ _ _ _ _ _ _ _ _ _ _ _ _ _ _ _ _ _ _ _ _ _ _ ⟨hst.out, hl5, by omega, HW5.out⟩
      refine small_rib _ _ _ _ _ _ _ _ _ _ _ _ _ _ _ _ _ _ _ _ _ _ _ _ _ _ _ _ _ _ _ _ _ _ _ _ _ _ _ _ _ _ _ _ _ _ _ _ _ _ _ _ _ _ _ _ _ _ _ _ _ _ _ _ _ _ _ _ _ _ _ _ _ _ _ _ _ _ _ _ _ _ _ _ _ _ _ _ _ _ _ _ _ _ _ _ _ _ _ _ _ _ _ _ _ _ _ _ _ _ _ _ _ _ _ _ _ _ _ _ _ _ _ _ _ _ _ _ _ _ _ _ _ _ _ _ _ _ _ _ _ _ _ _ _ _ _ _ _ _ _ _ _ _ _ _ _ _ _ _ _ _ _ _ _ _ _ _ _ _ _ _ _ _ _ _ _ _ _ _ _ _ _ _ _ _ _ _ _ _ _ _ _ _ _ _ _ _ _ _ _ _ _ _ _ _ _ _ _ _ _ _ _ _ _ _ _ _ _ _ _ _ _ _ _ _ _ _ _ _ _ _ _ _ _ _ _ _ _ _ _ _ _ _ _ _ _ _ _ _ _ _ _ _ _ _ _ _ _ _ _ _ _ _ _ _ _ _ _ _ _ _ _ hi2 hr0 hr1 hr2 hm hk9 hltc hc4 hst (by omega) (Lib.hid ?_)
      clear hst
      intro _ _ _ _ _ _ _ _ _ _ _ _ _ _ _ _ _ _ _ _ _ _ _ _ _ _ _ _ _ _ _ _ _ _ _ _ _ _ _ _ _ _ _ _ _ _ _ _ _ _ wd v3 ribs2 Y hY
      have HN := Lib.hid hY
      clear hY
      go_wp2_with fail
      go_roundw
      case rel => exact ⟨c + wd, by have := HN.out.1; omega, by go_num, _, _, Lib.hid HN.out.2.1, by have := HN.out.2.2; have := HN.out.1; omega⟩
      case measure => have := HN.out.1; (simp [intOf]) <;> omega
set_option maxRecDepth 1000000 in
set_option maxHeartbeats 4000000 in
theorem small_ord (u0 u3 u4 u5 u6 u7 u8 u9 u10 u11 u12 u15 u16 u17 u18 u19 u20 u21 u22 u23 u24 u25 u26 u27 u28 u29 u30 u31 u32 u33 u34 u35 u36 u37 u38 u39 u40 u41 u42 u43 u44 u45 u46 u47 u48 u49 u50 u51 u52 u53 u54 u55 u56 u57 u58 u59 u60 u61 u62 u63 u64 u65 u66 u67 u68 u69 u70 u71 u72 u73 u74 u75 u76 u77 u78 u79 u80 u81 u82 u83 u84 u85 u86 u87 u88 u89 u90 u91 u92 u93 u94 u95 u96 u97 u98 u99 u100 u101 u102 u103 u104 u105 u106 u107 u108 u109 u110 u111 u112 u113 u114 u115 u116 u117 u118 u119 u120 u121 u122 u123 u124 u125 u126 u127 u128 u129 u130 u131 u132 u133 u134 u135 u136 u137 u138 u139 u140 u141 u142 u143 u144 u145 u146 u147 u148 u149 u150 u151 u152 u153 u154 u155 u156 u157 u158 u159 u160 u161 u162 u163 u164 u165 u166 u167 u168 u169 u170 u171 u172 u173 u174 u175 u176 u177 u178 u179 u180 u181 u182 u183 u184 u185 u186 u187 u188 u189 u190 u191 u192 u193 u194 u195 u196 u197 u198 u199 u200 u201 u202 u203 u204 u205 u206 u207 u208 u209 u210 u211 u212 u213 u214 u215 u216 u217 u218 u219 u220 u221 u222 u223 u224 u225 u226 u227 u228 u229 u230 u231 u232 u233 u234 u235 u236 u237 u238 u239 u240 u241 u242 u243 u244 u245 u246 u247 u248 u249 u250 u251 u252 u253 u254 u255 u256 u257 u258 u259 u260 u261 u262 u263 u264 u265 u266 u267 u268 u269 u270 u271 u272 u273 u274 u275 u276 u277 : Value) {m j c1 c2 c3 : Nat} {A1 A2 A3 : Option Addr} {wo : World} {vs : List Value} {webs : List WebD} {ribs : List RibD} {cb : Bool} {ints : List Int} {i0 : TypeInfo} {X : World} {Q : Exit → Act → World → Prop}
    (hi : Try.prog.info? 3 = some i0) (hz0 : i0.zero = some (.int .i64 0)) (hz1 : i0.size = 1) (hz2 : i0.bytes = 8) (hm : m < 512) (hltj : j < ribs.length) (hrl : ribs.length ≤ 20) (hl3 : ints.length ≤ j) (hin : Hid (X.ownsRow wo.heap.size 3 1 (.slice A3 ints.length c3) ints.length (ints.map (Value.int .i64)))) (hst : Hid (GSt wo wo.heap.size (.slice A1 webs.length c1) vs webs (.slice A2 ribs.length c2) ribs (.slice none 0 0) cb X))
    (hQ : Hid (∀ (x133 x134 x135 x136 x137 x138 x139 x140 x141 x142 x143 x144 x145 x146 x147 x148 x149 x150 : Value) (s13 : Value) (ints2 : List Int) (Y : World), ((Y.ownsRow wo.heap.size 3 1 s13 ints2.length (ints2.map (Value.int .i64))) ∧ ints2.length = ints.length + 1 ∧ GSt wo wo.heap.size (.slice A1 webs.length c1) vs webs (.slice A2 ribs.length c2) ribs (.slice none 0 0) cb Y) → Q .normal ⟨List.toArray (u0 :: (.int .i64 (m : Int)) :: (.pointer (some ⟨wo.heap.size, 0, none⟩)) :: u3 :: u4 :: u5 :: u6 :: u7 :: u8 :: u9 :: u10 :: u11 :: u12 :: s13 :: (.int .i64 ((j : Int) + 1)) :: u15 :: u16 :: u17 :: u18 :: u19 :: u20 :: u21 :: u22 :: u23 :: u24 :: u25 :: u26 :: u27 :: u28 :: u29 :: u30 :: u31 :: u32 :: u33 :: u34 :: u35 :: u36 :: u37 :: u38 :: u39 :: u40 :: u41 :: u42 :: u43 :: u44 :: u45 :: u46 :: u47 :: u48 :: u49 :: u50 :: u51 :: u52 :: u53 :: u54 :: u55 :: u56 :: u57 :: u58 :: u59 :: u60 :: u61 :: u62 :: u63 :: u64 :: u65 :: u66 :: u67 :: u68 :: u69 :: u70 :: u71 :: u72 :: u73 :: u74 :: u75 :: u76 :: u77 :: u78 :: u79 :: u80 :: u81 :: u82 :: u83 :: u84 :: u85 :: u86 :: u87 :: u88 :: u89 :: u90 :: u91 :: u92 :: u93 :: u94 :: u95 :: u96 :: u97 :: u98 :: u99 :: u100 :: u101 :: u102 :: u103 :: u104 :: u105 :: u106 :: u107 :: u108 :: u109 :: u110 :: u111 :: u112 :: u113 :: u114 :: u115 :: u116 :: u117 :: u118 :: u119 :: u120 :: u121 :: u122 :: u123 :: u124 :: u125 :: u126 :: u127 :: u128 :: u129 :: u130 :: u131 :: u132 :: x133 :: x134 :: x135 :: x136 :: x137 :: x138 :: x139 :: x140 :: x141 :: x142 :: x143 :: x144 :: x145 :: x146 :: x147 :: x148 :: x149 :: x150 :: u151 :: u152 :: u153 :: u154 :: u155 :: u156 :: u157 :: u158 :: u159 :: u160 :: u161 :: u162 :: u163 :: u164 :: u165 :: u166 :: u167 :: u168 :: u169 :: u170 :: u171 :: u172 :: u173 :: u174 :: u175 :: u176 :: u177 :: u178 :: u179 :: u180 :: u181 :: u182 :: u183 :: u184 :: u185 :: u186 :: u187 :: u188 :: u189 :: u190 :: u191 :: u192 :: u193 :: u194 :: u195 :: u196 :: u197 :: u198 :: u199 :: u200 :: u201 :: u202 :: u203 :: u204 :: u205 :: u206 :: u207 :: u208 :: u209 :: u210 :: u211 :: u212 :: u213 :: u214 :: u215 :: u216 :: u217 :: u218 :: u219 :: u220 :: u221 :: u222 :: u223 :: u224 :: u225 :: u226 :: u227 :: u228 :: u229 :: u230 :: u231 :: u232 :: u233 :: u234 :: u235 :: u236 :: u237 :: u238 :: u239 :: u240 :: u241 :: u242 :: u243 :: u244 :: u245 :: u246 :: u247 :: u248 :: u249 :: u250 :: u251 :: u252 :: u253 :: u254 :: u255 :: u256 :: u257 :: u258 :: u259 :: u260 :: u261 :: u262 :: u263 :: u264 :: u265 :: u266 :: u267 :: u268 :: u269 :: u270 :: u271 :: u272 :: u273 :: u274 :: u275 :: u276 :: u277 :: []), []⟩ Y)) :
    Code.wp Try.prog (smallLoop 28) Q ⟨List.toArray (u0 :: (.int .i64 (m : Int)) :: (.pointer (some ⟨wo.heap.size, 0, none⟩)) :: u3 :: u4 :: u5 :: u6 :: u7 :: u8 :: u9 :: u10 :: u11 :: u12 :: (.slice A3 ints.length c3) :: (.int .i64 (j : Int)) :: u15 :: u16 :: u17 :: u18 :: u19 :: u20 :: u21 :: u22 :: u23 :: u24 :: u25 :: u26 :: u27 :: u28 :: u29 :: u30 :: u31 :: u32 :: u33 :: u34 :: u35 :: u36 :: u37 :: u38 :: u39 :: u40 :: u41 :: u42 :: u43 :: u44 :: u45 :: u46 :: u47 :: u48 :: u49 :: u50 :: u51 :: u52 :: u53 :: u54 :: u55 :: u56 :: u57 :: u58 :: u59 :: u60 :: u61 :: u62 :: u63 :: u64 :: u65 :: u66 :: u67 :: u68 :: u69 :: u70 :: u71 :: u72 :: u73 :: u74 :: u75 :: u76 :: u77 :: u78 :: u79 :: u80 :: u81 :: u82 :: u83 :: u84 :: u85 :: u86 :: u87 :: u88 :: u89 :: u90 :: u91 :: u92 :: u93 :: u94 :: u95 :: u96 :: u97 :: u98 :: u99 :: u100 :: u101 :: u102 :: u103 :: u104 :: u105 :: u106 :: u107 :: u108 :: u109 :: u110 :: u111 :: u112 :: u113 :: u114 :: u115 :: u116 :: u117 :: u118 :: u119 :: u120 :: u121 :: u122 :: u123 :: u124 :: u125 :: u126 :: u127 :: u128 :: u129 :: u130 :: u131 :: u132 :: u133 :: u134 :: u135 :: u136 :: u137 :: u138 :: u139 :: u140 :: u141 :: u142 :: u143 :: u144 :: u145 :: u146 :: u147 :: u148 :: u149 :: u150 :: u151 :: u152 :: u153 :: u154 :: u155 :: u156 :: u157 :: u158 :: u159 :: u160 :: u161 :: u162 :: u163 :: u164 :: u165 :: u166 :: u167 :: u168 :: u169 :: u170 :: u171 :: u172 :: u173 :: u174 :: u175 :: u176 :: u177 :: u178 :: u179 :: u180 :: u181 :: u182 :: u183 :: u184 :: u185 :: u186 :: u187 :: u188 :: u189 :: u190 :: u191 :: u192 :: u193 :: u194 :: u195 :: u196 :: u197 :: u198 :: u199 :: u200 :: u201 :: u202 :: u203 :: u204 :: u205 :: u206 :: u207 :: u208 :: u209 :: u210 :: u211 :: u212 :: u213 :: u214 :: u215 :: u216 :: u217 :: u218 :: u219 :: u220 :: u221 :: u222 :: u223 :: u224 :: u225 :: u226 :: u227 :: u228 :: u229 :: u230 :: u231 :: u232 :: u233 :: u234 :: u235 :: u236 :: u237 :: u238 :: u239 :: u240 :: u241 :: u242 :: u243 :: u244 :: u245 :: u246 :: u247 :: u248 :: u249 :: u250 :: u251 :: u252 :: u253 :: u254 :: u255 :: u256 :: u257 :: u258 :: u259 :: u260 :: u261 :: u262 :: u263 :: u264 :: u265 :: u266 :: u267 :: u268 :: u269 :: u270 :: u271 :: u272 :: u273 :: u274 :: u275 :: u276 :: u277 :: []), []⟩ X := by
  have m1 := cellOf hst.out.1 1 (x := .slice A2 ribs.length c2) rfl
  have hji : (j : Int) < (ribs.length : Int) := by omega
  have hn0 : (ribs.length : Int) ≠ 0 := by omega
  have hn1 : ((ribs.length : Int) == 0) = false := by rw [beq_eq_false_iff_ne]; omega
  have hown := hin.out
  have hbw := hst.out.2.2.2
  have hbz := hbw.size
  conv => arg 2; whnf
  go_wp2_with (at_builtin; (go_loud (refine wpList_append_own _ rfl _ _ 48 rfl wo.heap.size 3 i0 (.int .i64 0) 1 8 Try.underlying48 hi hz0 hz1 hz2 rfl (by decide) (.slice A3 ints.length c3) ints.length (ints.map (Value.int .i64)) rfl (hown.alloc _) ⟨X.heap.size, 0, none⟩ 1 1 [.int .i64 _] rfl rfl (cells_new _ _ _) (by simp [Value.oneCell']) (by simp only [maxLen]; omega) (by omega) (by simp; omega) ?_)); intro v' w4 hown' hgrow _; (go_loud (have hgr := Grew.of_append hown hgrow)); (go_loud (have hb4 : Below wo.heap.size wo w4 := (hbw.alloc hbz _).grown hgrow (by simp; omega) (fun q hq => (hown.lt q hq).1))))
  have hS4 := hst.out.grew hgr hb4 (by decide) (by decide) (by decide) (by decide)
  obtain ⟨ints2, hr2, hl2⟩ := row_snoc hown'
  have HN := Lib.hid (show _ ∧ _ ∧ _ from ⟨hr2, hl2, hS4⟩)
  clear hgrow hgr hb4 hin hst hown hbw m1 hown' hS4
  go_wp2
  exact hQ.out _ _ _ _ _ _ _ _ _ _ _ _ _ _ _ _ _ _ _ _ _ HN.out
set_option maxRecDepth 1000000 in
set_option maxHeartbeats 4000000 in
theorem small_back (u0 u1 u2 u3 u4 u5 u6 u7 u8 u9 u10 u11 u12 u14 u16 u17 u18 u19 u20 u21 u22 u23 u24 u25 u26 u27 u28 u29 u30 u31 u32 u33 u34 u35 u36 u37 u38 u39 u40 u41 u42 u43 u44 u45 u46 u47 u48 u49 u50 u51 u52 u53 u54 u55 u56 u57 u58 u59 u60 u61 u62 u63 u64 u65 u66 u67 u68 u69 u70 u71 u72 u73 u74 u75 u76 u77 u78 u79 u80 u81 u82 u83 u84 u85 u86 u87 u88 u89 u90 u91 u92 u93 u94 u95 u96 u97 u98 u99 u100 u101 u102 u103 u104 u105 u106 u107 u108 u109 u110 u111 u112 u113 u114 u115 u116 u117 u118 u119 u120 u121 u122 u123 u124 u125 u126 u127 u128 u129 u130 u131 u132 u133 u134 u135 u136 u137 u138 u139 u140 u141 u142 u143 u144 u145 u146 u147 u148 u149 u150 u151 u152 u153 u154 u155 u156 u157 u158 u159 u160 u161 u162 u163 u164 u165 u166 u167 u168 u169 u170 u171 u172 u173 u174 u175 u176 u177 u178 u179 u180 u181 u182 u183 u184 u185 u186 u187 u188 u189 u190 u191 u192 u193 u194 u195 u196 u197 u198 u199 u200 u201 u202 u203 u204 u205 u206 u207 u208 u209 u210 u211 u212 u213 u214 u215 u216 u217 u218 u219 u220 u221 u222 u223 u224 u225 u226 u227 u228 u229 u230 u231 u232 u233 u234 u235 u236 u237 u238 u239 u240 u241 u242 u243 u244 u245 u246 u247 u248 u249 u250 u251 u252 u253 u254 u255 u256 u257 u258 u259 u260 u261 u262 u263 u264 u265 u266 u267 u268 u269 u270 u271 u272 u273 u274 u275 u276 u277 : Value) {m j c1 c2 c3 : Nat} {A1 A2 A3 : Option Addr} {wo : World} {vs : List Value} {webs : List WebD} {ribs : List RibD} {cb : Bool} {ints : List Int} {i0 : TypeInfo} {X : World} {Q : Exit → Act → World → Prop}
    (hi : Try.prog.info? 3 = some i0) (hz0 : i0.zero = some (.int .i64 0)) (hz1 : i0.size = 1) (hz2 : i0.bytes = 8) (hj0 : 1 ≤ j) (hrl : j ≤ 20) (hl3 : ints.length ≤ 20) (hin : Hid (X.ownsRow wo.heap.size 3 1 (.slice A3 ints.length c3) ints.length (ints.map (Value.int .i64)))) (hst : Hid (GSt wo wo.heap.size (.slice A1 webs.length c1) vs webs (.slice A2 ribs.length c2) ribs (.slice none 0 0) cb X))
    (hQ : Hid (∀ (x160 x161 x162 x163 x164 x165 x166 x167 : Value) (s13 : Value) (ints2 : List Int) (Y : World), ((Y.ownsRow wo.heap.size 3 1 s13 ints2.length (ints2.map (Value.int .i64))) ∧ ints2.length = ints.length + 1 ∧ GSt wo wo.heap.size (.slice A1 webs.length c1) vs webs (.slice A2 ribs.length c2) ribs (.slice none 0 0) cb Y) → Q .normal ⟨List.toArray (u0 :: u1 :: u2 :: u3 :: u4 :: u5 :: u6 :: u7 :: u8 :: u9 :: u10 :: u11 :: u12 :: s13 :: u14 :: (.int .i64 ((j : Int) - 1 - 1)) :: u16 :: u17 :: u18 :: u19 :: u20 :: u21 :: u22 :: u23 :: u24 :: u25 :: u26 :: u27 :: u28 :: u29 :: u30 :: u31 :: u32 :: u33 :: u34 :: u35 :: u36 :: u37 :: u38 :: u39 :: u40 :: u41 :: u42 :: u43 :: u44 :: u45 :: u46 :: u47 :: u48 :: u49 :: u50 :: u51 :: u52 :: u53 :: u54 :: u55 :: u56 :: u57 :: u58 :: u59 :: u60 :: u61 :: u62 :: u63 :: u64 :: u65 :: u66 :: u67 :: u68 :: u69 :: u70 :: u71 :: u72 :: u73 :: u74 :: u75 :: u76 :: u77 :: u78 :: u79 :: u80 :: u81 :: u82 :: u83 :: u84 :: u85 :: u86 :: u87 :: u88 :: u89 :: u90 :: u91 :: u92 :: u93 :: u94 :: u95 :: u96 :: u97 :: u98 :: u99 :: u100 :: u101 :: u102 :: u103 :: u104 :: u105 :: u106 :: u107 :: u108 :: u109 :: u110 :: u111 :: u112 :: u113 :: u114 :: u115 :: u116 :: u117 :: u118 :: u119 :: u120 :: u121 :: u122 :: u123 :: u124 :: u125 :: u126 :: u127 :: u128 :: u129 :: u130 :: u131 :: u132 :: u133 :: u134 :: u135 :: u136 :: u137 :: u138 :: u139 :: u140 :: u141 :: u142 :: u143 :: u144 :: u145 :: u146 :: u147 :: u148 :: u149 :: u150 :: u151 :: u152 :: u153 :: u154 :: u155 :: u156 :: u157 :: u158 :: u159 :: x160 :: x161 :: x162 :: x163 :: x164 :: x165 :: x166 :: x167 :: u168 :: u169 :: u170 :: u171 :: u172 :: u173 :: u174 :: u175 :: u176 :: u177 :: u178 :: u179 :: u180 :: u181 :: u182 :: u183 :: u184 :: u185 :: u186 :: u187 :: u188 :: u189 :: u190 :: u191 :: u192 :: u193 :: u194 :: u195 :: u196 :: u197 :: u198 :: u199 :: u200 :: u201 :: u202 :: u203 :: u204 :: u205 :: u206 :: u207 :: u208 :: u209 :: u210 :: u211 :: u212 :: u213 :: u214 :: u215 :: u216 :: u217 :: u218 :: u219 :: u220 :: u221 :: u222 :: u223 :: u224 :: u225 :: u226 :: u227 :: u228 :: u229 :: u230 :: u231 :: u232 :: u233 :: u234 :: u235 :: u236 :: u237 :: u238 :: u239 :: u240 :: u241 :: u242 :: u243 :: u244 :: u245 :: u246 :: u247 :: u248 :: u249 :: u250 :: u251 :: u252 :: u253 :: u254 :: u255 :: u256 :: u257 :: u258 :: u259 :: u260 :: u261 :: u262 :: u263 :: u264 :: u265 :: u266 :: u267 :: u268 :: u269 :: u270 :: u271 :: u272 :: u273 :: u274 :: u275 :: u276 :: u277 :: []), []⟩ Y)) :
    Code.wp Try.prog (smallLoop 34) Q ⟨List.toArray (u0 :: u1 :: u2 :: u3 :: u4 :: u5 :: u6 :: u7 :: u8 :: u9 :: u10 :: u11 :: u12 :: (.slice A3 ints.length c3) :: u14 :: (.int .i64 ((j : Int) - 1)) :: u16 :: u17 :: u18 :: u19 :: u20 :: u21 :: u22 :: u23 :: u24 :: u25 :: u26 :: u27 :: u28 :: u29 :: u30 :: u31 :: u32 :: u33 :: u34 :: u35 :: u36 :: u37 :: u38 :: u39 :: u40 :: u41 :: u42 :: u43 :: u44 :: u45 :: u46 :: u47 :: u48 :: u49 :: u50 :: u51 :: u52 :: u53 :: u54 :: u55 :: u56 :: u57 :: u58 :: u59 :: u60 :: u61 :: u62 :: u63 :: u64 :: u65 :: u66 :: u67 :: u68 :: u69 :: u70 :: u71 :: u72 :: u73 :: u74 :: u75 :: u76 :: u77 :: u78 :: u79 :: u80 :: u81 :: u82 :: u83 :: u84 :: u85 :: u86 :: u87 :: u88 :: u89 :: u90 :: u91 :: u92 :: u93 :: u94 :: u95 :: u96 :: u97 :: u98 :: u99 :: u100 :: u101 :: u102 :: u103 :: u104 :: u105 :: u106 :: u107 :: u108 :: u109 :: u110 :: u111 :: u112 :: u113 :: u114 :: u115 :: u116 :: u117 :: u118 :: u119 :: u120 :: u121 :: u122 :: u123 :: u124 :: u125 :: u126 :: u127 :: u128 :: u129 :: u130 :: u131 :: u132 :: u133 :: u134 :: u135 :: u136 :: u137 :: u138 :: u139 :: u140 :: u141 :: u142 :: u143 :: u144 :: u145 :: u146 :: u147 :: u148 :: u149 :: u150 :: u151 :: u152 :: u153 :: u154 :: u155 :: u156 :: u157 :: u158 :: u159 :: u160 :: u161 :: u162 :: u163 :: u164 :: u165 :: u166 :: u167 :: u168 :: u169 :: u170 :: u171 :: u172 :: u173 :: u174 :: u175 :: u176 :: u177 :: u178 :: u179 :: u180 :: u181 :: u182 :: u183 :: u184 :: u185 :: u186 :: u187 :: u188 :: u189 :: u190 :: u191 :: u192 :: u193 :: u194 :: u195 :: u196 :: u197 :: u198 :: u199 :: u200 :: u201 :: u202 :: u203 :: u204 :: u205 :: u206 :: u207 :: u208 :: u209 :: u210 :: u211 :: u212 :: u213 :: u214 :: u215 :: u216 :: u217 :: u218 :: u219 :: u220 :: u221 :: u222 :: u223 :: u224 :: u225 :: u226 :: u227 :: u228 :: u229 :: u230 :: u231 :: u232 :: u233 :: u234 :: u235 :: u236 :: u237 :: u238 :: u239 :: u240 :: u241 :: u242 :: u243 :: u244 :: u245 :: u246 :: u247 :: u248 :: u249 :: u250 :: u251 :: u252 :: u253 :: u254 :: u255 :: u256 :: u257 :: u258 :: u259 :: u260 :: u261 :: u262 :: u263 :: u264 :: u265 :: u266 :: u267 :: u268 :: u269 :: u270 :: u271 :: u272 :: u273 :: u274 :: u275 :: u276 :: u277 :: []), []⟩ X := by
  have hjn : (0 : Int) ≤ (j : Int) - 1 := by omega
  have hown := hin.out
  have hbw := hst.out.2.2.2
  have hbz := hbw.size
  conv => arg 2; whnf
  go_wp2_with (at_builtin; (go_loud (refine wpList_append_own _ rfl _ _ 48 rfl wo.heap.size 3 i0 (.int .i64 0) 1 8 Try.underlying48 hi hz0 hz1 hz2 rfl (by decide) (.slice A3 ints.length c3) ints.length (ints.map (Value.int .i64)) rfl (hown.alloc _) ⟨X.heap.size, 0, none⟩ 1 1 [.int .i64 _] rfl rfl (cells_new _ _ _) (by simp [Value.oneCell']) (by simp only [maxLen]; omega) (by omega) (by simp; omega) ?_)); intro v' w4 hown' hgrow _; (go_loud (have hgr := Grew.of_append hown hgrow)); (go_loud (have hb4 : Below wo.heap.size wo w4 := (hbw.alloc hbz _).grown hgrow (by simp; omega) (fun q hq => (hown.lt q hq).1))))
  have hS4 := hst.out.grew hgr hb4 (by decide) (by decide) (by decide) (by decide)
  obtain ⟨ints2, hr2, hl2⟩ := row_snoc hown'
  have HN := Lib.hid (show _ ∧ _ ∧ _ from ⟨hr2, hl2, hS4⟩)
  clear hgrow hgr hb4 hin hst hown hbw hown' hS4
  go_wp2
  exact hQ.out _ _ _ _ _ _ _ _ _ _ _ HN.out
set_option maxRecDepth 1000000 in
set_option maxHeartbeats 4000000 in
theorem small_len (u0 u2 u3 u4 u5 u6 u7 u8 u9 u10 u11 u12 u13 u14 u15 u16 u18 u22 u23 u24 u25 u26 u27 u28 u29 u30 u31 u32 u33 u34 u35 u36 u37 u38 u39 u40 u41 u42 u43 u44 u45 u46 u47 u48 u49 u50 u51 u52 u53 u54 u55 u56 u57 u58 u59 u60 u61 u62 u63 u64 u65 u66 u67 u68 u69 u70 u71 u72 u73 u74 u75 u76 u77 u78 u79 u80 u81 u82 u83 u84 u85 u86 u87 u88 u89 u90 u91 u92 u93 u94 u95 u96 u97 u98 u99 u100 u101 u102 u103 u104 u105 u106 u107 u108 u109 u110 u111 u112 u113 u114 u115 u116 u117 u118 u119 u120 u121 u122 u123 u124 u125 u126 u127 u128 u129 u130 u131 u132 u133 u134 u135 u136 u137 u138 u139 u140 u141 u142 u143 u144 u145 u146 u147 u148 u149 u150 u151 u152 u153 u154 u155 u156 u157 u158 u159 u160 u161 u162 u163 u164 u165 u166 u167 u168 u169 u170 u171 u172 u173 u174 u175 u176 u177 u178 u179 u180 u181 u182 u183 u184 u185 u186 u187 u188 u189 u190 u191 u192 u193 u194 u195 u196 u197 u198 u199 u200 u201 u202 u203 u204 u205 u206 u207 u208 u209 u210 u211 u212 u213 u214 u215 u216 u217 u218 u219 u220 u221 u222 u223 u224 u225 u226 u227 u228 u229 u230 u231 u232 u233 u234 u235 u236 u237 u238 u239 u240 u241 u242 u243 u244 u245 u246 u247 u248 u249 u250 u251 u252 u253 u254 u255 u256 u257 u258 u259 u260 u261 u262 u263 u264 u265 u266 u267 u268 u269 u270 u271 u272 u273 u274 u275 u276 u277 : Value) {m k i gs os ns cs c3 : Nat} {A3 : Option Addr} {wk : World} {ints : List Int} {s : Int} {i0 : TypeInfo} {X : World} {Q : Exit → Act → World → Prop}
    (hi : Try.prog.info? 3 = some i0) (hz0 : i0.zero = some (.int .i64 0)) (hz1 : i0.size = 1) (hz2 : i0.bytes = 8) (hm : m < 512) (hin0 : i < ns) (hk : (k : Int) < s) (hs : s ≤ 128) (hl3 : ints.length ≤ k) (c0 : X.cell? ⟨gs, os + i, none⟩ = some (.int .i64 s)) (hin : Hid (X.ownsRow wk.heap.size 3 1 (.slice A3 ints.length c3) ints.length (ints.map (Value.int .i64)))) (hb : Hid (Below wk.heap.size wk X))
    (hQ : Hid (∀ (x196 x197 x198 x199 x200 x201 x202 x203 x204 x205 x206 x207 x208 x209 x210 x211 : Value) (s20 : Value) (ints2 : List Int) (Y : World), ((Y.ownsRow wk.heap.size 3 1 s20 ints2.length (ints2.map (Value.int .i64))) ∧ ints2.length = ints.length + 1 ∧ Below wk.heap.size wk Y) → Q .normal ⟨List.toArray (u0 :: (.int .i64 (m : Int)) :: u2 :: u3 :: u4 :: u5 :: u6 :: u7 :: u8 :: u9 :: u10 :: u11 :: u12 :: u13 :: u14 :: u15 :: u16 :: (.slice (some ⟨gs, os, none⟩) ns cs) :: u18 :: (.int .i64 (i : Int)) :: s20 :: (.int .i64 ((k : Int) + 1)) :: u22 :: u23 :: u24 :: u25 :: u26 :: u27 :: u28 :: u29 :: u30 :: u31 :: u32 :: u33 :: u34 :: u35 :: u36 :: u37 :: u38 :: u39 :: u40 :: u41 :: u42 :: u43 :: u44 :: u45 :: u46 :: u47 :: u48 :: u49 :: u50 :: u51 :: u52 :: u53 :: u54 :: u55 :: u56 :: u57 :: u58 :: u59 :: u60 :: u61 :: u62 :: u63 :: u64 :: u65 :: u66 :: u67 :: u68 :: u69 :: u70 :: u71 :: u72 :: u73 :: u74 :: u75 :: u76 :: u77 :: u78 :: u79 :: u80 :: u81 :: u82 :: u83 :: u84 :: u85 :: u86 :: u87 :: u88 :: u89 :: u90 :: u91 :: u92 :: u93 :: u94 :: u95 :: u96 :: u97 :: u98 :: u99 :: u100 :: u101 :: u102 :: u103 :: u104 :: u105 :: u106 :: u107 :: u108 :: u109 :: u110 :: u111 :: u112 :: u113 :: u114 :: u115 :: u116 :: u117 :: u118 :: u119 :: u120 :: u121 :: u122 :: u123 :: u124 :: u125 :: u126 :: u127 :: u128 :: u129 :: u130 :: u131 :: u132 :: u133 :: u134 :: u135 :: u136 :: u137 :: u138 :: u139 :: u140 :: u141 :: u142 :: u143 :: u144 :: u145 :: u146 :: u147 :: u148 :: u149 :: u150 :: u151 :: u152 :: u153 :: u154 :: u155 :: u156 :: u157 :: u158 :: u159 :: u160 :: u161 :: u162 :: u163 :: u164 :: u165 :: u166 :: u167 :: u168 :: u169 :: u170 :: u171 :: u172 :: u173 :: u174 :: u175 :: u176 :: u177 :: u178 :: u179 :: u180 :: u181 :: u182 :: u183 :: u184 :: u185 :: u186 :: u187 :: u188 :: u189 :: u190 :: u191 :: u192 :: u193 :: u194 :: u195 :: x196 :: x197 :: x198 :: x199 :: x200 :: x201 :: x202 :: x203 :: x204 :: x205 :: x206 :: x207 :: x208 :: x209 :: x210 :: x211 :: u212 :: u213 :: u214 :: u215 :: u216 :: u217 :: u218 :: u219 :: u220 :: u221 :: u222 :: u223 :: u224 :: u225 :: u226 :: u227 :: u228 :: u229 :: u230 :: u231 :: u232 :: u233 :: u234 :: u235 :: u236 :: u237 :: u238 :: u239 :: u240 :: u241 :: u242 :: u243 :: u244 :: u245 :: u246 :: u247 :: u248 :: u249 :: u250 :: u251 :: u252 :: u253 :: u254 :: u255 :: u256 :: u257 :: u258 :: u259 :: u260 :: u261 :: u262 :: u263 :: u264 :: u265 :: u266 :: u267 :: u268 :: u269 :: u270 :: u271 :: u272 :: u273 :: u274 :: u275 :: u276 :: u277 :: []), []⟩ Y)) :
    Code.wp Try.prog (smallLoop 47) Q ⟨List.toArray (u0 :: (.int .i64 (m : Int)) :: u2 :: u3 :: u4 :: u5 :: u6 :: u7 :: u8 :: u9 :: u10 :: u11 :: u12 :: u13 :: u14 :: u15 :: u16 :: (.slice (some ⟨gs, os, none⟩) ns cs) :: u18 :: (.int .i64 (i : Int)) :: (.slice A3 ints.length c3) :: (.int .i64 (k : Int)) :: u22 :: u23 :: u24 :: u25 :: u26 :: u27 :: u28 :: u29 :: u30 :: u31 :: u32 :: u33 :: u34 :: u35 :: u36 :: u37 :: u38 :: u39 :: u40 :: u41 :: u42 :: u43 :: u44 :: u45 :: u46 :: u47 :: u48 :: u49 :: u50 :: u51 :: u52 :: u53 :: u54 :: u55 :: u56 :: u57 :: u58 :: u59 :: u60 :: u61 :: u62 :: u63 :: u64 :: u65 :: u66 :: u67 :: u68 :: u69 :: u70 :: u71 :: u72 :: u73 :: u74 :: u75 :: u76 :: u77 :: u78 :: u79 :: u80 :: u81 :: u82 :: u83 :: u84 :: u85 :: u86 :: u87 :: u88 :: u89 :: u90 :: u91 :: u92 :: u93 :: u94 :: u95 :: u96 :: u97 :: u98 :: u99 :: u100 :: u101 :: u102 :: u103 :: u104 :: u105 :: u106 :: u107 :: u108 :: u109 :: u110 :: u111 :: u112 :: u113 :: u114 :: u115 :: u116 :: u117 :: u118 :: u119 :: u120 :: u121 :: u122 :: u123 :: u124 :: u125 :: u126 :: u127 :: u128 :: u129 :: u130 :: u131 :: u132 :: u133 :: u134 :: u135 :: u136 :: u137 :: u138 :: u139 :: u140 :: u141 :: u142 :: u143 :: u144 :: u145 :: u146 :: u147 :: u148 :: u149 :: u150 :: u151 :: u152 :: u153 :: u154 :: u155 :: u156 :: u157 :: u158 :: u159 :: u160 :: u161 :: u162 :: u163 :: u164 :: u165 :: u166 :: u167 :: u168 :: u169 :: u170 :: u171 :: u172 :: u173 :: u174 :: u175 :: u176 :: u177 :: u178 :: u179 :: u180 :: u181 :: u182 :: u183 :: u184 :: u185 :: u186 :: u187 :: u188 :: u189 :: u190 :: u191 :: u192 :: u193 :: u194 :: u195 :: u196 :: u197 :: u198 :: u199 :: u200 :: u201 :: u202 :: u203 :: u204 :: u205 :: u206 :: u207 :: u208 :: u209 :: u210 :: u211 :: u212 :: u213 :: u214 :: u215 :: u216 :: u217 :: u218 :: u219 :: u220 :: u221 :: u222 :: u223 :: u224 :: u225 :: u226 :: u227 :: u228 :: u229 :: u230 :: u231 :: u232 :: u233 :: u234 :: u235 :: u236 :: u237 :: u238 :: u239 :: u240 :: u241 :: u242 :: u243 :: u244 :: u245 :: u246 :: u247 :: u248 :: u249 :: u250 :: u251 :: u252 :: u253 :: u254 :: u255 :: u256 :: u257 :: u258 :: u259 :: u260 :: u261 :: u262 :: u263 :: u264 :: u265 :: u266 :: u267 :: u268 :: u269 :: u270 :: u271 :: u272 :: u273 :: u274 :: u275 :: u276 :: u277 :: []), []⟩ X := by
  have hmi : (m : Int) < 512 := by omega
  have hii : (i : Int) < (ns : Int) := by omega
  have hown := hin.out
  have hbw := hb.out
  have hbz := hbw.size
  conv => arg 2; whnf
  go_wp2_with (at_builtin; (go_loud (refine wpList_append_own _ rfl _ _ 48 rfl wk.heap.size 3 i0 (.int .i64 0) 1 8 Try.underlying48 hi hz0 hz1 hz2 rfl (by decide) (.slice A3 ints.length c3) ints.length (ints.map (Value.int .i64)) rfl (hown.alloc _) ⟨X.heap.size, 0, none⟩ 1 1 [.int .i64 _] rfl rfl (cells_new _ _ _) (by simp [Value.oneCell']) (by simp only [maxLen]; omega) (by omega) (by simp; omega) ?_)); intro v' w4 hown' hgrow _; (go_loud (have hgr := Grew.of_append hown hgrow)); (go_loud (have hb4 : Below wk.heap.size wk w4 := (hbw.alloc hbz _).grown hgrow (by simp; omega) (fun q hq => (hown.lt q hq).1))))
  obtain ⟨ints2, hr2, hl2⟩ := row_snoc hown'
  have HN := Lib.hid (show _ ∧ _ ∧ _ from ⟨hr2, hl2, hb4⟩)
  clear hgrow hgr hb4 hin hown hbw hown'
  go_wp2
  exact hQ.out _ _ _ _ _ _ _ _ _ _ _ _ _ _ _ _ _ _ _ HN.out
set_option maxRecDepth 1000000 in
set_option maxHeartbeats 4000000 in
theorem small_prod (u0 u2 u3 u4 u5 u6 u7 u8 u9 u10 u11 u12 u13 u14 u15 u18 u20 u21 u22 u23 u24 u25 u26 u27 u28 u29 u30 u31 u32 u33 u34 u35 u36 u37 u38 u39 u40 u41 u42 u43 u44 u45 u46 u47 u48 u49 u50 u51 u52 u53 u54 u55 u56 u57 u58 u59 u60 u61 u62 u63 u64 u65 u66 u67 u68 u69 u70 u71 u72 u73 u74 u75 u76 u77 u78 u79 u80 u81 u82 u83 u84 u85 u86 u87 u88 u89 u90 u91 u92 u93 u94 u95 u96 u97 u98 u99 u100 u101 u102 u103 u104 u105 u106 u107 u108 u109 u110 u111 u112 u113 u114 u115 u116 u117 u118 u119 u120 u121 u122 u123 u124 u125 u126 u127 u128 u129 u130 u131 u132 u133 u134 u135 u136 u137 u138 u139 u140 u141 u142 u143 u144 u145 u146 u147 u148 u149 u150 u151 u152 u153 u154 u155 u156 u157 u158 u159 u160 u161 u162 u163 u164 u165 u166 u167 u168 u169 u170 u171 u172 u173 u174 u175 u176 u177 u178 u179 u180 u181 u182 u183 u184 u185 u186 u187 u188 u189 u190 u191 u192 u193 u194 u195 u196 u197 u198 u199 u200 u201 u202 u203 u204 u205 u206 u207 u208 u209 u210 u211 u212 u213 u214 u215 u216 u217 u218 u219 u220 u221 u222 u223 u224 u225 u226 u227 u228 u229 u230 u231 u232 u233 u234 u235 u236 u237 u238 u239 u240 u241 u242 u243 u244 u245 u246 u247 u248 u249 u250 u251 u252 u253 u254 u255 u256 u257 u258 u259 u260 u261 u262 u263 u264 u265 u266 u267 u268 u269 u270 u271 u272 u273 u274 u275 u276 u277 : Value) {m i gs os ns cs cp : Nat} {Ap : Option Addr} {wp : World} {prod : List (List Int)} {ws : List Value} {s : Int} {i2 : TypeInfo} {i0 : TypeInfo} {X : World} {Q : Exit → Act → World → Prop}
    (hi : Try.prog.info? 3 = some i0) (hz0 : i0.zero = some (.int .i64 0)) (hz1 : i0.size = 1) (hz2 : i0.bytes = 8) (hi2 : Try.prog.info? 48 = some i2) (hs0 : i2.zero = some (.slice none 0 0)) (hs1 : i2.size = 1) (hs2 : i2.bytes = 24) (hm : m < 512) (hin0 : i < ns) (hns : ns ≤ 100) (hs : 0 ≤ s ∧ s ≤ 128) (hgs : gs < wp.heap.size) (c0 : wp.cell? ⟨gs, os + i, none⟩ = some (.int .i64 s)) (hpl : prod.length = i) (hws : Hid (OAll (OInts wp.heap.size) 48 wp.heap.size X (.slice Ap i cp) ws prod)) (hb : Hid (Below wp.heap.size wp X))
    (hQ : Hid (∀ (x20 x21 x190 x191 x192 x193 x194 x195 x196 x197 x198 x199 x200 x201 x202 x203 x204 x205 x206 x207 x208 x209 x210 x211 x212 x213 x214 x215 : Value) (s16 : Value) (ints : List Int) (Y : World), (OIntss wp.heap.size Y s16 (prod ++ [ints]) ∧ Below wp.heap.size wp Y) → Q .normal ⟨List.toArray (u0 :: (.int .i64 (m : Int)) :: u2 :: u3 :: u4 :: u5 :: u6 :: u7 :: u8 :: u9 :: u10 :: u11 :: u12 :: u13 :: u14 :: u15 :: s16 :: (.slice (some ⟨gs, os, none⟩) ns cs) :: u18 :: (.int .i64 ((i : Int) + 1)) :: x20 :: x21 :: u22 :: u23 :: u24 :: u25 :: u26 :: u27 :: u28 :: u29 :: u30 :: u31 :: u32 :: u33 :: u34 :: u35 :: u36 :: u37 :: u38 :: u39 :: u40 :: u41 :: u42 :: u43 :: u44 :: u45 :: u46 :: u47 :: u48 :: u49 :: u50 :: u51 :: u52 :: u53 :: u54 :: u55 :: u56 :: u57 :: u58 :: u59 :: u60 :: u61 :: u62 :: u63 :: u64 :: u65 :: u66 :: u67 :: u68 :: u69 :: u70 :: u71 :: u72 :: u73 :: u74 :: u75 :: u76 :: u77 :: u78 :: u79 :: u80 :: u81 :: u82 :: u83 :: u84 :: u85 :: u86 :: u87 :: u88 :: u89 :: u90 :: u91 :: u92 :: u93 :: u94 :: u95 :: u96 :: u97 :: u98 :: u99 :: u100 :: u101 :: u102 :: u103 :: u104 :: u105 :: u106 :: u107 :: u108 :: u109 :: u110 :: u111 :: u112 :: u113 :: u114 :: u115 :: u116 :: u117 :: u118 :: u119 :: u120 :: u121 :: u122 :: u123 :: u124 :: u125 :: u126 :: u127 :: u128 :: u129 :: u130 :: u131 :: u132 :: u133 :: u134 :: u135 :: u136 :: u137 :: u138 :: u139 :: u140 :: u141 :: u142 :: u143 :: u144 :: u145 :: u146 :: u147 :: u148 :: u149 :: u150 :: u151 :: u152 :: u153 :: u154 :: u155 :: u156 :: u157 :: u158 :: u159 :: u160 :: u161 :: u162 :: u163 :: u164 :: u165 :: u166 :: u167 :: u168 :: u169 :: u170 :: u171 :: u172 :: u173 :: u174 :: u175 :: u176 :: u177 :: u178 :: u179 :: u180 :: u181 :: u182 :: u183 :: u184 :: u185 :: u186 :: u187 :: u188 :: u189 :: x190 :: x191 :: x192 :: x193 :: x194 :: x195 :: x196 :: x197 :: x198 :: x199 :: x200 :: x201 :: x202 :: x203 :: x204 :: x205 :: x206 :: x207 :: x208 :: x209 :: x210 :: x211 :: x212 :: x213 :: x214 :: x215 :: u216 :: u217 :: u218 :: u219 :: u220 :: u221 :: u222 :: u223 :: u224 :: u225 :: u226 :: u227 :: u228 :: u229 :: u230 :: u231 :: u232 :: u233 :: u234 :: u235 :: u236 :: u237 :: u238 :: u239 :: u240 :: u241 :: u242 :: u243 :: u244 :: u245 :: u246 :: u247 :: u248 :: u249 :: u250 :: u251 :: u252 :: u253 :: u254 :: u255 :: u256 :: u257 :: u258 :: u259 :: u260 :: u261 :: u262 :: u263 :: u264 :: u265 :: u266 :: u267 :: u268 :: u269 :: u270 :: u271 :: u272 :: u273 :: u274 :: u275 :: u276 :: u277 :: []), []⟩ Y)) :
    Code.wp Try.prog (smallLoop 43) Q ⟨List.toArray (u0 :: (.int .i64 (m : Int)) :: u2 :: u3 :: u4 :: u5 :: u6 :: u7 :: u8 :: u9 :: u10 :: u11 :: u12 :: u13 :: u14 :: u15 :: (.slice Ap i cp) :: (.slice (some ⟨gs, os, none⟩) ns cs) :: u18 :: (.int .i64 (i : Int)) :: u20 :: u21 :: u22 :: u23 :: u24 :: u25 :: u26 :: u27 :: u28 :: u29 :: u30 :: u31 :: u32 :: u33 :: u34 :: u35 :: u36 :: u37 :: u38 :: u39 :: u40 :: u41 :: u42 :: u43 :: u44 :: u45 :: u46 :: u47 :: u48 :: u49 :: u50 :: u51 :: u52 :: u53 :: u54 :: u55 :: u56 :: u57 :: u58 :: u59 :: u60 :: u61 :: u62 :: u63 :: u64 :: u65 :: u66 :: u67 :: u68 :: u69 :: u70 :: u71 :: u72 :: u73 :: u74 :: u75 :: u76 :: u77 :: u78 :: u79 :: u80 :: u81 :: u82 :: u83 :: u84 :: u85 :: u86 :: u87 :: u88 :: u89 :: u90 :: u91 :: u92 :: u93 :: u94 :: u95 :: u96 :: u97 :: u98 :: u99 :: u100 :: u101 :: u102 :: u103 :: u104 :: u105 :: u106 :: u107 :: u108 :: u109 :: u110 :: u111 :: u112 :: u113 :: u114 :: u115 :: u116 :: u117 :: u118 :: u119 :: u120 :: u121 :: u122 :: u123 :: u124 :: u125 :: u126 :: u127 :: u128 :: u129 :: u130 :: u131 :: u132 :: u133 :: u134 :: u135 :: u136 :: u137 :: u138 :: u139 :: u140 :: u141 :: u142 :: u143 :: u144 :: u145 :: u146 :: u147 :: u148 :: u149 :: u150 :: u151 :: u152 :: u153 :: u154 :: u155 :: u156 :: u157 :: u158 :: u159 :: u160 :: u161 :: u162 :: u163 :: u164 :: u165 :: u166 :: u167 :: u168 :: u169 :: u170 :: u171 :: u172 :: u173 :: u174 :: u175 :: u176 :: u177 :: u178 :: u179 :: u180 :: u181 :: u182 :: u183 :: u184 :: u185 :: u186 :: u187 :: u188 :: u189 :: u190 :: u191 :: u192 :: u193 :: u194 :: u195 :: u196 :: u197 :: u198 :: u199 :: u200 :: u201 :: u202 :: u203 :: u204 :: u205 :: u206 :: u207 :: u208 :: u209 :: u210 :: u211 :: u212 :: u213 :: u214 :: u215 :: u216 :: u217 :: u218 :: u219 :: u220 :: u221 :: u222 :: u223 :: u224 :: u225 :: u226 :: u227 :: u228 :: u229 :: u230 :: u231 :: u232 :: u233 :: u234 :: u235 :: u236 :: u237 :: u238 :: u239 :: u240 :: u241 :: u242 :: u243 :: u244 :: u245 :: u246 :: u247 :: u248 :: u249 :: u250 :: u251 :: u252 :: u253 :: u254 :: u255 :: u256 :: u257 :: u258 :: u259 :: u260 :: u261 :: u262 :: u263 :: u264 :: u265 :: u266 :: u267 :: u268 :: u269 :: u270 :: u271 :: u272 :: u273 :: u274 :: u275 :: u276 :: u277 :: []), []⟩ X := by
  have hii : (i : Int) < (ns : Int) := by omega
  have hHS := Lib.hid hs
  obtain ⟨wk, hwk⟩ : ∃ Z, Z = X := ⟨_, rfl⟩
  subst hwk
  have C0 := Lib.hid ((hb.out.cell (p := ⟨gs, os + i, none⟩) hgs).trans c0)
  have hgk : gs < wk.heap.size := Nat.lt_of_lt_of_le hgs hb.out.size
  clear c0
  conv => arg 2; whnf
  go_wp2
  go_loopw [20, 21] (fun v kq wr => ∃ k : Nat, (k : Int) ≤ s ∧ kq = .int .i64 k ∧ ∃ ints : List Int, Hid (wr.ownsRow wk.heap.size 3 1 v ints.length (ints.map (Value.int .i64))) ∧ ints.length ≤ k ∧ Hid (Below wk.heap.size wk wr)) (fun _ kq _ => s.toNat - (intOf kq).toNat)
  case atStart => exact ⟨0, hs.1, rfl, [], Lib.hid (World.ownsRow_nil _ _ _ _), Nat.le_refl _, Lib.hid (Below.refl _ _)⟩
  case round =>
    obtain ⟨k, hk, rfl, ints, hin, hl3, hbk⟩ := hrel
    obtain ⟨A3, c3, rfl⟩ := ownsRow_form hin.out
    have c9 := (hbk.out.cell (p := ⟨gs, os + i, none⟩) hgk).trans C0.out
    by_cases hlt : (k : Int) < s
    case pos =>
      refine small_len _ _ _ _ _ _ _ _ _ _ _ _ _ _ _ _ _ _ _ _ _ _ _ _ _ _ _ _ _ _ _ _ _ _ _ _ _ _ _ _ _ _ _ _ _ _ _ _ _ _ _ _ _ _ _ _ _ _ _ _ _ _ _ _ _ _ _ _ _ _ _ _ _ _ _ _ _ _ _ _ _ _ _ _ _ _ _ _ _ _ _ _ _ _ _ _ _ _ _ _ _ _ _ _ _ _ _ _ _ _ _ _ _ _ _ _ _ _ _ _ _ _ _ _ _ _ _ _ _ _ _ _ _ _ _ _ _ _ _ _ _ _ _ _ _ _ _ _ _ _ _ _ _ _ _ _ _ _ _ _ _ _ _ _ _ _ _ _ _ _ _ _ _ _ _ _ _ _ _ _ _ _ _ _ _ _ _ _ _ _ _ _ _ _ _ _ _ _ _ _ _ _ _ _ _ _ _ _ _ _ _ _ _ _ _ _ _ _ _ _ _ _ _ _ _ _ _ _ _ _ _ _ _ _ _ _ _ _ _ _ _ _ _ _ _ _ _ _ _ _ _ _ _ _ _ _ _ _ _ _ _ _ _ _ _ _ _ _ _ _ _ _ _ hi hz0 hz1 hz2 hm hin0 hlt hHS.out.2 hl3 c9 hin hbk (Lib.hid ?_)
      clear hin hbk c9
      intro _ _ _ _ _ _ _ _ _ _ _ _ _ _ _ _ s20 ints2 Y hY
      have HN := Lib.hid hY
      clear hY
      go_wp2_with fail
      go_roundw
      case rel => exact ⟨k + 1, by omega, by go_num, ints2, Lib.hid HN.out.1, by have := HN.out.2.1; omega, Lib.hid HN.out.2.2⟩
      case measure => (simp [intOf]) <;> omega
    have hown := hws.out.1
    rw [hpl] at hown
    have hown5 := ownsRow_below hown hbk.out
    have hbs := hb.out.size
    have hbz := hbk.out.size
    have hOI : OInts wp.heap.size wr (.slice A3 ints.length c3) ints := by unfold OInts; exact ownsRow_base hin.out hbs
    have HOI := Lib.hid hOI
    have hl9 : ints.length ≤ 128 := by omega
    clear hown hOI
    go_wp2_with (at_builtin; refine wpList_append_own _ rfl _ _ 24 rfl wp.heap.size 48 i2 (.slice none 0 0) 1 24 Try.underlying24 hi2 hs0 hs1 hs2 rfl (by decide) _ i ws rfl (hown5.alloc _) ⟨wr.heap.size, 0, none⟩ 1 1 [.slice A3 ints.length c3] rfl rfl (cells_new _ _ _) (by simp [Value.oneCell']) (by simp only [maxLen]; omega) (by omega) (by simp; omega) ?_; intro v' w6 hown' hgrow _)
    have ho6 : OIntss wp.heap.size w6 v' (prod ++ [ints]) := OIntss.append (hws.out.below hbk.out fun _ _ hr => ownsRow_below hr hbk.out) HOI.out (Grew.of_append hown5 hgrow) (by rw [hpl]; exact hown')
    have hB6 : Below wp.heap.size wp w6 := ((hb.out.trans (hbk.out.mono hbs)).alloc (by omega) _).grown hgrow (by simp; omega) fun j hj => (hown5.lt j hj).1
    have HN := Lib.hid (And.intro ho6 hB6)
    clear hown' hgrow hown5 ho6 hB6 c9
    go_wp2
    exact hQ.out _ _ _ _ _ _ _ _ _ _ _ _ _ _ _ _ _ _ _ _ _ _ _ _ _ _ _ _ _ _ _ HN.out
end Go.Proofs.Ytdbfhdncjblleaa
