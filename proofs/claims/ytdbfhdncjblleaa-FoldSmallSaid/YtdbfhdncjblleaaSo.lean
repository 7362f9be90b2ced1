/-
  FoldSmall: a run that is built, and the two laws of it.
-/
import Derived.Test.YtdbfhdncjblleaaSp
namespace Go.Proofs.Ytdbfhdncjblleaa
open Go.RowKit

theorem OIntss.reads9 {base : Nat} {w : World} {v : Value} {l : List (List Int)} (h : OIntss base w v l) : RIntss w.heap.size w v l := by
  obtain ⟨vs, h⟩ := h
  exact OAll.reads h fun _ _ hr => Rd.own hr (own_le hr)
set_option maxRecDepth 1000000 in
set_option maxHeartbeats 8000000 in
theorem small_round (u0 u2 u3 u4 u5 u6 u7 u8 u9 u10 u11 u12 u13 u14 u15 u16 u17 u18 u19 u20 u21 u22 u23 u24 u25 u26 u27 u28 u29 u30 u31 u32 u33 u34 u35 u36 u37 u38 u39 u40 u41 u42 u43 u44 u45 u46 u47 u48 u49 u50 u51 u52 u53 u54 u55 u56 u57 u58 u59 u60 u61 u62 u63 u64 u65 u66 u67 u68 u69 u70 u71 u72 u73 u74 u75 u76 u77 u78 u79 u80 u81 u82 u83 u84 u85 u86 u87 u88 u89 u90 u91 u92 u93 u94 u95 u96 u97 u98 u99 u100 u101 u102 u103 u104 u105 u106 u107 u108 u109 u110 u111 u112 u113 u114 u115 u116 u117 u118 u119 u120 u121 u122 u123 u124 u125 u126 u127 u128 u129 u130 u131 u132 u133 u134 u135 u136 u137 u138 u139 u140 u141 u142 u143 u144 u145 u146 u147 u148 u149 u150 u151 u152 u153 u154 u155 u156 u157 u158 u159 u160 u161 u162 u163 u164 u165 u166 u167 u168 u169 u170 u171 u172 u173 u174 u175 u176 u177 u178 u179 u180 u181 u182 u183 u184 u185 u186 u187 u188 u189 u190 u191 u192 u193 u194 u195 u196 u197 u198 u199 u200 u201 u202 u203 u204 u205 u206 u207 u208 u209 u210 u211 u212 u213 u214 u215 u216 u217 u218 u219 u220 u221 u222 u223 u224 u225 u226 u227 u228 u229 u230 u231 u232 u233 u234 u235 u236 u237 u238 u239 u240 u241 u242 u243 u244 u245 u246 u247 u248 u249 u250 u251 u252 u253 u254 u255 u256 u257 u258 u259 u260 u261 u262 u263 u264 u265 u266 u267 u268 u269 u270 u271 u272 u273 u274 u275 u276 u277 : Value) {m : Nat} {i0 i1 i2 i3 i4 : TypeInfo} {X : World} {Q : Exit → Act → World → Prop}
    (hi1 : Try.prog.info? 97 = some i1) (hw0 : i1.zero = some (.agg #[.int .i64 0, .int .i64 0, .slice none 0 0])) (hw1 : i1.size = 3) (hw2 : i1.bytes = 40) (hi2 : Try.prog.info? 99 = some i2) (hr0 : i2.zero = some (.agg #[.int .i64 0, .int .i64 0, .int .i64 0, .bool false, .bool false])) (hr1 : i2.size = 5) (hr2 : i2.bytes = 32) (hi3 : Try.prog.info? 98 = some i3) (hp0 : i3.zero = some (.agg #[.int .i64 0, .bool false])) (hp1 : i3.size = 2) (hp2 : i3.bytes = 16)
    (hi : Try.prog.info? 3 = some i0) (hz0 : i0.zero = some (.int .i64 0)) (hz1 : i0.size = 1) (hz2 : i0.bytes = 8) (hi4 : Try.prog.info? 48 = some i4) (hs0 : i4.zero = some (.slice none 0 0)) (hs1 : i4.size = 1) (hs2 : i4.bytes = 24)
    (RC : Hid RefCheckOk) (hm : m < 512)
    (hQp : Hid (∀ c (a : Act) d v w, Q (.panic c) (a.put d v) w → Q (.panic c) a w))
    (hQ : Hid (∀ (x2 x3 x4 x5 x6 x7 x8 x9 x10 x11 x12 x13 x14 x15 x16 x17 x18 x19 x20 x21 x24 x25 x26 x27 x28 x29 x30 x31 x32 x33 x34 x35 x36 x37 x38 x39 x40 x41 x42 x43 x44 x45 x46 x47 x48 x49 x50 x51 x52 x53 x54 x55 x56 x57 x58 x59 x60 x61 x62 x63 x64 x65 x66 x67 x68 x69 x70 x71 x72 x73 x74 x75 x76 x77 x78 x79 x80 x81 x82 x83 x84 x85 x86 x87 x88 x89 x90 x91 x92 x93 x94 x95 x96 x97 x98 x99 x100 x101 x102 x103 x104 x105 x106 x107 x108 x109 x110 x111 x112 x113 x114 x115 x116 x117 x118 x119 x120 x121 x122 x123 x124 x125 x126 x127 x128 x129 x130 x131 x132 x133 x134 x135 x136 x137 x138 x139 x140 x141 x142 x143 x144 x145 x146 x147 x148 x149 x150 x151 x152 x153 x154 x155 x156 x157 x158 x159 x160 x161 x162 x163 x164 x165 x166 x167 x168 x169 x170 x171 x172 x173 x174 x175 x176 x177 x178 x179 x180 x181 x182 x183 x184 x185 x186 x187 x188 x189 x190 x191 x192 x193 x194 x195 x196 x197 x198 x199 x200 x201 x202 x203 x204 x205 x206 x207 x208 x209 x210 x211 x212 x213 x214 x215 x216 x217 x218 x219 x220 x221 x222 x223 x224 x225 x226 x227 x228 x229 x230 x231 x232 x233 x234 x235 x236 x237 x238 x239 x240 x241 x242 x243 x244 : Value) (Y : World), Below X.heap.size X Y → Q .normal ⟨List.toArray (u0 :: (.int .i64 ((m : Int) + 1)) :: x2 :: x3 :: x4 :: x5 :: x6 :: x7 :: x8 :: x9 :: x10 :: x11 :: x12 :: x13 :: x14 :: x15 :: x16 :: x17 :: x18 :: x19 :: x20 :: x21 :: u22 :: u23 :: x24 :: x25 :: x26 :: x27 :: x28 :: x29 :: x30 :: x31 :: x32 :: x33 :: x34 :: x35 :: x36 :: x37 :: x38 :: x39 :: x40 :: x41 :: x42 :: x43 :: x44 :: x45 :: x46 :: x47 :: x48 :: x49 :: x50 :: x51 :: x52 :: x53 :: x54 :: x55 :: x56 :: x57 :: x58 :: x59 :: x60 :: x61 :: x62 :: x63 :: x64 :: x65 :: x66 :: x67 :: x68 :: x69 :: x70 :: x71 :: x72 :: x73 :: x74 :: x75 :: x76 :: x77 :: x78 :: x79 :: x80 :: x81 :: x82 :: x83 :: x84 :: x85 :: x86 :: x87 :: x88 :: x89 :: x90 :: x91 :: x92 :: x93 :: x94 :: x95 :: x96 :: x97 :: x98 :: x99 :: x100 :: x101 :: x102 :: x103 :: x104 :: x105 :: x106 :: x107 :: x108 :: x109 :: x110 :: x111 :: x112 :: x113 :: x114 :: x115 :: x116 :: x117 :: x118 :: x119 :: x120 :: x121 :: x122 :: x123 :: x124 :: x125 :: x126 :: x127 :: x128 :: x129 :: x130 :: x131 :: x132 :: x133 :: x134 :: x135 :: x136 :: x137 :: x138 :: x139 :: x140 :: x141 :: x142 :: x143 :: x144 :: x145 :: x146 :: x147 :: x148 :: x149 :: x150 :: x151 :: x152 :: x153 :: x154 :: x155 :: x156 :: x157 :: x158 :: x159 :: x160 :: x161 :: x162 :: x163 :: x164 :: x165 :: x166 :: x167 :: x168 :: x169 :: x170 :: x171 :: x172 :: x173 :: x174 :: x175 :: x176 :: x177 :: x178 :: x179 :: x180 :: x181 :: x182 :: x183 :: x184 :: x185 :: x186 :: x187 :: x188 :: x189 :: x190 :: x191 :: x192 :: x193 :: x194 :: x195 :: x196 :: x197 :: x198 :: x199 :: x200 :: x201 :: x202 :: x203 :: x204 :: x205 :: x206 :: x207 :: x208 :: x209 :: x210 :: x211 :: x212 :: x213 :: x214 :: x215 :: x216 :: x217 :: x218 :: x219 :: x220 :: x221 :: x222 :: x223 :: x224 :: x225 :: x226 :: x227 :: x228 :: x229 :: x230 :: x231 :: x232 :: x233 :: x234 :: x235 :: x236 :: x237 :: x238 :: x239 :: x240 :: x241 :: x242 :: x243 :: x244 :: u245 :: u246 :: u247 :: u248 :: u249 :: u250 :: u251 :: u252 :: u253 :: u254 :: u255 :: u256 :: u257 :: u258 :: u259 :: u260 :: u261 :: u262 :: u263 :: u264 :: u265 :: u266 :: u267 :: u268 :: u269 :: u270 :: u271 :: u272 :: u273 :: u274 :: u275 :: u276 :: u277 :: []), []⟩ Y)) :
    Code.wp Try.prog (smallLoop 2) Q ⟨List.toArray (u0 :: (.int .i64 (m : Int)) :: u2 :: u3 :: u4 :: u5 :: u6 :: u7 :: u8 :: u9 :: u10 :: u11 :: u12 :: u13 :: u14 :: u15 :: u16 :: u17 :: u18 :: u19 :: u20 :: u21 :: u22 :: u23 :: u24 :: u25 :: u26 :: u27 :: u28 :: u29 :: u30 :: u31 :: u32 :: u33 :: u34 :: u35 :: u36 :: u37 :: u38 :: u39 :: u40 :: u41 :: u42 :: u43 :: u44 :: u45 :: u46 :: u47 :: u48 :: u49 :: u50 :: u51 :: u52 :: u53 :: u54 :: u55 :: u56 :: u57 :: u58 :: u59 :: u60 :: u61 :: u62 :: u63 :: u64 :: u65 :: u66 :: u67 :: u68 :: u69 :: u70 :: u71 :: u72 :: u73 :: u74 :: u75 :: u76 :: u77 :: u78 :: u79 :: u80 :: u81 :: u82 :: u83 :: u84 :: u85 :: u86 :: u87 :: u88 :: u89 :: u90 :: u91 :: u92 :: u93 :: u94 :: u95 :: u96 :: u97 :: u98 :: u99 :: u100 :: u101 :: u102 :: u103 :: u104 :: u105 :: u106 :: u107 :: u108 :: u109 :: u110 :: u111 :: u112 :: u113 :: u114 :: u115 :: u116 :: u117 :: u118 :: u119 :: u120 :: u121 :: u122 :: u123 :: u124 :: u125 :: u126 :: u127 :: u128 :: u129 :: u130 :: u131 :: u132 :: u133 :: u134 :: u135 :: u136 :: u137 :: u138 :: u139 :: u140 :: u141 :: u142 :: u143 :: u144 :: u145 :: u146 :: u147 :: u148 :: u149 :: u150 :: u151 :: u152 :: u153 :: u154 :: u155 :: u156 :: u157 :: u158 :: u159 :: u160 :: u161 :: u162 :: u163 :: u164 :: u165 :: u166 :: u167 :: u168 :: u169 :: u170 :: u171 :: u172 :: u173 :: u174 :: u175 :: u176 :: u177 :: u178 :: u179 :: u180 :: u181 :: u182 :: u183 :: u184 :: u185 :: u186 :: u187 :: u188 :: u189 :: u190 :: u191 :: u192 :: u193 :: u194 :: u195 :: u196 :: u197 :: u198 :: u199 :: u200 :: u201 :: u202 :: u203 :: u204 :: u205 :: u206 :: u207 :: u208 :: u209 :: u210 :: u211 :: u212 :: u213 :: u214 :: u215 :: u216 :: u217 :: u218 :: u219 :: u220 :: u221 :: u222 :: u223 :: u224 :: u225 :: u226 :: u227 :: u228 :: u229 :: u230 :: u231 :: u232 :: u233 :: u234 :: u235 :: u236 :: u237 :: u238 :: u239 :: u240 :: u241 :: u242 :: u243 :: u244 :: u245 :: u246 :: u247 :: u248 :: u249 :: u250 :: u251 :: u252 :: u253 :: u254 :: u255 :: u256 :: u257 :: u258 :: u259 :: u260 :: u261 :: u262 :: u263 :: u264 :: u265 :: u266 :: u267 :: u268 :: u269 :: u270 :: u271 :: u272 :: u273 :: u274 :: u275 :: u276 :: u277 :: []), []⟩ X := by
  have hmi : (m : Int) < 512 := by omega
  have hA1 : ∀ x, bits .and .i64 x 1 = x % 2 := and_one
  have hA3 : ∀ x, bits .and .i64 x 3 = x % 4 := and_three
  obtain ⟨wo, hwo⟩ : ∃ Z, Z = X := ⟨_, rfl⟩
  subst hwo
  conv => arg 2; whnf
  go_upto_region 6 with fail
  obtain ⟨rows, hrows, hrow2⟩ : ∃ rows : Nat, 1 + (m : Int) / 128 % 2 = (rows : Int) ∧ rows ≤ 2 := ⟨(1 + (m : Int) / 128 % 2).toNat, by omega, by omega⟩
  obtain ⟨nw, hnw, hnw2⟩ : ∃ nw : Nat, 1 + (m : Int) % 2 = (nw : Int) ∧ nw ≤ 2 := ⟨(1 + (m : Int) % 2).toNat, by omega, by omega⟩
  try rw [hrows]
  obtain ⟨cb, hcb⟩ : ∃ cb, (bits BinOp.and IntKind.i64 (m : Int) 256 == 256) = cb := ⟨_, rfl⟩
  try rw [hcb]
  have F1 : ∃ w1, wo.alloc (.cells #[.slice none 0 0, .slice none 0 0, .slice none 0 0, .bool cb] 26) = w1 ∧ GSt wo wo.heap.size (.slice none 0 0) [] [] (.slice none 0 0) [] (.slice none 0 0) cb w1 :=
    ⟨_, rfl, Blk.new _ _ _, OWebsR.nil, World.ownsRow_nil _ _ _ _, (Below.refl _ _).alloc (Nat.le_refl _) _⟩
  obtain ⟨w1, e1, hst⟩ := F1
  have E1 := Lib.hid e1
  have HST := Lib.hid hst
  clear e1 hst
  rw [E1.out]
  clear hcb E1
  go_wp2
  go_loopw [4] (fun i wr => ∃ k : Nat, k ≤ nw ∧ i = .int .i64 k ∧ ∃ v1 vs webs v2 ribs, Hid (GSt wo wo.heap.size v1 vs webs v2 ribs (.slice none 0 0) cb wr) ∧ webs.length ≤ k ∧ ribs.length ≤ 10 * k ∧ Hid (∀ x ∈ webs, x.plates.length ≤ 1000)) (fun i _ => nw - (intOf i).toNat)
  case atStart => exact ⟨0, Nat.zero_le _, rfl, _, _, [], _, _, HST, Nat.le_refl _, Nat.le_refl _, Lib.hid fun x hx => by cases hx⟩
  case round =>
    clear HST
    obtain ⟨k, hk, rfl, v1, vs, webs, v2, ribs, hst, hl1, hl2, hw9⟩ := hrel
    by_cases hltk : k < nw
    case pos =>
      refine small_web _ _ _ _ _ _ _ _ _ _ _ _ _ _ _ _ _ _ _ _ _ _ _ _ _ _ _ _ _ _ _ _ _ _ _ _ _ _ _ _ _ _ _ _ _ _ _ _ _ _ _ _ _ _ _ _ _ _ _ _ _ _ _ _ _ _ _ _ _ _ _ _ _ _ _ _ _ _ _ _ _ _ _ _ _ _ _ _ _ _ _ _ _ _ _ _ _ _ _ _ _ _ _ _ _ _ _ _ _ _ _ _ _ _ _ _ _ _ _ _ _ _ _ _ _ _ _ _ _ _ _ _ _ _ _ _ _ _ _ _ _ _ _ _ _ _ _ _ _ _ _ _ _ _ _ _ _ _ _ _ _ _ _ _ _ _ _ _ _ _ _ _ _ _ _ _ _ _ _ _ _ _ _ _ _ _ _ _ _ _ _ _ _ _ _ _ _ _ _ _ _ _ _ _ _ _ _ _ _ _ _ _ _ _ _ _ _ _ _ _ _ _ _ _ _ _ _ _ _ _ _ _ _ _ _ _ _ _ _ _ _ _ _ _ _ _ _ _ _ _ _ _ _ _ _ _ _ _ _ _ _ _ _ _ _ _ _ _ _ _ _ _ _ _ hi1 hw0 hw1 hw2 hi2 hr0 hr1 hr2 hi3 hp0 hp1 hp2 hm hnw hltk hrow2 hst hl1 hl2 hw9 (Lib.hid ?_)
      clear hst hw9
      intro _ _ _ _ _ _ _ _ _ _ _ _ _ _ _ _ _ _ _ _ _ _ _ _ _ _ _ _ _ _ _ _ _ _ _ _ _ _ _ _ _ _ _ _ _ _ _ _ _ _ _ _ _ _ _ _ _ _ _ _ _ _ _ _ _ _ _ _ _ _ _ _ _ _ _ _ _ _ _ _ _ _ _ _ _ _ _ _ _ _ _ _ _ _ _ _ _ _ _ _ _ _ _ _ _ v1b vsb websb v2b ribsb Y hY
      have HN := Lib.hid hY
      clear hY
      go_wp2_with fail
      go_roundw
      case rel => exact ⟨k + 1, by omega, by go_num, _, _, _, _, _, Lib.hid HN.out.1, HN.out.2.1, HN.out.2.2.1, Lib.hid HN.out.2.2.2⟩
      case measure => (simp [intOf]) <;> omega
    obtain ⟨A1, c1, rfl⟩ := ownsRow_form hst.out.2.1.1
    obtain ⟨A2, c2, rfl⟩ := ownsRow_form hst.out.2.2.1
    have hki : ¬ (k : Int) < (nw : Int) := by omega
    have hrl : ribs.length ≤ 20 := by omega
    have hbw0 := hst.out.2.2.2.size
    have hwl : webs.length ≤ 2 := by omega
    clear hl1 hl2
    go_wp2
    go_loopw [13, 14] (fun ov i wr => ∃ j : Nat, j ≤ ribs.length ∧ i = .int .i64 j ∧ ∃ ints : List Int, Hid (wr.ownsRow wo.heap.size 3 1 ov ints.length (ints.map (Value.int .i64))) ∧ ints.length ≤ j ∧ Hid (GSt wo wo.heap.size (.slice A1 webs.length c1) vs webs (.slice A2 ribs.length c2) ribs (.slice none 0 0) cb wr)) (fun _ i _ => ribs.length - (intOf i).toNat)
    case atStart => exact ⟨0, Nat.zero_le _, rfl, [], Lib.hid (World.ownsRow_nil _ _ _ _), Nat.le_refl _, hst⟩
    case round =>
      clear hst
      obtain ⟨j, hj, rfl, ints, hin, hl3, hst⟩ := hrel
      obtain ⟨A3, c3, rfl⟩ := ownsRow_form hin.out
      by_cases hltj : j < ribs.length
      case pos =>
        refine small_ord _ _ _ _ _ _ _ _ _ _ _ _ _ _ _ _ _ _ _ _ _ _ _ _ _ _ _ _ _ _ _ _ _ _ _ _ _ _ _ _ _ _ _ _ _ _ _ _ _ _ _ _ _ _ _ _ _ _ _ _ _ _ _ _ _ _ _ _ _ _ _ _ _ _ _ _ _ _ _ _ _ _ _ _ _ _ _ _ _ _ _ _ _ _ _ _ _ _ _ _ _ _ _ _ _ _ _ _ _ _ _ _ _ _ _ _ _ _ _ _ _ _ _ _ _ _ _ _ _ _ _ _ _ _ _ _ _ _ _ _ _ _ _ _ _ _ _ _ _ _ _ _ _ _ _ _ _ _ _ _ _ _ _ _ _ _ _ _ _ _ _ _ _ _ _ _ _ _ _ _ _ _ _ _ _ _ _ _ _ _ _ _ _ _ _ _ _ _ _ _ _ _ _ _ _ _ _ _ _ _ _ _ _ _ _ _ _ _ _ _ _ _ _ _ _ _ _ _ _ _ _ _ _ _ _ _ _ _ _ _ _ _ _ _ _ _ _ _ _ _ _ _ _ _ _ _ _ _ _ _ _ _ _ _ _ _ _ _ _ _ _ _ _ _ hi hz0 hz1 hz2 hm hltj hrl hl3 hin hst (Lib.hid ?_)
        clear hin hst
        intro _ _ _ _ _ _ _ _ _ _ _ _ _ _ _ _ _ _ s13 ints2 Y hY
        have HN := Lib.hid hY
        clear hY
        go_wp2_with fail
        go_roundw
        case rel => exact ⟨j + 1, by omega, by go_num, ints2, Lib.hid HN.out.1, by have := HN.out.2.1; omega, Lib.hid HN.out.2.2⟩
        case measure => (simp [intOf]) <;> omega
      have hltj' : ¬ (j : Int) < (ribs.length : Int) := by omega
      have m1 := cellOf hst.out.1 1 (x := .slice A2 ribs.length c2) rfl
      go_upto_region 31 with fail
      clear hltj'
      obtain ⟨b3, hb3⟩ : ∃ b3, ((ribs.length : Int) % 3 == 0) = b3 := ⟨_, rfl⟩
      go_cut [155] from 151 to 155 (fun s wx => s = .bool b3 ∧ wx = wr)
      case first =>
        go_wp2_with fail
        go_meet
        exact ⟨rfl, rfl⟩
      case rest =>
      obtain ⟨h155, rfl⟩ := hcut
      clear hb3
      have H155 := Lib.hid h155
      clear h155
      go_upto_region 37 with fail
      go_cut [13, 15] from 156 to 167 (fun ov _ wx => ∃ ints : List Int, Hid (wx.ownsRow wo.heap.size 3 1 ov ints.length (ints.map (Value.int .i64))) ∧ ints.length ≤ 20 ∧ Hid (GSt wo wo.heap.size (.slice A1 webs.length c1) vs webs (.slice A2 ribs.length c2) ribs (.slice none 0 0) cb wx))
      case first =>
        have h155 := H155.out
        subst h155
        cases b3
        · go_wp2_with fail
          go_meet
          exact ⟨ints, hin, by omega, hst⟩
        go_wp2
        clear m1
        go_loopw [13, 15] (fun ov i wr => ∃ j : Nat, j ≤ ribs.length ∧ i = .int .i64 ((j : Int) - 1) ∧ ∃ ints : List Int, Hid (wr.ownsRow wo.heap.size 3 1 ov ints.length (ints.map (Value.int .i64))) ∧ ints.length + j ≤ ribs.length ∧ Hid (GSt wo wo.heap.size (.slice A1 webs.length c1) vs webs (.slice A2 ribs.length c2) ribs (.slice none 0 0) cb wr)) (fun _ i _ => (intOf i + 1).toNat)
        case atStart => exact ⟨ribs.length, Nat.le_refl _, rfl, [], Lib.hid (World.ownsRow_nil _ _ _ _), by simp, hst⟩
        case round =>
          clear hst hin
          obtain ⟨j, hj, rfl, ints, hin, hl4, hst⟩ := hrel
          obtain ⟨A3, c3, rfl⟩ := ownsRow_form hin.out
          by_cases hj0 : j = 0
          case pos =>
            have hjn : ¬ (0 : Int) ≤ (j : Int) - 1 := by omega
            go_wp2_with fail
            go_meet
            exact ⟨ints, hin, by omega, hst⟩
          refine small_back (m := m) _ _ _ _ _ _ _ _ _ _ _ _ _ _ _ _ _ _ _ _ _ _ _ _ _ _ _ _ _ _ _ _ _ _ _ _ _ _ _ _ _ _ _ _ _ _ _ _ _ _ _ _ _ _ _ _ _ _ _ _ _ _ _ _ _ _ _ _ _ _ _ _ _ _ _ _ _ _ _ _ _ _ _ _ _ _ _ _ _ _ _ _ _ _ _ _ _ _ _ _ _ _ _ _ _ _ _ _ _ _ _ _ _ _ _ _ _ _ _ _ _ _ _ _ _ _ _ _ _ _ _ _ _ _ _ _ _ _ _ _ _ _ _ _ _ _ _ _ _ _ _ _ _ _ _ _ _ _ _ _ _ _ _ _ _ _ _ _ _ _ _ _ _ _ _ _ _ _ _ _ _ _ _ _ _ _ _ _ _ _ _ _ _ _ _ _ _ _ _ _ _ _ _ _ _ _ _ _ _ _ _ _ _ _ _ _ _ _ _ _ _ _ _ _ _ _ _ _ _ _ _ _ _ _ _ _ _ _ _ _ _ _ _ _ _ _ _ _ _ _ _ _ _ _ _ _ _ _ _ _ _ _ _ _ _ _ _ _ _ _ _ _ _ _ _ _ hi hz0 hz1 hz2 (by omega) (by omega) (by omega) hin hst (Lib.hid ?_)
          clear hin hst
          intro _ _ _ _ _ _ _ _ s13 ints2 Y hY
          have HN := Lib.hid hY
          clear hY
          go_wp2_with fail
          go_roundw
          case rel => exact ⟨j - 1, by omega, by rw [show (((j - 1 : Nat) : Int) - 1) = (j : Int) - 1 - 1 by omega], ints2, Lib.hid HN.out.1, by have := HN.out.2.1; omega, Lib.hid HN.out.2.2⟩
          case measure => (simp [intOf]) <;> omega
      case rest =>
      clear m1 hin hst hl3
      obtain ⟨ints, hin, hl3, hst⟩ := hcut
      obtain ⟨w9, rfl⟩ : ∃ w9, w9 = wc := ⟨wc, rfl⟩
      obtain ⟨A3, c3, rfl⟩ := ownsRow_form hin.out
      have m2 := cellOf hst.out.1 2 (x := .slice none 0 0) rfl
      have m2f := hst.out.1.frozen 2
      have hb9z : wo.heap.size < w9.heap.size := hst.out.1.lt
      go_upto_region 38 with fail
      have F10 : ∃ w10, (w9.setCell ⟨wo.heap.size, 2, none⟩ (.slice (some ⟨w9.heap.size, 0, none⟩) 1 1)).alloc (.cells #[.slice A3 ints.length c3] 48) = w10 ∧ StkCut wo wo.heap.size (.slice A1 webs.length c1) (.slice A2 ribs.length c2) webs ribs cb w10 ∧ w10.ownsRow wo.heap.size 3 1 (.slice A3 ints.length c3) ints.length (ints.map (Value.int .i64)) ∧ GSt wo wo.heap.size (.slice A1 webs.length c1) vs webs (.slice A2 ribs.length c2) ribs (.slice (some ⟨w9.heap.size, 0, none⟩) 1 1) cb w10 :=
        ⟨_, rfl, stk_one hst.out hin.out hl3 rfl (Nat.le_refl _)⟩
      obtain ⟨w10, e10, hk10, hi10, hg10⟩ := F10
      have HG10 := Lib.hid hg10
      have E10 := Lib.hid e10
      rw [E10.out]
      have HK10 := Lib.hid hk10
      have HI10 := Lib.hid hi10
      clear e10 E10 hk10 hi10 hg10 m2 m2f hb9z hin hst
      go_cut [178] from 171 to 178 (fun s wx => ∃ bb, s = .bool bb ∧ (bb = true → 1 < ints.length) ∧ wx = w10)
      case first =>
        cases h5 : ((m : Int) % 5 == 0)
        · go_wp2_with fail
          go_meet
          exact ⟨false, rfl, (fun h => by cases h), rfl⟩
        · by_cases h1 : 1 < ints.length
          · have h1' : (1 : Int) < (ints.length : Int) := by omega
            go_wp2_with fail
            go_meet
            exact ⟨true, rfl, (fun _ => h1), rfl⟩
          · have h1' : ¬ (1 : Int) < (ints.length : Int) := by omega
            go_wp2_with fail
            go_meet
            exact ⟨false, rfl, (fun h => by cases h), rfl⟩
      case rest =>
      obtain ⟨bb, h178, hbb, rfl⟩ := hcut
      have H178 := Lib.hid h178
      have HBB := Lib.hid hbb
      clear h178 hbb
      go_upto_region 40 with fail
      go_cut [184] from 179 to 184 (fun _ wx => StkCut wo wo.heap.size (.slice A1 webs.length c1) (.slice A2 ribs.length c2) webs ribs cb wx)
      case first =>
        have h178 := H178.out
        subst h178
        cases bb
        · go_wp2_with fail
          go_meet
          exact HK10.out
        · have h1n := HBB.out rfl
          obtain ⟨g9, rfl, hc9⟩ : ∃ g, A3 = some ⟨g, 0, none⟩ ∧ ints.length ≤ c3 := by
            rcases HI10.out.2 with ⟨he, h0⟩ | ⟨g, cap, cur, he, hb, hg, hn, -⟩
            · injection he with e1 e2 e3
              omega
            · cases he
              exact ⟨g, rfl, hn⟩
          go_upto_region 39 with fail
          refine small_cut _ _ _ _ _ _ _ _ _ _ _ _ _ _ _ _ _ _ _ _ _ _ _ _ _ _ _ _ _ _ _ _ _ _ _ _ _ _ _ _ _ _ _ _ _ _ _ _ _ _ _ _ _ _ _ _ _ _ _ _ _ _ _ _ _ _ _ _ _ _ _ _ _ _ _ _ _ _ _ _ _ _ _ _ _ _ _ _ _ _ _ _ _ _ _ _ _ _ _ _ _ _ _ _ _ _ _ _ _ _ _ _ _ _ _ _ _ _ _ _ _ _ _ _ _ _ _ _ _ _ _ _ _ _ _ _ _ _ _ _ _ _ _ _ _ _ _ _ _ _ _ _ _ _ _ _ _ _ _ _ _ _ _ _ _ _ _ _ _ _ _ _ _ _ _ _ _ _ _ _ _ _ _ _ _ _ _ _ _ _ _ _ _ _ _ _ _ _ _ _ _ _ _ _ _ _ _ _ _ _ _ _ _ _ _ _ _ _ _ _ _ _ _ _ _ _ _ _ _ _ _ _ _ _ _ _ _ _ _ _ _ _ _ _ _ _ _ _ _ _ _ _ _ _ _ _ _ _ _ _ _ _ _ _ _ _ _ _ _ _ _ _ _ _ _ _ h1n hl3 hc9 HG10 HI10 (Lib.hid ?_)
          intro _ _ _ _ _ _ Y hY
          have HN := Lib.hid hY
          clear hY
          go_wp2_with fail
          go_meet
          exact HN.out
      case rest =>
      obtain ⟨v3, stacks, hk11, hr11, hb11, hst2, hst20⟩ := hcut
      obtain ⟨w11, rfl⟩ : ∃ Z, Z = wc := ⟨_, rfl⟩
      have hsm : SmallRun ⟨webs, ribs, stacks, cb⟩ := ⟨by show webs.length ≤ 1000; omega, by show ribs.length ≤ 1000; omega, by show stacks.length ≤ 1000; omega, hw9.out, fun s hs => by have := hst20 s hs; omega⟩
      obtain ⟨r, hr⟩ : ∃ r : RunD, (⟨webs, ribs, stacks, cb⟩ : RunD) = r := ⟨_, rfl⟩
      rw [hr] at hr11 hsm
      clear hr
      have CS := Lib.hid (refSizes_any RC.out _ r w11 hr11 hsm)
      have HR11 := Lib.hid hr11
      have HK11 := Lib.hid hk11
      have HB11 := Lib.hid hb11
      have n0 := cellOf hk11 0 (x := .slice A1 webs.length c1) rfl
      have n1 := cellOf hk11 1 (x := .slice A2 ribs.length c2) rfl
      have n2 := cellOf hk11 2 (x := v3) rfl
      have n3 := cellOf hk11 3 (x := .bool cb) rfl
      clear hr11 hsm hk11 hb11 HG10 HI10 HK10 H178 H155 HBB hst2 hst20 hw9
      go_wp2_with fail
      refine CS.out.mono ?_
      rintro _ w12 ⟨us, rfl, hs1', hs2', hb12⟩
      obtain ⟨sz, hsz, hz9, hl9⟩ : ∃ sz : List Int, w12.ownsRow w11.heap.size 3 1 us sz.length (sz.map (Value.int .i64)) ∧ (∀ z ∈ sz, 0 ≤ z ∧ z ≤ 128) ∧ sz.length ≤ 100 := by
        by_cases h : checkE r = 0
        · exact ⟨sizesD r, hs1' h, fun z hz => by obtain ⟨k, hk⟩ := List.getElem?_of_mem hz; exact sizes_one h hk, by unfold sizesD; rw [List.length_map]; exact layout_small h⟩
        · rw [hs2' h]
          exact ⟨[], World.ownsRow_nil _ _ _ _, fun z hz => by (cases hz), by simp⟩
      obtain ⟨As, cs, rfl⟩ := ownsRow_form hsz
      have hrs : RInts w12.heap.size w12 (.slice As sz.length cs) sz := Rd.own hsz (own_le hsz)
      have HRS := Lib.hid hrs
      have HZ9 := Lib.hid hz9
      have HB12 := Lib.hid hb12
      clear n0 n1 n2 n3 CS hs1' hs2' hsz hrs hz9 hb12
      go_wp2
      go_loopw [16, 19] (fun pv iq wr => ∃ i : Nat, i ≤ sz.length ∧ iq = .int .i64 i ∧ ∃ prod : List (List Int), Hid (OIntss w12.heap.size wr pv prod) ∧ prod.length = i ∧ Hid (Below w12.heap.size w12 wr)) (fun _ iq _ => sz.length - (intOf iq).toNat)
      case atStart => exact ⟨0, Nat.zero_le _, rfl, [], Lib.hid ⟨[], OAll.nil⟩, rfl, Lib.hid (Below.refl _ _)⟩
      case round =>
        obtain ⟨i, hi9, rfl, prod, hpd, hpl, hbk⟩ := hrel
        have HPL := Lib.hid hpl
        by_cases hlt : i < sz.length
        case pos =>
          obtain ⟨s, hs⟩ : ∃ s, sz[i]? = some s := ⟨_, List.getElem?_eq_getElem hlt⟩
          obtain ⟨ws, hws⟩ := hpd.out
          obtain ⟨Ap, cp, rfl⟩ : ∃ A c, u16 = .slice A i c := by
            obtain ⟨A, c, e⟩ := ownsRow_form hws.1
            rw [hpl] at e
            exact ⟨A, c, e⟩
          obtain ⟨gs, os, rfl, hgs, c0⟩ : ∃ g o, As = some ⟨g, o, none⟩ ∧ g < w12.heap.size ∧ w12.cell? ⟨g, o + i, none⟩ = some (.int .i64 s) := by
            obtain ⟨A9, c9, e9, -, -, hr9⟩ := HRS.out
            cases e9
            obtain ⟨g, o, hA, hg, hc⟩ := hr9 (by omega)
            exact ⟨g, o, hA, hg, hc i _ (by rw [List.getElem?_map, hs]; rfl)⟩
          refine small_prod _ _ _ _ _ _ _ _ _ _ _ _ _ _ _ _ _ _ _ _ _ _ _ _ _ _ _ _ _ _ _ _ _ _ _ _ _ _ _ _ _ _ _ _ _ _ _ _ _ _ _ _ _ _ _ _ _ _ _ _ _ _ _ _ _ _ _ _ _ _ _ _ _ _ _ _ _ _ _ _ _ _ _ _ _ _ _ _ _ _ _ _ _ _ _ _ _ _ _ _ _ _ _ _ _ _ _ _ _ _ _ _ _ _ _ _ _ _ _ _ _ _ _ _ _ _ _ _ _ _ _ _ _ _ _ _ _ _ _ _ _ _ _ _ _ _ _ _ _ _ _ _ _ _ _ _ _ _ _ _ _ _ _ _ _ _ _ _ _ _ _ _ _ _ _ _ _ _ _ _ _ _ _ _ _ _ _ _ _ _ _ _ _ _ _ _ _ _ _ _ _ _ _ _ _ _ _ _ _ _ _ _ _ _ _ _ _ _ _ _ _ _ _ _ _ _ _ _ _ _ _ _ _ _ _ _ _ _ _ _ _ _ _ _ _ _ _ _ _ _ _ _ _ _ _ _ _ _ _ _ _ _ _ _ _ _ _ _ _ _ _ _ _ _ hi hz0 hz1 hz2 hi4 hs0 hs1 hs2 hm hlt hl9 (HZ9.out s (List.mem_of_getElem? hs)) hgs c0 hpl (Lib.hid hws) hbk (Lib.hid ?_)
          clear hpl hpd hbk hws hs c0
          intro _ _ _ _ _ _ _ _ _ _ _ _ _ _ _ _ _ _ _ _ _ _ _ _ _ _ _ _ s16 ints2 Y hY
          have HN := Lib.hid hY
          clear hY
          go_wp2_with fail
          go_roundw
          case rel => exact ⟨i + 1, by omega, by go_num, prod ++ [ints2], Lib.hid HN.out.1, by rw [List.length_append, HPL.out]; rfl, Lib.hid HN.out.2⟩
          case measure => (simp [intOf]) <;> omega
        clear hpl
        have hlt' : ¬ (i : Int) < (sz.length : Int) := by omega
        have hk13 := (HK11.out.below HB12.out HK11.out.lt).below hbk.out (Nat.lt_of_lt_of_le HK11.out.lt HB12.out.size)
        have hr13 := ((RRun.below ((RRun.below HR11.out HB12.out).more HB12.out.size) hbk.out).more hbk.out.size)
        have hb13 : Below wo.heap.size wo wr := (HB11.out.trans (HB12.out.mono HB11.out.size)).trans (hbk.out.mono (Nat.le_trans HB11.out.size HB12.out.size))
        have hp13 := OIntss.reads9 hpd.out
        have HK13 := Lib.hid hk13
        have HR13 := Lib.hid hr13
        have HB13 := Lib.hid hb13
        have HP13 := Lib.hid hp13
        clear hk13 hr13 hb13 hp13 hpd hbk
        go_upto_region 51 with fail
        refine small_calls _ _ _ _ _ _ _ _ _ _ _ _ _ _ _ _ _ _ _ _ _ _ _ _ _ _ _ _ _ _ _ _ _ _ _ _ _ _ _ _ _ _ _ _ _ _ _ _ _ _ _ _ _ _ _ _ _ _ _ _ _ _ _ _ _ _ _ _ _ _ _ _ _ _ _ _ _ _ _ _ _ _ _ _ _ _ _ _ _ _ _ _ _ _ _ _ _ _ _ _ _ _ _ _ _ _ _ _ _ _ _ _ _ _ _ _ _ _ _ _ _ _ _ _ _ _ _ _ _ _ _ _ _ _ _ _ _ _ _ _ _ _ _ _ _ _ _ _ _ _ _ _ _ _ _ _ _ _ _ _ _ _ _ _ _ _ _ _ _ _ _ _ _ _ _ _ _ _ _ _ _ _ _ _ _ _ _ _ _ _ _ _ _ _ _ _ _ _ _ _ _ _ _ _ _ _ _ _ _ _ _ _ _ _ _ _ _ _ _ _ _ _ _ _ _ _ _ _ _ _ _ _ _ _ _ _ _ _ _ _ _ _ _ _ _ _ _ _ _ _ _ _ _ _ _ _ _ _ _ _ _ _ _ _ _ _ _ _ _ _ _ _ _ _ _ RC hm HK13 HR13 HP13 (Lib.hid ?_)
        intro _ _ _ _ _ _ _ _ _ _ _ _ _ _ _ _ _ _ _ _ _ _ _ _ _ _ _ _ Y hY
        have HN := Lib.hid hY
        clear hY
        go_wp2_with fail
        exact hQ.out _ _ _ _ _ _ _ _ _ _ _ _ _ _ _ _ _ _ _ _ _ _ _ _ _ _ _ _ _ _ _ _ _ _ _ _ _ _ _ _ _ _ _ _ _ _ _ _ _ _ _ _ _ _ _ _ _ _ _ _ _ _ _ _ _ _ _ _ _ _ _ _ _ _ _ _ _ _ _ _ _ _ _ _ _ _ _ _ _ _ _ _ _ _ _ _ _ _ _ _ _ _ _ _ _ _ _ _ _ _ _ _ _ _ _ _ _ _ _ _ _ _ _ _ _ _ _ _ _ _ _ _ _ _ _ _ _ _ _ _ _ _ _ _ _ _ _ _ _ _ _ _ _ _ _ _ _ _ _ _ _ _ _ _ _ _ _ _ _ _ _ _ _ _ _ _ _ _ _ _ _ _ _ _ _ _ _ _ _ _ _ _ _ _ _ _ _ _ _ _ _ _ _ _ _ _ _ _ _ _ _ _ _ _ _ _ _ _ _ _ _ _ _ _ _ _ _ _ _ _ _ _ _ _ _ _ _ _ _ _ _ _ (HB13.out.trans (HN.out.mono HB13.out.size))
end Go.Proofs.Ytdbfhdncjblleaa
