/-
  The reference's Ganged, given what its Check returns.
-/
import Derived.Test.YtdbfhdncjblleaaRg
import Derived.Test.YtdbfhdncjblleaaRk
namespace Go.Proofs.Ytdbfhdncjblleaa
open Go.RowKit

theorem flat_two {α β : Type} (f g : α → β) : ∀ (l : List α) (k : Nat) {x : β}, (l.flatMap fun s => [f s, g s])[k]? = some x → ∃ s, l[k / 2]? = some s ∧ (x = f s ∨ x = g s)
  | [], k, x, h => by simp at h
  | s :: l, 0, x, h => by
    simp only [List.flatMap_cons, List.cons_append, List.getElem?_cons_zero, Option.some.injEq] at h
    exact ⟨s, rfl, .inl h.symm⟩
  | s :: l, 1, x, h => by
    simp only [List.flatMap_cons, List.cons_append, List.getElem?_cons_succ, List.getElem?_cons_zero, Option.some.injEq] at h
    exact ⟨s, rfl, .inr h.symm⟩
  | s :: l, k + 2, x, h => by
    simp only [List.flatMap_cons, List.cons_append, List.nil_append, List.getElem?_cons_succ] at h
    obtain ⟨y, hy, hx⟩ := flat_two f g l k h
    refine ⟨y, ?_, hx⟩
    rw [show (k + 2) / 2 = k / 2 + 1 by omega, List.getElem?_cons_succ]
    exact hy
theorem sec_coll {r : RunD} (h : checkE r = 0) (hc : r.coll = true) {c k : Nat} {S : List (List SpotD)} {l : List SpotD} (hS : (layoutD r)[c]? = some S) (hl : S[k]? = some l) : ∃ st row, r.stacks[k / 2]? = some st ∧ l = spotsD r st row := by
  rw [layout_coll hc] at hS
  have h0 : c = 0 := by have := (List.getElem?_eq_some_iff.1 hS).1; simpa using this
  subst h0
  simp only [List.getElem?_cons_zero, Option.some.injEq] at hS
  subst hS
  have e : collectedD r = r.stacks.flatMap fun s => [spotsD r s 0, spotsD r s 1] := by
    unfold collectedD
    exact flat_congr fun s _ => rowsD_two (rows_coll h hc) s
  rw [e] at hl
  obtain ⟨st, h1, h2⟩ := flat_two _ _ _ _ hl
  rcases h2 with h2 | h2
  · exact ⟨st, 0, h1, h2⟩
  · exact ⟨st, 1, h1, h2⟩
theorem sec_straight {r : RunD} (hc : r.coll = false) {c k : Nat} {S : List (List SpotD)} {l : List SpotD} (hS : (layoutD r)[c]? = some S) (hl : S[k]? = some l) : ∃ st row, r.stacks[k]? = some st ∧ l = spotsD r st row := by
  rw [layout_straight hc, List.getElem?_map] at hS
  obtain ⟨row, -, rfl⟩ := Option.map_eq_some_iff.1 hS
  unfold straightD at hl
  rw [List.getElem?_map] at hl
  obtain ⟨st, h1, rfl⟩ := Option.map_eq_some_iff.1 hl
  exact ⟨st, row, h1, rfl⟩
theorem secs_len {r : RunD} (h : checkE r = 0) {c : Nat} {S : List (List SpotD)} (hS : (layoutD r)[c]? = some S) : S.length = (sizesD r).length := by
  have := congrArg List.length (alike h hS)
  simpa using this
theorem col_right {r : RunD} {b : RibD} (ho : RibOk r b) : (0 ≤ columnD b true) = (b.left = false) := by
  obtain ⟨bw, bc, bd, bt, bl⟩ := b
  obtain ⟨h1, h2, h3, h4, h5, h6, h7, h8⟩ := ho
  simp only at h1 h2 h3 h4 h5 h6 h7 h8
  have h9 : 0 ≤ bc + 1 := by omega
  rcases (show bd = 1 ∨ bd = 2 by omega) with rfl | rfl
  · cases bl <;> simp [columnD, h6]
  · obtain rfl := h5 rfl
    cases bt <;> simp [columnD, h6, h9]
theorem idsR_yes {r : RunD} {st : List Int} {i : Nat} {x : Int} (hx : st[i]? = some x) (hl : (ribAt r x).left = false) : (idsR r (st.take (i + 1))).length = (idsR r (st.take i)).length + 1 := by
  unfold idsR
  rw [List.take_add_one, hx, List.filter_append, List.length_append]
  simp [hl]
theorem idsR_no {r : RunD} {st : List Int} {i : Nat} {x : Int} (hx : st[i]? = some x) (hl : ¬ (ribAt r x).left = false) : (idsR r (st.take (i + 1))).length = (idsR r (st.take i)).length := by
  unfold idsR
  rw [List.take_add_one, hx, List.filter_append, List.length_append]
  simp [hl]
theorem idsR_len (r : RunD) (st : List Int) (i : Nat) : (idsR r (st.take i)).length ≤ st.length := by
  unfold idsR
  have h1 := List.length_filter_le (fun i => !(ribAt r i).left) (st.take i)
  have h2 := List.length_take_le i st
  rw [List.length_take] at h1
  omega
theorem idsR_pos {r : RunD} {st : List Int} {top : Int} (ht : st.getLast? = some top) (hl : (ribAt r top).left = false) : 1 ≤ (idsR r st).length := by
  obtain ⟨pre, rfl⟩ := List.getLast?_eq_some_iff.1 ht
  unfold idsR
  rw [List.filter_append, List.length_append]
  simp [hl]
theorem last_at {α : Type} {st : List α} {q : Nat} (h : st.length = q + 1) : ∃ top, st.getLast? = some top ∧ st[q]? = some top := by
  refine ⟨st[q], ?_, List.getElem?_eq_getElem (by omega)⟩
  rw [List.getLast?_eq_getElem?, show st.length - 1 = q by omega]
  exact List.getElem?_eq_getElem (by omega)

theorem infoPlaceR : (Try.prog.info? 28).map (fun i => (i.zero, i.size, i.bytes)) = some (some (.agg #[.int .i64 0, .int .i64 0, .int .i64 0]), 3, 24) := by kernel_rfl
def OPlR (base : Nat) (w : World) (v : Value) (l : List PlaceD) : Prop := w.ownsRow base 28 3 v l.length (l.flatMap PlaceD.cells)
def GangRetR (r : RunD) (w : World) (e : Ending) (w' : World) : Prop :=
  ∃ u, e = .returned (.tuple #[u, .int .i64 (checkE r)]) ∧ (checkE r = 0 → OPlR w.heap.size w' u (gangedD r)) ∧ (checkE r ≠ 0 → u = .slice none 0 0) ∧ Below w.heap.size w w'
theorem gang_bound {r : RunD} (h : checkE r = 0) (c : Nat) {S : List (List SpotD)} (hS : (layoutD r)[c]? = some S) (k : Nat) : (gang3 r ((layoutD r).take c) ++ gang2 r c (S.take k)).length ≤ 100000 := by
  have h1 := gang3_len h c
  have h2 := gang2_len h hS k
  rw [List.length_append]
  omega
/-- The topmost ribbon in a block of its own. -/
def TopCut (w0 : World) (cs : Array Value) (s : Value) (wx : World) : Prop := s = .pointer (some ⟨w0.heap.size, 0, none⟩) ∧ Blk wx w0.heap.size 99 cs ∧ Below w0.heap.size w0 wx
theorem top_cut {w0 : World} {cs : Array Value} : TopCut w0 cs (.pointer (some ⟨w0.heap.size, 0, none⟩)) (w0.alloc (.cells cs 99)).drew := ⟨rfl, Blk.new _ _ _, ((Below.refl _ _).alloc (Nat.le_refl _) _).drew⟩

set_option maxRecDepth 100000 in
set_option maxHeartbeats 8000000 in
theorem refGanged_any (RC : RefCheckOk) (v : Value) (r : RunD) (w : World) (h : RRun w.heap.size w v r) (hsm : SmallRun r) :
    Calls Try.prog 26 #[v] w (GangRetR r w) := by
  obtain ⟨i0, hi, hz0, hz1, hz2⟩ := info_parts infoPlaceR
  have HRC := Lib.hid RC
  have HSM := Lib.hid hsm
  have hrun := Lib.hid h
  obtain ⟨A1, c1, A2, c2, A3, c3, rfl⟩ := h.shape
  obtain ⟨Ax, cx, ex, -, hAw⟩ := (h.webs).open_
  cases ex
  obtain ⟨Ay, cy, ey, -, hAy⟩ := RAll.open_ (h.stacks)
  cases ey
  obtain ⟨Az, cz, ez, -, hAz⟩ := RRibs.open_ h.ribs
  cases ez
  have HAW := Lib.hid hAw
  have HAY := Lib.hid hAy
  have HAZ := Lib.hid hAz
  clear h RC hsm hAw hAy hAz
  have F0 : ∃ W0, w.alloc (.cells #[.slice A1 r.webs.length c1, .slice A2 r.ribs.length c2, .slice A3 r.stacks.length c3, .bool r.coll] 26) = W0 ∧ Below w.heap.size w W0 ∧ Blk W0 w.heap.size 26 #[.slice A1 r.webs.length c1, .slice A2 r.ribs.length c2, .slice A3 r.stacks.length c3, .bool r.coll] :=
    ⟨_, rfl, (Below.refl _ _).alloc (Nat.le_refl _) _, Blk.new _ _ _⟩
  obtain ⟨W0, e0, B0, V0⟩ := F0
  have E0 := Lib.hid e0
  have o0 := cellOf V0 0 (x := .slice A1 r.webs.length c1) rfl
  have o1 := cellOf V0 1 (x := .slice A2 r.ribs.length c2) rfl
  have o2 := cellOf V0 2 (x := .slice A3 r.stacks.length c3) rfl
  have o3 := cellOf V0 3 (x := .bool r.coll) rfl
  have C := Lib.hid (refSizes_any HRC.out _ r W0 ((hrun.out.below B0).more B0.size) HSM.out)
  clear e0
  go_enter Try.func26, Try.ntmps26
  go_upto_region 1 with fail
  rw [E0.out]
  go_wp2_with fail
  refine C.out.mono ?_
  rintro e w3 ⟨u, rfl, hu0, hu1, hb3⟩
  have B3 := B0.trans (hb3.mono B0.size)
  have V3 := V0.below hb3 V0.lt
  clear C o0 o1 o2 o3 V0 hb3
  by_cases hck : checkE r = 0
  case neg =>
    have hck' : (checkE r != 0) = true := by simpa using hck
    have HR : ∀ e, e = .returned (.tuple #[.slice none 0 0, .int .i64 (checkE r)]) → GangRetR r w e w3 := fun e he => ⟨_, he, fun h => absurd h hck, fun _ => rfl, B3⟩
    have HR' := Lib.hid HR
    obtain rfl := hu1 hck
    clear hck HR V3 hu0 hu1
    generalize checkE r = ck at *
    go_wp2
    go_ret2
    exact HR'.out _ rfl
  rw [hck]
  have Hok := Lib.hid hck
  obtain ⟨NS, hNS⟩ : ∃ NS, (sizesD r).length = NS := ⟨_, rfl⟩
  have hsz := hu0 hck
  rw [hNS] at hsz
  obtain ⟨As, cs, rfl⟩ := ownsRow_form hsz
  have HNS := Lib.hid hNS
  have hNSl : NS ≤ 100 := by
    obtain ⟨x, hx⟩ := layout_pos hck
    have h1 := secs_len hck hx
    have h2 := copy_small hck hx
    omega
  have hbox : ∀ X, Below w3.heap.size w3 X → X.cell? ⟨w.heap.size, 0, none⟩ = some (.slice A1 r.webs.length c1) ∧ X.cell? ⟨w.heap.size, 1, none⟩ = some (.slice A2 r.ribs.length c2) ∧ X.cell? ⟨w.heap.size, 2, none⟩ = some (.slice A3 r.stacks.length c3) ∧ X.cell? ⟨w.heap.size, 3, none⟩ = some (.bool r.coll) := fun X hX => by
    have k2 := V3.below hX V3.lt
    exact ⟨cellOf k2 0 rfl, cellOf k2 1 rfl, cellOf k2 2 rfl, cellOf k2 3 rfl⟩
  have HBX := Lib.hid hbox
  have hrib : ∀ X, Below w3.heap.size w3 X → ∀ k x, r.ribs[k]? = some x → ∃ g o, A2 = some ⟨g, o, none⟩ ∧ g < w3.heap.size ∧ X.cell? ⟨g, o + k * 5, none⟩ = some (.int .i64 x.web) ∧ X.cell? ⟨g, o + k * 5 + 1, none⟩ = some (.int .i64 x.col) ∧ X.cell? ⟨g, o + k * 5 + 2, none⟩ = some (.int .i64 x.width) ∧ X.cell? ⟨g, o + k * 5 + 3, none⟩ = some (.bool x.turned) ∧ X.cell? ⟨g, o + k * 5 + 4, none⟩ = some (.bool x.left) := fun X hX k x hx => by
    obtain ⟨g, o, rfl, hb, m0, m1, m2, m3, m4⟩ := HAZ.out k x hx
    have hB := B3.trans (hX.mono B3.size)
    exact ⟨g, o, rfl, Nat.lt_of_lt_of_le hb B3.size, (hB.cell (p := ⟨g, o + k * 5, none⟩) hb).trans m0, (hB.cell (p := ⟨g, o + k * 5 + 1, none⟩) hb).trans m1, (hB.cell (p := ⟨g, o + k * 5 + 2, none⟩) hb).trans m2, (hB.cell (p := ⟨g, o + k * 5 + 3, none⟩) hb).trans m3, (hB.cell (p := ⟨g, o + k * 5 + 4, none⟩) hb).trans m4⟩
  have HR := Lib.hid hrib
  have hstk : ∀ k s, r.stacks[k]? = some s → ∃ g o A c, A3 = some ⟨g, o, none⟩ ∧ (∀ X, Below w3.heap.size w3 X → X.cell? ⟨g, o + k, none⟩ = some (.slice A s.length c)) ∧ ∀ i z, s[i]? = some z → ∃ g1 o1, A = some ⟨g1, o1, none⟩ ∧ g1 < w3.heap.size ∧ ∀ X, Below w3.heap.size w3 X → X.cell? ⟨g1, o1 + i, none⟩ = some (.int .i64 z) := fun k s hs => by
    obtain ⟨g, o, u, rfl, hb, m0, hp⟩ := HAY.out k s hs
    obtain ⟨A, c, rfl, -, hA⟩ := RInts.open_ hp
    refine ⟨g, o, A, c, rfl, fun X hX => ((B3.trans (hX.mono B3.size)).cell (p := ⟨g, o + k, none⟩) hb).trans m0, fun i z hz => ?_⟩
    have hi := (List.getElem?_eq_some_iff.1 hz).1
    obtain ⟨g1, o1, y, rfl, hb1, n0, hy⟩ := hA i hi
    have hyz : y = z := by
      have := hy.out
      rw [List.getD_eq_getElem?_getD, hz] at this
      exact this.symm
    subst hyz
    exact ⟨g1, o1, rfl, Nat.lt_of_lt_of_le hb1 B3.size, fun X hX => ((B3.trans (hX.mono B3.size)).cell (p := ⟨g1, o1 + i, none⟩) hb1).trans n0⟩
  have HST := Lib.hid hstk
  have hn1 := (numbers_ok (parts_ok hck 0 (by omega))).1
  obtain ⟨y0, hy0⟩ : ∃ y, r.webs[0]? = some y := ⟨_, List.getElem?_eq_getElem hn1⟩
  obtain ⟨gw, ow, -, rfl, hgw, -, hw1, -, -⟩ := HAW.out 0 y0 hy0
  have hr0 : y0.rows = rows0 r := by unfold rows0; rw [getD_of hy0]
  rw [hr0] at hw1
  have q1 : w3.cell? ⟨gw, ow + 1, none⟩ = some (.int .i64 (rows0 r)) := by
    have := (B3.cell (p := ⟨gw, ow + 0 * 3 + 1, none⟩) hgw).trans hw1
    simpa using this
  have hl0 : (0 : Int) < (r.webs.length : Int) := by omega
  have hrows := rows_two hck
  have hrC := fun hc : r.coll = true => rows_coll hck hc
  have HRC2 := Lib.hid hrC
  obtain ⟨o0, o1, o2, o3⟩ := hbox w3 (Below.refl _ _)
  clear hbox hrib hstk hu0 hu1 hsz hNS hy0 hr0 hw1 hck V3 hrC
  cases hcoll : r.coll
  case false =>
    have hLN : ((layoutD r).length : Int) = rows0 r := by
      rw [layout_straight hcoll, List.length_map, List.length_range]
      omega
    have HSEC : Hid (∀ (c k : Nat) (S : List (List SpotD)) (l : List SpotD), (layoutD r)[c]? = some S → S[k]? = some l → ∃ st row, r.stacks[k]? = some st ∧ l = spotsD r st row) := fun c k S l hS hl => sec_straight hcoll hS hl
    rw [hcoll] at o3 HBX
    go_wp2
    clear o0 o1 o2 o3 q1
    go_loopw [8, 9] (fun lv i wr => ∃ c : Nat, c ≤ (layoutD r).length ∧ i = .int .i64 c ∧ OPlR w3.heap.size wr lv (gang3 r ((layoutD r).take c)) ∧ Below w3.heap.size w3 wr) (fun _ i _ => (layoutD r).length - (intOf i).toNat)
    case atStart => exact ⟨0, Nat.zero_le _, rfl, World.ownsRow_nil _ _ _ _, Below.refl _ _⟩
    case round =>
      obtain ⟨c, hc, rfl, ho, hB⟩ := hrel
      by_cases hlc : (c : Int) < rows0 r
      case neg =>
        obtain rfl : c = (layoutD r).length := by omega
        rw [List.take_length] at ho
        have B5 := B3.trans (hB.mono B3.size)
        have HRT : ∀ u e, OPlR w3.heap.size wr u (gangedD r) → e = .returned (.tuple #[u, .int .i64 0]) → GangRetR r w e wr := fun u e hu he => ⟨u, by rw [Hok.out]; exact he, fun _ => ownsRow_base hu B3.size, fun h => absurd Hok.out h, B5⟩
        have HRT' := Lib.hid HRT
        have HO := Lib.hid ho
        clear HRT ho
        go_wp2
        go_ret2
        exact HRT'.out _ _ HO.out rfl
      obtain ⟨S, hS⟩ : ∃ S, (layoutD r)[c]? = some S := ⟨_, List.getElem?_eq_getElem (by omega)⟩
      have hSN : S.length = NS := (secs_len Hok.out hS).trans HNS.out
      have HS := Lib.hid hS
      have HSN := Lib.hid hSN
      have ho' : OPlR w3.heap.size wr u8 (gang3 r ((layoutD r).take c) ++ gang2 r c (S.take 0)) := by
        rw [List.take_zero]
        simpa [gang2] using ho
      clear hS hSN ho
      go_wp2
      go_loopw [8, 10] (fun lv i wr => ∃ k : Nat, k ≤ NS ∧ i = .int .i64 k ∧ OPlR w3.heap.size wr lv (gang3 r ((layoutD r).take c) ++ gang2 r c (S.take k)) ∧ Below w3.heap.size w3 wr) (fun _ i _ => NS - (intOf i).toNat)
      case atStart => exact ⟨0, Nat.zero_le _, rfl, ho', hB⟩
      case round =>
        clear ho' hB
        obtain ⟨k, hk, rfl, ho, hB⟩ := hrel
        obtain ⟨wo, rfl⟩ : ∃ wo, wo = wr := ⟨wr, rfl⟩
        by_cases hlk : k < NS
        case neg =>
          have hg : gang3 r ((layoutD r).take (c + 1)) = gang3 r ((layoutD r).take c) ++ gang2 r c (S.take k) := by
            have hk2 : S.length ≤ k := by rw [HSN.out]; omega
            rw [gang3_next HS.out, List.take_of_length_le (l := S) hk2]
          rw [← hg] at ho
          have HO := Lib.hid ho
          clear hg ho
          go_wp2
          go_roundw
          case rel => exact ⟨c + 1, by omega, by go_num, HO.out, hB⟩
          case measure => (simp [intOf]) <;> omega
        obtain ⟨l, hl⟩ : ∃ l, S[k]? = some l := ⟨_, List.getElem?_eq_getElem (by rw [HSN.out]; omega)⟩
        obtain ⟨st, row, hst, hlr⟩ := HSEC.out c k S l HS.out hl
        skip
        have hmem := List.mem_of_getElem? hst
        obtain ⟨q, hq⟩ : ∃ q, st.length = q + 1 := ⟨st.length - 1, by have := c_full Hok.out hmem; omega⟩
        obtain ⟨top, htop, hqt⟩ := last_at hq
        have hrange := stacks_range Hok.out _ hmem
        have htr := hrange top (List.mem_of_getElem? hqt)
        obtain ⟨j, rfl⟩ : ∃ j : Nat, top = j := ⟨top.toNat, by omega⟩
        obtain ⟨b, hb⟩ : ∃ b, r.ribs[j]? = some b := ⟨_, List.getElem?_eq_getElem (by omega)⟩
        have hra : ribAt r (j : Int) = b := by unfold ribAt; rw [Int.toNat_natCast, getD_of hb]
        have hrb := rib_at Hok.out htr
        rw [hra] at hrb
        have hgt := gang_top Hok.out hst htop row c k
        rw [hra, ← hlr] at hgt
        have hgn := gang2_next (r := r) (c := c) hl
        rw [hgt] at hgn
        have hlb := gang_bound Hok.out c HS.out k
        have hst32 : q + 1 ≤ 1000 := by rw [← hq]; exact (small_ok Hok.out).2.2.2.2 st hmem
        have HRN := Lib.hid hrange
        have HGN := Lib.hid hgn
        have HQ := Lib.hid hq
        have HTOP := Lib.hid htop
        have HHRB := Lib.hid hrb
        have HHRA := Lib.hid hra
        obtain ⟨g3, o3, Ast, cst, rfl, hcst, hin⟩ := HST.out _ st hst
        obtain ⟨g4, o4, rfl, hg4, hcq⟩ := hin q _ hqt
        rw [hq] at hcst
        have HCST := Lib.hid hcst
        have HIN := Lib.hid hin
        obtain ⟨o0, o1, o2, o3'⟩ := HBX.out wo hB
        have m0 := hcst wo hB
        have hki : (k : Int) < (NS : Int) := by omega
        have hdi : (k : Int) < (r.stacks.length : Int) := by have := (List.getElem?_eq_some_iff.1 hst).1; omega
        have t1 : (k : Int).tdiv 1 = (k : Int) := Int.tdiv_one _
        have t2 : IntKind.i64.wrap (k : Int) = (k : Int) := IntWalk.i64_in _ ⟨by omega, by omega⟩
        skip
        clear hl hst hlr hmem htop hgt hgn hq hrange hin hcst hra hrb
        go_upto_region 16 with fail
        go_quiet (fail)
        go_wp2_with fail
        obtain ⟨w1, e1⟩ : ∃ w1, wo.drewN nq = w1 := ⟨_, rfl⟩
        have hb1 : Below wo.heap.size wo w1 := by rw [← e1]; exact below_drewN (Below.refl _ _) _
        rw [e1]
        have hB1 := hB.trans (hb1.mono hB.size)
        have ho1 := ownsRow_below ho hb1
        clear o0 o1 o2 o3' m0 t1 t2 hdi e1 hb1 ho hB
        obtain ⟨o0, o1, o2, o3'⟩ := HBX.out w1 hB1
        have n0 := hcq w1 hB1
        obtain ⟨g5, o5, rfl, hg5, m0, m1, m2, m3, m4⟩ := HR.out w1 hB1 j b hb
        have hji : (j : Int) < (r.ribs.length : Int) := by omega
        have kq : IntKind.i64.wrap ((q : Int) + 1 - 1) = (q : Int) := by rw [Int.add_sub_cancel]; exact IntWalk.i64_in _ ⟨by omega, by omega⟩
        have kq2 : IntKind.i64.wrap (q : Int) = (q : Int) := IntWalk.i64_in _ ⟨by omega, by omega⟩
        have hqi : (q : Int) < (q : Int) + 1 := by omega
        have x5 : g5 < w1.heap.size := Nat.lt_of_lt_of_le hg5 hB1.size
        have x4 : g4 < w1.heap.size := Nat.lt_of_lt_of_le hg4 hB1.size
        have x1 : w.heap.size < w1.heap.size := World.block_lt_of_cell? w1 _ o1
        obtain ⟨bw, bc, bd, bt, bl⟩ := b
        dsimp only at m0 m1 m2 m3 m4
        clear hb hcq htr hqt
        go_cut [12] (fun s wx => TopCut w1 #[.int .i64 bw, .int .i64 bc, .int .i64 bd, .bool bt, .bool bl] s wx)
        case first =>
          go_region
          all_goals (go_wp2_with fail; go_meet; exact top_cut)
        case rest =>
        obtain ⟨rfl, R2, hb2⟩ := hcut
        obtain ⟨w2, rfl⟩ : ∃ w2, w2 = wc := ⟨wc, rfl⟩
        have hB2 := hB1.trans (hb2.mono hB1.size)
        have ho2 := ownsRow_below ho1 hb2
        have p2 := cellOf R2 2 (x := .int .i64 bd) rfl
        clear o0 o1 o2 o3' n0 m0 m1 m2 m3 m4 kq kq2 hqi x1 x4 x5 ho1 hb2 R2
        by_cases hw : bd = 2
        case neg =>
          have k1 : (bd != 2) = true := by simpa using hw
          have HL : Hid (gang2 r c (S.take (k + 1)) = gang2 r c (S.take k)) := by
            show gang2 r c (S.take (k + 1)) = gang2 r c (S.take k)
            rw [HGN.out, if_neg hw, List.append_nil]
          have HO := Lib.hid ho2
          clear hw ho2
          go_wp2
          go_roundw
          case rel => exact ⟨k + 1, by omega, by go_num, by rw [HL.out]; exact HO.out, hB2⟩
          case measure => (simp [intOf]) <;> omega
        have k1 : (bd != 2) = false := by simpa using hw
        have HL : Hid (gang2 r c (S.take (k + 1)) = gang2 r c (S.take k) ++ [⟨c, k, (2 * (idsR r st).length - 1 : Nat)⟩]) := by
          show gang2 r c (S.take (k + 1)) = _
          rw [HGN.out, if_pos hw]
        have hpos := idsR_pos HTOP.out (by rw [HHRA.out]; exact HHRB.out.left hw)
        obtain ⟨LN, hLN⟩ : ∃ LN, (gang3 r ((layoutD r).take c) ++ gang2 r c (S.take k)).length = LN := ⟨_, rfl⟩
        unfold OPlR at ho2
        rw [hLN] at ho2 hlb
        have HLN := Lib.hid hLN
        have HW := Lib.hid hw
        clear hw hLN
        go_wp2
        clear p2 k1
        go_loopw [13, 14] (fun nv i wr => ∃ i' N : Nat, i' ≤ q + 1 ∧ i = .int .i64 i' ∧ Hid (N = (idsR r (st.take i')).length) ∧ nv = .int .i64 (2 * (N : Int)) ∧ Below w2.heap.size w2 wr) (fun _ i _ => q + 1 - (intOf i).toNat)
        case atStart => exact ⟨0, 0, Nat.zero_le _, rfl, by show 0 = _; simp [idsR], rfl, Below.refl _ _⟩
        case round =>
          obtain ⟨i', N, hi', rfl, hN, rfl, hB3⟩ := hrel
          have hB4 := hB2.trans (hB3.mono hB2.size)
          have hNb : N ≤ q + 1 := by
            have h1 := hN.out
            have h2 := idsR_len r st i'
            rw [HQ.out] at h2
            omega
          by_cases hli : i' < q + 1
          case neg =>
            obtain rfl : i' = q + 1 := by omega
            have hN2 : N = (idsR r st).length := by
              have := hN.out
              rwa [List.take_of_length_le (by rw [HQ.out]; exact Nat.le_refl _)] at this
            have hP : ((2 * (idsR r st).length - 1 : Nat) : Int) = 2 * (N : Int) - 1 := by omega
            have kw : IntKind.i64.wrap (2 * (N : Int) - 1) = 2 * (N : Int) - 1 := IntWalk.i64_in _ ⟨by omega, by omega⟩
            have ho3 := ownsRow_below ho2 hB3
            have hbs := hB4.size
            have HP := Lib.hid hP
            clear hN2 hP hN hpos ho2
            go_wp2_with (at_builtin; refine wpList_append_own _ rfl _ _ 66 rfl w3.heap.size 28 i0 (.agg #[.int .i64 0, .int .i64 0, .int .i64 0]) 3 24 Try.underlying66 hi hz0 hz1 hz2 rfl (by decide) _ _ _ rfl (ho3.alloc _) ⟨wr.heap.size, 0, none⟩ 1 1 [.int .i64 c, .int .i64 k, .int .i64 (2 * (N : Int) - 1)] rfl rfl (cells_new _ _ _) (by simp [Value.oneCell']) (by simp only [maxLen]; omega) (by omega) (by simp; omega) ?_; intro v' w6 hown' hgrow _)
            have hS : OPlR w3.heap.size w6 v' (gang3 r ((layoutD r).take c) ++ gang2 r c (S.take (k + 1))) := by
              unfold OPlR
              rw [HL.out, ← List.append_assoc, place_snoc, len_snoc, HLN.out]
              unfold PlaceD.cells
              rw [HP.out]
              exact hown'
            have hB6 := below_grown hB4 ho3 hgrow hbs
            clear hown' hgrow ho3 kw
            go_wp2
            go_roundw
            case rel => exact ⟨k + 1, by omega, by go_num, hS, hB6⟩
            case measure => (simp [intOf]) <;> omega
          obtain ⟨z, hz⟩ : ∃ z, st[i']? = some z := ⟨_, List.getElem?_eq_getElem (by rw [HQ.out]; omega)⟩
          have hzr := HRN.out z (List.mem_of_getElem? hz)
          obtain ⟨jj, rfl⟩ : ∃ jj : Nat, z = jj := ⟨z.toNat, by omega⟩
          obtain ⟨x, hx⟩ : ∃ x, r.ribs[jj]? = some x := ⟨_, List.getElem?_eq_getElem (by omega)⟩
          have hra : ribAt r (jj : Int) = x := by unfold ribAt; rw [Int.toNat_natCast, getD_of hx]
          have hrb := rib_at Hok.out hzr
          rw [hra] at hrb
          have hcr := col_right hrb
          have hy := idsR_yes (r := r) hz
          have hno := idsR_no (r := r) hz
          rw [hra] at hy hno
          rw [← hN.out] at hy hno
          have C := fun X => column_any x true X ⟨hrb.col0, by have := hrb.col2; have := hrb.width0; omega⟩
          obtain ⟨col, hcol⟩ : ∃ col, columnD x true = col := ⟨_, rfl⟩
          rw [hcol] at hcr C
          obtain ⟨g6, o6, eg, -, hcz⟩ := HIN.out i' _ hz
          simp only [Option.some.injEq, Addr.mk.injEq, and_true] at eg
          obtain ⟨rfl, rfl⟩ := eg
          have n0 := hcz wr hB4
          obtain ⟨g7, o7, eg, -, m0, m1, m2, m3, m4⟩ := HR.out wr hB4 jj x hx
          simp only [Option.some.injEq, Addr.mk.injEq, and_true] at eg
          obtain ⟨rfl, rfl⟩ := eg
          obtain ⟨o0, o1, o2, o3'⟩ := HBX.out wr hB4
          have hji2 : (jj : Int) < (r.ribs.length : Int) := by omega
          have hii : (i' : Int) < (q : Int) + 1 := by omega
          obtain ⟨xw, xc, xd, xt, xl⟩ := x
          simp only [RibD.val, halfI, if_true] at C
          dsimp only at m0 m1 m2 m3 m4 hcr hy hno
          have HC := Lib.hid C
          have HCR := Lib.hid hcr
          have HY := Lib.hid hy
          have HNO := Lib.hid hno
          clear hz hzr hx hra hrb hcr hy hno C hcol hcz hN
          go_upto_region 23 with fail
          go_still_tail 8, (by kernel_rfl)
          change wpList _ _ _ _ _ wr.drew
          go_wp2_with fail
          refine (HC.out _).mono ?_
          rintro e w4 ⟨rfl, hb4⟩
          have hB5 := (hB3.drew).trans (hb4.mono hB3.drew.size)
          clear o0 o1 o2 o3' n0 m0 m1 m2 m3 m4 hb4
          by_cases hcc : 0 ≤ col
          case neg =>
            have HNX : Hid (N = (idsR r (st.take (i' + 1))).length) := (HNO.out (fun h => hcc (by rw [HCR.out]; exact h))).symm
            go_wp2
            go_roundw
            case rel => exact ⟨i' + 1, N, by omega, by go_num, HNX, rfl, hB5⟩
            case measure => (simp [intOf]) <;> omega
          have HNX : Hid (N + 1 = (idsR r (st.take (i' + 1))).length) := (HY.out (by rw [← HCR.out]; exact hcc)).symm
          have kw : IntKind.i64.wrap (2 * (N : Int) + 2) = 2 * (N : Int) + 2 := IntWalk.i64_in _ ⟨by omega, by omega⟩
          go_wp2
          go_roundw
          case rel => exact ⟨i' + 1, N + 1, by omega, by go_num, HNX, congrArg (Value.int IntKind.i64) (by omega), hB5⟩
          case measure => (simp [intOf]) <;> omega
  case true =>
    have hLN : ((layoutD r).length : Int) = 1 := by
      rw [layout_coll hcoll]
      rfl
    have HSEC : Hid (∀ (c k : Nat) (S : List (List SpotD)) (l : List SpotD), (layoutD r)[c]? = some S → S[k]? = some l → ∃ st row, r.stacks[k / 2]? = some st ∧ l = spotsD r st row) := fun c k S l hS hl => sec_coll Hok.out hcoll hS hl
    rw [hcoll] at o3 HBX
    go_wp2
    clear o0 o1 o2 o3 q1
    go_loopw [8, 9] (fun lv i wr => ∃ c : Nat, c ≤ (layoutD r).length ∧ i = .int .i64 c ∧ OPlR w3.heap.size wr lv (gang3 r ((layoutD r).take c)) ∧ Below w3.heap.size w3 wr) (fun _ i _ => (layoutD r).length - (intOf i).toNat)
    case atStart => exact ⟨0, Nat.zero_le _, rfl, World.ownsRow_nil _ _ _ _, Below.refl _ _⟩
    case round =>
      obtain ⟨c, hc, rfl, ho, hB⟩ := hrel
      by_cases hlc : (c : Int) < 1
      case neg =>
        obtain rfl : c = (layoutD r).length := by omega
        rw [List.take_length] at ho
        have B5 := B3.trans (hB.mono B3.size)
        have HRT : ∀ u e, OPlR w3.heap.size wr u (gangedD r) → e = .returned (.tuple #[u, .int .i64 0]) → GangRetR r w e wr := fun u e hu he => ⟨u, by rw [Hok.out]; exact he, fun _ => ownsRow_base hu B3.size, fun h => absurd Hok.out h, B5⟩
        have HRT' := Lib.hid HRT
        have HO := Lib.hid ho
        clear HRT ho
        go_wp2
        go_ret2
        exact HRT'.out _ _ HO.out rfl
      obtain ⟨S, hS⟩ : ∃ S, (layoutD r)[c]? = some S := ⟨_, List.getElem?_eq_getElem (by omega)⟩
      have hSN : S.length = NS := (secs_len Hok.out hS).trans HNS.out
      have HS := Lib.hid hS
      have HSN := Lib.hid hSN
      have ho' : OPlR w3.heap.size wr u8 (gang3 r ((layoutD r).take c) ++ gang2 r c (S.take 0)) := by
        rw [List.take_zero]
        simpa [gang2] using ho
      clear hS hSN ho
      go_wp2
      go_loopw [8, 10] (fun lv i wr => ∃ k : Nat, k ≤ NS ∧ i = .int .i64 k ∧ OPlR w3.heap.size wr lv (gang3 r ((layoutD r).take c) ++ gang2 r c (S.take k)) ∧ Below w3.heap.size w3 wr) (fun _ i _ => NS - (intOf i).toNat)
      case atStart => exact ⟨0, Nat.zero_le _, rfl, ho', hB⟩
      case round =>
        clear ho' hB
        obtain ⟨k, hk, rfl, ho, hB⟩ := hrel
        obtain ⟨wo, rfl⟩ : ∃ wo, wo = wr := ⟨wr, rfl⟩
        by_cases hlk : k < NS
        case neg =>
          have hg : gang3 r ((layoutD r).take (c + 1)) = gang3 r ((layoutD r).take c) ++ gang2 r c (S.take k) := by
            have hk2 : S.length ≤ k := by rw [HSN.out]; omega
            rw [gang3_next HS.out, List.take_of_length_le (l := S) hk2]
          rw [← hg] at ho
          have HO := Lib.hid ho
          clear hg ho
          go_wp2
          go_roundw
          case rel => exact ⟨c + 1, by omega, by go_num, HO.out, hB⟩
          case measure => (simp [intOf]) <;> omega
        obtain ⟨l, hl⟩ : ∃ l, S[k]? = some l := ⟨_, List.getElem?_eq_getElem (by rw [HSN.out]; omega)⟩
        obtain ⟨st, row, hst, hlr⟩ := HSEC.out c k S l HS.out hl
        obtain ⟨kd, hkd⟩ : ∃ kd, k / 2 = kd := ⟨_, rfl⟩
        rw [hkd] at hst
        have hmem := List.mem_of_getElem? hst
        obtain ⟨q, hq⟩ : ∃ q, st.length = q + 1 := ⟨st.length - 1, by have := c_full Hok.out hmem; omega⟩
        obtain ⟨top, htop, hqt⟩ := last_at hq
        have hrange := stacks_range Hok.out _ hmem
        have htr := hrange top (List.mem_of_getElem? hqt)
        obtain ⟨j, rfl⟩ : ∃ j : Nat, top = j := ⟨top.toNat, by omega⟩
        obtain ⟨b, hb⟩ : ∃ b, r.ribs[j]? = some b := ⟨_, List.getElem?_eq_getElem (by omega)⟩
        have hra : ribAt r (j : Int) = b := by unfold ribAt; rw [Int.toNat_natCast, getD_of hb]
        have hrb := rib_at Hok.out htr
        rw [hra] at hrb
        have hgt := gang_top Hok.out hst htop row c k
        rw [hra, ← hlr] at hgt
        have hgn := gang2_next (r := r) (c := c) hl
        rw [hgt] at hgn
        have hlb := gang_bound Hok.out c HS.out k
        have hst32 : q + 1 ≤ 1000 := by rw [← hq]; exact (small_ok Hok.out).2.2.2.2 st hmem
        have HRN := Lib.hid hrange
        have HGN := Lib.hid hgn
        have HQ := Lib.hid hq
        have HTOP := Lib.hid htop
        have HHRB := Lib.hid hrb
        have HHRA := Lib.hid hra
        obtain ⟨g3, o3, Ast, cst, rfl, hcst, hin⟩ := HST.out _ st hst
        obtain ⟨g4, o4, rfl, hg4, hcq⟩ := hin q _ hqt
        rw [hq] at hcst
        have HCST := Lib.hid hcst
        have HIN := Lib.hid hin
        obtain ⟨o0, o1, o2, o3'⟩ := HBX.out wo hB
        have m0 := hcst wo hB
        have hki : (k : Int) < (NS : Int) := by omega
        have hdi : (kd : Int) < (r.stacks.length : Int) := by have := (List.getElem?_eq_some_iff.1 hst).1; omega
        have t1 : (k : Int).tdiv 2 = (kd : Int) := by rw [Int.tdiv_eq_ediv_of_nonneg (by omega)]; omega
        have t2 : IntKind.i64.wrap (kd : Int) = (kd : Int) := IntWalk.i64_in _ ⟨by omega, by omega⟩
        have HKD := Lib.hid hkd
        clear hkd
        clear hl hst hlr hmem htop hgt hgn hq hrange hin hcst hra hrb
        go_upto_region 16 with fail
        go_quiet (fail)
        go_wp2_with fail
        obtain ⟨w1, e1⟩ : ∃ w1, wo.drewN nq = w1 := ⟨_, rfl⟩
        have hb1 : Below wo.heap.size wo w1 := by rw [← e1]; exact below_drewN (Below.refl _ _) _
        rw [e1]
        have hB1 := hB.trans (hb1.mono hB.size)
        have ho1 := ownsRow_below ho hb1
        clear o0 o1 o2 o3' m0 t1 t2 hdi e1 hb1 ho hB
        obtain ⟨o0, o1, o2, o3'⟩ := HBX.out w1 hB1
        have n0 := hcq w1 hB1
        obtain ⟨g5, o5, rfl, hg5, m0, m1, m2, m3, m4⟩ := HR.out w1 hB1 j b hb
        have hji : (j : Int) < (r.ribs.length : Int) := by omega
        have kq : IntKind.i64.wrap ((q : Int) + 1 - 1) = (q : Int) := by rw [Int.add_sub_cancel]; exact IntWalk.i64_in _ ⟨by omega, by omega⟩
        have kq2 : IntKind.i64.wrap (q : Int) = (q : Int) := IntWalk.i64_in _ ⟨by omega, by omega⟩
        have hqi : (q : Int) < (q : Int) + 1 := by omega
        have x5 : g5 < w1.heap.size := Nat.lt_of_lt_of_le hg5 hB1.size
        have x4 : g4 < w1.heap.size := Nat.lt_of_lt_of_le hg4 hB1.size
        have x1 : w.heap.size < w1.heap.size := World.block_lt_of_cell? w1 _ o1
        obtain ⟨bw, bc, bd, bt, bl⟩ := b
        dsimp only at m0 m1 m2 m3 m4
        clear hb hcq htr hqt
        go_cut [12] (fun s wx => TopCut w1 #[.int .i64 bw, .int .i64 bc, .int .i64 bd, .bool bt, .bool bl] s wx)
        case first =>
          go_region
          all_goals (go_wp2_with fail; go_meet; exact top_cut)
        case rest =>
        obtain ⟨rfl, R2, hb2⟩ := hcut
        obtain ⟨w2, rfl⟩ : ∃ w2, w2 = wc := ⟨wc, rfl⟩
        have hB2 := hB1.trans (hb2.mono hB1.size)
        have ho2 := ownsRow_below ho1 hb2
        have p2 := cellOf R2 2 (x := .int .i64 bd) rfl
        clear o0 o1 o2 o3' n0 m0 m1 m2 m3 m4 kq kq2 hqi x1 x4 x5 ho1 hb2 R2
        by_cases hw : bd = 2
        case neg =>
          have k1 : (bd != 2) = true := by simpa using hw
          have HL : Hid (gang2 r c (S.take (k + 1)) = gang2 r c (S.take k)) := by
            show gang2 r c (S.take (k + 1)) = gang2 r c (S.take k)
            rw [HGN.out, if_neg hw, List.append_nil]
          have HO := Lib.hid ho2
          clear hw ho2
          go_wp2
          go_roundw
          case rel => exact ⟨k + 1, by omega, by go_num, by rw [HL.out]; exact HO.out, hB2⟩
          case measure => (simp [intOf]) <;> omega
        have k1 : (bd != 2) = false := by simpa using hw
        have HL : Hid (gang2 r c (S.take (k + 1)) = gang2 r c (S.take k) ++ [⟨c, k, (2 * (idsR r st).length - 1 : Nat)⟩]) := by
          show gang2 r c (S.take (k + 1)) = _
          rw [HGN.out, if_pos hw]
        have hpos := idsR_pos HTOP.out (by rw [HHRA.out]; exact HHRB.out.left hw)
        obtain ⟨LN, hLN⟩ : ∃ LN, (gang3 r ((layoutD r).take c) ++ gang2 r c (S.take k)).length = LN := ⟨_, rfl⟩
        unfold OPlR at ho2
        rw [hLN] at ho2 hlb
        have HLN := Lib.hid hLN
        have HW := Lib.hid hw
        clear hw hLN
        go_wp2
        clear p2 k1
        go_loopw [13, 14] (fun nv i wr => ∃ i' N : Nat, i' ≤ q + 1 ∧ i = .int .i64 i' ∧ Hid (N = (idsR r (st.take i')).length) ∧ nv = .int .i64 (2 * (N : Int)) ∧ Below w2.heap.size w2 wr) (fun _ i _ => q + 1 - (intOf i).toNat)
        case atStart => exact ⟨0, 0, Nat.zero_le _, rfl, by show 0 = _; simp [idsR], rfl, Below.refl _ _⟩
        case round =>
          obtain ⟨i', N, hi', rfl, hN, rfl, hB3⟩ := hrel
          have hB4 := hB2.trans (hB3.mono hB2.size)
          have hNb : N ≤ q + 1 := by
            have h1 := hN.out
            have h2 := idsR_len r st i'
            rw [HQ.out] at h2
            omega
          by_cases hli : i' < q + 1
          case neg =>
            obtain rfl : i' = q + 1 := by omega
            have hN2 : N = (idsR r st).length := by
              have := hN.out
              rwa [List.take_of_length_le (by rw [HQ.out]; exact Nat.le_refl _)] at this
            have hP : ((2 * (idsR r st).length - 1 : Nat) : Int) = 2 * (N : Int) - 1 := by omega
            have kw : IntKind.i64.wrap (2 * (N : Int) - 1) = 2 * (N : Int) - 1 := IntWalk.i64_in _ ⟨by omega, by omega⟩
            have ho3 := ownsRow_below ho2 hB3
            have hbs := hB4.size
            have HP := Lib.hid hP
            clear hN2 hP hN hpos ho2
            go_wp2_with (at_builtin; refine wpList_append_own _ rfl _ _ 66 rfl w3.heap.size 28 i0 (.agg #[.int .i64 0, .int .i64 0, .int .i64 0]) 3 24 Try.underlying66 hi hz0 hz1 hz2 rfl (by decide) _ _ _ rfl (ho3.alloc _) ⟨wr.heap.size, 0, none⟩ 1 1 [.int .i64 c, .int .i64 k, .int .i64 (2 * (N : Int) - 1)] rfl rfl (cells_new _ _ _) (by simp [Value.oneCell']) (by simp only [maxLen]; omega) (by omega) (by simp; omega) ?_; intro v' w6 hown' hgrow _)
            have hS : OPlR w3.heap.size w6 v' (gang3 r ((layoutD r).take c) ++ gang2 r c (S.take (k + 1))) := by
              unfold OPlR
              rw [HL.out, ← List.append_assoc, place_snoc, len_snoc, HLN.out]
              unfold PlaceD.cells
              rw [HP.out]
              exact hown'
            have hB6 := below_grown hB4 ho3 hgrow hbs
            clear hown' hgrow ho3 kw
            go_wp2
            go_roundw
            case rel => exact ⟨k + 1, by omega, by go_num, hS, hB6⟩
            case measure => (simp [intOf]) <;> omega
          obtain ⟨z, hz⟩ : ∃ z, st[i']? = some z := ⟨_, List.getElem?_eq_getElem (by rw [HQ.out]; omega)⟩
          have hzr := HRN.out z (List.mem_of_getElem? hz)
          obtain ⟨jj, rfl⟩ : ∃ jj : Nat, z = jj := ⟨z.toNat, by omega⟩
          obtain ⟨x, hx⟩ : ∃ x, r.ribs[jj]? = some x := ⟨_, List.getElem?_eq_getElem (by omega)⟩
          have hra : ribAt r (jj : Int) = x := by unfold ribAt; rw [Int.toNat_natCast, getD_of hx]
          have hrb := rib_at Hok.out hzr
          rw [hra] at hrb
          have hcr := col_right hrb
          have hy := idsR_yes (r := r) hz
          have hno := idsR_no (r := r) hz
          rw [hra] at hy hno
          rw [← hN.out] at hy hno
          have C := fun X => column_any x true X ⟨hrb.col0, by have := hrb.col2; have := hrb.width0; omega⟩
          obtain ⟨col, hcol⟩ : ∃ col, columnD x true = col := ⟨_, rfl⟩
          rw [hcol] at hcr C
          obtain ⟨g6, o6, eg, -, hcz⟩ := HIN.out i' _ hz
          simp only [Option.some.injEq, Addr.mk.injEq, and_true] at eg
          obtain ⟨rfl, rfl⟩ := eg
          have n0 := hcz wr hB4
          obtain ⟨g7, o7, eg, -, m0, m1, m2, m3, m4⟩ := HR.out wr hB4 jj x hx
          simp only [Option.some.injEq, Addr.mk.injEq, and_true] at eg
          obtain ⟨rfl, rfl⟩ := eg
          obtain ⟨o0, o1, o2, o3'⟩ := HBX.out wr hB4
          have hji2 : (jj : Int) < (r.ribs.length : Int) := by omega
          have hii : (i' : Int) < (q : Int) + 1 := by omega
          obtain ⟨xw, xc, xd, xt, xl⟩ := x
          simp only [RibD.val, halfI, if_true] at C
          dsimp only at m0 m1 m2 m3 m4 hcr hy hno
          have HC := Lib.hid C
          have HCR := Lib.hid hcr
          have HY := Lib.hid hy
          have HNO := Lib.hid hno
          clear hz hzr hx hra hrb hcr hy hno C hcol hcz hN
          go_upto_region 23 with fail
          go_still_tail 8, (by kernel_rfl)
          change wpList _ _ _ _ _ wr.drew
          go_wp2_with fail
          refine (HC.out _).mono ?_
          rintro e w4 ⟨rfl, hb4⟩
          have hB5 := (hB3.drew).trans (hb4.mono hB3.drew.size)
          clear o0 o1 o2 o3' n0 m0 m1 m2 m3 m4 hb4
          by_cases hcc : 0 ≤ col
          case neg =>
            have HNX : Hid (N = (idsR r (st.take (i' + 1))).length) := (HNO.out (fun h => hcc (by rw [HCR.out]; exact h))).symm
            go_wp2
            go_roundw
            case rel => exact ⟨i' + 1, N, by omega, by go_num, HNX, rfl, hB5⟩
            case measure => (simp [intOf]) <;> omega
          have HNX : Hid (N + 1 = (idsR r (st.take (i' + 1))).length) := (HY.out (by rw [← HCR.out]; exact hcc)).symm
          have kw : IntKind.i64.wrap (2 * (N : Int) + 2) = 2 * (N : Int) + 2 := IntWalk.i64_in _ ⟨by omega, by omega⟩
          go_wp2
          go_roundw
          case rel => exact ⟨i' + 1, N + 1, by omega, by go_num, HNX, congrArg (Value.int IntKind.i64) (by omega), hB5⟩
          case measure => (simp [intOf]) <;> omega
end Go.Proofs.Ytdbfhdncjblleaa
