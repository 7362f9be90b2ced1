/-
  The reference's section: the spots of a stack in a row.
-/
import Derived.Test.YtdbfhdncjblleaaRa
namespace Go.Proofs.Ytdbfhdncjblleaa
open Go.RowKit

theorem infoSpotR : (Try.prog.info? 30).map (fun i => (i.zero, i.size, i.bytes)) = some (some (.agg #[.int .i64 0, .int .i64 0, .int .i64 0, .int .i64 0]), 4, 32) := by kernel_rfl
def OSpotsR (base : Nat) (w : World) (v : Value) (l : List SpotD) : Prop := w.ownsRow base 30 4 v l.length (cellsOf l)
def secSpots (row : Int) (b : RibD) (half : Bool) : List SpotD := if 0 ≤ columnD b half then [⟨b.web, sideI b half, row, columnD b half⟩, ⟨b.web, sideI b (!half), row, columnD b half⟩] else []
theorem sec_right {r : RunD} {b : RibD} (ho : RibOk r b) (row : Int) : secSpots row b true = if b.left then [] else halfSpots row (rightHalfD b) := by
  obtain ⟨bw, bc, bd, bt, bl⟩ := b
  obtain ⟨h1, h2, h3, h4, h5, h6, h7, h8⟩ := ho
  simp only at h1 h2 h3 h4 h5 h6 h7 h8
  have h9 : 0 ≤ bc + 1 := by omega
  rcases (show bd = 1 ∨ bd = 2 by omega) with rfl | rfl
  · cases bl <;> cases bt <;> simp [secSpots, columnD, sideI, halfI, rightHalfD, halfSpots, h6, h9] <;> omega
  · obtain rfl := h5 rfl
    cases bt <;> simp [secSpots, columnD, sideI, halfI, rightHalfD, halfSpots, h6, h9] <;> omega
theorem sec_left {r : RunD} {b : RibD} (ho : RibOk r b) (row : Int) : secSpots row b false = if hasLeft b then halfSpots row (leftHalfD b) else [] := by
  obtain ⟨bw, bc, bd, bt, bl⟩ := b
  obtain ⟨h1, h2, h3, h4, h5, h6, h7, h8⟩ := ho
  simp only at h1 h2 h3 h4 h5 h6 h7 h8
  have h9 : 0 ≤ bc + 1 := by omega
  rcases (show bd = 1 ∨ bd = 2 by omega) with rfl | rfl
  · cases bl <;> cases bt <;> simp [secSpots, columnD, sideI, halfI, leftHalfD, halfSpots, hasLeft, h6, h9] <;> omega
  · obtain rfl := h5 rfl
    cases bt <;> simp [secSpots, columnD, sideI, halfI, leftHalfD, halfSpots, hasLeft, h6, h9] <;> omega
def secR (r : RunD) (st : List Int) (row : Int) : List SpotD := st.flatMap fun i => secSpots row (ribAt r i) true
def secL (r : RunD) (st : List Int) (row : Int) : List SpotD := st.flatMap fun i => secSpots row (ribAt r i) false
theorem filt_flat {α β γ δ : Type} (f : α → β) (p : β → Bool) (g : β → γ) (h : γ → List δ) (l : List α) : (((l.map f).filter p).map g).flatMap h = l.flatMap fun i => if p (f i) then h (g (f i)) else [] := by
  induction l with
  | nil => rfl
  | cons x l ih =>
    rw [List.map_cons, List.filter_cons, List.flatMap_cons, ← ih]
    split <;> simp
theorem flat_congr {α β : Type} {f g : α → List β} : ∀ {l : List α}, (∀ x ∈ l, f x = g x) → l.flatMap f = l.flatMap g
  | [], _ => rfl
  | x :: l, h => by rw [List.flatMap_cons, List.flatMap_cons, h x (by simp), flat_congr fun y hy => h y (by simp [hy])]
theorem sec_spots {r : RunD} (h : checkE r = 0) {st : List Int} (hst : st ∈ r.stacks) (row : Int) : secR r st row ++ secL r st.reverse row = spotsD r st row := by
  have hin := stacks_range h st hst
  unfold spotsD halvesD
  rw [List.flatMap_append]
  congr 1
  · unfold rightsD secR
    rw [filt_flat]
    refine flat_congr fun i hi => ?_
    rw [sec_right (rib_at h (hin i hi))]
    cases (ribAt r i).left <;> rfl
  · unfold leftsD secL
    rw [filt_flat]
    exact flat_congr fun i hi => sec_left (rib_at h (hin i (List.mem_reverse.1 hi))) row
theorem secR_next {r : RunD} {st : List Int} {k : Nat} {i : Int} (h : st[k]? = some i) (row : Int) : secR r (st.take (k + 1)) row = secR r (st.take k) row ++ secSpots row (ribAt r i) true := by
  unfold secR
  rw [List.take_add_one, h, List.flatMap_append]
  simp
theorem secL_next {r : RunD} {st : List Int} {k : Nat} {i : Int} (h : st[k]? = some i) (row : Int) : secL r (st.drop k).reverse row = secL r (st.drop (k + 1)).reverse row ++ secSpots row (ribAt r i) false := by
  obtain ⟨hk, rfl⟩ := List.getElem?_eq_some_iff.1 h
  unfold secL
  rw [List.drop_eq_getElem_cons hk, List.reverse_cons, List.flatMap_append]
  simp
theorem secSpots_len (row : Int) (b : RibD) (half : Bool) : (secSpots row b half).length ≤ 2 := by unfold secSpots; split <;> simp
theorem sec_len (r : RunD) (row : Int) (half : Bool) : ∀ (l : List Int), (l.flatMap fun i => secSpots row (ribAt r i) half).length ≤ 2 * l.length
  | [] => by simp
  | x :: l => by
    have h1 := sec_len r row half l
    have h2 := secSpots_len row (ribAt r x) half
    rw [List.flatMap_cons, List.length_append, List.length_cons]
    omega

/-- A ribbon in a block of its own. -/
def RibCut (w0 : World) (cs : Array Value) (s9 : Value) (wx : World) : Prop := s9 = .pointer (some ⟨w0.heap.size, 0, none⟩) ∧ Blk wx w0.heap.size 99 cs ∧ Below w0.heap.size w0 wx
theorem rib_cut {w0 : World} {cs : Array Value} : RibCut w0 cs (.pointer (some ⟨w0.heap.size, 0, none⟩)) (w0.alloc (.cells cs 99)).drew := ⟨rfl, Blk.new _ _ _, ((Below.refl _ _).alloc (Nat.le_refl _) _).drew⟩
/-- What an append of spots leaves. -/
def SecCut (W0 : World) (l : List SpotD) (s7 : Value) (wx : World) : Prop := OSpotsR W0.heap.size wx s7 l ∧ Below W0.heap.size W0 wx

theorem sec_done {W0 w2 w7 w8 : World} {l : List SpotD} {s1 s2 : SpotD} {n : Nat} {v v' : Value} {tmp : Obj} (hB : Below W0.heap.size W0 w2) (ho : w2.ownsRow W0.heap.size 30 4 v n (cellsOf l)) (hn : l.length = n) (h7 : Below w2.heap.size w2 w7) (hgrow : (w7.alloc tmp).grownBy w8 v.ownBlock)
    (hown : w8.ownsRow W0.heap.size 30 4 v' (n + 2) (cellsOf l ++ (s1.cells ++ s2.cells))) : SecCut W0 (l ++ [s1, s2]) v' w8 := by
  have h27 := hB.trans (h7.mono hB.size)
  refine ⟨?_, (h27.alloc h27.size _).grown hgrow (by have := h27.size; simp; omega) fun j hj => (ho.lt j hj).1⟩
  unfold OSpotsR
  rw [List.length_append, hn]
  have e : cellsOf (l ++ [s1, s2]) = cellsOf l ++ (s1.cells ++ s2.cells) := by simp [cellsOf]
  rw [e]
  exact hown
theorem sec_none {W0 w2 : World} {l : List SpotD} {n : Nat} {v : Value} (hB : Below W0.heap.size W0 w2) (ho : w2.ownsRow W0.heap.size 30 4 v n (cellsOf l)) (hn : l.length = n) : SecCut W0 l v w2 := ⟨by unfold OSpotsR; rw [hn]; exact ho, hB⟩

set_option maxRecDepth 100000 in
set_option maxHeartbeats 4000000 in
theorem section_any (v sv : Value) (r : RunD) (st : List Int) (row : Int) (w : World) (h : RRun w.heap.size w v r) (hok : checkE r = 0) (hst : st ∈ r.stacks) (hs : RInts w.heap.size w sv st) :
    Calls Try.prog 69 #[v, sv, .int .i64 row] w fun e w' => ∃ u, e = .returned u ∧ OSpotsR w.heap.size w' u (spotsD r st row) ∧ Below w.heap.size w w' := by
  obtain ⟨i0, hi, hz0, hz1, hz2⟩ := info_parts infoSpotR
  have Hok := Lib.hid hok
  have Hin := Lib.hid (stacks_range hok st hst)
  have HEQ := Lib.hid (sec_spots hok hst row)
  have hl32 : st.length ≤ 1000 := (small_ok hok).2.2.2.2 st hst
  obtain ⟨v1, v2, v3, rfl, hw, hr, hss⟩ := h
  obtain ⟨A2, c2, rfl, hA2, hA3⟩ := RRibs.open_ hr
  obtain ⟨As, cs, rfl, hAs, hsc⟩ := RInts.open_ hs
  have HA3 := Lib.hid hA3
  have HSC := Lib.hid hsc
  clear hw hr hss hA3 hsc hs hok hst
  have F0 : ∃ W0, w.alloc (.cells #[v1, .slice A2 r.ribs.length c2, v3, .bool r.coll] 26) = W0 ∧ Below w.heap.size w W0 ∧ Blk W0 w.heap.size 26 #[v1, .slice A2 r.ribs.length c2, v3, .bool r.coll] :=
    ⟨_, rfl, (Below.refl _ _).alloc (Nat.le_refl _) _, Blk.new _ _ _⟩
  obtain ⟨W0, e0, B0, V0⟩ := F0
  have E0 := Lib.hid e0
  have HV0 := Lib.hid V0
  have hbox : ∀ X, Below W0.heap.size W0 X → X.cell? ⟨w.heap.size, 1, none⟩ = some (.slice A2 r.ribs.length c2) := fun X hX => cellOf (V0.below hX V0.lt) 1 rfl
  have HV := Lib.hid hbox
  have hrib : ∀ X, Below W0.heap.size W0 X → ∀ k x, r.ribs[k]? = some x → ∃ g o, A2 = some ⟨g, o, none⟩ ∧ g < W0.heap.size ∧ X.cell? ⟨g, o + k * 5, none⟩ = some (.int .i64 x.web) ∧ X.cell? ⟨g, o + k * 5 + 1, none⟩ = some (.int .i64 x.col) ∧ X.cell? ⟨g, o + k * 5 + 2, none⟩ = some (.int .i64 x.width) ∧ X.cell? ⟨g, o + k * 5 + 3, none⟩ = some (.bool x.turned) ∧ X.cell? ⟨g, o + k * 5 + 4, none⟩ = some (.bool x.left) := fun X hX k x hx => by
    obtain ⟨g, o, rfl, hb, m0, m1, m2, m3, m4⟩ := HA3.out k x hx
    have hB := B0.trans (hX.mono B0.size)
    exact ⟨g, o, rfl, Nat.lt_of_lt_of_le hb B0.size, (hB.cell (p := ⟨g, o + k * 5, none⟩) hb).trans m0, (hB.cell (p := ⟨g, o + k * 5 + 1, none⟩) hb).trans m1, (hB.cell (p := ⟨g, o + k * 5 + 2, none⟩) hb).trans m2, (hB.cell (p := ⟨g, o + k * 5 + 3, none⟩) hb).trans m3, (hB.cell (p := ⟨g, o + k * 5 + 4, none⟩) hb).trans m4⟩
  have HR := Lib.hid hrib
  have hstc : ∀ X, Below W0.heap.size W0 X → ∀ k, k < st.length → ∃ g o z, As = some ⟨g, o, none⟩ ∧ g < W0.heap.size ∧ X.cell? ⟨g, o + k, none⟩ = some (.int .i64 z) ∧ st[k]? = some z := fun X hX k hk => by
    obtain ⟨g, o, z, rfl, hb, m0, hz⟩ := HSC.out k hk
    have hB := B0.trans (hX.mono B0.size)
    refine ⟨g, o, z, rfl, Nat.lt_of_lt_of_le hb B0.size, (hB.cell (p := ⟨g, o + k, none⟩) hb).trans m0, ?_⟩
    have := hz.out
    rw [List.getD_eq_getElem?_getD, List.getElem?_eq_getElem hk] at this
    rw [List.getElem?_eq_getElem hk]; exact congrArg some this
  have HS := Lib.hid hstc
  clear e0 V0 hbox hrib hstc
  go_enter Try.func69, Try.ntmps69
  go_upto_region 1 with fail
  rw [E0.out]
  go_wp2
  go_loopw [7, 8] (fun lv i wr => ∃ k : Nat, k ≤ st.length ∧ i = .int .i64 k ∧ OSpotsR W0.heap.size wr lv (secR r (st.take k) row) ∧ Below W0.heap.size W0 wr) (fun _ i _ => st.length - (intOf i).toNat)
  case atStart => exact ⟨0, Nat.zero_le _, rfl, World.ownsRow_nil _ _ _ _, Below.refl _ _⟩
  case round =>
    obtain ⟨k, hk, rfl, ho, hB⟩ := hrel
    by_cases hlt : k < st.length
    case pos =>
      obtain ⟨gs, os, z, rfl, hgs, n0, hz⟩ := HS.out wr hB k hlt
      have hzi := Hin.out z (List.mem_of_getElem? hz)
      obtain ⟨j, rfl⟩ : ∃ j : Nat, z = j := ⟨z.toNat, by omega⟩
      have hjl : j < r.ribs.length := by omega
      obtain ⟨x, hx⟩ : ∃ x, r.ribs[j]? = some x := ⟨_, List.getElem?_eq_getElem hjl⟩
      obtain ⟨g, o, rfl, hgr, m0, m1, m2, m3, m4⟩ := HR.out wr hB j x hx
      have hgs2 := Nat.lt_of_lt_of_le hgs hB.size
      have hgr2 := Nat.lt_of_lt_of_le hgr hB.size
      have hgw2 := Nat.lt_of_lt_of_le HV0.out.lt hB.size
      have hra : ribAt r (j : Int) = x := by unfold ribAt; rw [Int.toNat_natCast, getD_of hx]
      have hro := rib_at Hok.out (i := (j : Int)) ⟨by omega, by omega⟩
      rw [hra] at hro
      have hnx := secR_next (r := r) hz row
      rw [hra] at hnx
      have HNX := Lib.hid hnx
      have hlen : (secR r (st.take k) row).length ≤ 4000 := by
        have h1 := sec_len r row true (st.take k)
        have h2 := List.length_take_le k st
        unfold secR
        rw [List.length_take] at h1
        omega
      have v0 := HV.out wr hB
      have hki : (k : Int) < (st.length : Int) := by omega
      have hji : (j : Int) < (r.ribs.length : Int) := by omega
      have hc0 := hro.col0
      have hc2 := hro.col2
      have hd0 := hro.width0
      clear hz hzi hx hra hro hnx hjl
      obtain ⟨xw, xc, xd, xt, xl⟩ := x
      dsimp only at m0 m1 m2 m3 m4 hc0 hc2 hd0
      obtain ⟨wo, rfl⟩ : ∃ wo, wo = wr := ⟨wr, rfl⟩
      go_upto_region 5 with fail
      go_cut [9] (fun s9 wx => RibCut wo #[.int .i64 xw, .int .i64 xc, .int .i64 xd, .bool xt, .bool xl] s9 wx)
      case first =>
        go_region
        all_goals (go_wp2_with fail; go_meet; exact rib_cut)
      case rest =>
      obtain ⟨rfl, R1, hb1⟩ := hcut
      obtain ⟨w1, rfl⟩ : ∃ w1, w1 = wc := ⟨wc, rfl⟩
      have hB1 := hB.trans (hb1.mono hB.size)
      have ho1 := ownsRow_below ho hb1
      obtain ⟨n, hn⟩ : ∃ n, (secR r (st.take k) row).length = n := ⟨_, rfl⟩
      rw [hn] at ho1
      obtain ⟨Aq, cq, rfl⟩ := ownsRow_form ho1
      have hn2 : n ≤ 4000 := by rw [← hn]; exact hlen
      have C := column_any ⟨xw, xc, xd, xt, xl⟩ true w1 ⟨hc0, by show xc ≤ 1000; omega⟩
      obtain ⟨col, hcol⟩ : ∃ col, columnD ⟨xw, xc, xd, xt, xl⟩ true = col := ⟨_, rfl⟩
      rw [hcol] at C
      simp only [RibD.val, halfI, if_true, if_false, Bool.false_eq_true] at C
      have C := Lib.hid C
      have q0 := cellOf R1 0 (x := .int .i64 xw) rfl
      have q1 := cellOf R1 1 (x := .int .i64 xc) rfl
      have q2 := cellOf R1 2 (x := .int .i64 xd) rfl
      have q3 := cellOf R1 3 (x := .bool xt) rfl
      have q4 := cellOf R1 4 (x := .bool xl) rfl
      have HN := Lib.hid hn
      clear m0 m1 m2 m3 m4 n0 v0 ho hn hlen hgs hgr hgs2 hgr2 hgw2
      go_wp2_with fail
      refine C.out.mono ?_
      rintro e w2 ⟨rfl, hb2⟩
      have hB2 := hB1.trans (hb2.mono hB1.size)
      have ho2 := ownsRow_below ho1 hb2
      have R2 := R1.below hb2 R1.lt
      clear C q0 q1 q2 q3 q4 ho1 R1 hB hB1 hb1 hb2
      by_cases hcc : 0 ≤ col
      case neg =>
        have hsec : secSpots row ⟨xw, xc, xd, xt, xl⟩ true = [] := by unfold secSpots; rw [hcol, if_neg hcc]
        have HL := Lib.hid (sec_none hB2 ho2 HN.out)
        have HNIL : Hid (secR r (st.take (k + 1)) row = secR r (st.take k) row) := by show secR r (st.take (k + 1)) row = secR r (st.take k) row; rw [HNX.out, hsec, List.append_nil]
        clear hsec hcol ho2 hB2 R2
        go_wp2
        go_roundw
        case rel => exact ⟨k + 1, by omega, by go_num, by rw [HNIL.out]; exact HL.out.1, HL.out.2⟩
        case measure => (simp [intOf]) <;> omega
      have hsec : secSpots row ⟨xw, xc, xd, xt, xl⟩ true = [⟨xw, sideI ⟨xw, xc, xd, xt, xl⟩ true, row, col⟩, ⟨xw, sideI ⟨xw, xc, xd, xt, xl⟩ false, row, col⟩] := by unfold secSpots; (rw [hcol, if_pos hcc]) <;> rfl
      have HSEC : Hid (secR r (st.take (k + 1)) row = secR r (st.take k) row ++ [⟨xw, sideI ⟨xw, xc, xd, xt, xl⟩ true, row, col⟩, ⟨xw, sideI ⟨xw, xc, xd, xt, xl⟩ false, row, col⟩]) := by show secR r (st.take (k + 1)) row = _; rw [HNX.out, hsec]
      obtain ⟨B, hBe⟩ : ∃ B, wo.heap.size = B := ⟨_, rfl⟩
      rw [hBe] at R2
      have hfacts : ∀ X, Below w2.heap.size w2 X → X.cell? ⟨B, 0, none⟩ = some (.int .i64 xw) ∧ X.cell? ⟨B, 1, none⟩ = some (.int .i64 xc) ∧ X.cell? ⟨B, 2, none⟩ = some (.int .i64 xd) ∧ X.cell? ⟨B, 3, none⟩ = some (.bool xt) ∧ X.cell? ⟨B, 4, none⟩ = some (.bool xl) := fun X hX => by
        have R := R2.below hX R2.lt
        exact ⟨cellOf R 0 rfl, cellOf R 1 rfl, cellOf R 2 rfl, cellOf R 3 rfl, cellOf R 4 rfl⟩
      have hcall : ∀ (f : Bool) X, Below w2.heap.size w2 X → Calls Try.prog 81 #[.agg #[.int .i64 xw, .int .i64 xc, .int .i64 xd, .bool xt, .bool xl], .int .i64 (halfI f)] X fun e w' => e = .returned (.int .i64 (sideI ⟨xw, xc, xd, xt, xl⟩ f)) ∧ Below w2.heap.size w2 w' := fun f X hX =>
        (side_any ⟨xw, xc, xd, xt, xl⟩ f X).mono fun e w' he => ⟨he.1, hX.trans (he.2.mono hX.size)⟩
      have hc1 := hcall true
      have hc0' := hcall false
      simp only [halfI, if_true, if_false, Bool.false_eq_true] at hc1 hc0'
      have hgrw : ∀ X X' tmp, Below w2.heap.size w2 X → (X.alloc tmp).grownBy X' (Value.slice Aq n cq).ownBlock → X'.cell? ⟨B, 0, none⟩ = some (.int .i64 xw) ∧ X'.cell? ⟨B, 1, none⟩ = some (.int .i64 xc) ∧ X'.cell? ⟨B, 2, none⟩ = some (.int .i64 xd) ∧ X'.cell? ⟨B, 3, none⟩ = some (.bool xt) ∧ X'.cell? ⟨B, 4, none⟩ = some (.bool xl) := fun X X' tmp hX hg => by
        have R := (R2.below hX R2.lt).grew (Grew.of_append (ownsRow_below ho2 hX) hg) (by decide)
        exact ⟨cellOf R 0 rfl, cellOf R 1 rfl, cellOf R 2 rfl, cellOf R 3 rfl, cellOf R 4 rfl⟩
      have HG := Lib.hid hgrw
      have HF := Lib.hid hfacts
      have HC1 := Lib.hid hc1
      have HC0 := Lib.hid hc0'
      have HO2 := Lib.hid ho2
      have HB2 := Lib.hid hB2
      have ho := ho2
      have hbs := hB2.size
      obtain ⟨q0, q1, q2, q3, q4⟩ := hfacts w2 (Below.refl _ _)
      clear hfacts hgrw hcall hc1 hc0' hsec hcol R2 ho2 hB2
      go_upto_region 8 with fail
      go_region_held3 (fun X => X.cell? ⟨B, 0, none⟩ = some (.int .i64 xw) ∧ X.cell? ⟨B, 1, none⟩ = some (.int .i64 xc) ∧ X.cell? ⟨B, 2, none⟩ = some (.int .i64 xd) ∧ X.cell? ⟨B, 3, none⟩ = some (.bool xt) ∧ X.cell? ⟨B, 4, none⟩ = some (.bool xl))
        (first | exact hR8 | exact HF.out _ (by assumption) | exact HF.out _ (Below.refl _ _) | exact HF.out _ (Below.refl _ _).drew | go_keep)
        (first | (refine step_append_lies _ (by rfl) _ _ _ (by rfl) W0.heap.size 30 i0 (.agg #[.int .i64 0, .int .i64 0, .int .i64 0, .int .i64 0]) 4 32 Try.underlying122 hi hz0 hz1 hz2 rfl (by decide) (.slice Aq n cq) n _ (by rfl) (by first | exact (ownsRow_below ho (by assumption)).alloc _ | exact ((ownsRow_below ho (by assumption)).alloc _).drew) ⟨w7.heap.size, 0, none⟩ 2 2 [.int .i64 xw, .int .i64 (sideI ⟨xw, xc, xd, xt, xl⟩ true), .int .i64 row, .int .i64 col, .int .i64 xw, .int .i64 (sideI ⟨xw, xc, xd, xt, xl⟩ false), .int .i64 row, .int .i64 col] (by rfl) (by rfl) (World.news_of_block (cs := #[.int .i64 xw, .int .i64 (sideI ⟨xw, xc, xd, xt, xl⟩ true), .int .i64 row, .int .i64 col, .int .i64 xw, .int .i64 (sideI ⟨xw, xc, xd, xt, xl⟩ false), .int .i64 row, .int .i64 col]) (t := 30) (fr := (0, 0)) (heap_alloc_new w7 _)) (by simp [Value.oneCell']) (by omega) (by simp only [maxLen]; omega) (by omega) (by have := h7.size; simp; omega) (w7.heap.size + 1) (by simp) ?_; intro g9 c9 w8 hown' hgrow hat hlt9; have hR8 := HG.out w7 w8 _ h7 hgrow) | (go_at_call 81; refine (HC1.out _ ?_).mono ?_; (first | assumption | exact Below.refl _ _ | exact (Below.refl _ _).drew); rintro e w7 ⟨rfl, h7⟩) | (go_at_call 81; refine (HC0.out _ ?_).mono ?_; (first | assumption | exact Below.refl _ _ | exact (Below.refl _ _).drew); rintro e w7 ⟨rfl, h7⟩))
      all_goals
        have hS := sec_done (s1 := ⟨xw, sideI ⟨xw, xc, xd, xt, xl⟩ true, row, col⟩) (s2 := ⟨xw, sideI ⟨xw, xc, xd, xt, xl⟩ false, row, col⟩) HB2.out HO2.out HN.out h7 hgrow hown'
        rw [← HSEC.out] at hS
        obtain ⟨ho3, hB3⟩ := hS
        clear q0 q1 q2 q3 q4 ho hown' hgrow h7
        go_wp2
        go_roundw
        case rel => exact ⟨k + 1, by omega, by go_num, ho3, hB3⟩
        case measure => (simp [intOf]) <;> omega
    obtain rfl : k = st.length := by omega
    rw [List.take_length] at ho
    have hlr := sec_len r row true st
    have hkw : IntKind.i64.wrap ((st.length : Int) - 1) = (st.length : Int) - 1 := IntWalk.i64_in _ ⟨by omega, by omega⟩
    have ho2 : OSpotsR W0.heap.size wr u7 (secR r st row ++ secL r (st.drop st.length).reverse row) := by rw [List.drop_length]; simpa [secL] using ho
    clear ho
    go_wp2
    go_loopw [7, 11] (fun lv i wr => ∃ (k : Nat) (I : Int), k ≤ st.length ∧ I = (k : Int) - 1 ∧ i = .int .i64 I ∧ OSpotsR W0.heap.size wr lv (secR r st row ++ secL r (st.drop k).reverse row) ∧ Below W0.heap.size W0 wr) (fun _ i _ => (intOf i + 1).toNat)
    case atStart => exact ⟨st.length, _, Nat.le_refl _, rfl, rfl, ho2, hB⟩
    case round =>
      clear ho2 hB hkw hlr
      obtain ⟨k, I, hk, hI, rfl, ho, hB⟩ := hrel
      by_cases hk0 : k = 0
      case pos =>
        obtain rfl : I = -1 := by omega
        subst hk0
        clear hI
        rw [List.drop_zero, HEQ.out] at ho
        have BF := B0.trans (hB.mono B0.size)
        have ho3 := ownsRow_base ho B0.size
        go_wp2
        go_ret
        exact ⟨_, rfl, ho3, BF⟩
      obtain ⟨m, rfl⟩ : ∃ m, k = m + 1 := ⟨k - 1, by omega⟩
      obtain rfl : I = (m : Int) := by omega
      clear hI hk0
      obtain ⟨gs, os, z, rfl, hgs, n0, hz⟩ := HS.out wr hB m (by omega)
      have hzi := Hin.out z (List.mem_of_getElem? hz)
      obtain ⟨j, rfl⟩ : ∃ j : Nat, z = j := ⟨z.toNat, by omega⟩
      have hjl : j < r.ribs.length := by omega
      obtain ⟨x, hx⟩ : ∃ x, r.ribs[j]? = some x := ⟨_, List.getElem?_eq_getElem hjl⟩
      obtain ⟨g, o, rfl, hgr, m0, m1, m2, m3, m4⟩ := HR.out wr hB j x hx
      have hgs2 := Nat.lt_of_lt_of_le hgs hB.size
      have hgr2 := Nat.lt_of_lt_of_le hgr hB.size
      have hgw2 := Nat.lt_of_lt_of_le HV0.out.lt hB.size
      have hra : ribAt r (j : Int) = x := by unfold ribAt; rw [Int.toNat_natCast, getD_of hx]
      have hro := rib_at Hok.out (i := (j : Int)) ⟨by omega, by omega⟩
      rw [hra] at hro
      have hnx : (secR r st row ++ secL r (st.drop m).reverse row) = (secR r st row ++ secL r (st.drop (m + 1)).reverse row) ++ secSpots row x false := by rw [secL_next (r := r) hz row, hra, List.append_assoc]
      have HNX := Lib.hid hnx
      have hlen : ((secR r st row ++ secL r (st.drop (m + 1)).reverse row)).length ≤ 4000 := by
        have h1 := sec_len r row true st
        have h2 := sec_len r row false (st.drop (m + 1)).reverse
        rw [List.length_reverse, List.length_drop] at h2
        rw [List.length_append]
        unfold secR secL
        omega
      have v0 := HV.out wr hB
      have hki : (m : Int) < (st.length : Int) := by omega
      have hji : (j : Int) < (r.ribs.length : Int) := by omega
      have hc0 := hro.col0
      have hc2 := hro.col2
      have hd0 := hro.width0
      have kwm : IntKind.i64.wrap ((m : Int) - 1) = (m : Int) - 1 := IntWalk.i64_in _ ⟨by omega, by omega⟩
      clear hz hzi hx hra hro hnx hjl
      obtain ⟨xw, xc, xd, xt, xl⟩ := x
      dsimp only at m0 m1 m2 m3 m4 hc0 hc2 hd0
      obtain ⟨wo, rfl⟩ : ∃ wo, wo = wr := ⟨wr, rfl⟩
      go_upto_region 12 with fail
      go_cut [12] (fun s9 wx => RibCut wo #[.int .i64 xw, .int .i64 xc, .int .i64 xd, .bool xt, .bool xl] s9 wx)
      case first =>
        go_region
        all_goals (go_wp2_with fail; go_meet; exact rib_cut)
      case rest =>
      obtain ⟨rfl, R1, hb1⟩ := hcut
      obtain ⟨w1, rfl⟩ : ∃ w1, w1 = wc := ⟨wc, rfl⟩
      have hB1 := hB.trans (hb1.mono hB.size)
      have ho1 := ownsRow_below ho hb1
      obtain ⟨n, hn⟩ : ∃ n, ((secR r st row ++ secL r (st.drop (m + 1)).reverse row)).length = n := ⟨_, rfl⟩
      rw [hn] at ho1
      obtain ⟨Aq, cq, rfl⟩ := ownsRow_form ho1
      have hn2 : n ≤ 4000 := by rw [← hn]; exact hlen
      have C := column_any ⟨xw, xc, xd, xt, xl⟩ false w1 ⟨hc0, by show xc ≤ 1000; omega⟩
      obtain ⟨col, hcol⟩ : ∃ col, columnD ⟨xw, xc, xd, xt, xl⟩ false = col := ⟨_, rfl⟩
      rw [hcol] at C
      simp only [RibD.val, halfI, if_true, if_false, Bool.false_eq_true] at C
      have C := Lib.hid C
      have q0 := cellOf R1 0 (x := .int .i64 xw) rfl
      have q1 := cellOf R1 1 (x := .int .i64 xc) rfl
      have q2 := cellOf R1 2 (x := .int .i64 xd) rfl
      have q3 := cellOf R1 3 (x := .bool xt) rfl
      have q4 := cellOf R1 4 (x := .bool xl) rfl
      have HN := Lib.hid hn
      clear m0 m1 m2 m3 m4 n0 v0 ho hn hlen hgs hgr hgs2 hgr2 hgw2
      go_wp2_with fail
      refine C.out.mono ?_
      rintro e w2 ⟨rfl, hb2⟩
      have hB2 := hB1.trans (hb2.mono hB1.size)
      have ho2 := ownsRow_below ho1 hb2
      have R2 := R1.below hb2 R1.lt
      clear C q0 q1 q2 q3 q4 ho1 R1 hB hB1 hb1 hb2
      by_cases hcc : 0 ≤ col
      case neg =>
        have hsec : secSpots row ⟨xw, xc, xd, xt, xl⟩ false = [] := by unfold secSpots; rw [hcol, if_neg hcc]
        have HL := Lib.hid (sec_none hB2 ho2 HN.out)
        have HNIL : Hid ((secR r st row ++ secL r (st.drop m).reverse row) = (secR r st row ++ secL r (st.drop (m + 1)).reverse row)) := by show (secR r st row ++ secL r (st.drop m).reverse row) = (secR r st row ++ secL r (st.drop (m + 1)).reverse row); rw [HNX.out, hsec, List.append_nil]
        clear hsec hcol ho2 hB2 R2
        go_wp2
        go_roundw
        case rel => exact ⟨m, (m : Int) - 1, by omega, rfl, by go_num, by rw [HNIL.out]; exact HL.out.1, HL.out.2⟩
        case measure => (simp [intOf]) <;> omega
      have hsec : secSpots row ⟨xw, xc, xd, xt, xl⟩ false = [⟨xw, sideI ⟨xw, xc, xd, xt, xl⟩ false, row, col⟩, ⟨xw, sideI ⟨xw, xc, xd, xt, xl⟩ true, row, col⟩] := by unfold secSpots; (rw [hcol, if_pos hcc]) <;> rfl
      have HSEC : Hid ((secR r st row ++ secL r (st.drop m).reverse row) = (secR r st row ++ secL r (st.drop (m + 1)).reverse row) ++ [⟨xw, sideI ⟨xw, xc, xd, xt, xl⟩ false, row, col⟩, ⟨xw, sideI ⟨xw, xc, xd, xt, xl⟩ true, row, col⟩]) := by show (secR r st row ++ secL r (st.drop m).reverse row) = _; rw [HNX.out, hsec]
      obtain ⟨B, hBe⟩ : ∃ B, wo.heap.size = B := ⟨_, rfl⟩
      rw [hBe] at R2
      have hfacts : ∀ X, Below w2.heap.size w2 X → X.cell? ⟨B, 0, none⟩ = some (.int .i64 xw) ∧ X.cell? ⟨B, 1, none⟩ = some (.int .i64 xc) ∧ X.cell? ⟨B, 2, none⟩ = some (.int .i64 xd) ∧ X.cell? ⟨B, 3, none⟩ = some (.bool xt) ∧ X.cell? ⟨B, 4, none⟩ = some (.bool xl) := fun X hX => by
        have R := R2.below hX R2.lt
        exact ⟨cellOf R 0 rfl, cellOf R 1 rfl, cellOf R 2 rfl, cellOf R 3 rfl, cellOf R 4 rfl⟩
      have hcall : ∀ (f : Bool) X, Below w2.heap.size w2 X → Calls Try.prog 81 #[.agg #[.int .i64 xw, .int .i64 xc, .int .i64 xd, .bool xt, .bool xl], .int .i64 (halfI f)] X fun e w' => e = .returned (.int .i64 (sideI ⟨xw, xc, xd, xt, xl⟩ f)) ∧ Below w2.heap.size w2 w' := fun f X hX =>
        (side_any ⟨xw, xc, xd, xt, xl⟩ f X).mono fun e w' he => ⟨he.1, hX.trans (he.2.mono hX.size)⟩
      have hc1 := hcall true
      have hc0' := hcall false
      simp only [halfI, if_true, if_false, Bool.false_eq_true] at hc1 hc0'
      have hgrw : ∀ X X' tmp, Below w2.heap.size w2 X → (X.alloc tmp).grownBy X' (Value.slice Aq n cq).ownBlock → X'.cell? ⟨B, 0, none⟩ = some (.int .i64 xw) ∧ X'.cell? ⟨B, 1, none⟩ = some (.int .i64 xc) ∧ X'.cell? ⟨B, 2, none⟩ = some (.int .i64 xd) ∧ X'.cell? ⟨B, 3, none⟩ = some (.bool xt) ∧ X'.cell? ⟨B, 4, none⟩ = some (.bool xl) := fun X X' tmp hX hg => by
        have R := (R2.below hX R2.lt).grew (Grew.of_append (ownsRow_below ho2 hX) hg) (by decide)
        exact ⟨cellOf R 0 rfl, cellOf R 1 rfl, cellOf R 2 rfl, cellOf R 3 rfl, cellOf R 4 rfl⟩
      have HG := Lib.hid hgrw
      have HF := Lib.hid hfacts
      have HC1 := Lib.hid hc1
      have HC0 := Lib.hid hc0'
      have HO2 := Lib.hid ho2
      have HB2 := Lib.hid hB2
      have ho := ho2
      have hbs := hB2.size
      obtain ⟨q0, q1, q2, q3, q4⟩ := hfacts w2 (Below.refl _ _)
      clear hfacts hgrw hcall hc1 hc0' hsec hcol R2 ho2 hB2
      go_upto_region 15 with fail
      go_region_held3 (fun X => X.cell? ⟨B, 0, none⟩ = some (.int .i64 xw) ∧ X.cell? ⟨B, 1, none⟩ = some (.int .i64 xc) ∧ X.cell? ⟨B, 2, none⟩ = some (.int .i64 xd) ∧ X.cell? ⟨B, 3, none⟩ = some (.bool xt) ∧ X.cell? ⟨B, 4, none⟩ = some (.bool xl))
        (first | exact hR8 | exact HF.out _ (by assumption) | exact HF.out _ (Below.refl _ _) | exact HF.out _ (Below.refl _ _).drew | go_keep)
        (first | (refine step_append_lies _ (by rfl) _ _ _ (by rfl) W0.heap.size 30 i0 (.agg #[.int .i64 0, .int .i64 0, .int .i64 0, .int .i64 0]) 4 32 Try.underlying122 hi hz0 hz1 hz2 rfl (by decide) (.slice Aq n cq) n _ (by rfl) (by first | exact (ownsRow_below ho (by assumption)).alloc _ | exact ((ownsRow_below ho (by assumption)).alloc _).drew) ⟨w7.heap.size, 0, none⟩ 2 2 [.int .i64 xw, .int .i64 (sideI ⟨xw, xc, xd, xt, xl⟩ false), .int .i64 row, .int .i64 col, .int .i64 xw, .int .i64 (sideI ⟨xw, xc, xd, xt, xl⟩ true), .int .i64 row, .int .i64 col] (by rfl) (by rfl) (World.news_of_block (cs := #[.int .i64 xw, .int .i64 (sideI ⟨xw, xc, xd, xt, xl⟩ false), .int .i64 row, .int .i64 col, .int .i64 xw, .int .i64 (sideI ⟨xw, xc, xd, xt, xl⟩ true), .int .i64 row, .int .i64 col]) (t := 30) (fr := (0, 0)) (heap_alloc_new w7 _)) (by simp [Value.oneCell']) (by omega) (by simp only [maxLen]; omega) (by omega) (by have := h7.size; simp; omega) (w7.heap.size + 1) (by simp) ?_; intro g9 c9 w8 hown' hgrow hat hlt9; have hR8 := HG.out w7 w8 _ h7 hgrow) | (go_at_call 81; refine (HC1.out _ ?_).mono ?_; (first | assumption | exact Below.refl _ _ | exact (Below.refl _ _).drew); rintro e w7 ⟨rfl, h7⟩) | (go_at_call 81; refine (HC0.out _ ?_).mono ?_; (first | assumption | exact Below.refl _ _ | exact (Below.refl _ _).drew); rintro e w7 ⟨rfl, h7⟩))
      all_goals
        have hS := sec_done (s1 := ⟨xw, sideI ⟨xw, xc, xd, xt, xl⟩ false, row, col⟩) (s2 := ⟨xw, sideI ⟨xw, xc, xd, xt, xl⟩ true, row, col⟩) HB2.out HO2.out HN.out h7 hgrow hown'
        rw [← HSEC.out] at hS
        obtain ⟨ho3, hB3⟩ := hS
        clear q0 q1 q2 q3 q4 ho hown' hgrow h7
        go_wp2
        go_roundw
        case rel => exact ⟨m, (m : Int) - 1, by omega, rfl, by go_num, ho3, hB3⟩
        case measure => (simp [intOf]) <;> omega
end Go.Proofs.Ytdbfhdncjblleaa
