/-
  THE CHECKS OF A RUN: its ribbons.
  THE CHECKS OF A RUN: its stacks; Collected.
  Check: the parts in their order.
  HALVES OF RIBBONS: what they are; rightHalf, leftHalf; what a right run gives.
-/
import Derived.Test.YtdbfhdncjblleaaKa
namespace Go.Proofs.Ytdbfhdncjblleaa
open Go.RowKit

def cov (l : List RibD) (a c : Nat) : Bool := l.any fun x => decide (x.web = a ∧ x.col ≤ c ∧ (c : Int) < x.col + x.width)
def freeB (l : List RibD) (x : RibD) : Bool := (List.range x.width.toNat).all fun j => !cov l x.web.toNat (x.col.toNat + j)
def disjB (r : RunD) : Bool := (List.range r.ribs.length).all fun k => fitsB r (r.ribs.getD k default) && freeB (r.ribs.take k) (r.ribs.getD k default)
def coverB (r : RunD) : Bool := (List.range r.webs.length).all fun i => (List.range (r.webs.getD i default).cols.toNat).all fun c => cov r.ribs i c
def ribsE (r : RunD) : Int := if disjB r && coverB r then 0 else 20

/-- Block s is the table of what is slit. -/
def Tab (s : Nat) (t : TypeId) (w : World) (f : Nat → Nat → Bool) : Prop := ∃ cs, w.heap[s]? = some (.cells cs t (0, 0)) ∧ cs.size = 32 ∧ ∀ a c, a < 8 → c < 4 → cs[a * 4 + c]? = some (.bool (f a c))
theorem Tab.lt {s : Nat} {t : TypeId} {w : World} {f : Nat → Nat → Bool} (h : Tab s t w f) : s < w.heap.size := by
  obtain ⟨cs, h, -, -⟩ := h
  exact (Array.getElem?_eq_some_iff.1 h).1
theorem Tab.below {s : Nat} {t : TypeId} {w w' : World} {f : Nat → Nat → Bool} (h : Tab s t w f) {B : Nat} (hb : Below B w w') (hs : s < B) : Tab s t w' f := by
  obtain ⟨cs, h, h1, h2⟩ := h
  exact ⟨cs, (hb.block s hs).trans h, h1, h2⟩
theorem Tab.cell {s : Nat} {t : TypeId} {w : World} {f : Nat → Nat → Bool} (h : Tab s t w f) {a c : Nat} (ha : a < 8) (hc : c < 4) : w.cell? ⟨s, a * 4 + c, none⟩ = some (.bool (f a c)) ∧ w.frozen? ⟨s, a * 4 + c, none⟩ = false := by
  obtain ⟨cs, h, h1, h2⟩ := h
  refine ⟨?_, by simp [World.frozen?, h]⟩
  rw [cell_of_row w s _ cs t (0, 0) h]
  exact h2 a c ha hc
theorem Tab.set {s : Nat} {t : TypeId} {w : World} {f : Nat → Nat → Bool} (h : Tab s t w f) {a c : Nat} (ha : a < 8) (hc : c < 4) : Tab s t (w.setCell ⟨s, a * 4 + c, none⟩ (.bool true)) fun a' c' => f a' c' || (decide (a' = a) && decide (c' = c)) := by
  obtain ⟨cs, h, h1, h2⟩ := h
  refine ⟨cs.setIfInBounds (a * 4 + c) (.bool true), by simp [World.setCell, Array.getElem?_modify, h], by simpa using h1, fun a' c' ha' hc' => ?_⟩
  rw [Array.getElem?_setIfInBounds]
  by_cases he : a * 4 + c = a' * 4 + c'
  · have e1 : a' = a := by omega
    have e2 : c' = c := by omega
    subst e1 e2
    rw [if_pos rfl, if_pos (by omega)]; simp
  · rw [if_neg he, h2 a' c' ha' hc']
    have : (decide (a' = a) && decide (c' = c)) = false := by simp; omega
    show _ = some (Value.bool (f a' c' || (decide (a' = a) && decide (c' = c))))
    rw [this, Bool.or_false]

theorem Tab.same {s : Nat} {t : TypeId} {w : World} {f g : Nat → Nat → Bool} (h : Tab s t w f) (hfg : ∀ a c, a < 8 → c < 4 → f a c = g a c) : Tab s t w g := by
  obtain ⟨cs, h, h1, h2⟩ := h
  exact ⟨cs, h, h1, fun a c ha hc => by rw [h2 a c ha hc, hfg a c ha hc]⟩
theorem Tab.far {s : Nat} {t : TypeId} {w : World} {f : Nat → Nat → Bool} (h : Tab s t w f) {p : Addr} (hp : s ≠ p.block) (u : Value) : Tab s t (w.setCell p u) f := by
  obtain ⟨cs, h, h1, h2⟩ := h
  exact ⟨cs, (Below.heap_setCell w p u s hp).trans h, h1, h2⟩
theorem Tab.alloc {s : Nat} {t : TypeId} {w : World} {f : Nat → Nat → Bool} (h : Tab s t w f) (o : Obj) : Tab s t (w.alloc o) f := by
  have hl := h.lt
  obtain ⟨cs, h, h1, h2⟩ := h
  exact ⟨cs, (Below.heap_alloc w o s hl).trans h, h1, h2⟩

def goodB (r : RunD) (k : Nat) : Bool := fitsB r (r.ribs.getD k default) && freeB (r.ribs.take k) (r.ribs.getD k default)
def coveredB (r : RunD) (i : Nat) : Bool := (List.range (r.webs.getD i default).cols.toNat).all fun c => cov r.ribs i c
theorem range_not {f : Nat → Bool} {n k : Nat} (hk : k < n) (hf : f k = false) : (List.range n).all f = false :=
  all_not (List.getElem?_range hk) hf
theorem range_next {f : Nat → Bool} {k : Nat} (h : Hid ((List.range k).all f = true)) (hf : f k = true) : Hid ((List.range (k + 1)).all f = true) := by
  show (List.range (k + 1)).all f = true
  rw [List.range_succ, List.all_append, h.out]
  simp [hf]
theorem ribs_bad {r : RunD} {k : Nat} (hk : k < r.ribs.length) (h : goodB r k = false) : ribsE r = 20 := by
  unfold ribsE disjB
  rw [range_not (f := fun k => fitsB r (r.ribs.getD k default) && freeB (r.ribs.take k) (r.ribs.getD k default)) hk h]; rfl
theorem ribs_open {r : RunD} {i : Nat} (hi : i < r.webs.length) (h : coveredB r i = false) : ribsE r = 20 := by
  unfold ribsE coverB
  rw [range_not (f := fun i => (List.range (r.webs.getD i default).cols.toNat).all fun c => cov r.ribs i c) hi h, Bool.and_false]; rfl
theorem ribs_ok {r : RunD} (h1 : Hid ((List.range r.ribs.length).all (goodB r) = true)) (h2 : Hid ((List.range r.webs.length).all (coveredB r) = true)) : ribsE r = 0 := by
  have e1 : disjB r = true := h1.out
  have e2 : coverB r = true := h2.out
  unfold ribsE
  rw [e1, e2]; rfl
theorem getD_of {α : Type} {l : List α} {k : Nat} {x d : α} (h : l[k]? = some x) : l.getD k d = x := by rw [List.getD_eq_getElem?_getD, h]; rfl
theorem cov_next {l : List RibD} {k : Nat} {x : RibD} (h : l[k]? = some x) (a c : Nat) : cov (l.take (k + 1)) a c = (cov (l.take k) a c || decide (x.web = a ∧ x.col ≤ c ∧ (c : Int) < x.col + x.width)) := by
  obtain ⟨hk, rfl⟩ := List.getElem?_eq_some_iff.1 h
  unfold cov
  rw [List.take_succ_eq_append_getElem hk, List.any_append]
  simp

theorem fits_elim {r : RunD} {x : RibD} (h : fitsB r x = true) (hc : ∀ y ∈ r.webs, 1 ≤ y.cols ∧ y.cols ≤ 4) : ∃ a p : Nat, x.web = a ∧ x.col = p ∧ a < r.webs.length ∧ 1 ≤ x.width ∧ x.width ≤ 2 ∧ (p : Int) + x.width ≤ 4 := by
  simp only [fitsB, Bool.and_eq_true, decide_eq_true_eq] at h
  obtain ⟨⟨⟨h1, h2, h3, h4⟩, -⟩, h5, h6⟩ := h
  have hm : x.web.toNat < r.webs.length := by omega
  have := hc _ (List.getElem_mem hm)
  rw [List.getD_eq_getElem?_getD, List.getElem?_eq_getElem hm] at h6
  simp only [Option.getD_some] at h6
  exact ⟨x.web.toNat, x.col.toNat, by omega, by omega, hm, h3, h4, by omega⟩
theorem free_no {l : List RibD} {a p m : Nat} {width : Int} {turned left : Bool} (h1 : p ≤ m) (h2 : (m : Int) < p + width) (h : cov l a m = true) : freeB l ⟨a, p, width, turned, left⟩ = false := by
  refine range_not (k := m - p) (by show m - p < width.toNat; omega) ?_
  show (!cov l (a : Int).toNat ((p : Int).toNat + (m - p))) = false
  rw [Int.toNat_natCast, Int.toNat_natCast, show p + (m - p) = m by omega, h]; rfl
theorem free_yes {l : List RibD} {a p : Nat} {width : Int} {turned left : Bool} (h : ∀ c, p ≤ c → (c : Int) < p + width → cov l a c = false) : freeB l ⟨a, p, width, turned, left⟩ = true := by
  refine List.all_eq_true.2 fun j hj => ?_
  have hj := List.mem_range.1 hj
  show (!cov l (a : Int).toNat ((p : Int).toNat + j)) = true
  rw [Int.toNat_natCast, Int.toNat_natCast, h (p + j) (by omega) (by simp only at hj; omega)]; rfl

set_option maxHeartbeats 2000000 in
theorem checkRibbons_any (v : Value) (r : RunD) (w : World) (h : RRun w.heap.size w v r) (hcols : ∀ y ∈ r.webs, 1 ≤ y.cols ∧ y.cols ≤ 4) (h8 : r.webs.length ≤ 8) :
    Calls Try.prog 65 #[v] w fun e w' => e = .returned (.int .i64 (ribsE r)) ∧ Below w.heap.size w w' := by
  have hrun := Lib.hid h
  obtain ⟨v1, v2, v3, rfl, hw, hr, hs⟩ := h
  obtain ⟨A, c, rfl, hA1, hA⟩ := hw.open_
  obtain ⟨A2, c2, rfl, hA2, hA3⟩ := hr.open_
  have HA := Lib.hid hA
  have HA3 := Lib.hid hA3
  have Hcols := Lib.hid hcols
  clear hw hr hs hA hA3 hcols
  go_enter Try.func65, Try.ntmps65
  go_wp2
  have b0 : Below w.heap.size w (w.alloc (.cells #[.slice A r.webs.length c, .slice A2 r.ribs.length c2, v3, .bool r.coll] 111)) := (Below.refl _ _).alloc (Nat.le_refl _) _
  have c0 := fun j x => box4 (w := w) (a := .slice A r.webs.length c) (b := .slice A2 r.ribs.length c2) (c := v3) (d := .bool r.coll) (t := 111) j x
  have z0 : (w.alloc (.cells #[.slice A r.webs.length c, .slice A2 r.ribs.length c2, v3, .bool r.coll] 111)).heap.size = w.heap.size + 1 := by simp
  generalize w.alloc (.cells #[.slice A r.webs.length c, .slice A2 r.ribs.length c2, v3, .bool r.coll] 111) = w1 at *
  have HT0 : ∃ w2 : World, w1.alloc (.cells (Array.replicate 32 (.bool false)) 151) = w2 ∧ Tab (w.heap.size + 1) 151 w2 (cov (r.ribs.take 0)) ∧ Below (w.heap.size + 1) w1 w2 := by
    refine ⟨_, rfl, ⟨Array.replicate 32 (.bool false), by rw [← z0]; exact heap_alloc_new w1 _, by simp, fun a c ha hc => ?_⟩, (Below.refl _ _).alloc (by omega) _⟩
    rw [Array.getElem?_replicate, if_pos (by omega)]
    simp [cov]
  obtain ⟨w2, e2, hT0, hB0⟩ := HT0
  simp only [Array.replicate_succ, Array.replicate_zero, List.push_toArray, List.nil_append, List.cons_append] at e2
  rw [e2]
  clear e2
  have C0 := Lib.hid c0
  clear c0
  go_loopw [14] (fun i wr => ∃ k : Nat, k ≤ r.ribs.length ∧ i = .int .i64 k ∧ Hid ((List.range k).all (goodB r) = true) ∧ Tab (w.heap.size + 1) 151 wr (cov (r.ribs.take k)) ∧ Below (w.heap.size + 1) w1 wr) (fun i _ => r.ribs.length - (intOf i).toNat)
  case atStart => exact ⟨0, Nat.zero_le _, rfl, rfl, hT0, hB0⟩
  case round =>
    obtain ⟨k, hk, rfl, ht, hT, hB⟩ := hrel
    have hBw : Below w.heap.size w wr := b0.trans (hB.mono (by omega))
    have zr : w.heap.size + 1 < wr.heap.size := hT.lt
    by_cases hlt : k < r.ribs.length
    · obtain ⟨x, hx⟩ : ∃ x, r.ribs[k]? = some x := ⟨_, List.getElem?_eq_getElem hlt⟩
      obtain ⟨g, o, rfl, hb, hc1, hc2, hc3, hc4, hc5⟩ := HA3.out k x hx
      rw [← hBw.cell (p := ⟨g, o + k * 5, none⟩) hb] at hc1
      rw [← hBw.cell (p := ⟨g, o + k * 5 + 1, none⟩) hb] at hc2
      rw [← hBw.cell (p := ⟨g, o + k * 5 + 2, none⟩) hb] at hc3
      rw [← hBw.cell (p := ⟨g, o + k * 5 + 3, none⟩) hb] at hc4
      rw [← hBw.cell (p := ⟨g, o + k * 5 + 4, none⟩) hb] at hc5
      have d0 := (hB.cell (p := ⟨w.heap.size, 0, none⟩) (by simp)).trans (C0.out 0 _ rfl)
      have d1 := (hB.cell (p := ⟨w.heap.size, 1, none⟩) (by simp)).trans (C0.out 1 _ rfl)
      have d2 := (hB.cell (p := ⟨w.heap.size, 2, none⟩) (by simp)).trans (C0.out 2 _ rfl)
      have d3 := (hB.cell (p := ⟨w.heap.size, 3, none⟩) (by simp)).trans (C0.out 3 _ rfl)
      have zr2 : w.heap.size < wr.heap.size := by omega
      have Hx := Lib.hid hx
      have hrun2 : ∀ ob : Obj, RRun (wr.alloc ob).heap.size (wr.alloc ob) (.agg #[.slice A r.webs.length c, .slice (some ⟨g, o, none⟩) r.ribs.length c2, v3, .bool r.coll]) r := fun ob =>
        ((hrun.out.below hBw).below (Below.refl _ _ |>.alloc (by omega) ob)).more (by have := hBw.size; simp; omega)
      have hTk := hT.alloc
      have hBk := fun ob => hB.alloc (B := w.heap.size + 1) (by omega) ob
      go_wp2_with fail
      refine (fits_any _ r x _ (hrun2 _) Hcols.out).mono ?_
      rintro e w3 ⟨rfl, hb3⟩
      have hT3 := (hTk _).below hb3 (hTk _).lt
      have hB3 := (hBk _).trans (hb3.mono (by simp; omega))
      have x1 : w3.cell? ⟨wr.heap.size, 0, none⟩ = some (.int .i64 x.web) := (hb3.cell (p := ⟨wr.heap.size, 0, none⟩) (by simp)).trans (by rw [World.cell?_alloc_at _ _ _ _ rfl]; rfl)
      have x2 : w3.cell? ⟨wr.heap.size, 1, none⟩ = some (.int .i64 x.col) := (hb3.cell (p := ⟨wr.heap.size, 1, none⟩) (by simp)).trans (by rw [World.cell?_alloc_at _ _ _ _ rfl]; rfl)
      have x3 : w3.cell? ⟨wr.heap.size, 2, none⟩ = some (.int .i64 x.width) := (hb3.cell (p := ⟨wr.heap.size, 2, none⟩) (by simp)).trans (by rw [World.cell?_alloc_at _ _ _ _ rfl]; rfl)
      have zb : wr.heap.size < w3.heap.size := by have := hb3.size; simp at this; omega
      clear hTk hBk hrun2 hb3 hc1 hc2 hc3 hc4 hc5 d0 d1 d2 d3 hT hB hBw
      obtain ⟨bx, hbx⟩ : ∃ bx, bx = wr.heap.size := ⟨_, rfl⟩
      rw [← hbx] at x1 x2 x3 zb zr ⊢
      clear hbx zr2
      have hBw : Below w.heap.size w w3 := b0.trans (hB3.mono (by omega))
      cases hfit : fitsB r x
      · have Hn := Lib.hid (ribs_bad hlt (by rw [goodB, getD_of Hx.out, hfit]; rfl))
        go_wp2
        go_ret
        exact ⟨ri Hn.out, hBw⟩
      · obtain ⟨web, col, width, turned, left⟩ := x
        obtain ⟨a, p, ha, hp, hal, hw1, hw2, hpw⟩ := fits_elim hfit Hcols.out
        dsimp only at x1 x2 x3 ha hp hw1 hw2 hpw
        subst ha hp
        have Hfit := Lib.hid hfit
        clear hfit
        go_wp2
        go_loopw [6] (fun i wr => ∃ m : Nat, p ≤ m ∧ (m : Int) ≤ p + width ∧ i = .int .i64 m ∧ Hid (∀ c, p ≤ c → c < m → cov (r.ribs.take k) a c = false) ∧
          Tab (w.heap.size + 1) 151 wr (fun a' c' => cov (r.ribs.take k) a' c' || (decide (a' = a) && decide (p ≤ c' ∧ c' < m))) ∧ Below (w.heap.size + 1) w1 wr ∧ bx < wr.heap.size ∧
          wr.cell? ⟨bx, 0, none⟩ = some (.int .i64 a) ∧ wr.cell? ⟨bx, 1, none⟩ = some (.int .i64 p) ∧ wr.cell? ⟨bx, 2, none⟩ = some (.int .i64 width)) (fun i _ => 4 - (intOf i).toNat)
        case atStart => exact ⟨p, by omega, by omega, rfl, fun c h1 h2 => by omega, hT3.same (fun a' c' _ _ => by simp; omega), hB3, zb, x1, x2, x3⟩
        case round =>
          obtain ⟨m, hm1, hm2, rfl, hfree, hTm, hBm, zbm, y1, y2, y3⟩ := hrel
          have hBw : Below w.heap.size w wr := b0.trans (hBm.mono (by omega))
          by_cases hmt : (m : Int) < p + width
          · obtain ⟨t1, t2⟩ := hTm.cell (a := a) (c := m) (by omega) (by omega)
            have et : (cov (r.ribs.take k) a m || (decide (a = a) && decide (p ≤ m ∧ m < m))) = cov (r.ribs.take k) a m := by simp
            rw [et] at t1
            clear et
            have i1 : (a : Int) < 8 := by omega
            have i2 : (m : Int) < 4 := by omega
            cases hcov : cov (r.ribs.take k) a m
            · rw [hcov] at t1
              have hT2 := (hTm.set (a := a) (c := m) (by omega) (by omega)).same (g := fun a' c' => cov (r.ribs.take k) a' c' || (decide (a' = a) && decide (p ≤ c' ∧ c' < m + 1))) fun a' c' _ _ => by
                generalize cov (r.ribs.take k) a' c' = b
                rw [Bool.eq_iff_iff]
                cases b <;> simp <;> omega
              have hf2 : Hid (∀ c, p ≤ c → c < m + 1 → cov (r.ribs.take k) a c = false) := fun c h1 h2 => by
                by_cases e : c = m
                · rw [e]; exact hcov
                · exact hfree.out c h1 (by omega)
              clear hcov
              have hne : (⟨w.heap.size + 1, a * 4 + m, none⟩ : Addr).block ≠ bx := by show w.heap.size + 1 ≠ bx; omega
              go_wp2
              go_roundw
              case rel =>
                exact ⟨m + 1, by omega, by omega, by go_num, hf2, hT2, hBm.setCell (p := ⟨w.heap.size + 1, a * 4 + m, none⟩) (Nat.le_refl _) _, by simpa [World.setCell] using zbm,
                  (cell_far _ _ _ _ hne).trans y1, (cell_far _ _ _ _ hne).trans y2, (cell_far _ _ _ _ hne).trans y3⟩
              case measure => simp [intOf]; omega
            · rw [hcov] at t1
              have Hn := Lib.hid (ribs_bad hlt (by rw [goodB, getD_of Hx.out, free_no hm1 hmt hcov, Bool.and_false]))
              clear hcov
              go_wp2
              go_ret
              exact ⟨ri Hn.out, hBw⟩
          · have hT2 := hTm.same (g := cov (r.ribs.take (k + 1))) fun a' c' _ _ => by
              rw [cov_next Hx.out]
              congr 1
              rw [← Bool.decide_and]
              exact decide_eq_decide.2 (by show _ ↔ (a : Int) = a' ∧ (p : Int) ≤ c' ∧ (c' : Int) < p + width; omega)
            have hgood : goodB r k = true := by
              rw [goodB, getD_of Hx.out, Hfit.out, free_yes (fun c h1 h2 => hfree.out c h1 (by omega))]; rfl
            have Hgood := Lib.hid hgood
            clear hgood
            go_wp2
            go_roundw
            case rel => exact ⟨k + 1, by omega, by go_num, range_next ht Hgood.out, hT2, hBm⟩
            case measure => simp [intOf]; omega
    · have hT2 := hT.same (g := cov r.ribs) fun a' c' _ _ => by rw [List.take_of_length_le (by omega)]
      have hd : Hid ((List.range r.ribs.length).all (goodB r) = true) := by
        have := ht.out
        rwa [show k = r.ribs.length by omega] at this
      clear ht hT
      have d0 := (hB.cell (p := ⟨w.heap.size, 0, none⟩) (by simp)).trans (C0.out 0 _ rfl)
      have zr2 : w.heap.size < wr.heap.size := by omega
      go_wp2
      clear d0 zr2
      go_loopw [49] (fun i wr => ∃ k : Nat, k ≤ r.webs.length ∧ i = .int .i64 k ∧ Hid ((List.range k).all (coveredB r) = true) ∧ Tab (w.heap.size + 1) 151 wr (cov r.ribs) ∧ Below (w.heap.size + 1) w1 wr) (fun i _ => r.webs.length - (intOf i).toNat)
      case atStart => exact ⟨0, Nat.zero_le _, rfl, rfl, hT2, hB⟩
      case round =>
        clear hBw hB hT2 zr
        obtain ⟨m, hm, rfl, hcv, hT, hB⟩ := hrel
        have hBw : Below w.heap.size w wr := b0.trans (hB.mono (by omega))
        have zr : w.heap.size + 1 < wr.heap.size := hT.lt
        by_cases hlt2 : m < r.webs.length
        · obtain ⟨x, hx⟩ : ∃ x, r.webs[m]? = some x := ⟨_, List.getElem?_eq_getElem hlt2⟩
          obtain ⟨g, o, u, rfl, hb, hc1, hc2, hc3, hp⟩ := HA.out m x hx
          rw [← hBw.cell (p := ⟨g, o + m * 3, none⟩) hb] at hc1
          rw [← hBw.cell (p := ⟨g, o + m * 3 + 1, none⟩) hb] at hc2
          rw [← hBw.cell (p := ⟨g, o + m * 3 + 2, none⟩) hb] at hc3
          obtain ⟨A5, c5, rfl, hA5⟩ := slice_len hp
          have hcx := Hcols.out x (List.mem_of_getElem? hx)
          have Hx := Lib.hid hx
          have hTk := hT.alloc
          have hBk := fun ob => hB.alloc (B := w.heap.size + 1) (by omega) ob
          clear hx hp
          obtain ⟨cols, rows, plates⟩ := x
          dsimp only at hc1 hc2 hc3 hcx hA5
          obtain ⟨q, rfl⟩ : ∃ q : Nat, cols = q := ⟨cols.toNat, by omega⟩
          go_wp2
          have hTk2 := hTk (Obj.cells #[Value.int IntKind.i64 q, Value.int IntKind.i64 rows, Value.slice A5 plates.length c5] 87)
          have hBk2 := hBk (Obj.cells #[Value.int IntKind.i64 q, Value.int IntKind.i64 rows, Value.slice A5 plates.length c5] 87)
          clear hTk hBk hc1 hc2 hc3 hT hB hBw zr
          generalize wr.alloc (Obj.cells #[Value.int IntKind.i64 q, Value.int IntKind.i64 rows, Value.slice A5 plates.length c5] 87) = w4 at *
          have hBw : Below w.heap.size w w4 := b0.trans (hBk2.mono (by omega))
          go_loop [56] (fun i => ∃ c : Nat, c ≤ q ∧ i = .int .i64 c ∧ Hid ((List.range c).all (fun c => cov r.ribs m c) = true)) (fun i => q - (intOf i).toNat)
          case atStart => exact ⟨0, Nat.zero_le _, rfl, rfl⟩
          case round =>
            obtain ⟨j, hj, rfl, hcj⟩ := hrel
            by_cases hjt : j < q
            · obtain ⟨t1, t2⟩ := hTk2.cell (a := m) (c := j) (by omega) (by omega)
              have i1 : (m : Int) < 8 := by omega
              have i2 : (j : Int) < 4 := by omega
              cases hcov : cov r.ribs m j
              · rw [hcov] at t1
                have Hn := Lib.hid (ribs_open hlt2 (by unfold coveredB; rw [getD_of Hx.out]; exact range_not (show j < (q : Int).toNat by omega) hcov))
                clear hcov
                go_wp2
                go_ret
                exact ⟨ri Hn.out, hBw⟩
              · rw [hcov] at t1
                have Hc := Lib.hid hcov
                clear hcov
                go_wp2
                go_round
                case rel => exact ⟨j + 1, by omega, by go_num, range_next hcj Hc.out⟩
                case measure => simp [intOf]; omega
            · have hcw : coveredB r m = true := by
                unfold coveredB
                rw [getD_of Hx.out]
                have := hcj.out
                rwa [show j = ((q : Int)).toNat by omega] at this
              have Hcw := Lib.hid hcw
              clear hcw
              go_wp2
              go_roundw
              case rel => exact ⟨m + 1, by omega, by go_num, range_next hcv Hcw.out, hTk2, hBk2⟩
              case measure => simp [intOf]; omega
        · have Hn := Lib.hid (ribs_ok hd (by
            have := hcv.out
            rwa [show m = r.webs.length by omega] at this))
          go_wp2
          go_ret
          exact ⟨ri Hn.out, hBw⟩
end Go.Proofs.Ytdbfhdncjblleaa
namespace Go.Proofs.Ytdbfhdncjblleaa
open Go.RowKit

/-- Block s is the row of what is stacked. -/
def Tab1 (s : Nat) (t : TypeId) (w : World) (f : Nat → Bool) : Prop := ∃ cs, w.heap[s]? = some (.cells cs t (0, 0)) ∧ cs.size = 32 ∧ ∀ a, a < 32 → cs[a]? = some (.bool (f a))
section
variable {s : Nat} {t : TypeId} {w w' : World} {f g : Nat → Bool}
theorem Tab1.lt (h : Tab1 s t w f) : s < w.heap.size := by
  obtain ⟨cs, h, -, -⟩ := h
  exact (Array.getElem?_eq_some_iff.1 h).1
theorem Tab1.below (h : Tab1 s t w f) {B : Nat} (hb : Below B w w') (hs : s < B) : Tab1 s t w' f := by
  obtain ⟨cs, h, h1, h2⟩ := h
  exact ⟨cs, (hb.block s hs).trans h, h1, h2⟩
theorem Tab1.cell (h : Tab1 s t w f) {a : Nat} (ha : a < 32) : w.cell? ⟨s, a, none⟩ = some (.bool (f a)) ∧ w.frozen? ⟨s, a, none⟩ = false := by
  obtain ⟨cs, h, h1, h2⟩ := h
  refine ⟨?_, by simp [World.frozen?, h]⟩
  rw [cell_of_row w s _ cs t (0, 0) h]
  exact h2 a ha
theorem Tab1.set_ (h : Tab1 s t w f) {a : Nat} (ha : a < 32) (hg : ∀ a', a' < 32 → g a' = (f a' || decide (a' = a))) : Tab1 s t (w.setCell ⟨s, a, none⟩ (.bool true)) g := by
  obtain ⟨cs, h, h1, h2⟩ := h
  refine ⟨cs.setIfInBounds a (.bool true), by simp [World.setCell, Array.getElem?_modify, h], by simpa using h1, fun a' ha' => ?_⟩
  rw [Array.getElem?_setIfInBounds, hg a' ha']
  by_cases he : a = a'
  · subst he
    rw [if_pos rfl, if_pos (by omega)]; simp
  · rw [if_neg he, h2 a' ha']
    have : decide (a' = a) = false := by simp; omega
    rw [this, Bool.or_false]
theorem Tab1.same (h : Tab1 s t w f) (hfg : ∀ a, a < 32 → f a = g a) : Tab1 s t w g := by
  obtain ⟨cs, h, h1, h2⟩ := h
  exact ⟨cs, h, h1, fun a ha => by rw [h2 a ha, hfg a ha]⟩
end

def doneL (r : RunD) (k m : Nat) : List Int := (r.stacks.take k).flatten ++ (r.stacks.getD k []).take m
def itemB (r : RunD) (k m : Nat) : Bool := decide (0 ≤ (r.stacks.getD k []).getD m 0 ∧ (r.stacks.getD k []).getD m 0 < r.ribs.length) && !(doneL r k m).contains ((r.stacks.getD k []).getD m 0)
def stackB (r : RunD) (k : Nat) : Bool := decide ((r.stacks.getD k []).length ≠ 0) && (List.range (r.stacks.getD k []).length).all (itemB r k)
def stacksE (r : RunD) : Int := if (List.range r.stacks.length).all (stackB r) && (List.range r.ribs.length).all (fun i => r.stacks.flatten.contains (i : Int)) then 0 else 20

theorem stacks_bad {r : RunD} {k : Nat} (hk : k < r.stacks.length) (h : stackB r k = false) : stacksE r = 20 := by
  unfold stacksE
  rw [range_not hk h]; rfl
theorem stacks_item {r : RunD} {k m : Nat} (hk : k < r.stacks.length) (hm : m < (r.stacks.getD k []).length) (h : itemB r k m = false) : stacksE r = 20 :=
  stacks_bad hk (by unfold stackB; rw [range_not hm h, Bool.and_false])
theorem stacks_open {r : RunD} {i : Nat} (hi : i < r.ribs.length) (h : r.stacks.flatten.contains (i : Int) = false) : stacksE r = 20 := by
  unfold stacksE
  rw [range_not (f := fun i => r.stacks.flatten.contains (i : Int)) hi h, Bool.and_false]; rfl
theorem stacks_ok {r : RunD} (h1 : Hid ((List.range r.stacks.length).all (stackB r) = true)) (h2 : Hid ((List.range r.ribs.length).all (fun i => r.stacks.flatten.contains (i : Int)) = true)) : stacksE r = 0 := by
  unfold stacksE
  rw [h1.out, h2.out]; rfl
theorem done_zero (r : RunD) (k : Nat) : doneL r k 0 = (r.stacks.take k).flatten := by simp [doneL]
theorem done_next {r : RunD} {k m : Nat} {l : List Int} (hl : r.stacks[k]? = some l) (hm : m < l.length) (i : Nat) : (doneL r k (m + 1)).contains (i : Int) = ((doneL r k m).contains (i : Int) || decide ((i : Int) = l.getD m 0)) := by
  unfold doneL
  rw [getD_of hl, List.take_succ_eq_append_getElem hm, ← List.append_assoc, Bool.eq_iff_iff]
  simp only [List.contains_iff_mem, List.mem_append, List.mem_singleton, Bool.or_eq_true, decide_eq_true_eq, List.getD_eq_getElem?_getD, List.getElem?_eq_getElem hm, Option.getD_some]
theorem done_end {r : RunD} {k : Nat} {l : List Int} (hl : r.stacks[k]? = some l) : doneL r k l.length = (r.stacks.take (k + 1)).flatten := by
  obtain ⟨hk, rfl⟩ := List.getElem?_eq_some_iff.1 hl
  unfold doneL
  rw [getD_of hl, List.take_length, List.take_succ_eq_append_getElem hk, List.flatten_append]
  simp

set_option maxHeartbeats 2000000 in
theorem checkStacks_any (v : Value) (r : RunD) (w : World) (h : RRun w.heap.size w v r) (h32 : r.ribs.length ≤ 32) :
    Calls Try.prog 66 #[v] w fun e w' => e = .returned (.int .i64 (stacksE r)) ∧ Below w.heap.size w w' := by
  obtain ⟨v1, v2, v3, rfl, hw, hr, hs⟩ := h
  obtain ⟨A2, c2, rfl, hA2⟩ := slice_len hr
  obtain ⟨A3, c3, rfl, hA3, hA⟩ := hs.open_
  have HA := Lib.hid hA
  clear hw hr hs hA
  go_enter Try.func66, Try.ntmps66
  go_wp2
  have b0 : Below w.heap.size w (w.alloc (.cells #[v1, .slice A2 r.ribs.length c2, .slice A3 r.stacks.length c3, .bool r.coll] 111)) := (Below.refl _ _).alloc (Nat.le_refl _) _
  have c0 := box4 (w := w) (a := v1) (b := .slice A2 r.ribs.length c2) (c := .slice A3 r.stacks.length c3) (d := .bool r.coll) (t := 111) 1 _ rfl
  have z0 : (w.alloc (.cells #[v1, .slice A2 r.ribs.length c2, .slice A3 r.stacks.length c3, .bool r.coll] 111)).heap.size = w.heap.size + 1 := by simp
  generalize w.alloc (.cells #[v1, .slice A2 r.ribs.length c2, .slice A3 r.stacks.length c3, .bool r.coll] 111) = w1 at *
  have HT0 : ∃ w2 : World, w1.alloc (.cells (Array.replicate 32 (.bool false)) 153) = w2 ∧ Tab1 (w.heap.size + 1) 153 w2 (fun i => (r.stacks.take 0).flatten.contains (i : Int)) ∧ Below (w.heap.size + 1) w1 w2 := by
    refine ⟨_, rfl, ⟨Array.replicate 32 (.bool false), by rw [← z0]; exact heap_alloc_new w1 _, by simp, fun a ha => ?_⟩, (Below.refl _ _).alloc (by omega) _⟩
    rw [Array.getElem?_replicate, if_pos (by omega)]
    simp
  obtain ⟨w2, e2, hT0, hB0⟩ := HT0
  simp only [Array.replicate_succ, Array.replicate_zero, List.push_toArray, List.nil_append, List.cons_append] at e2
  rw [e2]
  clear e2
  have C0 := Lib.hid c0
  clear c0
  go_loopw [13] (fun i wr => ∃ k : Nat, k ≤ r.stacks.length ∧ i = .int .i64 k ∧ Hid ((List.range k).all (stackB r) = true) ∧ Tab1 (w.heap.size + 1) 153 wr (fun i => (r.stacks.take k).flatten.contains (i : Int)) ∧ Below (w.heap.size + 1) w1 wr) (fun i _ => r.stacks.length - (intOf i).toNat)
  case atStart => exact ⟨0, Nat.zero_le _, rfl, rfl, hT0, hB0⟩
  case round =>
    obtain ⟨k, hk, rfl, ht, hT, hB⟩ := hrel
    have hBw : Below w.heap.size w wr := b0.trans (hB.mono (by omega))
    by_cases hlt : k < r.stacks.length
    · obtain ⟨x, hx⟩ : ∃ x, r.stacks[k]? = some x := ⟨_, List.getElem?_eq_getElem hlt⟩
      obtain ⟨g, o, u, rfl, hb, hc1, hp⟩ := HA.out k x hx
      rw [← hBw.cell (p := ⟨g, o + k, none⟩) hb] at hc1
      obtain ⟨A5, c5, rfl, hA5, hA6⟩ := hp.open_
      have Hx := Lib.hid hx
      have HA6 := Lib.hid hA6
      clear hx hA6 hp
      by_cases h0 : x.length = 0
      · have Hn := Lib.hid (stacks_bad hlt (by unfold stackB; rw [getD_of Hx.out, h0]; rfl))
        have h0' : ((x.length : Int) == 0) = true := by rw [h0]; rfl
        clear h0
        go_wp2
        go_ret
        exact ⟨ri Hn.out, hBw⟩
      · have h0' : ((x.length : Int) == 0) = false := by rw [beq_eq_false_iff_ne]; omega
        have hT' := hT.same (g := fun i => (doneL r k 0).contains (i : Int)) fun a _ => by rw [done_zero]
        go_wp2
        go_loopw [22] (fun i wr => ∃ m : Nat, m ≤ x.length ∧ i = .int .i64 m ∧ Hid ((List.range m).all (itemB r k) = true) ∧ Tab1 (w.heap.size + 1) 153 wr (fun i => (doneL r k m).contains (i : Int)) ∧ Below (w.heap.size + 1) w1 wr) (fun i _ => x.length - (intOf i).toNat)
        case atStart => exact ⟨0, Nat.zero_le _, rfl, rfl, hT', hB⟩
        case round =>
          clear hT hT' hB hBw hc1
          obtain ⟨m, hm, rfl, hq, hT, hB⟩ := hrel
          have hBw : Below w.heap.size w wr := b0.trans (hB.mono (by omega))
          have zr : w.heap.size + 1 < wr.heap.size := hT.lt
          by_cases hmt : m < x.length
          · obtain ⟨g2, o2, y, rfl, hb2, hc2, hy⟩ := HA6.out m hmt
            rw [← hBw.cell (p := ⟨g2, o2 + m, none⟩) hb2] at hc2
            have d1 := (hB.cell (p := ⟨w.heap.size, 1, none⟩) (by simp)).trans C0.out
            have hml : m < (r.stacks.getD k []).length := by rw [getD_of Hx.out]; exact hmt
            have hyy : (r.stacks.getD k []).getD m 0 = y := by rw [getD_of Hx.out]; exact hy.out
            have Hyy := Lib.hid hyy
            have Hml := Lib.hid hml
            clear hyy hml
            by_cases hy1 : 0 ≤ y
            case neg =>
              have Hn := Lib.hid (stacks_item hlt Hml.out (by unfold itemB; rw [Hyy.out, decide_eq_false (by omega)]; rfl))
              go_wp2
              go_ret
              exact ⟨ri Hn.out, hBw⟩
            by_cases hy2 : y < r.ribs.length
            case neg =>
              have Hn := Lib.hid (stacks_item hlt Hml.out (by unfold itemB; rw [Hyy.out, decide_eq_false (by omega)]; rfl))
              go_wp2
              go_ret
              exact ⟨ri Hn.out, hBw⟩
            obtain ⟨a, rfl⟩ := Int.eq_ofNat_of_zero_le hy1
            obtain ⟨t1, t2⟩ := hT.cell (a := a) (by omega)
            have i1 : (a : Int) < 32 := by omega
            cases hcov : (doneL r k m).contains (a : Int)
            · simp only [hcov] at t1
              have hT2 := hT.set_ (a := a) (g := fun i => (doneL r k (m + 1)).contains (i : Int)) (by omega) fun a' _ => by
                rw [done_next Hx.out hmt, hy.out]
                congr 1
                exact decide_eq_decide.2 (by omega)
              have hi : itemB r k m = true := by unfold itemB; rw [Hyy.out, hcov, decide_eq_true (by omega)]; rfl
              have Hi := Lib.hid hi
              clear hi hcov
              go_wp2
              go_roundw
              case rel => exact ⟨m + 1, by omega, by go_num, range_next hq Hi.out, hT2, hB.setCell (p := ⟨w.heap.size + 1, a, none⟩) (Nat.le_refl _) _⟩
              case measure => simp [intOf]; omega
            · simp only [hcov] at t1
              have Hn := Lib.hid (stacks_item hlt Hml.out (by unfold itemB; rw [Hyy.out, hcov]; simp))
              clear hcov
              go_wp2
              go_ret
              exact ⟨ri Hn.out, hBw⟩
          · have hT2 := hT.same (g := fun i => (r.stacks.take (k + 1)).flatten.contains (i : Int)) fun a _ => by
              rw [show m = x.length by omega, done_end Hx.out]
            have hgood : stackB r k = true := by
              unfold stackB
              have := hq.out
              rw [show m = x.length by omega] at this
              rw [getD_of Hx.out, this]
              simpa using h0
            have Hgood := Lib.hid hgood
            clear hgood
            go_wp2
            go_roundw
            case rel => exact ⟨k + 1, by omega, by go_num, range_next ht Hgood.out, hT2, hB⟩
            case measure => simp [intOf]; omega
    · have hT2 := hT.same (g := fun i => r.stacks.flatten.contains (i : Int)) fun a _ => by rw [List.take_of_length_le (by omega)]
      have hd : Hid ((List.range r.stacks.length).all (stackB r) = true) := by
        have := ht.out
        rwa [show k = r.stacks.length by omega] at this
      clear ht hT
      have d1 := (hB.cell (p := ⟨w.heap.size, 1, none⟩) (by simp)).trans C0.out
      go_wp2
      go_loop [49] (fun i => ∃ k : Nat, k ≤ r.ribs.length ∧ i = .int .i64 k ∧ Hid ((List.range k).all (fun i => r.stacks.flatten.contains (i : Int)) = true)) (fun i => r.ribs.length - (intOf i).toNat)
      case atStart => exact ⟨0, Nat.zero_le _, rfl, rfl⟩
      case round =>
        obtain ⟨m, hm, rfl, hcv⟩ := hrel
        by_cases hlt2 : m < r.ribs.length
        · obtain ⟨t1, t2⟩ := hT2.cell (a := m) (by omega)
          have i1 : (m : Int) < 32 := by omega
          cases hcov : r.stacks.flatten.contains (m : Int)
          · simp only [hcov] at t1
            have Hn := Lib.hid (stacks_open hlt2 hcov)
            clear hcov
            go_wp2
            go_ret
            exact ⟨ri Hn.out, hBw⟩
          · simp only [hcov] at t1
            have Hc := Lib.hid hcov
            clear hcov
            go_wp2
            go_round
            case rel => exact ⟨m + 1, by omega, by go_num, range_next hcv Hc.out⟩
            case measure => simp [intOf]; omega
        · have Hn := Lib.hid (stacks_ok hd (by
            have := hcv.out
            rwa [show m = r.ribs.length by omega] at this))
          go_wp2
          go_ret
          exact ⟨ri Hn.out, hBw⟩

def collE (r : RunD) : Int := if r.coll && decide (rows0 r ≠ 2) then 20 else 0

set_option maxHeartbeats 400000 in
/-- The closure over the box b of the run. -/
theorem collected_any (b : Nat) (v1 v2 v3 : Value) (r : RunD) (w : World) (hw : RWebs w.heap.size w v1 r.webs) (h0 : 0 < r.webs.length)
    (c0 : w.cell? ⟨b, 0, none⟩ = some v1) (c1 : w.cell? ⟨b, 1, none⟩ = some v2) (c2 : w.cell? ⟨b, 2, none⟩ = some v3) (c3 : w.cell? ⟨b, 3, none⟩ = some (.bool r.coll)) :
    Calls Try.prog 62 #[.pointer (some ⟨b, 0, none⟩)] w fun e w' => e = .returned (.int .i64 (collE r)) ∧ w = w' := by
  obtain ⟨A, c, rfl, hA1, hA⟩ := hw.open_
  obtain ⟨x, hx⟩ : ∃ x, r.webs[0]? = some x := ⟨_, List.getElem?_eq_getElem h0⟩
  obtain ⟨g, o, u, rfl, hb, hc1, hc2, hc3, hp⟩ := hA 0 x hx
  simp only [Nat.zero_mul, Nat.add_zero] at hc2
  have h0' : (0 : Int) < r.webs.length := by omega
  have Hr : rows0 r = x.rows := by unfold rows0; rw [getD_of hx]
  have HR := Lib.hid Hr
  clear Hr hA hx hp hc1 hc3
  cases hcoll : r.coll
  · rw [hcoll] at c3
    have Hn : Hid (collE r = 0) := by show collE r = 0; unfold collE; rw [hcoll]; rfl
    clear hcoll
    go_enter Try.func62, Try.ntmps62
    go_wp2
    go_ret
    exact ⟨ri Hn.out, rfl⟩
  · rw [hcoll] at c3
    by_cases h2 : x.rows = 2
    · have Hn : Hid (collE r = 0) := by show collE r = 0; unfold collE; rw [hcoll, HR.out, h2]; rfl
      rw [h2] at hc2
      clear hcoll h2
      go_enter Try.func62, Try.ntmps62
      go_wp2
      go_ret
      exact ⟨ri Hn.out, rfl⟩
    · have Hn : Hid (collE r = 20) := by show collE r = 20; unfold collE; rw [hcoll, HR.out, decide_eq_true h2]; rfl
      have h2' : (x.rows != 2) = true := by simpa using h2
      clear hcoll h2
      go_enter Try.func62, Try.ntmps62
      go_wp2
      go_ret
      exact ⟨ri Hn.out, rfl⟩

end Go.Proofs.Ytdbfhdncjblleaa
namespace Go.Proofs.Ytdbfhdncjblleaa
open Go.RowKit

def partE (r : RunD) : Nat → Int
  | 0 => numbersE r
  | 1 => websE r
  | 2 => ribsE r
  | 3 => stacksE r
  | _ => collE r
def checkE (r : RunD) : Int := if partE r 0 ≠ 0 then partE r 0 else if partE r 1 ≠ 0 then partE r 1 else if partE r 2 ≠ 0 then partE r 2 else if partE r 3 ≠ 0 then partE r 3 else partE r 4

theorem check_bad {r : RunD} {k : Nat} (hk : k < 5) (h : ∀ j, j < k → partE r j = 0) (hn : partE r k ≠ 0) : checkE r = partE r k := by
  unfold checkE
  match k, hk with
  | 0, _ => rw [if_pos hn]
  | 1, _ => rw [if_neg (by rw [h 0 (by omega)]; simp), if_pos hn]
  | 2, _ => rw [if_neg (by rw [h 0 (by omega)]; simp), if_neg (by rw [h 1 (by omega)]; simp), if_pos hn]
  | 3, _ => rw [if_neg (by rw [h 0 (by omega)]; simp), if_neg (by rw [h 1 (by omega)]; simp), if_neg (by rw [h 2 (by omega)]; simp), if_pos hn]
  | 4, _ => rw [if_neg (by rw [h 0 (by omega)]; simp), if_neg (by rw [h 1 (by omega)]; simp), if_neg (by rw [h 2 (by omega)]; simp), if_neg (by rw [h 3 (by omega)]; simp)]
theorem check_ok {r : RunD} (h : ∀ j, j < 5 → partE r j = 0) : checkE r = 0 := by
  unfold checkE
  rw [if_neg (by rw [h 0 (by omega)]; simp), if_neg (by rw [h 1 (by omega)]; simp), if_neg (by rw [h 2 (by omega)]; simp), if_neg (by rw [h 3 (by omega)]; simp), h 4 (by omega)]
theorem numbers_ok {r : RunD} (h : partE r 0 = 0) : 1 ≤ r.webs.length ∧ r.webs.length ≤ 8 ∧ 1 ≤ r.ribs.length ∧ r.ribs.length ≤ 32 ∧ 1 ≤ r.stacks.length ∧ r.stacks.length ≤ 4 := by
  unfold partE numbersE at h
  cases hb : numbersB r with
  | false => rw [hb] at h; cases h
  | true =>
    simp only [numbersB, Bool.and_eq_true, decide_eq_true_eq] at hb
    omega
theorem webs_ok {r : RunD} (h : partE r 1 = 0) : ∀ y ∈ r.webs, 1 ≤ y.cols ∧ y.cols ≤ 4 ∧ 1 ≤ y.rows ∧ y.rows ≤ 2 ∧ y.rows = rows0 r ∧ (y.plates.length : Int) = 2 * y.rows * y.cols ∧ ∀ p ∈ y.plates, 0 ≤ p.page ∧ p.page ≤ 128 := by
  unfold partE websE at h
  cases hb : websB r with
  | false => rw [hb] at h; cases h
  | true =>
    intro y hy
    have := List.all_eq_true.1 hb y hy
    simp only [webB, sizeB, Bool.and_eq_true, decide_eq_true_eq] at this
    obtain ⟨⟨h1, h2⟩, h3⟩ := this
    refine ⟨h1.1, h1.2.1, h1.2.2.1, h1.2.2.2.1, h1.2.2.2.2, h2, fun p hp => ?_⟩
    have := List.all_eq_true.1 h3 p hp
    simpa [isPageB] using this

theorem part_next {r : RunD} {k : Nat} (h : Hid (∀ j, j < k → partE r j = 0)) (hk : partE r k = 0) : Hid (∀ j, j < k + 1 → partE r j = 0) := fun j hj => by
  by_cases e : j = k
  · rw [e]; exact hk
  · exact h.out j (by omega)

/-- What each part comes to, by its number. -/
theorem part0 (v : Value) (r : RunD) (w : World) (h : RRun w.heap.size w v r) : Calls Try.prog 63 #[v] w fun e w' => e = .returned (.int .i64 (partE r 0)) ∧ Below w.heap.size w w' := checkNumbers_any v r w h
theorem part1 (v : Value) (r : RunD) (w : World) (h : RRun w.heap.size w v r) : Calls Try.prog 64 #[v] w fun e w' => e = .returned (.int .i64 (partE r 1)) ∧ Below w.heap.size w w' := checkWebs_any v r w h
theorem part2 (v : Value) (r : RunD) (w : World) (h : RRun w.heap.size w v r) (hp : Hid (∀ j, j < 2 → partE r j = 0)) : Calls Try.prog 65 #[v] w fun e w' => e = .returned (.int .i64 (partE r 2)) ∧ Below w.heap.size w w' :=
  checkRibbons_any v r w h (fun y hy => ⟨(webs_ok (hp.out 1 (by omega)) y hy).1, (webs_ok (hp.out 1 (by omega)) y hy).2.1⟩) (numbers_ok (hp.out 0 (by omega))).2.1
theorem part3 (v : Value) (r : RunD) (w : World) (h : RRun w.heap.size w v r) (hp : Hid (∀ j, j < 3 → partE r j = 0)) : Calls Try.prog 66 #[v] w fun e w' => e = .returned (.int .i64 (partE r 3)) ∧ Below w.heap.size w w' :=
  checkStacks_any v r w h (numbers_ok (hp.out 0 (by omega))).2.2.2.1

set_option maxHeartbeats 1000000 in
theorem check_any (v : Value) (r : RunD) (w : World) (h : RRun w.heap.size w v r) :
    Calls Try.prog 42 #[v] w fun e w' => e = .returned (.int .i64 (checkE r)) ∧ Below w.heap.size w w' := by
  have hrun := Lib.hid h
  obtain ⟨v1, v2, v3, rfl, hw, hr, hs⟩ := h
  have Hw := Lib.hid hw
  clear hw hr hs
  have hmf : ∀ (fn : Fn) (first cap : Array Value) (w : World), (Instr.makeFunc fn first cap).run Try.prog w = .ok (.func fn first cap) w := fun _ _ _ _ => rfl
  have b0 : Below w.heap.size w ((w.alloc (.cells #[v1, v2, v3, .bool r.coll] 111)).alloc (.cells #[.func (.func 63) #[.agg #[v1, v2, v3, .bool r.coll]] #[], .func (.func 64) #[.agg #[v1, v2, v3, .bool r.coll]] #[],
      .func (.func 65) #[.agg #[v1, v2, v3, .bool r.coll]] #[], .func (.func 66) #[.agg #[v1, v2, v3, .bool r.coll]] #[], .func (.func 62) #[] #[.pointer (some ⟨w.heap.size, 0, none⟩)]] 112)) := ((Below.refl _ _).alloc (Nat.le_refl _) _).alloc (by simp) _
  have c0 : ∀ j x, #[v1, v2, v3, .bool r.coll][j]? = some x → ((w.alloc (.cells #[v1, v2, v3, .bool r.coll] 111)).alloc (.cells #[.func (.func 63) #[.agg #[v1, v2, v3, .bool r.coll]] #[], .func (.func 64) #[.agg #[v1, v2, v3, .bool r.coll]] #[],
      .func (.func 65) #[.agg #[v1, v2, v3, .bool r.coll]] #[], .func (.func 66) #[.agg #[v1, v2, v3, .bool r.coll]] #[], .func (.func 62) #[] #[.pointer (some ⟨w.heap.size, 0, none⟩)]] 112)).cell? ⟨w.heap.size, j, none⟩ = some x := fun j x hx => by
    rw [World.cell?_alloc_past _ _ _ (by simp)]; exact box4 j x hx
  have c1 : ∀ j x, #[Value.func (.func 63) #[.agg #[v1, v2, v3, .bool r.coll]] #[], .func (.func 64) #[.agg #[v1, v2, v3, .bool r.coll]] #[],
      .func (.func 65) #[.agg #[v1, v2, v3, .bool r.coll]] #[], .func (.func 66) #[.agg #[v1, v2, v3, .bool r.coll]] #[], .func (.func 62) #[] #[.pointer (some ⟨w.heap.size, 0, none⟩)]][j]? = some x → ((w.alloc (.cells #[v1, v2, v3, .bool r.coll] 111)).alloc (.cells #[.func (.func 63) #[.agg #[v1, v2, v3, .bool r.coll]] #[], .func (.func 64) #[.agg #[v1, v2, v3, .bool r.coll]] #[],
      .func (.func 65) #[.agg #[v1, v2, v3, .bool r.coll]] #[], .func (.func 66) #[.agg #[v1, v2, v3, .bool r.coll]] #[], .func (.func 62) #[] #[.pointer (some ⟨w.heap.size, 0, none⟩)]] 112)).cell? ⟨w.heap.size + 1, j, none⟩ = some x := fun j x hx => by
    rw [World.cell?_alloc_at _ _ _ _ (by simp), hx]
  have C0 := Lib.hid c0
  have C1 := Lib.hid c1
  have B0 := Lib.hid b0
  clear c0 c1 b0
  go_enter Try.func42, Try.ntmps42
  go_wp2
  obtain ⟨w2, e2⟩ : ∃ w2, w2 = ((w.alloc (.cells #[v1, v2, v3, .bool r.coll] 111)).alloc (.cells #[.func (.func 63) #[.agg #[v1, v2, v3, .bool r.coll]] #[], .func (.func 64) #[.agg #[v1, v2, v3, .bool r.coll]] #[],
      .func (.func 65) #[.agg #[v1, v2, v3, .bool r.coll]] #[], .func (.func 66) #[.agg #[v1, v2, v3, .bool r.coll]] #[], .func (.func 62) #[] #[.pointer (some ⟨w.heap.size, 0, none⟩)]] 112)) := ⟨_, rfl⟩
  have z2 : w2.heap.size = w.heap.size + 2 := by rw [e2]; simp
  rw [← e2]
  rw [← e2] at C0 C1 B0
  have Z2 := Lib.hid z2
  clear e2 z2
  go_loopw [19] (fun i wr => ∃ k : Nat, k ≤ 5 ∧ i = .int .i64 k ∧ Hid (∀ j, j < k → partE r j = 0) ∧ Below (w.heap.size + 2) w2 wr) (fun i _ => 5 - (intOf i).toNat)
  case atStart => exact ⟨0, by omega, rfl, fun j hj => by omega, Below.refl _ _⟩
  case round =>
    obtain ⟨k, hk, rfl, hp, hB⟩ := hrel
    have hBw : Below w.heap.size w wr := B0.out.trans (hB.mono (by omega))
    have hrw : RRun wr.heap.size wr (.agg #[v1, v2, v3, .bool r.coll]) r := (hrun.out.below hBw).more hBw.size
    have f0 := fun x h => (hB.cell (p := ⟨w.heap.size + 1, k, none⟩) (by simp)).trans (C1.out k x h)
    have zr : w.heap.size + 2 ≤ wr.heap.size := by have := hB.size; rw [Z2.out] at this; exact this
    have hbk : ∀ w', Below wr.heap.size wr w' → Below (w.heap.size + 2) w2 w' := fun w' h => hB.trans (h.mono zr)
    have hbw : ∀ w', Below wr.heap.size wr w' → Below w.heap.size w w' := fun w' h => hBw.trans (h.mono (by omega))
    have Hbk := Lib.hid hbk
    have Hbw := Lib.hid hbw
    clear hbk hbw
    by_cases h5 : k = 5
    · subst h5
      have Hn := Lib.hid (check_ok hp.out)
      clear f0
      go_wp2
      go_ret
      exact ⟨ri Hn.out, hBw⟩
    obtain rfl | rfl | rfl | rfl | rfl : k = 0 ∨ k = 1 ∨ k = 2 ∨ k = 3 ∨ k = 4 := by omega
    · have f1 := f0 _ rfl
      clear f0
      have C := Lib.hid (part0 _ r wr hrw)
      by_cases hz : partE r 0 = 0
      · have Hz := Lib.hid hz
        rw [hz] at C
        clear hz
        go_wp2_with fail
        refine C.out.mono ?_
        rintro e w3 ⟨rfl, hb3⟩
        go_wp2
        go_roundw
        case rel => exact ⟨0 + 1, by omega, by go_num, part_next hp Hz.out, Hbk.out _ hb3⟩
        case measure => simp [intOf]
      · have Hn := Lib.hid (check_bad (k := 0) (by omega) hp.out hz)
        have hz' : (partE r 0 != 0) = true := by simpa using hz
        clear hz
        generalize partE r 0 = e0 at *
        go_wp2_with fail
        refine C.out.mono ?_
        rintro e w3 ⟨rfl, hb3⟩
        go_wp2
        go_ret
        exact ⟨ri Hn.out, Hbw.out _ hb3⟩
    · have f1 := f0 _ rfl
      clear f0
      have C := Lib.hid (part1 _ r wr hrw)
      by_cases hz : partE r 1 = 0
      · have Hz := Lib.hid hz
        rw [hz] at C
        clear hz
        go_wp2_with fail
        refine C.out.mono ?_
        rintro e w3 ⟨rfl, hb3⟩
        go_wp2
        go_roundw
        case rel => exact ⟨1 + 1, by omega, by go_num, part_next hp Hz.out, Hbk.out _ hb3⟩
        case measure => simp [intOf]
      · have Hn := Lib.hid (check_bad (k := 1) (by omega) hp.out hz)
        have hz' : (partE r 1 != 0) = true := by simpa using hz
        clear hz
        generalize partE r 1 = e1 at *
        go_wp2_with fail
        refine C.out.mono ?_
        rintro e w3 ⟨rfl, hb3⟩
        go_wp2
        go_ret
        exact ⟨ri Hn.out, Hbw.out _ hb3⟩
    · have f1 := f0 _ rfl
      clear f0
      have C := Lib.hid (part2 _ r wr hrw hp)
      by_cases hz : partE r 2 = 0
      · have Hz := Lib.hid hz
        rw [hz] at C
        clear hz
        go_wp2_with fail
        refine C.out.mono ?_
        rintro e w3 ⟨rfl, hb3⟩
        go_wp2
        go_roundw
        case rel => exact ⟨2 + 1, by omega, by go_num, part_next hp Hz.out, Hbk.out _ hb3⟩
        case measure => simp [intOf]
      · have Hn := Lib.hid (check_bad (k := 2) (by omega) hp.out hz)
        have hz' : (partE r 2 != 0) = true := by simpa using hz
        clear hz
        generalize partE r 2 = e2 at *
        go_wp2_with fail
        refine C.out.mono ?_
        rintro e w3 ⟨rfl, hb3⟩
        go_wp2
        go_ret
        exact ⟨ri Hn.out, Hbw.out _ hb3⟩
    · have f1 := f0 _ rfl
      clear f0
      have C := Lib.hid (part3 _ r wr hrw hp)
      by_cases hz : partE r 3 = 0
      · have Hz := Lib.hid hz
        rw [hz] at C
        clear hz
        go_wp2_with fail
        refine C.out.mono ?_
        rintro e w3 ⟨rfl, hb3⟩
        go_wp2
        go_roundw
        case rel => exact ⟨3 + 1, by omega, by go_num, part_next hp Hz.out, Hbk.out _ hb3⟩
        case measure => simp [intOf]
      · have Hn := Lib.hid (check_bad (k := 3) (by omega) hp.out hz)
        have hz' : (partE r 3 != 0) = true := by simpa using hz
        clear hz
        generalize partE r 3 = e3 at *
        go_wp2_with fail
        refine C.out.mono ?_
        rintro e w3 ⟨rfl, hb3⟩
        go_wp2
        go_ret
        exact ⟨ri Hn.out, Hbw.out _ hb3⟩
    · have f1 := f0 _ rfl
      clear f0
      have d0 := (hB.cell (p := ⟨w.heap.size, 0, none⟩) (by simp)).trans (C0.out 0 _ rfl)
      have d1 := (hB.cell (p := ⟨w.heap.size, 1, none⟩) (by simp)).trans (C0.out 1 _ rfl)
      have d2 := (hB.cell (p := ⟨w.heap.size, 2, none⟩) (by simp)).trans (C0.out 2 _ rfl)
      have d3 := (hB.cell (p := ⟨w.heap.size, 3, none⟩) (by simp)).trans (C0.out 3 _ rfl)
      have C : Hid (Calls Try.prog 62 #[.pointer (some ⟨w.heap.size, 0, none⟩)] wr fun e w' => e = .returned (.int .i64 (partE r 4)) ∧ wr = w') := Lib.hid (collected_any w.heap.size v1 v2 v3 r wr ((Hw.out.below hBw).more hBw.size) (numbers_ok (hp.out 0 (by omega))).1 d0 d1 d2 d3)
      clear d0 d1 d2 d3
      by_cases hz : partE r 4 = 0
      · have Hz := Lib.hid hz
        rw [hz] at C
        clear hz
        go_wp2_with fail
        refine C.out.mono ?_
        rintro e w3 ⟨rfl, rfl⟩
        go_wp2
        go_roundw
        case rel => exact ⟨4 + 1, by omega, by go_num, part_next hp Hz.out, hB⟩
        case measure => simp [intOf]
      · have Hn := Lib.hid (check_bad (k := 4) (by omega) hp.out hz)
        have hz' : (partE r 4 != 0) = true := by simpa using hz
        clear hz
        generalize partE r 4 = e4 at *
        go_wp2_with fail
        refine C.out.mono ?_
        rintro e w3 ⟨rfl, rfl⟩
        go_wp2
        go_ret
        exact ⟨ri Hn.out, hBw⟩

set_option maxHeartbeats 400000 in
theorem Check_any (v : Value) (r : RunD) (w : World) (h : RRun w.heap.size w v r) :
    Calls Try.prog 16 #[v] w fun e w' => e = .returned (.int .i64 (checkE r)) ∧ Below w.heap.size w w' := by
  have hrun := Lib.hid h
  obtain ⟨v1, v2, v3, rfl, -, -, -⟩ := h
  have b0 : ∀ o, Below w.heap.size w (w.alloc o) := fun o => (Below.refl _ _).alloc (Nat.le_refl _) _
  have hr : ∀ o, RRun (w.alloc o).heap.size (w.alloc o) (.agg #[v1, v2, v3, .bool r.coll]) r := fun o => (hrun.out.below (b0 o)).more (by simp)
  go_enter Try.func16, Try.ntmps16
  go_wp2_with fail
  refine (check_any _ r _ (hr _)).mono ?_
  rintro e w' ⟨rfl, hb⟩
  go_wp2
  go_ret
  exact ⟨rfl, (b0 _).trans (hb.mono (by simp))⟩
end Go.Proofs.Ytdbfhdncjblleaa
namespace Go.Proofs.Ytdbfhdncjblleaa
open Go.RowKit

structure HalfD where
  web : Int
  col : Int
  s0 : Int
  s1 : Int
  deriving DecidableEq, Inhabited
structure SpotD where
  web : Int
  side : Int
  row : Int
  col : Int
  deriving DecidableEq, Inhabited
def rightHalfD (b : RibD) : HalfD := if b.turned then ⟨b.web, b.col, 0, 1⟩ else ⟨b.web, b.col + b.width - 1, 1, 0⟩
def leftHalfD (b : RibD) : HalfD := if b.turned then ⟨b.web, b.col + b.width - 1, 1, 0⟩ else ⟨b.web, b.col, 0, 1⟩
def HalfD.val (h : HalfD) : Value := .agg #[.int .i64 h.web, .int .i64 h.col, .int .i64 h.s0, .int .i64 h.s1]
def RibD.val (x : RibD) : Value := .agg #[.int .i64 x.web, .int .i64 x.col, .int .i64 x.width, .bool x.turned, .bool x.left]
def ribAt (r : RunD) (i : Int) : RibD := r.ribs.getD i.toNat default
def rightsD (r : RunD) (l : List Int) : List HalfD := ((l.map (ribAt r)).filter fun b => !b.left).map rightHalfD
def hasLeft (b : RibD) : Bool := decide (b.width = 2) || b.left
def leftsD (r : RunD) (l : List Int) : List HalfD := ((l.map (ribAt r)).filter hasLeft).map leftHalfD
def halvesD (r : RunD) (l : List Int) : List HalfD := rightsD r l ++ leftsD r l.reverse
def SpotD.cells (s : SpotD) : List Value := [.int .i64 s.web, .int .i64 s.side, .int .i64 s.row, .int .i64 s.col]
def halfSpots (row : Int) (h : HalfD) : List SpotD := [⟨h.web, h.s0, row, h.col⟩, ⟨h.web, h.s1, row, h.col⟩]
def spotsD (r : RunD) (l : List Int) (row : Int) : List SpotD := (halvesD r l).flatMap (halfSpots row)

set_option maxHeartbeats 400000 in
theorem rightHalf_any (b : RibD) (w : World) (h : 0 ≤ b.col ∧ b.col ≤ 1000 ∧ 0 ≤ b.width ∧ b.width ≤ 1000) :
    Calls Try.prog 86 #[b.val] w fun e w' => e = .returned (rightHalfD b).val ∧ Below w.heap.size w w' := by
  obtain ⟨web, col, width, turned, left⟩ := b
  obtain ⟨h1, h2, h3, h4⟩ := h
  dsimp only at h1 h2 h3 h4
  cases turned
  · unfold RibD.val
    go_enter Try.func86, Try.ntmps86
    go_wp2
    exact bodyPost_ret (v := .agg #[.int .i64 web, .int .i64 (col + width - 1), .int .i64 1, .int .i64 0]) (by simp [results, Try.results86, go_sem]) rfl ⟨rfl, ((Below.refl _ _).alloc (Nat.le_refl _) _).alloc (by simp) _⟩
  · unfold RibD.val
    go_enter Try.func86, Try.ntmps86
    go_wp2
    exact bodyPost_ret (v := .agg #[.int .i64 web, .int .i64 col, .int .i64 0, .int .i64 1]) (by simp [results, Try.results86, go_sem]) rfl ⟨rfl, ((Below.refl _ _).alloc (Nat.le_refl _) _).alloc (by simp) _⟩
set_option maxHeartbeats 400000 in
theorem leftHalf_any (b : RibD) (w : World) (h : 0 ≤ b.col ∧ b.col ≤ 1000 ∧ 0 ≤ b.width ∧ b.width ≤ 1000) :
    Calls Try.prog 87 #[b.val] w fun e w' => e = .returned (leftHalfD b).val ∧ Below w.heap.size w w' := by
  obtain ⟨web, col, width, turned, left⟩ := b
  obtain ⟨h1, h2, h3, h4⟩ := h
  dsimp only at h1 h2 h3 h4
  cases turned
  · unfold RibD.val
    go_enter Try.func87, Try.ntmps87
    go_wp2
    exact bodyPost_ret (v := .agg #[.int .i64 web, .int .i64 col, .int .i64 0, .int .i64 1]) (by simp [results, Try.results87, go_sem]) rfl ⟨rfl, ((Below.refl _ _).alloc (Nat.le_refl _) _).alloc (by simp) _⟩
  · unfold RibD.val
    go_enter Try.func87, Try.ntmps87
    go_wp2
    exact bodyPost_ret (v := .agg #[.int .i64 web, .int .i64 (col + width - 1), .int .i64 1, .int .i64 0]) (by simp [results, Try.results87, go_sem]) rfl ⟨rfl, ((Below.refl _ _).alloc (Nat.le_refl _) _).alloc (by simp) _⟩

/-- What a right run gives of its ribbons and its stacks. -/
theorem parts_ok {r : RunD} (h : checkE r = 0) : ∀ j, j < 5 → partE r j = 0 := by
  unfold checkE at h
  have a0 : partE r 0 = 0 := by
    by_cases e : partE r 0 = 0
    · exact e
    · rw [if_pos e] at h; exact h
  rw [if_neg (by rw [a0]; simp)] at h
  have a1 : partE r 1 = 0 := by
    by_cases e : partE r 1 = 0
    · exact e
    · rw [if_pos e] at h; exact h
  rw [if_neg (by rw [a1]; simp)] at h
  have a2 : partE r 2 = 0 := by
    by_cases e : partE r 2 = 0
    · exact e
    · rw [if_pos e] at h; exact h
  rw [if_neg (by rw [a2]; simp)] at h
  have a3 : partE r 3 = 0 := by
    by_cases e : partE r 3 = 0
    · exact e
    · rw [if_pos e] at h; exact h
  rw [if_neg (by rw [a3]; simp)] at h
  intro j hj
  match j, hj with
  | 0, _ => exact a0
  | 1, _ => exact a1
  | 2, _ => exact a2
  | 3, _ => exact a3
  | 4, _ => exact h

theorem ribs_ok2 {r : RunD} (h : partE r 2 = 0) : disjB r = true ∧ coverB r = true := by
  unfold partE ribsE at h
  cases h1 : disjB r with
  | false => rw [h1] at h; cases h
  | true =>
    cases h2 : coverB r with
    | false => rw [h1, h2] at h; cases h
    | true => exact ⟨rfl, rfl⟩
/-- A ribbon of a right run. -/
structure RibOk (r : RunD) (b : RibD) : Prop where
  web0 : 0 ≤ b.web
  web1 : b.web < r.webs.length
  width0 : 1 ≤ b.width
  width1 : b.width ≤ 2
  left : b.width = 2 → b.left = false
  col0 : 0 ≤ b.col
  col1 : b.col + b.width ≤ (r.webs.getD b.web.toNat default).cols
  col2 : b.col + b.width ≤ 4
theorem rib_ok {r : RunD} (h : checkE r = 0) {k : Nat} (hk : k < r.ribs.length) : RibOk r (r.ribs.getD k default) := by
  have hp := parts_ok h
  have hd := (ribs_ok2 (hp 2 (by omega))).1
  have := List.all_eq_true.1 hd k (List.mem_range.2 hk)
  simp only [Bool.and_eq_true] at this
  have hf := this.1
  generalize r.ribs.getD k default = b at hf ⊢
  have hf' := hf
  simp only [fitsB, Bool.and_eq_true, decide_eq_true_eq] at hf
  obtain ⟨⟨⟨h1, h2, h3, h4⟩, h7⟩, h5, h6⟩ := hf
  have hm : b.web.toNat < r.webs.length := by omega
  have hc := webs_ok (hp 1 (by omega)) _ (List.getElem_mem hm)
  have e : r.webs.getD b.web.toNat default = r.webs[b.web.toNat] := by rw [List.getD_eq_getElem?_getD, List.getElem?_eq_getElem hm]; rfl
  rw [e] at h6
  refine ⟨h1, h2, h3, h4, fun hw => ?_, h5, by rw [e]; omega, by omega⟩
  cases hl : b.left with
  | false => rfl
  | true => rw [hl, decide_eq_true hw] at h7; cases h7

theorem stacks_ok2 {r : RunD} (h : partE r 3 = 0) : (List.range r.stacks.length).all (stackB r) = true ∧ (List.range r.ribs.length).all (fun i => r.stacks.flatten.contains (i : Int)) = true := by
  unfold partE stacksE at h
  cases h1 : (List.range r.stacks.length).all (stackB r) with
  | false => rw [h1] at h; cases h
  | true =>
    cases h2 : (List.range r.ribs.length).all (fun i => r.stacks.flatten.contains (i : Int)) with
    | false => rw [h1, h2] at h; cases h
    | true => exact ⟨rfl, rfl⟩
theorem item_ok {r : RunD} (h : checkE r = 0) {k m : Nat} (hk : k < r.stacks.length) (hm : m < (r.stacks.getD k []).length) : itemB r k m = true := by
  have h1 := List.all_eq_true.1 (stacks_ok2 (parts_ok h 3 (by omega))).1 k (List.mem_range.2 hk)
  simp only [stackB, Bool.and_eq_true] at h1
  exact List.all_eq_true.1 h1.2 m (List.mem_range.2 hm)
theorem nodup_bound {l : List Int} {n : Nat} (hd : l.Nodup) (hb : ∀ x ∈ l, 0 ≤ x ∧ x < n) : l.length ≤ n := by
  have h1 : (l.map Int.toNat).Nodup := by
    rw [List.nodup_iff_pairwise_ne, List.pairwise_map]
    refine (List.nodup_iff_pairwise_ne.1 hd).imp_of_mem fun ha hb' hne e => hne ?_
    have := hb _ ha; have := hb _ hb'; omega
  have h2 : ∀ x ∈ l.map Int.toNat, x ∈ List.range n := fun x hx => by
    obtain ⟨y, hy, rfl⟩ := List.mem_map.1 hx
    have := hb y hy
    exact List.mem_range.2 (by omega)
  have := h1.length_le_of_subset h2
  simpa using this
/-- All that the stacks hold, one behind the other, is without repetition. -/
theorem flat_nodup {r : RunD} (h : checkE r = 0) : ∀ k, k ≤ r.stacks.length → (r.stacks.take k).flatten.Nodup
  | 0, _ => by simp
  | k + 1, hk => by
    have hlt : k < r.stacks.length := by omega
    have ih := flat_nodup h k (by omega)
    have hx : r.stacks[k]? = some r.stacks[k] := List.getElem?_eq_getElem hlt
    have hg : r.stacks.getD k [] = r.stacks[k] := getD_of hx
    have hm : ∀ m, m ≤ (r.stacks[k]).length → ((r.stacks.take k).flatten ++ (r.stacks[k]).take m).Nodup := by
      intro m
      induction m with
      | zero => intro _; simpa using ih
      | succ m ihm =>
        intro hm
        have hm' : m < (r.stacks[k]).length := by omega
        have hi := item_ok h hlt (by rw [hg]; exact hm')
        simp only [itemB, doneL, Bool.and_eq_true, Bool.not_eq_true'] at hi
        have hi2 := hi.2
        rw [hg, List.getD_eq_getElem?_getD, List.getElem?_eq_getElem hm', Option.getD_some] at hi2
        have hn : (r.stacks[k])[m] ∉ (r.stacks.take k).flatten ++ (r.stacks[k]).take m := fun hmem => by
          rw [List.contains_iff_mem.2 hmem] at hi2; cases hi2
        rw [List.take_succ_eq_append_getElem hm', ← List.append_assoc]
        refine List.nodup_append.2 ⟨ihm (by omega), by simp, fun a ha b hb => ?_⟩
        rw [List.mem_singleton] at hb
        subst hb
        rintro rfl
        exact hn ha
    have := hm _ (Nat.le_refl _)
    rw [List.take_length] at this
    rw [List.take_succ_eq_append_getElem hlt, List.flatten_append]
    simpa using this
theorem stack_items {r : RunD} (h : checkE r = 0) {k : Nat} {l : List Int} (hl : r.stacks[k]? = some l) : ∀ i ∈ l, 0 ≤ i ∧ i < r.ribs.length := by
  intro i hi
  obtain ⟨hk, rfl⟩ := List.getElem?_eq_some_iff.1 hl
  have hg : r.stacks.getD k [] = r.stacks[k] := getD_of hl
  obtain ⟨m, hm, rfl⟩ := List.getElem_of_mem hi
  have := item_ok h hk (m := m) (by rw [hg]; exact hm)
  simp only [itemB, Bool.and_eq_true, decide_eq_true_eq] at this
  have h1 := this.1
  rw [hg, List.getD_eq_getElem?_getD, List.getElem?_eq_getElem hm, Option.getD_some] at h1
  exact h1
theorem stack_len {r : RunD} (h : checkE r = 0) {k : Nat} {l : List Int} (hl : r.stacks[k]? = some l) : l.length ≤ 32 := by
  obtain ⟨hk, rfl⟩ := List.getElem?_eq_some_iff.1 hl
  have hn : (r.stacks[k]).Nodup := by
    have := flat_nodup h (k + 1) (by omega)
    rw [List.take_succ_eq_append_getElem hk, List.flatten_append] at this
    simpa using (List.nodup_append.1 this).2.1
  have h1 := nodup_bound hn (stack_items h hl)
  have h2 := (numbers_ok (parts_ok h 0 (by omega))).2.2.2.1
  omega
end Go.Proofs.Ytdbfhdncjblleaa
