/-
  THE CHECKS OF A RUN: its ribbons.
-/
import Derived.Test.YtdbfhdncjblleaaE
import Derived.Test.YtdbfhdncjblleaaF
namespace Go.Proofs.Ytdbfhdncjblleaa
open Go.RowKit

def cov (l : List RibD) (a c : Nat) : Bool := l.any fun x => decide (x.web = a ∧ x.col ≤ c ∧ (c : Int) < x.col + x.width)
def freeB (l : List RibD) (x : RibD) : Bool := (List.range x.width.toNat).all fun j => !cov l x.web.toNat (x.col.toNat + j)
def disjB (r : RunD) : Bool := (List.range r.ribs.length).all fun k => fitsB r (r.ribs.getD k default) && freeB (r.ribs.take k) (r.ribs.getD k default)
def coverB (r : RunD) : Bool := (List.range r.webs.length).all fun i => (List.range (r.webs.getD i default).cols.toNat).all fun c => cov r.ribs i c
def ribsE (r : RunD) : Int := if disjB r && coverB r then 0 else 20

/-- Block s is the table of what is slit. -/
def Tab (s : Nat) (t : TypeId) (w : World) (f : Nat → Nat → Bool) : Prop := ∃ cs, w.heap[s]? = some (.cells cs t (0, 0)) ∧ cs.size = 32 ∧ ∀ a c, a < 8 → c < 4 → cs[a * 4 + c]? = some (.bool (f a c))
theorem Tab.lt {s : Nat} {t : TypeId} {w : World} {f : Nat → Nat → Bool} (h : Tab s t w f) : s < w.heap.size := by
  obtain ⟨cs, h, -, -⟩ := h
  exact (Array.getElem?_eq_some_iff.1 h).1
theorem Tab.below {s : Nat} {t : TypeId} {w w' : World} {f : Nat → Nat → Bool} (h : Tab s t w f) {B : Nat} (hb : Below B w w') (hs : s < B) : Tab s t w' f := by
  obtain ⟨cs, h, h1, h2⟩ := h
  exact ⟨cs, (hb.block s hs).trans h, h1, h2⟩
theorem Tab.cell {s : Nat} {t : TypeId} {w : World} {f : Nat → Nat → Bool} (h : Tab s t w f) {a c : Nat} (ha : a < 8) (hc : c < 4) : w.cell? ⟨s, a * 4 + c, none⟩ = some (.bool (f a c)) ∧ w.frozen? ⟨s, a * 4 + c, none⟩ = false := by
  obtain ⟨cs, h, h1, h2⟩ := h
  refine ⟨?_, by simp [World.frozen?, h]⟩
  rw [cell_of_row w s _ cs t (0, 0) h]
  exact h2 a c ha hc
theorem Tab.set {s : Nat} {t : TypeId} {w : World} {f : Nat → Nat → Bool} (h : Tab s t w f) {a c : Nat} (ha : a < 8) (hc : c < 4) : Tab s t (w.setCell ⟨s, a * 4 + c, none⟩ (.bool true)) fun a' c' => f a' c' || (decide (a' = a) && decide (c' = c)) := by
  obtain ⟨cs, h, h1, h2⟩ := h
  refine ⟨cs.setIfInBounds (a * 4 + c) (.bool true), by simp [World.setCell, Array.getElem?_modify, h], by simpa using h1, fun a' c' ha' hc' => ?_⟩
  rw [Array.getElem?_setIfInBounds]
  by_cases he : a * 4 + c = a' * 4 + c'
  · have e1 : a' = a := by omega
    have e2 : c' = c := by omega
    subst e1 e2
    rw [if_pos rfl, if_pos (by omega)]; simp
  · rw [if_neg he, h2 a' c' ha' hc']
    have : (decide (a' = a) && decide (c' = c)) = false := by simp; omega
    show _ = some (Value.bool (f a' c' || (decide (a' = a) && decide (c' = c))))
    rw [this, Bool.or_false]

theorem Tab.same {s : Nat} {t : TypeId} {w : World} {f g : Nat → Nat → Bool} (h : Tab s t w f) (hfg : ∀ a c, a < 8 → c < 4 → f a c = g a c) : Tab s t w g := by
  obtain ⟨cs, h, h1, h2⟩ := h
  exact ⟨cs, h, h1, fun a c ha hc => by rw [h2 a c ha hc, hfg a c ha hc]⟩
theorem Tab.far {s : Nat} {t : TypeId} {w : World} {f : Nat → Nat → Bool} (h : Tab s t w f) {p : Addr} (hp : s ≠ p.block) (u : Value) : Tab s t (w.setCell p u) f := by
  obtain ⟨cs, h, h1, h2⟩ := h
  exact ⟨cs, (Below.heap_setCell w p u s hp).trans h, h1, h2⟩
theorem Tab.alloc {s : Nat} {t : TypeId} {w : World} {f : Nat → Nat → Bool} (h : Tab s t w f) (o : Obj) : Tab s t (w.alloc o) f := by
  have hl := h.lt
  obtain ⟨cs, h, h1, h2⟩ := h
  exact ⟨cs, (Below.heap_alloc w o s hl).trans h, h1, h2⟩

def goodB (r : RunD) (k : Nat) : Bool := fitsB r (r.ribs.getD k default) && freeB (r.ribs.take k) (r.ribs.getD k default)
def coveredB (r : RunD) (i : Nat) : Bool := (List.range (r.webs.getD i default).cols.toNat).all fun c => cov r.ribs i c
theorem range_not {f : Nat → Bool} {n k : Nat} (hk : k < n) (hf : f k = false) : (List.range n).all f = false :=
  all_not (List.getElem?_range hk) hf
theorem range_next {f : Nat → Bool} {k : Nat} (h : Hid ((List.range k).all f = true)) (hf : f k = true) : Hid ((List.range (k + 1)).all f = true) := by
  show (List.range (k + 1)).all f = true
  rw [List.range_succ, List.all_append, h.out]
  simp [hf]
theorem ribs_bad {r : RunD} {k : Nat} (hk : k < r.ribs.length) (h : goodB r k = false) : ribsE r = 20 := by
  unfold ribsE disjB
  rw [range_not (f := fun k => fitsB r (r.ribs.getD k default) && freeB (r.ribs.take k) (r.ribs.getD k default)) hk h]; rfl
theorem ribs_open {r : RunD} {i : Nat} (hi : i < r.webs.length) (h : coveredB r i = false) : ribsE r = 20 := by
  unfold ribsE coverB
  rw [range_not (f := fun i => (List.range (r.webs.getD i default).cols.toNat).all fun c => cov r.ribs i c) hi h, Bool.and_false]; rfl
theorem ribs_ok {r : RunD} (h1 : Hid ((List.range r.ribs.length).all (goodB r) = true)) (h2 : Hid ((List.range r.webs.length).all (coveredB r) = true)) : ribsE r = 0 := by
  have e1 : disjB r = true := h1.out
  have e2 : coverB r = true := h2.out
  unfold ribsE
  rw [e1, e2]; rfl
theorem getD_of {α : Type} {l : List α} {k : Nat} {x d : α} (h : l[k]? = some x) : l.getD k d = x := by rw [List.getD_eq_getElem?_getD, h]; rfl
theorem cov_next {l : List RibD} {k : Nat} {x : RibD} (h : l[k]? = some x) (a c : Nat) : cov (l.take (k + 1)) a c = (cov (l.take k) a c || decide (x.web = a ∧ x.col ≤ c ∧ (c : Int) < x.col + x.width)) := by
  obtain ⟨hk, rfl⟩ := List.getElem?_eq_some_iff.1 h
  unfold cov
  rw [List.take_succ_eq_append_getElem hk, List.any_append]
  simp

theorem fits_elim {r : RunD} {x : RibD} (h : fitsB r x = true) (hc : ∀ y ∈ r.webs, 1 ≤ y.cols ∧ y.cols ≤ 4) : ∃ a p : Nat, x.web = a ∧ x.col = p ∧ a < r.webs.length ∧ 1 ≤ x.width ∧ x.width ≤ 2 ∧ (p : Int) + x.width ≤ 4 := by
  simp only [fitsB, Bool.and_eq_true, decide_eq_true_eq] at h
  obtain ⟨⟨⟨h1, h2, h3, h4⟩, -⟩, h5, h6⟩ := h
  have hm : x.web.toNat < r.webs.length := by omega
  have := hc _ (List.getElem_mem hm)
  rw [List.getD_eq_getElem?_getD, List.getElem?_eq_getElem hm] at h6
  simp only [Option.getD_some] at h6
  exact ⟨x.web.toNat, x.col.toNat, by omega, by omega, hm, h3, h4, by omega⟩
theorem free_no {l : List RibD} {a p m : Nat} {width : Int} {turned left : Bool} (h1 : p ≤ m) (h2 : (m : Int) < p + width) (h : cov l a m = true) : freeB l ⟨a, p, width, turned, left⟩ = false := by
  refine range_not (k := m - p) (by show m - p < width.toNat; omega) ?_
  show (!cov l (a : Int).toNat ((p : Int).toNat + (m - p))) = false
  rw [Int.toNat_natCast, Int.toNat_natCast, show p + (m - p) = m by omega, h]; rfl
theorem free_yes {l : List RibD} {a p : Nat} {width : Int} {turned left : Bool} (h : ∀ c, p ≤ c → (c : Int) < p + width → cov l a c = false) : freeB l ⟨a, p, width, turned, left⟩ = true := by
  refine List.all_eq_true.2 fun j hj => ?_
  have hj := List.mem_range.1 hj
  show (!cov l (a : Int).toNat ((p : Int).toNat + j)) = true
  rw [Int.toNat_natCast, Int.toNat_natCast, h (p + j) (by omega) (by simp only at hj; omega)]; rfl

set_option maxHeartbeats 2000000 in
theorem checkRibbons_any (v : Value) (r : RunD) (w : World) (h : RRun w.heap.size w v r) (hcols : ∀ y ∈ r.webs, 1 ≤ y.cols ∧ y.cols ≤ 4) (h8 : r.webs.length ≤ 8) :
    Calls Try.prog 65 #[v] w fun e w' => e = .returned (.int .i64 (ribsE r)) ∧ Below w.heap.size w w' := by
  have hrun := Lib.hid h
  obtain ⟨v1, v2, v3, rfl, hw, hr, hs⟩ := h
  obtain ⟨A, c, rfl, hA1, hA⟩ := hw.open_
  obtain ⟨A2, c2, rfl, hA2, hA3⟩ := hr.open_
  have HA := Lib.hid hA
  have HA3 := Lib.hid hA3
  have Hcols := Lib.hid hcols
  clear hw hr hs hA hA3 hcols
  go_enter Try.func65, Try.ntmps65
  go_wp2
  have b0 : Below w.heap.size w (w.alloc (.cells #[.slice A r.webs.length c, .slice A2 r.ribs.length c2, v3, .bool r.coll] 111)) := (Below.refl _ _).alloc (Nat.le_refl _) _
  have c0 := fun j x => box4 (w := w) (a := .slice A r.webs.length c) (b := .slice A2 r.ribs.length c2) (c := v3) (d := .bool r.coll) (t := 111) j x
  have z0 : (w.alloc (.cells #[.slice A r.webs.length c, .slice A2 r.ribs.length c2, v3, .bool r.coll] 111)).heap.size = w.heap.size + 1 := by simp
  generalize w.alloc (.cells #[.slice A r.webs.length c, .slice A2 r.ribs.length c2, v3, .bool r.coll] 111) = w1 at *
  have HT0 : ∃ w2 : World, w1.alloc (.cells (Array.replicate 32 (.bool false)) 151) = w2 ∧ Tab (w.heap.size + 1) 151 w2 (cov (r.ribs.take 0)) ∧ Below (w.heap.size + 1) w1 w2 := by
    refine ⟨_, rfl, ⟨Array.replicate 32 (.bool false), by rw [← z0]; exact heap_alloc_new w1 _, by simp, fun a c ha hc => ?_⟩, (Below.refl _ _).alloc (by omega) _⟩
    rw [Array.getElem?_replicate, if_pos (by omega)]
    simp [cov]
  obtain ⟨w2, e2, hT0, hB0⟩ := HT0
  simp only [Array.replicate_succ, Array.replicate_zero, List.push_toArray, List.nil_append, List.cons_append] at e2
  rw [e2]
  clear e2
  have C0 := Lib.hid c0
  clear c0
  go_loopw [14] (fun i wr => ∃ k : Nat, k ≤ r.ribs.length ∧ i = .int .i64 k ∧ Hid ((List.range k).all (goodB r) = true) ∧ Tab (w.heap.size + 1) 151 wr (cov (r.ribs.take k)) ∧ Below (w.heap.size + 1) w1 wr) (fun i _ => r.ribs.length - (intOf i).toNat)
  case atStart => exact ⟨0, Nat.zero_le _, rfl, rfl, hT0, hB0⟩
  case round =>
    obtain ⟨k, hk, rfl, ht, hT, hB⟩ := hrel
    have hBw : Below w.heap.size w wr := b0.trans (hB.mono (by omega))
    have zr : w.heap.size + 1 < wr.heap.size := hT.lt
    by_cases hlt : k < r.ribs.length
    · obtain ⟨x, hx⟩ : ∃ x, r.ribs[k]? = some x := ⟨_, List.getElem?_eq_getElem hlt⟩
      obtain ⟨g, o, rfl, hb, hc1, hc2, hc3, hc4, hc5⟩ := HA3.out k x hx
      rw [← hBw.cell (p := ⟨g, o + k * 5, none⟩) hb] at hc1
      rw [← hBw.cell (p := ⟨g, o + k * 5 + 1, none⟩) hb] at hc2
      rw [← hBw.cell (p := ⟨g, o + k * 5 + 2, none⟩) hb] at hc3
      rw [← hBw.cell (p := ⟨g, o + k * 5 + 3, none⟩) hb] at hc4
      rw [← hBw.cell (p := ⟨g, o + k * 5 + 4, none⟩) hb] at hc5
      have d0 := (hB.cell (p := ⟨w.heap.size, 0, none⟩) (by simp)).trans (C0.out 0 _ rfl)
      have d1 := (hB.cell (p := ⟨w.heap.size, 1, none⟩) (by simp)).trans (C0.out 1 _ rfl)
      have d2 := (hB.cell (p := ⟨w.heap.size, 2, none⟩) (by simp)).trans (C0.out 2 _ rfl)
      have d3 := (hB.cell (p := ⟨w.heap.size, 3, none⟩) (by simp)).trans (C0.out 3 _ rfl)
      have zr2 : w.heap.size < wr.heap.size := by omega
      have Hx := Lib.hid hx
      have hrun2 : ∀ ob : Obj, RRun (wr.alloc ob).heap.size (wr.alloc ob) (.agg #[.slice A r.webs.length c, .slice (some ⟨g, o, none⟩) r.ribs.length c2, v3, .bool r.coll]) r := fun ob =>
        ((hrun.out.below hBw).below (Below.refl _ _ |>.alloc (by omega) ob)).more (by have := hBw.size; simp; omega)
      have hTk := hT.alloc
      have hBk := fun ob => hB.alloc (B := w.heap.size + 1) (by omega) ob
      go_wp2_with fail
      refine (fits_any _ r x _ (hrun2 _) Hcols.out).mono ?_
      rintro e w3 ⟨rfl, hb3⟩
      have hT3 := (hTk _).below hb3 (hTk _).lt
      have hB3 := (hBk _).trans (hb3.mono (by simp; omega))
      have x1 : w3.cell? ⟨wr.heap.size, 0, none⟩ = some (.int .i64 x.web) := (hb3.cell (p := ⟨wr.heap.size, 0, none⟩) (by simp)).trans (by rw [World.cell?_alloc_at _ _ _ _ rfl]; rfl)
      have x2 : w3.cell? ⟨wr.heap.size, 1, none⟩ = some (.int .i64 x.col) := (hb3.cell (p := ⟨wr.heap.size, 1, none⟩) (by simp)).trans (by rw [World.cell?_alloc_at _ _ _ _ rfl]; rfl)
      have x3 : w3.cell? ⟨wr.heap.size, 2, none⟩ = some (.int .i64 x.width) := (hb3.cell (p := ⟨wr.heap.size, 2, none⟩) (by simp)).trans (by rw [World.cell?_alloc_at _ _ _ _ rfl]; rfl)
      have zb : wr.heap.size < w3.heap.size := by have := hb3.size; simp at this; omega
      clear hTk hBk hrun2 hb3 hc1 hc2 hc3 hc4 hc5 d0 d1 d2 d3 hT hB hBw
      obtain ⟨bx, hbx⟩ : ∃ bx, bx = wr.heap.size := ⟨_, rfl⟩
      rw [← hbx] at x1 x2 x3 zb zr ⊢
      clear hbx zr2
      have hBw : Below w.heap.size w w3 := b0.trans (hB3.mono (by omega))
      cases hfit : fitsB r x
      · have Hn := Lib.hid (ribs_bad hlt (by rw [goodB, getD_of Hx.out, hfit]; rfl))
        go_wp2
        go_ret
        exact ⟨ri Hn.out, hBw⟩
      · obtain ⟨web, col, width, turned, left⟩ := x
        obtain ⟨a, p, ha, hp, hal, hw1, hw2, hpw⟩ := fits_elim hfit Hcols.out
        dsimp only at x1 x2 x3 ha hp hw1 hw2 hpw
        subst ha hp
        have Hfit := Lib.hid hfit
        clear hfit
        go_wp2
        go_loopw [6] (fun i wr => ∃ m : Nat, p ≤ m ∧ (m : Int) ≤ p + width ∧ i = .int .i64 m ∧ Hid (∀ c, p ≤ c → c < m → cov (r.ribs.take k) a c = false) ∧
          Tab (w.heap.size + 1) 151 wr (fun a' c' => cov (r.ribs.take k) a' c' || (decide (a' = a) && decide (p ≤ c' ∧ c' < m))) ∧ Below (w.heap.size + 1) w1 wr ∧ bx < wr.heap.size ∧
          wr.cell? ⟨bx, 0, none⟩ = some (.int .i64 a) ∧ wr.cell? ⟨bx, 1, none⟩ = some (.int .i64 p) ∧ wr.cell? ⟨bx, 2, none⟩ = some (.int .i64 width)) (fun i _ => 4 - (intOf i).toNat)
        case atStart => exact ⟨p, by omega, by omega, rfl, fun c h1 h2 => by omega, hT3.same (fun a' c' _ _ => by simp; omega), hB3, zb, x1, x2, x3⟩
        case round =>
          obtain ⟨m, hm1, hm2, rfl, hfree, hTm, hBm, zbm, y1, y2, y3⟩ := hrel
          have hBw : Below w.heap.size w wr := b0.trans (hBm.mono (by omega))
          by_cases hmt : (m : Int) < p + width
          · obtain ⟨t1, t2⟩ := hTm.cell (a := a) (c := m) (by omega) (by omega)
            have et : (cov (r.ribs.take k) a m || (decide (a = a) && decide (p ≤ m ∧ m < m))) = cov (r.ribs.take k) a m := by simp
            rw [et] at t1
            clear et
            have i1 : (a : Int) < 8 := by omega
            have i2 : (m : Int) < 4 := by omega
            cases hcov : cov (r.ribs.take k) a m
            · rw [hcov] at t1
              have hT2 := (hTm.set (a := a) (c := m) (by omega) (by omega)).same (g := fun a' c' => cov (r.ribs.take k) a' c' || (decide (a' = a) && decide (p ≤ c' ∧ c' < m + 1))) fun a' c' _ _ => by
                generalize cov (r.ribs.take k) a' c' = b
                rw [Bool.eq_iff_iff]
                cases b <;> simp <;> omega
              have hf2 : Hid (∀ c, p ≤ c → c < m + 1 → cov (r.ribs.take k) a c = false) := fun c h1 h2 => by
                by_cases e : c = m
                · rw [e]; exact hcov
                · exact hfree.out c h1 (by omega)
              clear hcov
              have hne : (⟨w.heap.size + 1, a * 4 + m, none⟩ : Addr).block ≠ bx := by show w.heap.size + 1 ≠ bx; omega
              go_wp2
              go_roundw
              case rel =>
                exact ⟨m + 1, by omega, by omega, by go_num, hf2, hT2, hBm.setCell (p := ⟨w.heap.size + 1, a * 4 + m, none⟩) (Nat.le_refl _) _, by simpa [World.setCell] using zbm,
                  (cell_far _ _ _ _ hne).trans y1, (cell_far _ _ _ _ hne).trans y2, (cell_far _ _ _ _ hne).trans y3⟩
              case measure => simp [intOf]; omega
            · rw [hcov] at t1
              have Hn := Lib.hid (ribs_bad hlt (by rw [goodB, getD_of Hx.out, free_no hm1 hmt hcov, Bool.and_false]))
              clear hcov
              go_wp2
              go_ret
              exact ⟨ri Hn.out, hBw⟩
          · have hT2 := hTm.same (g := cov (r.ribs.take (k + 1))) fun a' c' _ _ => by
              rw [cov_next Hx.out]
              congr 1
              rw [← Bool.decide_and]
              exact decide_eq_decide.2 (by show _ ↔ (a : Int) = a' ∧ (p : Int) ≤ c' ∧ (c' : Int) < p + width; omega)
            have hgood : goodB r k = true := by
              rw [goodB, getD_of Hx.out, Hfit.out, free_yes (fun c h1 h2 => hfree.out c h1 (by omega))]; rfl
            have Hgood := Lib.hid hgood
            clear hgood
            go_wp2
            go_roundw
            case rel => exact ⟨k + 1, by omega, by go_num, range_next ht Hgood.out, hT2, hBm⟩
            case measure => simp [intOf]; omega
    · have hT2 := hT.same (g := cov r.ribs) fun a' c' _ _ => by rw [List.take_of_length_le (by omega)]
      have hd : Hid ((List.range r.ribs.length).all (goodB r) = true) := by
        have := ht.out
        rwa [show k = r.ribs.length by omega] at this
      clear ht hT
      have d0 := (hB.cell (p := ⟨w.heap.size, 0, none⟩) (by simp)).trans (C0.out 0 _ rfl)
      have zr2 : w.heap.size < wr.heap.size := by omega
      go_wp2
      clear d0 zr2
      go_loopw [49] (fun i wr => ∃ k : Nat, k ≤ r.webs.length ∧ i = .int .i64 k ∧ Hid ((List.range k).all (coveredB r) = true) ∧ Tab (w.heap.size + 1) 151 wr (cov r.ribs) ∧ Below (w.heap.size + 1) w1 wr) (fun i _ => r.webs.length - (intOf i).toNat)
      case atStart => exact ⟨0, Nat.zero_le _, rfl, rfl, hT2, hB⟩
      case round =>
        clear hBw hB hT2 zr
        obtain ⟨m, hm, rfl, hcv, hT, hB⟩ := hrel
        have hBw : Below w.heap.size w wr := b0.trans (hB.mono (by omega))
        have zr : w.heap.size + 1 < wr.heap.size := hT.lt
        by_cases hlt2 : m < r.webs.length
        · obtain ⟨x, hx⟩ : ∃ x, r.webs[m]? = some x := ⟨_, List.getElem?_eq_getElem hlt2⟩
          obtain ⟨g, o, u, rfl, hb, hc1, hc2, hc3, hp⟩ := HA.out m x hx
          rw [← hBw.cell (p := ⟨g, o + m * 3, none⟩) hb] at hc1
          rw [← hBw.cell (p := ⟨g, o + m * 3 + 1, none⟩) hb] at hc2
          rw [← hBw.cell (p := ⟨g, o + m * 3 + 2, none⟩) hb] at hc3
          obtain ⟨A5, c5, rfl, hA5⟩ := slice_len hp
          have hcx := Hcols.out x (List.mem_of_getElem? hx)
          have Hx := Lib.hid hx
          have hTk := hT.alloc
          have hBk := fun ob => hB.alloc (B := w.heap.size + 1) (by omega) ob
          clear hx hp
          obtain ⟨cols, rows, plates⟩ := x
          dsimp only at hc1 hc2 hc3 hcx hA5
          obtain ⟨q, rfl⟩ : ∃ q : Nat, cols = q := ⟨cols.toNat, by omega⟩
          go_wp2
          have hTk2 := hTk (Obj.cells #[Value.int IntKind.i64 q, Value.int IntKind.i64 rows, Value.slice A5 plates.length c5] 87)
          have hBk2 := hBk (Obj.cells #[Value.int IntKind.i64 q, Value.int IntKind.i64 rows, Value.slice A5 plates.length c5] 87)
          clear hTk hBk hc1 hc2 hc3 hT hB hBw zr
          generalize wr.alloc (Obj.cells #[Value.int IntKind.i64 q, Value.int IntKind.i64 rows, Value.slice A5 plates.length c5] 87) = w4 at *
          have hBw : Below w.heap.size w w4 := b0.trans (hBk2.mono (by omega))
          go_loop [56] (fun i => ∃ c : Nat, c ≤ q ∧ i = .int .i64 c ∧ Hid ((List.range c).all (fun c => cov r.ribs m c) = true)) (fun i => q - (intOf i).toNat)
          case atStart => exact ⟨0, Nat.zero_le _, rfl, rfl⟩
          case round =>
            obtain ⟨j, hj, rfl, hcj⟩ := hrel
            by_cases hjt : j < q
            · obtain ⟨t1, t2⟩ := hTk2.cell (a := m) (c := j) (by omega) (by omega)
              have i1 : (m : Int) < 8 := by omega
              have i2 : (j : Int) < 4 := by omega
              cases hcov : cov r.ribs m j
              · rw [hcov] at t1
                have Hn := Lib.hid (ribs_open hlt2 (by unfold coveredB; rw [getD_of Hx.out]; exact range_not (show j < (q : Int).toNat by omega) hcov))
                clear hcov
                go_wp2
                go_ret
                exact ⟨ri Hn.out, hBw⟩
              · rw [hcov] at t1
                have Hc := Lib.hid hcov
                clear hcov
                go_wp2
                go_round
                case rel => exact ⟨j + 1, by omega, by go_num, range_next hcj Hc.out⟩
                case measure => simp [intOf]; omega
            · have hcw : coveredB r m = true := by
                unfold coveredB
                rw [getD_of Hx.out]
                have := hcj.out
                rwa [show j = ((q : Int)).toNat by omega] at this
              have Hcw := Lib.hid hcw
              clear hcw
              go_wp2
              go_roundw
              case rel => exact ⟨m + 1, by omega, by go_num, range_next hcv Hcw.out, hTk2, hBk2⟩
              case measure => simp [intOf]; omega
        · have Hn := Lib.hid (ribs_ok hd (by
            have := hcv.out
            rwa [show m = r.webs.length by omega] at this))
          go_wp2
          go_ret
          exact ⟨ri Hn.out, hBw⟩
end Go.Proofs.Ytdbfhdncjblleaa
