/-
  Waste and Copies of a desk.
-/
import Derived.Test.YtffodgpafiifcaaOf
namespace Go.Proofs.Ytffodgpafiifcaa
open Go.RowKit

theorem take_one {α : Type} {l : List α} {k : Nat} {x : α} (h : l[k]? = some x) : l.take (k + 1) = l.take k ++ [x] := by
  obtain ⟨hk, rfl⟩ := List.getElem?_eq_some_iff.1 h
  rw [List.take_succ_eq_append_getElem hk]
def wasteD (cs : List CopyD) : Nat := (cs.filter fun c => !c.good).length
theorem wasteD_next {cs : List CopyD} {k : Nat} {c : CopyD} (h : cs[k]? = some c) : wasteD (cs.take (k + 1)) = wasteD (cs.take k) + if c.good then 0 else 1 := by
  unfold wasteD
  rw [take_one h, List.filter_append, List.length_append]
  cases hb : c.good <;> simp [List.filter_cons, hb]
theorem wasteD_le (cs : List CopyD) : wasteD cs ≤ cs.length := List.length_filter_le _ _
/-- Copies with their rows, of one's own. -/
structure OCps (base : Nat) (w : World) (v : Value) (cs : List CopyD) (es : List (Value × Value)) : Prop where
  rows : w.ownsRow base 72 4 v cs.length (rowsC cs es)
  len : es.length = cs.length
  each : ∀ (i : Nat) (c : CopyD) (e : Value × Value), cs[i]? = some c → es[i]? = some e → OInts base w e.1 c.errors ∧ OInts base w e.2 c.moves
theorem DeskAt.cps {base D : Nat} {w : World} {d : DeskD} {mv cv pv : Value} {Cs : List Nat} {vs : List Value} {es : List (Value × Value)} (h : DeskAt base w D d mv cv pv Cs vs es) : OCps base w pv d.copies es := ⟨h.rows, h.len, h.each⟩
theorem OCps.nil (base : Nat) (w : World) : OCps base w (.slice none 0 0) [] [] := ⟨World.ownsRow_nil _ _ _ _, rfl, fun i c e h => by simp at h⟩
/-- The cells of copy k, and its rows. -/
theorem OCps.at {base : Nat} {w : World} {A : Option Addr} {n cap : Nat} {cs : List CopyD} {es : List (Value × Value)} (h : OCps base w (.slice A n cap) cs es) {k : Nat} {c : CopyD} (hc : cs[k]? = some c) :
    ∃ g o ve vm, A = some ⟨g, o, none⟩ ∧ g < w.heap.size ∧ w.cell? ⟨g, o + k * 4, none⟩ = some (.bool c.good) ∧ w.cell? ⟨g, o + k * 4 + 1, none⟩ = some (.int .i64 c.shift) ∧ w.cell? ⟨g, o + k * 4 + 2, none⟩ = some ve ∧ w.cell? ⟨g, o + k * 4 + 3, none⟩ = some vm ∧
      OInts base w ve c.errors ∧ OInts base w vm c.moves := by
  have hk := (List.getElem?_eq_some_iff.1 hc).1
  have hk2 : k < es.length := by rw [h.len]; exact hk
  have he : es[k]? = some es[k] := List.getElem?_eq_getElem hk2
  obtain ⟨h1, h2⟩ := h.each k c _ hc he
  obtain ⟨A', c', e', -, hlm, hr⟩ := Rd.own h.rows (own_le h.rows)
  cases e'
  obtain ⟨g, o, hA, hb, hcl⟩ := hr (by omega)
  have hz : (cs.zip es)[k]? = some (c, es[k]) := by rw [List.getElem?_zip_eq_some]; exact ⟨hc, he⟩
  have hf := fun j (hj : j < 4) => flat_at (fun x : CopyD × (Value × Value) => [Value.bool x.1.good, Value.int .i64 x.1.shift, x.2.1, x.2.2]) 4 (fun _ => rfl) (cs.zip es) k j _ hz hj
  refine ⟨g, o, es[k].1, es[k].2, hA, hb, ?_, ?_, ?_, ?_, h1, h2⟩
  · exact hcl (k * 4) _ (by have := hf 0 (by omega); simpa [rowsC] using this)
  · have := hcl (k * 4 + 1) (.int .i64 c.shift) (by have := hf 1 (by omega); simpa [rowsC] using this)
    rwa [← Nat.add_assoc] at this
  · have := hcl (k * 4 + 2) es[k].1 (by have := hf 2 (by omega); simpa [rowsC] using this)
    rwa [← Nat.add_assoc] at this
  · have := hcl (k * 4 + 3) es[k].2 (by have := hf 3 (by omega); simpa [rowsC] using this)
    rwa [← Nat.add_assoc] at this
theorem OCps.below {base : Nat} {w w' : World} {v : Value} {cs : List CopyD} {es : List (Value × Value)} (h : OCps base w v cs es) (hb : Below w.heap.size w w') : OCps base w' v cs es :=
  ⟨ownsRow_below h.rows hb, h.len, fun i c e hc he => ⟨ownsRow_below (h.each i c e hc he).1 hb, ownsRow_below (h.each i c e hc he).2 hb⟩⟩
theorem OCps.lt_ {base : Nat} {w : World} {v : Value} {cs : List CopyD} {es : List (Value × Value)} (h : OCps base w v cs es) {a : Value × Value} (ha : a ∈ es) {k : Nat} (hk : a.1.ownBlock = some k ∨ a.2.ownBlock = some k) : base ≤ k ∧ k < w.heap.size := by
  obtain ⟨i, hi, rfl⟩ := List.getElem_of_mem ha
  have hi' : i < cs.length := by rw [← h.len]; exact hi
  obtain ⟨h1, h2⟩ := h.each i _ _ (List.getElem?_eq_getElem hi') (List.getElem?_eq_getElem hi)
  rcases hk with hk | hk
  · exact h1.lt k hk
  · exact h2.lt k hk
/-- The errors of a copy lie below the rows of later copies. -/
def Rising (es : List (Value × Value)) : Prop := ∀ (i j : Nat) (a b : Value × Value) (k m : Nat), i < j → es[i]? = some a → es[j]? = some b → a.1.ownBlock = some k → (b.1.ownBlock = some m ∨ b.2.ownBlock = some m) → k < m
theorem Rising.nil : Rising [] := fun i j a b k m h h1 => by simp at h1
theorem Rising.snoc {es : List (Value × Value)} {e : Value × Value} {n : Nat} (h : Rising es) (hlo : ∀ a ∈ es, ∀ k, a.1.ownBlock = some k → k < n) (hhi : ∀ m, (e.1.ownBlock = some m ∨ e.2.ownBlock = some m) → n ≤ m) : Rising (es ++ [e]) := fun i j a b k m hij ha hb hk hm => by
  rcases snoc_get hb with ⟨hj, hb'⟩ | ⟨hj, rfl⟩
  · have hi : i < es.length := by omega
    rw [List.getElem?_append_left hi] at ha
    exact h i j a b k m hij ha hb' hk hm
  · have hi : i < es.length := by omega
    rw [List.getElem?_append_left hi] at ha
    have := hlo a (List.mem_of_getElem? ha) k hk
    have := hhi m hm
    omega
theorem OCps.form {base : Nat} {w : World} {v : Value} {cs : List CopyD} {es : List (Value × Value)} (h : OCps base w v cs es) : ∃ A c, v = .slice A cs.length c := ownsRow_form h.rows

set_option maxRecDepth 100000 in
set_option maxHeartbeats 4000000 in
theorem Waste_any (base D : Nat) (d : DeskD) (mv cv pv : Value) (Cs : List Nat) (vs : List Value) (es : List (Value × Value)) (w : World) (h : DeskAt base w D d mv cv pv Cs vs es) (hp : d.copies.length ≤ 5000) :
    Calls Try.prog 36 #[.pointer (some ⟨D, 0, none⟩)] w fun e w' => e = .returned (.tuple #[.int .i64 (wasteD d.copies : Nat), .int .i64 0]) ∧ Below w.heap.size w w' := by
  have hO := h.cps
  obtain ⟨Ap, cp, rfl⟩ := hO.form
  obtain ⟨n, hn⟩ : ∃ n, d.copies.length = n := ⟨_, rfl⟩
  rw [hn] at hO hp
  have HO := Lib.hid hO
  have HN := Lib.hid hn
  have CI := Lib.hid (isMade_any D w (cellOf h.desk 2 rfl))
  have z5 : w.cell? ⟨D, 5, none⟩ = some (.slice Ap n cp) := by
    have := cellOf h.desk 5 (x := .slice Ap d.copies.length cp) rfl
    rwa [hn] at this
  clear h hO hn
  go_enter Try.func36, Try.ntmps36
  go_wp2_with fail
  refine CI.out.mono ?_
  rintro _ _ ⟨rfl, rfl⟩
  go_wp2
  clear z5 CI
  go_loopw [4, 6, 15] (fun t _ iq wr => ∃ k : Nat, k ≤ n ∧ iq = .int .i64 k ∧ t = .int .i64 (wasteD (d.copies.take k) : Nat) ∧ Below w.heap.size w wr) (fun _ _ iq _ => n - (intOf iq).toNat)
  case atStart => exact ⟨0, Nat.zero_le _, rfl, rfl, Below.refl _ _⟩
  case round =>
    obtain ⟨k, hk, rfl, rfl, hb⟩ := hrel
    have HB := Lib.hid hb
    have hwl := wasteD_le (d.copies.take k)
    rw [List.length_take] at hwl
    by_cases hlt : k < n
    · obtain ⟨c, hc⟩ : ∃ c, d.copies[k]? = some c := ⟨_, List.getElem?_eq_getElem (by rw [HN.out]; exact hlt)⟩
      obtain ⟨g, o, ve, vm, rfl, hg, c0, c1, c2, c3, he, hm⟩ := HO.out.at hc
      obtain ⟨Ae, ce, rfl⟩ := ownsRow_form he
      obtain ⟨Am, cm, rfl⟩ := ownsRow_form hm
      have c0' := (hb.cell (p := ⟨g, o + k * 4, none⟩) hg).trans c0
      have c1' := (hb.cell (p := ⟨g, o + k * 4 + 1, none⟩) hg).trans c1
      have c2' := (hb.cell (p := ⟨g, o + k * 4 + 2, none⟩) hg).trans c2
      have c3' := (hb.cell (p := ⟨g, o + k * 4 + 3, none⟩) hg).trans c3
      have hnx := wasteD_next hc
      obtain ⟨N, hN⟩ : ∃ N, wasteD (d.copies.take k) = N := ⟨_, rfl⟩
      rw [hN] at hnx hwl ⊢
      have HNX := Lib.hid hnx
      obtain ⟨gd, hgd⟩ : ∃ gd, c.good = gd := ⟨_, rfl⟩
      rw [hgd] at c0' HNX
      have ik : (k : Int) < (n : Int) := by omega
      have HBa := fun o => HB.out.alloc HB.out.size o
      clear hc c0 c1 c2 c3 he hm hnx hN hgd hb
      cases gd
      · go_wp2
        go_roundw
        case rel => exact ⟨k + 1, by omega, by go_num, by rw [HNX.out]; go_num, HBa _⟩
        case measure => simp [intOf]; omega
      · go_wp2
        go_roundw
        case rel => exact ⟨k + 1, by omega, by go_num, by rw [HNX.out]; rfl, HBa _⟩
        case measure => simp [intOf]; omega
    · obtain rfl : n = k := by omega
      have ht : d.copies.take n = d.copies := List.take_of_length_le (by rw [HN.out]; exact Nat.le_refl _)
      rw [ht]
      clear ht hb hwl
      go_wp2
      refine bodyPost_ret (v := .tuple #[.int .i64 (wasteD d.copies : Nat), .int .i64 0]) (by simp [results, Try.results36, go_sem]) rfl ⟨rfl, HB.out⟩

set_option maxRecDepth 100000 in
set_option maxHeartbeats 4000000 in
theorem Copies_any (base D : Nat) (d : DeskD) (mv cv pv : Value) (Cs : List Nat) (vs : List Value) (es : List (Value × Value)) (w : World) (h : DeskAt base w D d mv cv pv Cs vs es) (hp : d.copies.length ≤ 5000) (hls : ∀ c ∈ d.copies, c.errors.length ≤ 1000000 ∧ c.moves.length ≤ 1000000) :
    Calls Try.prog 35 #[.pointer (some ⟨D, 0, none⟩)] w fun e w' => ∃ u es', e = .returned (.tuple #[u, .int .i64 0]) ∧ OCps w.heap.size w' u d.copies es' ∧ Rising es' ∧ Below w.heap.size w w' := by
  have hO := h.cps
  obtain ⟨Ap, cp, rfl⟩ := hO.form
  obtain ⟨n, hn⟩ : ∃ n, d.copies.length = n := ⟨_, rfl⟩
  rw [hn] at hO hp
  have HO := Lib.hid hO
  have HN := Lib.hid hn
  have HLs := Lib.hid hls
  have CI := Lib.hid (isMade_any D w (cellOf h.desk 2 rfl))
  have z5 : w.cell? ⟨D, 5, none⟩ = some (.slice Ap n cp) := by
    have := cellOf h.desk 5 (x := .slice Ap d.copies.length cp) rfl
    rwa [hn] at this
  obtain ⟨i1, hi1, hy0, hy1, hy2⟩ := info_parts infoCopy
  clear h hO hn hls
  go_enter Try.func35, Try.ntmps35
  go_wp2_with fail
  refine CI.out.mono ?_
  rintro _ _ ⟨rfl, rfl⟩
  go_wp2
  clear z5 CI
  go_loopw [4, 6, 15] (fun u _ iq wr => ∃ (k : Nat) (es' : List (Value × Value)), k ≤ n ∧ iq = .int .i64 k ∧ OCps w.heap.size wr u (d.copies.take k) es' ∧ Rising es' ∧ Below w.heap.size w wr) (fun _ _ iq _ => n - (intOf iq).toNat)
  case atStart => exact ⟨0, [], Nat.zero_le _, rfl, OCps.nil _ _, Rising.nil, Below.refl _ _⟩
  case round =>
    obtain ⟨k, es', hk, rfl, ho, hri, hb⟩ := hrel
    have HRi := Lib.hid hri
    clear hri
    have HB := Lib.hid hb
    have hlen : (d.copies.take k).length = k := by rw [List.length_take, HN.out]; omega
    obtain ⟨Au, cu, rfl⟩ : ∃ A c, u4 = .slice A k c := by
      obtain ⟨A, c, e⟩ := ho.form
      rw [hlen] at e
      exact ⟨A, c, e⟩
    have HU := Lib.hid ho
    by_cases hlt : k < n
    · obtain ⟨c, hc⟩ : ∃ c, d.copies[k]? = some c := ⟨_, List.getElem?_eq_getElem (by rw [HN.out]; exact hlt)⟩
      obtain ⟨g, o, ve, vm, rfl, hg, c0, c1, c2, c3, he, hm⟩ := HO.out.at hc
      obtain ⟨Ae, ce, rfl⟩ := ownsRow_form he
      obtain ⟨Am, cm, rfl⟩ := ownsRow_form hm
      have c0' := (hb.cell (p := ⟨g, o + k * 4, none⟩) hg).trans c0
      have c1' := (hb.cell (p := ⟨g, o + k * 4 + 1, none⟩) hg).trans c1
      have c2' := (hb.cell (p := ⟨g, o + k * 4 + 2, none⟩) hg).trans c2
      have c3' := (hb.cell (p := ⟨g, o + k * 4 + 3, none⟩) hg).trans c3
      have hll := HLs.out c (List.mem_of_getElem? hc)
      obtain ⟨w1, e1, B1⟩ : ∃ w1, wr.alloc (.cells #[.bool c.good, .int .i64 c.shift, .slice Ae c.errors.length ce, .slice Am c.moves.length cm] 72) = w1 ∧ Below wr.heap.size wr w1 := ⟨_, rfl, below_alloc _ _⟩
      have E1 := Lib.hid e1
      have hw1 : Below w.heap.size w w1 := hb.trans (B1.mono hb.size)
      have HW1 := Lib.hid hw1
      have HU1 := Lib.hid (ho.below B1)
      have he1 := ownsRow_below he hw1
      have hm1 := ownsRow_below hm hw1
      have CC := Lib.hid (clone_any c.good c.shift (.slice Ae c.errors.length ce) (.slice Am c.moves.length cm) c.errors c.moves w1 (Rd.own he1 (own_le he1)) (Rd.own hm1 (own_le hm1)) hll.1 hll.2)
      have hK1 : Blk w1 wr.heap.size 72 #[.bool c.good, .int .i64 c.shift, .slice Ae c.errors.length ce, .slice Am c.moves.length cm] := by rw [← e1]; exact Blk.new _ _ _
      have HC := Lib.hid hc
      have ik : (k : Int) < (n : Int) := by omega
      have q0 := cellOf hK1 0 (x := .bool c.good) rfl
      have q1 := cellOf hK1 1 (x := .int .i64 c.shift) rfl
      have q2 := cellOf hK1 2 (x := .slice Ae c.errors.length ce) rfl
      have q3 := cellOf hK1 3 (x := .slice Am c.moves.length cm) rfl
      clear hc c0 c1 c2 c3 he hm hb e1 B1 hw1 he1 hm1 hK1 ho hlen
      go_upto_region 7 with fail
      rw [E1.out]
      clear c0' c1' c2' c3'
      go_wp2_with fail
      refine CC.out.mono ?_
      rintro _ w2 ⟨ue, um, rfl, hue, hum, hb2⟩
      obtain ⟨A2, k2, rfl⟩ := ownsRow_form hue
      obtain ⟨A3, k3, rfl⟩ := ownsRow_form hum
      have HU2 := Lib.hid (HU1.out.below hb2)
      have HR2 : Hid (w2.ownsRow w.heap.size 72 4 (.slice Au k cu) k (rowsC (d.copies.take k) es')) := Lib.hid (by
        have h9 := HU2.out.rows
        rw [List.length_take, HN.out, Nat.min_eq_left hk] at h9
        exact h9)
      have HW2 := Lib.hid (HW1.out.trans (hb2.mono HW1.out.size))
      have hzw := HW2.out.size
      have HRi2 : Hid (Rising (es' ++ [(.slice A2 c.errors.length k2, .slice A3 c.moves.length k3)])) := Lib.hid (HRi.out.snoc (n := w1.heap.size) (fun a ha k hk => (HU1.out.lt_ ha (.inl hk)).2) fun m hm => by
        rcases hm with hm | hm
        · exact (hue.lt m hm).1
        · exact (hum.lt m hm).1)
      have HUE := Lib.hid (ownsRow_base (b' := w.heap.size) hue HW1.out.size)
      have HUM := Lib.hid (ownsRow_base (b' := w.heap.size) hum HW1.out.size)
      clear hue hum hb2 CC q0 q1 q2 q3
      go_wp2_with (at_builtin; refine wpList_append_lies _ rfl _ _ 79 rfl w.heap.size 72 i1 _ 4 64 Try.underlying79 hi1 hy0 hy1 hy2 rfl (by decide) (.slice Au k cu) k _ rfl (HR2.out.alloc _) ⟨w2.heap.size, 0, none⟩ 1 1 [.bool c.good, .int .i64 c.shift, .slice A2 c.errors.length k2, .slice A3 c.moves.length k3] rfl rfl (cells_new _ _ _) (by simp [Value.oneCell']) (by omega) (by simp only [maxLen]; omega) (by omega) (by simp; omega) (w2.heap.size + 1) (by simp) ?_; intro g8 c8 w3 hown hgrow hat hlt3)
      have HN3 : Hid (OCps w.heap.size w3 (.slice (some ⟨g8, 0, none⟩) (k + 1) c8) (d.copies.take (k + 1)) (es' ++ [(.slice A2 c.errors.length k2, .slice A3 c.moves.length k3)]) ∧ Below w.heap.size w w3) := Lib.hid (by
        have hgr : Grew 72 w2 w3 := (Grew.of_below (below_alloc w2 _)).trans fun b cs' t fr hc hne => by
          refine hgrow.block b (Array.getElem?_eq_some_iff.1 hc).1 fun he => ?_
          rcases HR2.out.2 with ⟨h9, -⟩ | ⟨g', c', cur, h9, -, hB, -⟩
          · rw [h9] at he; cases he
          · rw [h9] at he
            obtain rfl : b = g' := by injection he
            have h8 := (Below.heap_alloc w2 (.cells #[.bool c.good, .int .i64 c.shift, .slice A2 c.errors.length k2, .slice A3 c.moves.length k3] 72) b (Array.getElem?_eq_some_iff.1 hB).1).trans hB
            rw [h8] at hc
            injection hc with hc
            injection hc with hc1 hc2
            exact hne hc2.symm
        refine ⟨⟨?_, ?_, fun i c9 e9 hc9 he9 => ?_⟩, (HW2.out.alloc hzw _).grown hgrow (by simp; omega) fun j hj => (HR2.out.lt j hj).1⟩
        · rw [take_one HC.out, rowsC_snoc HU2.out.len, List.length_append, List.length_take, HN.out, Nat.min_eq_left hk]
          exact hown
        · rw [take_one HC.out, List.length_append, List.length_append, HU2.out.len]
          rfl
        · rw [take_one HC.out] at hc9
          rcases snoc_get hc9 with ⟨hi9, hc9'⟩ | ⟨hi9, rfl⟩
          · have he9' : es'[i]? = some e9 := by rwa [List.getElem?_append_left (by rw [HU2.out.len]; exact hi9)] at he9
            obtain ⟨a1, a2⟩ := HU2.out.each i c9 e9 hc9' he9'
            exact ⟨ownsRow_grew a1 hgr (by decide), ownsRow_grew a2 hgr (by decide)⟩
          · have he9' : e9 = (.slice A2 c9.errors.length k2, .slice A3 c9.moves.length k3) := by
              rw [hi9, ← HU2.out.len, List.getElem?_concat_length] at he9
              cases he9
              rfl
            subst he9'
            exact ⟨ownsRow_grew HUE.out hgr (by decide), ownsRow_grew HUM.out hgr (by decide)⟩)
      clear hown hgrow hat hlt3
      go_wp2
      go_roundw
      case rel => exact ⟨k + 1, _, by omega, by go_num, HN3.out.1, HRi2.out, HN3.out.2⟩
      case measure => simp [intOf]; omega
    · obtain rfl : n = k := by omega
      have ht : d.copies.take n = d.copies := List.take_of_length_le (by rw [HN.out]; exact Nat.le_refl _)
      rw [ht] at HU
      clear ht hb ho hlen
      go_wp2
      refine bodyPost_ret (v := .tuple #[.slice Au n cu, .int .i64 0]) (by simp [results, Try.results35, go_sem]) rfl ⟨_, es', rfl, HU.out, HRi.out, HB.out⟩
end Go.Proofs.Ytffodgpafiifcaa
