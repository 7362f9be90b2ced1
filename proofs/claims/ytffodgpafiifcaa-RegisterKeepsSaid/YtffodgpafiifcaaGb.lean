/-
  A ROW OF ONE'S OWN SEEN THROUGH A WINDOW: a slice of one-cell elements that lies in a block of one's own, at any offset (a queue: appended to behind, cut ahead).
-/
import Derived.ArgAppend
import Derived.Test.YtffodgpafiifcaaGa
namespace Go.Proofs.Ytffodgpafiifcaa
open Go.RowKit

/-- The slice v, of n one-cell elements xs, lies in a block of its own from base on. -/
def QRow (base : Nat) (e : TypeId) (w : World) (v : Value) (n : Nat) (xs : List Value) : Prop :=
  xs.length = n ∧ ((v = .slice none 0 0 ∧ n = 0) ∨
    ∃ g o cap cur, v = .slice (some ⟨g, o, none⟩) n cap ∧ base ≤ g ∧ Blk w g e cur ∧ n ≤ cap ∧ cap ≤ maxLen ∧ o + cap ≤ cur.size ∧ ∀ j u, xs[j]? = some u → cur[o + j]? = some u)

section
variable {base : Nat} {e : TypeId} {w w' : World} {v : Value} {n : Nat} {xs : List Value}
theorem QRow.of_own (h : w.ownsRow base e 1 v n xs) : QRow base e w v n xs := by
  refine ⟨by simpa using h.1, ?_⟩
  rcases h.2 with h2 | ⟨g, cap, cur, rfl, hb, hg, hn, hm, hs, ht⟩
  · exact .inl h2
  · refine .inr ⟨g, 0, cap, cur, rfl, hb, hg, hn, hm, by omega, fun j u hu => ?_⟩
    rw [← ht, List.getElem?_take] at hu
    split at hu
    · simpa using hu
    · cases hu
theorem QRow.nil : QRow base e w (.slice none 0 0) 0 [] := ⟨rfl, .inl ⟨rfl, rfl⟩⟩
theorem QRow.len (h : QRow base e w v n xs) : xs.length = n := h.1
theorem QRow.form (h : QRow base e w v n xs) : ∃ A c, v = .slice A n c := by
  rcases h.2 with ⟨rfl, rfl⟩ | ⟨g, o, cap, cur, rfl, _⟩
  · exact ⟨_, _, rfl⟩
  · exact ⟨_, _, rfl⟩
/-- All that the row lies in is kept. -/
theorem QRow.keep (h : QRow base e w v n xs) (hk : ∀ g cs, v.ownBlock = some g → Blk w g e cs → Blk w' g e cs) : QRow base e w' v n xs := by
  refine ⟨h.1, ?_⟩
  rcases h.2 with h2 | ⟨g, o, cap, cur, rfl, hb, hg, r⟩
  · exact .inl h2
  · exact .inr ⟨g, o, cap, cur, rfl, hb, hk g cur rfl hg, r⟩
theorem QRow.below (h : QRow base e w v n xs) (hb : Below w.heap.size w w') : QRow base e w' v n xs := h.keep fun _ _ _ hB => hB.below hb hB.lt
theorem QRow.alloc (h : QRow base e w v n xs) (o : Obj) : QRow base e (w.alloc o) v n xs := h.keep fun _ _ _ hB => hB.alloc o
theorem QRow.block (h : QRow base e w v n xs) : ∀ g, v.ownBlock = some g → base ≤ g ∧ g < w.heap.size ∧ ∃ cs, Blk w g e cs := by
  intro g hg
  rcases h.2 with ⟨rfl, _⟩ | ⟨g', o, cap, cur, rfl, hb, hB, _⟩
  · simp [Value.ownBlock] at hg
  · obtain rfl : g' = g := by simpa [Value.ownBlock] using hg
    exact ⟨hb, hB.lt, cur, hB⟩
/-- A block of another type is no part of the row. -/
theorem QRow.other (h : QRow base e w v n xs) {C : Nat} {t : TypeId} {cs : Array Value} (hC : Blk w C t cs) (hne : t ≠ e) : some C ≠ v.ownBlock := fun he => by
  obtain ⟨-, -, cs', hB⟩ := h.block C he.symm
  have := hC.symm.trans hB
  simp at this
  exact hne this.2
theorem QRow.set_other (h : QRow base e w v n xs) {C : Nat} {t : TypeId} {cs : Array Value} (hC : Blk w C t cs) (hne : t ≠ e) (i : Nat) (u : Value) : QRow base e (w.setCell ⟨C, i, none⟩ u) v n xs := by
  refine h.keep fun g cs' hg hB => hB.far (p := ⟨C, i, none⟩) (fun he => ?_) u
  have he' : g = C := he
  subst he'
  exact h.other hC hne hg.symm
theorem QRow.at (h : QRow base e w v n xs) {A : Option Addr} {c : Nat} (hv : v = .slice A n c) {j : Nat} {u : Value} (hu : xs[j]? = some u) : ∃ g o, A = some ⟨g, o, none⟩ ∧ w.cell? ⟨g, o + j, none⟩ = some u ∧ base ≤ g ∧ g < w.heap.size := by
  rcases h.2 with ⟨rfl, rfl⟩ | ⟨g, o, cap, cur, rfl, hb, hB, hn, hm, hs, hc⟩
  · have := h.1
    rw [List.eq_nil_of_length_eq_zero this] at hu
    simp at hu
  · cases hv
    exact ⟨g, o, rfl, by rw [hB.cell]; exact hc j u hu, hb, hB.lt⟩
theorem QRow.rd (h : QRow base e w v n xs) (hn : n ≤ maxLen) : Rd w.heap.size w 1 v n xs := by
  have hat := fun A c hv j u => h.at (A := A) (c := c) hv (j := j) (u := u)
  rcases h.2 with ⟨rfl, rfl⟩ | ⟨g, o, cap, cur, rfl, hb, hB, r⟩
  · exact ⟨none, 0, rfl, h.1, hn, fun h0 => absurd h0 (by omega)⟩
  · refine ⟨_, _, rfl, by rw [h.1]; omega, hn, fun _ => ⟨g, o, rfl, hB.lt, fun j u hu => ?_⟩⟩
    obtain ⟨g', o', he, hc, -⟩ := hat _ _ rfl j u hu
    cases he
    exact hc
/-- The first element is cut off. -/
theorem QRow.tail {g o cap : Nat} (h : QRow base e w (.slice (some ⟨g, o, none⟩) (n + 1) cap) (n + 1) xs) :
    (∀ A, A = some (⟨g, o + 1, none⟩ : Addr) ∨ (cap = 1 ∧ A = some (⟨g, o, none⟩ : Addr)) → QRow base e w (.slice A n (cap - 1)) n xs.tail) ∧ 1 ≤ cap := by
  rcases h.2 with ⟨h2, -⟩ | ⟨g', o', cap', cur, he, hb, hB, hn, hm, hs, hc⟩
  · cases h2
  · cases he
    refine ⟨fun A hA => ⟨by rw [List.length_tail, h.1]; omega, .inr ?_⟩, by omega⟩
    rcases hA with rfl | ⟨h1, rfl⟩
    · exact ⟨g, o + 1, cap - 1, cur, rfl, hb, hB, by omega, by omega, by omega, fun j u hu => by
        rw [List.getElem?_tail] at hu
        rw [show o + 1 + j = o + (j + 1) by omega]
        exact hc _ _ hu⟩
    · exact ⟨g, o, cap - 1, cur, rfl, hb, hB, by omega, by omega, by omega, fun j u hu => by
        rw [List.getElem?_tail] at hu
        have h4 := (List.getElem?_eq_some_iff.1 hu).1
        have h5 := h.1
        omega⟩
end

/-- One element more. -/
theorem run_append_q {P : Program} (w : World) (t ty : TypeId) (base : Nat) (e : TypeId) (i : TypeInfo) (z : Value) (bytes : Nat) (ht : P.underlying t = some (.slice e)) (hi : P.info? e = some i) (hz : i.zero = some z)
    (hsize : i.size = 1) (hby : i.bytes = bytes) (hzs : z.cells.size = 1) (v : Value) (n : Nat) (xs : List Value) (h : QRow base e w v n xs) (ad : Addr) (c : Nat) (x : Value) (hx : w.cell? ad = some x) (h1 : x.oneCell' = true)
    (h63 : n + 1 ≤ maxLen) (hbytes : (n + 1) * bytes ≤ 140737488355328) (hbase : base ≤ w.heap.size) :
    ∃ v' w', (Builtin.append_ #[t, t] ty #[v, .slice (some ad) 1 c]).run P w = .ok v' w' ∧ QRow base e w' v' (n + 1) (xs ++ [x]) ∧ w.grownBy w' v.ownBlock ∧ (v'.ownBlock = v.ownBlock ∨ ∃ k, v'.ownBlock = some k ∧ w.heap.size ≤ k) ∧ ∃ g o cap, v' = .slice (some ⟨g, o, none⟩) (n + 1) cap := by
  have hnews : ∀ j u, [x][j]? = some u → w.cell? (ad.add j) = some u := fun j u hu => by
    have hj := (List.getElem?_eq_some_iff.1 hu).1
    obtain rfl : j = 0 := by simpa using hj
    obtain rfl : x = u := by simpa using hu
    have e0 : ad.add 0 = ad := by unfold Addr.add; simp
    rw [e0]; exact hx
  have h1' : ∀ u ∈ [x], u.oneCell' = true := fun u hu => by
    obtain rfl : u = x := by simpa using hu
    exact h1
  have hform : ∀ {w' : World} {v' : Value} {ys : List Value}, w'.ownsRow w.heap.size e 1 v' (n + 1) ys → ∃ g o cap, v' = .slice (some ⟨g, o, none⟩) (n + 1) cap := fun ho => by
    obtain ⟨g, cap, rfl, -⟩ := ho.form (by omega)
    exact ⟨_, _, _, rfl⟩
  rcases h.2 with ⟨rfl, rfl⟩ | ⟨g, o, cap, cur, rfl, hb, hB, hn, hm, hs, hc⟩
  · have hxs : xs = [] := List.eq_nil_of_length_eq_zero h.1
    subst hxs
    obtain ⟨g, cap, w', hr, ho, hg, hat, hlt⟩ := run_append_lies (P := P) w t ty base e i z 1 bytes ht hi hz hsize hby hzs (by omega) (.slice none 0 0) 0 [] (World.ownsRow_nil _ _ _ _) ad 1 c [x] rfl hnews h1' (by omega) h63 hbytes hbase _ rfl
    refine ⟨_, w', hr, QRow.of_own ho, hg, ?_, ⟨g, 0, cap, by simp⟩⟩
    rcases hat with hat | hat
    · simp [Value.ownBlock] at hat
    · exact .inr ⟨g, rfl, by omega⟩
  · by_cases hroom : n + 1 ≤ cap
    · have hcell : w.cell? ⟨g, o + n, none⟩ = cur[o + n]? := hB.cell _
      have hlt : o + n < cur.size := by omega
      have hr := run_append_room_cells (P := P) w t ty e i ht hi g o n cap ad 1 c [x] (by simp [hsize]) hnews h1' hroom
        (fun j hj => by
          obtain rfl : j = 0 := by simpa using hj
          rw [hsize, Nat.mul_one, Nat.add_zero, hcell, Array.getElem?_eq_getElem hlt]; rfl)
        (fun j hj => by rw [hB.frozen])
      rw [hsize, Nat.mul_one] at hr
      refine ⟨_, _, hr, ⟨by simp [h.1], .inr ⟨g, o, cap, cur.setIfInBounds (o + n) x, rfl, hb, hB.put (o + n) x, hroom, hm, by simpa using hs, fun j u hu => ?_⟩⟩, ?_, .inl rfl, ⟨g, o, cap, rfl⟩⟩
      · rcases snoc_get hu with ⟨hj, hu'⟩ | ⟨hj, rfl⟩
        · have := h.1
          rw [Array.getElem?_setIfInBounds_ne (by omega)]
          exact hc j u hu'
        · have := h.1
          rw [show o + j = o + n by omega, Array.getElem?_setIfInBounds_self_of_lt hlt]
      · exact ⟨rfl, rfl, rfl, by simp [World.setCells, World.setCell], fun k _ hk => Below.heap_setCell _ _ _ _ (fun e => hk (by simp [Value.ownBlock, e]))⟩
    · have holds : ∀ j u, xs[j]? = some u → w.cell? ((⟨g, o, none⟩ : Addr).add j) = some u := fun j u hu => by
        rw [Addr.add_lit, hB.cell]
        exact hc j u hu
      obtain ⟨v', w', hr, ho, hg⟩ := run_append_arg_grows (P := P) w t ty e i z 1 bytes ht hi hz hsize hby hzs (by omega) ⟨g, o, none⟩ n cap xs (by rw [h.1]; omega) holds ad 1 c [x] rfl hnews (by omega) h63 hbytes
      obtain ⟨g', o', cap', rfl⟩ := hform ho
      refine ⟨_, w', hr, QRow.of_own (ownsRow_base ho hbase), ⟨hg.os, hg.tape, hg.output, hg.size, fun k hk _ => hg.block k hk (by simp)⟩, ?_, ⟨g', o', cap', rfl⟩⟩
      exact .inr ⟨g', rfl, (ho.lt g' rfl).1⟩
end Go.Proofs.Ytffodgpafiifcaa
