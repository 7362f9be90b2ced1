/-
  What layout makes, read; sizes; places.
-/
import Derived.Test.YtdbfhdncjblleaaP
namespace Go.Proofs.Ytdbfhdncjblleaa
open Go.RowKit

def RSpots (B : Nat) (w : World) (v : Value) (l : List SpotD) : Prop := Rd B w 4 v l.length (cellsOf l)
def RSecs (B : Nat) (w : World) (v : Value) (l : List (List SpotD)) : Prop := RAll RSpots B w v l
def RCopies (B : Nat) (w : World) (v : Value) (l : List (List (List SpotD))) : Prop := RAll RSecs B w v l
theorem own_le {w : World} {base k n : Nat} {e : TypeId} {v : Value} {xs : List Value} (h : w.ownsRow base e k v n xs) : n ≤ maxLen := by
  rcases h.2 with ⟨_, rfl⟩ | ⟨g, cap, cur, _, _, _, h1, h2, _⟩
  · simp [maxLen]
  · omega
theorem OAll.reads {α : Type} {R : World → Value → α → Prop} {R' : Nat → World → Value → α → Prop} {e : TypeId} {base : Nat} {w : World} {v : Value} {vs : List Value} {l : List α} (h : OAll R e base w v vs l) (hR : ∀ u x, R w u x → R' w.heap.size w u x) : RAll R' w.heap.size w v l :=
  ⟨vs, Rd.own h.1 (own_le h.1), h.len, fun i u x hu hx => hR _ _ (h.2 i u x hu hx)⟩
theorem OSpots.reads {base : Nat} {w : World} {v : Value} {l : List SpotD} (h : OSpots base w v l) : RSpots w.heap.size w v l := Rd.own h (own_le h)
theorem OSecs.reads {base : Nat} {w : World} {v : Value} {l : List (List SpotD)} (h : OSecs base w v l) : RSecs w.heap.size w v l := by
  obtain ⟨vs, h⟩ := h
  exact h.reads fun _ _ hr => hr.reads
theorem OCopies.reads {base : Nat} {w : World} {v : Value} {l : List (List (List SpotD))} (h : OCopies base w v l) : RCopies w.heap.size w v l := by
  obtain ⟨vs, h⟩ := h
  exact h.reads fun _ _ hr => hr.reads
theorem RSpots.open_ {B : Nat} {w : World} {v : Value} {l : List SpotD} (h : RSpots B w v l) : ∃ A c, v = .slice A l.length c ∧ l.length ≤ 9223372036854775807 ∧
    ∀ k x, l[k]? = some x → ∃ g o, A = some ⟨g, o, none⟩ ∧ g < B ∧ w.cell? ⟨g, o + k * 4, none⟩ = some (.int .i64 x.web) ∧ w.cell? ⟨g, o + k * 4 + 1, none⟩ = some (.int .i64 x.side) ∧ w.cell? ⟨g, o + k * 4 + 2, none⟩ = some (.int .i64 x.row) ∧ w.cell? ⟨g, o + k * 4 + 3, none⟩ = some (.int .i64 x.col) := by
  obtain ⟨A, c, rfl, -, hm, hr⟩ := h
  refine ⟨A, c, rfl, by simpa [maxLen] using hm, fun k x hx => ?_⟩
  have hk : k < l.length := (List.getElem?_eq_some_iff.1 hx).1
  obtain ⟨g, o, hA, hb, hc⟩ := hr (by omega)
  have hf := fun j hj => flat_at SpotD.cells 4 (fun _ => rfl) _ k j _ hx hj
  exact ⟨g, o, hA, hb, hc _ _ (hf 0 (by omega)), hc _ _ (hf 1 (by omega)), hc _ _ (hf 2 (by omega)), hc _ _ (hf 3 (by omega))⟩
theorem RSecs.below {B : Nat} {w w' : World} {v : Value} {l : List (List SpotD)} (h : RSecs B w v l) (hb : Below B w w') : RSecs B w' v l := RAll.keep h (fun _ hp => hb.cell hp) fun _ _ hr => Rd.below hr hb
theorem RCopies.below {B : Nat} {w w' : World} {v : Value} {l : List (List (List SpotD))} (h : RCopies B w v l) (hb : Below B w w') : RCopies B w' v l := RAll.keep h (fun _ hp => hb.cell hp) fun _ _ hr => hr.below hb

theorem layout_pos {r : RunD} (h : checkE r = 0) : ∃ x, (layoutD r)[0]? = some x := by
  have h2 := rows_two h
  cases hc : r.coll with
  | true => rw [layout_coll hc]; exact ⟨_, rfl⟩
  | false =>
    rw [layout_straight hc]
    exact ⟨_, List.getElem?_eq_getElem (by rw [List.length_map, List.length_range]; omega)⟩
def sizesD (r : RunD) : List Int := ((layoutD r).getD 0 []).map fun s => (s.length : Int)
theorem infoInt : (Try.prog.info? 3).map (fun i => (i.zero, i.size, i.bytes)) = some (some (.int .i64 0), 1, 8) := by kernel_rfl

set_option maxRecDepth 100000 in
set_option maxHeartbeats 1000000 in
theorem sizes_any (v : Value) (r : RunD) (w : World) (h : RRun w.heap.size w v r) (hok : checkE r = 0) (hsm : ((layoutD r).getD 0 []).length ≤ 100) :
    Calls Try.prog 49 #[v] w fun e w' => ∃ u, e = .returned u ∧ w'.ownsRow w.heap.size 3 1 u (sizesD r).length ((sizesD r).map (Value.int .i64)) ∧ Below w.heap.size w w' := by
  obtain ⟨i0, hi, hz0, hz1, hz2⟩ := info_parts infoInt
  have hrun := Lib.hid h
  have Hok := Lib.hid hok
  obtain ⟨x, hx⟩ := layout_pos hok
  have Hx := Lib.hid hx
  rw [getD_of hx] at hsm
  obtain ⟨v1, v2, v3, rfl, -, -, -⟩ := h
  have b0 : ∀ o, Below w.heap.size w (w.alloc o) := fun o => (Below.refl _ _).alloc (Nat.le_refl _) _
  have hr : ∀ o, RRun (w.alloc o).heap.size (w.alloc o) (.agg #[v1, v2, v3, .bool r.coll]) r := fun o => (hrun.out.below (b0 o)).more (by simp)
  have z0 : ∀ o, w.heap.size ≤ (w.alloc o).heap.size := fun o => by simp
  have B0 := Lib.hid b0
  have HR := Lib.hid hr
  have Z0 := Lib.hid z0
  clear hok hx b0 hr z0
  go_enter Try.func49, Try.ntmps49
  go_wp2_with fail
  refine (layout_any _ r _ (HR.out _) Hok.out).mono ?_
  rintro e w3 ⟨u, rfl, hu, hb3⟩
  have hB3 := (B0.out _).trans (hb3.mono (Z0.out _))
  obtain ⟨A, c, rfl, hA1, hA⟩ := RAll.open_ hu.reads
  obtain ⟨g, o, u2, rfl, hb, hc1, hp⟩ := hA 0 x Hx.out
  simp only [Nat.add_zero] at hc1
  obtain ⟨A2, c2, rfl, hA2, hA3⟩ := RAll.open_ hp
  have HA3 := Lib.hid hA3
  have hpos : (0 : Int) < ((layoutD r).length : Int) := by have := (List.getElem?_eq_some_iff.1 Hx.out).1; omega
  clear hA hA3 hu hb3 hp
  go_wp2
  go_loopw [3, 11] (fun u i wr => ∃ k : Nat, k ≤ x.length ∧ i = .int .i64 k ∧ wr.ownsRow w3.heap.size 3 1 u k (((x.map fun s => (s.length : Int)).take k).map (Value.int .i64)) ∧ Below w3.heap.size w3 wr) (fun _ i _ => x.length - (intOf i).toNat)
  case atStart => exact ⟨0, Nat.zero_le _, rfl, World.ownsRow_nil _ _ _ _, Below.refl _ _⟩
  case round =>
    obtain ⟨k, hk, rfl, ho, hB⟩ := hrel
    by_cases hlt : k < x.length
    · obtain ⟨y, hy⟩ : ∃ y, x[k]? = some y := ⟨_, List.getElem?_eq_getElem hlt⟩
      obtain ⟨g2, o2, u3, rfl, hb2, hc2, hp⟩ := HA3.out k y hy
      obtain ⟨A5, c5, rfl, hA5⟩ := slice_len hp
      rw [← hB.cell (p := ⟨g2, o2 + k, none⟩) hb2] at hc2
      have HX : Hid (((x.map fun s => (s.length : Int)).take (k + 1)).map (Value.int .i64) = ((x.map fun s => (s.length : Int)).take k).map (Value.int .i64) ++ [.int .i64 (y.length : Int)]) := by
        show ((x.map fun s => (s.length : Int)).take (k + 1)).map (Value.int .i64) = ((x.map fun s => (s.length : Int)).take k).map (Value.int .i64) ++ [.int .i64 (y.length : Int)]
        rw [take_map_next (fun s : List SpotD => (s.length : Int)) hy, List.map_append]; rfl
      have zr := hB.size
      clear hy hp
      go_wp2_with (at_builtin; refine wpList_append_own _ rfl _ _ 48 rfl w3.heap.size 3 i0 (.int .i64 0) 1 8 Try.underlying48 hi hz0 hz1 hz2 rfl (by decide) _ _ _ rfl (ho.alloc _) ⟨wr.heap.size, 0, none⟩ 1 1 [.int .i64 (y.length : Int)] rfl rfl (cells_new _ _ _) (by simp [Value.oneCell']) (by simp only [maxLen]; omega) (by omega) (by simp; omega) ?_; intro v' w4 hown' hgrow _)
      have hB4 : Below w3.heap.size w3 w4 := (hB.alloc zr _).grown hgrow (by simp; omega) fun k hk => (ho.lt k hk).1
      rw [← HX.out] at hown'
      clear hgrow ho
      go_wp2
      go_roundw
      case rel => exact ⟨k + 1, by omega, by go_num, hown', hB4⟩
      case measure => simp [intOf]; omega
    · have hall : (x.map fun s => (s.length : Int)).take k = sizesD r := by
        unfold sizesD
        rw [getD_of Hx.out, List.take_of_length_le (by rw [List.length_map]; omega)]
      have hkl : k = (sizesD r).length := by unfold sizesD; rw [getD_of Hx.out, List.length_map]; omega
      rw [hall, hkl] at ho
      have ho2 := ownsRow_base ho hB3.size
      have hB4 := hB3.trans (hB.mono hB3.size)
      clear hkl hall
      go_wp2
      go_ret
      exact ⟨_, rfl, ho2, hB4⟩
end Go.Proofs.Ytdbfhdncjblleaa
