/-
  ReelCopies: the reference and the law, part 1.
-/
import Derived.Deep.AppendLies
import Derived.Deep.RegionHeld3
import Derived.Test.YtpkepacbondopaaMa
import Derived.Test.YtpkepacbondopaaOc
import Derived.Test.YtpkepacbondopaaXb
import Derived.Deep.RegionWith
import Derived.Test.YtpkepacbondopaaGd
namespace Go.Proofs.Ytpkepacbondopaa
open Go.RowKit Go.Shelf
attribute [local go_sem] Oper.semAt_some

theorem sbelow_al {A W : World} (h : Below A.heap.size A W) (o : Obj) : Below A.heap.size A (W.alloc o) := h.alloc h.size o
set_option maxHeartbeats 400000 in
theorem sIn_any (n lo hi : Int) (w : World) : Calls Try.prog 101 #[.int .i64 n, .int .i64 lo, .int .i64 hi] w fun e w' => e = .returned (.bool (withinB n lo hi)) ∧ w = w' := by
  by_cases h1 : lo ≤ n
  · by_cases h2 : n ≤ hi
    · go_enter Try.func101, Try.ntmps101
      go_wp2
      go_ret
      exact ⟨rb (within_t h1 h2).symm.symm, rfl⟩
    · go_enter Try.func101, Try.ntmps101
      go_wp2
      go_ret
      exact ⟨rb (within_f (by omega)), rfl⟩
  · go_enter Try.func101, Try.ntmps101
    go_wp2
    go_ret
    exact ⟨rb (within_f (by omega)), rfl⟩
theorem sIn_let {n lo hi : Int} {B : Bool} (h : withinB n lo hi = B) : ∀ W, Calls Try.prog 101 #[.int .i64 n, .int .i64 lo, .int .i64 hi] W fun e w' => e = .returned (.bool B) ∧ W = w' := fun W => by rw [← h]; exact sIn_any _ _ _ _
theorem ok_iff {x : ReelD} : x.ok ↔ withinB x.id 0 1000000 = true ∧ withinB x.width 1 3000 = true ∧ withinB x.length 0 20000000 = true ∧ withinB x.core 0 x.length = true := by
  unfold ReelD.ok
  rw [within_iff, within_iff, within_iff, within_iff]
theorem ok_bool (x : ReelD) : decide x.ok = (withinB x.id 0 1000000 && withinB x.width 1 3000 && withinB x.length 0 20000000 && withinB x.core 0 x.length) := by
  rw [Bool.eq_iff_iff, decide_eq_true_iff, ok_iff, Bool.and_eq_true, Bool.and_eq_true, Bool.and_eq_true, and_assoc, and_assoc]
set_option maxRecDepth 100000 in
set_option maxHeartbeats 2000000 in
theorem refRight_any (x : ReelD) (w : World) : Calls Try.prog 102 #[.agg #[.int .i64 x.id, .int .i64 x.width, .int .i64 x.length, .int .i64 x.core]] w fun e w' => e = .returned (.bool (decide x.ok)) ∧ Below w.heap.size w w' := by
  have F0 : ∃ W0, w.alloc (.cells #[.int .i64 x.id, .int .i64 x.width, .int .i64 x.length, .int .i64 x.core] 128) = W0 ∧ Hid (Below w.heap.size w W0) ∧ Blk W0 w.heap.size 128 #[.int .i64 x.id, .int .i64 x.width, .int .i64 x.length, .int .i64 x.core] := ⟨_, rfl, below_alloc _ _, Blk.new _ _ _⟩
  obtain ⟨W0, e0, hb0, hk0⟩ := F0
  have E0 := Lib.hid e0
  have x0 := cellOf hk0 0 (x := .int .i64 x.id) rfl
  have x1 := cellOf hk0 1 (x := .int .i64 x.width) rfl
  have x2 := cellOf hk0 2 (x := .int .i64 x.length) rfl
  have x3 := cellOf hk0 3 (x := .int .i64 x.core) rfl
  rw [ok_bool]
  obtain ⟨b1, h1⟩ : ∃ b, withinB x.id 0 1000000 = b := ⟨_, rfl⟩
  obtain ⟨b2, h2⟩ : ∃ b, withinB x.width 1 3000 = b := ⟨_, rfl⟩
  obtain ⟨b3, h3⟩ : ∃ b, withinB x.length 0 20000000 = b := ⟨_, rfl⟩
  obtain ⟨b4, h4⟩ : ∃ b, withinB x.core 0 x.length = b := ⟨_, rfl⟩
  rw [h1, h2, h3, h4]
  have C1 := Lib.hid (sIn_let h1 W0)
  have C2 := Lib.hid (sIn_let h2 W0)
  have C3 := Lib.hid (sIn_let h3 W0)
  have C4 := Lib.hid (sIn_let h4 W0)
  clear e0 hk0 h1 h2 h3 h4
  go_enter Try.func102, Try.ntmps102
  go_upto_region 1 with fail
  rw [E0.out]
  clear E0
  go_wp2_with fail
  refine C1.out.mono ?_
  rintro _ _ ⟨rfl, rfl⟩
  cases b1
  · go_wp2_with fail
    go_ret
    exact ⟨rb (by simp), hb0.out⟩
  go_wp2_with fail
  refine C2.out.mono ?_
  rintro _ _ ⟨rfl, rfl⟩
  cases b2
  · go_wp2_with fail
    go_ret
    exact ⟨rb (by simp), hb0.out⟩
  go_wp2_with fail
  refine C3.out.mono ?_
  rintro _ _ ⟨rfl, rfl⟩
  cases b3
  · go_wp2_with fail
    go_ret
    exact ⟨rb (by simp), hb0.out⟩
  go_wp2_with fail
  refine C4.out.mono ?_
  rintro _ _ ⟨rfl, rfl⟩
  go_wp2_with fail
  go_ret
  exact ⟨rb (by simp), hb0.out⟩
theorem ids_take_succ {l : List ReelD} {k : Nat} {x : ReelD} (h : l[k]? = some x) : idsL (l.take (k + 1)) = idsL (l.take k) ++ [x.id] := by
  unfold idsL
  rw [take_snoc_get h, List.map_append]
  rfl
set_option maxRecDepth 100000 in
set_option maxHeartbeats 2000000 in
theorem refMet_any (l : List ReelD) (i : Nat) (y : ReelD) (hy : l[i]? = some y) (hl : l.length ≤ 1000) (v : Value) (w : World) (h : RReels w.heap.size w v l) :
    Calls Try.prog 103 #[v, .int .i64 (i : Int)] w fun e w' => e = .returned (.bool (decide (y.id ∈ idsL (l.take i)))) ∧ Below w.heap.size w w' := by
  obtain ⟨A, c, rfl, hlm, hr⟩ := h.open_
  obtain ⟨n, hn⟩ : ∃ n, l.length = n := ⟨_, rfl⟩
  have hi : i < n := by rw [← hn]; exact (List.getElem?_eq_some_iff.1 hy).1
  obtain ⟨g, o, rfl, hg, ci, -, -, -⟩ := hr i y hy
  have HR : Hid (∀ X, Below w.heap.size w X → ∀ k x, l[k]? = some x → X.cell? ⟨g, o + k * 4, none⟩ = some (.int .i64 x.id)) := fun X hX k x hx => by
    obtain ⟨g', o', e, hg', c0, -⟩ := hr k x hx
    injection e with e
    injection e with e1 e2
    subst e1
    subst e2
    rw [hX.cell (p := ⟨g, o + k * 4, none⟩) hg']
    exact c0
  rw [hn] at hlm hl ⊢
  have HN := Lib.hid hn
  have HY := Lib.hid hy
  clear hn hr hy h hg
  go_enter Try.func103, Try.ntmps103
  go_wp2_with fail
  go_loopw [5] (fun s wr => ∃ k : Nat, k ≤ i ∧ s = .int .i64 (k : Int) ∧ Hid (y.id ∉ idsL (l.take k)) ∧ Hid (Below w.heap.size w wr)) (fun s _ => i - (intOf s).toNat)
  case atStart => exact ⟨0, Nat.zero_le _, rfl, fun h => List.not_mem_nil h, Below.refl _ _⟩
  case round =>
  obtain ⟨k, hk, rfl, hno, hB⟩ := hrel
  by_cases hlt : k < i
  · obtain ⟨x, hx⟩ : ∃ x, l[k]? = some x := ⟨_, List.getElem?_eq_getElem (by rw [HN.out]; omega)⟩
    have ck := HR.out _ hB.out k x hx
    have ci := HR.out _ hB.out i y HY.out
    have HX := Lib.hid hx
    have k0 : (0 : Int) ≤ (k : Int) := by omega
    have k1 : (k : Int) < (n : Int) := by omega
    have i0 : (0 : Int) ≤ (i : Int) := by omega
    have i1 : (i : Int) < (n : Int) := by omega
    clear hx
    by_cases he : x.id = y.id
    · have HE := Lib.hid he
      rw [he] at ck
      clear he
      go_upto_region 4 with fail
      go_quiet (fail)
      go_wp2_with fail
      go_ret
      refine ⟨rb (decide_eq_true ?_), (hB.out.trans ?_)⟩
      · have : x.id ∈ idsL (l.take i) := by
          have h1 : x.id ∈ idsL (l.take (k + 1)) := by rw [ids_take_succ HX.out]; simp
          unfold idsL at h1 ⊢
          obtain ⟨z, hz, hz2⟩ := List.mem_map.1 h1
          exact List.mem_map.2 ⟨z, (List.take_subset_take_left l (by omega) hz), hz2⟩
        rwa [HE.out] at this
      · exact below_drewN (Below.refl _ _) _
    · have hne : ¬ (x.id = y.id) := he
      go_upto_region 4 with fail
      go_quiet (fail)
      go_wp2_with fail
      go_roundw
      case rel => exact ⟨k + 1, by omega, by go_num, by
        show _ ∉ _
        rw [ids_take_succ HX.out]
        intro h
        rcases List.mem_append.1 h with h | h
        · exact hno.out h
        · exact he (List.mem_singleton.1 h).symm, below_drewN hB.out _⟩
      case measure => simp [intOf]; omega
  obtain rfl : k = i := by omega
  go_wp2_with fail
  go_ret
  exact ⟨rb (decide_eq_false hno.out), hB.out⟩
/-- Behind which millimetre each of the first reels gives nothing any more. -/
def endsTo (l : List ReelD) (k : Nat) : List Int := (List.range k).map fun i => givesL (l.take (i + 1))
theorem endsTo_next (l : List ReelD) (k : Nat) : endsTo l (k + 1) = endsTo l k ++ [givesL (l.take (k + 1))] := by
  unfold endsTo
  rw [List.range_succ, List.map_append]
  rfl
theorem endsTo_len (l : List ReelD) (k : Nat) : (endsTo l k).length = k := by unfold endsTo; simp
set_option maxRecDepth 100000 in
set_option maxHeartbeats 4000000 in
theorem refEnds_any (x : WebD) (hx : ∀ r ∈ x.reels, r.ok) (hl : x.reels.length ≤ 20) (v : Value) (w : World) (h : RReels w.heap.size w v x.reels) :
    Calls Try.prog 105 #[.agg #[v, .int .i64 x.off, .int .i64 x.before, .int .i64 x.after]] w fun e w' => ∃ u, e = .returned u ∧ OInts w.heap.size w' u (endsTo x.reels x.reels.length) ∧ Below w.heap.size w w' := by
  obtain ⟨i0, hi0, hz0, hz1, hz2⟩ := info_parts infoInt0
  obtain ⟨A, c, rfl, hlm, hr⟩ := h.open_
  obtain ⟨n, hn⟩ : ∃ n, x.reels.length = n := ⟨_, rfl⟩
  have HR : Hid (∀ X, Below w.heap.size w X → ∀ k r, x.reels[k]? = some r → ∃ g o, A = some ⟨g, o, none⟩ ∧ X.cell? ⟨g, o + k * 4 + 2, none⟩ = some (.int .i64 r.length) ∧ X.cell? ⟨g, o + k * 4 + 3, none⟩ = some (.int .i64 r.core)) := fun X hX k r hx => by
    obtain ⟨g, o, rfl, hg, -, -, c2, c3⟩ := hr k r hx
    exact ⟨g, o, rfl, (hX.cell (p := ⟨g, o + k * 4 + 2, none⟩) hg).trans c2, (hX.cell (p := ⟨g, o + k * 4 + 3, none⟩) hg).trans c3⟩
  rw [hn] at hlm hl ⊢
  have HN := Lib.hid hn
  have HX := Lib.hid hx
  clear hn hr hx h
  have F0 : ∃ W0, w.alloc (.cells #[.slice A n c, .int .i64 x.off, .int .i64 x.before, .int .i64 x.after] 188) = W0 ∧ Hid (Below w.heap.size w W0) ∧ Hid (Blk W0 w.heap.size 188 #[.slice A n c, .int .i64 x.off, .int .i64 x.before, .int .i64 x.after]) := ⟨_, rfl, below_alloc _ _, Blk.new _ _ _⟩
  obtain ⟨W0, e0, hb0, hk0⟩ := F0
  have E0 := Lib.hid e0
  clear e0
  go_enter Try.func105, Try.ntmps105
  go_upto_region 1 with fail
  rw [E0.out]
  clear E0
  go_wp2_with fail
  go_loopw [3, 4, 5] (fun u s i wr => ∃ k : Nat, k ≤ n ∧ i = .int .i64 (k : Int) ∧ s = .int .i64 (givesL (x.reels.take k)) ∧ Hid (wr.ownsRow W0.heap.size 3 1 u k ((endsTo x.reels k).map (Value.int .i64))) ∧ Hid (Below W0.heap.size W0 wr)) (fun _ _ i _ => n - (intOf i).toNat)
  case atStart => exact ⟨0, Nat.zero_le _, rfl, rfl, World.ownsRow_nil _ _ _ _, Below.refl _ _⟩
  case round =>
  obtain ⟨k, hk, rfl, rfl, hO, hB⟩ := hrel
  obtain ⟨X, rfl⟩ : ∃ X : World, X = wr := ⟨_, rfl⟩
  obtain ⟨Ay, cy, rfl⟩ := ownsRow_form hO.out
  have hBw : Hid (Below w.heap.size w X) := hb0.out.trans (hB.out.mono hb0.out.size)
  have b0 := cellOf (hk0.out.below hB.out hk0.out.lt) 0 (x := .slice A n c) rfl
  by_cases hlt : k < n
  · obtain ⟨r, hrk⟩ : ∃ r, x.reels[k]? = some r := ⟨_, List.getElem?_eq_getElem (by rw [HN.out]; exact hlt)⟩
    obtain ⟨g, o, rfl, c2, c3⟩ := HR.out X hBw.out k r hrk
    have hro := HX.out r (List.mem_of_getElem? hrk)
    have hg := givesTake_bound HX.out (by rw [HN.out]; exact hl) k
    have HG1 : Hid (givesL (x.reels.take (k + 1)) = givesL (x.reels.take k) + r.length - r.core) := by
      show _ = _
      rw [givesL_next hrk]
      unfold ReelD.gives
      omega
    obtain ⟨G, hG⟩ : ∃ G, givesL (x.reels.take k) = G := ⟨_, rfl⟩
    rw [hG] at hg HG1 ⊢
    obtain ⟨hg1, hg2⟩ := hg
    obtain ⟨-, -, ⟨hr1, hr2⟩, hr3, hr4⟩ := hro
    have k0 : (0 : Int) ≤ (k : Int) := by omega
    have k1 : (k : Int) < (n : Int) := by omega
    have s1 : IntKind.i64.wrap (G + r.length) = G + r.length := IntWalk.i64_in _ ⟨by omega, by omega⟩
    have s2 : IntKind.i64.wrap (G + r.length - r.core) = G + r.length - r.core := IntWalk.i64_in _ ⟨by omega, by omega⟩
    clear hrk hG
    go_upto_region 6 with fail
    go_cut [4] from 13 to 27 (fun q wx => q = .int .i64 (G + r.length - r.core) ∧ Hid (Below X.heap.size X wx))
    case first =>
      go_quiet (fail)
      go_wp2_with fail
      go_meet
      exact ⟨rfl, below_drewN (Below.refl _ _) _⟩
    case rest =>
    obtain ⟨rfl, hD⟩ := hcut
    obtain ⟨Y, rfl⟩ : ∃ Y : World, Y = wc := ⟨_, rfl⟩
    rw [← HG1.out]
    obtain ⟨E, hE⟩ : ∃ E, givesL (x.reels.take (k + 1)) = E := ⟨_, rfl⟩
    have HE := Lib.hid hE
    rw [hE]
    have hO9 := Lib.hid (ownsRow_below hO.out hD.out)
    have hB9 : Hid (Below W0.heap.size W0 Y) := hB.out.trans (hD.out.mono hB.out.size)
    have HZ : Hid (W0.heap.size ≤ Y.heap.size) := hB9.out.size
    have HAp : Hid (∀ v' W1, (Y.alloc (.cells #[.int .i64 E] 3)).grownBy W1 (Value.slice Ay k cy).ownBlock → W1.ownsRow W0.heap.size 3 1 v' (k + 1) ((endsTo x.reels k).map (Value.int .i64) ++ [.int .i64 E]) → Hid (W1.ownsRow W0.heap.size 3 1 v' (k + 1) ((endsTo x.reels (k + 1)).map (Value.int .i64))) ∧ Hid (Below W0.heap.size W0 W1)) := fun v' W1 hg ho => by
      refine ⟨?_, (hB9.out.alloc hB9.out.size _).grown hg (by have := hB9.out.size; simp; omega) fun q hq => (hO9.out.lt q hq).1⟩
      show World.ownsRow _ _ _ _ _ _ _
      rw [endsTo_next, List.map_append, HE.out]
      exact ho
    clear s1 s2 hE c2 c3 b0 k0 k1 hg1 hg2 hr1 hr2 hr3 hr4 hO hB hD HG1
    go_wp2_with (at_builtin; refine wpList_append_own _ rfl _ _ 30 rfl W0.heap.size 3 i0 _ 1 8 sliceInts hi0 hz0 hz1 hz2 rfl (by decide) (.slice Ay k cy) k ((endsTo x.reels k).map (Value.int .i64)) rfl (hO9.out.alloc _) ⟨Y.heap.size, 0, none⟩ 1 1 [.int .i64 E] rfl rfl (cells_new _ _ _) (by simp [Value.oneCell']) (by simp only [maxLen]; omega) (by omega) (by have := HZ.out; simp; omega) ?_; intro v2' w10 hown' hgro _; obtain ⟨Av2, cv2, rfl⟩ := ownsRow_form hown'; obtain ⟨hfin, hfin2⟩ := HAp.out _ _ hgro hown'; clear HAp hown' hgro)
    go_roundw
    case rel => exact ⟨k + 1, by omega, by go_num, by rw [HE.out], hfin, hfin2⟩
    case measure => simp [intOf]; omega
  obtain rfl : k = n := by omega
  go_wp2_with fail
  go_ret
  refine ⟨_, rfl, ?_, hBw.out⟩
  unfold OInts
  rw [endsTo_len]
  exact ownsRow_base hO.out hb0.out.size
end Go.Proofs.Ytpkepacbondopaa

namespace Go.Proofs.Ytpkepacbondopaa
open Go.RowKit Go.Shelf
attribute [local go_sem] Oper.semAt_some

/-- ends of a web in a block of its own, beside its loads: the last one. -/
theorem ends_held (x : WebD) (hx : ∀ r ∈ x.reels, r.ok) (hl : x.reels.length ≤ 20) {v : Value} {X : World} {b : Nat} (h : RReels X.heap.size X v x.reels) (hB : Blk X b 188 #[v, .int .i64 x.off, .int .i64 x.before, .int .i64 x.after]) :
    Hid (∀ Y, Below X.heap.size X Y → Calls Try.prog 105 #[.agg #[v, .int .i64 x.off, .int .i64 x.before, .int .i64 x.after]] Y fun e w' => ∃ A c, e = .returned (.slice A x.reels.length c) ∧ Hid (RInts w'.heap.size w' (.slice A x.reels.length c) (endsTo x.reels x.reels.length)) ∧ Hid (Below X.heap.size X w') ∧
      (∀ j, j + 1 = x.reels.length → ∃ g o, A = some ⟨g, o, none⟩ ∧ w'.cell? ⟨g, o + j, none⟩ = some (.int .i64 (givesL x.reels))) ∧
      (w'.cell? ⟨b, 0, none⟩ = some v ∧ w'.cell? ⟨b, 1, none⟩ = some (.int .i64 x.off) ∧ w'.cell? ⟨b, 2, none⟩ = some (.int .i64 x.before) ∧ w'.cell? ⟨b, 3, none⟩ = some (.int .i64 x.after))) := fun Y hY => by
  refine (refEnds_any x hx hl v Y ((Rd.below h hY).more hY.size)).mono ?_
  rintro e w' ⟨u, rfl, h1, h2⟩
  have hle := endsTo_len x.reels x.reels.length
  have h3 : RInts w'.heap.size w' u (endsTo x.reels x.reels.length) := Rd.own h1 (own_le h1)
  obtain ⟨A, c, rfl, -, hc⟩ := h3.open_
  rw [hle] at h3 hc ⊢
  have hY' := hY.trans (h2.mono hY.size)
  have hB' := hB.below hY' hB.lt
  refine ⟨A, c, rfl, h3, hY', fun j hj => ?_, cellOf hB' 0 rfl, cellOf hB' 1 rfl, cellOf hB' 2 rfl, cellOf hB' 3 rfl⟩
  obtain ⟨g, o, y, rfl, -, h4, h5⟩ := hc j (by omega)
  refine ⟨g, o, rfl, ?_⟩
  rw [h4, ← h5.out]
  have hj2 : (endsTo x.reels x.reels.length).getD j 0 = givesL x.reels := by
    unfold endsTo
    rw [List.getD_eq_getElem?_getD, List.getElem?_map, List.getElem?_range (by omega)]
    show givesL (x.reels.take (j + 1)) = _
    rw [hj, List.take_length]
  rw [hj2]
set_option maxRecDepth 100000 in
set_option maxHeartbeats 4000000 in
theorem refReach_any (p : PressD) (hp : p.Ok) (w : World) (v : Value) (h : RPress w.heap.size w v p) :
    Calls Try.prog 104 #[v] w fun e w' => e = .returned (.int .i64 p.reach) ∧ Below w.heap.size w w' := by
  obtain ⟨u, rfl, hw⟩ := h
  obtain ⟨A, c, rfl, hlm, hr⟩ := hw.open_
  obtain ⟨n, hn⟩ : ∃ n, p.webs.length = n := ⟨_, rfl⟩
  have hn6 : n ≤ 6 := by have := hp.webs.2; omega
  rw [hn] at hlm ⊢
  obtain ⟨cut, hcut⟩ : ∃ c, p.cut = c := ⟨_, rfl⟩
  obtain ⟨mg, hmg⟩ : ∃ c, p.margin = c := ⟨_, rfl⟩
  have hc1 : 300 ≤ cut ∧ cut ≤ 1500 := by have := hp.cut; rw [hcut] at this; exact this
  rw [hcut, hmg]
  have Hn := Lib.hid hn
  have HC := Lib.hid hcut
  have HR := Lib.hid hr
  have HP := Lib.hid hp
  clear hn hcut hmg hr hp hw
  obtain ⟨hc1, hc2⟩ := hc1
  have F0 : ∃ W0, w.alloc (.cells #[.int .i64 cut, .int .i64 mg, .slice A n c] 105) = W0 ∧ Hid (Below w.heap.size w W0) ∧ Hid (Blk W0 w.heap.size 105 #[.int .i64 cut, .int .i64 mg, .slice A n c]) := ⟨_, rfl, below_alloc _ _, Blk.new _ _ _⟩
  obtain ⟨W0, e0, HB0, HK0⟩ := F0
  have E0 := Lib.hid e0
  clear e0
  go_enter Try.func104, Try.ntmps104
  go_upto_region 1 with fail
  rw [E0.out]
  go_wp2_with fail
  go_loopw [3, 4] (fun s i wr => ∃ k : Nat, k ≤ n ∧ i = .int .i64 k ∧ ∃ g : Int, s = .int .i64 g ∧ Hid (g = reachL cut (p.webs.take k)) ∧ 0 ≤ g ∧ g ≤ 1000000 ∧ Hid (Below W0.heap.size W0 wr)) (fun _ i _ => n - (intOf i).toNat)
  case atStart => exact ⟨0, Nat.zero_le _, rfl, 1000000, rfl, rfl, by omega, by omega, Below.refl _ _⟩
  case round =>
  obtain ⟨k, hk, rfl, g, rfl, hg, hg1, hg2, hB⟩ := hrel
  obtain ⟨X, rfl⟩ : ∃ X : World, X = wr := ⟨_, rfl⟩
  have hBw : Hid (Below w.heap.size w X) := HB0.out.trans (hB.out.mono HB0.out.size)
  have hKX := HK0.out.below hB.out HK0.out.lt
  have p2 := cellOf hKX 2 (x := .slice A n c) rfl
  by_cases hlt : k < n
  · obtain ⟨x, hx⟩ : ∃ x, p.webs[k]? = some x := ⟨_, List.getElem?_eq_getElem (by rw [Hn.out]; exact hlt)⟩
    have hmem := List.mem_of_getElem? hx
    have hxo := HP.out.web x hmem
    have hxr := HP.out.reel x hmem
    have hxl := HP.out.reels x hmem
    obtain ⟨b, o, A2, c2', rfl, hb, c0, c1, c2, c3, hrr⟩ := HR.out k x hx
    rw [← hBw.out.cell (p := ⟨b, o + k * 4, none⟩) hb] at c0
    rw [← hBw.out.cell (p := ⟨b, o + k * 4 + 1, none⟩) hb] at c1
    rw [← hBw.out.cell (p := ⟨b, o + k * 4 + 2, none⟩) hb] at c2
    rw [← hBw.out.cell (p := ⟨b, o + k * 4 + 3, none⟩) hb] at c3
    have hrr1 : RReels X.heap.size X (.slice A2 x.reels.length c2') x.reels := (Rd.below hrr hBw.out).more hBw.out.size
    have F1 : ∃ X1, X.alloc (.cells #[.slice A2 x.reels.length c2', .int .i64 x.off, .int .i64 x.before, .int .i64 x.after] 188) = X1 ∧ Hid (Below X.heap.size X X1) ∧ Hid (Blk X1 X.heap.size 188 #[.slice A2 x.reels.length c2', .int .i64 x.off, .int .i64 x.before, .int .i64 x.after]) := ⟨_, rfl, below_alloc _ _, Blk.new _ _ _⟩
    obtain ⟨X1, e1, HB1, HK1⟩ := F1
    have CE := ends_held x hxr hxl ((Rd.below hrr1 HB1.out).more HB1.out.size) HK1.out
    have hgb := givesL_bound hxr
    have hrb := reach1_bound (x := x) hc1 hxo.1.1 hxl hxr
    have HN := Lib.hid (reachL_next (cut := cut) hx)
    have HPX := Lib.hid (hKX.below HB1.out (Nat.lt_of_lt_of_le HK0.out.lt hB.out.size))
    have q0 := cellOf HK1.out 0 (x := .slice A2 x.reels.length c2') rfl
    have E1 := Lib.hid e1
    have HREL := Lib.hid (rfl : x.reels = x.reels)
    obtain ⟨m, hm⟩ : ∃ m, x.reels.length = m := ⟨_, rfl⟩
    obtain ⟨G, hG⟩ : ∃ G, givesL x.reels = G := ⟨_, rfl⟩
    have HG0 : Hid (m = 0 → G = 0) := fun h0 => by
      rw [← hG, List.eq_nil_of_length_eq_zero (hm.trans h0)]
      rfl
    have hr1e : Hid (reach1 cut x = max 0 (G - x.off) / cut) := by show _ = _; unfold reach1; rw [hG]
    have hr1b : 0 ≤ max 0 (G - x.off) / cut ∧ max 0 (G - x.off) / cut ≤ 400000000 := by rw [← hr1e.out]; exact hrb
    have hob := hxo.1
    rw [hm] at c0 q0 hxl hgb CE
    rw [hm] at E1 HK1
    rw [hG] at hgb CE
    have HM := Lib.hid hm
    clear hx hmem hxo hxr hrr hrr1 e1 hrb hKX hm hG
    go_upto_region 6 with fail
    rw [E1.out]
    clear c0 c1 c2 c3 E1
    go_upto_if 23 with fail
    go_cut [6] from 23 to 31 (fun q wx => q = .int .i64 G ∧ Hid (Below X1.heap.size X1 wx))
    case first =>
      rcases Nat.eq_zero_or_pos m with h0 | h0
      · have hg0 := HG0.out h0
        subst h0
        subst hg0
        go_wp2_with fail
        go_meet
        exact ⟨rfl, Below.refl _ _⟩
      · obtain ⟨j, hj0⟩ : ∃ j, j + 1 = m := ⟨m - 1, by omega⟩
        have HJ := Lib.hid hj0
        have S1 : X1.cell? ⟨X.heap.size, 0, none⟩ = some (.slice A2 m c2') ∧ X1.cell? ⟨X.heap.size, 1, none⟩ = some (.int .i64 x.off) ∧ X1.cell? ⟨X.heap.size, 2, none⟩ = some (.int .i64 x.before) ∧ X1.cell? ⟨X.heap.size, 3, none⟩ = some (.int .i64 x.after) := ⟨cellOf HK1.out 0 rfl, cellOf HK1.out 1 rfl, cellOf HK1.out 2 rfl, cellOf HK1.out 3 rfl⟩
        have HD0 : Hid (Below X1.heap.size X1 X1.drew) := (Below.refl _ _).drew
        have j0 : (0 : Int) ≤ (j : Int) := by omega
        have j1 : (j : Int) < (m : Int) := by omega
        have j2 : IntKind.i64.wrap ((m : Int) - 1) = (j : Int) := by rw [show (m : Int) - 1 = (j : Int) by omega]; exact IntWalk.i64_in _ ⟨by omega, by omega⟩
        clear q0 p2 hj0
        go_upto_region 8 with fail
        obtain ⟨w0, w1, w2, w3⟩ := S1
        go_region_with (first | (go_at_call 105; with_reducible refine (CE.out _ HD0.out).mono ?_; rintro _ y1 ⟨Ae, ce, rfl, -, H1, hj, t0, t1, t2, t3⟩; obtain ⟨ge, oe, rfl, hce⟩ := hj j HJ.out; clear hj))
        all_goals
          go_wp2_with fail
          go_meet
          exact ⟨rfl, H1⟩
    case rest =>
    obtain ⟨rfl, hD⟩ := hcut
    obtain ⟨Y, rfl⟩ : ∃ Y : World, Y = wc := ⟨_, rfl⟩
    have hK2 := HK1.out.below hD.out HK1.out.lt
    have q1 := cellOf hK2 1 (x := .int .i64 x.off) rfl
    have p0 := cellOf (HPX.out.below hD.out HPX.out.lt) 0 (x := .int .i64 cut) rfl
    have HFin : Hid (Below W0.heap.size W0 Y) := hB.out.trans ((HB1.out.trans (hD.out.mono HB1.out.size)).mono hB.out.size)
    have hrv : 0 ≤ reach1 cut x ∧ reach1 cut x ≤ 400000000 := by rw [hr1e.out]; exact hr1b
    have hgG : 0 ≤ G ∧ G ≤ 400000000 := by omega
    by_cases hd : x.off < G
    · have HV : Hid (wrap64 ((wrap64 (G - x.off)).tdiv cut) = reach1 cut x) := by
        show _ = _
        have h9 : max 0 (G - x.off) = G - x.off := by omega
        rw [h9] at hr1b
        rw [IntWalk.wrap64_in (G - x.off) ⟨by omega, by omega⟩, Int.tdiv_eq_ediv_of_nonneg (by omega), IntWalk.wrap64_in _ ⟨by omega, by omega⟩, hr1e.out, h9]
      clear hD hK2 HK1 HPX HB1 CE p2 hb hgb HG0 hob hr1b
      go_wp2_with fail
      go_roundw
      case rel =>
        rw [HV.out]
        exact ⟨k + 1, by omega, by go_num, _, rfl, by show _ = _; rw [HN.out, ← hg.out], by omega, by omega, HFin⟩
      case measure => simp [intOf]; omega
    · have HV : Hid (reach1 cut x = 0) := by
        show _ = _
        rw [hr1e.out, show max 0 (G - x.off) = 0 by omega, Int.zero_ediv]
      clear hD hK2 HK1 HPX HB1 CE p2 hb hgb HG0 hob hr1b
      go_wp2_with fail
      go_roundw
      case rel => exact ⟨k + 1, by omega, by go_num, _, rfl, by show _ = _; rw [HN.out, ← hg.out, HV.out], by omega, by omega, HFin⟩
      case measure => simp [intOf]; omega
  go_wp2_with fail
  go_ret
  exact ⟨ri (by rw [hg.out, List.take_of_length_le (by rw [Hn.out]; omega), ← HC.out]; rfl), hBw.out⟩
end Go.Proofs.Ytpkepacbondopaa

namespace Go.Proofs.Ytpkepacbondopaa
open Go.RowKit Go.Shelf
attribute [local go_sem] Oper.semAt_some

theorem sliceReelR : Try.prog.underlying 127 = some (.slice 128) := by kernel_rfl
theorem infoReelR : (Try.prog.info? 128).map (fun i => (i.zero, i.size, i.bytes)) = some (some (.agg #[.int .i64 0, .int .i64 0, .int .i64 0, .int .i64 0]), 4, 32) := by kernel_rfl
/-- The reels that Check has met. -/
def MetRow (base : Nat) (X : World) (u : Value) (L : List ReelD) : Prop := X.ownsRow base 128 4 u L.length (L.flatMap ReelD.cells)
theorem MetRow.below {base : Nat} {X Y : World} {u : Value} {L : List ReelD} (h : MetRow base X u L) (hb : Below X.heap.size X Y) : MetRow base Y u L := ownsRow_below h hb
theorem MetRow.reads {base : Nat} {X : World} {u : Value} {L : List ReelD} (h : MetRow base X u L) : RReels X.heap.size X u L := Rd.own h (own_le h)
theorem hasB_many {p : PressD} (h : ¬ (1 ≤ p.webs.length ∧ p.webs.length ≤ 6)) : hasB p = false := by
  unfold hasB
  rw [decide_eq_false h]
  rfl
theorem hasB_big {p : PressD} {k : Nat} {x : WebD} (hx : p.webs[k]? = some x) (h : 20 < x.reels.length) : hasB p = false := by
  unfold hasB
  rw [Bool.and_eq_false_iff]
  right
  rw [List.all_eq_false]
  exact ⟨x, List.mem_of_getElem? hx, by simpa using h⟩
theorem hasB_yes {p : PressD} (h : 1 ≤ p.webs.length ∧ p.webs.length ≤ 6) (ha : ∀ (j : Nat) (x : WebD), j < p.webs.length → p.webs[j]? = some x → x.reels.length ≤ 20) : hasB p = true := by
  refine hasB_iff.2 ⟨h.1, h.2, List.all_eq_true.2 fun x hx => ?_⟩
  obtain ⟨j, hj⟩ := List.getElem?_of_mem hx
  exact decide_eq_true (ha j x (List.getElem?_eq_some_iff.1 hj).1 hj)
theorem idsL_app (a b : List ReelD) : idsL (a ++ b) = idsL a ++ idsL b := by unfold idsL; exact List.map_append
theorem reels_at {B n c : Nat} {X : World} {A : Option Addr} {l : List ReelD} {k : Nat} {x : ReelD} (h : RReels B X (.slice A n c) l) (hx : l[k]? = some x) :
    ∃ g o, A = some ⟨g, o, none⟩ ∧ X.cell? ⟨g, o + k * 4, none⟩ = some (.int .i64 x.id) ∧ X.cell? ⟨g, o + k * 4 + 1, none⟩ = some (.int .i64 x.width) ∧ X.cell? ⟨g, o + k * 4 + 2, none⟩ = some (.int .i64 x.length) ∧ X.cell? ⟨g, o + k * 4 + 3, none⟩ = some (.int .i64 x.core) := by
  obtain ⟨A', c', e, -, hr⟩ := h.open_
  injection e with e1 e2 e3
  subst e1
  obtain ⟨g, o, rfl, -, h0, h1, h2, h3⟩ := hr k x hx
  exact ⟨g, o, rfl, h0, h1, h2, h3⟩
/-- One more reel is met: the row, the web's own block, what lies below. -/
theorem met_app {base xb q c : Nat} {A : Option Addr} {t : TypeId} (ht : 128 ≠ t) {W0 Y Z : World} {v' : Value} {L : List ReelD} {r : ReelD} {o : Obj} {cs : Array Value} (hq : L.length = q) (h : MetRow base Y (.slice A q c) L) (hB : Blk Y xb t cs) (hb : Below W0.heap.size W0 Y) (hbase : W0.heap.size = base)
    (hg : (Y.alloc o).grownBy Z (Value.slice A q c).ownBlock) (ho : Z.ownsRow base 128 4 v' (q + 1) (L.flatMap ReelD.cells ++ r.cells)) : MetRow base Z v' (L ++ [r]) ∧ Blk Z xb t cs ∧ Below W0.heap.size W0 Z := by
  subst hq
  subst hbase
  have hS : ∀ g, some g = (Value.slice A L.length c).ownBlock → W0.heap.size ≤ g ∧ ∃ cs, Blk Y g 128 cs := fun g hg => ownsRow_own h hg.symm
  have hK1 : KeptBut (fun g => some g = (Value.slice A L.length c).ownBlock) Y Z := by
    have h1 : KeptBut (fun g => some g = (Value.slice A L.length c).ownBlock) Y (Y.alloc o) := (KeptBut.mono (S := fun _ => False) (KeptBut.of_below (below_alloc Y o) |>.mono fun _ _ h => h) fun _ _ h => h.elim)
    exact h1.trans (KeptBut.grown (S := fun g => some g = (Value.slice A L.length c).ownBlock) hg fun g hg => hg) fun i _ hi => hi
  refine ⟨?_, hK1.blk hB fun e => ?_, hb.trans (hK1.below (fun k hk => (hS k hk).1) hb.size)⟩
  · show World.ownsRow _ _ _ _ _ _ _
    rw [List.length_append, List.flatMap_append]
    simpa using ho
  · obtain ⟨-, cs', hB'⟩ := hS xb e
    exact Blk.ne hB' hB ht rfl
set_option maxRecDepth 1000000 in
set_option maxHeartbeats 4000000 in
theorem refCheck_any (p : PressD) (v : Value) (w : World) (h : RPress w.heap.size w v p) :
    Calls Try.prog 45 #[v] w fun e w' => e = .returned (.int .i64 (checkE p)) ∧ Below w.heap.size w w' := by
  obtain ⟨i0, hi0, hz0, hz1, hz2⟩ := info_parts infoReelR
  obtain ⟨u, rfl, hw⟩ := h
  obtain ⟨A, c, rfl, hlm, hr⟩ := hw.open_
  obtain ⟨n, hn⟩ : ∃ n, p.webs.length = n := ⟨_, rfl⟩
  have HR : Hid (∀ k x, p.webs[k]? = some x → ∃ g o A2 c2, A = some ⟨g, o, none⟩ ∧ Hid (∀ X, Below w.heap.size w X → X.cell? ⟨g, o + k * 4, none⟩ = some (.slice A2 x.reels.length c2) ∧ X.cell? ⟨g, o + k * 4 + 1, none⟩ = some (.int .i64 x.off) ∧ X.cell? ⟨g, o + k * 4 + 2, none⟩ = some (.int .i64 x.before) ∧ X.cell? ⟨g, o + k * 4 + 3, none⟩ = some (.int .i64 x.after) ∧ RReels w.heap.size X (.slice A2 x.reels.length c2) x.reels)) := fun k x hx => by
    obtain ⟨g, o, A2, c2, rfl, hg, c0, c1, c2', c3, hrr⟩ := hr k x hx
    exact ⟨g, o, A2, c2, rfl, fun X hX => ⟨(hX.cell (p := ⟨g, o + k * 4, none⟩) hg).trans c0, (hX.cell (p := ⟨g, o + k * 4 + 1, none⟩) hg).trans c1, (hX.cell (p := ⟨g, o + k * 4 + 2, none⟩) hg).trans c2', (hX.cell (p := ⟨g, o + k * 4 + 3, none⟩) hg).trans c3, Rd.below hrr hX⟩⟩
  rw [hn] at hlm ⊢
  have HN := Lib.hid hn
  clear hn hr hw
  have F0 : ∃ W0, w.alloc (.cells #[.int .i64 p.cut, .int .i64 p.margin, .slice A n c] 105) = W0 ∧ Hid (Below w.heap.size w W0) ∧ Hid (Blk W0 w.heap.size 105 #[.int .i64 p.cut, .int .i64 p.margin, .slice A n c]) := ⟨_, rfl, below_alloc _ _, Blk.new _ _ _⟩
  obtain ⟨W0, e0, HB0, HK0⟩ := F0
  have E0 := Lib.hid e0
  have p0 := cellOf HK0.out 0 (x := .int .i64 p.cut) rfl
  have p1 := cellOf HK0.out 1 (x := .int .i64 p.margin) rfl
  have p2 := cellOf HK0.out 2 (x := .slice A n c) rfl
  obtain ⟨b1, h1⟩ : ∃ b, withinB (n : Int) 1 6 = b := ⟨_, rfl⟩
  obtain ⟨b2, h2⟩ : ∃ b, withinB p.cut 300 1500 = b := ⟨_, rfl⟩
  obtain ⟨b3, h3⟩ : ∃ b, withinB p.margin 0 20 = b := ⟨_, rfl⟩
  have C1 := Lib.hid (sIn_let h1)
  have C2 := Lib.hid (sIn_let h2)
  have C3 := Lib.hid (sIn_let h3)
  have H1 := Lib.hid h1
  have H2 := Lib.hid h2
  have H3 := Lib.hid h3
  clear e0 h1 h2 h3
  go_enter Try.func45, Try.ntmps45
  go_upto_region 1 with fail
  rw [E0.out]
  clear E0
  go_wp2_with fail
  refine (C1.out _).mono ?_
  rintro _ _ ⟨rfl, rfl⟩
  cases b1
  · have HF : Hid (checkE p = 2) := checkE_many (hasB_many fun h => by
      have := H1.out
      rw [HN.out] at h
      rw [within_t (by omega) (by omega)] at this
      cases this)
    go_wp2_with fail
    go_ret
    exact ⟨ri HF.out, HB0.out⟩
  have hn6 := within_iff.1 H1.out
  clear C1
  go_wp2_with fail
  go_loopw [3] (fun s wr => ∃ k : Nat, k ≤ n ∧ s = .int .i64 (k : Int) ∧ Hid (∀ (j : Nat) (x : WebD), j < k → p.webs[j]? = some x → x.reels.length ≤ 20) ∧ Hid (Below W0.heap.size W0 wr)) (fun s _ => n - (intOf s).toNat)
  case atStart => exact ⟨0, Nat.zero_le _, rfl, fun j x hj => absurd hj (Nat.not_lt_zero _), Below.refl _ _⟩
  case round =>
  obtain ⟨k, hk, rfl, hall, hB⟩ := hrel
  obtain ⟨W1, rfl⟩ : ∃ X : World, X = wr := ⟨_, rfl⟩
  have HB1 : Hid (Below w.heap.size w W1) := HB0.out.trans (hB.out.mono HB0.out.size)
  have HK1 := Lib.hid (HK0.out.below hB.out HK0.out.lt)
  clear p0 p1 p2
  have p0 := cellOf HK1.out 0 (x := .int .i64 p.cut) rfl
  have p1 := cellOf HK1.out 1 (x := .int .i64 p.margin) rfl
  have p2 := cellOf HK1.out 2 (x := .slice A n c) rfl
  by_cases hlt : k < n
  · obtain ⟨x, hx⟩ : ∃ x, p.webs[k]? = some x := ⟨_, List.getElem?_eq_getElem (by rw [HN.out]; exact hlt)⟩
    obtain ⟨g, o, A2, c2, rfl, HXR⟩ := HR.out k x hx
    obtain ⟨c0, -⟩ := HXR.out _ HB1.out
    obtain ⟨m, hm⟩ : ∃ m, x.reels.length = m := ⟨_, rfl⟩
    rw [hm] at c0
    have HX := Lib.hid hx
    have HM := Lib.hid hm
    clear hx hm
    by_cases hbig : 20 < m
    · have HF : Hid (checkE p = 2) := checkE_many (hasB_big HX.out (by rw [HM.out]; exact hbig))
      go_wp2_with fail
      go_ret
      exact ⟨ri HF.out, HB1.out⟩
    · go_wp2_with fail
      go_roundw
      case rel => exact ⟨k + 1, by omega, by go_num, fun j y hj hy => by
        by_cases hjk : j = k
        · subst hjk
          rw [HX.out] at hy
          cases hy
          rw [HM.out]
          omega
        · exact hall.out j y (by omega) hy, hB⟩
      case measure => simp [intOf]; omega
  obtain rfl : k = n := by omega
  have HB : Hid (hasB p = true) := hasB_yes (by rw [HN.out]; omega) (fun j x hj => hall.out j x (by rw [← HN.out]; exact hj))
  have HALL : Hid (∀ (j : Nat) (x : WebD), p.webs[j]? = some x → x.reels.length ≤ 20) := fun j x hx => hall.out j x (by rw [← HN.out]; exact (List.getElem?_eq_some_iff.1 hx).1) hx
  clear hall hlt hk
  cases b2
  · have HF : Hid (checkE p = 6) := checkE_range HB.out fun h => by
      have := H2.out
      rw [within_t h.1.1 h.1.2] at this
      cases this
    go_wp2_with fail
    refine (C2.out _).mono ?_
    rintro _ _ ⟨rfl, rfl⟩
    go_wp2_with fail
    go_ret
    exact ⟨ri HF.out, HB1.out⟩
  go_wp2_with fail
  refine (C2.out _).mono ?_
  rintro _ _ ⟨rfl, rfl⟩
  go_wp2_with fail
  refine (C3.out _).mono ?_
  rintro _ _ ⟨rfl, rfl⟩
  cases b3
  · have HF : Hid (checkE p = 6) := checkE_range HB.out fun h => by
      have := H3.out
      rw [within_t h.2.1 h.2.2] at this
      cases this
    go_wp2_with fail
    go_ret
    exact ⟨ri HF.out, HB1.out⟩
  have HW := Lib.hid (checkE_webs HB.out ⟨within_iff.1 H2.out, within_iff.1 H3.out⟩)
  clear C2 C3 H1 H2 H3 p0 p1 p2
  go_wp2_with fail
  clear hB HB0 HK0
  go_loopw [4, 5] (fun u s wr => ∃ j : Nat, j ≤ k ∧ s = .int .i64 (j : Int) ∧ ∃ L : List ReelD, Hid (L.length ≤ 20 * j) ∧ Hid (MetRow W1.heap.size wr u L) ∧ Hid (Below W1.heap.size W1 wr) ∧ Hid (websE [] p.webs = websE (idsL L) (p.webs.drop j))) (fun _ s _ => k - (intOf s).toNat)
  case atStart => exact ⟨0, Nat.zero_le _, rfl, [], Nat.le_refl _, World.ownsRow_nil _ _ _ _, Below.refl _ _, rfl⟩
  case round =>
  obtain ⟨j, hj, rfl, L, hL, hO, hB, hE⟩ := hrel
  obtain ⟨X, rfl⟩ : ∃ X : World, X = wr := ⟨_, rfl⟩
  obtain ⟨Ay, cy, rfl⟩ := ownsRow_form hO.out
  have hBw : Hid (Below w.heap.size w X) := HB1.out.trans (hB.out.mono HB1.out.size)
  have p2 := cellOf (HK1.out.below hB.out HK1.out.lt) 2 (x := .slice A k c) rfl
  by_cases hlt : j < k
  case neg =>
    obtain rfl : j = k := by omega
    have HF : Hid (checkE p = 0) := by
      show _ = _
      rw [HW.out, hE.out, List.drop_of_length_le (by rw [HN.out]; exact Nat.le_refl _)]
      rfl
    go_wp2_with fail
    go_ret
    exact ⟨ri HF.out, hBw.out⟩
  obtain ⟨x, hx⟩ : ∃ x, p.webs[j]? = some x := ⟨_, List.getElem?_eq_getElem (by rw [HN.out]; exact hlt)⟩
  have hdrop : p.webs.drop j = x :: p.webs.drop (j + 1) := by
    obtain ⟨h1, rfl⟩ := List.getElem?_eq_some_iff.1 hx
    exact List.drop_eq_getElem_cons h1
  have HDR := Lib.hid hdrop
  have hml := HALL.out j x hx
  obtain ⟨g, o, A2, c2, rfl, HXR⟩ := HR.out j x hx
  obtain ⟨c0, c1, c2', c3, hrr⟩ := HXR.out _ hBw.out
  have F1 : ∃ X1, X.alloc (.cells #[.slice A2 x.reels.length c2, .int .i64 x.off, .int .i64 x.before, .int .i64 x.after] 188) = X1 ∧ Hid (Below X.heap.size X X1) ∧ Hid (Blk X1 X.heap.size 188 #[.slice A2 x.reels.length c2, .int .i64 x.off, .int .i64 x.before, .int .i64 x.after]) := ⟨_, rfl, below_alloc _ _, Blk.new _ _ _⟩
  obtain ⟨X1, e1, HX1, HK2⟩ := F1
  have E1 := Lib.hid e1
  have HXX : Hid (Below W1.heap.size W1 X1) := hB.out.trans (HX1.out.mono hB.out.size)
  have HBX1 : Hid (Below w.heap.size w X1) := HB1.out.trans (HXX.out.mono HB1.out.size)
  have HO1 := Lib.hid (MetRow.below hO.out HX1.out)
  obtain ⟨m, hm⟩ : ∃ m, x.reels.length = m := ⟨_, rfl⟩
  rw [hm] at c0 hml HXR
  rw [hm] at E1 HK2
  have HM := Lib.hid hm
  obtain ⟨b4, h4⟩ : ∃ b, withinB x.off 0 200000 = b := ⟨_, rfl⟩
  obtain ⟨b5, h5⟩ : ∃ b, withinB x.before 0 5000 = b := ⟨_, rfl⟩
  obtain ⟨b6, h6⟩ : ∃ b, withinB x.after 0 5000 = b := ⟨_, rfl⟩
  have C4 := Lib.hid (sIn_let h4)
  have C5 := Lib.hid (sIn_let h5)
  have C6 := Lib.hid (sIn_let h6)
  have H4 := Lib.hid h4
  have H5 := Lib.hid h5
  have H6 := Lib.hid h6
  have w0 := cellOf HK2.out 0 (x := .slice A2 m c2) rfl
  have w1 := cellOf HK2.out 1 (x := .int .i64 x.off) rfl
  have w2 := cellOf HK2.out 2 (x := .int .i64 x.before) rfl
  have w3 := cellOf HK2.out 3 (x := .int .i64 x.after) rfl
  clear hx hdrop hrr e1 hm h4 h5 h6 hO hB
  go_upto_region 15 with fail
  rw [E1.out]
  clear E1 c0 c1 c2' c3 p2
  have HNO : Hid (¬ x.ok → checkE p = 6) := fun h => by rw [HW.out, hE.out, HDR.out, websE_no h]
  go_wp2_with fail
  refine (C4.out _).mono ?_
  rintro _ _ ⟨rfl, rfl⟩
  cases b4
  · have HF : Hid (checkE p = 6) := HNO.out fun h => by have := (webOk.1 h).1; rw [H4.out] at this; cases this
    go_wp2_with fail
    go_ret
    exact ⟨ri HF.out, HBX1.out⟩
  go_wp2_with fail
  refine (C5.out _).mono ?_
  rintro _ _ ⟨rfl, rfl⟩
  cases b5
  · have HF : Hid (checkE p = 6) := HNO.out fun h => by have := (webOk.1 h).2.1; rw [H5.out] at this; cases this
    go_wp2_with fail
    go_ret
    exact ⟨ri HF.out, HBX1.out⟩
  go_wp2_with fail
  refine (C6.out _).mono ?_
  rintro _ _ ⟨rfl, rfl⟩
  cases b6
  · have HF : Hid (checkE p = 6) := HNO.out fun h => by have := (webOk.1 h).2.2; rw [H6.out] at this; cases this
    go_wp2_with fail
    go_ret
    exact ⟨ri HF.out, HBX1.out⟩
  have HOK : Hid x.ok := webOk.2 ⟨H4.out, H5.out, H6.out⟩
  clear C4 C5 C6 H4 H5 H6 HNO
  obtain ⟨q, hq⟩ : ∃ q, L.length = q := ⟨_, rfl⟩
  have HQ := Lib.hid hq
  have hq1 : q ≤ 20 * j := by rw [← hq]; exact hL.out
  obtain ⟨xb, hxb⟩ : ∃ b, X.heap.size = b := ⟨_, rfl⟩
  rw [hxb] at HK2 w0 w1 w2 w3
  rw [hq] at HO1 ⊢
  have HXB := Lib.hid hxb
  rw [hxb]
  clear hq hxb
  have HBAD : Hid (∀ e, e ≠ 0 → reelsE (idsL L) x.reels = e → checkE p = e) := fun e he h => by rw [HW.out, hE.out, HDR.out, websE_bad HOK.out (by rw [h]; exact he), h]
  clear HALL HB w1 w2 w3
  go_wp2_with fail
  go_loopw [4, 7] (fun u s wr => ∃ i : Nat, i ≤ m ∧ s = .int .i64 (i : Int) ∧ Hid (MetRow W1.heap.size wr u (L ++ x.reels.take i)) ∧ Hid (Below W1.heap.size W1 wr) ∧ Hid (Blk wr xb 188 #[.slice A2 m c2, .int .i64 x.off, .int .i64 x.before, .int .i64 x.after]) ∧ Hid (reelsE (idsL L) x.reels = reelsE (idsL (L ++ x.reels.take i)) (x.reels.drop i))) (fun _ s _ => m - (intOf s).toNat)
  case atStart => exact ⟨0, Nat.zero_le _, rfl, by rw [List.take_zero, List.append_nil]; exact HO1, HXX, HK2, by rw [List.take_zero, List.append_nil]; rfl⟩
  case round =>
  obtain ⟨i, hi, rfl, hO, hB, hK, hR⟩ := hrel
  obtain ⟨Y, rfl⟩ : ∃ X : World, X = wr := ⟨_, rfl⟩
  obtain ⟨Az, cz, rfl⟩ := ownsRow_form hO.out
  have hBY : Hid (Below w.heap.size w Y) := HB1.out.trans (hB.out.mono HB1.out.size)
  clear w0
  have w0 := cellOf hK.out 0 (x := .slice A2 m c2) rfl
  by_cases hlt2 : i < m
  · obtain ⟨rl, hrl⟩ : ∃ r, x.reels[i]? = some r := ⟨_, List.getElem?_eq_getElem (by rw [HM.out]; exact hlt2)⟩
    obtain ⟨g2, o2, rfl, r0, r1, r2, r3⟩ := reels_at (HXR.out Y hBY.out).2.2.2.2 hrl
    have hdr : x.reels.drop i = rl :: x.reels.drop (i + 1) := by
      obtain ⟨h1, rfl⟩ := List.getElem?_eq_some_iff.1 hrl
      exact List.drop_eq_getElem_cons h1
    have HDI := Lib.hid hdr
    have HTK : Hid (L ++ x.reels.take (i + 1) = L ++ x.reels.take i ++ [rl]) := by
      show _ = _
      rw [take_snoc_get hrl, List.append_assoc]
    obtain ⟨M, hMe⟩ : ∃ M, L ++ x.reels.take i = M := ⟨_, rfl⟩
    rw [hMe] at hO hR HTK ⊢
    obtain ⟨z, hz⟩ : ∃ z, M.length = z := ⟨_, rfl⟩
    have hz9 : z ≤ 120 := by
      rw [← hz, ← hMe, List.length_append, List.length_take, HQ.out, HM.out]
      omega
    have HZ := Lib.hid hz
    rw [hz] at hO ⊢
    obtain ⟨b7, h7⟩ : ∃ b, decide rl.ok = b := ⟨_, rfl⟩
    have H7 := Lib.hid h7
    have CR := Lib.hid (refRight_any rl Y)
    rw [h7] at CR
    have HRL := Lib.hid hrl
    clear hrl hdr hMe hz h7
    go_wp2_with fail
    refine CR.out.mono ?_
    rintro _ Y1 ⟨rfl, hb1⟩
    have HY1 := Lib.hid hb1
    have HBY1 : Hid (Below w.heap.size w Y1) := hBY.out.trans (hb1.mono hBY.out.size)
    have HO2 := Lib.hid (MetRow.below hO.out hb1)
    have HK3 := Lib.hid (hK.out.below hb1 hK.out.lt)
    have HB3 : Hid (Below W1.heap.size W1 Y1) := hB.out.trans (hb1.mono hB.out.size)
    clear CR hb1 w0 r0 r1 r2 r3
    cases b7
    · have HF : Hid (checkE p = 70) := HBAD.out 70 (by decide) (by rw [hR.out, HDI.out, reelsE_no (of_decide_eq_false H7.out)])
      go_wp2_with fail
      go_ret
      exact ⟨ri HF.out, HBY1.out⟩
    have HO3 : Hid (Y1.ownsRow W1.heap.size 128 4 (.slice Az z cz) z (M.flatMap ReelD.cells)) := by
      have := HO2.out
      unfold MetRow at this
      rw [HZ.out] at this
      exact this
    have HAp : Hid (∀ v' Z, (Y1.alloc (.cells #[.int .i64 rl.id, .int .i64 rl.width, .int .i64 rl.length, .int .i64 rl.core] 128)).grownBy Z (Value.slice Az z cz).ownBlock → Z.ownsRow W1.heap.size 128 4 v' (z + 1) (M.flatMap ReelD.cells ++ [.int .i64 rl.id, .int .i64 rl.width, .int .i64 rl.length, .int .i64 rl.core]) → Hid (MetRow W1.heap.size Z v' (M ++ [rl]) ∧ Blk Z xb 188 #[.slice (some ⟨g2, o2, none⟩) m c2, .int .i64 x.off, .int .i64 x.before, .int .i64 x.after] ∧ Below W1.heap.size W1 Z)) := fun v' Z hg ho => met_app (by decide) HZ.out HO2.out HK3.out HB3.out rfl hg ho
    have HSZ : Hid (W1.heap.size ≤ Y1.heap.size) := HB3.out.size
    obtain ⟨g3, o3, e3, r0, r1, r2, r3⟩ := reels_at (HXR.out Y1 HBY1.out).2.2.2.2 HRL.out
    injection e3 with e3
    injection e3 with e4 e5
    subst e4
    subst e5
    have w0 := cellOf HK3.out 0 (x := .slice (some ⟨g2, o2, none⟩) m c2) rfl
    have hz0' : (z : Int) < 9223372036854775807 := by omega
    clear hO hB hK HO2 HY1 hBY
    go_wp2_with (at_builtin; refine wpList_append_own _ rfl _ _ 127 rfl W1.heap.size 128 i0 _ 4 32 sliceReelR hi0 hz0 hz1 hz2 rfl (by decide) (.slice Az z cz) z (M.flatMap ReelD.cells) rfl (HO3.out.alloc _) ⟨Y1.heap.size, 0, none⟩ 1 1 [.int .i64 rl.id, .int .i64 rl.width, .int .i64 rl.length, .int .i64 rl.core] rfl rfl (cells_new _ _ _) (by simp [Value.oneCell']) (by simp only [maxLen]; omega) (by omega) (by have := HSZ.out; simp; omega) ?_; intro v2' Z hown' hgro _; obtain ⟨Av2, cv2, rfl⟩ := ownsRow_form hown'; have hfin := HAp.out _ _ hgro hown'; clear HAp hown' hgro r0 r1 r2 r3 w0)
    have CM := refMet_any (M ++ [rl]) z rl (by rw [← HZ.out]; simp) (by rw [List.length_append, HZ.out]; simp; omega) (.slice Av2 (z + 1) cv2) Z hfin.out.1.reads
    rw [show (M ++ [rl]).take z = M by rw [← HZ.out, List.take_left']; rfl] at CM
    obtain ⟨b8, h8⟩ : ∃ b, decide (rl.id ∈ idsL M) = b := ⟨_, rfl⟩
    rw [h8] at CM
    have H8 := Lib.hid h8
    clear h8
    refine CM.mono ?_
    rintro _ Z1 ⟨rfl, hb2⟩
    have HBZ : Hid (Below W1.heap.size W1 Z1) := hfin.out.2.2.trans (hb2.mono hfin.out.2.2.size)
    have HMZ := Lib.hid (MetRow.below hfin.out.1 hb2)
    have HKZ := Lib.hid (hfin.out.2.1.below hb2 hfin.out.2.1.lt)
    clear CM hb2 hfin
    cases b8
    · have HRN : Hid (reelsE (idsL L) x.reels = reelsE (idsL (M ++ [rl])) (x.reels.drop (i + 1))) := by
        show _ = _
        rw [hR.out, HDI.out, reelsE_next (of_decide_eq_true H7.out) (of_decide_eq_false H8.out), idsL_app]
        rfl
      go_wp2_with fail
      go_roundw
      case rel => exact ⟨i + 1, by omega, by go_num, by rw [HTK.out]; exact HMZ, HBZ, HKZ, by rw [HTK.out]; exact HRN⟩
      case measure => simp [intOf]; omega
    · have HF : Hid (checkE p = 10) := HBAD.out 10 (by decide) (by rw [hR.out, HDI.out, reelsE_twice (of_decide_eq_true H7.out) (of_decide_eq_true H8.out)])
      go_wp2_with fail
      go_ret
      exact ⟨ri HF.out, HB1.out.trans (HBZ.out.mono HB1.out.size)⟩
  obtain rfl : i = m := by omega
  have HT : Hid (x.reels.take i = x.reels) := List.take_of_length_le (by rw [HM.out]; exact Nat.le_refl _)
  have HNE : Hid (websE [] p.webs = websE (idsL (L ++ x.reels)) (p.webs.drop (j + 1))) := by
    have h0 : reelsE (idsL L) x.reels = 0 := by
      rw [hR.out, List.drop_of_length_le (by rw [HM.out]; exact Nat.le_refl _)]
      rfl
    show _ = _
    rw [hE.out, HDR.out, websE_next HOK.out h0, idsL_app]
  rw [HT.out] at hO ⊢
  go_wp2_with fail
  go_roundw
  case rel => exact ⟨j + 1, by omega, by go_num, L ++ x.reels, by show _ ≤ _; rw [List.length_append, HQ.out, HM.out]; omega, hO, hB, HNE⟩
  case measure => simp [intOf]; omega
end Go.Proofs.Ytpkepacbondopaa

namespace Go.Proofs.Ytpkepacbondopaa
open Go.RowKit Go.Shelf
attribute [local go_sem] Oper.semAt_some

/-- A splice at a place spoils a millimetre that a copy takes. -/
def SpoilAt (p : PressD) (x : WebD) (c at_ : Int) : Prop := at_ - x.before ≤ at_ + x.after - 1 ∧ at_ - x.before ≤ x.off + c * p.cut + p.cut - 1 ∧ x.off + c * p.cut ≤ at_ + x.after - 1
def SpoilWeb (p : PressD) (x : WebD) (c : Int) : Prop := ∃ at_ ∈ x.places, SpoilAt p x c at_
def Spoil (p : PressD) (c : Int) : Prop := ∃ x ∈ p.webs, SpoilWeb p x c
theorem floor_le {a c d : Int} (hd : 0 < d) : a / d ≤ c ↔ a ≤ c * d + d - 1 := by
  have h1 := Int.emod_add_mul_ediv a d
  have h2 := Int.emod_nonneg a (by omega : d ≠ 0)
  have h3 := Int.emod_lt_of_pos a hd
  constructor
  · intro h
    have h4 : d * (a / d) ≤ d * c := Int.mul_le_mul_of_nonneg_left h (by omega)
    rw [Int.mul_comm d c] at h4
    omega
  · intro h
    have h4 : d * (a / d) < d * (c + 1) := by
      rw [Int.mul_add, Int.mul_comm d c]
      omega
    have := Int.lt_of_mul_lt_mul_left h4 (by omega)
    omega
theorem le_floor {a c d : Int} (hd : 0 < d) : c ≤ a / d ↔ c * d ≤ a := Int.le_ediv_iff_mul_le hd
theorem spoilAt_iff {p : PressD} (hc : 0 < p.cut) {x : WebD} {c at_ : Int} : SpoilAt p x c at_ ↔ at_ - x.before ≤ at_ + x.after - 1 ∧ (at_ - x.before - x.off) / p.cut ≤ c ∧ c ≤ (at_ + x.after - 1 - x.off) / p.cut := by
  unfold SpoilAt
  rw [floor_le hc, le_floor hc]
  constructor
  · rintro ⟨h1, h2, h3⟩
    exact ⟨h1, by omega, by omega⟩
  · rintro ⟨h1, h2, h3⟩
    exact ⟨h1, by omega, by omega⟩
theorem out_spoil {p : PressD} (hp : p.Ok) (k : Int) : p.Out k ↔ ∃ c, k - p.margin ≤ c ∧ c ≤ k + p.margin ∧ Spoil p c := by
  have hc : 0 < p.cut := by have := hp.cut; omega
  have hm := hp.margin
  constructor
  · rintro ⟨x, hx, h0, a, ha, h1, h2⟩
    have hxo := hp.web x hx
    have hb := hxo.2.1
    have haf := hxo.2.2
    have hle : a - x.before - x.off ≤ a + x.after - 1 - x.off := by omega
    have hfl : (a - x.before - x.off) / p.cut ≤ (a + x.after - 1 - x.off) / p.cut := Int.ediv_le_ediv hc hle
    unfold PressD.span at h1 h2
    simp only at h1 h2
    refine ⟨max (k - p.margin) ((a - x.before - x.off) / p.cut), by omega, by omega, x, hx, a, ha, (spoilAt_iff hc).2 ⟨by omega, by omega, by omega⟩⟩
  · rintro ⟨c, h1, h2, x, hx, a, ha, h3⟩
    obtain ⟨h4, h5, h6⟩ := (spoilAt_iff hc).1 h3
    refine ⟨x, hx, by omega, a, ha, ?_, ?_⟩
    · unfold PressD.span
      simp only
      omega
    · unfold PressD.span
      simp only
      omega
end Go.Proofs.Ytpkepacbondopaa

namespace Go.Proofs.Ytpkepacbondopaa
open Go.RowKit Go.Shelf
attribute [local go_sem] Oper.semAt_some

/-- Webs in memory, by place: each at any later world. -/
theorem webs_later {w : World} {A : Option Addr} {n c : Nat} {l : List WebD} (h : RWebs w.heap.size w (.slice A n c) l) : Hid (∀ k x, l[k]? = some x → ∃ g o A2 c2, A = some ⟨g, o, none⟩ ∧ Hid (∀ X, Below w.heap.size w X → X.cell? ⟨g, o + k * 4, none⟩ = some (.slice A2 x.reels.length c2) ∧ X.cell? ⟨g, o + k * 4 + 1, none⟩ = some (.int .i64 x.off) ∧ X.cell? ⟨g, o + k * 4 + 2, none⟩ = some (.int .i64 x.before) ∧ X.cell? ⟨g, o + k * 4 + 3, none⟩ = some (.int .i64 x.after) ∧ RReels X.heap.size X (.slice A2 x.reels.length c2) x.reels)) := fun k x hx => by
  obtain ⟨A', c', e, -, hr⟩ := h.open_
  injection e with e1 e2 e3
  subst e1
  obtain ⟨g, o, A2, c2, rfl, hg, c0, c1, c2', c3, hrr⟩ := hr k x hx
  exact ⟨g, o, A2, c2, rfl, fun X hX => ⟨(hX.cell (p := ⟨g, o + k * 4, none⟩) hg).trans c0, (hX.cell (p := ⟨g, o + k * 4 + 1, none⟩) hg).trans c1, (hX.cell (p := ⟨g, o + k * 4 + 2, none⟩) hg).trans c2', (hX.cell (p := ⟨g, o + k * 4 + 3, none⟩) hg).trans c3, (Rd.below hrr hX).more hX.size⟩⟩
theorem ends_places {x : WebD} {k : Nat} (h : k + 1 < x.reels.length) : givesL (x.reels.take (k + 1)) ∈ x.places := mem_places.2 ⟨k, h, rfl⟩
theorem endsTo_get {l : List ReelD} {n k : Nat} (h : k < n) : (endsTo l n).getD k 0 = givesL (l.take (k + 1)) := by
  unfold endsTo
  rw [List.getD_eq_getElem?_getD, List.getElem?_map, List.getElem?_range h]
  rfl
set_option maxRecDepth 1000000 in
set_option maxHeartbeats 4000000 in
theorem refSpoiled_any (p : PressD) (hp : p.Ok) (cp : Int) (hcp : -1000 ≤ cp ∧ cp ≤ 1001000) (v : Value) (w : World) (h : RPress w.heap.size w v p) :
    Calls Try.prog 147 #[v, .int .i64 cp] w fun e w' => ∃ b, e = .returned (.bool b) ∧ Hid (b = true ↔ Spoil p cp) ∧ Below w.heap.size w w' := by
  obtain ⟨u, rfl, hw⟩ := h
  obtain ⟨A, c, rfl, hlm, -⟩ := hw.open_
  have HR := webs_later hw
  obtain ⟨n, hn⟩ : ∃ n, p.webs.length = n := ⟨_, rfl⟩
  have hn6 : n ≤ 6 := by have := hp.webs.2; omega
  rw [hn] at hlm ⊢
  obtain ⟨cut, hcut⟩ : ∃ c, p.cut = c := ⟨_, rfl⟩
  obtain ⟨mg, hmg⟩ : ∃ c, p.margin = c := ⟨_, rfl⟩
  have hc1 : 300 ≤ cut ∧ cut ≤ 1500 := by have := hp.cut; rw [hcut] at this; exact this
  rw [hcut, hmg]
  obtain ⟨P, hP⟩ : ∃ P, cp * cut = P := ⟨_, rfl⟩
  have hPb : -2000000 ≤ P ∧ P ≤ 2000000000 := by
    rw [← hP]
    constructor
    · rcases Int.le_total 0 cp with h | h
      · have := Int.mul_nonneg h (by omega : 0 ≤ cut); omega
      · have := Int.mul_le_mul_of_nonneg_right hcp.1 (by omega : 0 ≤ cut); omega
    · rcases Int.le_total 0 cp with h | h
      · have h1 := Int.mul_le_mul_of_nonneg_right hcp.2 (by omega : 0 ≤ cut)
        omega
      · have := Int.mul_le_mul_of_nonneg_right h (by omega : 0 ≤ cut); omega
  have HPP := Lib.hid hP
  have HWP : Hid (wrap64 (cp * cut) = P) := by show _ = _; rw [hP]; exact IntWalk.wrap64_in _ ⟨by omega, by omega⟩
  have HN := Lib.hid hn
  have HC := Lib.hid hcut
  have HPO := Lib.hid hp
  clear hn hcut hmg hp hw hP
  obtain ⟨hc1, hc2⟩ := hc1
  obtain ⟨hp1, hp2⟩ := hPb
  obtain ⟨hcp1, hcp2⟩ := hcp
  have F0 : ∃ W0, w.alloc (.cells #[.int .i64 cut, .int .i64 mg, .slice A n c] 105) = W0 ∧ Hid (Below w.heap.size w W0) ∧ Hid (Blk W0 w.heap.size 105 #[.int .i64 cut, .int .i64 mg, .slice A n c]) := ⟨_, rfl, below_alloc _ _, Blk.new _ _ _⟩
  obtain ⟨W0, e0, HB0, HK0⟩ := F0
  have E0 := Lib.hid e0
  clear e0
  go_enter Try.func147, Try.ntmps147
  go_upto_region 1 with fail
  rw [E0.out]
  clear E0
  go_wp2_with fail
  go_loopw [5] (fun i wr => ∃ k : Nat, k ≤ n ∧ i = .int .i64 k ∧ Hid (∀ (j : Nat) (x : WebD), j < k → p.webs[j]? = some x → ¬ SpoilWeb p x cp) ∧ Hid (Below W0.heap.size W0 wr)) (fun i _ => n - (intOf i).toNat)
  case atStart => exact ⟨0, Nat.zero_le _, rfl, fun j x hj => absurd hj (Nat.not_lt_zero _), Below.refl _ _⟩
  case round =>
  obtain ⟨k, hk, rfl, hno, hB⟩ := hrel
  obtain ⟨X, rfl⟩ : ∃ X : World, X = wr := ⟨_, rfl⟩
  have hBw : Hid (Below w.heap.size w X) := HB0.out.trans (hB.out.mono HB0.out.size)
  have hKX := HK0.out.below hB.out HK0.out.lt
  have p2 := cellOf hKX 2 (x := .slice A n c) rfl
  have p0 := cellOf hKX 0 (x := .int .i64 cut) rfl
  by_cases hlt : k < n
  case neg =>
    obtain rfl : k = n := by omega
    go_wp2_with fail
    go_ret
    refine ⟨false, rfl, ⟨fun h => Bool.noConfusion h, ?_⟩, hBw.out⟩
    rintro ⟨x, hx, hs⟩
    obtain ⟨j, hj⟩ := List.getElem?_of_mem hx
    exact absurd hs (hno.out j x (by rw [← HN.out]; exact (List.getElem?_eq_some_iff.1 hj).1) hj)
  obtain ⟨x, hx⟩ : ∃ x, p.webs[k]? = some x := ⟨_, List.getElem?_eq_getElem (by rw [HN.out]; exact hlt)⟩
  have hmem := List.mem_of_getElem? hx
  have hxo := HPO.out.web x hmem
  have hxr := HPO.out.reel x hmem
  have hxl := HPO.out.reels x hmem
  obtain ⟨g, o, A2, c2, rfl, HXR⟩ := HR.out k x hx
  obtain ⟨c0, c1, c2', c3, hrr⟩ := HXR.out X hBw.out
  have F1 : ∃ X1, X.alloc (.cells #[.slice A2 x.reels.length c2, .int .i64 x.off, .int .i64 x.before, .int .i64 x.after] 188) = X1 ∧ Hid (Below X.heap.size X X1) ∧ Hid (Blk X1 X.heap.size 188 #[.slice A2 x.reels.length c2, .int .i64 x.off, .int .i64 x.before, .int .i64 x.after]) := ⟨_, rfl, below_alloc _ _, Blk.new _ _ _⟩
  obtain ⟨X1, e1, HX1, HK1⟩ := F1
  have E1 := Lib.hid e1
  have HX := Lib.hid hx
  have hrr1 : RReels X1.heap.size X1 (.slice A2 x.reels.length c2) x.reels := (Rd.below hrr HX1.out).more HX1.out.size
  have CE := Lib.hid (refEnds_any x hxr hxl _ X1 hrr1)
  have HGB : Hid (∀ j, 0 ≤ givesL (x.reels.take j) ∧ givesL (x.reels.take j) ≤ 400000000) := fun j => givesTake_bound hxr hxl j
  obtain ⟨m, hm⟩ : ∃ m, x.reels.length = m := ⟨_, rfl⟩
  obtain ⟨off, hoff⟩ : ∃ G, x.off = G := ⟨_, rfl⟩
  obtain ⟨bef, hbef⟩ : ∃ G, x.before = G := ⟨_, rfl⟩
  obtain ⟨aft, haft⟩ : ∃ G, x.after = G := ⟨_, rfl⟩
  have HM := Lib.hid hm
  obtain ⟨⟨ho1, ho2⟩, ⟨hb1, hb2⟩, ⟨ha1, ha2⟩⟩ := hxo
  have HSP : Hid (∀ a, SpoilAt p x cp a ↔ a - bef ≤ a + aft - 1 ∧ a - bef ≤ off + P + cut - 1 ∧ off + P ≤ a + aft - 1) := fun a => by
    unfold SpoilAt
    rw [HC.out, HPP.out, hoff, hbef, haft]
  rw [hoff] at ho1 ho2 c1 E1 HK1 CE
  rw [hbef] at hb1 hb2 c2' E1 HK1 CE
  rw [haft] at ha1 ha2 c3 E1 HK1 CE
  rw [hm] at c0 hxl E1 HK1 CE
  have w1 := cellOf HK1.out 1 (x := .int .i64 off) rfl
  have w0 := cellOf HK1.out 0 (x := .slice A2 m c2) rfl
  have w2 := cellOf HK1.out 2 (x := .int .i64 bef) rfl
  have w3 := cellOf HK1.out 3 (x := .int .i64 aft) rfl
  have p01 := cellOf (hKX.below HX1.out (Nat.lt_of_lt_of_le HK0.out.lt hB.out.size)) 0 (x := .int .i64 cut) rfl
  clear hx hmem hxr hrr hrr1 e1 hKX hm hoff hbef haft
  go_upto_region 5 with fail
  rw [E1.out]
  clear c0 c1 c2' c3 E1 p2 p0
  go_upto_region 7 with fail
  have HF1 : Hid (wrap64 (off + P) = off + P) := IntWalk.wrap64_in _ ⟨by omega, by omega⟩
  have HF2 : Hid (wrap64 (wrap64 (off + P + cut) - 1) = off + P + cut - 1) := by
    show _ = _
    rw [IntWalk.wrap64_in (off + P + cut) ⟨by omega, by omega⟩]
    exact IntWalk.wrap64_in _ ⟨by omega, by omega⟩
  rw [HWP.out, HF1.out, HF2.out]
  obtain ⟨F, hF⟩ : ∃ F, off + P = F := ⟨_, rfl⟩
  obtain ⟨T, hT⟩ : ∃ T, off + P + cut - 1 = T := ⟨_, rfl⟩
  have HFT : Hid (∀ a, SpoilAt p x cp a ↔ a - bef ≤ a + aft - 1 ∧ a - bef ≤ T ∧ F ≤ a + aft - 1) := fun a => by rw [HSP.out a, ← hT, ← hF]
  rw [hF] at hT ⊢
  rw [hT]
  clear hF hT HSP HF1 HF2 p01
  go_wp2_with fail
  refine CE.out.mono ?_
  rintro _ Y ⟨ul, rfl, hO, hb⟩
  have hEl := endsTo_len x.reels m
  have HRI : RInts Y.heap.size Y ul (endsTo x.reels m) := Rd.own hO (own_le hO)
  obtain ⟨Ae, ce, rfl, -, -⟩ := HRI.open_
  rw [hEl]
  have HEL : Hid (∀ Z, Below Y.heap.size Y Z → ∀ j, j < m → ∃ g o, Ae = some ⟨g, o, none⟩ ∧ Z.cell? ⟨g, o + j, none⟩ = some (.int .i64 (givesL (x.reels.take (j + 1))))) := fun Z hZ j hj => by
    obtain ⟨A', c', e, -, hc⟩ := RInts.open_ HRI
    injection e with e1 e2 e3
    subst e1
    obtain ⟨g, o, y, rfl, hg, h4, h5⟩ := hc j (by rw [hEl]; exact hj)
    refine ⟨g, o, rfl, (hZ.cell (p := ⟨g, o + j, none⟩) hg).trans ?_⟩
    rw [h4, ← h5.out, endsTo_get hj]
  have HBY : Hid (Below X.heap.size X Y) := HX1.out.trans (hb.mono HX1.out.size)
  have HKY := Lib.hid (HK1.out.below hb HK1.out.lt)
  have HBW : Hid (Below w.heap.size w Y) := hBw.out.trans (HBY.out.mono hBw.out.size)
  clear CE hO hb hEl HRI w0 w1 w2 w3 HK1
  go_wp2_with fail
  go_loopw [10] (fun s wr => ∃ i : Nat, i ≤ m ∧ s = .int .i64 (i : Int) ∧ Hid (∀ j, j < i → j + 1 < m → ¬ SpoilAt p x cp (givesL (x.reels.take (j + 1)))) ∧ Hid (Below Y.heap.size Y wr)) (fun s _ => m - (intOf s).toNat)
  case atStart => exact ⟨0, Nat.zero_le _, rfl, fun j hj => absurd hj (Nat.not_lt_zero _), Below.refl _ _⟩
  case round =>
  obtain ⟨i, hi, rfl, hns, hBi⟩ := hrel
  obtain ⟨Z, rfl⟩ : ∃ X : World, X = wr := ⟨_, rfl⟩
  by_cases hl2 : i + 1 < m
  case neg =>
    have HNW : Hid (¬ SpoilWeb p x cp) := by
      rintro ⟨a, ha, hs⟩
      obtain ⟨j, hj, rfl⟩ := mem_places.1 ha
      rw [HM.out] at hj
      exact hns.out j (by omega) hj hs
    have hl3 : ¬ ((i : Int) + 1 < (m : Int)) := by omega
    go_wp2_with fail
    go_roundw
    case rel =>
      first
        | exact ⟨k + 1, by omega, by go_num, fun j y hj hy => by
            by_cases hjk : j = k
            · subst hjk
              rw [HX.out] at hy
              cases hy
              exact HNW.out
            · exact hno.out j y (by omega) hy, hB.out.trans ((HBY.out.trans (hBi.out.mono HBY.out.size)).mono hB.out.size)⟩
        | (repeat apply Exists.intro
           refine ⟨?_, rfl⟩
           exact ⟨k + 1, by omega, by go_num, fun j y hj hy => by
            by_cases hjk : j = k
            · subst hjk
              rw [HX.out] at hy
              cases hy
              exact HNW.out
            · exact hno.out j y (by omega) hy, hB.out.trans ((HBY.out.trans (hBi.out.mono HBY.out.size)).mono hB.out.size)⟩)
    case measure => simp [intOf]; omega
  obtain ⟨g3, o3, rfl, hcell⟩ := HEL.out Z hBi.out i (by omega)
  have hl3 : (i : Int) + 1 < (m : Int) := by omega
  have hKZ := HKY.out.below hBi.out HKY.out.lt
  have w2 := cellOf hKZ 2 (x := .int .i64 bef) rfl
  have w3 := cellOf hKZ 3 (x := .int .i64 aft) rfl
  have hEb := HGB.out (i + 1)
  obtain ⟨E, hE⟩ : ∃ E, givesL (x.reels.take (i + 1)) = E := ⟨_, rfl⟩
  rw [hE] at hcell hEb
  have HE := Lib.hid hE
  obtain ⟨hE1, hE2⟩ := hEb
  have i0 : (0 : Int) ≤ (i : Int) := by omega
  have i1 : (i : Int) < (m : Int) := by omega
  have s1 : IntKind.i64.wrap (E - bef) = E - bef := IntWalk.i64_in _ ⟨by omega, by omega⟩
  have s2 : IntKind.i64.wrap (E + aft) = E + aft := IntWalk.i64_in _ ⟨by omega, by omega⟩
  have s3 : IntKind.i64.wrap (E + aft - 1) = E + aft - 1 := IntWalk.i64_in _ ⟨by omega, by omega⟩
  clear hE hKZ
  go_upto_region 11 with fail
  go_cut [11, 12] from 46 to 60 (fun a b wx => a = .int .i64 (E - bef) ∧ b = .int .i64 (E + aft - 1) ∧ Hid (Below Z.heap.size Z wx))
  case first =>
    go_quiet (fail)
    go_wp2_with fail
    go_meet
    exact ⟨rfl, rfl, below_drewN (Below.refl _ _) _⟩
  case rest =>
  obtain ⟨rfl, rfl, hD⟩ := hcut
  obtain ⟨Q, rfl⟩ : ∃ X : World, X = wc := ⟨_, rfl⟩
  clear s1 s2 s3 i0 i1 w2 w3 hcell
  have HBQ : Hid (Below Y.heap.size Y Q) := hBi.out.trans (hD.out.mono hBi.out.size)
  have HIN : Hid (¬ (E - bef ≤ E + aft - 1 ∧ E - bef ≤ T ∧ F ≤ E + aft - 1) → ∀ j, j < i + 1 → j + 1 < m → ¬ SpoilAt p x cp (givesL (x.reels.take (j + 1)))) := fun h j hj hj2 => by
    by_cases hji : j = i
    · subst hji
      rw [HE.out, HFT.out]
      exact h
    · exact hns.out j (by omega) hj2
  by_cases q1 : E - bef ≤ E + aft - 1
  case neg =>
    have HI2 := Lib.hid (HIN.out fun h => q1 h.1)
    go_wp2_with fail
    go_roundw
    case rel => exact ⟨i + 1, by omega, by go_num, HI2, HBQ⟩
    case measure => simp [intOf]; omega
  by_cases q2 : E - bef ≤ T
  case neg =>
    have HI2 := Lib.hid (HIN.out fun h => q2 h.2.1)
    go_wp2_with fail
    go_roundw
    case rel => exact ⟨i + 1, by omega, by go_num, HI2, HBQ⟩
    case measure => simp [intOf]; omega
  by_cases q3 : F ≤ E + aft - 1
  case neg =>
    have HI2 := Lib.hid (HIN.out fun h => q3 h.2.2)
    go_wp2_with fail
    go_roundw
    case rel => exact ⟨i + 1, by omega, by go_num, HI2, HBQ⟩
    case measure => simp [intOf]; omega
  have HYS : Hid (Spoil p cp) := ⟨x, List.mem_of_getElem? HX.out, E, by rw [← HE.out]; exact ends_places (by rw [HM.out]; exact hl2), (HFT.out E).2 ⟨q1, q2, q3⟩⟩
  go_wp2_with fail
  go_ret
  exact ⟨true, rfl, ⟨fun _ => HYS.out, fun _ => rfl⟩, HBW.out.trans (HBQ.out.mono HBW.out.size)⟩
end Go.Proofs.Ytpkepacbondopaa

namespace Go.Proofs.Ytpkepacbondopaa
open Go.RowKit Go.Shelf
attribute [local go_sem] Oper.semAt_some

/-- A bool that tells whether something holds. -/
def BRet (P : Prop) (w : World) (e : Ending) (w' : World) : Prop := ∃ b, e = .returned (.bool b) ∧ Hid (b = true ↔ P) ∧ Below w.heap.size w w'
/-- The box of a press. -/
theorem press_box (w : World) (cut mg : Int) (u : Value) : ∃ W0, w.alloc (.cells #[.int .i64 cut, .int .i64 mg, u] 105) = W0 ∧ Hid (Below w.heap.size w W0) ∧ Hid (∀ X, Below W0.heap.size W0 X → X.cell? ⟨w.heap.size, 0, none⟩ = some (.int .i64 cut) ∧ X.cell? ⟨w.heap.size, 1, none⟩ = some (.int .i64 mg) ∧ X.cell? ⟨w.heap.size, 2, none⟩ = some u) := by
  have hB := Blk.new w 105 #[.int .i64 cut, .int .i64 mg, u]
  exact ⟨_, rfl, below_alloc _ _, fun X hX => ⟨cellOf (hB.below hX hB.lt) 0 rfl, cellOf (hB.below hX hB.lt) 1 rfl, cellOf (hB.below hX hB.lt) 2 rfl⟩⟩
set_option maxRecDepth 100000 in
set_option maxHeartbeats 4000000 in
theorem refOut_any (p : PressD) (hp : p.Ok) (k : Int) (hk : 0 ≤ k ∧ k ≤ 1000000) (v : Value) (w : World) (h : RPress w.heap.size w v p) :
    Calls Try.prog 107 #[v, .int .i64 k] w (BRet (p.Out k) w) := by
  have HP := Lib.hid h
  obtain ⟨u, rfl, hw⟩ := h
  obtain ⟨A, c, rfl, -, -⟩ := hw.open_
  obtain ⟨hk1, hk2⟩ := hk
  obtain ⟨mg, hmg⟩ : ∃ c, p.margin = c := ⟨_, rfl⟩
  have hm1 : 0 ≤ mg ∧ mg ≤ 20 := by have := hp.margin; rw [hmg] at this; exact this
  obtain ⟨hm1, hm2⟩ := hm1
  have HMG := Lib.hid hmg
  have HPO := Lib.hid hp
  rw [hmg] at HP ⊢
  clear hw hp hmg
  obtain ⟨W0, e0, HB0, HC0⟩ := press_box w p.cut mg (.slice A p.webs.length c)
  have E0 := Lib.hid e0
  obtain ⟨p0, p1, p2⟩ := HC0.out W0 (Below.refl _ _)
  clear e0
  go_enter Try.func107, Try.ntmps107
  go_upto_region 1 with fail
  rw [E0.out]
  clear E0
  go_wp2_with fail
  go_loopw [5] (fun s wr => ∃ d : Int, s = .int .i64 d ∧ k - mg ≤ d ∧ d ≤ k + mg + 1 ∧ Hid (∀ z, k - mg ≤ z → z < d → ¬ Spoil p z) ∧ Hid (Below W0.heap.size W0 wr)) (fun s _ => (k + mg + 1 - intOf s).toNat)
  case atStart => exact ⟨_, rfl, Int.le_refl _, by omega, fun z h1 h2 => by omega, Below.refl _ _⟩
  case round =>
  obtain ⟨d, rfl, hd1, hd2, hno, hB⟩ := hrel
  obtain ⟨X, rfl⟩ : ∃ X : World, X = wr := ⟨_, rfl⟩
  have hBw : Hid (Below w.heap.size w X) := HB0.out.trans (hB.out.mono HB0.out.size)
  clear p0 p1 p2
  obtain ⟨p0, p1, p2⟩ := HC0.out X hB.out
  by_cases hlt : d ≤ k + mg
  case neg =>
    have HNO : Hid (¬ p.Out k) := fun h => by
      obtain ⟨z, h1, h2, h3⟩ := (out_spoil HPO.out k).1 h
      rw [HMG.out] at h1 h2
      exact hno.out z h1 (by omega) h3
    go_wp2_with fail
    go_ret
    exact ⟨false, rfl, ⟨fun h => Bool.noConfusion h, fun h => absurd h HNO.out⟩, hBw.out⟩
  have CS := Lib.hid (refSpoiled_any p HPO.out d ⟨by omega, by omega⟩ _ X ((HP.out.below hBw.out).more hBw.out.size))
  go_wp2_with fail
  refine CS.out.mono ?_
  rintro _ Y ⟨b, rfl, hb, hbb⟩
  have HBY : Hid (Below W0.heap.size W0 Y) := hB.out.trans (hbb.mono hB.out.size)
  have HBW : Hid (Below w.heap.size w Y) := hBw.out.trans (hbb.mono hBw.out.size)
  clear CS hbb
  cases b
  · have HN2 : Hid (∀ z, k - mg ≤ z → z < d + 1 → ¬ Spoil p z) := fun z h1 h2 h3 => by
      by_cases hz : z = d
      · subst hz
        exact Bool.noConfusion (hb.out.2 h3)
      · exact hno.out z h1 (by omega) h3
    go_wp2_with fail
    go_roundw
    case rel => exact ⟨d + 1, by go_num, by omega, by omega, HN2, HBY⟩
    case measure => simp [intOf]; omega
  · have HYS : Hid (p.Out k) := (out_spoil HPO.out k).2 ⟨d, by rw [HMG.out]; exact hd1, by rw [HMG.out]; exact hlt, hb.out.1 rfl⟩
    go_wp2_with fail
    go_ret
    exact ⟨true, rfl, ⟨fun _ => HYS.out, fun _ => rfl⟩, HBW.out⟩
set_option maxRecDepth 100000 in
set_option maxHeartbeats 4000000 in
theorem refAsk_any (p : PressD) (n : Int) (v : Value) (w : World) (h : RPress w.heap.size w v p) :
    Calls Try.prog 106 #[v, .int .i64 n] w fun e w' => e = .returned (.int .i64 (copiesE p n)) ∧ Below w.heap.size w w' := by
  have HP := Lib.hid h
  obtain ⟨u, rfl, hw⟩ := h
  obtain ⟨A, c, rfl, -, -⟩ := hw.open_
  clear hw
  obtain ⟨W0, e0, HB0, HC0⟩ := press_box w p.cut p.margin (.slice A p.webs.length c)
  have E0 := Lib.hid e0
  obtain ⟨p0, p1, p2⟩ := HC0.out W0 (Below.refl _ _)
  obtain ⟨ce, hce⟩ : ∃ c, checkE p = c := ⟨_, rfl⟩
  have HCE := Lib.hid hce
  have C1 := Lib.hid (refCheck_any p _ W0 ((HP.out.below HB0.out).more HB0.out.size))
  rw [hce] at C1
  clear e0 hce
  go_enter Try.func106, Try.ntmps106
  go_upto_region 1 with fail
  rw [E0.out]
  clear E0
  go_wp2_with fail
  refine C1.out.mono ?_
  rintro _ X ⟨rfl, hb⟩
  have HBX : Hid (Below W0.heap.size W0 X) := hb
  have HBW : Hid (Below w.heap.size w X) := HB0.out.trans (hb.mono HB0.out.size)
  clear C1 hb p0 p1 p2
  obtain ⟨p0, p1, p2⟩ := HC0.out X HBX.out
  by_cases h0 : ce = 0
  case neg =>
    have HF : Hid (copiesE p n = ce) := by show _ = _; unfold copiesE; rw [HCE.out, if_pos h0]
    have h1 : (ce != 0) = true := by simpa using h0
    go_wp2_with fail
    go_ret
    exact ⟨ri HF.out, HBW.out⟩
  subst h0
  by_cases hn : n < 0
  · have HF : Hid (copiesE p n = 6) := by show _ = _; unfold copiesE; rw [HCE.out, if_neg (by decide), if_pos hn]
    go_wp2_with fail
    go_ret
    exact ⟨ri HF.out, HBW.out⟩
  obtain ⟨re, hre⟩ : ∃ r, p.reach = r := ⟨_, rfl⟩
  have HRE := Lib.hid hre
  have C2 := Lib.hid (refReach_any p (checkE_ok HCE.out) X _ ((HP.out.below HBW.out).more HBW.out.size))
  rw [hre] at C2
  clear hre
  go_wp2_with fail
  refine C2.out.mono ?_
  rintro _ Y ⟨rfl, hb⟩
  have HBY : Hid (Below w.heap.size w Y) := HBW.out.trans (hb.mono HBW.out.size)
  clear C2 hb p0 p1 p2
  by_cases hr : re < n
  · have HF : Hid (copiesE p n = 70) := by show _ = _; unfold copiesE; rw [HCE.out, if_neg (by decide), if_neg (show ¬ n < 0 by omega), HRE.out, if_pos hr]
    go_wp2_with fail
    go_ret
    exact ⟨ri HF.out, HBY.out⟩
  · have HF : Hid (copiesE p n = 0) := by show _ = _; unfold copiesE; rw [HCE.out, if_neg (by decide), if_neg (show ¬ n < 0 by omega), HRE.out, if_neg hr]
    go_wp2_with fail
    go_ret
    exact ⟨ri HF.out, HBY.out⟩
/-- What Reach answers. -/
def ReachRet (p : PressD) (w : World) (e : Ending) (w' : World) : Prop := e = .returned (.tuple #[.int .i64 (if checkE p = 0 then p.reach else 0), .int .i64 (checkE p)]) ∧ Below w.heap.size w w'
set_option maxRecDepth 100000 in
set_option maxHeartbeats 4000000 in
theorem refReach2_any (p : PressD) (v : Value) (w : World) (h : RPress w.heap.size w v p) :
    Calls Try.prog 46 #[v] w (ReachRet p w) := by
  have HP := Lib.hid h
  obtain ⟨u, rfl, hw⟩ := h
  obtain ⟨A, c, rfl, -, -⟩ := hw.open_
  clear hw
  obtain ⟨W0, e0, HB0, HC0⟩ := press_box w p.cut p.margin (.slice A p.webs.length c)
  have E0 := Lib.hid e0
  obtain ⟨p0, p1, p2⟩ := HC0.out W0 (Below.refl _ _)
  obtain ⟨ce, hce⟩ : ∃ c, checkE p = c := ⟨_, rfl⟩
  have HCE := Lib.hid hce
  have C1 := Lib.hid (refCheck_any p _ W0 ((HP.out.below HB0.out).more HB0.out.size))
  rw [hce] at C1
  clear e0 hce
  go_enter Try.func46, Try.ntmps46
  go_upto_region 1 with fail
  rw [E0.out]
  clear E0
  go_wp2_with fail
  refine C1.out.mono ?_
  rintro _ X ⟨rfl, hb⟩
  have HBX : Hid (Below W0.heap.size W0 X) := hb
  have HBW : Hid (Below w.heap.size w X) := HB0.out.trans (hb.mono HB0.out.size)
  clear C1 hb p0 p1 p2
  obtain ⟨p0, p1, p2⟩ := HC0.out X HBX.out
  by_cases h0 : ce = 0
  case neg =>
    have h1 : (ce != 0) = true := by simpa using h0
    have HH := Lib.hid h0
    go_wp2_with fail
    go_ret2
    exact ⟨by rw [HCE.out, if_neg HH.out]; rfl, HBW.out⟩
  subst h0
  have C2 := Lib.hid (refReach_any p (checkE_ok HCE.out) X _ ((HP.out.below HBW.out).more HBW.out.size))
  go_wp2_with fail
  refine C2.out.mono ?_
  rintro _ Y ⟨rfl, hb⟩
  have HBY : Hid (Below w.heap.size w Y) := HBW.out.trans (hb.mono HBW.out.size)
  clear C2 hb p0 p1 p2
  go_wp2_with fail
  go_ret2
  exact ⟨by rw [HCE.out, if_pos rfl]; rfl, HBY.out⟩
end Go.Proofs.Ytpkepacbondopaa

namespace Go.Proofs.Ytpkepacbondopaa
open Go.RowKit Go.Shelf
attribute [local go_sem] Oper.semAt_some

/-- The answer to a question for the splices of a web. -/
def splE (p : PressD) (i : Int) : Int := if checkE p ≠ 0 then checkE p else if 0 ≤ i ∧ i < p.webs.length then 0 else 1
def splL (p : PressD) (i : Int) : List Int := if checkE p = 0 ∧ 0 ≤ i ∧ i < p.webs.length then (p.webs.getD i.toNat default).places else []
def SplR (p : PressD) (i : Int) (w : World) (e : Ending) (w' : World) : Prop := ∃ u, e = .returned (.tuple #[u, .int .i64 (splE p i)]) ∧ Hid (RInts w'.heap.size w' u (splL p i) ∧ Below w.heap.size w w')
theorem endsTo_init (x : WebD) : (endsTo x.reels x.reels.length).take (x.reels.length - 1) = x.places := by
  unfold endsTo WebD.places placesTo
  rw [← List.map_take, List.take_range, show min (x.reels.length - 1) x.reels.length = x.reels.length - 1 by omega]
theorem rints_front {B : Nat} {w : World} {A : Option Addr} {n c : Nat} {l : List Int} (h : RInts B w (.slice A n c) l) (j : Nat) (hj : j ≤ l.length) : RInts B w (.slice A j c) (l.take j) := by
  obtain ⟨A', c', e, hl, hm, hr⟩ := h
  cases e
  refine ⟨A, c, ?_, by simp, by rw [List.length_take]; omega, fun h0 => ?_⟩
  · rw [List.length_take, Nat.min_eq_left hj]
  · rw [List.length_take] at h0
    obtain ⟨g, o, hA, hB, hc⟩ := hr (by omega)
    refine ⟨g, o, hA, hB, fun i u hu => hc i u ?_⟩
    rw [List.map_take, List.getElem?_take] at hu
    split at hu
    · exact hu
    · cases hu
set_option maxRecDepth 100000 in
set_option maxHeartbeats 4000000 in
theorem refSplices_any (p : PressD) (i : Int) (v : Value) (w : World) (h : RPress w.heap.size w v p) :
    Calls Try.prog 47 #[v, .int .i64 i] w (SplR p i w) := by
  have HP := Lib.hid h
  obtain ⟨u, rfl, hw⟩ := h
  obtain ⟨A, c, rfl, hlm, -⟩ := hw.open_
  have HR := webs_later hw
  clear hw
  obtain ⟨n, hn⟩ : ∃ n, p.webs.length = n := ⟨_, rfl⟩
  have HN := Lib.hid hn
  rw [hn] at HP hlm ⊢
  obtain ⟨W0, e0, HB0, HC0⟩ := press_box w p.cut p.margin (.slice A n c)
  have E0 := Lib.hid e0
  obtain ⟨p0, p1, p2⟩ := HC0.out W0 (Below.refl _ _)
  obtain ⟨ce, hce⟩ : ∃ c, checkE p = c := ⟨_, rfl⟩
  have HCE := Lib.hid hce
  have C1 := Lib.hid (refCheck_any p _ W0 ((HP.out.below HB0.out).more HB0.out.size))
  rw [hce] at C1
  clear e0 hce hn
  go_enter Try.func47, Try.ntmps47
  go_upto_region 1 with fail
  rw [E0.out]
  clear E0
  go_wp2_with fail
  refine C1.out.mono ?_
  rintro _ X ⟨rfl, hb⟩
  have HBX : Hid (Below W0.heap.size W0 X) := hb
  have HBW : Hid (Below w.heap.size w X) := HB0.out.trans (hb.mono HB0.out.size)
  clear C1 hb p0 p1 p2
  obtain ⟨p0, p1, p2⟩ := HC0.out X HBX.out
  by_cases h0 : ce = 0
  case neg =>
    have h1 : (ce != 0) = true := by simpa using h0
    have HH := Lib.hid h0
    have HF : Hid (splE p i = ce ∧ splL p i = []) := ⟨by unfold splE; rw [HCE.out, if_pos h0], by unfold splL; rw [HCE.out, if_neg fun h => h0 h.1]⟩
    go_wp2_with fail
    go_ret2
    exact ⟨.slice none 0 0, by rw [HF.out.1]; rfl, by rw [HF.out.2]; exact Rd.nil, HBW.out⟩
  subst h0
  have HOK := Lib.hid (checkE_ok HCE.out)
  have hn6 : 1 ≤ n ∧ n ≤ 6 := by rw [← HN.out]; exact HOK.out.webs
  have hw1 : IntKind.i64.wrap ((n : Int) - 1) = (n : Int) - 1 := IntWalk.i64_in _ ⟨by omega, by omega⟩
  obtain ⟨b, hb⟩ : ∃ b, withinB i 0 ((n : Int) - 1) = b := ⟨_, rfl⟩
  have C2 := Lib.hid (sIn_let hb)
  have HB := Lib.hid hb
  clear hb hw1
  go_wp2_with fail
  refine (C2.out _).mono ?_
  rintro _ _ ⟨rfl, rfl⟩
  cases b
  · have HF : Hid (splE p i = 1 ∧ splL p i = []) := by
      have hno : ¬ (0 ≤ i ∧ i < (p.webs.length : Int)) := fun h => by
        have := HB.out
        rw [HN.out] at h
        rw [within_t h.1 (by omega)] at this
        cases this
      exact ⟨by unfold splE; rw [HCE.out, if_neg (by decide), if_neg hno], by unfold splL; rw [if_neg fun h => hno h.2]⟩
    go_wp2_with fail
    go_ret2
    exact ⟨.slice none 0 0, by rw [HF.out.1]; rfl, by rw [HF.out.2]; exact Rd.nil, HBW.out⟩
  obtain ⟨hi1, hi2⟩ := within_iff.1 HB.out
  obtain ⟨k, rfl⟩ : ∃ k : Nat, i = (k : Int) := ⟨i.toNat, by omega⟩
  have hk : k < n := by omega
  obtain ⟨x, hx⟩ : ∃ x, p.webs[k]? = some x := ⟨_, List.getElem?_eq_getElem (by rw [HN.out]; exact hk)⟩
  have HF : Hid (splE p (k : Int) = 0 ∧ splL p (k : Int) = x.places) := by
    have hy : 0 ≤ (k : Int) ∧ (k : Int) < (p.webs.length : Int) := by rw [HN.out]; omega
    refine ⟨by unfold splE; rw [HCE.out, if_neg (by decide), if_pos hy], ?_⟩
    unfold splL
    rw [if_pos ⟨HCE.out, hy⟩, List.getD_eq_getElem?_getD, show ((k : Int)).toNat = k by omega, hx]
    rfl
  have hmem := List.mem_of_getElem? hx
  have hxr := HOK.out.reel x hmem
  have hxl := HOK.out.reels x hmem
  obtain ⟨g, o, A2, c2, rfl, HXR⟩ := HR.out k x hx
  obtain ⟨c0, c1, c2', c3, hrr⟩ := HXR.out X HBW.out
  have CE := Lib.hid (refEnds_any x hxr hxl _ X hrr)
  have HEI := Lib.hid (endsTo_init x)
  obtain ⟨m, hm⟩ : ∃ m, x.reels.length = m := ⟨_, rfl⟩
  have HM := Lib.hid hm
  rw [hm] at c0 CE hxl HEI
  clear hx hmem hxr hrr hm C2
  go_wp2_with fail
  refine CE.out.mono ?_
  rintro _ Y ⟨ul, rfl, hO, hb⟩
  have hEl := endsTo_len x.reels m
  have HRI : RInts Y.heap.size Y ul (endsTo x.reels m) := Rd.own hO (own_le hO)
  have hcap : ∀ A n c, ul = .slice A n c → n ≤ c := fun A n c e => by
    subst e
    obtain ⟨A', c', e'⟩ := ownsRow_form hO
    injection e' with e1 e2 e3
    rcases hO.2 with ⟨h1, -⟩ | ⟨g', cap', cur, h1, -, -, h2, -⟩
    · injection h1 with h1 h3 h4
      omega
    · injection h1 with h1 h3 h4
      omega
  obtain ⟨Ae, ce, rfl, -, -⟩ := HRI.open_
  have hcap := hcap _ _ _ rfl
  rw [hEl] at hcap ⊢
  have HRY := Lib.hid HRI
  have HBY : Hid (Below w.heap.size w Y) := HBW.out.trans (hb.mono HBW.out.size)
  clear CE hO hb HRI c0 c1 c2' c3 p0 p1 p2
  rcases Nat.eq_zero_or_pos m with hm0 | hm0
  · have HPL : Hid (x.places = []) := by
      show _ = _
      rw [← HEI.out, hm0]
      rfl
    have hb1 : ((m : Int) == 0) = true := by simp [hm0]
    clear hm0
    go_wp2_with fail
    go_ret2
    exact ⟨.slice none 0 0, by rw [HF.out.1]; rfl, by rw [HF.out.2, HPL.out]; exact Rd.nil, HBY.out⟩
  · obtain ⟨j, hj⟩ : ∃ j, j + 1 = m := ⟨m - 1, by omega⟩
    have HJ := Lib.hid hj
    have hb1 : ((m : Int) == 0) = false := by simp; omega
    have hw1 : IntKind.i64.wrap ((m : Int) - 1) = (j : Int) := by rw [show (m : Int) - 1 = (j : Int) by omega]; exact IntWalk.i64_in _ ⟨by omega, by omega⟩
    have hjc : j ≤ ce := by omega
    have j0 : (0 : Int) ≤ (j : Int) := by omega
    have j1 : (j : Int) ≤ (ce : Int) := by omega
    have HW2 : Hid (wrap64 ((m : Int) - 1) = (j : Int)) := by show _ = _; rw [show (m : Int) - 1 = (j : Int) by omega]; exact IntWalk.wrap64_in _ ⟨by omega, by omega⟩
    clear hj hw1
    go_wp2_with fail
    go_ret2
    exact ⟨.slice Ae (m - 1) ce, by rw [HF.out.1]; rfl, by rw [HF.out.2, ← HEI.out]; exact rints_front HRY.out (m - 1) (by rw [endsTo_len]; omega), HBY.out⟩
end Go.Proofs.Ytpkepacbondopaa

namespace Go.Proofs.Ytpkepacbondopaa
open Go.RowKit Go.Shelf
attribute [local go_sem] Oper.semAt_some

theorem thrown_nil (p : PressD) : p.ThrownIs 0 [] := ⟨Norm.nil, fun k => ⟨fun ⟨s, hs, _⟩ => absurd hs List.not_mem_nil, fun h => by omega⟩⟩
theorem thrown_same {p : PressD} {k : Int} {l : List Sp} (h : p.ThrownIs k l) (hk : ¬ p.Out k) : p.ThrownIs (k + 1) l := by
  refine ⟨h.1, fun c => (h.2 c).trans ?_⟩
  constructor
  · rintro ⟨h1, h2⟩
    exact ⟨by omega, h2⟩
  · rintro ⟨h1, h2⟩
    refine ⟨⟨h1.1, ?_⟩, h2⟩
    rcases (by omega : c < k ∨ k ≤ c) with h3 | h3
    · exact h3
    · obtain rfl : c = k := by omega
      exact absurd h2 hk
theorem thrown_hi {p : PressD} {k : Int} {l : List Sp} (h : p.ThrownIs k l) {s : Sp} (hs : s ∈ l) : 0 ≤ s.lo ∧ s.lo ≤ s.hi ∧ s.hi < k := by
  have h1 := h.1.1 s hs
  have h2 := (h.2 s.hi).1 ⟨s, hs, h1, Int.le_refl _⟩
  have h3 := (h.2 s.lo).1 ⟨s, hs, Int.le_refl _, h1⟩
  exact ⟨h3.1.1, h1, h2.1.2⟩
theorem thrown_new {p : PressD} {k : Int} {l : List Sp} (hk0 : 0 ≤ k) (h : p.ThrownIs k l) (hk : p.Out k) (hl : ∀ s ∈ l, s.hi + 1 < k) : p.ThrownIs (k + 1) (l ++ [⟨k, k⟩]) := by
  refine ⟨norm_append.2 ⟨h.1, ⟨fun s hs => by rw [List.mem_singleton.1 hs]; exact Int.le_refl _, List.pairwise_singleton _ _⟩, fun a ha b hb => by rw [List.mem_singleton.1 hb]; exact hl a ha⟩, fun c => ?_⟩
  rw [cov_append, cov_one, h.2 c]
  constructor
  · rintro (⟨h1, h2⟩ | ⟨h1, h2⟩)
    · exact ⟨by omega, h2⟩
    · obtain rfl : c = k := by simp only at h1 h2; omega
      exact ⟨by omega, hk⟩
  · rintro ⟨h1, h2⟩
    rcases (by omega : c < k ∨ k ≤ c) with h3 | h3
    · exact .inl ⟨⟨h1.1, h3⟩, h2⟩
    · exact .inr ⟨h3, by simp only; omega⟩
theorem thrown_join {p : PressD} {k : Int} {d : List Sp} {s : Sp} (h : p.ThrownIs k (d ++ [s])) (hk : p.Out k) (hs : s.hi = k - 1) : p.ThrownIs (k + 1) (d ++ [⟨s.lo, k⟩]) := by
  obtain ⟨h1, h2, h3⟩ := norm_append.1 h.1
  have hb := thrown_hi h (s := s) (by simp)
  refine ⟨norm_append.2 ⟨h1, ⟨fun t ht => by rw [List.mem_singleton.1 ht]; simp only; omega, List.pairwise_singleton _ _⟩, fun a ha b hb => by rw [List.mem_singleton.1 hb]; exact h3 a ha s (by simp)⟩, fun c => ?_⟩
  have h4 := h.2 c
  rw [cov_append, cov_one] at h4 ⊢
  constructor
  · rintro (h5 | ⟨h5, h6⟩)
    · have := h4.1 (.inl h5)
      exact ⟨by omega, this.2⟩
    · simp only at h5 h6
      rcases (by omega : c < k ∨ k ≤ c) with h7 | h7
      · have := h4.1 (.inr ⟨h5, by omega⟩)
        exact ⟨by omega, this.2⟩
      · obtain rfl : c = k := by omega
        exact ⟨by omega, hk⟩
  · rintro ⟨h5, h6⟩
    rcases (by omega : c < k ∨ k ≤ c) with h7 | h7
    · rcases h4.2 ⟨⟨h5.1, h7⟩, h6⟩ with h8 | ⟨h8, h9⟩
      · exact .inl h8
      · exact .inr ⟨h8, by simp only; omega⟩
    · exact .inr ⟨by simp only; omega, by simp only; omega⟩
theorem thrown_gap {p : PressD} {k : Int} {d : List Sp} {s : Sp} (h : p.ThrownIs k (d ++ [s])) (hs : s.hi ≠ k - 1) : ∀ t ∈ d ++ [s], t.hi + 1 < k := fun t ht => by
  have hb := thrown_hi h (s := s) (by simp)
  rcases List.mem_append.1 ht with h1 | h1
  · have := (norm_append.1 h.1).2.2 t h1 s (by simp)
    omega
  · rw [List.mem_singleton.1 h1]
    omega
/-- The last span's end is written. -/
theorem span_hi {base g cap : Nat} {w : World} {d : List Sp} {s : Sp} {n : Nat} {k : Int} (h : w.ownsRow base 45 2 (.slice (some ⟨g, 0, none⟩) n cap) n ((d ++ [s]).flatMap Sp.cells)) (hn : n = d.length + 1) :
    (w.setCell ⟨g, d.length * 2 + 1, none⟩ (.int .i64 k)).ownsRow base 45 2 (.slice (some ⟨g, 0, none⟩) n cap) n ((d ++ [(⟨s.lo, k⟩ : Sp)]).flatMap Sp.cells) := by
  have h2 := ownsRow_put h (j := d.length * 2 + 1) (by omega) (.int .i64 k)
  have hl : (d.flatMap Sp.cells).length = d.length * 2 := flat_get Sp.cells 2 (fun _ => rfl) d
  have e : ((d ++ [s]).flatMap Sp.cells).set (d.length * 2 + 1) (.int .i64 k) = (d ++ [(⟨s.lo, k⟩ : Sp)]).flatMap Sp.cells := by
    rw [List.flatMap_append, List.flatMap_append, List.set_append_right _ _ (by omega), hl]
    simp [Sp.cells]
  rwa [e] at h2
/-- What the reference's Thrown answers. -/
def RThrownRet (w : World) (p : PressD) (n : Int) (e : Ending) (w' : World) : Prop :=
  ∃ u l, e = .returned (.tuple #[u, .int .i64 (copiesE p n)]) ∧ Hid ((copiesE p n = 0 → p.ThrownIs n l) ∧ (copiesE p n ≠ 0 → l = []) ∧ RSpans w'.heap.size w' u l ∧ Below w.heap.size w w')
set_option maxRecDepth 1000000 in
set_option maxHeartbeats 4000000 in
theorem refThrown_any (p : PressD) (n : Int) (v : Value) (w : World) (h : RPress w.heap.size w v p) :
    Calls Try.prog 48 #[v, .int .i64 n] w (RThrownRet w p n) := by
  obtain ⟨i0, hi0, hz0, hz1, hz2⟩ := info_parts infoSpan
  have HP := Lib.hid h
  obtain ⟨u, rfl, hw⟩ := h
  obtain ⟨A, c, rfl, hlm, -⟩ := hw.open_
  clear hw
  obtain ⟨W0, e0, HB0, HC0⟩ := press_box w p.cut p.margin (.slice A p.webs.length c)
  have E0 := Lib.hid e0
  obtain ⟨p0, p1, p2⟩ := HC0.out W0 (Below.refl _ _)
  obtain ⟨ce, hce⟩ : ∃ c, copiesE p n = c := ⟨_, rfl⟩
  have HCE := Lib.hid hce
  have C1 := Lib.hid (refAsk_any p n _ W0 ((HP.out.below HB0.out).more HB0.out.size))
  rw [hce] at C1
  clear e0 hce
  go_enter Try.func48, Try.ntmps48
  go_upto_region 1 with fail
  rw [E0.out]
  clear E0
  go_wp2_with fail
  refine C1.out.mono ?_
  rintro _ X ⟨rfl, hb⟩
  have HBX : Hid (Below W0.heap.size W0 X) := hb
  have HBW : Hid (Below w.heap.size w X) := HB0.out.trans (hb.mono HB0.out.size)
  clear C1 hb p0 p1 p2
  by_cases h0 : ce = 0
  case neg =>
    have h1 : (ce != 0) = true := by simpa using h0
    have HH := Lib.hid h0
    go_wp2_with fail
    go_ret2
    exact ⟨.slice none 0 0, [], by rw [HCE.out]; rfl, fun h => absurd (HCE.out.symm.trans h) HH.out, fun _ => rfl, Rd.nil, HBW.out⟩
  subst h0
  obtain ⟨hc0, hn0, hnr⟩ := copiesE_ok HCE.out
  have HOK := Lib.hid (checkE_ok hc0)
  have hrb := reach_bound HOK.out
  obtain ⟨N, rfl⟩ : ∃ N : Nat, n = (N : Int) := ⟨n.toNat, by omega⟩
  have hN : N ≤ 1000000 := by omega
  clear hnr hrb hc0
  go_wp2_with fail
  go_loopw [7, 8] (fun u s wr => ∃ k : Nat, k ≤ N ∧ s = .int .i64 (k : Int) ∧ ∃ l : List Sp, Hid (l.length ≤ k) ∧ Hid (p.ThrownIs k l) ∧ Hid (OSpans W0.heap.size wr u l) ∧ Hid (Below W0.heap.size W0 wr)) (fun _ s _ => N - (intOf s).toNat)
  case atStart => exact ⟨0, Nat.zero_le _, rfl, [], Nat.le_refl _, thrown_nil p, World.ownsRow_nil _ _ _ _, HBX⟩
  case round =>
  obtain ⟨k, hk, rfl, l, hl, hT, hO, hB⟩ := hrel
  obtain ⟨Y, rfl⟩ : ∃ X : World, X = wr := ⟨_, rfl⟩
  obtain ⟨Au, cu, rfl⟩ := ownsRow_form hO.out
  have hBw : Hid (Below w.heap.size w Y) := HB0.out.trans (hB.out.mono HB0.out.size)
  by_cases hlt : k < N
  case neg =>
    obtain rfl : k = N := by omega
    go_wp2_with fail
    go_ret2
    exact ⟨_, l, by rw [HCE.out]; rfl, fun _ => hT.out, fun h => absurd HCE.out h, OSpans.reads hO.out, hBw.out⟩
  obtain ⟨p0, p1, p2⟩ := HC0.out Y hB.out
  have CO := Lib.hid (refOut_any p HOK.out (k : Int) ⟨by omega, by omega⟩ _ Y ((HP.out.below hBw.out).more hBw.out.size))
  obtain ⟨m, hm⟩ : ∃ m, l.length = m := ⟨_, rfl⟩
  have HM := Lib.hid hm
  have hmk : m ≤ k := by rw [← hm]; exact hl.out
  have HO3 : Hid (Y.ownsRow W0.heap.size 45 2 (.slice Au m cu) m (l.flatMap Sp.cells)) := by have := hO.out; unfold OSpans at this; rw [hm] at this; exact this
  rw [hm] at ⊢
  clear hm hO
  go_wp2_with fail
  refine CO.out.mono ?_
  rintro _ Z ⟨b, rfl, hbo, hbb⟩
  have HBZ : Hid (Below W0.heap.size W0 Z) := hB.out.trans (hbb.mono hB.out.size)
  have HOZ := Lib.hid (ownsRow_below HO3.out hbb)
  have HSZ : Hid (W0.heap.size ≤ Z.heap.size) := HBZ.out.size
  clear CO hbb p0 p1 p2 HO3
  cases b
  · have HTN : Hid (p.ThrownIs ((k + 1 : Nat) : Int) l) := by have := thrown_same hT.out (fun h => Bool.noConfusion (hbo.out.2 h)); exact this
    have HON : Hid (OSpans W0.heap.size Z (.slice Au m cu) l) := by show World.ownsRow _ _ _ _ _ _ _; rw [HM.out]; exact HOZ.out
    go_wp2_with fail
    go_roundw
    case rel => exact ⟨k + 1, by omega, by go_num, l, by show _ ≤ _; rw [HM.out]; omega, HTN, HON, HBZ⟩
    case measure => simp [intOf]; omega
  have HOUT : Hid (p.Out k) := hbo.out.1 rfl
  have HAp : Hid (∀ v' W1, (Z.alloc (.cells #[.int .i64 (k : Int), .int .i64 (k : Int)] 45)).grownBy W1 (Value.slice Au m cu).ownBlock → W1.ownsRow W0.heap.size 45 2 v' (m + 1) (l.flatMap Sp.cells ++ [.int .i64 (k : Int), .int .i64 (k : Int)]) → Hid (OSpans W0.heap.size W1 v' (l ++ [⟨k, k⟩])) ∧ Hid (Below W0.heap.size W0 W1)) := fun v' W1 hg ho => by
    refine ⟨?_, (HBZ.out.alloc HBZ.out.size _).grown hg (by have := HBZ.out.size; simp; omega) fun q hq => (HOZ.out.lt q hq).1⟩
    show World.ownsRow _ _ _ _ _ _ _
    rw [List.length_append, HM.out, List.flatMap_append]
    simpa [Sp.cells] using ho
  clear hbo hB hBw
  rcases List.eq_nil_or_concat l with rfl | ⟨d, s, hds⟩
  · have hm0 : m = 0 := HM.out.symm
    have HTN : Hid (p.ThrownIs ((k + 1 : Nat) : Int) [⟨k, k⟩]) := by have := thrown_new (by omega) hT.out HOUT.out (fun s hs => absurd hs List.not_mem_nil); exact this
    subst hm0
    go_wp2_with (at_builtin; refine wpList_append_own _ rfl _ _ 41 rfl W0.heap.size 45 i0 _ 2 16 sliceSpan hi0 hz0 hz1 hz2 rfl (by decide) (.slice Au 0 cu) 0 (([] : List Sp).flatMap Sp.cells) rfl (HOZ.out.alloc _) ⟨Z.heap.size, 0, none⟩ 1 1 [.int .i64 (k : Int), .int .i64 (k : Int)] rfl rfl (cells_new _ _ _) (by simp [Value.oneCell']) (by simp only [maxLen]; omega) (by omega) (by have := HSZ.out; simp; omega) ?_; intro v2' w10 hown' hgro _; obtain ⟨Av2, cv2, rfl⟩ := ownsRow_form hown'; obtain ⟨hfin, hfin2⟩ := HAp.out _ _ hgro hown'; clear HAp hown' hgro)
    go_roundw
    case rel => exact ⟨k + 1, by omega, by go_num, [⟨k, k⟩], by show _ ≤ _; simp, HTN, hfin, hfin2⟩
    case measure => simp [intOf]; omega
  · rw [List.concat_eq_append] at hds
    subst hds
    obtain ⟨q, hq⟩ : ∃ q, d.length = q := ⟨_, rfl⟩
    have hqm : m = q + 1 := by rw [← HM.out, List.length_append, hq]; rfl
    have HQ := Lib.hid hq
    have HQM := Lib.hid hqm
    obtain ⟨g9, rfl, hg9, hg9z⟩ := ownsRow_block HOZ.out (by omega)
    have hf := ownsRow_frozen HOZ.out (q * 2 + 1)
    have hcell : Z.cell? ⟨g9, q * 2 + 1, none⟩ = some (.int .i64 s.hi) := by
      have h9 := Rd.own HOZ.out (own_le HOZ.out)
      obtain ⟨A', c', e, -, -, hr⟩ := h9
      injection e with e1 e2 e3
      obtain ⟨g, o, hA, -, hc⟩ := hr (by omega)
      rw [← e1] at hA
      injection hA with hA
      injection hA with hA1 hA2
      subst hA1
      subst hA2
      have hfl : (d.flatMap Sp.cells).length = q * 2 := by rw [flat_get Sp.cells 2 (fun _ => rfl) d, hq]
      have := hc (q * 2 + 1) (.int .i64 s.hi) (by
        rw [List.flatMap_append, List.getElem?_append_right (by omega), hfl, show q * 2 + 1 - q * 2 = 1 by omega]
        rfl)
      rw [Nat.zero_add] at this
      exact this
    have hsb := thrown_hi hT.out (s := s) (by simp)
    obtain ⟨hs1, hs2, hs3⟩ := hsb
    have q0 : (0 : Int) ≤ (q : Int) := by omega
    have q1 : (q : Int) < (m : Int) := by omega
    have q2 : (m : Int) - 1 = (q : Int) := by omega
    have HQ2 := Lib.hid q2
    have m1 : (0 : Int) < (m : Int) := by omega
    clear hq hqm
    by_cases he : s.hi = (k : Int) - 1
    · have HTN : Hid (p.ThrownIs ((k + 1 : Nat) : Int) (d ++ [⟨s.lo, k⟩])) := by have := thrown_join hT.out HOUT.out he; exact this
      have HON : Hid (OSpans W0.heap.size (Z.setCell ⟨g9, q * 2 + 1, none⟩ (.int .i64 (k : Int))) (.slice (some ⟨g9, 0, none⟩) m cu) (d ++ [⟨s.lo, k⟩])) := by
        have h8 := span_hi (k := (k : Int)) HOZ.out (by rw [HQM.out, HQ.out])
        rw [HQ.out] at h8
        show World.ownsRow _ _ _ _ _ _ _
        rw [List.length_append, HQ.out, show q + [(⟨s.lo, (k : Int)⟩ : Sp)].length = m by rw [HQM.out]; rfl]
        exact h8
      have HBS : Hid (Below W0.heap.size W0 (Z.setCell ⟨g9, q * 2 + 1, none⟩ (.int .i64 (k : Int)))) := HBZ.out.setCell (p := ⟨g9, q * 2 + 1, none⟩) hg9 _
      go_wp2_with fail
      go_roundw
      case rel => exact ⟨k + 1, by omega, by go_num, d ++ [⟨s.lo, k⟩], by show _ ≤ _; rw [List.length_append, HQ.out]; simp; omega, HTN, HON, HBS⟩
      case measure => simp [intOf]; omega
    · have HTN : Hid (p.ThrownIs ((k + 1 : Nat) : Int) (d ++ [s] ++ [⟨k, k⟩])) := by have := thrown_new (by omega) hT.out HOUT.out (thrown_gap hT.out he); exact this
      go_wp2_with (at_builtin; refine wpList_append_own _ rfl _ _ 41 rfl W0.heap.size 45 i0 _ 2 16 sliceSpan hi0 hz0 hz1 hz2 rfl (by decide) (.slice (some ⟨g9, 0, none⟩) m cu) m ((d ++ [s]).flatMap Sp.cells) rfl (HOZ.out.alloc _) ⟨Z.heap.size, 0, none⟩ 1 1 [.int .i64 (k : Int), .int .i64 (k : Int)] rfl rfl (cells_new _ _ _) (by simp [Value.oneCell']) (by simp only [maxLen]; omega) (by omega) (by have := HSZ.out; simp; omega) ?_; intro v2' w10 hown' hgro _; obtain ⟨Av2, cv2, rfl⟩ := ownsRow_form hown'; obtain ⟨hfin, hfin2⟩ := HAp.out _ _ hgro hown'; clear HAp hown' hgro)
      go_roundw
      case rel => exact ⟨k + 1, by omega, by go_num, d ++ [s] ++ [⟨k, k⟩], by show _ ≤ _; rw [List.length_append, HM.out]; simp; omega, HTN, hfin, hfin2⟩
      case measure => simp [intOf]; omega
end Go.Proofs.Ytpkepacbondopaa

namespace Go.Proofs.Ytpkepacbondopaa
open Go.RowKit Go.Shelf
attribute [local go_sem] Oper.semAt_some

theorem thrown_exists (p : PressD) : ∀ k : Nat, ∃ l, p.ThrownIs (k : Int) l
  | 0 => ⟨[], thrown_nil p⟩
  | k + 1 => by
    obtain ⟨l, hl⟩ := thrown_exists p k
    by_cases ho : p.Out (k : Int)
    · rcases List.eq_nil_or_concat l with rfl | ⟨d, s, rfl⟩
      · exact ⟨_, thrown_new (by omega) hl ho fun s hs => absurd hs List.not_mem_nil⟩
      · rw [List.concat_eq_append] at hl
        by_cases he : s.hi = (k : Int) - 1
        · exact ⟨_, thrown_join hl ho he⟩
        · exact ⟨_, thrown_new (by omega) hl ho (thrown_gap hl he)⟩
    · exact ⟨l, thrown_same hl ho⟩
theorem RunRet.one {w w' X X' : World} {p : PressD} {g : Int} {e e' : Ending} (h : RunRet w p g e w') (k : RunRet X p g e' X') : e = e' := by
  obtain ⟨n, c, rfl, -, h⟩ := h
  obtain ⟨m, d, rfl, -, k⟩ := k
  have key : n = m ∧ c = d := by
    rcases h with ⟨h1, h2, h3⟩ | ⟨h1, h2, h3, h4⟩ | ⟨h1, h2, l, h3, h4⟩
    · rcases k with ⟨k1, k2, k3⟩ | ⟨k1, -⟩ | ⟨k1, -⟩
      · exact ⟨h2.trans k2.symm, h3.trans k3.symm⟩
      · exact absurd k1 h1
      · exact absurd k1 h1
    · rcases k with ⟨k1, -⟩ | ⟨k1, k2, k3, k4⟩ | ⟨k1, k2, -⟩
      · exact absurd h1 k1
      · exact ⟨h3.trans k3.symm, h4.trans k4.symm⟩
      · exact absurd k2 h2
    · rcases k with ⟨k1, -⟩ | ⟨k1, k2, -⟩ | ⟨k1, k2, l', k3, k4⟩
      · exact absurd h1 k1
      · exact absurd h2 k2
      · obtain rfl := PressD.ThrownIs.one h3 k3
        rcases h4 with ⟨h4, h5, h6⟩ | ⟨h4, h5, h6⟩ <;> rcases k4 with ⟨k4, k5, k6⟩ | ⟨k4, k5, k6⟩
        · exact ⟨h5.trans k5.symm, h6.trans k6.symm⟩
        · omega
        · omega
        · exact ⟨h5.trans k5.symm, h6.trans k6.symm⟩
  rw [key.1, key.2]
/-- How many of the first copies are good. -/
def goodTo (l : List Sp) (k : Nat) : Int := (k : Int) - cntTo l k
theorem goodTo_next (l : List Sp) (k : Nat) : goodTo l (k + 1) = goodTo l k + if covB l (k : Int) then 0 else 1 := by
  unfold goodTo
  rw [cntTo_next]
  split <;> omega
theorem run_first {p : PressD} {R : Nat} {l : List Sp} (hl : p.ThrownIs (R : Int) l) {g : Int} (hg : 0 ≤ g) : ∃ n : Nat, runL g l = (n : Int) ∧ goodTo l n = g ∧ ∀ m : Nat, m < n → goodTo l m < g := by
  have h1 := (runL_le l g hl.1).2
  obtain ⟨n, hn⟩ : ∃ n : Nat, runL g l = (n : Int) := ⟨(runL g l).toNat, by omega⟩
  obtain ⟨h2, -, h3⟩ := runL_good hl.1 (fun s hs => (ThrownIs.within hl s hs).1) hn
  exact ⟨n, hn, h2, h3⟩
theorem run_end {p : PressD} {R : Nat} {l : List Sp} (hl : p.ThrownIs (R : Int) l) {g : Int} (hg : 0 ≤ g) {k : Nat} (h1 : goodTo l k = g) (h2 : ∀ m : Nat, m < k → goodTo l m < g) : runL g l = (k : Int) := by
  obtain ⟨n, hn, h3, h4⟩ := run_first hl hg
  rcases Nat.lt_trichotomy n k with h | h | h
  · have := h2 n h; omega
  · rw [hn, h]
  · have := h4 k h; omega
theorem run_over {p : PressD} {R : Nat} {l : List Sp} (hl : p.ThrownIs (R : Int) l) {g : Int} (hg : 0 ≤ g) {k : Nat} (h : ∀ m : Nat, m ≤ k → goodTo l m < g) : (k : Int) < runL g l := by
  obtain ⟨n, hn, h3, -⟩ := run_first hl hg
  rcases Nat.lt_or_ge k n with h1 | h1
  · omega
  · have := h n h1; omega
set_option maxRecDepth 1000000 in
set_option maxHeartbeats 4000000 in
theorem refRun_any (p : PressD) (g0 : Int) (v : Value) (w : World) (h : RPress w.heap.size w v p) :
    Calls Try.prog 50 #[v, .int .i64 g0] w (RunRet w p g0) := by
  have HP := Lib.hid h
  obtain ⟨u, rfl, hw⟩ := h
  obtain ⟨A, c, rfl, hlm, -⟩ := hw.open_
  clear hw
  obtain ⟨W0, e0, HB0, HC0⟩ := press_box w p.cut p.margin (.slice A p.webs.length c)
  have E0 := Lib.hid e0
  obtain ⟨p0, p1, p2⟩ := HC0.out W0 (Below.refl _ _)
  obtain ⟨ce, hce⟩ : ∃ c, checkE p = c := ⟨_, rfl⟩
  have HCE := Lib.hid hce
  have C1 := Lib.hid (refCheck_any p _ W0 ((HP.out.below HB0.out).more HB0.out.size))
  rw [hce] at C1
  obtain ⟨b, hb⟩ : ∃ b, withinB g0 0 1000000 = b := ⟨_, rfl⟩
  have C2 := Lib.hid (sIn_let hb)
  have HBB := Lib.hid hb
  clear e0 hce hb
  go_enter Try.func50, Try.ntmps50
  go_upto_region 1 with fail
  rw [E0.out]
  clear E0
  go_wp2_with fail
  refine C1.out.mono ?_
  rintro _ X ⟨rfl, hb⟩
  have HBX : Hid (Below W0.heap.size W0 X) := hb
  have HBW : Hid (Below w.heap.size w X) := HB0.out.trans (hb.mono HB0.out.size)
  clear C1 hb p0 p1 p2
  obtain ⟨p0, p1, p2⟩ := HC0.out X HBX.out
  by_cases h0 : ce = 0
  case neg =>
    have h1 : (ce != 0) = true := by simpa using h0
    have HH := Lib.hid h0
    go_wp2_with fail
    go_ret2
    exact ⟨0, ce, rfl, HBW.out, .inl ⟨by rw [HCE.out]; exact HH.out, rfl, HCE.out.symm⟩⟩
  subst h0
  have HOK := Lib.hid (checkE_ok HCE.out)
  cases b
  · have HNO : Hid (¬ (0 ≤ g0 ∧ g0 ≤ 1000000)) := fun h => by
      have := HBB.out
      rw [within_t h.1 h.2] at this
      cases this
    go_wp2_with fail
    refine (C2.out _).mono ?_
    rintro _ _ ⟨rfl, rfl⟩
    go_wp2_with fail
    go_ret2
    exact ⟨0, 6, rfl, HBW.out, .inr (.inl ⟨HCE.out, HNO.out, rfl, rfl⟩)⟩
  obtain ⟨hg1, hg2⟩ := within_iff.1 HBB.out
  obtain ⟨R, hR⟩ : ∃ R : Nat, p.reach = (R : Int) := ⟨p.reach.toNat, by have := (reach_bound HOK.out).1; omega⟩
  have hR9 : R ≤ 1000000 := by have := (reach_bound HOK.out).2; omega
  have HR := Lib.hid hR
  have C3 := Lib.hid (refReach_any p HOK.out X _ ((HP.out.below HBW.out).more HBW.out.size))
  rw [hR] at C3
  obtain ⟨l0, hl0⟩ := thrown_exists p R
  have HL := Lib.hid hl0
  clear hR hl0
  go_wp2_with fail
  refine (C2.out _).mono ?_
  rintro _ _ ⟨rfl, rfl⟩
  go_wp2_with fail
  refine C3.out.mono ?_
  rintro _ Y ⟨rfl, hb⟩
  have HBY : Hid (Below W0.heap.size W0 Y) := HBX.out.trans (hb.mono HBX.out.size)
  clear C2 C3 hb p0 p1 p2
  go_wp2_with fail
  go_loopw [1, 7, 9] (fun s u z wr => ∃ k : Nat, k ≤ R ∧ z = .int .i64 (k : Int) ∧ u = .int .i64 (k : Int) ∧ ∃ r : Int, s = .int .i64 r ∧ 0 ≤ r ∧ r ≤ 1000000 ∧ Hid (goodTo l0 k = g0 - r) ∧ Hid (∀ m : Nat, m < k → goodTo l0 m < g0) ∧ Hid (Below W0.heap.size W0 wr)) (fun _ _ z _ => R + 1 - (intOf z).toNat)
  case atStart => exact ⟨0, Nat.zero_le _, rfl, rfl, g0, rfl, hg1, hg2, by show _ = _; unfold goodTo cntTo; simp, fun m hm => absurd hm (Nat.not_lt_zero _), HBY⟩
  case round =>
  obtain ⟨k, hk, rfl, rfl, r, rfl, hr1, hr2, hG, hM, hB⟩ := hrel
  obtain ⟨Z, rfl⟩ : ∃ X : World, X = wr := ⟨_, rfl⟩
  have hBw : Hid (Below w.heap.size w Z) := HB0.out.trans (hB.out.mono HB0.out.size)
  by_cases hr0 : 0 < r
  case neg =>
    obtain rfl : r = 0 := by omega
    have HE := Lib.hid (run_end HL.out hg1 (by rw [hG.out]; omega) hM.out)
    go_wp2_with fail
    go_ret2
    exact ⟨(k : Int), 0, rfl, hBw.out, .inr (.inr ⟨HCE.out, ⟨hg1, hg2⟩, l0, by rw [HR.out]; exact HL.out, .inr ⟨by rw [HE.out, HR.out]; omega, HE.out.symm, rfl⟩⟩)⟩
  by_cases hkR : k < R
  case neg =>
    obtain rfl : k = R := by omega
    have HE := Lib.hid (run_over HL.out hg1 (k := k) (fun m hm => by
      rcases Nat.lt_or_ge m k with h | h
      · exact hM.out m h
      · obtain rfl : m = k := by omega
        rw [hG.out]
        omega))
    go_wp2_with fail
    go_ret2
    exact ⟨0, 70, rfl, hBw.out, .inr (.inr ⟨HCE.out, ⟨hg1, hg2⟩, l0, by rw [HR.out]; exact HL.out, .inl ⟨by rw [HR.out]; exact HE.out, rfl, rfl⟩⟩)⟩
  obtain ⟨p0, p1, p2⟩ := HC0.out Z hB.out
  have CO := Lib.hid (refOut_any p HOK.out (k : Int) ⟨by omega, by omega⟩ _ Z ((HP.out.below hBw.out).more hBw.out.size))
  have HMN : Hid (∀ m : Nat, m < k + 1 → goodTo l0 m < g0) := fun m hm => by
    rcases Nat.lt_or_ge m k with h | h
    · exact hM.out m h
    · obtain rfl : m = k := by omega
      rw [hG.out]
      omega
  have HCV : Hid (covB l0 (k : Int) = true ↔ p.Out (k : Int)) := by
    show _ ↔ _
    rw [covB_iff, HL.out.2]
    exact ⟨fun h => h.2, fun h => ⟨by omega, h⟩⟩
  go_wp2_with fail
  refine CO.out.mono ?_
  rintro _ Q ⟨b, rfl, hbo, hbb⟩
  have HBQ : Hid (Below W0.heap.size W0 Q) := hB.out.trans (hbb.mono hB.out.size)
  clear CO hbb p0 p1 p2
  cases b
  · have HGN : Hid (goodTo l0 (k + 1) = g0 - (r - 1)) := by
      have hf : covB l0 (k : Int) = false := by
        cases hc : covB l0 (k : Int)
        · rfl
        · exact absurd (hbo.out.2 (HCV.out.1 hc)) (fun h => Bool.noConfusion h)
      show _ = _
      rw [goodTo_next, hf, hG.out]
      simp
      omega
    clear hbo
    go_wp2_with fail
    go_roundw
    case rel => exact ⟨k + 1, by omega, by go_num, by go_num, r - 1, by go_num, by omega, by omega, HGN, HMN, HBQ⟩
    case measure => simp [intOf]; omega
  · have HGN : Hid (goodTo l0 (k + 1) = g0 - r) := by
      have hf : covB l0 (k : Int) = true := HCV.out.2 (hbo.out.1 rfl)
      show _ = _
      rw [goodTo_next, hf, hG.out]
      simp
    clear hbo
    go_wp2_with fail
    go_roundw
    case rel => exact ⟨k + 1, by omega, by go_num, by go_num, r, rfl, by omega, by omega, HGN, HMN, HBQ⟩
    case measure => simp [intOf]; omega
end Go.Proofs.Ytpkepacbondopaa
