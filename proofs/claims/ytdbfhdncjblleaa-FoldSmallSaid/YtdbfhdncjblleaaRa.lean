/-
  The reference's small functions: columns, stacks, column, side, At.
-/
import Derived.Test.YtdbfhdncjblleaaKj
namespace Go.Proofs.Ytdbfhdncjblleaa
open Go.RowKit

/-- How many ribbons have a column of a web. -/
def colP (a c : Int) (x : RibD) : Bool := decide (x.web = a ∧ x.col ≤ c ∧ c < x.col + x.width)
def colN (l : List RibD) (a c : Int) : Nat := l.countP (colP a c)
theorem colN_next {l : List RibD} {k : Nat} {x : RibD} (h : l[k]? = some x) (a c : Int) : colN (l.take (k + 1)) a c = colN (l.take k) a c + if colP a c x then 1 else 0 := by
  unfold colN
  rw [List.take_add_one, h, List.countP_append]
  simp [List.countP_cons]
theorem colN_le (l : List RibD) (k : Nat) (a c : Int) : colN (l.take k) a c ≤ k := by
  unfold colN
  exact Nat.le_trans List.countP_le_length (List.length_take_le _ _)

set_option maxRecDepth 100000 in
set_option maxHeartbeats 1000000 in
theorem columns_any (v : Value) (r : RunD) (a c : Int) (w : World) (h : RRun w.heap.size w v r) (hb : ∀ x ∈ r.ribs, -1000 ≤ x.col ∧ x.col ≤ 1000 ∧ -1000 ≤ x.width ∧ x.width ≤ 1000) (hl : r.ribs.length ≤ 1000) :
    Calls Try.prog 48 #[v, .int .i64 a, .int .i64 c] w fun e w' => e = .returned (.int .i64 ((colN r.ribs a c : Nat) : Int)) ∧ Below w.heap.size w w' := by
  obtain ⟨v1, v2, v3, rfl, hw, hr, hs⟩ := h
  obtain ⟨A2, c2, rfl, -, hA3⟩ := RRibs.open_ hr
  have HA3 := Lib.hid hA3
  have HB := Lib.hid hb
  clear hw hr hs hA3 hb
  have c0 := box4 (w := w) (a := v1) (b := .slice A2 r.ribs.length c2) (c := v3) (d := .bool r.coll) (t := 26) 1 _ rfl
  have b0 : Below w.heap.size w (w.alloc (.cells #[v1, .slice A2 r.ribs.length c2, v3, .bool r.coll] 26)) := (Below.refl _ _).alloc (Nat.le_refl _) _
  have z0 : (w.alloc (.cells #[v1, .slice A2 r.ribs.length c2, v3, .bool r.coll] 26)).heap.size = w.heap.size + 1 := by simp
  go_enter Try.func48, Try.ntmps48
  go_wp2
  generalize w.alloc (.cells #[v1, .slice A2 r.ribs.length c2, v3, .bool r.coll] 26) = w1 at *
  go_loopw [7, 8] (fun nv i wr => ∃ k : Nat, k ≤ r.ribs.length ∧ i = .int .i64 k ∧ (∃ N : Nat, N = colN (r.ribs.take k) a c ∧ nv = .int .i64 (N : Int)) ∧ Below (w.heap.size + 1) w1 wr) (fun _ i _ => r.ribs.length - (intOf i).toNat)
  case atStart => exact ⟨0, Nat.zero_le _, rfl, ⟨0, rfl, rfl⟩, Below.refl _ _⟩
  case round =>
    obtain ⟨k, hk, rfl, ⟨N, hN, rfl⟩, hB⟩ := hrel
    have hBw : Below w.heap.size w wr := b0.trans (hB.mono (by omega))
    have c1 := (hB.cell (p := ⟨w.heap.size, 1, none⟩) (by simp)).trans c0
    have zr : w.heap.size + 1 ≤ wr.heap.size := by have := hB.size; omega
    by_cases hlt : k < r.ribs.length
    case neg =>
      have HE : Hid (N = colN r.ribs a c) := by
        show N = colN r.ribs a c
        rw [hN, List.take_of_length_le (by omega)]
      clear hN
      go_wp2
      go_ret
      exact ⟨by rw [HE.out]; rfl, hBw⟩
    obtain ⟨x, hx⟩ : ∃ x, r.ribs[k]? = some x := ⟨_, List.getElem?_eq_getElem hlt⟩
    obtain ⟨g, o, rfl, hb, m0, m1, m2, m3, m4⟩ := HA3.out k x hx
    rw [← hBw.cell (p := ⟨g, o + k * 5, none⟩) hb] at m0
    rw [← hBw.cell (p := ⟨g, o + k * 5 + 1, none⟩) hb] at m1
    rw [← hBw.cell (p := ⟨g, o + k * 5 + 2, none⟩) hb] at m2
    rw [← hBw.cell (p := ⟨g, o + k * 5 + 3, none⟩) hb] at m3
    rw [← hBw.cell (p := ⟨g, o + k * 5 + 4, none⟩) hb] at m4
    obtain ⟨h1, h2, h3, h4⟩ := HB.out x (List.mem_of_getElem? hx)
    have hnx := colN_next hx a c
    rw [← hN] at hnx
    have hNk := colN_le r.ribs k a c
    rw [← hN] at hNk
    clear hx hN
    obtain ⟨xw, xc, xd, xt, xl⟩ := x
    dsimp only at m0 m1 m2 m3 m4 h1 h2 h3 h4
    have F2 : ∃ w2, wr.alloc (.cells #[.int .i64 xw, .int .i64 xc, .int .i64 xd, .bool xt, .bool xl] 99) = w2 ∧ Below (w.heap.size + 1) w1 w2 ∧ Blk w2 wr.heap.size 99 #[.int .i64 xw, .int .i64 xc, .int .i64 xd, .bool xt, .bool xl] :=
      ⟨_, rfl, hB.alloc zr _, Blk.new _ _ _⟩
    obtain ⟨w2, e2, B2, R2⟩ := F2
    have E2 := Lib.hid e2
    have kw : IntKind.i64.wrap (xc + xd) = xc + xd := IntWalk.i64_in _ ⟨by omega, by omega⟩
    clear e2 hBw
    go_upto_region 6 with fail
    rw [E2.out]
    clear m0 m1 m2 m3 m4 c1 hB
    have m0 := cellOf R2 0 (x := .int .i64 xw) rfl
    have m1 := cellOf R2 1 (x := .int .i64 xc) rfl
    have m2 := cellOf R2 2 (x := .int .i64 xd) rfl
    clear R2 hb
    by_cases g1 : xw = a
    case neg =>
      have k1 : (xw == a) = false := by simpa using g1
      have hc : colP a c ⟨xw, xc, xd, xt, xl⟩ = false := by unfold colP; simp [g1]
      rw [hc, if_neg (by simp)] at hnx
      have HNX := Lib.hid hnx
      clear hnx hc
      go_wp2
      go_roundw
      case rel => exact ⟨k + 1, by omega, by go_num, ⟨N, HNX.out.symm, rfl⟩, B2⟩
      case measure => simp [intOf]; omega
    have k1 : (xw == a) = true := by simpa using g1
    by_cases g2 : xc ≤ c
    case neg =>
      have hc : colP a c ⟨xw, xc, xd, xt, xl⟩ = false := by unfold colP; simp [g2]
      rw [hc, if_neg (by simp)] at hnx
      have HNX := Lib.hid hnx
      clear hnx hc
      go_wp2
      go_roundw
      case rel => exact ⟨k + 1, by omega, by go_num, ⟨N, HNX.out.symm, rfl⟩, B2⟩
      case measure => simp [intOf]; omega
    by_cases g3 : c < xc + xd
    case neg =>
      have hc : colP a c ⟨xw, xc, xd, xt, xl⟩ = false := by unfold colP; simp [g3]
      rw [hc, if_neg (by simp)] at hnx
      have HNX := Lib.hid hnx
      clear hnx hc
      go_wp2
      go_roundw
      case rel => exact ⟨k + 1, by omega, by go_num, ⟨N, HNX.out.symm, rfl⟩, B2⟩
      case measure => simp [intOf]; omega
    have hc : colP a c ⟨xw, xc, xd, xt, xl⟩ = true := by unfold colP; simp [g1, g2, g3]
    rw [hc, if_pos rfl] at hnx
    have HNX := Lib.hid hnx
    clear hnx hc
    go_wp2
    go_roundw
    case rel => exact ⟨k + 1, by omega, by go_num, ⟨N + 1, HNX.out.symm, by go_num⟩, B2⟩
    case measure => simp [intOf]; omega

/-- How often a number is in lists. -/
def stN (l : List (List Int)) (i : Int) : Nat := l.flatten.count i
theorem stN_next {l : List (List Int)} {k : Nat} {s : List Int} (h : l[k]? = some s) (i : Int) : stN (l.take (k + 1)) i = stN (l.take k) i + s.count i := by
  unfold stN
  rw [List.take_add_one, h, List.flatten_append, List.count_append]
  simp
theorem cnt_next {s : List Int} {m : Nat} {x : Int} (h : s[m]? = some x) (i : Int) : (s.take (m + 1)).count i = (s.take m).count i + if x = i then 1 else 0 := by
  rw [List.take_add_one, h, List.count_append]
  simp [List.count_cons]
theorem flat_le : ∀ {l : List (List Int)}, (∀ s ∈ l, s.length ≤ 1000) → l.flatten.length ≤ 1000 * l.length
  | [], _ => by simp
  | s :: l, h => by
    have h1 := flat_le (l := l) fun y hy => h y (by simp [hy])
    have h2 := h s (by simp)
    rw [List.flatten_cons, List.length_append, List.length_cons]
    omega
theorem stN_le {l : List (List Int)} (h : ∀ s ∈ l, s.length ≤ 1000) (hl : l.length ≤ 1000) (k : Nat) (i : Int) : stN (l.take k) i ≤ 1000000 := by
  unfold stN
  have h1 := flat_le (l := l.take k) fun s hs => h s (List.mem_of_mem_take hs)
  have h2 := List.count_le_length (a := i) (l := (l.take k).flatten)
  have h3 := List.length_take_le k l
  rw [List.length_take] at h1
  omega

set_option maxRecDepth 100000 in
set_option maxHeartbeats 1000000 in
theorem stacks_any (v : Value) (r : RunD) (i : Int) (w : World) (h : RRun w.heap.size w v r) (hsm : SmallRun r) :
    Calls Try.prog 47 #[v, .int .i64 i] w fun e w' => e = .returned (.int .i64 ((stN r.stacks i : Nat) : Int)) ∧ Below w.heap.size w w' := by
  obtain ⟨v1, v2, v3, rfl, hw, hr, hs⟩ := h
  obtain ⟨A3, c3, rfl, hl3, hA3⟩ := RAll.open_ hs
  have HA3 := Lib.hid hA3
  have HS := Lib.hid hsm
  clear hw hr hs hA3 hsm
  have c0 := box4 (w := w) (a := v1) (b := v2) (c := .slice A3 r.stacks.length c3) (d := .bool r.coll) (t := 26) 2 _ rfl
  have b0 : Below w.heap.size w (w.alloc (.cells #[v1, v2, .slice A3 r.stacks.length c3, .bool r.coll] 26)) := (Below.refl _ _).alloc (Nat.le_refl _) _
  have z0 : (w.alloc (.cells #[v1, v2, .slice A3 r.stacks.length c3, .bool r.coll] 26)).heap.size = w.heap.size + 1 := by simp
  go_enter Try.func47, Try.ntmps47
  go_wp2
  generalize w.alloc (.cells #[v1, v2, .slice A3 r.stacks.length c3, .bool r.coll] 26) = w1 at *
  go_loopw [5, 6] (fun nv iv wr => ∃ k : Nat, k ≤ r.stacks.length ∧ iv = .int .i64 k ∧ (∃ N : Nat, N = stN (r.stacks.take k) i ∧ nv = .int .i64 (N : Int)) ∧ Below (w.heap.size + 1) w1 wr) (fun _ i _ => r.stacks.length - (intOf i).toNat)
  case atStart => exact ⟨0, Nat.zero_le _, rfl, ⟨0, by simp [stN], rfl⟩, Below.refl _ _⟩
  case round =>
    obtain ⟨k, hk, rfl, ⟨N, hN, rfl⟩, hB⟩ := hrel
    have hBw : Below w.heap.size w wr := b0.trans (hB.mono (by omega))
    have c1 := (hB.cell (p := ⟨w.heap.size, 2, none⟩) (by simp)).trans c0
    by_cases hlt : k < r.stacks.length
    case neg =>
      have HE : Hid (N = stN r.stacks i) := by
        show N = stN r.stacks i
        rw [hN, List.take_of_length_le (by omega)]
      clear hN
      go_wp2
      go_ret
      exact ⟨by rw [HE.out]; rfl, hBw⟩
    obtain ⟨s, hx⟩ : ∃ s, r.stacks[k]? = some s := ⟨_, List.getElem?_eq_getElem hlt⟩
    have hN6 := stN_le HS.out.2.2.2.2 HS.out.2.2.1 k i
    rw [← hN] at hN6
    have hnx := stN_next hx i
    rw [← hN] at hnx
    have hs1 := HS.out.2.2.2.2 s (List.mem_of_getElem? hx)
    have HX := Lib.hid hx
    have HN := Lib.hid hN
    have HNX := Lib.hid hnx
    clear hx hN hnx
    go_wp2
    clear c1
    obtain ⟨wo, rfl⟩ : ∃ wo, wo = wr := ⟨wr, rfl⟩
    go_loopw [5, 7] (fun nv iv wr => ∃ m : Nat, m ≤ s.length ∧ iv = .int .i64 m ∧ (∃ M : Nat, M = N + (s.take m).count i ∧ nv = .int .i64 (M : Int)) ∧ Below (w.heap.size + 1) w1 wr) (fun _ i _ => s.length - (intOf i).toNat)
    case atStart => exact ⟨0, Nat.zero_le _, rfl, ⟨N, by simp, rfl⟩, hB⟩
    case round =>
      clear hBw hB
      obtain ⟨m, hm, rfl, ⟨M, hM, rfl⟩, hB⟩ := hrel
      have hBw : Below w.heap.size w wr := b0.trans (hB.mono (by omega))
      have c1 := (hB.cell (p := ⟨w.heap.size, 2, none⟩) (by simp)).trans c0
      obtain ⟨g, o, u, rfl, hb, m0, hp⟩ := HA3.out k s HX.out
      rw [← hBw.cell (p := ⟨g, o + k, none⟩) hb] at m0
      obtain ⟨As, cs, rfl, hls, hsc⟩ := RInts.open_ hp
      have HSC := Lib.hid hsc
      clear hp hsc
      by_cases hlm : m < s.length
      case neg =>
        have HE : Hid (M = stN (r.stacks.take (k + 1)) i) := by
          show M = stN (r.stacks.take (k + 1)) i
          rw [hM, HNX.out, List.take_of_length_le (by omega)]
        clear hM
        go_wp2
        go_roundw
        case rel => exact ⟨k + 1, by omega, by go_num, ⟨M, HE.out, rfl⟩, hB⟩
        case measure => simp [intOf]; omega
      obtain ⟨g2, o2, z, rfl, hb2, n0, hz⟩ := HSC.out m hlm
      rw [← hBw.cell (p := ⟨g2, o2 + m, none⟩) hb2] at n0
      have hzz : s[m]? = some z := by
        have := hz.out
        rw [List.getD_eq_getElem?_getD, List.getElem?_eq_getElem hlm] at this
        rw [List.getElem?_eq_getElem hlm]; exact congrArg some this
      have hmx := cnt_next hzz i
      have hMb : M ≤ N + m := by
        have h1 := List.count_le_length (a := i) (l := s.take m)
        have h2 := List.length_take_le m s
        omega
      have HM := Lib.hid hM
      have HMX := Lib.hid hmx
      clear hz hzz hM hmx hBw
      by_cases g1 : z = i
      case neg =>
        have k1 : (z == i) = false := by simpa using g1
        have HF : Hid (M = N + (s.take (m + 1)).count i) := by
          show M = N + (s.take (m + 1)).count i
          rw [HMX.out, if_neg g1, HM.out]; rfl
        clear g1
        go_wp2
        go_roundw
        case rel => exact ⟨m + 1, by omega, by go_num, ⟨M, HF.out, rfl⟩, hB⟩
        case measure => simp [intOf]; omega
      have k1 : (z == i) = true := by simpa using g1
      have HF : Hid (M + 1 = N + (s.take (m + 1)).count i) := by
        show M + 1 = N + (s.take (m + 1)).count i
        rw [HMX.out, if_pos g1, HM.out]; omega
      clear g1
      go_wp2
      go_roundw
      case rel => exact ⟨m + 1, by omega, by go_num, ⟨M + 1, HF.out, by go_num⟩, hB⟩
      case measure => simp [intOf]; omega

/-- The column of a half of a ribbon (1: the right one), as the reference says it. -/
def columnD (x : RibD) (half : Bool) : Int := if x.width = 1 then (if x.left = !half then x.col else -1) else if x.turned then (if half then x.col else x.col + 1) else (if half then x.col + 1 else x.col)
def halfI (h : Bool) : Int := if h then 1 else 0

set_option maxHeartbeats 1000000 in
theorem column_any (x : RibD) (half : Bool) (w : World) (h : 0 ≤ x.col ∧ x.col ≤ 1000) :
    Calls Try.prog 52 #[x.val, .int .i64 (halfI half)] w fun e w' => e = .returned (.int .i64 (columnD x half)) ∧ Below w.heap.size w w' := by
  obtain ⟨xw, xc, xd, xt, xl⟩ := x
  obtain ⟨h1, h2⟩ := h
  unfold RibD.val
  dsimp only at h1 h2 ⊢
  have hB : ∀ o, Below w.heap.size w (w.alloc o) := fun o => (Below.refl _ _).alloc (Nat.le_refl _) o
  have k0 : IntKind.i64.wrap (xc + 1) = xc + 1 := IntWalk.i64_in _ ⟨by omega, by omega⟩
  have k1 : IntKind.i64.wrap (xc + 1 - 1) = xc := by rw [IntWalk.i64_in _ ⟨by omega, by omega⟩]; omega
  have k2 : IntKind.i64.wrap (xc + 0) = xc := by rw [IntWalk.i64_in _ ⟨by omega, by omega⟩]; omega
  have k3 : IntKind.i64.wrap (xc + 1 - 0) = xc + 1 := by rw [IntWalk.i64_in _ ⟨by omega, by omega⟩]; omega
  have k4 : IntKind.i64.wrap xc = xc := IntWalk.i64_in _ ⟨by omega, by omega⟩
  by_cases g : xd = 1
  · have g' : (xd == 1) = true := by simpa using g
    subst g
    cases half <;> cases xl <;>
    · simp only [halfI, if_true, if_false, Bool.false_eq_true]
      go_enter Try.func52, Try.ntmps52
      go_wp2
      go_ret
      exact ⟨by simp [columnD], hB _⟩
  · have g' : (xd == 1) = false := by simpa using g
    cases half <;> cases xt <;>
    · simp only [halfI, if_true, if_false, Bool.false_eq_true]
      go_enter Try.func52, Try.ntmps52
      go_wp2
      go_ret
      exact ⟨by simp [columnD, g], hB _⟩

/-- The side of the web, of a face of a ribbon (1: the lower one). -/
def sideI (x : RibD) (face : Bool) : Int := if x.turned then (if face then 0 else 1) else halfI face
set_option maxHeartbeats 1000000 in
theorem side_any (x : RibD) (face : Bool) (w : World) :
    Calls Try.prog 81 #[x.val, .int .i64 (halfI face)] w fun e w' => e = .returned (.int .i64 (sideI x face)) ∧ Below w.heap.size w w' := by
  obtain ⟨xw, xc, xd, xt, xl⟩ := x
  unfold RibD.val
  dsimp only
  have hB : ∀ o, Below w.heap.size w (w.alloc o) := fun o => (Below.refl _ _).alloc (Nat.le_refl _) o
  cases face <;> cases xt <;>
  · simp only [halfI, if_true, if_false, Bool.false_eq_true]
    go_enter Try.func81, Try.ntmps81
    go_wp2
    go_ret
    exact ⟨by simp [sideI, halfI], hB _⟩

set_option maxHeartbeats 1000000 in
theorem At_any (r : RunD) (s : SpotD) (m : Nat) (x : WebD) (pv : Value) (w : World) (hs : SpotOk r s m x) :
    Calls Try.prog 46 #[.agg #[.int .i64 x.cols, .int .i64 x.rows, pv], .agg #[.int .i64 s.web, .int .i64 s.side, .int .i64 s.row, .int .i64 s.col]] w fun e w' => e = .returned (.int .i64 ((plateI x s : Nat) : Int)) ∧ Below w.heap.size w w' := by
  have h1 := plate_lt hs.side hs.rows hs.row hs.cols hs.col
  have h2 := hs.idx.2
  have h3 := hs.side
  have h4 := hs.row
  have h5 := hs.col
  have h6 := hs.rows
  have h7 := hs.cols
  obtain ⟨xc, xr, xp⟩ := x
  obtain ⟨sw, ss, sr, sc⟩ := s
  dsimp only at h1 h2 h3 h4 h5 h6 h7 ⊢
  have e1 : xr * ss = ss * xr := Int.mul_comm _ _
  have e2 : xc * (sr + ss * xr) = (ss * xr + sr) * xc := by rw [Int.mul_comm, Int.add_comm]
  have k1 : IntKind.i64.wrap (xr * ss) = ss * xr := by rw [e1]; exact IntWalk.i64_in _ ⟨by omega, by omega⟩
  have k2 : IntKind.i64.wrap (sr + ss * xr) = sr + ss * xr := IntWalk.i64_in _ ⟨by omega, by omega⟩
  have k3 : IntKind.i64.wrap (xc * (sr + ss * xr)) = (ss * xr + sr) * xc := by rw [e2]; exact IntWalk.i64_in _ ⟨by omega, by omega⟩
  have k4 : IntKind.i64.wrap (sc + (ss * xr + sr) * xc) = ((plateI ⟨xc, xr, xp⟩ ⟨sw, ss, sr, sc⟩ : Nat) : Int) := by rw [h2, Int.add_comm]; exact IntWalk.i64_in _ ⟨by omega, by omega⟩
  have hB : ∀ o o', Below w.heap.size w ((w.alloc o).alloc o') := fun o o' => ((Below.refl _ _).alloc (Nat.le_refl _) _).alloc (by simp) _
  clear h1 h2 h3 h4 h5 h6 h7 e1 e2
  go_enter Try.func46, Try.ntmps46
  go_wp2
  go_ret
  exact ⟨rfl, hB _ _⟩
end Go.Proofs.Ytdbfhdncjblleaa
