/-
  RegisterSmall: the call returns true.
  The law has no argument; no condition is asked.
-/
import Derived.Test.YtffodgpafiifcaaPb
import Derived.Test.YtffodgpafiifcaaIf
import Derived.Test.YtffodgpafiifcaaJk
import Derived.Test.YtffodgpafiifcaaEc
import Derived.Test.YtffodgpafiifcaaGn
namespace Go.Proofs.Ytffodgpafiifcaa
open Go.RowKit

/-- The law's desk after i readings. -/
def SmSt (w3 : World) (D i : Nat) (X : World) : Prop := ∃ (b : Nat) (cs : List CopyD) (mv cv pv : Value) (Cs : List Nat) (vs : List Value) (es : List (Value × Value)), w3.heap.size ≤ b ∧ SmallTo i cs ∧ DeskOk (smallD cs) ∧ DeskAt b X D (smallD cs) mv cv pv Cs vs es ∧ Below w3.heap.size w3 X
theorem SmSt.still {w3 X Y : World} {D i : Nat} (h : SmSt w3 D i X) (hb : Below X.heap.size X Y) : SmSt w3 D i Y := by
  obtain ⟨b, cs, mv, cv, pv, Cs, vs, es, h0, h1, h2, h3, h4⟩ := h
  exact ⟨b, cs, mv, cv, pv, Cs, vs, es, h0, h1, h2, h3.below hb, h4.trans (hb.mono h4.size)⟩
theorem SmSt.below {w3 X : World} {D i : Nat} (h : SmSt w3 D i X) : Below w3.heap.size w3 X := by
  obtain ⟨b, cs, mv, cv, pv, Cs, vs, es, h0, h1, h2, h3, h4⟩ := h
  exact h4
def SmRet (w3 : World) (D i : Nat) (want : Int) (e : Ending) (w' : World) : Prop := ∃ (g : Bool) (sh : Int) (A : Option Addr) (n c : Nat) (A' : Option Addr) (n' c' : Nat), e = .returned (.tuple #[.agg #[.bool g, .int .i64 sh, .slice A n c, .slice A' n' c'], .int .i64 want]) ∧ SmSt w3 D i w'
theorem small_keep {w3 X X' : World} {b D : Nat} {d : DeskD} {mv cv pv : Value} {Cs : List Nat} {vs : List Value} {es : List (Value × Value)} (h0 : w3.heap.size ≤ b) (h3 : DeskAt b X D d mv cv pv Cs vs es) (h4 : Below w3.heap.size w3 X) (hk : KeptBut (Foot D mv cv pv Cs vs es) X X') : Below w3.heap.size w3 X' :=
  h4.trans (hk.below (fun k hf => Nat.le_trans h0 (h3.foot_lt hf).1) h4.size)
theorem small_reads {w3 X : World} {D i : Nat} (h : SmSt w3 D i X) (hi : i < 5000) (v : Value) (seen : List Int) (hv : RInts X.heap.size X v seen) (want : Int)
    (hc : (seen = [] ∧ want = 4 ∧ i % 1000 ≠ 0) ∨ (seen = [0, 10 + ((i / 1000 % 3 : Nat) : Int)] ∧ want = 0 ∧ i % 1000 = 0)) :
    Calls Try.prog 32 #[.pointer (some ⟨D, 0, none⟩), v] X (SmRet w3 D (i + 1) want) := by
  obtain ⟨b, cs, mv, cv, pv, Cs, vs, es, h0, h1, h2, h3, h4⟩ := h
  have hls : seen.length ≤ 1000000 := by rcases hc with ⟨rfl, -⟩ | ⟨rfl, -⟩ <;> simp
  refine (Read_any b D (smallD cs) mv cv pv Cs vs es X h3 h2 v seen hv hls).mono ?_
  rintro e w' ⟨c, code, d', pv', vs', es', ue, um, rfl, his, hok', hat', hk', hf', hue, hum, -⟩
  have hl : cs.length ≠ 5000 := by rw [h1.1]; omega
  obtain ⟨A, cc, rfl⟩ := ownsRow_form hue
  obtain ⟨A', cc', rfl⟩ := ownsRow_form hum
  have hB := small_keep h0 h3 h4 hk'
  rcases hc with ⟨rfl, rfl, hm⟩ | ⟨rfl, rfl, hm⟩
  · obtain ⟨rfl, rfl, hg⟩ := small_read_nil his hl
    refine ⟨c.good, c.shift, A, _, cc, A', _, cc', rfl, b, cs ++ [c], mv, cv, pv', Cs, vs', es', h0, h1.next ?_, hok', hat', hB⟩
    rw [hg]
    symm
    rw [decide_eq_false_iff_not]
    rintro (rfl | rfl)
    · exact hm rfl
    · exact hm rfl
  · have hj : ((i / 1000 % 3 : Nat) : Int) = 0 ∨ ((i / 1000 % 3 : Nat) : Int) = 1 ∨ ((i / 1000 % 3 : Nat) : Int) = 2 := by omega
    obtain ⟨rfl, rfl, hg⟩ := small_read_two hj his hl
    refine ⟨c.good, c.shift, A, _, cc, A', _, cc', rfl, b, cs ++ [c], mv, cv, pv', Cs, vs', es', h0, h1.next ?_, hok', hat', hB⟩
    rw [hg]
    have : ((i / 1000 % 3 : Nat) : Int) = 0 ↔ (i = 0 ∨ i = 3000) := by omega
    exact decide_eq_decide.2 this
theorem small_full {w3 X : World} {D : Nat} (h : SmSt w3 D 5000 X) : Calls Try.prog 32 #[.pointer (some ⟨D, 0, none⟩), .slice none 0 0] X (SmRet w3 D 5000 2) := by
  obtain ⟨b, cs, mv, cv, pv, Cs, vs, es, h0, h1, h2, h3, h4⟩ := h
  refine (Read_any b D (smallD cs) mv cv pv Cs vs es X h3 h2 (.slice none 0 0) [] Rd.nil (by simp)).mono ?_
  rintro e w' ⟨c, code, d', pv', vs', es', ue, um, rfl, his, hok', hat', hk', hf', hue, hum, -⟩
  obtain ⟨A, cc, rfl⟩ := ownsRow_form hue
  obtain ⟨A', cc', rfl⟩ := ownsRow_form hum
  obtain ⟨rfl, rfl⟩ := small_read_full his h1.1
  exact ⟨c.good, c.shift, A, _, cc, A', _, cc', rfl, b, cs, mv, cv, pv', Cs, vs', es', h0, h1, hok', hat', small_keep h0 h3 h4 hk'⟩
theorem small_waste {w3 X : World} {D : Nat} (h : SmSt w3 D 5000 X) : Calls Try.prog 36 #[.pointer (some ⟨D, 0, none⟩)] X fun e w' => e = .returned (.tuple #[.int .i64 4998, .int .i64 0]) ∧ Below X.heap.size X w' := by
  obtain ⟨b, cs, mv, cv, pv, Cs, vs, es, h0, h1, h2, h3, h4⟩ := h
  refine (Waste_any b D (smallD cs) mv cv pv Cs vs es X h3 (by show cs.length ≤ 5000; rw [h1.1]; omega)).mono ?_
  rintro e w' ⟨rfl, hb⟩
  refine ⟨?_, hb⟩
  show Ending.returned (.tuple #[.int .i64 (wasteD cs : Nat), .int .i64 0]) = _
  rw [h1.waste]
  rfl
/-- The law makes its desk. -/
theorem small_new (w3 : World) : Calls Try.prog 30 #[.slice (some ⟨w3.heap.size, 0, none⟩) 2 2, .slice (some ⟨w3.heap.size + 1, 0, none⟩) 1 1, .int .i64 2, .int .i64 0] ((w3.alloc (.cells #[.int .i64 0, .int .i64 10] 3)).alloc (.cells #[.int .i64 0, .int .i64 0, .int .i64 0, .int .i64 1] 26)) fun e w' => ∃ D, e = .returned (.tuple #[.pointer (some ⟨D, 0, none⟩), .int .i64 0]) ∧ SmSt w3 D 0 w' := by
  obtain ⟨Y, hY⟩ : ∃ Y, (w3.alloc (.cells #[.int .i64 0, .int .i64 10] 3)).alloc (.cells #[.int .i64 0, .int .i64 0, .int .i64 0, .int .i64 1] 26) = Y := ⟨_, rfl⟩
  have b1 := below_alloc w3 (.cells #[.int .i64 0, .int .i64 10] 3)
  have b2 := below_alloc (w3.alloc (.cells #[.int .i64 0, .int .i64 10] 3)) (.cells #[.int .i64 0, .int .i64 0, .int .i64 0, .int .i64 1] 26)
  rw [hY] at b2
  have bY : Below w3.heap.size w3 Y := b1.trans (b2.mono b1.size)
  have k1 : Blk Y w3.heap.size 3 #[.int .i64 0, .int .i64 10] := (Blk.new w3 _ _).below b2 (by simp)
  have k2 : Blk Y (w3.heap.size + 1) 26 #[.int .i64 0, .int .i64 0, .int .i64 0, .int .i64 1] := by rw [← hY]; exact blk_new (by simp) _ _
  have hm : RInts Y.heap.size Y (.slice (some ⟨w3.heap.size, 0, none⟩) 2 2) [0, 10] := ⟨_, 2, rfl, rfl, by simp [maxLen], fun _ => ⟨w3.heap.size, 0, rfl, k1.lt, fun j u hu => by rw [k1.cell, Nat.zero_add]; simpa using hu⟩⟩
  have hl : RLoops Y.heap.size Y (.slice (some ⟨w3.heap.size + 1, 0, none⟩) 1 1) [⟨0, 0, 0, 1⟩] := ⟨_, 1, rfl, rfl, by simp [maxLen], fun _ => ⟨w3.heap.size + 1, 0, rfl, k2.lt, fun j u hu => by rw [k2.cell, Nat.zero_add]; simpa [loopCells] using hu⟩⟩
  rw [hY]
  refine (New_any _ _ [0, 10] [⟨0, 0, 0, 1⟩] 2 0 Y hm hl (by simp) (by simp)).mono ?_
  rintro e w' ⟨h1, h2⟩
  have hI : NewIs [0, 10] [⟨0, 0, 0, 1⟩] 2 0 0 := .inr (.inr (.inr (.inr ⟨by simp, by simp [LoopOk], by simp, ⟨small_allow, by omega, by omega⟩, rfl⟩)))
  rcases h1 with ⟨code, hc, hi, -⟩ | ⟨-, D, mv, cv, Cs, vs, rfl, hok, hat⟩
  · exact absurd (hi.one hI) hc
  · exact ⟨D, rfl, Y.heap.size, [], mv, cv, _, Cs, vs, [], bY.size, SmallTo.zero, hok, hat, bY.trans (h2.mono bY.size)⟩

theorem rints_of {W : World} {b c n : Nat} {cs : Array Value} {l : List Int} (h : Blk W b 3 cs) (hc : cs = (l.map (Value.int .i64)).toArray) (hn : l.length = n) (hl : n ≤ 1000) : RInts W.heap.size W (.slice (some ⟨b, 0, none⟩) n c) l := by
  subst hn
  exact ⟨_, c, rfl, by simp, by simp only [maxLen]; omega, fun _ => ⟨b, 0, rfl, h.lt, fun j u hu => by rw [h.cell, Nat.zero_add, hc]; simpa using hu⟩⟩
theorem three_new (X : World) (a b c : Array Value) : Blk (((X.alloc (.cells a 3)).alloc (.cells b 3)).alloc (.cells c 3)) X.heap.size 3 a ∧ Blk (((X.alloc (.cells a 3)).alloc (.cells b 3)).alloc (.cells c 3)) (X.heap.size + 1) 3 b ∧ Blk (((X.alloc (.cells a 3)).alloc (.cells b 3)).alloc (.cells c 3)) (X.heap.size + 2) 3 c ∧
    Below X.heap.size X (((X.alloc (.cells a 3)).alloc (.cells b 3)).alloc (.cells c 3)) := by
  have b1 := below_alloc X (.cells a 3)
  have b2 := below_alloc (X.alloc (.cells a 3)) (.cells b 3)
  have b3 := below_alloc ((X.alloc (.cells a 3)).alloc (.cells b 3)) (.cells c 3)
  exact ⟨((Blk.new X _ _).alloc _).alloc _, (blk_new (by simp) _ _).alloc _, blk_new (by simp) _ _, b1.trans ((b2.mono b1.size).trans (b3.mono (Nat.le_trans b1.size b2.size)))⟩
/-- RegisterMatches of two slices that are made just before. -/
theorem match_two (X : World) (m a b c d : Int) : Calls Try.prog 4 #[.slice (some ⟨X.heap.size, 0, none⟩) 2 2, .int .i64 m, .slice (some ⟨X.heap.size + 1, 0, none⟩) 2 2] ((X.alloc (.cells #[.int .i64 a, .int .i64 b] 3)).alloc (.cells #[.int .i64 c, .int .i64 d] 3)) fun e w' => e = .returned (.bool true) ∧ Below X.heap.size X w' := by
  have b1 := below_alloc X (.cells #[.int .i64 a, .int .i64 b] 3)
  have b2 := below_alloc (X.alloc (.cells #[.int .i64 a, .int .i64 b] 3)) (.cells #[.int .i64 c, .int .i64 d] 3)
  refine (Matches_any _ _ [a, b] m [c, d] _ (rints_of (l := [a, b]) (((Blk.new X _ _).alloc _)) rfl rfl (by simp)) (rints_of (l := [c, d]) (blk_new (by simp) _ _) rfl rfl (by simp))).mono ?_
  rintro e w' ⟨rfl, hb⟩
  exact ⟨rfl, b1.trans ((b2.mono b1.size).trans (hb.mono (Nat.le_trans b1.size b2.size)))⟩

theorem rep_ints (n : Nat) : (Array.replicate n (Value.int .i64 0)) = ((List.replicate n (0 : Int)).map (Value.int .i64)).toArray := by simp
theorem put_loop (k : Nat) (hk : k < 4) (x : Int) (hx : -1 ≤ x ∧ x ≤ 10001) : ∃ d nn bb st : Int, (#[Value.int .i64 1, .int .i64 2, .int .i64 1, .int .i64 10000] : Array Value).setIfInBounds k (.int .i64 x) = #[.int .i64 d, .int .i64 nn, .int .i64 bb, .int .i64 st] ∧ (-1 ≤ d ∧ d ≤ 10001) ∧ (-1 ≤ nn ∧ nn ≤ 10001) ∧ (-1 ≤ bb ∧ bb ≤ 10001) ∧ (-1 ≤ st ∧ st ≤ 10001) := by
  rcases (show k = 0 ∨ k = 1 ∨ k = 2 ∨ k = 3 by omega) with rfl | rfl | rfl | rfl
  · exact ⟨x, 2, 1, 10000, rfl, by omega, by omega, by omega, by omega⟩
  · exact ⟨1, x, 1, 10000, rfl, by omega, by omega, by omega, by omega⟩
  · exact ⟨1, 2, x, 10000, rfl, by omega, by omega, by omega, by omega⟩
  · exact ⟨1, 2, 1, x, rfl, by omega, by omega, by omega, by omega⟩

set_option maxRecDepth 100000 in
set_option maxHeartbeats 60000000 in
theorem Small_any (w : World) : Calls Try.prog 6 #[] w fun e w' => e = .returned (.bool true) ∧ Below w.heap.size w w' := by
  have CA := Lib.hid awake_any
  go_enter Try.func6, Try.ntmps6
  go_wp2
  go_loopw [1, 3, 4, 5, 7] (fun n _ _ _ _ wr => ∃ k : Nat, k ≤ 4 ∧ n = .int .i64 k ∧ Below w.heap.size w wr) (fun n _ _ _ _ _ => 4 - (intOf n).toNat)
  case atStart => exact ⟨0, Nat.zero_le _, rfl, Below.refl _ _⟩
  case round =>
    obtain ⟨k, hk, rfl, hb⟩ := hrel
    have HB := Lib.hid hb
    clear hb
    by_cases hlt : k < 4
    · obtain ⟨w1, e1, B1, V1⟩ : ∃ w1, wr.alloc (.cells #[.int .i64 (-1), .int .i64 0, .int .i64 1, .int .i64 2, .int .i64 4, .int .i64 5, .int .i64 20, .int .i64 21, .int .i64 999, .int .i64 1000, .int .i64 1001, .int .i64 3000, .int .i64 10000, .int .i64 10001] 3) = w1 ∧ Below wr.heap.size wr w1 ∧ Blk w1 wr.heap.size 3 #[.int .i64 (-1), .int .i64 0, .int .i64 1, .int .i64 2, .int .i64 4, .int .i64 5, .int .i64 20, .int .i64 21, .int .i64 999, .int .i64 1000, .int .i64 1001, .int .i64 3000, .int .i64 10000, .int .i64 10001] := ⟨_, rfl, below_alloc _ _, Blk.new _ _ _⟩
      have E1 := Lib.hid e1
      have HV1 : Hid (RInts w1.heap.size w1 (.slice (some ⟨wr.heap.size, 0, none⟩) 14 14) [-1, 0, 1, 2, 4, 5, 20, 21, 999, 1000, 1001, 3000, 10000, 10001]) := Lib.hid (rints_of (l := [-1, 0, 1, 2, 4, 5, 20, 21, 999, 1000, 1001, 3000, 10000, 10001]) V1 rfl rfl (by omega))
      have HB1 := Lib.hid (HB.out.trans (B1.mono HB.out.size))
      have ik : (k : Int) < 4 := by omega
      obtain ⟨bV, hbV⟩ : ∃ b, wr.heap.size = b := ⟨_, rfl⟩
      rw [hbV] at HV1
      clear e1 B1 V1
      go_wp2
      rw [E1.out]
      clear hbV
      go_loopw [3, 4, 5, 7, 37] (fun _ _ _ _ iq wq => ∃ i : Nat, i ≤ 14 ∧ iq = .int .i64 i ∧ Below w1.heap.size w1 wq) (fun _ _ _ _ iq _ => 14 - (intOf iq).toNat)
      case atStart => exact ⟨0, Nat.zero_le _, rfl, Below.refl _ _⟩
      case round =>
        obtain ⟨i, hi, rfl, hbw⟩ := hrel
        have HBw := Lib.hid hbw
        by_cases hlti : i < 14
        · obtain ⟨x, hx⟩ : ∃ x, ([-1, 0, 1, 2, 4, 5, 20, 21, 999, 1000, 1001, 3000, 10000, 10001] : List Int)[i]? = some x := ⟨_, List.getElem?_eq_getElem (by simpa using hlti)⟩
          have hxb : -1 ≤ x ∧ x ≤ 10001 := by
            have h9 := List.mem_of_getElem? hx
            simp at h9
            omega
          obtain ⟨gV, oV, he, hgV, cx⟩ := HV1.out.at hx
          cases he
          have cx' := (hbw.cell (p := ⟨bV, 0 + i, none⟩) hgV).trans cx
          rw [Nat.zero_add] at cx'
          have ii : (i : Int) < 14 := by omega
          obtain ⟨w3, e3, B3, L3, P3⟩ : ∃ w3, (wr.alloc (.cells #[.int .i64 1, .int .i64 2, .int .i64 1, .int .i64 10000] 23)).alloc (.cells #[.pointer (some ⟨wr.heap.size, 0, none⟩), .pointer (some ⟨wr.heap.size, 1, none⟩), .pointer (some ⟨wr.heap.size, 2, none⟩), .pointer (some ⟨wr.heap.size, 3, none⟩)] 84) = w3 ∧ Below wr.heap.size wr w3 ∧ Blk w3 wr.heap.size 23 #[.int .i64 1, .int .i64 2, .int .i64 1, .int .i64 10000] ∧ Blk w3 (wr.heap.size + 1) 84 #[.pointer (some ⟨wr.heap.size, 0, none⟩), .pointer (some ⟨wr.heap.size, 1, none⟩), .pointer (some ⟨wr.heap.size, 2, none⟩), .pointer (some ⟨wr.heap.size, 3, none⟩)] :=
            ⟨_, rfl, (below_alloc _ _).trans ((below_alloc _ _).mono (by simp)), (Blk.new _ _ _).alloc _, blk_new (by simp) _ _⟩
          have E3 := Lib.hid e3
          have hpk : w3.cell? ⟨wr.heap.size + 1, k, none⟩ = some (.pointer (some ⟨wr.heap.size, k, none⟩)) := by
            rcases (show k = 0 ∨ k = 1 ∨ k = 2 ∨ k = 3 by omega) with rfl | rfl | rfl | rfl
            · exact cellOf P3 0 rfl
            · exact cellOf P3 1 rfl
            · exact cellOf P3 2 rfl
            · exact cellOf P3 3 rfl
          obtain ⟨y, hy⟩ : ∃ y, w3.cell? ⟨wr.heap.size, k, none⟩ = some (.int .i64 y) := by
            rcases (show k = 0 ∨ k = 1 ∨ k = 2 ∨ k = 3 by omega) with rfl | rfl | rfl | rfl
            · exact ⟨1, cellOf L3 0 rfl⟩
            · exact ⟨2, cellOf L3 1 rfl⟩
            · exact ⟨1, cellOf L3 2 rfl⟩
            · exact ⟨10000, cellOf L3 3 rfl⟩
          have fy := L3.frozen k
          obtain ⟨d, nn, bb, st, hput, hd, hnn, hbb, hst⟩ := put_loop k hlt x hxb
          obtain ⟨w4, e4, L4, B4⟩ : ∃ w4, w3.setCell ⟨wr.heap.size, k, none⟩ (.int .i64 x) = w4 ∧ Blk w4 wr.heap.size 23 #[.int .i64 d, .int .i64 nn, .int .i64 bb, .int .i64 st] ∧ Below wr.heap.size wr w4 := ⟨_, rfl, by rw [← hput]; exact L3.put k _, below_far B3 (Nat.le_refl _)⟩
          have E4 := Lib.hid e4
          obtain ⟨w5, e5, B5, V5⟩ : ∃ w5, w4.alloc (.cells #[.int .i64 0, .int .i64 (-3), .int .i64 x, .int .i64 1000000, .int .i64 (-1000000), .int .i64 1000001] 3) = w5 ∧ Below w4.heap.size w4 w5 ∧ Blk w5 w4.heap.size 3 #[.int .i64 0, .int .i64 (-3), .int .i64 x, .int .i64 1000000, .int .i64 (-1000000), .int .i64 1000001] := ⟨_, rfl, below_alloc _ _, Blk.new _ _ _⟩
          have E5 := Lib.hid e5
          have HV5 : Hid (RInts w5.heap.size w5 (.slice (some ⟨w4.heap.size, 0, none⟩) 6 6) [0, -3, x, 1000000, -1000000, 1000001]) := Lib.hid (rints_of (l := [0, -3, x, 1000000, -1000000, 1000001]) V5 rfl rfl (by omega))
          have HL5 := Lib.hid (L4.below B5 L4.lt)
          have HB5 : Hid (Below w1.heap.size w1 w5) := Lib.hid (hbw.trans ((B4.trans (B5.mono B4.size)).mono hbw.size))
          clear hx e3 B3 L3 P3 hput e4 L4 B4 e5 B5 V5 cx hbw
          go_upto_region 9 with fail
          rw [E3.out]
          clear cx'
          go_upto_region 10 with fail
          rw [E4.out]
          clear hpk hy fy
          obtain ⟨bL, hbL⟩ : ∃ b, wr.heap.size = b := ⟨_, rfl⟩
          rw [hbL] at HL5 ⊢
          clear hbL E3 E4
          obtain ⟨bE, hbE⟩ : ∃ b, w4.heap.size = b := ⟨_, rfl⟩
          rw [hbE] at HV5
          go_wp2
          rw [E5.out]
          clear hbE
          go_loopw [7, 56] (fun _ jq wq => ∃ j : Nat, j ≤ 6 ∧ jq = .int .i64 j ∧ Below w5.heap.size w5 wq) (fun _ jq _ => 6 - (intOf jq).toNat)
          case atStart => exact ⟨0, Nat.zero_le _, rfl, Below.refl _ _⟩
          case round =>
            obtain ⟨j, hj, rfl, hbj⟩ := hrel
            have HBj := Lib.hid hbj
            by_cases hltj : j < 6
            · obtain ⟨ev, hev⟩ : ∃ y, ([0, -3, x, 1000000, -1000000, 1000001] : List Int)[j]? = some y := ⟨_, List.getElem?_eq_getElem (by simpa using hltj)⟩
              have heb : -1000000 ≤ ev ∧ ev ≤ 1000001 := by
                have h9 := List.mem_of_getElem? hev
                simp at h9
                omega
              obtain ⟨gE, oE, he, hgE, ce⟩ := HV5.out.at hev
              cases he
              have ce' := (hbj.cell (p := ⟨bE, 0 + j, none⟩) hgE).trans ce
              rw [Nat.zero_add] at ce'
              have ij : (j : Int) < 6 := by omega
              have hL9 := HL5.out.below hbj HL5.out.lt
              have hbL9 := hL9.lt
              have t0 := cellOf hL9 0 (x := .int .i64 d) rfl
              have t1 := cellOf hL9 1 (x := .int .i64 nn) rfl
              have t2 := cellOf hL9 2 (x := .int .i64 bb) rfl
              have t3 := cellOf hL9 3 (x := .int .i64 st) rfl
              have HLp : Hid (∀ (Y : World) (n3 x1 x2 x3 : Nat), Blk Y x1 3 #[.int .i64 2, .int .i64 (-2), .int .i64 1] → Blk Y x2 3 #[.int .i64 0, .int .i64 1, .int .i64 (-1)] → Blk Y x3 3 (Array.replicate n3 (.int .i64 0)) → n3 ≤ 30 → Below wr.heap.size wr Y → Calls Try.prog 3 #[.agg #[.int .i64 d, .int .i64 nn, .int .i64 bb, .int .i64 st], .int .i64 ev, .slice (some ⟨x1, 0, none⟩) 3 3, .slice (some ⟨x2, 0, none⟩) 3 3, .slice (some ⟨x3, 0, none⟩) n3 n3] Y fun e w' => e = .returned (.bool true) ∧ Below wr.heap.size wr w') := Lib.hid fun Y n3 x1 x2 x3 h1 h2 h3 hn3 hY => by
                have hn := rints_of (c := 3) (l := [2, -2, 1]) h1 rfl rfl (by simp)
                have hb := rints_of (c := 3) (l := [0, 1, -1]) h2 rfl rfl (by simp)
                have hm := rints_of (c := n3) (n := n3) (l := List.replicate n3 (0 : Int)) h3 (rep_ints n3) (by simp) (by omega)
                refine (Loops_any _ _ _ _ _ ⟨by omega, by omega⟩ _ _ _ _ _ _ Y hn hb hm (fun x hx => by simp at hx; omega) (fun x hx => by simp at hx; omega) (fun x hx => by have h9 := List.eq_of_mem_replicate hx; omega)).mono ?_
                rintro e w' ⟨rfl, h9⟩
                exact ⟨rfl, hY.trans (h9.mono hY.size)⟩
              have hS1 : ∀ (X : World), Below wr.heap.size wr X → X.cell? ⟨bL, 0, none⟩ = some (.int .i64 d) ∧ X.cell? ⟨bL, 1, none⟩ = some (.int .i64 nn) ∧ X.cell? ⟨bL, 2, none⟩ = some (.int .i64 bb) ∧ X.cell? ⟨bL, 3, none⟩ = some (.int .i64 st) := fun X hX =>
                ⟨(hX.cell (p := ⟨bL, 0, none⟩) hbL9).trans t0, (hX.cell (p := ⟨bL, 1, none⟩) hbL9).trans t1, (hX.cell (p := ⟨bL, 2, none⟩) hbL9).trans t2, (hX.cell (p := ⟨bL, 3, none⟩) hbL9).trans t3⟩
              have HS9 : Hid (∀ a b c, _) := Lib.hid fun a b c => hS1 (((wr.alloc (.cells a 3)).alloc (.cells b 3)).alloc (.cells c 3)).drew (three_new wr a b c).2.2.2.drew
              have HS9' : Hid (∀ a b, _) := Lib.hid fun a b => hS1 ((wr.alloc (.cells a 3)).alloc (.cells b 3)).drew ((below_alloc wr _).trans ((below_alloc _ _).mono (below_alloc wr _).size)).drew
              have HS9'' : Hid (∀ a, _) := Lib.hid fun a => hS1 (wr.alloc (.cells a 3)).drew (below_alloc wr _).drew
              have HSb := Lib.hid hS1
              clear hS1 hev ce hL9 hbj
              go_upto_region 13 with fail
              clear ce'
              obtain ⟨D1, hD1⟩ : ∃ D1, d + 1 = D1 := ⟨_, rfl⟩
              have e1 : IntKind.i64.wrap (d + 1) = D1 := by rw [hD1]; exact IntWalk.i64_in _ ⟨by omega, by omega⟩
              obtain ⟨M, hM⟩ : ∃ M, (if (30 : Int) < D1 then (30 : Int) else D1) = M := ⟨_, rfl⟩
              have hM9 : 0 ≤ D1 → (0 ≤ M ∧ M ≤ 30) := by intro h9; rw [← hM]; split <;> omega
              obtain ⟨sz, hN⟩ : ∃ sz : Nat, (if M < 0 then (0 : Int) else M) = (sz : Int) := ⟨(if M < 0 then (0 : Int) else M).toNat, by split <;> omega⟩
              have hN9 : sz ≤ 30 := by have := hM9 (by omega); split at hN <;> omega
              have hs30 : sz ≤ 30 := hN9
              have hmk := makeInts sz (by omega)
              clear hD1 hM9 hN9
              go_cut [71] (fun s wx => s = .bool false ∧ Below wr.heap.size wr wx)
              case first =>
                go_region_held3 (fun X => X.cell? ⟨bL, 0, none⟩ = some (.int .i64 d) ∧ X.cell? ⟨bL, 1, none⟩ = some (.int .i64 nn) ∧ X.cell? ⟨bL, 2, none⟩ = some (.int .i64 bb) ∧ X.cell? ⟨bL, 3, none⟩ = some (.int .i64 st))
                  (first | exact S10 | exact HS9.out _ _ _ | exact HS9'.out _ _ | exact HS9''.out _ | go_keep)
                  (first
                    | (go_at_call 3; with_reducible refine (HLp.out (((wr.alloc (.cells #[.int .i64 2, .int .i64 (-2), .int .i64 1] 3)).alloc (.cells #[.int .i64 0, .int .i64 1, .int .i64 (-1)] 3)).alloc (.cells (Array.replicate sz (.int .i64 0)) 3)).drew sz wr.heap.size (wr.heap.size + 1) (wr.heap.size + 2) (blk_drew (three_new wr #[.int .i64 2, .int .i64 (-2), .int .i64 1] #[.int .i64 0, .int .i64 1, .int .i64 (-1)] (Array.replicate sz (.int .i64 0))).1) (blk_drew (three_new wr #[.int .i64 2, .int .i64 (-2), .int .i64 1] #[.int .i64 0, .int .i64 1, .int .i64 (-1)] (Array.replicate sz (.int .i64 0))).2.1) (blk_drew (three_new wr #[.int .i64 2, .int .i64 (-2), .int .i64 1] #[.int .i64 0, .int .i64 1, .int .i64 (-1)] (Array.replicate sz (.int .i64 0))).2.2.1) (by omega) (three_new wr #[.int .i64 2, .int .i64 (-2), .int .i64 1] #[.int .i64 0, .int .i64 1, .int .i64 (-1)] (Array.replicate sz (.int .i64 0))).2.2.2.drew).mono ?_; rintro _ w10 ⟨rfl, hb10⟩; have S10 := HSb.out w10 hb10)
                    | (go_at_call 3; with_reducible refine (HLp.out (((wr.alloc (.cells #[.int .i64 2, .int .i64 (-2), .int .i64 1] 3)).alloc (.cells (Array.replicate sz (.int .i64 0)) 3)).alloc (.cells #[.int .i64 0, .int .i64 1, .int .i64 (-1)] 3)).drew sz wr.heap.size (wr.heap.size + 2) (wr.heap.size + 1) (blk_drew (three_new wr #[.int .i64 2, .int .i64 (-2), .int .i64 1] (Array.replicate sz (.int .i64 0)) #[.int .i64 0, .int .i64 1, .int .i64 (-1)]).1) (blk_drew (three_new wr #[.int .i64 2, .int .i64 (-2), .int .i64 1] (Array.replicate sz (.int .i64 0)) #[.int .i64 0, .int .i64 1, .int .i64 (-1)]).2.2.1) (blk_drew (three_new wr #[.int .i64 2, .int .i64 (-2), .int .i64 1] (Array.replicate sz (.int .i64 0)) #[.int .i64 0, .int .i64 1, .int .i64 (-1)]).2.1) (by omega) (three_new wr #[.int .i64 2, .int .i64 (-2), .int .i64 1] (Array.replicate sz (.int .i64 0)) #[.int .i64 0, .int .i64 1, .int .i64 (-1)]).2.2.2.drew).mono ?_; rintro _ w10 ⟨rfl, hb10⟩; have S10 := HSb.out w10 hb10)
                    | (go_at_call 3; with_reducible refine (HLp.out (((wr.alloc (.cells #[.int .i64 0, .int .i64 1, .int .i64 (-1)] 3)).alloc (.cells #[.int .i64 2, .int .i64 (-2), .int .i64 1] 3)).alloc (.cells (Array.replicate sz (.int .i64 0)) 3)).drew sz (wr.heap.size + 1) wr.heap.size (wr.heap.size + 2) (blk_drew (three_new wr #[.int .i64 0, .int .i64 1, .int .i64 (-1)] #[.int .i64 2, .int .i64 (-2), .int .i64 1] (Array.replicate sz (.int .i64 0))).2.1) (blk_drew (three_new wr #[.int .i64 0, .int .i64 1, .int .i64 (-1)] #[.int .i64 2, .int .i64 (-2), .int .i64 1] (Array.replicate sz (.int .i64 0))).1) (blk_drew (three_new wr #[.int .i64 0, .int .i64 1, .int .i64 (-1)] #[.int .i64 2, .int .i64 (-2), .int .i64 1] (Array.replicate sz (.int .i64 0))).2.2.1) (by omega) (three_new wr #[.int .i64 0, .int .i64 1, .int .i64 (-1)] #[.int .i64 2, .int .i64 (-2), .int .i64 1] (Array.replicate sz (.int .i64 0))).2.2.2.drew).mono ?_; rintro _ w10 ⟨rfl, hb10⟩; have S10 := HSb.out w10 hb10)
                    | (go_at_call 3; with_reducible refine (HLp.out (((wr.alloc (.cells #[.int .i64 0, .int .i64 1, .int .i64 (-1)] 3)).alloc (.cells (Array.replicate sz (.int .i64 0)) 3)).alloc (.cells #[.int .i64 2, .int .i64 (-2), .int .i64 1] 3)).drew sz (wr.heap.size + 2) wr.heap.size (wr.heap.size + 1) (blk_drew (three_new wr #[.int .i64 0, .int .i64 1, .int .i64 (-1)] (Array.replicate sz (.int .i64 0)) #[.int .i64 2, .int .i64 (-2), .int .i64 1]).2.2.1) (blk_drew (three_new wr #[.int .i64 0, .int .i64 1, .int .i64 (-1)] (Array.replicate sz (.int .i64 0)) #[.int .i64 2, .int .i64 (-2), .int .i64 1]).1) (blk_drew (three_new wr #[.int .i64 0, .int .i64 1, .int .i64 (-1)] (Array.replicate sz (.int .i64 0)) #[.int .i64 2, .int .i64 (-2), .int .i64 1]).2.1) (by omega) (three_new wr #[.int .i64 0, .int .i64 1, .int .i64 (-1)] (Array.replicate sz (.int .i64 0)) #[.int .i64 2, .int .i64 (-2), .int .i64 1]).2.2.2.drew).mono ?_; rintro _ w10 ⟨rfl, hb10⟩; have S10 := HSb.out w10 hb10)
                    | (go_at_call 3; with_reducible refine (HLp.out (((wr.alloc (.cells (Array.replicate sz (.int .i64 0)) 3)).alloc (.cells #[.int .i64 2, .int .i64 (-2), .int .i64 1] 3)).alloc (.cells #[.int .i64 0, .int .i64 1, .int .i64 (-1)] 3)).drew sz (wr.heap.size + 1) (wr.heap.size + 2) wr.heap.size (blk_drew (three_new wr (Array.replicate sz (.int .i64 0)) #[.int .i64 2, .int .i64 (-2), .int .i64 1] #[.int .i64 0, .int .i64 1, .int .i64 (-1)]).2.1) (blk_drew (three_new wr (Array.replicate sz (.int .i64 0)) #[.int .i64 2, .int .i64 (-2), .int .i64 1] #[.int .i64 0, .int .i64 1, .int .i64 (-1)]).2.2.1) (blk_drew (three_new wr (Array.replicate sz (.int .i64 0)) #[.int .i64 2, .int .i64 (-2), .int .i64 1] #[.int .i64 0, .int .i64 1, .int .i64 (-1)]).1) (by omega) (three_new wr (Array.replicate sz (.int .i64 0)) #[.int .i64 2, .int .i64 (-2), .int .i64 1] #[.int .i64 0, .int .i64 1, .int .i64 (-1)]).2.2.2.drew).mono ?_; rintro _ w10 ⟨rfl, hb10⟩; have S10 := HSb.out w10 hb10)
                    | (go_at_call 3; with_reducible refine (HLp.out (((wr.alloc (.cells (Array.replicate sz (.int .i64 0)) 3)).alloc (.cells #[.int .i64 0, .int .i64 1, .int .i64 (-1)] 3)).alloc (.cells #[.int .i64 2, .int .i64 (-2), .int .i64 1] 3)).drew sz (wr.heap.size + 2) (wr.heap.size + 1) wr.heap.size (blk_drew (three_new wr (Array.replicate sz (.int .i64 0)) #[.int .i64 0, .int .i64 1, .int .i64 (-1)] #[.int .i64 2, .int .i64 (-2), .int .i64 1]).2.2.1) (blk_drew (three_new wr (Array.replicate sz (.int .i64 0)) #[.int .i64 0, .int .i64 1, .int .i64 (-1)] #[.int .i64 2, .int .i64 (-2), .int .i64 1]).2.1) (blk_drew (three_new wr (Array.replicate sz (.int .i64 0)) #[.int .i64 0, .int .i64 1, .int .i64 (-1)] #[.int .i64 2, .int .i64 (-2), .int .i64 1]).1) (by omega) (three_new wr (Array.replicate sz (.int .i64 0)) #[.int .i64 0, .int .i64 1, .int .i64 (-1)] #[.int .i64 2, .int .i64 (-2), .int .i64 1]).2.2.2.drew).mono ?_; rintro _ w10 ⟨rfl, hb10⟩; have S10 := HSb.out w10 hb10))
                all_goals
                  go_wp2_with fail
                  go_meet
                  exact ⟨rfl, hb10⟩
              case rest =>
                obtain ⟨h71, hbc⟩ := hcut
                subst h71
                have HBc := Lib.hid (HBj.out.trans (hbc.mono HBj.out.size))
                clear hbc t0 t1 t2 t3 HLp HSb HS9 HS9' HS9''
                go_wp2
                go_roundw
                case rel => exact ⟨j + 1, by omega, by go_num, HBc.out⟩
                case measure => simp [intOf]; omega
            · have hgej : ¬ (j : Int) < 6 := by omega
              have HBn := Lib.hid (HB5.out.trans (hbj.mono HB5.out.size))
              clear hbj
              go_wp2
              go_roundw
              case rel => exact ⟨i + 1, by omega, by go_num, HBn.out⟩
              case measure => simp [intOf]; omega
        · have hgei : ¬ (i : Int) < 14 := by omega
          have HBn := Lib.hid (HB1.out.trans (hbw.mono HB1.out.size))
          clear hbw
          go_wp2
          go_roundw
          case rel => exact ⟨k + 1, by omega, by go_num, HBn.out⟩
          case measure => simp [intOf]; omega
    · have hge : ¬ (k : Int) < 4 := by omega
      go_wp2
      go_loopw [8, 9] (fun n _ wr => ∃ k : Nat, k ≤ 729 ∧ n = .int .i64 k ∧ Below w.heap.size w wr) (fun n _ _ => 729 - (intOf n).toNat)
      case atStart => exact ⟨0, Nat.zero_le _, rfl, HB.out⟩
      case round =>
        clear HB
        obtain ⟨k, hk, rfl, hb⟩ := hrel
        have HB := Lib.hid hb
        clear hb
        by_cases hlt : k < 729
        · obtain ⟨m3, hm3⟩ : ∃ m : Nat, k % 3 = m := ⟨_, rfl⟩
          have hm32 : m3 ≤ 2 := by omega
          have k0 : (0 : Int) ≤ (k : Int) := by omega
          have tm : ∀ (z d : Int), 0 ≤ z → z.tmod d = z % d := fun z d hz => Int.tmod_eq_emod_of_nonneg hz
          have e3 : (k : Int).tmod 3 = (m3 : Int) := by rw [tm _ _ k0]; omega
          obtain ⟨r7, e7, b7⟩ : ∃ r, (k : Int).tmod 7 = r ∧ 0 ≤ r ∧ r ≤ 6 := ⟨_, rfl, by rw [tm _ _ k0]; omega⟩
          obtain ⟨p3, f3, q3, e33, b3⟩ : ∃ p, IntKind.i64.wrap ((k : Int) / 3) = p ∧ ∃ r, p.tmod 3 = r ∧ 0 ≤ r ∧ r ≤ 2 := ⟨_, IntWalk.i64_in _ ⟨by omega, by omega⟩, _, rfl, by rw [tm _ _ (by omega)]; omega⟩
          obtain ⟨p9, f9, q9, e9, b9⟩ : ∃ p, IntKind.i64.wrap ((k : Int) / 9) = p ∧ ∃ r, p.tmod 3 = r ∧ 0 ≤ r ∧ r ≤ 2 := ⟨_, IntWalk.i64_in _ ⟨by omega, by omega⟩, _, rfl, by rw [tm _ _ (by omega)]; omega⟩
          obtain ⟨p27, f27, q27, e27, b27⟩ : ∃ p, IntKind.i64.wrap ((k : Int) / 27) = p ∧ ∃ r, p.tmod 3 = r ∧ 0 ≤ r ∧ r ≤ 2 := ⟨_, IntWalk.i64_in _ ⟨by omega, by omega⟩, _, rfl, by rw [tm _ _ (by omega)]; omega⟩
          obtain ⟨p81, f81, q81, e81, b81⟩ : ∃ p, IntKind.i64.wrap ((k : Int) / 81) = p ∧ ∃ r, p.tmod 3 = r ∧ 0 ≤ r ∧ r ≤ 2 := ⟨_, IntWalk.i64_in _ ⟨by omega, by omega⟩, _, rfl, by rw [tm _ _ (by omega)]; omega⟩
          obtain ⟨q243, f243, b243⟩ : ∃ p, IntKind.i64.wrap ((k : Int) / 243) = p ∧ 0 ≤ p ∧ p ≤ 2 := ⟨_, IntWalk.i64_in _ ⟨by omega, by omega⟩, by omega⟩
          obtain ⟨r5, e5, b5⟩ : ∃ r, (k : Int).tmod 5 = r ∧ 0 ≤ r ∧ r ≤ 4 := ⟨_, rfl, by rw [tm _ _ k0]; omega⟩
          obtain ⟨r4, e4, b4⟩ : ∃ r, (k : Int).tmod 4 = r ∧ 0 ≤ r ∧ r ≤ 3 := ⟨_, rfl, by rw [tm _ _ k0]; omega⟩
          clear tm
          have ik : (k : Int) < 729 := by omega
          obtain ⟨w9, e9', B9, T9⟩ : ∃ w9, wr.alloc (.cells #[.int .i64 (m3 : Int), .int .i64 1, .int .i64 1, .int .i64 3] 23) = w9 ∧ Below wr.heap.size wr w9 ∧ Blk w9 wr.heap.size 23 #[.int .i64 (m3 : Int), .int .i64 1, .int .i64 1, .int .i64 3] := ⟨_, rfl, below_alloc _ _, Blk.new _ _ _⟩
          have E9 := Lib.hid e9'
          have HB9 := Lib.hid (HB.out.trans (B9.mono HB.out.size))
          have hb9 : wr.heap.size < w9.heap.size := T9.lt
          have t0 := cellOf T9 0 (x := .int .i64 (m3 : Int)) rfl
          have t1 := cellOf T9 1 (x := .int .i64 1) rfl
          have t2 := cellOf T9 2 (x := .int .i64 1) rfl
          have t3 := cellOf T9 3 (x := .int .i64 3) rfl
          have e3' : (k : Int) % 3 = (m3 : Int) := by omega
          clear hm3 e9' B9 T9
          obtain ⟨bL, hbL⟩ : ∃ b, wr.heap.size = b := ⟨_, rfl⟩
          rw [hbL] at t0 t1 t2 t3 hb9
          go_upto_region 21 with fail
          rw [E9.out]
          clear hbL
          have k1 : IntKind.i64.wrap (r7 - 3) = r7 - 3 := IntWalk.i64_in _ ⟨by omega, by omega⟩
          have k2 : IntKind.i64.wrap ((m3 : Int) - 1) = (m3 : Int) - 1 := IntWalk.i64_in _ ⟨by omega, by omega⟩
          have k3 : IntKind.i64.wrap (q3 - 1) = q3 - 1 := IntWalk.i64_in _ ⟨by omega, by omega⟩
          have k4 : IntKind.i64.wrap (q9 - 1) = q9 - 1 := IntWalk.i64_in _ ⟨by omega, by omega⟩
          have k5 : IntKind.i64.wrap (q27 - 1) = q27 - 1 := IntWalk.i64_in _ ⟨by omega, by omega⟩
          have k6 : IntKind.i64.wrap (q81 - 1) = q81 - 1 := IntWalk.i64_in _ ⟨by omega, by omega⟩
          have k7 : IntKind.i64.wrap (q243 - 1) = q243 - 1 := IntWalk.i64_in _ ⟨by omega, by omega⟩
          have k8 : IntKind.i64.wrap (r5 - 2) = r5 - 2 := IntWalk.i64_in _ ⟨by omega, by omega⟩
          have k9 : IntKind.i64.wrap ((m3 : Int) + 1) = (m3 : Int) + 1 := IntWalk.i64_in _ ⟨by omega, by omega⟩
          have n1 : (0 : Int) ≤ (m3 : Int) + 1 := by omega
          have n2 : (m3 : Int) + 1 ≤ 3 := by omega
          have n3 : ((m3 : Int) + 1).toNat = m3 + 1 := by omega
          have HLp : Hid (∀ (Y : World) (x1 x2 x3 : Nat), Blk Y x1 3 #[.int .i64 ((m3 : Int) - 1), .int .i64 (q3 - 1), .int .i64 (q9 - 1)] → Blk Y x2 3 #[.int .i64 (q27 - 1), .int .i64 (q81 - 1), .int .i64 (q243 - 1)] → Blk Y x3 3 #[.int .i64 (r5 - 2), .int .i64 r4, .int .i64 0] → Below w9.heap.size w9 Y → Calls Try.prog 3 #[.agg #[.int .i64 (m3 : Int), .int .i64 1, .int .i64 1, .int .i64 3], .int .i64 (r7 - 3), .slice (some ⟨x1, 0, none⟩) 3 3, .slice (some ⟨x2, 0, none⟩) 3 3, .slice (some ⟨x3, 0, none⟩) (m3 + 1) 3] Y fun e w' => e = .returned (.bool true) ∧ Below w9.heap.size w9 w') := Lib.hid fun Y x1 x2 x3 h1 h2 h3 hY => by
            have hn := rints_of (c := 3) (l := [(m3 : Int) - 1, q3 - 1, q9 - 1]) h1 rfl rfl (by simp)
            have hb := rints_of (c := 3) (l := [q27 - 1, q81 - 1, q243 - 1]) h2 rfl rfl (by simp)
            have hm := (rints_of (c := 3) (n := 3) (l := [r5 - 2, r4, 0]) h3 rfl rfl (by omega)).front (m3 + 1) (by omega)
            refine (Loops_any _ _ _ _ _ ⟨by omega, by omega⟩ _ _ _ _ _ _ Y hn hb hm (fun x hx => by simp at hx; omega) (fun x hx => by simp at hx; omega) (fun x hx => by have h9 := List.mem_of_mem_take hx; simp at h9; omega)).mono ?_
            rintro e w' ⟨rfl, h9⟩
            exact ⟨rfl, hY.trans (h9.mono hY.size)⟩
          have hS1 : ∀ (X : World), Below w9.heap.size w9 X → X.cell? ⟨bL, 0, none⟩ = some (.int .i64 (m3 : Int)) ∧ X.cell? ⟨bL, 1, none⟩ = some (.int .i64 1) ∧ X.cell? ⟨bL, 2, none⟩ = some (.int .i64 1) ∧ X.cell? ⟨bL, 3, none⟩ = some (.int .i64 3) := fun X hX =>
            ⟨(hX.cell (p := ⟨bL, 0, none⟩) hb9).trans t0, (hX.cell (p := ⟨bL, 1, none⟩) hb9).trans t1, (hX.cell (p := ⟨bL, 2, none⟩) hb9).trans t2, (hX.cell (p := ⟨bL, 3, none⟩) hb9).trans t3⟩
          have HS9 : Hid (∀ a b c, _) := Lib.hid fun a b c => hS1 (((w9.alloc (.cells a 3)).alloc (.cells b 3)).alloc (.cells c 3)).drew (three_new w9 a b c).2.2.2.drew
          have HS9' : Hid (∀ a b, _) := Lib.hid fun a b => hS1 ((w9.alloc (.cells a 3)).alloc (.cells b 3)).drew ((below_alloc w9 _).trans ((below_alloc _ _).mono (below_alloc w9 _).size)).drew
          have HS9'' : Hid (∀ a, _) := Lib.hid fun a => hS1 (w9.alloc (.cells a 3)).drew (below_alloc w9 _).drew
          have HSb := Lib.hid hS1
          clear hS1
          go_cut [120] (fun s wx => s = .bool false ∧ Below w9.heap.size w9 wx)
          case first =>
            go_region_held3 (fun X => X.cell? ⟨bL, 0, none⟩ = some (.int .i64 (m3 : Int)) ∧ X.cell? ⟨bL, 1, none⟩ = some (.int .i64 1) ∧ X.cell? ⟨bL, 2, none⟩ = some (.int .i64 1) ∧ X.cell? ⟨bL, 3, none⟩ = some (.int .i64 3))
              (first | exact S10 | exact HS9.out _ _ _ | exact HS9'.out _ _ | exact HS9''.out _ | go_keep)
              (first
                | (go_at_call 3; with_reducible refine (HLp.out (((w9.alloc (.cells #[.int .i64 ((m3 : Int) - 1), .int .i64 (q3 - 1), .int .i64 (q9 - 1)] 3)).alloc (.cells #[.int .i64 (q27 - 1), .int .i64 (q81 - 1), .int .i64 (q243 - 1)] 3)).alloc (.cells #[.int .i64 (r5 - 2), .int .i64 r4, .int .i64 0] 3)).drew w9.heap.size (w9.heap.size + 1) (w9.heap.size + 2) (blk_drew (three_new w9 #[.int .i64 ((m3 : Int) - 1), .int .i64 (q3 - 1), .int .i64 (q9 - 1)] #[.int .i64 (q27 - 1), .int .i64 (q81 - 1), .int .i64 (q243 - 1)] #[.int .i64 (r5 - 2), .int .i64 r4, .int .i64 0]).1) (blk_drew (three_new w9 #[.int .i64 ((m3 : Int) - 1), .int .i64 (q3 - 1), .int .i64 (q9 - 1)] #[.int .i64 (q27 - 1), .int .i64 (q81 - 1), .int .i64 (q243 - 1)] #[.int .i64 (r5 - 2), .int .i64 r4, .int .i64 0]).2.1) (blk_drew (three_new w9 #[.int .i64 ((m3 : Int) - 1), .int .i64 (q3 - 1), .int .i64 (q9 - 1)] #[.int .i64 (q27 - 1), .int .i64 (q81 - 1), .int .i64 (q243 - 1)] #[.int .i64 (r5 - 2), .int .i64 r4, .int .i64 0]).2.2.1) (three_new w9 #[.int .i64 ((m3 : Int) - 1), .int .i64 (q3 - 1), .int .i64 (q9 - 1)] #[.int .i64 (q27 - 1), .int .i64 (q81 - 1), .int .i64 (q243 - 1)] #[.int .i64 (r5 - 2), .int .i64 r4, .int .i64 0]).2.2.2.drew).mono ?_; rintro _ w10 ⟨rfl, hb10⟩; have S10 := HSb.out w10 hb10)
                | (go_at_call 3; with_reducible refine (HLp.out (((w9.alloc (.cells #[.int .i64 ((m3 : Int) - 1), .int .i64 (q3 - 1), .int .i64 (q9 - 1)] 3)).alloc (.cells #[.int .i64 (r5 - 2), .int .i64 r4, .int .i64 0] 3)).alloc (.cells #[.int .i64 (q27 - 1), .int .i64 (q81 - 1), .int .i64 (q243 - 1)] 3)).drew w9.heap.size (w9.heap.size + 2) (w9.heap.size + 1) (blk_drew (three_new w9 #[.int .i64 ((m3 : Int) - 1), .int .i64 (q3 - 1), .int .i64 (q9 - 1)] #[.int .i64 (r5 - 2), .int .i64 r4, .int .i64 0] #[.int .i64 (q27 - 1), .int .i64 (q81 - 1), .int .i64 (q243 - 1)]).1) (blk_drew (three_new w9 #[.int .i64 ((m3 : Int) - 1), .int .i64 (q3 - 1), .int .i64 (q9 - 1)] #[.int .i64 (r5 - 2), .int .i64 r4, .int .i64 0] #[.int .i64 (q27 - 1), .int .i64 (q81 - 1), .int .i64 (q243 - 1)]).2.2.1) (blk_drew (three_new w9 #[.int .i64 ((m3 : Int) - 1), .int .i64 (q3 - 1), .int .i64 (q9 - 1)] #[.int .i64 (r5 - 2), .int .i64 r4, .int .i64 0] #[.int .i64 (q27 - 1), .int .i64 (q81 - 1), .int .i64 (q243 - 1)]).2.1) (three_new w9 #[.int .i64 ((m3 : Int) - 1), .int .i64 (q3 - 1), .int .i64 (q9 - 1)] #[.int .i64 (r5 - 2), .int .i64 r4, .int .i64 0] #[.int .i64 (q27 - 1), .int .i64 (q81 - 1), .int .i64 (q243 - 1)]).2.2.2.drew).mono ?_; rintro _ w10 ⟨rfl, hb10⟩; have S10 := HSb.out w10 hb10)
                | (go_at_call 3; with_reducible refine (HLp.out (((w9.alloc (.cells #[.int .i64 (q27 - 1), .int .i64 (q81 - 1), .int .i64 (q243 - 1)] 3)).alloc (.cells #[.int .i64 ((m3 : Int) - 1), .int .i64 (q3 - 1), .int .i64 (q9 - 1)] 3)).alloc (.cells #[.int .i64 (r5 - 2), .int .i64 r4, .int .i64 0] 3)).drew (w9.heap.size + 1) w9.heap.size (w9.heap.size + 2) (blk_drew (three_new w9 #[.int .i64 (q27 - 1), .int .i64 (q81 - 1), .int .i64 (q243 - 1)] #[.int .i64 ((m3 : Int) - 1), .int .i64 (q3 - 1), .int .i64 (q9 - 1)] #[.int .i64 (r5 - 2), .int .i64 r4, .int .i64 0]).2.1) (blk_drew (three_new w9 #[.int .i64 (q27 - 1), .int .i64 (q81 - 1), .int .i64 (q243 - 1)] #[.int .i64 ((m3 : Int) - 1), .int .i64 (q3 - 1), .int .i64 (q9 - 1)] #[.int .i64 (r5 - 2), .int .i64 r4, .int .i64 0]).1) (blk_drew (three_new w9 #[.int .i64 (q27 - 1), .int .i64 (q81 - 1), .int .i64 (q243 - 1)] #[.int .i64 ((m3 : Int) - 1), .int .i64 (q3 - 1), .int .i64 (q9 - 1)] #[.int .i64 (r5 - 2), .int .i64 r4, .int .i64 0]).2.2.1) (three_new w9 #[.int .i64 (q27 - 1), .int .i64 (q81 - 1), .int .i64 (q243 - 1)] #[.int .i64 ((m3 : Int) - 1), .int .i64 (q3 - 1), .int .i64 (q9 - 1)] #[.int .i64 (r5 - 2), .int .i64 r4, .int .i64 0]).2.2.2.drew).mono ?_; rintro _ w10 ⟨rfl, hb10⟩; have S10 := HSb.out w10 hb10)
                | (go_at_call 3; with_reducible refine (HLp.out (((w9.alloc (.cells #[.int .i64 (q27 - 1), .int .i64 (q81 - 1), .int .i64 (q243 - 1)] 3)).alloc (.cells #[.int .i64 (r5 - 2), .int .i64 r4, .int .i64 0] 3)).alloc (.cells #[.int .i64 ((m3 : Int) - 1), .int .i64 (q3 - 1), .int .i64 (q9 - 1)] 3)).drew (w9.heap.size + 2) w9.heap.size (w9.heap.size + 1) (blk_drew (three_new w9 #[.int .i64 (q27 - 1), .int .i64 (q81 - 1), .int .i64 (q243 - 1)] #[.int .i64 (r5 - 2), .int .i64 r4, .int .i64 0] #[.int .i64 ((m3 : Int) - 1), .int .i64 (q3 - 1), .int .i64 (q9 - 1)]).2.2.1) (blk_drew (three_new w9 #[.int .i64 (q27 - 1), .int .i64 (q81 - 1), .int .i64 (q243 - 1)] #[.int .i64 (r5 - 2), .int .i64 r4, .int .i64 0] #[.int .i64 ((m3 : Int) - 1), .int .i64 (q3 - 1), .int .i64 (q9 - 1)]).1) (blk_drew (three_new w9 #[.int .i64 (q27 - 1), .int .i64 (q81 - 1), .int .i64 (q243 - 1)] #[.int .i64 (r5 - 2), .int .i64 r4, .int .i64 0] #[.int .i64 ((m3 : Int) - 1), .int .i64 (q3 - 1), .int .i64 (q9 - 1)]).2.1) (three_new w9 #[.int .i64 (q27 - 1), .int .i64 (q81 - 1), .int .i64 (q243 - 1)] #[.int .i64 (r5 - 2), .int .i64 r4, .int .i64 0] #[.int .i64 ((m3 : Int) - 1), .int .i64 (q3 - 1), .int .i64 (q9 - 1)]).2.2.2.drew).mono ?_; rintro _ w10 ⟨rfl, hb10⟩; have S10 := HSb.out w10 hb10)
                | (go_at_call 3; with_reducible refine (HLp.out (((w9.alloc (.cells #[.int .i64 (r5 - 2), .int .i64 r4, .int .i64 0] 3)).alloc (.cells #[.int .i64 ((m3 : Int) - 1), .int .i64 (q3 - 1), .int .i64 (q9 - 1)] 3)).alloc (.cells #[.int .i64 (q27 - 1), .int .i64 (q81 - 1), .int .i64 (q243 - 1)] 3)).drew (w9.heap.size + 1) (w9.heap.size + 2) w9.heap.size (blk_drew (three_new w9 #[.int .i64 (r5 - 2), .int .i64 r4, .int .i64 0] #[.int .i64 ((m3 : Int) - 1), .int .i64 (q3 - 1), .int .i64 (q9 - 1)] #[.int .i64 (q27 - 1), .int .i64 (q81 - 1), .int .i64 (q243 - 1)]).2.1) (blk_drew (three_new w9 #[.int .i64 (r5 - 2), .int .i64 r4, .int .i64 0] #[.int .i64 ((m3 : Int) - 1), .int .i64 (q3 - 1), .int .i64 (q9 - 1)] #[.int .i64 (q27 - 1), .int .i64 (q81 - 1), .int .i64 (q243 - 1)]).2.2.1) (blk_drew (three_new w9 #[.int .i64 (r5 - 2), .int .i64 r4, .int .i64 0] #[.int .i64 ((m3 : Int) - 1), .int .i64 (q3 - 1), .int .i64 (q9 - 1)] #[.int .i64 (q27 - 1), .int .i64 (q81 - 1), .int .i64 (q243 - 1)]).1) (three_new w9 #[.int .i64 (r5 - 2), .int .i64 r4, .int .i64 0] #[.int .i64 ((m3 : Int) - 1), .int .i64 (q3 - 1), .int .i64 (q9 - 1)] #[.int .i64 (q27 - 1), .int .i64 (q81 - 1), .int .i64 (q243 - 1)]).2.2.2.drew).mono ?_; rintro _ w10 ⟨rfl, hb10⟩; have S10 := HSb.out w10 hb10)
                | (go_at_call 3; with_reducible refine (HLp.out (((w9.alloc (.cells #[.int .i64 (r5 - 2), .int .i64 r4, .int .i64 0] 3)).alloc (.cells #[.int .i64 (q27 - 1), .int .i64 (q81 - 1), .int .i64 (q243 - 1)] 3)).alloc (.cells #[.int .i64 ((m3 : Int) - 1), .int .i64 (q3 - 1), .int .i64 (q9 - 1)] 3)).drew (w9.heap.size + 2) (w9.heap.size + 1) w9.heap.size (blk_drew (three_new w9 #[.int .i64 (r5 - 2), .int .i64 r4, .int .i64 0] #[.int .i64 (q27 - 1), .int .i64 (q81 - 1), .int .i64 (q243 - 1)] #[.int .i64 ((m3 : Int) - 1), .int .i64 (q3 - 1), .int .i64 (q9 - 1)]).2.2.1) (blk_drew (three_new w9 #[.int .i64 (r5 - 2), .int .i64 r4, .int .i64 0] #[.int .i64 (q27 - 1), .int .i64 (q81 - 1), .int .i64 (q243 - 1)] #[.int .i64 ((m3 : Int) - 1), .int .i64 (q3 - 1), .int .i64 (q9 - 1)]).2.1) (blk_drew (three_new w9 #[.int .i64 (r5 - 2), .int .i64 r4, .int .i64 0] #[.int .i64 (q27 - 1), .int .i64 (q81 - 1), .int .i64 (q243 - 1)] #[.int .i64 ((m3 : Int) - 1), .int .i64 (q3 - 1), .int .i64 (q9 - 1)]).1) (three_new w9 #[.int .i64 (r5 - 2), .int .i64 r4, .int .i64 0] #[.int .i64 (q27 - 1), .int .i64 (q81 - 1), .int .i64 (q243 - 1)] #[.int .i64 ((m3 : Int) - 1), .int .i64 (q3 - 1), .int .i64 (q9 - 1)]).2.2.2.drew).mono ?_; rintro _ w10 ⟨rfl, hb10⟩; have S10 := HSb.out w10 hb10))
            all_goals
              go_wp2_with fail
              go_meet
              exact ⟨rfl, hb10⟩
          case rest =>
            obtain ⟨h120, hbc⟩ := hcut
            subst h120
            have HBc := Lib.hid (HB9.out.trans (hbc.mono HB9.out.size))
            clear hbc t0 t1 t2 t3 HLp
            go_wp2
            go_roundw
            case rel => exact ⟨k + 1, by omega, by go_num, HBc.out⟩
            case measure => simp [intOf]; omega
        · have hge : ¬ (k : Int) < 729 := by omega
          obtain ⟨w1, e1, B1, T1⟩ : ∃ w1, wr.alloc (.cells #[.int .i64 0, .int .i64 10, .int .i64 20, .int .i64 30, .int .i64 40, .int .i64 50, .int .i64 60, .int .i64 70, .int .i64 80, .int .i64 90, .int .i64 100, .int .i64 110, .int .i64 120] 3) = w1 ∧ Below wr.heap.size wr w1 ∧ Blk w1 wr.heap.size 3 #[.int .i64 0, .int .i64 10, .int .i64 20, .int .i64 30, .int .i64 40, .int .i64 50, .int .i64 60, .int .i64 70, .int .i64 80, .int .i64 90, .int .i64 100, .int .i64 110, .int .i64 120] := ⟨_, rfl, below_alloc _ _, Blk.new _ _ _⟩
          have E1 := Lib.hid e1
          have HT1 := Lib.hid T1
          have HB1 := Lib.hid (HB.out.trans (B1.mono HB.out.size))
          obtain ⟨bT, hbT⟩ : ∃ b, wr.heap.size = b := ⟨_, rfl⟩
          rw [hbT] at HT1
          clear e1 B1 T1
          go_upto_region 24 with fail
          rw [E1.out]
          clear hbT
          go_wp2
          go_loopw [11, 12, 13] (fun n _ _ wq => ∃ k : Nat, k ≤ 14 ∧ n = .int .i64 k ∧ Below w1.heap.size w1 wq) (fun n _ _ _ => 14 - (intOf n).toNat)
          case atStart => exact ⟨0, Nat.zero_le _, rfl, Below.refl _ _⟩
          case round =>
            obtain ⟨k, hk, rfl, hb⟩ := hrel
            have HB1w := Lib.hid hb
            have HB2 := Lib.hid (HB1.out.trans (hb.mono HB1.out.size))
            have HT2 := Lib.hid (HT1.out.below hb HT1.out.lt)
            clear hb
            by_cases hlt : k < 14
            · obtain ⟨w4, hw4⟩ : ∃ X, X = wr := ⟨_, rfl⟩
              subst hw4
              obtain ⟨i0, hi0, hz0, hz1, hz2⟩ := info_parts infoInt0
              have ik : (k : Int) < 14 := by omega
              have h1w := HT1.out.lt
              go_wp2
              go_loopw [12, 13] (fun u jq wq => ∃ (j : Nat) (l : List Int), j ≤ 3 * k ∧ jq = .int .i64 j ∧ l.length = j ∧ OInts w4.heap.size wq u l ∧ Below w4.heap.size w4 wq) (fun _ jq _ => 3 * k - (intOf jq).toNat)
              case atStart => exact ⟨0, [], Nat.zero_le _, rfl, rfl, World.ownsRow_nil _ _ _ _, Below.refl _ _⟩
              case round =>
                obtain ⟨j, l, hj, rfl, hl, ho, hb4⟩ := hrel
                obtain ⟨Au, cu, rfl⟩ : ∃ A c, u12 = .slice A j c := by
                  obtain ⟨A, c, e⟩ := ownsRow_form ho
                  exact ⟨A, c, by rw [e, hl]⟩
                have HO := Lib.hid ho
                have HB4 := Lib.hid hb4
                have HL := Lib.hid hl
                have hz4 := hb4.size
                clear ho hb4 hl
                by_cases hlt2 : j < 3 * k
                · have ij : (j : Int) < (k : Int) * 3 := by omega
                  have HR : Hid (wr.ownsRow w4.heap.size 3 1 (.slice Au j cu) j (l.map (Value.int .i64))) := Lib.hid (by
                    have h9 := HO.out
                    unfold OInts at h9
                    rw [HL.out] at h9
                    exact h9)
                  obtain ⟨z, hz⟩ : ∃ z, -100000 + (j : Int) * 7500 = z := ⟨_, rfl⟩
                  have kz : IntKind.i64.wrap (-100000 + (j : Int) * 7500) = z := by rw [← hz]; exact IntWalk.i64_in _ ⟨by omega, by omega⟩
                  have HZ := Lib.hid hz
                  clear hz
                  go_wp2_with (at_builtin; refine wpList_append_lies _ rfl _ _ 24 rfl w4.heap.size 3 i0 _ 1 8 sliceInts hi0 hz0 hz1 hz2 rfl (by decide) (.slice Au j cu) j _ rfl (HR.out.alloc _) ⟨wr.heap.size, 0, none⟩ 1 1 [.int .i64 _] rfl rfl (cells_new _ _ _) (by simp [Value.oneCell']) (by omega) (by simp only [maxLen]; omega) (by omega) (by simp; omega) (wr.heap.size + 1) (by simp) ?_; intro g8 c8 w7 hown hgrow hat hlt7; have HN7 : Hid (∃ l', l'.length = j + 1 ∧ OInts w4.heap.size w7 (.slice (some ⟨g8, 0, none⟩) (j + 1) c8) l' ∧ Below w4.heap.size w4 w7) := Lib.hid ⟨l ++ [_], by rw [List.length_append, HL.out]; rfl, by unfold OInts; rw [List.map_append, List.length_append, HL.out]; exact hown, (HB4.out.alloc hz4 _).grown hgrow (by simp; omega) fun j hj => (HR.out.lt j hj).1⟩; clear hown hgrow hat hlt7)
                  go_roundw
                  case rel => obtain ⟨l', h1, h2, h3⟩ := HN7.out; exact ⟨j + 1, l', by omega, by go_num, h1, h2, h3⟩
                  case measure => simp [intOf]; omega
                · have hlt3 : ¬ (j : Int) < (k : Int) * 3 := by omega
                  have hT4 := HT2.out.below HB4.out HT2.out.lt
                  have hten : RInts wr.heap.size wr (.slice (some ⟨bT, 0, none⟩) 13 13) [0, 10, 20, 30, 40, 50, 60, 70, 80, 90, 100, 110, 120] := rints_of (l := [0, 10, 20, 30, 40, 50, 60, 70, 80, 90, 100, 110, 120]) hT4 rfl rfl (by omega)
                  have hk13 : k ≤ 13 := by omega
                  have hpre := hten.front k hk13
                  have hsn : RInts wr.heap.size wr (.slice Au j cu) l := by
                    have h9 := Rd.own HO.out (own_le HO.out)
                    rw [HL.out] at h9
                    show Rd _ _ _ _ l.length _
                    rw [HL.out]
                    exact h9
                  have hkl : (([0, 10, 20, 30, 40, 50, 60, 70, 80, 90, 100, 110, 120] : List Int).take k).length = k := by rw [List.length_take]; simp; omega
                  obtain ⟨m4, hm4⟩ : ∃ m, (k : Int) % 4 = m := ⟨_, rfl⟩
                  have C1 := Lib.hid (Matches_any _ _ _ m4 _ wr hpre hsn)
                  have HPre := Lib.hid hpre
                  have HTen := Lib.hid hten
                  have ik13 : (k : Int) ≤ 13 := by omega
                  have ik0 : (0 : Int) ≤ (k : Int) := by omega
                  have HBw := Lib.hid (HB2.out.trans (HB4.out.mono HB2.out.size))
                  clear hT4 hten hpre hsn hkl
                  go_wp2_with fail
                  refine C1.out.mono ?_
                  rintro _ w5 ⟨rfl, hb5⟩
                  have HB5 := Lib.hid hb5
                  have C2 := Lib.hid (Matches_any _ _ _ 1 _ w5 ((HPre.out.below hb5).more hb5.size) ((HTen.out.below hb5).more hb5.size))
                  clear C1 hb5 hm4
                  go_wp2_with fail
                  refine C2.out.mono ?_
                  rintro _ w6 ⟨rfl, hb6⟩
                  have HB6 := Lib.hid (HB5.out.trans (hb6.mono HB5.out.size))
                  have C3 := Lib.hid (match_two w6 ((k : Int) * 80) 0 100000 (2000 - (k : Int)) 102000)
                  clear C2 hb6
                  go_wp2_with fail
                  refine C3.out.mono ?_
                  rintro _ w7 ⟨rfl, hb7⟩
                  have HB7 := Lib.hid (HB6.out.trans (hb7.mono HB6.out.size))
                  clear C3 hb7
                  have C4 := Lib.hid (fun a b c d m => match_two w7 m a b c d)
                  go_wp2_with fail
                  refine (C4.out _ _ _ _ _).mono ?_
                  rintro _ w8 ⟨rfl, hb8⟩
                  have HB8 := Lib.hid (HB7.out.trans (hb8.mono HB7.out.size))
                  have HBx : Hid (Below w1.heap.size w1 w8) := Lib.hid (HB1w.out.trans ((HB4.out.trans (HB8.out.mono hz4)).mono HB1w.out.size))
                  clear C4 hb8
                  go_wp2
                  go_roundw
                  case rel => exact ⟨k + 1, by omega, by go_num, HBx.out⟩
                  case measure => simp [intOf]; omega
            · have hge : ¬ (k : Int) < 14 := by omega
              -- the desk
              obtain ⟨w3, hw3⟩ : ∃ X, X = wr := ⟨_, rfl⟩
              subst hw3
              have hz3 : w.heap.size ≤ w3.heap.size := HB2.out.size
              have HNew := Lib.hid (small_new w3)
              go_upto_region 34 with fail
              go_wp2_with fail
              refine HNew.out.mono ?_
              rintro _ w4 ⟨D, rfl, hst⟩
              have HST := Lib.hid hst
              clear hst HNew HT1 HT2
              go_wp2
              go_loopw [16, 17, 18, 19, 20] (fun n _ _ _ _ wq => ∃ i : Nat, i ≤ 5000 ∧ n = .int .i64 i ∧ SmSt w3 D i wq) (fun n _ _ _ _ _ => 5000 - (intOf n).toNat)
              case atStart => exact ⟨0, Nat.zero_le _, rfl, HST.out⟩
              case round =>
                clear HST
                obtain ⟨i, hi, rfl, hst⟩ := hrel
                have HST := Lib.hid hst
                by_cases hlt : i < 5000
                · have ii : (i : Int) < 5000 := by omega
                  by_cases hm : i % 1000 = 0
                  · obtain ⟨j, hj⟩ : ∃ j, i / 1000 % 3 = j := ⟨_, rfl⟩
                    have hj3 : j ≤ 2 := by omega
                    have hji : (i : Int) / 1000 % 3 = (j : Int) := by omega
                    obtain ⟨w5, e5, B5, T5⟩ : ∃ w5, wr.alloc (.cells #[.int .i64 0, .int .i64 (10 + (j : Int))] 3) = w5 ∧ Below wr.heap.size wr w5 ∧ Blk w5 wr.heap.size 3 #[.int .i64 0, .int .i64 (10 + (j : Int))] := ⟨_, rfl, below_alloc _ _, Blk.new _ _ _⟩
                    have hv : RInts w5.heap.size w5 (.slice (some ⟨wr.heap.size, 0, none⟩) 2 2) [0, 10 + (j : Int)] := ⟨_, 2, rfl, rfl, by simp [maxLen], fun _ => ⟨wr.heap.size, 0, rfl, T5.lt, fun j u hu => by rw [T5.cell, Nat.zero_add]; simpa using hu⟩⟩
                    have CR := Lib.hid (small_reads (hst.still B5) hlt (.slice (some ⟨wr.heap.size, 0, none⟩) 2 2) [0, 10 + (j : Int)] hv 0 (.inr ⟨by rw [hj], rfl, hm⟩))
                    have E5 := Lib.hid e5
                    have hm1 : (i : Int) % 1000 = 0 := by omega
                    clear hst hm hj e5 B5 T5 hv
                    go_upto_region 44 with fail
                    rw [E5.out]
                    go_wp2_with fail
                    refine CR.out.mono ?_
                    rintro _ w6 ⟨g, sh, A, n, c, A', n', c', rfl, hst5⟩
                    have HST5 := Lib.hid (fun o => hst5.still (below_alloc w6 o))
                    clear hst5 CR
                    go_wp2
                    go_roundw
                    case rel => exact ⟨i + 1, by omega, by go_num, HST5.out _⟩
                    case measure => simp [intOf]; omega
                  · have CR := Lib.hid (small_reads hst hlt (.slice none 0 0) [] Rd.nil 4 (.inl ⟨rfl, rfl, hm⟩))
                    have hm1 : ¬ (i : Int) % 1000 = 0 := by omega
                    have hm2 : ((i : Int) % 1000 == 0) = false := by simpa using hm1
                    clear hst hm
                    go_wp2_with fail
                    refine CR.out.mono ?_
                    rintro _ w5 ⟨g, sh, A, n, c, A', n', c', rfl, hst5⟩
                    have HST5 := Lib.hid (fun o => hst5.still (below_alloc w5 o))
                    clear hst5 CR
                    go_wp2
                    go_roundw
                    case rel => exact ⟨i + 1, by omega, by go_num, HST5.out _⟩
                    case measure => simp [intOf]; omega
                · have hge : ¬ (i : Int) < 5000 := by omega
                  have hst0 : SmSt w3 D 5000 wr := by
                    have hi9 : i = 5000 := by omega
                    rw [hi9] at hst
                    exact hst
                  have CF := Lib.hid (small_full hst0)
                  clear hst0
                  clear hst
                  go_wp2_with fail
                  refine CF.out.mono ?_
                  rintro _ w5 ⟨g, sh, A, n, c, A', n', c', rfl, hst5⟩
                  have CW := Lib.hid (small_waste hst5)
                  have hb5 := hst5.below
                  have HB5 := Lib.hid hb5
                  clear hst5 CF hb5
                  go_wp2_with fail
                  refine CW.out.mono ?_
                  rintro _ w6 ⟨rfl, hb6⟩
                  have HB6 := Lib.hid (HB2.out.trans ((HB5.out.trans (hb6.mono HB5.out.size)).mono hz3))
                  clear hb6 CW
                  obtain ⟨w7, e7, B7, T7, P7⟩ : ∃ w7, (w6.alloc (.cells #[.slice none 0 0, .int .i64 0, .pointer none, .slice none 0 0, .int .i64 0, .slice none 0 0] 90)).alloc (.cells #[.pointer none, .pointer (some ⟨w6.heap.size, 0, none⟩)] 63) = w7 ∧ Below w6.heap.size w6 w7 ∧ Blk w7 w6.heap.size 90 #[.slice none 0 0, .int .i64 0, .pointer none, .slice none 0 0, .int .i64 0, .slice none 0 0] ∧ Blk w7 (w6.heap.size + 1) 63 #[.pointer none, .pointer (some ⟨w6.heap.size, 0, none⟩)] :=
                    ⟨_, rfl, (below_alloc _ _).trans ((below_alloc _ _).mono (by simp)), (Blk.new _ _ _).alloc _, blk_new (by simp) _ _⟩
                  have E7 := Lib.hid e7
                  have HB7 := Lib.hid (HB6.out.trans (B7.mono HB6.out.size))
                  have HT7 := Lib.hid T7
                  have HP7 := Lib.hid P7
                  clear e7 B7 T7 P7
                  go_wp2
                  rw [E7.out]
                  go_loopw [24, 25, 26, 27, 28, 29, 30, 236] (fun _ _ _ _ _ _ _ iq wq => ∃ j : Nat, j ≤ 2 ∧ iq = .int .i64 j ∧ Below w7.heap.size w7 wq) (fun _ _ _ _ _ _ _ iq _ => 2 - (intOf iq).toNat)
                  case atStart => exact ⟨0, Nat.zero_le _, rfl, Below.refl _ _⟩
                  case round =>
                    obtain ⟨j, hj, rfl, hb8⟩ := hrel
                    have HB8 := Lib.hid (HB7.out.trans (hb8.mono HB7.out.size))
                    by_cases hlt : j < 2
                    · have hP8 := HP7.out.below hb8 HP7.out.lt
                      have hT8 := HT7.out.below hb8 HT7.out.lt
                      obtain ⟨p, hp, hno⟩ : ∃ p, wr.cell? ⟨w6.heap.size + 1, j, none⟩ = some p ∧ NoDesk p wr := by
                        rcases (show j = 0 ∨ j = 1 by omega) with rfl | rfl
                        · exact ⟨_, cellOf hP8 0 (x := .pointer none) rfl, .inl rfl⟩
                        · exact ⟨_, cellOf hP8 1 (x := .pointer (some ⟨w6.heap.size, 0, none⟩)) rfl, .inr ⟨_, rfl, hT8.lt, cellOf hT8 2 rfl⟩⟩
                      have ij : (j : Int) < 2 := by omega
                      have CRn := Lib.hid (Read_not p wr hno)
                      have HNo := Lib.hid hno
                      have HB8q := Lib.hid hb8
                      clear hP8 hT8 hno hb8
                      go_wp2_with fail
                      refine CRn.out.mono ?_
                      rintro _ w9 ⟨rfl, hb9⟩
                      obtain ⟨w10, e10, B10, T10⟩ : ∃ w10, w9.alloc (.cells #[.bool false, .int .i64 0, .slice none 0 0, .slice none 0 0] 72) = w10 ∧ Below w9.heap.size w9 w10 ∧ Blk w10 w9.heap.size 72 #[.bool false, .int .i64 0, .slice none 0 0, .slice none 0 0] := ⟨_, rfl, below_alloc _ _, Blk.new _ _ _⟩
                      have hb10 := hb9.trans (B10.mono hb9.size)
                      have CCn := Lib.hid (Copies_not p w10 (HNo.out.below hb10))
                      have CWn := Lib.hid (Waste_not p w10 (HNo.out.below hb10))
                      have HB10 := Lib.hid (HB8q.out.trans (hb10.mono HB8q.out.size))
                      have E10 := Lib.hid e10
                      have t2 := cellOf T10 2 (x := .slice none 0 0) rfl
                      clear hb9 e10 B10 T10 hb10 CRn
                      go_upto_region 55 with fail
                      rw [E10.out]
                      go_wp2_with fail
                      refine CCn.out.mono ?_
                      rintro _ _ ⟨rfl, rfl⟩
                      go_wp2_with fail
                      refine CWn.out.mono ?_
                      rintro _ _ ⟨rfl, rfl⟩
                      go_wp2
                      go_roundw
                      case rel => exact ⟨j + 1, by omega, by go_num, HB10.out⟩
                      case measure => simp [intOf]; omega
                    · have hge : ¬ (j : Int) < 2 := by omega
                      have CA9 := Lib.hid (CA.out wr)
                      clear hb8
                      go_wp2_with fail
                      refine CA9.out.mono ?_
                      rintro en w20 ⟨rfl, hb20⟩
                      go_wp2
                      go_ret
                      exact ⟨rfl, HB8.out.trans (hb20.mono HB8.out.size)⟩
end Go.Proofs.Ytffodgpafiifcaa
namespace Go.Proofs.Ytffodgpafiifcaa
open Go.ChangeShapes Go.WideShapes Go.ChangeAt Go.RowKit Go.Joins Go.Deep

set_option maxRecDepth 100000 in
theorem small_contract (H : Type) (enc : TypeId × Value → H) (W : World) (args : Array Value) (ds gs : List (DataW H)) (before : List MemPlace)
    (hW : DataW.Whole enc Try.prog Try.f6.params.toList Rows.registerSmallSpec.vars false W args.toList ds gs before) :
    Calls Try.prog 6 args W fun e W' => ∃ v, e = .returned v ∧ Rows.registerSmallSpec.post enc Try.prog Try.f6 false true false false W args v W' := by
  have hW' := hW
  obtain ⟨p, q, hA0, hV, rfl, hfz, hnd⟩ := hW
  have hA : DataW.TrodAll enc Try.prog W 0 (fun _ => true) true Try.f6.params.toList args.toList ds p := hA0
  rw [Try.params6] at hA
  obtain ⟨h9, rfl, rfl⟩ := trodAll_nil hA
  obtain rfl : args = #[] := by cases args; simp_all
  obtain ⟨rfl, rfl⟩ := trodVars_none hV
  refine (Small_any W).mono fun e W' ⟨he, hnx⟩ => ?_
  subst he
  exact ⟨_, rfl, _, _, _, [], [], [], hW', trodAll_cons_mk (shut_bool Try.underlying4 _) trodAll_mk0, trodAll_mk0, rfl, hnx.frame _, fun h => by cases h⟩

set_option maxRecDepth 100000 in
theorem small_lifted (os : Os) (started : os.Started) (H : Type) (enc : TypeId × Value → H) :
    ReturnsInHanded {} Try.checked os 6 .any (Rows.registerSmallSpec.pre6 enc Try.prog Try.f6 Rows.registerSmallRow.domain false) (Rows.registerSmallSpec.post enc Try.prog Try.f6 false true false false) := by
  refine returnsInHanded_of_change (C := Try.checked) ownN started (by kernel_rfl) Try.func6
    (ChangeSpec.witness6 (enc := enc) (C := Try.checked) false ⟨#[], #[], []⟩ 8 (by kernel_rfl) (by kernel_rfl) (by kernel_rfl) (by kernel_rfl)) ?_
  intro W base args ds gs before hval hW _ _
  exact small_contract H enc W args ds gs before hW

theorem small_proved : Rows.RegisterSmallSaid :=
  OpenClaim.holds_of_wide 6 Try.f6 rfl rfl rfl rfl rfl rfl rfl ⟨rfl, rfl, rfl, rfl, rfl⟩ rfl rfl rfl rfl rfl (by kernel_rfl) Try.func6 (by kernel_rfl)
    (of_decide_eq_true (by kernel_rfl)) (by unfold Func.isWrapper; first | (rw [if_pos (by decide +kernel)]; kernel_rfl) | (rw [if_neg (by decide +kernel)]; exact ⟨rfl, rfl⟩))
    (fun os started H enc _ => small_lifted os started H enc)
#print axioms small_proved
end Go.Proofs.Ytffodgpafiifcaa
