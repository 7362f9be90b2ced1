/-
  ReelMills: the walk.
-/
import Derived.WalkLawsBesides
import Derived.Test.YtpkepacbondopaaGb
import Derived.Test.YtpkepacbondopaaOb
import Derived.Test.YtpkepacbondopaaOc
import Derived.Test.YtpkepacbondopaaZl
namespace Go.Proofs.Ytpkepacbondopaa
open Go.RowKit Go.Shelf
attribute [local go_sem] Oper.semAt_some

def needL (l : List Int) (k : Nat) : List Int := (l.take k).map fun x => x.tmod 60
theorem needL_next {l : List Int} {k : Nat} {x : Int} (h : l[k]? = some x) : needL l (k + 1) = needL l k ++ [x.tmod 60] := by
  unfold needL
  rw [take_snoc_get h, List.map_append]
  rfl
theorem needL_len {l : List Int} {k : Nat} (h : k ≤ l.length) : (needL l k).length = k := by unfold needL; simp; omega
def mlSup (need order : List Int) (kp rm : Int) (n : Nat) : SupD := ⟨needL need n, order.take n, kp % 8, rm⟩
theorem mlSup_check {need order : List Int} {kp rm : Int} {n : Nat} (hn : Bytes need) (ho : Bytes order) (h1 : 1 ≤ n) (h2 : n ≤ 12) (h3 : n ≤ need.length) (h4 : n ≤ order.length) (hr : 0 ≤ rm ∧ rm ≤ 255) : checkS (mlSup need order kp rm n) = 0 := by
  have e1 : (mlSup need order kp rm n).need.length = n := needL_len h3
  have e2 : (mlSup need order kp rm n).order.length = n := by show (order.take n).length = n; simp; omega
  have hk0 : 0 ≤ kp % 8 := Int.emod_nonneg _ (by omega)
  have hk1 : kp % 8 < 8 := Int.emod_lt_of_pos _ (by omega)
  have hw : ∀ k, k < n → weekB (mlSup need order kp rm n) k = true := fun k hk => by
    obtain ⟨x, hx⟩ : ∃ x, need[k]? = some x := ⟨_, List.getElem?_eq_getElem (by omega)⟩
    obtain ⟨y, hy⟩ : ∃ y, order[k]? = some y := ⟨_, List.getElem?_eq_getElem (by omega)⟩
    have g1 : (mlSup need order kp rm n).need.getD k 0 = x.tmod 60 := by
      show (needL need n).getD k 0 = _
      unfold needL
      rw [List.getD_eq_getElem?_getD, List.getElem?_map, List.getElem?_take_of_lt hk, hx]
      rfl
    have g2 : (mlSup need order kp rm n).order.getD k 0 = y := by
      show (order.take n).getD k 0 = _
      rw [List.getD_eq_getElem?_getD, List.getElem?_take_of_lt hk, hy]
      rfl
    have b1 := hn x (List.mem_of_getElem? hx)
    have b2 := ho y (List.mem_of_getElem? hy)
    have t1 : x.tmod 60 = x % 60 := Int.tmod_eq_emod_of_nonneg b1.1
    have t2 : 0 ≤ x % 60 := Int.emod_nonneg _ (by omega)
    have t3 : x % 60 < 60 := Int.emod_lt_of_pos _ (by omega)
    unfold weekB
    rw [g1, g2, t1, within_t (by omega) (by omega), within_t (by omega) (by omega)]
    rfl
  have c1 : (withinB ((mlSup need order kp rm n).need.length : Int) 1 20 && decide ((mlSup need order kp rm n).order.length = (mlSup need order kp rm n).need.length)) = true := by
    rw [e1, e2, within_t (by omega) (by omega)]
    simp
  have c2 : (withinB (mlSup need order kp rm n).keep 0 1000 && withinB (mlSup need order kp rm n).room 0 100000) = true := by
    show (withinB (kp % 8) 0 1000 && withinB rm 0 100000) = true
    rw [within_t (by omega) (by omega), within_t (by omega) (by omega)]
    rfl
  have c3 : (List.range (mlSup need order kp rm n).need.length).all (weekB (mlSup need order kp rm n)) = true := List.all_eq_true.2 fun k hk => hw k (by rw [e1] at hk; exact List.mem_range.1 hk)
  unfold checkS
  rw [if_pos c1, if_pos c2, if_pos c3]
theorem MlSt.start {w : World} (Sb : Nat) (kp rm : Int) (h : Blk w Sb 33 #[.slice none 0 0, .slice none 0 0, .int .i64 kp, .int .i64 rm]) {w0 : World} (hl : Below w0.heap.size w0 w) (hs : w0.heap.size ≤ Sb) : MlSt w0 Sb kp rm (.slice none 0 0) (.slice none 0 0) (.slice none 0 0) (.slice none 0 0) [] [] w :=
  ⟨hl, hs, h, World.ownsRow_nil _ _ _ _, World.ownsRow_nil _ _ _ _, fun g h => by cases h⟩
theorem own_cap {w : World} {base k n c : Nat} {e : TypeId} {A : Option Addr} {xs : List Value} (h : w.ownsRow base e k (.slice A n c) n xs) : n ≤ c := by
  rcases h.2 with ⟨h1, -⟩ | ⟨g', cap', cur, h1, -, -, h2, -⟩
  · cases h1; omega
  · cases h1; exact h2
theorem Incr.len {m : Nat} : ∀ {l : List Nat} {a : Nat}, Incr m a l → a + l.length < m
  | [], _, h => h
  | _ :: l, _, h => by
    have := Incr.len h.2
    have := h.1
    rw [List.length_cons]
    omega
def Two9 (s : SupD) (l : List Int) (x : Int) (w : World) (e : Ending) (w' : World) : Prop := ∃ A c, e = .returned (.tuple #[.slice A l.length c, .int .i64 x, .int .i64 0]) ∧ OInts w.heap.size w' (.slice A l.length c) l ∧ Below w.heap.size w w'
def One9 (l : List Int) (w : World) (e : Ending) (w' : World) : Prop := ∃ A c, e = .returned (.tuple #[.slice A l.length c, .int .i64 0]) ∧ OInts w.heap.size w' (.slice A l.length c) l ∧ Below w.heap.size w w'
theorem sched9 (s : SupD) (hc : checkS s = 0) (v : Value) (w : World) (h : RSup w.heap.size w v s) : Calls Try.prog 33 #[v] w (Two9 s (weeksOf s) (cheapOf s) w) := by
  refine (Schedule_any s v w h).mono ?_
  rintro e w' ⟨u, rfl, h1, h2⟩
  rw [if_pos hc] at h1
  obtain ⟨A, c, rfl⟩ := ownsRow_form h1
  exact ⟨A, c, by rw [hc, if_pos rfl], h1, h2⟩
theorem prices9 (s : SupD) (hc : checkS s = 0) (v : Value) (w : World) (h : RSup w.heap.size w v s) : Calls Try.prog 34 #[v] w (One9 (priceL s) w) := by
  refine (Prices_any s v w h).mono ?_
  rintro e w' ⟨u, rfl, h1, h2⟩
  rw [if_pos hc] at h1
  obtain ⟨A, c, rfl⟩ := ownsRow_form h1
  exact ⟨A, c, by rw [hc]; rfl, h1, h2⟩
theorem proves9 (s : SupD) (hc : checkS s = 0) (v u : Value) (w : World) (h : RSup w.heap.size w v s) (hu : RInts w.heap.size w u (priceL s)) : Calls Try.prog 35 #[v, u] w fun e w' => e = .returned (.tuple #[.int .i64 (cheapOf s), .int .i64 0]) ∧ Below w.heap.size w w' := by
  have hs := checkS_ok hc
  refine (Proves_ok s hc _ (priceL_prices hs) v u w h hu).mono ?_
  rintro e w' ⟨⟨-, rfl⟩ | ⟨h1, -⟩, h2⟩
  · exact ⟨by rw [price_cheap hs], h2⟩
  · exact absurd (priceL_fea hs) h1
/-- What Cost answers for increasing weeks. -/
def CostR9 (s : SupD) (l : List Nat) (w : World) (e : Ending) (w' : World) : Prop := ((∃ x, costFrom s 0 l = some x ∧ e = .returned (.tuple #[.int .i64 x, .int .i64 0])) ∨ (costFrom s 0 l = none ∧ e = .returned (.tuple #[.int .i64 0, .int .i64 9]))) ∧ Below w.heap.size w w'
theorem cost9 (s : SupD) (hc : checkS s = 0) (l : List Nat) (hi : Incr s.need.length 0 l) (v : Value) (A : Option Addr) (c n : Nat) (hn : l.length + 1 = n) (w : World) (h : RSup w.heap.size w v s) (hu : w.ownsRow 0 3 1 (.slice A n c) n ((((0 :: l : List Nat)).map fun n : Nat => (n : Int)).map (Value.int .i64))) :
    Calls Try.prog 36 #[v, .slice A n c] w (CostR9 s l w) := by
  have hs := checkS_ok hc
  obtain ⟨-, hx⟩ := sched_incr hi
  have hlen : ((((0 :: l : List Nat)).map fun n : Nat => (n : Int))).length = n := by simp; omega
  have hl9 := Incr.len hi
  have hw9 := hs.weeks
  have hR : RInts w.heap.size w (.slice A n c) (((0 :: l : List Nat)).map fun n : Nat => (n : Int)) := by
    show Rd _ _ _ _ _ _
    rw [hlen]
    exact Rd.own hu (own_le hu)
  refine (Cost_ok s hc _ (sched_ok hi) hx (by rw [hlen]; omega) v _ w h hR (fun A' n' c' e => by cases e; exact own_cap hu)).mono ?_
  rintro e w' ⟨rfl, h2⟩
  refine ⟨?_, h2⟩
  have h3 := (cF_cost (s := s) l 0).2
  by_cases hf : (cF s s.need.length (((0 :: l : List Nat)).map fun n : Nat => (n : Int))).1 = true
  · rw [if_pos hf] at h3
    exact .inl ⟨_, h3, by rw [if_pos hf]⟩
  · rw [if_neg hf] at h3
    exact .inr ⟨h3, by rw [if_neg hf]⟩
theorem cheap_le {s : SupD} (hs : s.Ok) {l : List Nat} {x : Int} (hi : Incr s.need.length 0 l) (h : costFrom s 0 l = some x) : cheapOf s ≤ x := by
  have h1 := cost_ge hs hi h
  unfold restOf at h1
  unfold cheapOf
  exact h1
theorem own_new (w : World) (base : Nat) (hb : base ≤ w.heap.size) (x : Int) : (w.alloc (.cells #[.int .i64 x] 3)).ownsRow base 3 1 (.slice (some ⟨w.heap.size, 0, none⟩) 1 1) 1 [.int .i64 x] :=
  ⟨rfl, .inr ⟨w.heap.size, 1, #[.int .i64 x], rfl, hb, Blk.new _ _ _, Nat.le_refl _, by simp [maxLen], rfl, rfl⟩⟩
def weeksV (L : List Nat) : List Value := (((0 :: L : List Nat)).map fun n : Nat => (n : Int)).map (Value.int .i64)
theorem weeksV_next (L : List Nat) (m : Nat) : weeksV (L ++ [m]) = weeksV L ++ [.int .i64 (m : Int)] := by unfold weeksV; simp
set_option maxRecDepth 1000000 in
set_option maxHeartbeats 4000000 in
theorem ReelMills_any (need order : List Int) (hn : Bytes need) (ho : Bytes order) (kp : Int) (hkp : 0 ≤ kp ∧ kp ≤ 255) (rm : Int) (hrm : 0 ≤ rm ∧ rm ≤ 255) (wk : Int) (hwk : 0 ≤ wk ∧ wk ≤ 65535) (at_ : Int) (hat_ : 0 ≤ at_ ∧ at_ ≤ 255) (by_ : Int) (hby : -32768 ≤ by_ ∧ by_ ≤ 32767) (vn vo : Value) (w : World) (hN : RBytes w.heap.size w vn need) (hO : RBytes w.heap.size w vo order) :
    Calls Try.prog 11 #[vn, vo, .int .u8 kp, .int .u8 rm, .int .u16 wk, .int .u8 at_, .int .i16 by_] w fun e w' => e = .returned (.bool true) ∧ Below w.heap.size w w' := by
  obtain ⟨An, cn, rfl, hnm, hNc⟩ := hN.open_
  obtain ⟨Ao, co, rfl, hom, hOc⟩ := hO.open_
  obtain ⟨hkp1, hkp2⟩ := hkp
  obtain ⟨hrm1, hrm2⟩ := hrm
  obtain ⟨hwk1, hwk2⟩ := hwk
  obtain ⟨hat1, hat2⟩ := hat_
  obtain ⟨hby1, hby2⟩ := hby
  obtain ⟨mn, hmn⟩ : ∃ a, need.length = a := ⟨_, rfl⟩
  obtain ⟨mo, hmo⟩ : ∃ a, order.length = a := ⟨_, rfl⟩
  have HMN := Lib.hid hmn
  have HMO := Lib.hid hmo
  have HBN := Lib.hid hn
  have HBO := Lib.hid ho
  have HNC := Lib.hid hNc
  have HOC := Lib.hid hOc
  rw [hmn] at hnm HNC ⊢
  rw [hmo] at hom HOC ⊢
  obtain ⟨n, hnn⟩ : ∃ n : Nat, n = min (min mn mo) 12 := ⟨_, rfl⟩
  have hn12 : n ≤ 12 := by omega
  have hnmn : n ≤ mn := by omega
  have hnmo : n ≤ mo := by omega
  have HNN := Lib.hid hnn
  clear hn ho hNc hOc hN hO hmn hmo hnn
  go_enter Try.func11, Try.ntmps11
  go_upto_region 1 with fail
  go_cut [15] from 32 to 36 (fun s wx => s = .int .i64 (n : Int) ∧ wx = w)
  case first =>
    by_cases c1 : mo < mn
    · by_cases c2 : (mo : Int) ≤ 12
      all_goals
        go_wp2_with fail
        go_meet
        refine ⟨congrArg (Value.int .i64) ?_, rfl⟩
        have := HNN.out
        omega
    · by_cases c2 : (mn : Int) ≤ 12
      all_goals
        go_wp2_with fail
        go_meet
        refine ⟨congrArg (Value.int .i64) ?_, rfl⟩
        have := HNN.out
        omega
  case rest =>
  obtain ⟨rfl, rfl⟩ := hcut
  rcases Nat.eq_zero_or_pos n with hz | hnp
  · have g1 : ((n : Int) == 0) = true := by simp [hz]
    have CA := Lib.hid (awake_any wc)
    clear hz
    go_wp2_with fail
    refine CA.out.mono ?_
    rintro _ Z ⟨rfl, hz⟩
    have HZ := Lib.hid hz
    clear hz CA
    go_wp2_with fail
    go_ret
    exact ⟨rfl, HZ.out⟩
  have g1 : ((n : Int) == 0) = false := by simp; omega
  have hk0 : 0 ≤ kp % 8 := Int.emod_nonneg _ (by omega)
  have hk1 : kp % 8 < 8 := Int.emod_lt_of_pos _ (by omega)
  obtain ⟨kq, hkq⟩ : ∃ a, kp % 8 = a := ⟨_, rfl⟩
  have HKQ := Lib.hid hkq
  rw [hkq] at hk0 hk1
  have F0 : ∃ w1, wc.alloc (.cells #[.slice none 0 0, .slice none 0 0, .int .i64 kq, .int .i64 rm] 33) = w1 ∧ MlSt wc wc.heap.size kq rm (.slice none 0 0) (.slice none 0 0) (.slice none 0 0) (.slice none 0 0) [] [] w1 := ⟨_, rfl, MlSt.start _ _ _ (Blk.new _ _ _) (below_alloc _ _) (Nat.le_refl _)⟩
  obtain ⟨w1, e1, hm1⟩ := F0
  have E1 := Lib.hid e1
  have HM1 := Lib.hid hm1
  obtain ⟨Sb, hSb⟩ : ∃ a, wc.heap.size = a := ⟨_, rfl⟩
  clear e1 hm1
  go_upto_region 5 with fail
  rw [E1.out]
  have HSB : Hid (wc.heap.size = Sb) := hSb
  rw [hSb] at HM1
  clear E1 hSb hkq
  obtain ⟨w0, rfl⟩ : ∃ w0 : World, w0 = wc := ⟨_, rfl⟩
  go_wp2_with fail
  go_loopw [47] (fun s wr => ∃ k : Nat, k ≤ n ∧ s = .int .i64 (k : Int) ∧ ∃ u v, Hid (MlSt w0 Sb kq rm u v u v (needL need k) (order.take k) wr)) (fun s _ => n - (intOf s).toNat)
  case atStart => exact ⟨0, Nat.zero_le _, rfl, _, _, HM1.out⟩
  case round =>
  obtain ⟨k, hk, rfl, u, v, hst⟩ := hrel
  obtain ⟨X, rfl⟩ : ∃ X : World, X = wr := ⟨_, rfl⟩
  obtain ⟨Au, cu, rfl⟩ := ownsRow_form hst.out.own1
  obtain ⟨Av, cv, rfl⟩ := ownsRow_form hst.out.own2
  have hl1 : (needL need k).length = k := needL_len (by rw [HMN.out]; omega)
  have hl2 : (order.take k).length = k := by rw [List.length_take, HMO.out]; omega
  rw [hl1, hl2] at hst
  by_cases hlt : k < n
  · obtain ⟨gn, on, rfl, hgn, cN⟩ := HNC.out k (by omega)
    obtain ⟨go, oo, rfl, hgo, cO⟩ := HOC.out k (by omega)
    obtain ⟨xn, hxn⟩ : ∃ x, need[k]? = some x := ⟨_, List.getElem?_eq_getElem (by rw [HMN.out]; omega)⟩
    obtain ⟨xo, hxo⟩ : ∃ x, order[k]? = some x := ⟨_, List.getElem?_eq_getElem (by rw [HMO.out]; omega)⟩
    have bn := HBN.out xn (List.mem_of_getElem? hxn)
    have bo := HBO.out xo (List.mem_of_getElem? hxo)
    rw [List.getD_eq_getElem?_getD, hxn, Option.getD_some] at cN
    rw [List.getD_eq_getElem?_getD, hxo, Option.getD_some] at cO
    have HNN1 : Hid (needL need (k + 1) = needL need k ++ [xn.tmod 60]) := needL_next hxn
    have HNO1 : Hid (order.take (k + 1) = order.take k ++ [xo]) := take_snoc_get hxo
    clear hxn hxo
    go_upto_region 8 with fail
    refine mills_r8 _ _ _ _ _ _ _ _ _ _ _ _ _ _ _ _ _ _ _ _ _ _ _ _ _ _ _ _ _ _ _ _ _ _ _ _ _ _ _ _ _ _ _ _ _ _ _ _ _ _ _ _ _ _ _ _ _ _ _ _ _ _ _ _ _ _ _ _ _ _ _ _ _ _ _ _ _ _ _ _ _ _ _ _ _ _ _ _ _ _ _ _ _ _ _ _ _ _ _ _ _ _ _ _ _ _ _ _ _ _ _ _ _ _ _ _ _ _ _ _ _ _ _ _ _ _ _ _ _ _ _ _ _ _ _ _ _ _ _ _ _ _ _ _ _ _ _ _ _ _ _ _ _ _ _ _ _ _ _ _ _ _ _ _ _ _ _ _ _ _ _ _ _ _ _ _ _ _ _ _ _ _ _ _ _ _ _ _ _ _ _ _ _ _ _ _ _ _ _ _ _ _ _ _ _ _ _ _ _ _ _ _ _ (by omega) (by omega) (by omega) hl1 hl2 bn bo hgn hgo cN cO hst (Lib.hid ?_)
    intro x50 x51 x52 x53 x54 x55 x56 x57 x58 x59 x60 x61 x62 x63 x64 x65 x66 x67 x68 x69 x70 g9 h9 c9 d9 Y hst2
    rw [← HNN1.out, ← HNO1.out] at hst2
    clear cN cO hst hl1 hl2 bn bo HNN1 HNO1
    go_wp2_with fail
    go_roundw
    case rel =>
      first
        | exact ⟨k + 1, by omega, by go_num, _, _, hst2⟩
        | (repeat apply Exists.intro
           refine ⟨?_, rfl⟩
           exact ⟨k + 1, by omega, by go_num, _, _, hst2⟩)
    case measure => simp [intOf]; omega
  obtain rfl : k = n := by omega
  obtain ⟨s, hs⟩ : ∃ s, mlSup need order kp rm k = s := ⟨_, rfl⟩
  have hck : checkS s = 0 := by rw [← hs]; exact mlSup_check HBN.out HBO.out (by omega) hn12 (by rw [HMN.out]; omega) (by rw [HMO.out]; omega) ⟨hrm1, hrm2⟩
  have hsl : s.need.length = k := by rw [← hs]; exact hl1
  have HRS : Hid (∀ Z, Below X.heap.size X Z → RSup Z.heap.size Z (.agg #[.slice Au k cu, .slice Av k cv, .int .i64 kq, .int .i64 rm]) s ∧ Z.cell? ⟨Sb, 0, none⟩ = some (.slice Au k cu) ∧ Z.cell? ⟨Sb, 1, none⟩ = some (.slice Av k cv) ∧ Z.cell? ⟨Sb, 2, none⟩ = some (.int .i64 kq) ∧ Z.cell? ⟨Sb, 3, none⟩ = some (.int .i64 rm)) := fun Z hZ => by
    have h1 := hst.out.own1
    have h2 := hst.out.own2
    have hB := hst.out.sup.below hZ hst.out.sup.lt
    refine ⟨⟨.slice Au k cu, .slice Av k cv, ?_, ?_, ?_⟩, cellOf hB 0 rfl, cellOf hB 1 rfl, cellOf hB 2 rfl, cellOf hB 3 rfl⟩
    rotate_left 1
    · rw [← hs]; exact ((RInts.below (Rd.own h1 (own_le h1)) hZ).more hZ.size)
    · rw [← hs]; exact ((RInts.below (Rd.own h2 (own_le h2)) hZ).more hZ.size)
    · rw [← hs]
      show _ = Value.agg #[_, _, .int .i64 (kp % 8), .int .i64 rm]
      rw [HKQ.out]
  have HLOW : Hid (Below w0.heap.size w0 X) := hst.out.low
  have HCK := Lib.hid hck
  have HSL := Lib.hid hsl
  have HOK := Lib.hid (checkS_ok hck)
  obtain ⟨c, hcc⟩ : ∃ c, cheapOf s = c := ⟨_, rfl⟩
  have HCC := Lib.hid hcc
  obtain ⟨L0, hL0, hI0, hC0⟩ := weeks_path (checkS_ok hck)
  have HL0 := Lib.hid hL0
  have HI0 := Lib.hid hI0
  have HC0 := Lib.hid hC0
  obtain ⟨r0, r1, r2, r3, r4⟩ := HRS.out X (Below.refl _ _)
  have C1 := Lib.hid (sched9 s hck _ X r0)
  clear hs hck hsl hst hl1 hl2 HNC HOC HM1 HBN HBO HMN HMO hL0 hI0 hC0 r0 hk hlt
  go_wp2_with fail
  refine C1.out.mono ?_
  rintro _ X1 ⟨A1, c1, rfl, hO1, hb1⟩
  rw [hcc]
  obtain ⟨nw, hnw⟩ : ∃ nw, (weeksOf s).length = nw := ⟨_, rfl⟩
  rw [hnw] at hO1 ⊢
  have hnw0 : L0.length + 1 = nw := by rw [← hnw, HL0.out]; simp
  have HNW := Lib.hid hnw0
  have HO1 : Hid (X1.ownsRow X.heap.size 3 1 (.slice A1 nw c1) nw ((((0 :: L0 : List Nat)).map fun n : Nat => (n : Int)).map (Value.int .i64))) := by
    unfold OInts at hO1
    rw [hnw, HL0.out] at hO1
    exact hO1
  have HB1 : Hid (Below X.heap.size X X1) := hb1
  clear C1 r1 r2 r3 r4 hO1 hb1 hnw hnw0
  obtain ⟨r0, r1, r2, r3, r4⟩ := HRS.out X1 HB1.out
  have C2 := Lib.hid (prices9 s HCK.out _ X1 r0)
  clear r0
  go_wp2_with fail
  refine C2.out.mono ?_
  rintro _ X2 ⟨A2, c2, rfl, hO2, hb2⟩
  have hpl : (priceL s).length = k + 1 := by rw [priceL_len HOK.out, HSL.out]
  have HB2 : Hid (Below X.heap.size X X2) := HB1.out.trans (hb2.mono HB1.out.size)
  have HO12 := Lib.hid (ownsRow_below HO1.out hb2)
  have HO2 : Hid (OInts X1.heap.size X2 (.slice A2 (k + 1) c2) (priceL s)) := by rw [hpl] at hO2; exact hO2
  rw [hpl]
  have HPL := Lib.hid hpl
  clear C2 r1 r2 r3 r4 hO2 hb2 HO1 hpl
  obtain ⟨r0, r1, r2, r3, r4⟩ := HRS.out X2 HB2.out
  have C3 := Lib.hid (proves9 s HCK.out _ (.slice A2 (k + 1) c2) X2 r0 (Rd.own HO2.out (own_le HO2.out)))
  rw [hcc] at C3
  clear r0
  go_wp2_with fail
  refine C3.out.mono ?_
  rintro _ X3 ⟨rfl, hb3⟩
  have HB3 : Hid (Below X.heap.size X X3) := HB2.out.trans (hb3.mono HB2.out.size)
  have HO13 := Lib.hid (ownsRow_below HO12.out hb3)
  have HO23 : Hid (OInts X1.heap.size X3 (.slice A2 (k + 1) c2) (priceL s)) := ownsRow_below HO2.out hb3
  clear C3 r1 r2 r3 r4 hb3 HO12 HO2
  obtain ⟨r0, r1, r2, r3, r4⟩ := HRS.out X3 HB3.out
  have C4 := Lib.hid (cost9 s HCK.out L0 HI0.out _ A1 c1 nw HNW.out X3 r0 (ownsRow_base HO13.out (Nat.zero_le _)))
  clear r0
  go_wp2_with fail
  refine C4.out.mono ?_
  rintro _ X4 ⟨hr4, hb4⟩
  obtain ⟨x, hx, rfl⟩ | ⟨hx, -⟩ := hr4
  rotate_left 1
  · rw [HC0.out] at hx
    cases hx
  obtain rfl : x = c := by
    rw [HC0.out, HCC.out] at hx
    injection hx with hx
    exact hx.symm
  have HB4 : Hid (Below X.heap.size X X4) := HB3.out.trans (hb4.mono HB3.out.size)
  have HO24 : Hid (OInts X1.heap.size X4 (.slice A2 (k + 1) c2) (priceL s)) := ownsRow_below HO23.out hb4
  clear C4 r1 r2 r3 r4 hb4 HO13 HO23 hx
  have F5 : ∃ X5, X4.alloc (.cells #[.int .i64 0] 3) = X5 ∧ Below X4.heap.size X4 X5 ∧ X5.ownsRow X4.heap.size 3 1 (.slice (some ⟨X4.heap.size, 0, none⟩) 1 1) 1 [.int .i64 0] := ⟨_, rfl, below_alloc _ _, own_new _ _ (Nat.le_refl _) _⟩
  obtain ⟨X5, e5, hb5, ho5⟩ := F5
  have E5 := Lib.hid e5
  have HB5 := Lib.hid hb5
  have HO5 : Hid (X5.ownsRow X4.heap.size 3 1 (.slice (some ⟨X4.heap.size, 0, none⟩) 1 1) (([] : List Nat).length + 1) (weeksV [])) := ho5
  obtain ⟨i0, hi0, hz0, hz1, hz2⟩ := info_parts infoInt0
  have HKP : Hid (0 < k) := hnp
  clear e5 hb5 ho5 hcc hnp g1
  go_upto_region 17 with fail
  rw [E5.out]
  go_wp2_with fail
  go_loopw [27, 28] (fun v s wr => ∃ m : Nat, m ≤ k ∧ s = .int .i64 (m : Int) ∧ ∃ L : List Nat, Hid (1 ≤ m ∧ Incr k 0 L ∧ ∀ x ∈ 0 :: L, x < m) ∧ Hid (wr.ownsRow X4.heap.size 3 1 v (L.length + 1) (weeksV L)) ∧ Hid (Below X4.heap.size X4 wr)) (fun _ s _ => k - (intOf s).toNat)
  case atStart => exact ⟨1, HKP.out, rfl, [], ⟨Nat.le_refl _, HKP.out, fun x hx => by rw [List.mem_singleton.1 hx]; omega⟩, HO5, HB5⟩
  case round =>
  obtain ⟨m, hm, rfl, L, hL, hO, hB⟩ := hrel
  obtain ⟨Y, rfl⟩ : ∃ Y : World, Y = wr := ⟨_, rfl⟩
  obtain ⟨Ay, cy, rfl⟩ := ownsRow_form hO.out
  obtain ⟨j, hj⟩ : ∃ j, L.length + 1 = j := ⟨_, rfl⟩
  have hj12 : j ≤ 12 := by have := Incr.len hL.out.2.1; omega
  have HJ := Lib.hid hj
  rw [hj] at hO ⊢
  clear hj
  by_cases hlt : m < k
  · have hm0 : (0 : Int) ≤ (m : Int) := by omega
    go_upto_region 20 with fail
    go_cut [136] from 132 to 136 (fun s wx => (∃ b, s = .bool b) ∧ wx = Y)
    case first =>
      go_wp2_with fail
      go_meet
      exact ⟨⟨_, rfl⟩, rfl⟩
    case rest =>
    obtain ⟨⟨b, rfl⟩, rfl⟩ := hcut
    obtain ⟨Y, rfl⟩ : ∃ Y : World, Y = wc := ⟨_, rfl⟩
    cases b
    case false =>
      have HL1 : Hid (1 ≤ m + 1 ∧ Incr k 0 L ∧ ∀ x ∈ 0 :: L, x < m + 1) := ⟨by omega, hL.out.2.1, fun x hx => by have := hL.out.2.2 x hx; omega⟩
      have HO1 : Hid (Y.ownsRow X4.heap.size 3 1 (.slice Ay j cy) (L.length + 1) (weeksV L)) := by rw [HJ.out]; exact hO
      go_wp2_with fail
      go_roundw
      case rel =>
        first
          | exact ⟨m + 1, by omega, by go_num, L, HL1, HO1, hB⟩
          | (repeat apply Exists.intro
             refine ⟨?_, rfl⟩
             exact ⟨m + 1, by omega, by go_num, L, HL1, HO1, hB⟩)
      case measure => simp [intOf]; omega
    case true =>
      have HL1 : Hid (1 ≤ m + 1 ∧ Incr k 0 (L ++ [m]) ∧ ∀ x ∈ 0 :: (L ++ [m]), x < m + 1) := by
        refine ⟨by omega, incr_snoc hlt hL.out.2.1 hL.out.2.2, fun x hx => ?_⟩
        rw [← List.cons_append] at hx
        rcases List.mem_append.1 hx with hx | hx
        · have := hL.out.2.2 x hx; omega
        · rw [List.mem_singleton.1 hx]; omega
      have HAp : Hid (∀ v' W1, (Y.alloc (.cells #[.int .i64 (m : Int)] 3)).grownBy W1 (Value.slice Ay j cy).ownBlock → W1.ownsRow X4.heap.size 3 1 v' (j + 1) (weeksV L ++ [.int .i64 (m : Int)]) → Hid (W1.ownsRow X4.heap.size 3 1 v' ((L ++ [m]).length + 1) (weeksV (L ++ [m]))) ∧ Hid (Below X4.heap.size X4 W1)) := fun v' W1 hg ho => by
        refine ⟨?_, (hB.out.alloc hB.out.size _).grown hg (by have := hB.out.size; simp; omega) fun q hq => (hO.out.lt q hq).1⟩
        show World.ownsRow _ _ _ _ _ _ _
        rw [weeksV_next, show (L ++ [m]).length + 1 = j + 1 by have := HJ.out; simp; omega]
        exact ho
      have HZ : Hid (X4.heap.size ≤ Y.heap.size) := hB.out.size
      go_wp2_with (at_builtin; refine wpList_append_own _ rfl _ _ 30 rfl X4.heap.size 3 i0 _ 1 8 sliceInts hi0 hz0 hz1 hz2 rfl (by decide) (.slice Ay j cy) j (weeksV L) rfl (hO.out.alloc _) ⟨Y.heap.size, 0, none⟩ 1 1 [.int .i64 (m : Int)] rfl rfl (cells_new _ _ _) (by simp [Value.oneCell']) (by simp only [maxLen]; omega) (by omega) (by have := HZ.out; simp; omega) ?_; intro v2' w10 hown' hgro _; obtain ⟨Av2, cv2, rfl⟩ := ownsRow_form hown'; obtain ⟨hfin, hfin2⟩ := HAp.out _ _ hgro hown'; clear hown' hgro)
      go_roundw
      case rel =>
        first
          | exact ⟨m + 1, by omega, by go_num, L ++ [m], HL1, hfin, hfin2⟩
          | (repeat apply Exists.intro
             refine ⟨?_, rfl⟩
             exact ⟨m + 1, by omega, by go_num, L ++ [m], HL1, hfin, hfin2⟩)
      case measure => simp [intOf]; omega
  obtain rfl : m = k := by omega
  have HBY : Hid (Below X.heap.size X Y) := HB4.out.trans (hB.out.mono HB4.out.size)
  have HOP : Hid (OInts X1.heap.size Y (.slice A2 (m + 1) c2) (priceL s)) := ownsRow_keptBut HO24.out (KeptBut.of_below (S := fun _ => False) hB.out |>.mono fun _ _ h => h) (fun _ _ _ _ h => h)
  obtain ⟨r0, r1, r2, r3, r4⟩ := HRS.out Y HBY.out
  have C5 := Lib.hid (cost9 s HCK.out L (by rw [HSL.out]; exact hL.out.2.1) _ Ay cy j HJ.out Y r0 (ownsRow_base hO.out (Nat.zero_le _)))
  have HLI : Hid (Incr s.need.length 0 L) := by rw [HSL.out]; exact hL.out.2.1
  clear r0 hB hO HO24 hL
  go_wp2_with fail
  refine C5.out.mono ?_
  rintro _ Z ⟨hr5, hbz⟩
  have HBZ : Hid (Below X.heap.size X Z) := HBY.out.trans (hbz.mono HBY.out.size)
  have HOZ : Hid (OInts X1.heap.size Z (.slice A2 (m + 1) c2) (priceL s)) := ownsRow_below HOP.out hbz
  clear C5 r1 r2 r3 r4 hbz HOP
  have hq0 : 0 ≤ at_ % (m : Int) := Int.emod_nonneg _ (by have := HKP.out; omega)
  have hq1 : at_ % (m : Int) < m := Int.emod_lt_of_pos _ (by have := HKP.out; omega)
  obtain ⟨q, hq⟩ : ∃ q : Nat, 1 + at_ % (m : Int) = (q : Int) := ⟨(1 + at_ % (m : Int)).toNat, by omega⟩
  have hq2 : 1 ≤ q := by omega
  have hq3 : q ≤ m := by omega
  have HQQ := Lib.hid hq
  have hlow := price_low HOK.out (B := 1000000) (fun k hk => (HOK.out.order k hk).2) q (by rw [HSL.out]; omega)
  have hoz9 := HOZ.out
  unfold OInts at hoz9
  rw [HPL.out] at hoz9
  obtain ⟨g2, rfl, hg21, hg22⟩ := ownsRow_block hoz9 (by omega)
  have hfz : Z.frozen? ⟨g2, q, none⟩ = false := ownsRow_frozen hoz9 q
  clear hoz9
  have hcell : Z.cell? ⟨g2, q, none⟩ = some (.int .i64 ((priceL s).getD q 0)) := by
    obtain ⟨A', c', e', -, hc'⟩ := RInts.open_ (Rd.own HOZ.out (own_le HOZ.out))
    obtain ⟨g, o, y, hA, -, h9, h8⟩ := hc' q (by rw [HPL.out]; omega)
    rw [← h8.out] at h9
    injection e' with e1 e2 e3
    rw [← e1] at hA
    injection hA with hA
    injection hA with hA1 hA2
    subst hA1
    subst hA2
    rw [Nat.zero_add] at h9
    exact h9
  obtain ⟨pq, hpq⟩ : ∃ a, (priceL s).getD q 0 = a := ⟨_, rfl⟩
  rw [hpq] at hcell hlow
  have F6 : ∃ Z1, Z.setCell ⟨g2, q, none⟩ (.int .i64 (pq + by_)) = Z1 ∧ Below X.heap.size X Z1 ∧ OInts X1.heap.size Z1 (.slice (some ⟨g2, 0, none⟩) (m + 1) c2) (chP s q by_) := by
    refine ⟨_, rfl, HBZ.out.setCell (by have := HB1.out.size; show X.heap.size ≤ g2; omega) _, ?_⟩
    have h1 := HOZ.out
    unfold OInts at h1 ⊢
    rw [HPL.out] at h1
    have h2 := ownsRow_put h1 (j := q) (by omega) (.int .i64 (pq + by_))
    unfold chP
    rw [List.map_set, List.length_set, HPL.out, hpq]
    exact h2
  obtain ⟨Z1, e6, hbz1, hoz1⟩ := F6
  have E6 := Lib.hid e6
  have HBZ1 := Lib.hid hbz1
  obtain ⟨r0, -⟩ := HRS.out Z1 hbz1
  have hchl : (chP s q by_).length = m + 1 := by unfold chP; rw [List.length_set, HPL.out]
  have C6 := Lib.hid (Proves_ok s HCK.out (chP s q by_) (chP_prices HOK.out hq2 (by rw [HSL.out]; exact hq3) (by omega)) _ (.slice (some ⟨g2, 0, none⟩) (m + 1) c2) Z1 r0 (by
    have h1 := Rd.own hoz1 (own_le hoz1)
    exact h1))
  have HMore : Hid (0 < by_ → ¬ Fea s (chP s q by_)) := fun h => chP_more HOK.out hq2 (by rw [HSL.out]; exact hq3) h
  have HLast : Hid (q = m → by_ ≤ 0 → Fea s (chP s q by_)) := fun h h' => by
    have h1 := chP_last HOK.out h'
    rw [HSL.out, ← h] at h1
    exact h1
  have HCh : Hid (Fea s (chP s q by_) → (chP s q by_).getD s.need.length 0 ≤ x) := fun h => by
    have h1 := chP_cheap HOK.out hq2 (by rw [HSL.out]; exact hq3) h
    rw [HCC.out] at h1
    exact h1
  obtain ⟨r1, r2, r3, r4⟩ := (HRS.out Z1 hbz1).2
  have hwr : IntKind.i64.wrap (pq + by_) = pq + by_ := IntWalk.i64_in _ ⟨by omega, by omega⟩
  have bq0 : (0 : Int) ≤ (q : Int) := by omega
  have bq1 : (q : Int) < ((m + 1 : Nat) : Int) := by omega
  clear r0 hpq e6 hbz1 hoz1 hchl HOZ
  have hm0 : ((m : Int) == 0) = false := by have := HKP.out; simp; omega
  have hm0' : ¬ (m : Int) = 0 := by have := HKP.out; omega
  rcases hr5 with ⟨x2, hx2, rfl⟩ | ⟨hx2, rfl⟩
  all_goals
    first
      | (have hge := cheap_le HOK.out HLI.out hx2
         rw [HCC.out] at hge
         have hge2 : decide (x2 < x) = false := by simp; omega
         clear hx2)
      | clear hx2
    go_upto_region 26 with fail
    first | rw [HQQ.out] | skip
    clear hq
    go_upto_region 27 with fail
    rw [E6.out]
    clear hcell hfz hwr
    go_wp2_with fail
    refine C6.out.mono ?_
    rintro _ Z2 ⟨hr6, hb6⟩
    have HB9 : Hid (Below w0.heap.size w0 Z2) := HLOW.out.trans ((HBZ1.out.trans (hb6.mono HBZ1.out.size)).mono HLOW.out.size)
    have CA := Lib.hid (awake_any Z2)
    clear C6 r1 r2 r3 r4 hb6
    rcases hr6 with ⟨hfe, rfl⟩ | ⟨hfe, rfl⟩
    · have hle := HCh.out hfe
      obtain ⟨y, hy⟩ : ∃ y, (chP s q by_).getD s.need.length 0 = y := ⟨_, rfl⟩
      rw [hy] at hle ⊢
      have hb0 : by_ ≤ 0 := by
        rcases Int.lt_or_le 0 by_ with h | h
        · exact absurd hfe (HMore.out h)
        · exact h
      have t1 : decide (x < y) = false := by simp; omega
      have t2 : decide (by_ ≤ 0) = true := by simp; omega
      have t3 : (true != true) = false := rfl
      clear hfe hy
      by_cases hqm : q = m
      · have t4 : ((q : Int) == (m : Int)) = true := by simp [hqm]
        have HQM := Lib.hid hqm
        clear hqm
        go_wp2_with fail
        refine CA.out.mono ?_
        rintro _ Z3 ⟨rfl, hz3⟩
        have HZ3 : Hid (Below w0.heap.size w0 Z3) := HB9.out.trans (hz3.mono HB9.out.size)
        clear hz3 CA
        go_wp2_with fail
        go_ret
        exact ⟨rfl, HZ3.out⟩
      · have t4 : ((q : Int) == (m : Int)) = false := by simp; omega
        go_wp2_with fail
        refine CA.out.mono ?_
        rintro _ Z3 ⟨rfl, hz3⟩
        have HZ3 : Hid (Below w0.heap.size w0 Z3) := HB9.out.trans (hz3.mono HB9.out.size)
        clear hz3 CA
        go_wp2_with fail
        go_ret
        exact ⟨rfl, HZ3.out⟩
    · by_cases hqm : q = m
      · have t4 : ((q : Int) == (m : Int)) = true := by simp [hqm]
        have hb0 : ¬ by_ ≤ 0 := fun h => hfe (HLast.out hqm h)
        have t2 : decide (by_ ≤ 0) = false := by simp; omega
        clear hfe hqm
        go_wp2_with fail
        refine CA.out.mono ?_
        rintro _ Z3 ⟨rfl, hz3⟩
        have HZ3 : Hid (Below w0.heap.size w0 Z3) := HB9.out.trans (hz3.mono HB9.out.size)
        clear hz3 CA
        go_wp2_with fail
        go_ret
        exact ⟨rfl, HZ3.out⟩
      · have t4 : ((q : Int) == (m : Int)) = false := by simp; omega
        clear hfe
        by_cases hb0 : by_ ≤ 0
        · have t2 : decide (by_ ≤ 0) = true := by simp; omega
          go_wp2_with fail
          refine CA.out.mono ?_
          rintro _ Z3 ⟨rfl, hz3⟩
          have HZ3 : Hid (Below w0.heap.size w0 Z3) := HB9.out.trans (hz3.mono HB9.out.size)
          clear hz3 CA
          go_wp2_with fail
          go_ret
          exact ⟨rfl, HZ3.out⟩
        · have t2 : decide (by_ ≤ 0) = false := by simp; omega
          go_wp2_with fail
          refine CA.out.mono ?_
          rintro _ Z3 ⟨rfl, hz3⟩
          have HZ3 : Hid (Below w0.heap.size w0 Z3) := HB9.out.trans (hz3.mono HB9.out.size)
          clear hz3 CA
          go_wp2_with fail
          go_ret
          exact ⟨rfl, HZ3.out⟩
end Go.Proofs.Ytpkepacbondopaa
