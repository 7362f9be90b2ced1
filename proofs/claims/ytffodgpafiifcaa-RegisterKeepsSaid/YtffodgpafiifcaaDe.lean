/-
  finder; best.
-/
import Derived.Laws.EntriesVeiled
import Derived.Test.YtffodgpafiifcaaDd
import Derived.Test.YtffodgpafiifcaaCf
namespace Go.Proofs.Ytffodgpafiifcaa
open Go.RowKit Go.Shelf
attribute [local go_sem] Oper.semAt_some

set_option maxHeartbeats 400000 in
theorem finder_any (v vs : Value) (A : Option Addr) (n c : Nat) (W : Int) (hv : v = .slice A n c) (A2 : Option Addr) (n2 c2 : Nat) (hvs : vs = .slice A2 n2 c2) (w : World) :
    Calls Try.prog 68 #[.agg #[v, .int .i64 W], vs] w fun e w' => e = .returned (.func (.func 71) #[] #[.pointer (some ⟨w.heap.size + 1, 0, none⟩), .pointer (some ⟨w.heap.size, 0, none⟩)]) ∧
      w' = (w.alloc (.cells #[v, .int .i64 W] 87)).alloc (.cells #[vs] 24) := by
  subst hv hvs
  have hmf : ∀ (fn : Fn) (first cap : Array Value) (w : World), (Instr.makeFunc fn first cap).run Try.prog w = .ok (.func fn first cap) w := fun _ _ _ _ => rfl
  go_enter Try.func68, Try.ntmps68
  go_wp2
  go_ret
  exact ⟨rfl, rfl⟩
set_option maxHeartbeats 400000 in
theorem shifts_any (w : World) : Calls Try.prog 69 #[] w fun e w' => e = .returned (.func (.func 73) #[] #[]) ∧ w = w' := by
  go_enter Try.func69, Try.ntmps69
  go_wp2
  go_ret
  exact ⟨rfl, rfl⟩

/-- The best shift and what it finds, as far as they have come. -/
def stepD (marks : List Int) (W : Int) (seen : List Int) (most : Int) (st : Int × Int) (s : Int) : Int × Int := if st.2 = most then st else if st.2 < countD marks W seen s then (s, countD marks W seen s) else st
def bestTo (marks : List Int) (W : Int) (seen : List Int) (l : List Int) : Int × Int := l.foldl (stepD marks W seen (min marks.length seen.length)) (0, 0)
def bestD (marks : List Int) (W : Int) (seen : List Int) : Int × Int := bestTo marks W seen shiftsL
theorem bestTo_snoc (marks : List Int) (W : Int) (seen l : List Int) (s : Int) : bestTo marks W seen (l ++ [s]) = stepD marks W seen (min marks.length seen.length) (bestTo marks W seen l) s := by unfold bestTo; rw [List.foldl_append]; rfl
theorem bestTo_stays {marks : List Int} {W : Int} {seen l m : List Int} (h : (bestTo marks W seen l).2 = min (marks.length : Int) seen.length) : bestTo marks W seen (l ++ m) = bestTo marks W seen l := by
  induction m generalizing l with
  | nil => simp
  | cons y m ih =>
    have h1 : bestTo marks W seen (l ++ [y]) = bestTo marks W seen l := by
      rw [bestTo_snoc]; unfold stepD; rw [if_pos h]
    rw [show l ++ y :: m = (l ++ [y]) ++ m by simp, ih (by rw [h1]; exact h), h1]

def fitTo (marks : List Int) (W : Int) (seen : List Int) (s : Int) : List Int := marks.map fun m => findD seen (m + s - W) (m + s + W)
def fitD (marks : List Int) (W : Int) (seen : List Int) : List Int := fitTo marks W seen (bestD marks W seen).1
def MostCut (W2 : World) (B : Nat) (q : Int) (s8 : Value) (wx : World) : Prop := s8 = .pointer (some ⟨B, 0, none⟩) ∧ wx = W2.alloc (.cells #[.int .i64 q] 3)

/-- What lies there while the shifts come. -/
structure BestSt (w W0 : World) (B5 B6 : Nat) (st : Int × Int) (X : World) : Prop where
  below : Below w.heap.size w X
  keep : ∀ k, k < W0.heap.size → k ≠ B5 → k ≠ B6 → X.heap[k]? = W0.heap[k]?
  size : W0.heap.size ≤ X.heap.size
  shift : Blk X B5 3 #[.int .i64 st.1]
  count : Blk X B6 3 #[.int .i64 st.2]
theorem BestSt.own {β : Type} {w W0 : World} {B5 B6 : Nat} {f : β → Int × Int} (h5 : B5 < W0.heap.size) (h6 : B6 < W0.heap.size) (hw : w.heap.size ≤ W0.heap.size) : OwnFrom W0.heap.size (fun (x : β) X => BestSt w W0 B5 B6 (f x) X) := by
  intro x X Y row hs hg hr
  have hn : ∀ k, k < W0.heap.size → some k ≠ row := fun k hk e => by have := (hr k e.symm).1; omega
  exact ⟨hs.below.grown hg (Nat.le_trans hw hs.size) (fun j hj => by have := (hr j hj).1; omega), fun k hk h1 h2 => (hg.block k (Nat.lt_of_lt_of_le hk hs.size) (hn k hk)).trans (hs.keep k hk h1 h2), Nat.le_trans hs.size hg.size,
    (hg.block B5 hs.shift.lt (hn B5 h5)).trans hs.shift, (hg.block B6 hs.count.lt (hn B6 h6)).trans hs.count⟩
theorem BestSt.later {w W0 : World} {B5 B6 : Nat} {st : Int × Int} {X Y : World} (h : BestSt w W0 B5 B6 st X) (hb : Below X.heap.size X Y) (hw : w.heap.size ≤ X.heap.size) : BestSt w W0 B5 B6 st Y :=
  ⟨h.below.trans (hb.mono hw), fun k hk h1 h2 => (hb.block k (Nat.lt_of_lt_of_le hk h.size)).trans (h.keep k hk h1 h2), Nat.le_trans h.size hb.size, h.shift.below hb h.shift.lt, h.count.below hb h.count.lt⟩
theorem BestSt.blk {w W0 : World} {B5 B6 B : Nat} {st : Int × Int} {X : World} (h : BestSt w W0 B5 B6 st X) {t : TypeId} {cs : Array Value} (hB : Blk W0 B t cs) (h1 : B ≠ B5) (h2 : B ≠ B6) : Blk X B t cs := (h.keep B hB.lt h1 h2).trans hB
theorem BestSt.put {w W0 : World} {B5 B6 : Nat} {st : Int × Int} {X : World} (h : BestSt w W0 B5 B6 st X) (hne : B5 ≠ B6) (h5 : w.heap.size ≤ B5) (h6 : w.heap.size ≤ B6) (a b : Int) : BestSt w W0 B5 B6 (a, b) ((X.setCell ⟨B5, 0, none⟩ (.int .i64 a)).setCell ⟨B6, 0, none⟩ (.int .i64 b)) :=
  ⟨(h.below.setCell (p := ⟨B5, 0, none⟩) h5 _).setCell (p := ⟨B6, 0, none⟩) h6 _, fun k hk h1 h2 => by rw [Below.heap_setCell _ _ _ k h2, Below.heap_setCell _ _ _ k h1]; exact h.keep k hk h1 h2, by simpa [World.setCell] using h.size,
    (h.shift.put 0 (.int .i64 a)).far (p := ⟨B6, 0, none⟩) hne _, (h.count.far (p := ⟨B5, 0, none⟩) hne.symm _).put 0 (.int .i64 b)⟩

theorem fitTo_len (marks : List Int) (W : Int) (seen : List Int) (s : Int) : (fitTo marks W seen s).length = marks.length := by simp [fitTo]
theorem fitTo_at {marks : List Int} {W : Int} {seen : List Int} {s x : Int} {k : Nat} (h : marks[k]? = some x) : (fitTo marks W seen s)[k]? = some (findD seen (x + s - W) (x + s + W)) := by simp [fitTo, h]
/-- What lies there while the marks are found. -/
structure FitSt (w W0 : World) (B5 B6 : Nat) (sv : Int × Int) (X1 : World) (D F : Nat) (marks : List Int) (W : Int) (seen : List Int) (k : Nat) (X : World) : Prop where
  st : BestSt w W0 B5 B6 sv X
  def_ : X.heap[D]? = some (.deferred (some []))
  fit : ∃ u, Blk X F 52 #[.int .i64 sv.1, .int .i64 sv.2, u] ∧ OInts X1.heap.size X u ((fitTo marks W seen sv.1).take k)
theorem stepD_bound {marks : List Int} {W : Int} {seen : List Int} {most : Int} {st : Int × Int} {x : Int} (h : -2000 ≤ st.1 ∧ st.1 ≤ 2000) (hx : -2000 ≤ x ∧ x ≤ 2000) : -2000 ≤ (stepD marks W seen most st x).1 ∧ (stepD marks W seen most st x).1 ≤ 2000 := by
  unfold stepD
  split
  · exact h
  · split
    · exact hx
    · exact h
theorem bestTo_bound (marks : List Int) (W : Int) (seen : List Int) (l : List Sh) : -2000 ≤ (bestTo marks W seen (l.map (·.1))).1 ∧ (bestTo marks W seen (l.map (·.1))).1 ≤ 2000 := by
  have key : ∀ (l : List Sh) (st : Int × Int), (-2000 ≤ st.1 ∧ st.1 ≤ 2000) → -2000 ≤ ((l.map (·.1)).foldl (stepD marks W seen (min marks.length seen.length)) st).1 ∧ ((l.map (·.1)).foldl (stepD marks W seen (min marks.length seen.length)) st).1 ≤ 2000 := by
    intro l
    induction l with
    | nil => intro st h; exact h
    | cons y l ih => intro st h; exact ih _ (stepD_bound h y.2)
  exact key l (0, 0) ⟨by decide, by decide⟩
theorem best_bound {marks : List Int} {W : Int} {seen : List Int} {sh ct : Int} (h : bestD marks W seen = (sh, ct)) : -2000 ≤ sh ∧ sh ≤ 2000 := by
  have := bestTo_bound marks W seen (shiftsS 2000)
  rw [shiftsS_val (Nat.le_refl _)] at this
  replace this : -2000 ≤ (bestD marks W seen).1 ∧ (bestD marks W seen).1 ≤ 2000 := this
  rwa [h] at this

set_option maxRecDepth 100000 in
set_option maxHeartbeats 4000000 in
theorem best_any (v vs : Value) (marks : List Int) (W : Int) (seen : List Int) (w : World) (hm : RInts w.heap.size w v marks) (hl : marks.length ≤ 1000000) (hmk : ∀ x ∈ marks, 0 ≤ x ∧ x ≤ 100000) (hsn : RInts w.heap.size w vs seen) (ho : SeenOk seen W) :
    Calls Try.prog 65 #[.agg #[v, .int .i64 W], vs] w fun e w' => ∃ u, e = .returned (.agg #[.int .i64 (bestD marks W seen).1, .int .i64 (bestD marks W seen).2, u]) ∧ OInts w.heap.size w' u (fitD marks W seen) ∧ Below w.heap.size w w' := by
  have HM := Lib.hid hm
  have HSn := Lib.hid hsn
  have HMk := Lib.hid hmk
  have HO := Lib.hid ho
  obtain ⟨A, c, rfl, -, hA⟩ := hm.open_
  have HA := Lib.hid hA
  obtain ⟨A2, c2, rfl, -, -⟩ := hsn.open_
  obtain ⟨n, hn⟩ : ∃ n, marks.length = n := ⟨_, rfl⟩
  obtain ⟨n2, hn2⟩ : ∃ n, seen.length = n := ⟨_, rfl⟩
  have hl2 := ho.len
  have Hn := Lib.hid hn
  have Hn2 := Lib.hid hn2
  rw [hn] at hl ⊢
  rw [hn2] at hl2 ⊢
  have F0 : ∃ W2, ((((((w.alloc (.cells #[.slice A n c, .int .i64 W] 87)).alloc (.cells #[.int .i64 0, .int .i64 0, .slice none 0 0] 52)).alloc (.cells #[.slice A n c, .int .i64 W] 87)).alloc (.cells #[.slice A2 n2 c2] 24)).alloc (.cells #[.func (.func 71) #[] #[.pointer (some ⟨w.heap.size + 3, 0, none⟩), .pointer (some ⟨w.heap.size + 2, 0, none⟩)]] 110)).alloc (.cells #[.int .i64 0] 3)).alloc (.cells #[.int .i64 0] 3) = W2 ∧
      W2.heap.size = w.heap.size + 7 ∧ Below w.heap.size w W2 ∧ Blk W2 w.heap.size 87 #[.slice A n c, .int .i64 W] ∧ Blk W2 (w.heap.size + 1) 52 #[.int .i64 0, .int .i64 0, .slice none 0 0] ∧ Blk W2 (w.heap.size + 2) 87 #[.slice A n c, .int .i64 W] ∧
      Blk W2 (w.heap.size + 3) 24 #[.slice A2 n2 c2] ∧ Blk W2 (w.heap.size + 4) 110 #[.func (.func 71) #[] #[.pointer (some ⟨w.heap.size + 3, 0, none⟩), .pointer (some ⟨w.heap.size + 2, 0, none⟩)]] ∧ Blk W2 (w.heap.size + 5) 3 #[.int .i64 0] ∧ Blk W2 (w.heap.size + 6) 3 #[.int .i64 0] := by
    refine ⟨_, rfl, by simp, ?_, ?_, ?_, ?_, ?_, ?_, ?_, ?_⟩
    · exact (((((((Below.refl _ w).alloc (Nat.le_refl _) _).alloc (by simp) _).alloc (by simp; omega) _).alloc (by simp; omega) _).alloc (by simp; omega) _).alloc (by simp; omega) _).alloc (by simp; omega) _
    · exact ((((((Blk.new _ _ _).alloc _).alloc _).alloc _).alloc _).alloc _).alloc _
    · exact (((((blk_new (by simp) _ _).alloc _).alloc _).alloc _).alloc _).alloc _
    · exact ((((blk_new (by simp) _ _).alloc _).alloc _).alloc _).alloc _
    · exact (((blk_new (by simp) _ _).alloc _).alloc _).alloc _
    · exact ((blk_new (by simp) _ _).alloc _).alloc _
    · exact (blk_new (by simp) _ _).alloc _
    · exact blk_new (by simp) _ _
  obtain ⟨W2, e2, z2, B2, K0, K1, K2, K3, K4, K5, K6⟩ := F0
  have E2 := Lib.hid e2
  have Z2 := Lib.hid z2
  have v0 := cellOf K0 0 (x := .slice A n c) rfl
  obtain ⟨b1, h1⟩ : ∃ b, w.heap.size + 1 = b := ⟨_, rfl⟩
  obtain ⟨b2, h2⟩ : ∃ b, w.heap.size + 2 = b := ⟨_, rfl⟩
  obtain ⟨b3, h3⟩ : ∃ b, w.heap.size + 3 = b := ⟨_, rfl⟩
  obtain ⟨b4, h4⟩ : ∃ b, w.heap.size + 4 = b := ⟨_, rfl⟩
  obtain ⟨b5, h5⟩ : ∃ b, w.heap.size + 5 = b := ⟨_, rfl⟩
  obtain ⟨b6, h6⟩ : ∃ b, w.heap.size + 6 = b := ⟨_, rfl⟩
  rw [h1] at K1
  rw [h2] at K2
  rw [h3] at K3
  rw [h3, h2, h4] at K4
  rw [h5] at K5
  rw [h6] at K6
  rw [h3, h2] at E2
  have g2 : b1 + 1 = b2 := by omega
  have g3 : b2 + 1 = b3 := by omega
  have g4 : b3 + 1 = b4 := by omega
  have g5 : b4 + 1 = b5 := by omega
  have g6 : b5 + 1 = b6 := by omega
  have l1 : w.heap.size < b1 := by omega
  have l2 : b1 < b2 := by omega
  have l3 : b2 < b3 := by omega
  have l4 : b3 < b4 := by omega
  have l5 : b4 < b5 := by omega
  have l6 : b5 < b6 := by omega
  have l7 : b6 < W2.heap.size := by omega
  clear hm hsn hmk ho hA hn hn2 e2 z2 h2 h3 h4 h5 h6
  refine (callsIn_wide (n := 10)).1 ?_
  refine callsIn_of_wp_marks Try.func65 rfl trivial ?_ rfl
  simp only [Try.ntmps65, List.size_toArray, List.length_cons, List.length_nil, Nat.reduceAdd, Nat.reduceSub, Array.replicate_succ, Array.replicate_zero, List.push_toArray, List.append_toArray, List.nil_append, List.cons_append]
  refine wpIn_wide.2 ?_
  go_wp2_with fail
  refine (finder_any _ _ A n c W rfl A2 n2 c2 rfl _).mono ?_
  rintro e w3 ⟨rfl, rfl⟩
  go_upto_region 3 with fail
  rw [E2.out]
  clear h1 g2 g3 g4 g5 g6
  obtain ⟨B7, hB7⟩ : ∃ B, W2.heap.size = B := ⟨_, rfl⟩
  obtain ⟨q, hq⟩ : ∃ q : Int, min (n : Int) (n2 : Int) = q := ⟨_, rfl⟩
  have Hq := Lib.hid hq
  have HK0 := Lib.hid K0
  clear hq K0
  go_cut [8] from 17 to 22 (fun s8 wx => MostCut W2 B7 q s8 wx)
  case first =>
    by_cases hmn : (n : Int) ≤ (n2 : Int)
    · have HQ : Hid (q = n) := by show _ = _; have := Hq.out; omega
      go_wp2
      go_meet
      exact ⟨rfl, by rw [HQ.out]⟩
    · have HQ : Hid (q = n2) := by show _ = _; have := Hq.out; omega
      go_wp2
      go_meet
      exact ⟨rfl, by rw [HQ.out]⟩
  case rest =>
    obtain ⟨rfl, hw⟩ := hcut
    obtain ⟨W0, rfl⟩ : ∃ W0, W0 = wc := ⟨_, rfl⟩
    have HW : Hid (W0 = W2.alloc (.cells #[.int .i64 q] 3)) := hw
    clear hw
    have z0 : W0.heap.size = B7 + 1 := by rw [HW.out]; simp [hB7]
    have hB20 : Below W2.heap.size W2 W0 := by rw [HW.out]; exact below_alloc _ _
    have L0 := HK0.out.below hB20 HK0.out.lt
    have L4 := K4.below hB20 K4.lt
    have HL1 := Lib.hid (K1.below hB20 K1.lt)
    have L3 := K3.below hB20 K3.lt
    have L2 := K2.below hB20 K2.lt
    have L7 : Blk W0 B7 3 #[.int .i64 q] := by rw [HW.out, ← hB7]; exact Blk.new _ _ _
    have I0 : BestSt w W0 b5 b6 (0, 0) W0 := ⟨B2.trans (hB20.mono B2.size), fun _ _ _ _ => rfl, Nat.le_refl _, K5.below hB20 K5.lt, K6.below hB20 K6.lt⟩
    have l7 : b6 < W0.heap.size := by have := hB20.size; omega
    have l8 : b6 < B7 := by omega
    have hws : w.heap.size ≤ W0.heap.size := by omega
    have HL0 := Lib.hid L0
    have HL4 := Lib.hid L4
    have HL3 := Lib.hid L3
    have HL2 := Lib.hid L2
    have HL7 := Lib.hid L7
    have HI0 := Lib.hid I0
    have Z0 := Lib.hid z0
    have HFk : Hid (∀ st X, BestSt w W0 b5 b6 st X → FindOk X b3 b2 seen W) := fun st X h => by
      have h3 := h.blk HL3.out (by omega) (by omega)
      have h2 := h.blk HL2.out (by omega) (by omega)
      refine ⟨⟨_, cellOf h3 0 rfl, ?_⟩, cellOf h2 1 rfl, h3.lt, h2.lt⟩
      have := (HSn.out.below h.below).more h.below.size
      rwa [Hn2.out] at this
    clear z0 hB20 L0 L4 L3 L2 L7 I0 hB7 K1 K2 K3 K4 K5 K6 B2 v0 HK0 E2 Z2 HW
    go_wp2_with fail
    refine (shifts_any _).mono ?_
    rintro e w' ⟨rfl, rfl⟩
    go_wp2_with fail
    refine (wpIn_wide (n := 10)).1 ?_
    refine wpIn_rangeFunc_ownF rfl (by omega) (gf := 73) (lb := #[]) rfl trivial (enters_of Try.func73 (by kernel_rfl) rfl)
      (encs := fun x : Sh => #[.int .i64 x.1]) (Kp := fun _ _ => True) (S := fun ys => ys = shiftsS 2000) (Sp := fun pre => pre <+: shiftsS 2000) (N := 4001) (w0 := W0)
      (fun l J Jx W hW hJ hJx hY h0 => shifts_in 9 (by omega) l J Jx hY W h0) (fun _ _ => trivial) (fun _ _ _ _ _ _ _ _ => trivial) (Below.refl _ _) (fun _ => rfl)
      (fun pre X => BestSt w W0 b5 b6 (bestTo marks W seen (pre.map (·.1))) X) (fun c pre X => c = .exit 0 ∧ (bestTo marks W seen (pre.map (·.1))).2 = min (marks.length : Int) seen.length ∧ BestSt w W0 b5 b6 (bestTo marks W seen (pre.map (·.1))) X)
      (BestSt.own (by omega) l7 hws) (fun c => OwnFrom.and (fun _ _ _ _ h _ _ => h) (OwnFrom.and (fun _ _ _ _ h _ _ => h) (BestSt.own (by omega) l7 hws))) HI0.out
      (fun x => { tmps := #[.agg #[.slice A n c, .int .i64 W], .slice A2 n2 c2, .pointer (some ⟨w.heap.size, 0, none⟩), undef, .pointer (some ⟨b1, 0, none⟩), .pointer (some ⟨b4, 0, none⟩), .pointer (some ⟨b5, 0, none⟩), .pointer (some ⟨b6, 0, none⟩), .pointer (some ⟨B7, 0, none⟩), .int .i64 x.1, undef, undef, undef, undef, .agg #[.slice A n c, .int .i64 W], .slice A2 n2 c2, .func (.func 71) #[] #[.pointer (some ⟨b3, 0, none⟩), .pointer (some ⟨b2, 0, none⟩)], u17, u18, u19, u20, u21, u22, .func (.func 73) #[] #[], .int .i64 x.1, undef, undef, undef, undef, undef, undef, undef, undef, undef, undef, undef, undef, undef, undef, undef, undef, undef, undef, undef, undef, undef, undef, undef, undef, undef, undef, undef, undef, undef, undef, undef, undef, undef, undef], defers := [] }) ?assign ?body ?done ?stop
    case assign =>
      intro l x X K hK
      gi_wp2
      exact hK
    case body =>
      rintro l pre ⟨x, hx1, hx2⟩ X hst hlen
      have hb := bestTo_snoc marks W seen (pre.map (·.1)) x
      rw [show List.map (·.1) pre ++ [x] = List.map (·.1) (pre ++ [(⟨x, hx1, hx2⟩ : Sh)]) by simp] at hb
      have HS := Lib.hid hst
      have hq : min (marks.length : Int) (seen.length : Int) = q := by rw [Hn.out, Hn2.out]; exact Hq.out
      obtain ⟨⟨sh, ct⟩, hst2⟩ : ∃ st, bestTo marks W seen (pre.map (·.1)) = st := ⟨_, rfl⟩
      rw [hst2] at hst hb HS
      rw [hq] at hb
      have c6 := cellOf hst.count 0 (x := .int .i64 ct) rfl
      have c7 := cellOf (hst.blk HL7.out (by omega) (by omega)) 0 (x := .int .i64 q) rfl
      have c0 := cellOf (hst.blk HL0.out (by omega) (by omega)) 0 (x := .slice A n c) rfl
      have c1 := cellOf (hst.blk HL0.out (by omega) (by omega)) 1 (x := .int .i64 W) rfl
      have c4 := cellOf (hst.blk HL4.out (by omega) (by omega)) 0 (x := .func (.func 71) #[] #[.pointer (some ⟨b3, 0, none⟩), .pointer (some ⟨b2, 0, none⟩)]) rfl
      have hbel := hst.below
      have HC := Lib.hid (count_any _ marks W x b3 b2 seen X (by have := (HM.out.below hbel).more hbel.size; rwa [Hn.out] at this) (by rw [Hn.out]; exact hl) HMk.out ⟨hx1, hx2⟩ (HFk.out _ _ hst) HO.out)
      have hXs := hst.size
      have Hb := Lib.hid hb
      have Hst2 := Lib.hid hst2
      have HqE := Lib.hid hq
      clear hst hb hst2 hq hlen
      by_cases hcq : ct = q
      · have HE : Hid (stepD marks W seen q (sh, ct) x = (sh, ct)) := by show stepD _ _ _ _ _ _ = _; unfold stepD; rw [if_pos hcq]
        have hd : (ct == q) = true := by simpa using hcq
        subst hcq
        gi_wp2
        exact ⟨KeepsOthers.refl _, rfl, by show (bestTo marks W seen ((pre ++ [(⟨x, hx1, hx2⟩ : Sh)]).map (·.1))).2 = _; rw [Hb.out, HE.out, HqE.out], by show BestSt w W0 b5 b6 (bestTo marks W seen ((pre ++ [(⟨x, hx1, hx2⟩ : Sh)]).map (·.1))) _; rw [Hb.out, HE.out]; exact HS.out⟩
      · have hd : (ct == q) = false := by simpa using hcq
        gi_wp2_with fail
        refine ⟨trivial, (CallsIn.inRound l (callsIn_wide.2 HC.out)).mono ?_⟩
        rintro e X3 ⟨rfl, hb3⟩
        have hS3 := HS.out.later hb3 hbel.size
        have HKo : Hid (KeepsOthers X X3) := KeepsOthers.of_grownBy (grownBy_below hb3 none) (fun j o ej _ => by cases ej)
        have c5' := cellOf hS3.shift 0 (x := .int .i64 sh) rfl
        have c6' := cellOf hS3.count 0 (x := .int .i64 ct) rfl
        have f5 := hS3.shift.frozen 0
        have f6 := hS3.count.frozen 0
        have hne : b5 ≠ b6 := by omega
        have hcl := countD_le marks W seen x
        have HS3 := Lib.hid hS3
        rw [Hn.out] at hcl
        obtain ⟨cn, hcn⟩ : ∃ cn, countD marks W seen x = cn := ⟨_, rfl⟩
        have Hcn := Lib.hid hcn
        rw [hcn] at hcl
        rw [hcn]
        clear hcn hS3 hb3 HC c6 c7 c0 c1 c4
        by_cases hbt : ct < (cn : Int)
        · have HE : Hid (stepD marks W seen q (sh, ct) x = (x, (cn : Int))) := by show stepD _ _ _ _ _ _ = _; unfold stepD; rw [if_neg hcq, Hcn.out, if_pos hbt]
          clear hcq hd
          gi_wp2
          exact ⟨(HKo.out.trans (KeepsOthers.setCell _ _ _)).trans (KeepsOthers.setCell _ _ _), trivial, by show BestSt w W0 b5 b6 (bestTo marks W seen ((pre ++ [(⟨x, hx1, hx2⟩ : Sh)]).map (·.1))) _; rw [Hb.out, HE.out]; exact HS3.out.put hne (by omega) (by omega) _ _⟩
        · have HE : Hid (stepD marks W seen q (sh, ct) x = (sh, ct)) := by show stepD _ _ _ _ _ _ = _; unfold stepD; rw [if_neg hcq, Hcn.out, if_neg hbt]
          clear hcq hd
          gi_wp2
          exact ⟨HKo.out, trivial, by show BestSt w W0 b5 b6 (bestTo marks W seen ((pre ++ [(⟨x, hx1, hx2⟩ : Sh)]).map (·.1))) _; rw [Hb.out, HE.out]; exact HS3.out⟩
    case done =>
      rintro D ys X hD rfl hst hK
      rw [shiftsS_val (Nat.le_refl _)] at hst
      replace hst : BestSt w W0 b5 b6 (bestD marks W seen) X := hst
      obtain ⟨⟨sh, ct⟩, hE⟩ : ∃ st, bestD marks W seen = st := ⟨_, rfl⟩
      rw [hE] at hst
      have HE := Lib.hid hE
      have hsb := best_bound hE
      obtain ⟨X1, e1, hb1, F1⟩ : ∃ X1, X.alloc (.cells #[.int .i64 sh, .int .i64 ct, .slice none 0 0] 52) = X1 ∧ Below X.heap.size X X1 ∧ Blk X1 X.heap.size 52 #[.int .i64 sh, .int .i64 ct, .slice none 0 0] := ⟨_, rfl, below_alloc _ _, Blk.new _ _ _⟩
      have E1 := Lib.hid e1
      have c5 := cellOf hst.shift 0 (x := .int .i64 sh) rfl
      have c6 := cellOf hst.count 0 (x := .int .i64 ct) rfl
      have hst1 := hst.later hb1 hst.below.size
      have hz1 : X1.heap.size = X.heap.size + 1 := by rw [← e1]; simp
      have hK1 : X1.heap[D]? = some (.deferred (some [])) := (hb1.block D (Array.getElem?_eq_some_iff.1 hK).1).trans hK
      have hDX := (Array.getElem?_eq_some_iff.1 hK).1
      have hXs := hst.size
      obtain ⟨F, hF⟩ : ∃ F, X.heap.size = F := ⟨_, rfl⟩
      rw [hF] at F1 hz1
      have HI1 : Hid (FitSt w W0 b5 b6 (sh, ct) X1 D F marks W seen 0 X1) := ⟨hst1, hK1, .slice none 0 0, F1, World.ownsRow_nil _ _ _ _⟩
      clear hst hE e1 hb1 F1 hst1 hK1 hK
      go_upto_region 11 with fail
      rw [E1.out]
      have hF0 : W0.heap.size ≤ F := by omega
      have hDF : D < F := by omega
      clear c5 c6 hF E1
      have c0 := cellOf (HI1.out.st.blk HL0.out (by omega) (by omega)) 0 (x := .slice A n c) rfl
      go_wp2
      clear c0
      go_loopw [13, 43] (fun _ i wr => ∃ k : Nat, k ≤ n ∧ i = .int .i64 k ∧ FitSt w W0 b5 b6 (sh, ct) X1 D F marks W seen k wr) (fun _ i _ => n - (intOf i).toNat)
      case atStart => exact ⟨0, Nat.zero_le _, rfl, HI1.out⟩
      case round =>
        obtain ⟨k, hk, rfl, hfs⟩ := hrel
        by_cases hlt : k < n
        · obtain ⟨g, o, x, rfl, hg, cx, hx⟩ := HA.out k (by rw [Hn.out]; exact hlt)
          have hlx : marks[k]? = some x := by
            have h1 := hx.out
            have h2 : k < marks.length := by rw [Hn.out]; exact hlt
            rw [List.getD_eq_getElem?_getD, List.getElem?_eq_getElem h2, Option.getD_some] at h1
            rw [List.getElem?_eq_getElem h2, h1]
          have hxb := HMk.out x (List.mem_of_getElem? hlx)
          have HL := Lib.hid hlx
          have cx' := (hfs.st.below.cell (p := ⟨g, o + k, none⟩) hg).trans cx
          have hzr := hfs.st.size
          have hzX := hfs.st.below.size
          have hDr := (Array.getElem?_eq_some_iff.1 hfs.def_).1
          obtain ⟨u, hFB, hO⟩ := hfs.fit
          replace hO : wr.ownsRow X1.heap.size 3 1 u k (((fitTo marks W seen sh).take k).map (Value.int .i64)) := by
            have h1 := hO
            unfold OInts at h1
            rwa [List.length_take, fitTo_len, Hn.out, Nat.min_eq_left hk] at h1
          obtain ⟨Au, cu, rfl⟩ := ownsRow_form hO
          have cF := cellOf hFB 2 (x := .slice Au k cu) rfl
          have c4 := cellOf (hfs.st.blk HL4.out (by omega) (by omega)) 0 (x := .func (.func 71) #[] #[.pointer (some ⟨b3, 0, none⟩), .pointer (some ⟨b2, 0, none⟩)]) rfl
          have c5 := cellOf hfs.st.shift 0 (x := .int .i64 sh) rfl
          have HFS := Lib.hid hfs
          have HOw := Lib.hid hO
          have HFBl := Lib.hid hFB
          obtain ⟨f, hf⟩ : ∃ f, findD seen (x + sh - W) (x + sh + W) = f := ⟨_, rfl⟩
          have Hf := Lib.hid hf
          have kw : IntKind.i64.wrap (x + sh) = x + sh := IntWalk.i64_in _ ⟨by omega, by omega⟩
          have CF : Hid (∀ Y, Below wr.heap.size wr Y → Calls Try.prog 71 #[.int .i64 (x + sh), .pointer (some ⟨b3, 0, none⟩), .pointer (some ⟨b2, 0, none⟩)] Y fun e w' => e = .returned (.int .i64 f) ∧ Below wr.heap.size wr w' ∧ (w'.cell? ⟨b4, 0, none⟩ = some (.func (.func 71) #[] #[.pointer (some ⟨b3, 0, none⟩), .pointer (some ⟨b2, 0, none⟩)]) ∧ w'.cell? ⟨b5, 0, none⟩ = some (.int .i64 sh)) ∧ w'.cell? ⟨F, 2, none⟩ = some (.slice Au k cu) ∧ F < w'.heap.size) := fun Y hY => by
            have hstY := HFS.out.st.later hY (by omega)
            refine ((find_call (HFk.out _ _ hstY) HO.out (x + sh) (by omega))).mono ?_
            rintro e w' ⟨rfl, hb⟩
            have hst' := hstY.later hb hstY.below.size
            have hFB' := (HFBl.out.below hY HFBl.out.lt).below hb (HFBl.out.below hY HFBl.out.lt).lt
            exact ⟨by rw [Hf.out], hY.trans (hb.mono hY.size), ⟨cellOf (hst'.blk HL4.out (by omega) (by omega)) 0 rfl, cellOf hst'.shift 0 rfl⟩, cellOf hFB' 2 rfl, hFB'.lt⟩
          have HAp : Hid (∀ w5 w6 v', Below wr.heap.size wr w5 → (w5.alloc (.cells #[.int .i64 f] 3)).grownBy w6 (Value.slice Au k cu).ownBlock → w6.ownsRow X1.heap.size 3 1 v' (k + 1) (((fitTo marks W seen sh).take k).map (Value.int .i64) ++ [.int .i64 f]) →
              (w6.cell? ⟨b4, 0, none⟩ = some (.func (.func 71) #[] #[.pointer (some ⟨b3, 0, none⟩), .pointer (some ⟨b2, 0, none⟩)]) ∧ w6.cell? ⟨b5, 0, none⟩ = some (.int .i64 sh)) ∧ w6.cell? ⟨F, 2, none⟩ = some (.slice Au k cu) ∧ w6.frozen? ⟨F, 2, none⟩ = false ∧ F < w6.heap.size ∧ FitSt w W0 b5 b6 (sh, ct) X1 D F marks W seen (k + 1) (w6.setCell ⟨F, 2, none⟩ v')) := fun w5 w6 v' h5 hg ho => by
            have hst5 := HFS.out.st.later h5 (by omega)
            have ho5 := ownsRow_below HOw.out h5
            have hrow : ∀ j, (Value.slice Au k cu).ownBlock = some j → X1.heap.size ≤ j ∧ j < w5.heap.size := ho5.lt
            have hnr : ∀ j, j < X1.heap.size → some j ≠ (Value.slice Au k cu).ownBlock := fun j hj e => by have := (hrow j e.symm).1; omega
            have hF5 := HFBl.out.below h5 HFBl.out.lt
            have hFne : some F ≠ (Value.slice Au k cu).ownBlock := not_row' hF5 (by decide) ho5
            have h56 : ∀ j, j < w5.heap.size → some j ≠ (Value.slice Au k cu).ownBlock → w6.heap[j]? = w5.heap[j]? := fun j hj hne => (hg.block j (by simp; omega) hne).trans (Below.heap_alloc w5 _ j hj)
            have hF6 : Blk w6 F 52 #[.int .i64 sh, .int .i64 ct, .slice Au k cu] := (h56 F hF5.lt hFne).trans hF5
            have hz5 := h5.size
            have hz6 : w5.heap.size ≤ w6.heap.size := by have := hg.size; simp at this; omega
            have hst6 : BestSt w W0 b5 b6 (sh, ct) w6 := ⟨(hst5.below.alloc hst5.below.size _).grown hg (by simp; have := hst5.below.size; omega) (fun j hj => by have := (hrow j hj).1; omega), fun j hj h1 h2 => (h56 j (by have := hst5.size; omega) (hnr j (by omega))).trans (hst5.keep j hj h1 h2), by have := hst5.size; omega,
              (h56 b5 hst5.shift.lt (hnr b5 (by omega))).trans hst5.shift, (h56 b6 hst5.count.lt (hnr b6 (by omega))).trans hst5.count⟩
            have hFb6 : F ≠ b6 := by omega
            have hFb5 : F ≠ b5 := by omega
            refine ⟨⟨cellOf (hst6.blk HL4.out (by omega) (by omega)) 0 rfl, cellOf hst6.shift 0 rfl⟩, cellOf hF6 2 rfl, hF6.frozen 2, hF6.lt, ?_⟩
            refine ⟨⟨hst6.below.setCell (p := ⟨F, 2, none⟩) (by show w.heap.size ≤ F; omega) _, fun j hj h1 h2 => by rw [Below.heap_setCell _ _ _ j (by show j ≠ F; omega)]; exact hst6.keep j hj h1 h2, by simpa [World.setCell] using hst6.size, hst6.shift.far (p := ⟨F, 2, none⟩) hFb5.symm _, hst6.count.far (p := ⟨F, 2, none⟩) hFb6.symm _⟩, ?_, v', hF6.put 2 v', ?_⟩
            · have hD5 : w5.heap[D]? = some (.deferred (some [])) := (h5.block D hDr).trans HFS.out.def_
              rw [Below.heap_setCell _ _ _ D (by show D ≠ F; omega), h56 D (by omega) (hnr D (by omega))]
              exact hD5
            · have h1 : w6.ownsRow X1.heap.size 3 1 v' ((fitTo marks W seen sh).take (k + 1)).length (((fitTo marks W seen sh).take (k + 1)).map (Value.int .i64)) := by
                rw [take_snoc_get (fitTo_at HL.out), Hf.out, List.length_append, List.length_take, fitTo_len, Hn.out, Nat.min_eq_left hk, List.map_append]
                exact ho
              exact ownsRow_keptBut h1 (KeptBut.setCell (S := fun j => j = F) (p := ⟨F, 2, none⟩) rfl _) fun g' cs hg' hB => by
                rintro rfl
                exact Blk.ne hB hF6 (by decide) rfl
          clear hfs hFB hO hf hlx hx
          obtain ⟨i0, hi, hz0, hz1', hz2⟩ := info_parts infoInt0
          have hF1 := HFBl.out.lt
          have hX1w : X1.heap.size ≤ wr.heap.size := by
            rcases Nat.lt_or_ge wr.heap.size X1.heap.size with h | h
            · have := HFBl.out.lt; omega
            · exact h
          have nF4 : F ≠ b4 := by omega
          have nF5 : F ≠ b5 := by omega
          have nF4' : b4 ≠ F := by omega
          have nF5' : b5 ≠ F := by omega
          go_upto_region 14 with fail
          refine wp_region_noPanic ?_
          go_region_law (first | (refine step_append_lies _ (by rfl) _ _ _ (by rfl) X1.heap.size 3 i0 (.int .i64 0) 1 8 sliceInts hi hz0 hz1' hz2 rfl (by decide) (.slice Au k cu) k _ (by rfl) (by first | exact (ownsRow_below HOw.out h5b).alloc _ | exact ((ownsRow_below HOw.out h5b).alloc _).drew) ⟨w5.heap.size, 0, none⟩ 1 1 [.int .i64 f] (by rfl) (by rfl) (World.news_of_block (cs := #[.int .i64 f]) (t := 3) (fr := (0, 0)) (heap_alloc_new w5 _)) (by simp [Value.oneCell']) (by omega) (by simp only [maxLen]; omega) (by omega) (by have := h5b.size; simp; omega) (w5.heap.size + 1) (by simp) ?_; intro g9 c9 w6 hown' hgrow hat hlt9; have hA6 := HAp.out w5 w6 _ h5b ⟨hgrow.os, hgrow.tape, hgrow.output, hgrow.size, hgrow.block⟩ hown'; have hS6 := hA6.1; have q4 := hA6.1.1; have q5 := hA6.1.2; have p2 := hA6.2.1; have p3 := hA6.2.2.1; have p4 := hA6.2.2.2.1) | (go_simp; go_at_call 71; refine (CF.out _ (by first | exact Below.refl _ _ | exact (Below.refl _ _).drew)).mono ?_; rintro e w5 ⟨rfl, h5b, hc5', hcF5, hlF5⟩; go_wp2_with fail))
          all_goals
            refine NoPanic.normal ?_
            clear kw
            go_wp2
            go_roundw
            case rel => exact ⟨k + 1, by omega, by go_num, hA6.2.2.2.2⟩
            case measure => simp [intOf]; omega
        · have hk' : k = n := by omega
          subst hk'
          obtain ⟨u, hFB, hO⟩ := hfs.fit
          have hT : (fitTo marks W seen sh).take k = fitD marks W seen := by
            unfold fitD
            rw [HE.out, List.take_of_length_le (by rw [fitTo_len, Hn.out]; omega)]
          rw [hT] at hO
          obtain ⟨Au, cu, rfl⟩ := ownsRow_form hO
          have t0 := cellOf hFB 0 (x := .int .i64 sh) rfl
          have t1 := cellOf hFB 1 (x := .int .i64 ct) rfl
          have t2 := cellOf hFB 2 (x := .slice Au (fitD marks W seen).length cu) rfl
          have hR1 := hfs.st.blk HL1.out (by omega) (by omega)
          have r0 := cellOf hR1 0 (x := .int .i64 0) rfl
          have r1 := cellOf hR1 1 (x := .int .i64 0) rfl
          have r2 := cellOf hR1 2 (x := .slice none 0 0) rfl
          have g0 := hR1.frozen 0
          have g1 := hR1.frozen 1
          have g2 := hR1.frozen 2
          have hKr := hfs.def_
          have nbF : b1 ≠ F := by omega
          have HFS := Lib.hid hfs
          have HOw := Lib.hid hO
          have HR1 := Lib.hid hR1
          have HKr := Lib.hid hKr
          clear hfs hFB hO hR1 hKr hT
          have nDb : D ≠ b1 := by omega
          have hbF : b1 < X1.heap.size := by omega
          have h9 : ∃ w9, (((wr.setCell ⟨b1, 0, none⟩ (.int .i64 sh)).setCell ⟨b1, 1, none⟩ (.int .i64 ct)).setCell ⟨b1, 2, none⟩ (.slice Au (fitD marks W seen).length cu)) = w9 ∧ Blk w9 b1 52 #[.int .i64 sh, .int .i64 ct, .slice Au (fitD marks W seen).length cu] ∧ w9.heap[D]? = some (.deferred (some [])) ∧ OInts w.heap.size w9 (.slice Au (fitD marks W seen).length cu) (fitD marks W seen) ∧ Below w.heap.size w w9 := by
            refine ⟨_, rfl, ((HR1.out.put 0 _).put 1 _).put 2 _, ?_, ?_, ?_⟩
            · rw [Below.heap_setCell _ _ _ D nDb, Below.heap_setCell _ _ _ D nDb, Below.heap_setCell _ _ _ D nDb]
              exact HKr.out
            · have hX1w : w.heap.size ≤ X1.heap.size := by have := HFS.out.st.below.size; omega
              refine ownsRow_base (ownsRow_keptBut HOw.out (S := fun j => j = b1) ?_ fun g' cs hg' _ => ?_) hX1w
              · exact ((KeptBut.setCell (S := fun j => j = b1) (p := ⟨b1, 0, none⟩) rfl _).trans (KeptBut.setCell (S := fun j => j = b1) (p := ⟨b1, 1, none⟩) rfl _) fun _ _ h => h).trans (KeptBut.setCell (S := fun j => j = b1) (p := ⟨b1, 2, none⟩) rfl _) fun _ _ h => h
              · rintro rfl
                have := (HOw.out.lt _ hg').1
                omega
            · exact below_set3 HFS.out.st.below (by omega) _ _ _
          obtain ⟨w9, e9, R9, K9, O9, B9⟩ := h9
          have E9 := Lib.hid e9
          have HR9 := Lib.hid R9
          have HK9 := Lib.hid K9
          have HO9 := Lib.hid O9
          have HB9 := Lib.hid B9
          clear e9 R9 K9 O9 B9
          go_wp2
          rw [E9.out]
          refine ⟨by simp, .inl ⟨_, _, rfl, run_takeDeferred HK9.out, ?_⟩⟩
          have x0 := cell_kept (cellOf HR9.out 0 (x := .int .i64 sh) rfl) (grownBy_putObj' w9 D (.deferred none)) (fun r e => by cases e; exact ⟨_, HK9.out, rfl⟩)
          have x1 := cell_kept (cellOf HR9.out 1 (x := .int .i64 ct) rfl) (grownBy_putObj' w9 D (.deferred none)) (fun r e => by cases e; exact ⟨_, HK9.out, rfl⟩)
          have x2 := cell_kept (cellOf HR9.out 2 (x := .slice Au (fitD marks W seen).length cu) rfl) (grownBy_putObj' w9 D (.deferred none)) (fun r e => by cases e; exact ⟨_, HK9.out, rfl⟩)
          refine ⟨.agg #[.int .i64 sh, .int .i64 ct, .slice Au (fitD marks W seen).length cu], by simp [results, Try.results65, go_sem, x0, x1, x2], .slice Au (fitD marks W seen).length cu, by rw [HE.out], ownsRow_putObj HO9.out _ HK9.out rfl, HB9.out.trans (belowK_b (w := w) (Nat.le_refl _) w9 D _ _ (by omega) HK9.out rfl rfl)⟩
    case stop =>
      rintro D c pre X hD hpre ⟨rfl, he, hst⟩ hK
      have hE2 : bestTo marks W seen (pre.map (·.1)) = bestD marks W seen := by
        obtain ⟨m, hm⟩ := hpre
        have h1 := shiftsS_val (k := 2000) (Nat.le_refl _)
        rw [← hm, List.map_append] at h1
        show _ = bestTo marks W seen shiftsL
        unfold shiftsL
        rw [← h1, bestTo_stays he]
      rw [hE2] at hst
      clear hE2 he hpre
      refine wpIn_wide.2 ?_
      obtain ⟨⟨sh, ct⟩, hE⟩ : ∃ st, bestD marks W seen = st := ⟨_, rfl⟩
      rw [hE] at hst
      have HE := Lib.hid hE
      have hsb := best_bound hE
      obtain ⟨X1, e1, hb1, F1⟩ : ∃ X1, X.alloc (.cells #[.int .i64 sh, .int .i64 ct, .slice none 0 0] 52) = X1 ∧ Below X.heap.size X X1 ∧ Blk X1 X.heap.size 52 #[.int .i64 sh, .int .i64 ct, .slice none 0 0] := ⟨_, rfl, below_alloc _ _, Blk.new _ _ _⟩
      have E1 := Lib.hid e1
      have c5 := cellOf hst.shift 0 (x := .int .i64 sh) rfl
      have c6 := cellOf hst.count 0 (x := .int .i64 ct) rfl
      have hst1 := hst.later hb1 hst.below.size
      have hz1 : X1.heap.size = X.heap.size + 1 := by rw [← e1]; simp
      have hK1 : X1.heap[D]? = some (.deferred (some [])) := (hb1.block D (Array.getElem?_eq_some_iff.1 hK).1).trans hK
      have hDX := (Array.getElem?_eq_some_iff.1 hK).1
      have hXs := hst.size
      obtain ⟨F, hF⟩ : ∃ F, X.heap.size = F := ⟨_, rfl⟩
      rw [hF] at F1 hz1
      have HI1 : Hid (FitSt w W0 b5 b6 (sh, ct) X1 D F marks W seen 0 X1) := ⟨hst1, hK1, .slice none 0 0, F1, World.ownsRow_nil _ _ _ _⟩
      clear hst hE e1 hb1 F1 hst1 hK1 hK
      go_upto_region 11 with fail
      rw [E1.out]
      have hF0 : W0.heap.size ≤ F := by omega
      have hDF : D < F := by omega
      clear c5 c6 hF E1
      have c0 := cellOf (HI1.out.st.blk HL0.out (by omega) (by omega)) 0 (x := .slice A n c) rfl
      go_wp2
      clear c0
      go_loopw [13, 43] (fun _ i wr => ∃ k : Nat, k ≤ n ∧ i = .int .i64 k ∧ FitSt w W0 b5 b6 (sh, ct) X1 D F marks W seen k wr) (fun _ i _ => n - (intOf i).toNat)
      case atStart => exact ⟨0, Nat.zero_le _, rfl, HI1.out⟩
      case round =>
        obtain ⟨k, hk, rfl, hfs⟩ := hrel
        by_cases hlt : k < n
        · obtain ⟨g, o, x, rfl, hg, cx, hx⟩ := HA.out k (by rw [Hn.out]; exact hlt)
          have hlx : marks[k]? = some x := by
            have h1 := hx.out
            have h2 : k < marks.length := by rw [Hn.out]; exact hlt
            rw [List.getD_eq_getElem?_getD, List.getElem?_eq_getElem h2, Option.getD_some] at h1
            rw [List.getElem?_eq_getElem h2, h1]
          have hxb := HMk.out x (List.mem_of_getElem? hlx)
          have HL := Lib.hid hlx
          have cx' := (hfs.st.below.cell (p := ⟨g, o + k, none⟩) hg).trans cx
          have hzr := hfs.st.size
          have hzX := hfs.st.below.size
          have hDr := (Array.getElem?_eq_some_iff.1 hfs.def_).1
          obtain ⟨u, hFB, hO⟩ := hfs.fit
          replace hO : wr.ownsRow X1.heap.size 3 1 u k (((fitTo marks W seen sh).take k).map (Value.int .i64)) := by
            have h1 := hO
            unfold OInts at h1
            rwa [List.length_take, fitTo_len, Hn.out, Nat.min_eq_left hk] at h1
          obtain ⟨Au, cu, rfl⟩ := ownsRow_form hO
          have cF := cellOf hFB 2 (x := .slice Au k cu) rfl
          have c4 := cellOf (hfs.st.blk HL4.out (by omega) (by omega)) 0 (x := .func (.func 71) #[] #[.pointer (some ⟨b3, 0, none⟩), .pointer (some ⟨b2, 0, none⟩)]) rfl
          have c5 := cellOf hfs.st.shift 0 (x := .int .i64 sh) rfl
          have HFS := Lib.hid hfs
          have HOw := Lib.hid hO
          have HFBl := Lib.hid hFB
          obtain ⟨f, hf⟩ : ∃ f, findD seen (x + sh - W) (x + sh + W) = f := ⟨_, rfl⟩
          have Hf := Lib.hid hf
          have kw : IntKind.i64.wrap (x + sh) = x + sh := IntWalk.i64_in _ ⟨by omega, by omega⟩
          have CF : Hid (∀ Y, Below wr.heap.size wr Y → Calls Try.prog 71 #[.int .i64 (x + sh), .pointer (some ⟨b3, 0, none⟩), .pointer (some ⟨b2, 0, none⟩)] Y fun e w' => e = .returned (.int .i64 f) ∧ Below wr.heap.size wr w' ∧ (w'.cell? ⟨b4, 0, none⟩ = some (.func (.func 71) #[] #[.pointer (some ⟨b3, 0, none⟩), .pointer (some ⟨b2, 0, none⟩)]) ∧ w'.cell? ⟨b5, 0, none⟩ = some (.int .i64 sh)) ∧ w'.cell? ⟨F, 2, none⟩ = some (.slice Au k cu) ∧ F < w'.heap.size) := fun Y hY => by
            have hstY := HFS.out.st.later hY (by omega)
            refine ((find_call (HFk.out _ _ hstY) HO.out (x + sh) (by omega))).mono ?_
            rintro e w' ⟨rfl, hb⟩
            have hst' := hstY.later hb hstY.below.size
            have hFB' := (HFBl.out.below hY HFBl.out.lt).below hb (HFBl.out.below hY HFBl.out.lt).lt
            exact ⟨by rw [Hf.out], hY.trans (hb.mono hY.size), ⟨cellOf (hst'.blk HL4.out (by omega) (by omega)) 0 rfl, cellOf hst'.shift 0 rfl⟩, cellOf hFB' 2 rfl, hFB'.lt⟩
          have HAp : Hid (∀ w5 w6 v', Below wr.heap.size wr w5 → (w5.alloc (.cells #[.int .i64 f] 3)).grownBy w6 (Value.slice Au k cu).ownBlock → w6.ownsRow X1.heap.size 3 1 v' (k + 1) (((fitTo marks W seen sh).take k).map (Value.int .i64) ++ [.int .i64 f]) →
              (w6.cell? ⟨b4, 0, none⟩ = some (.func (.func 71) #[] #[.pointer (some ⟨b3, 0, none⟩), .pointer (some ⟨b2, 0, none⟩)]) ∧ w6.cell? ⟨b5, 0, none⟩ = some (.int .i64 sh)) ∧ w6.cell? ⟨F, 2, none⟩ = some (.slice Au k cu) ∧ w6.frozen? ⟨F, 2, none⟩ = false ∧ F < w6.heap.size ∧ FitSt w W0 b5 b6 (sh, ct) X1 D F marks W seen (k + 1) (w6.setCell ⟨F, 2, none⟩ v')) := fun w5 w6 v' h5 hg ho => by
            have hst5 := HFS.out.st.later h5 (by omega)
            have ho5 := ownsRow_below HOw.out h5
            have hrow : ∀ j, (Value.slice Au k cu).ownBlock = some j → X1.heap.size ≤ j ∧ j < w5.heap.size := ho5.lt
            have hnr : ∀ j, j < X1.heap.size → some j ≠ (Value.slice Au k cu).ownBlock := fun j hj e => by have := (hrow j e.symm).1; omega
            have hF5 := HFBl.out.below h5 HFBl.out.lt
            have hFne : some F ≠ (Value.slice Au k cu).ownBlock := not_row' hF5 (by decide) ho5
            have h56 : ∀ j, j < w5.heap.size → some j ≠ (Value.slice Au k cu).ownBlock → w6.heap[j]? = w5.heap[j]? := fun j hj hne => (hg.block j (by simp; omega) hne).trans (Below.heap_alloc w5 _ j hj)
            have hF6 : Blk w6 F 52 #[.int .i64 sh, .int .i64 ct, .slice Au k cu] := (h56 F hF5.lt hFne).trans hF5
            have hz5 := h5.size
            have hz6 : w5.heap.size ≤ w6.heap.size := by have := hg.size; simp at this; omega
            have hst6 : BestSt w W0 b5 b6 (sh, ct) w6 := ⟨(hst5.below.alloc hst5.below.size _).grown hg (by simp; have := hst5.below.size; omega) (fun j hj => by have := (hrow j hj).1; omega), fun j hj h1 h2 => (h56 j (by have := hst5.size; omega) (hnr j (by omega))).trans (hst5.keep j hj h1 h2), by have := hst5.size; omega,
              (h56 b5 hst5.shift.lt (hnr b5 (by omega))).trans hst5.shift, (h56 b6 hst5.count.lt (hnr b6 (by omega))).trans hst5.count⟩
            have hFb6 : F ≠ b6 := by omega
            have hFb5 : F ≠ b5 := by omega
            refine ⟨⟨cellOf (hst6.blk HL4.out (by omega) (by omega)) 0 rfl, cellOf hst6.shift 0 rfl⟩, cellOf hF6 2 rfl, hF6.frozen 2, hF6.lt, ?_⟩
            refine ⟨⟨hst6.below.setCell (p := ⟨F, 2, none⟩) (by show w.heap.size ≤ F; omega) _, fun j hj h1 h2 => by rw [Below.heap_setCell _ _ _ j (by show j ≠ F; omega)]; exact hst6.keep j hj h1 h2, by simpa [World.setCell] using hst6.size, hst6.shift.far (p := ⟨F, 2, none⟩) hFb5.symm _, hst6.count.far (p := ⟨F, 2, none⟩) hFb6.symm _⟩, ?_, v', hF6.put 2 v', ?_⟩
            · have hD5 : w5.heap[D]? = some (.deferred (some [])) := (h5.block D hDr).trans HFS.out.def_
              rw [Below.heap_setCell _ _ _ D (by show D ≠ F; omega), h56 D (by omega) (hnr D (by omega))]
              exact hD5
            · have h1 : w6.ownsRow X1.heap.size 3 1 v' ((fitTo marks W seen sh).take (k + 1)).length (((fitTo marks W seen sh).take (k + 1)).map (Value.int .i64)) := by
                rw [take_snoc_get (fitTo_at HL.out), Hf.out, List.length_append, List.length_take, fitTo_len, Hn.out, Nat.min_eq_left hk, List.map_append]
                exact ho
              exact ownsRow_keptBut h1 (KeptBut.setCell (S := fun j => j = F) (p := ⟨F, 2, none⟩) rfl _) fun g' cs hg' hB => by
                rintro rfl
                exact Blk.ne hB hF6 (by decide) rfl
          clear hfs hFB hO hf hlx hx
          obtain ⟨i0, hi, hz0, hz1', hz2⟩ := info_parts infoInt0
          have hF1 := HFBl.out.lt
          have hX1w : X1.heap.size ≤ wr.heap.size := by
            rcases Nat.lt_or_ge wr.heap.size X1.heap.size with h | h
            · have := HFBl.out.lt; omega
            · exact h
          have nF4 : F ≠ b4 := by omega
          have nF5 : F ≠ b5 := by omega
          have nF4' : b4 ≠ F := by omega
          have nF5' : b5 ≠ F := by omega
          go_upto_region 14 with fail
          refine wp_region_noPanic ?_
          go_region_law (first | (refine step_append_lies _ (by rfl) _ _ _ (by rfl) X1.heap.size 3 i0 (.int .i64 0) 1 8 sliceInts hi hz0 hz1' hz2 rfl (by decide) (.slice Au k cu) k _ (by rfl) (by first | exact (ownsRow_below HOw.out h5b).alloc _ | exact ((ownsRow_below HOw.out h5b).alloc _).drew) ⟨w5.heap.size, 0, none⟩ 1 1 [.int .i64 f] (by rfl) (by rfl) (World.news_of_block (cs := #[.int .i64 f]) (t := 3) (fr := (0, 0)) (heap_alloc_new w5 _)) (by simp [Value.oneCell']) (by omega) (by simp only [maxLen]; omega) (by omega) (by have := h5b.size; simp; omega) (w5.heap.size + 1) (by simp) ?_; intro g9 c9 w6 hown' hgrow hat hlt9; have hA6 := HAp.out w5 w6 _ h5b ⟨hgrow.os, hgrow.tape, hgrow.output, hgrow.size, hgrow.block⟩ hown'; have hS6 := hA6.1; have q4 := hA6.1.1; have q5 := hA6.1.2; have p2 := hA6.2.1; have p3 := hA6.2.2.1; have p4 := hA6.2.2.2.1) | (go_simp; go_at_call 71; refine (CF.out _ (by first | exact Below.refl _ _ | exact (Below.refl _ _).drew)).mono ?_; rintro e w5 ⟨rfl, h5b, hc5', hcF5, hlF5⟩; go_wp2_with fail))
          all_goals
            refine NoPanic.normal ?_
            clear kw
            go_wp2
            go_roundw
            case rel => exact ⟨k + 1, by omega, by go_num, hA6.2.2.2.2⟩
            case measure => simp [intOf]; omega
        · have hk' : k = n := by omega
          subst hk'
          obtain ⟨u, hFB, hO⟩ := hfs.fit
          have hT : (fitTo marks W seen sh).take k = fitD marks W seen := by
            unfold fitD
            rw [HE.out, List.take_of_length_le (by rw [fitTo_len, Hn.out]; omega)]
          rw [hT] at hO
          obtain ⟨Au, cu, rfl⟩ := ownsRow_form hO
          have t0 := cellOf hFB 0 (x := .int .i64 sh) rfl
          have t1 := cellOf hFB 1 (x := .int .i64 ct) rfl
          have t2 := cellOf hFB 2 (x := .slice Au (fitD marks W seen).length cu) rfl
          have hR1 := hfs.st.blk HL1.out (by omega) (by omega)
          have r0 := cellOf hR1 0 (x := .int .i64 0) rfl
          have r1 := cellOf hR1 1 (x := .int .i64 0) rfl
          have r2 := cellOf hR1 2 (x := .slice none 0 0) rfl
          have g0 := hR1.frozen 0
          have g1 := hR1.frozen 1
          have g2 := hR1.frozen 2
          have hKr := hfs.def_
          have nbF : b1 ≠ F := by omega
          have HFS := Lib.hid hfs
          have HOw := Lib.hid hO
          have HR1 := Lib.hid hR1
          have HKr := Lib.hid hKr
          clear hfs hFB hO hR1 hKr hT
          have nDb : D ≠ b1 := by omega
          have hbF : b1 < X1.heap.size := by omega
          have h9 : ∃ w9, (((wr.setCell ⟨b1, 0, none⟩ (.int .i64 sh)).setCell ⟨b1, 1, none⟩ (.int .i64 ct)).setCell ⟨b1, 2, none⟩ (.slice Au (fitD marks W seen).length cu)) = w9 ∧ Blk w9 b1 52 #[.int .i64 sh, .int .i64 ct, .slice Au (fitD marks W seen).length cu] ∧ w9.heap[D]? = some (.deferred (some [])) ∧ OInts w.heap.size w9 (.slice Au (fitD marks W seen).length cu) (fitD marks W seen) ∧ Below w.heap.size w w9 := by
            refine ⟨_, rfl, ((HR1.out.put 0 _).put 1 _).put 2 _, ?_, ?_, ?_⟩
            · rw [Below.heap_setCell _ _ _ D nDb, Below.heap_setCell _ _ _ D nDb, Below.heap_setCell _ _ _ D nDb]
              exact HKr.out
            · have hX1w : w.heap.size ≤ X1.heap.size := by have := HFS.out.st.below.size; omega
              refine ownsRow_base (ownsRow_keptBut HOw.out (S := fun j => j = b1) ?_ fun g' cs hg' _ => ?_) hX1w
              · exact ((KeptBut.setCell (S := fun j => j = b1) (p := ⟨b1, 0, none⟩) rfl _).trans (KeptBut.setCell (S := fun j => j = b1) (p := ⟨b1, 1, none⟩) rfl _) fun _ _ h => h).trans (KeptBut.setCell (S := fun j => j = b1) (p := ⟨b1, 2, none⟩) rfl _) fun _ _ h => h
              · rintro rfl
                have := (HOw.out.lt _ hg').1
                omega
            · exact below_set3 HFS.out.st.below (by omega) _ _ _
          obtain ⟨w9, e9, R9, K9, O9, B9⟩ := h9
          have E9 := Lib.hid e9
          have HR9 := Lib.hid R9
          have HK9 := Lib.hid K9
          have HO9 := Lib.hid O9
          have HB9 := Lib.hid B9
          clear e9 R9 K9 O9 B9
          go_wp2
          rw [E9.out]
          refine ⟨by simp, .inl ⟨_, _, rfl, run_takeDeferred HK9.out, ?_⟩⟩
          have x0 := cell_kept (cellOf HR9.out 0 (x := .int .i64 sh) rfl) (grownBy_putObj' w9 D (.deferred none)) (fun r e => by cases e; exact ⟨_, HK9.out, rfl⟩)
          have x1 := cell_kept (cellOf HR9.out 1 (x := .int .i64 ct) rfl) (grownBy_putObj' w9 D (.deferred none)) (fun r e => by cases e; exact ⟨_, HK9.out, rfl⟩)
          have x2 := cell_kept (cellOf HR9.out 2 (x := .slice Au (fitD marks W seen).length cu) rfl) (grownBy_putObj' w9 D (.deferred none)) (fun r e => by cases e; exact ⟨_, HK9.out, rfl⟩)
          refine ⟨.agg #[.int .i64 sh, .int .i64 ct, .slice Au (fitD marks W seen).length cu], by simp [results, Try.results65, go_sem, x0, x1, x2], .slice Au (fitD marks W seen).length cu, by rw [HE.out], ownsRow_putObj HO9.out _ HK9.out rfl, HB9.out.trans (belowK_b (w := w) (Nat.le_refl _) w9 D _ _ (by omega) HK9.out rfl rfl)⟩
end Go.Proofs.Ytffodgpafiifcaa
