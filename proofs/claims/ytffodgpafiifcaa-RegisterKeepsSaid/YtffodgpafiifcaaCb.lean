/-
  drift; Bound; farthest; areWithin.
-/
import Derived.Test.YtffodgpafiifcaaCa
namespace Go.Proofs.Ytffodgpafiifcaa
open Go.RowKit

def LoopD.cells (l : LoopD) : Array Value := #[.int .i64 l.dead, .int .i64 l.noise, .int .i64 l.blur, .int .i64 l.step]

set_option maxHeartbeats 1000000 in
theorem drift_any (l : LoopD) (h : LoopOk l) (w : World) : Calls Try.prog 41 #[l.val] w fun e w' => e = .returned (.int .i64 ((l.dead + 1) * l.noise)) ∧ Below w.heap.size w w' := by
  obtain ⟨d, n, b, s⟩ := l
  obtain ⟨h1, h2, h3, h4, -⟩ := h
  unfold LoopD.val
  simp only at h1 h2 h3 h4 ⊢
  have h5 : 0 ≤ (d + 1) * n := Int.mul_nonneg (by omega) h3
  have h6 : (d + 1) * n ≤ 21 * 1000 := Int.mul_le_mul (by omega) h4 h3 (by omega)
  have h7 : (d + 1) * n ≤ 21000 := h6
  clear h6
  go_enter Try.func41, Try.ntmps41
  go_wp2
  go_ret
  exact ⟨rfl, (Below.refl _ _).alloc (Nat.le_refl _) _⟩

def boundRet (l : LoopD) : Value := .tuple #[.int .i64 (if loopB l then boundD l else 0), .int .i64 (checkE l)]
set_option maxHeartbeats 1000000 in
theorem Bound_any (l : LoopD) (w : World) : Calls Try.prog 12 #[l.val] w fun e w' => e = .returned (boundRet l) ∧ Below w.heap.size w w' := by
  obtain ⟨w1, e1, B1, V1⟩ : ∃ w1, w.alloc (.cells l.cells 26) = w1 ∧ Below w.heap.size w w1 ∧ Blk w1 w.heap.size 26 l.cells := ⟨_, rfl, below_alloc _ _, Blk.new _ _ _⟩
  unfold LoopD.cells at e1 V1
  have E1 := Lib.hid e1
  clear e1
  have v0 := cellOf V1 0 (x := .int .i64 l.dead) rfl
  have v1 := cellOf V1 1 (x := .int .i64 l.noise) rfl
  have v2 := cellOf V1 2 (x := .int .i64 l.blur) rfl
  have v3 := cellOf V1 3 (x := .int .i64 l.step) rfl
  unfold LoopD.val
  go_enter Try.func12, Try.ntmps12
  go_upto_region 1 with fail
  rw [E1.out]
  go_wp2_with fail
  refine (Check_any l _).mono ?_
  rintro e w2 ⟨rfl, hb2⟩
  have V2 := V1.below hb2 V1.lt
  have B2 := B1.trans (hb2.mono B1.size)
  clear v0 v1 v2 v3 V1 B1 hb2
  by_cases hok : LoopOk l
  · rw [checkE_ok hok]
    have HR : Hid (boundRet l = .tuple #[.int .i64 ((l.dead + 1) * l.noise + l.blur), .int .i64 0]) := by
      show boundRet l = _
      unfold boundRet
      rw [if_pos ((loopB_iff l).2 hok), checkE_ok hok]; rfl
    have hd := boundD_small hok
    unfold boundD at hd
    have h5 : 0 ≤ (l.dead + 1) * l.noise := Int.mul_nonneg (by have := hok.1; omega) hok.2.2.1
    have h6 := hok.2.2.2.2.1
    have v0 := cellOf V2 0 (x := .int .i64 l.dead) rfl
    have v1 := cellOf V2 1 (x := .int .i64 l.noise) rfl
    have v2 := cellOf V2 2 (x := .int .i64 l.blur) rfl
    have v3 := cellOf V2 3 (x := .int .i64 l.step) rfl
    have HD := Lib.hid (drift_any l hok)
    obtain ⟨y, hy⟩ : ∃ y, (l.dead + 1) * l.noise = y := ⟨_, rfl⟩
    rw [hy] at hd h5 HD HR
    have Hok := Lib.hid hok
    have HF : Hid (∀ X, Below w2.heap.size w2 X → X.cell? ⟨w.heap.size, 0, none⟩ = some (.int .i64 l.dead) ∧ X.cell? ⟨w.heap.size, 1, none⟩ = some (.int .i64 l.noise) ∧ X.cell? ⟨w.heap.size, 2, none⟩ = some (.int .i64 l.blur) ∧ X.cell? ⟨w.heap.size, 3, none⟩ = some (.int .i64 l.step)) := fun X hX =>
      have V := V2.below hX V2.lt
      ⟨cellOf V 0 rfl, cellOf V 1 rfl, cellOf V 2 rfl, cellOf V 3 rfl⟩
    clear hy hok V2
    obtain ⟨hd1, hd2⟩ := hd
    have kw : IntKind.i64.wrap (y + l.blur) = y + l.blur := IntWalk.i64_in _ ⟨by omega, by omega⟩
    go_upto_region 4 with fail
    clear h5 h6 hd1 hd2
    go_region_held3 (fun X => X.cell? ⟨w.heap.size, 0, none⟩ = some (.int .i64 l.dead) ∧ X.cell? ⟨w.heap.size, 1, none⟩ = some (.int .i64 l.noise) ∧ X.cell? ⟨w.heap.size, 2, none⟩ = some (.int .i64 l.blur) ∧ X.cell? ⟨w.heap.size, 3, none⟩ = some (.int .i64 l.step))
      (first | exact HF.out _ hb3 | exact HF.out _ ((Below.refl w2.heap.size w2).drew.trans hb3) | go_keep)
      (first | (go_at_call 41; refine (HD.out _).mono ?_; rintro e w3 ⟨rfl, hb3⟩))
    all_goals
      clear kw
      go_wp2
      go_ret2
      exact ⟨by rw [HR.out]; rfl, B2.trans (((Below.refl w2.heap.size w2).drew.trans hb3).mono B2.size)⟩
  · have hn := checkE_no hok
    have HR : Hid (boundRet l = .tuple #[.int .i64 0, .int .i64 60]) := by
      show boundRet l = _
      unfold boundRet
      rw [if_neg (fun k => hok ((loopB_iff l).1 k)), hn]
    rw [hn]
    clear hn V2
    go_wp2
    go_ret2
    exact ⟨by rw [HR.out]; rfl, B2⟩

/-- How far numbers are from 0. -/
def farD : List Int → Int
  | [] => 0
  | x :: l => max (max x (-x)) (farD l)
theorem farD_snoc (l : List Int) (x : Int) : farD (l ++ [x]) = max (farD l) (max x (-x)) := by
  induction l with
  | nil => show max (max x (-x)) 0 = max 0 _; omega
  | cons y l ih => show max (max y (-y)) (farD (l ++ [x])) = max (max (max y (-y)) (farD l)) _; rw [ih]; omega
theorem farD_nonneg : ∀ l : List Int, 0 ≤ farD l
  | [] => Int.le_refl _
  | x :: l => by have := farD_nonneg l; show 0 ≤ max (max x (-x)) (farD l); omega
theorem farD_le {l : List Int} {m : Int} : 0 ≤ m → (farD l ≤ m ↔ ∀ x ∈ l, x ≤ m ∧ -m ≤ x) := by
  intro hm
  induction l with
  | nil => simp [farD, hm]
  | cons y l ih =>
    show max (max y (-y)) (farD l) ≤ m ↔ _
    constructor
    · intro h x hx
      rcases List.mem_cons.1 hx with rfl | hx
      · omega
      · exact (ih.1 (by omega)) x hx
    · intro h
      have h1 := h y (by simp)
      have h2 := ih.2 fun x hx => h x (by simp [hx])
      omega
theorem farD_max {l : List Int} (h : ∀ x ∈ l, -9223372036854775808 ≤ x ∧ x ≤ 9223372036854775807) : farD l ≤ 9223372036854775808 := by
  induction l with
  | nil => show (0 : Int) ≤ _; omega
  | cons y l ih =>
    have h1 := h y (by simp)
    have h2 := ih fun x hx => h x (by simp [hx])
    show max (max y (-y)) (farD l) ≤ _
    omega
theorem take_snoc_get {l : List Int} {k : Nat} {x : Int} (h : l[k]? = some x) : l.take (k + 1) = l.take k ++ [x] := by
  obtain ⟨hk, rfl⟩ := List.getElem?_eq_some_iff.1 h
  rw [List.take_succ_eq_append_getElem hk]

theorem neg_wrap {x : Int} (h : x < 0) (h2 : -9223372036854775808 ≤ x) : IntKind.u64.wrap (-IntKind.u64.wrap x) = -x := by
  simp [IntKind.wrap, IntKind.bits, IntKind.signed]
  omega
def InI (l : List Int) : Prop := ∀ x ∈ l, -9223372036854775808 ≤ x ∧ x ≤ 9223372036854775807
set_option maxHeartbeats 1000000 in
theorem farthest_any (v : Value) (l : List Int) (w : World) (h : RInts w.heap.size w v l) (hi : InI l) :
    Calls Try.prog 60 #[v] w fun e w' => e = .returned (.int .u64 (farD l)) ∧ w = w' := by
  obtain ⟨A, c, rfl, hlm, hr⟩ := h.open_
  obtain ⟨n, hn⟩ : ∃ n, l.length = n := ⟨_, rfl⟩
  rw [hn] at hr hlm ⊢
  have Hn := Lib.hid hn
  have HI := Lib.hid hi
  clear hn h hi
  go_enter Try.func60, Try.ntmps60
  go_wp2
  go_loop [3, 8] (fun m i => ∃ k : Nat, k ≤ n ∧ i = .int .i64 k ∧ m = .int .u64 (farD (l.take k))) (fun _ i => n - (intOf i).toNat)
  case atStart => exact ⟨0, Nat.zero_le _, rfl, rfl⟩
  case round =>
    obtain ⟨k, hk, rfl, rfl⟩ := hrel
    by_cases hlt : k < n
    · obtain ⟨g, o, x, rfl, hb1, hc, hx⟩ := hr k hlt
      have hg : l[k]? = some x := by
        have h1 := hx.out
        rw [List.getD_eq_getElem?_getD, List.getElem?_eq_getElem (by rw [Hn.out]; exact hlt), Option.getD_some] at h1
        rw [List.getElem?_eq_getElem (by rw [Hn.out]; exact hlt), h1]
      have hxi := HI.out x (List.mem_of_getElem? hg)
      have hS : Hid (farD (l.take (k + 1)) = max (farD (l.take k)) (max x (-x))) := by show _ = _; rw [take_snoc_get hg, farD_snoc]
      have hF0 := farD_nonneg (l.take k)
      have hF1 := farD_max (l := l.take k) fun y hy => HI.out y (List.mem_of_mem_take hy)
      generalize farD (l.take k) = y at *
      obtain ⟨hx1, hx2⟩ := hxi
      clear hr hg hx
      by_cases hneg : x < 0
      · go_wp2
        rw [neg_wrap hneg hx1]
        refine ⟨⟨k + 1, by omega, by go_num, ?_⟩, by simp [intOf]; omega⟩
        rw [hS.out]
        congr 1
        split <;> omega
      · go_wp2
        refine ⟨⟨k + 1, by omega, by go_num, ?_⟩, by simp [intOf]; omega⟩
        rw [hS.out]
        congr 1
        split <;> omega
    · have hk' : k = n := by omega
      subst hk'
      have hT : l.take k = l := List.take_of_length_le (by rw [Hn.out]; omega)
      rw [hT]
      clear hT
      go_wp2
      go_ret
      exact ⟨rfl, rfl⟩

set_option maxHeartbeats 1000000 in
theorem areWithin_any (m : Int) (v : Value) (l : List Int) (w : World) (hm : 0 ≤ m ∧ m ≤ 1000000) (h : RInts w.heap.size w v l) (hi : InI l) :
    Calls Try.prog 43 #[.int .i64 m, v] w fun e w' => e = .returned (.bool (decide (farD l ≤ m))) ∧ w = w' := by
  have HC := Lib.hid (farthest_any v l w h hi)
  obtain ⟨h1, h2⟩ := hm
  clear h hi
  go_enter Try.func43, Try.ntmps43
  go_wp2_with fail
  refine HC.out.mono ?_
  rintro e w' ⟨rfl, rfl⟩
  go_wp2
  go_ret
  exact ⟨rfl, rfl⟩
theorem within_all {m : Int} {l : List Int} (hm : 0 ≤ m) (h : ∀ x ∈ l, x ≤ m ∧ -m ≤ x) : farD l ≤ m := (farD_le hm).2 h
theorem inI_all {m : Int} {l : List Int} (hm : 0 ≤ m ∧ m ≤ 1000000) (h : ∀ x ∈ l, x ≤ m ∧ -m ≤ x) : InI l := fun x hx => by have := h x hx; omega
theorem rints_one {x : Int} {t : TypeId} {w1 : World} {n : Nat} (hB : Blk w1 n t #[.int .i64 x]) : RInts w1.heap.size w1 (.slice (some ⟨n, 0, none⟩) 1 1) [x] :=
  ⟨_, _, rfl, rfl, by simp [maxLen], fun _ => ⟨n, 0, rfl, hB.lt, fun j u hu => by
    have hj := (List.getElem?_eq_some_iff.1 hu).1
    obtain rfl : j = 0 := by simpa using hj
    obtain rfl : Value.int .i64 x = u := by simpa using hu
    exact cellOf hB 0 rfl⟩⟩

instance (l : LoopD) : Decidable (LoopOk l) := decidable_of_iff _ (loopB_iff l)
def settleRet (l : LoopD) (e : Int) : Value :=
  if ¬ LoopOk l then .tuple #[.int .i64 0, .int .i64 60] else if ¬ (e ≤ 1000000 ∧ -1000000 ≤ e) then .tuple #[.int .i64 0, .int .i64 6] else match moreD l e with
    | some m => .tuple #[.int .i64 (l.dead + 1 + m), .int .i64 0]
    | none => .tuple #[.int .i64 0, .int .i64 4]
end Go.Proofs.Ytffodgpafiifcaa
