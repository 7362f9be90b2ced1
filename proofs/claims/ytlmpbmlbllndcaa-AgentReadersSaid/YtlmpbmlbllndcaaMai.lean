/-
  least of supplies.
-/
import Derived.Test.YtlmpbmlbllndcaaMah
namespace Go.Proofs.Ytlmpbmlbllndcaa
open Go.RowKit
attribute [local go_sem] Oper.semAt_some

def supCells (x : Int × Int) : List Value := [.int .i64 x.1, .int .i64 x.2]
def RSups (B : Nat) (w : World) (v : Value) (l : List (Int × Int)) : Prop := Rd B w 2 v l.length (l.flatMap supCells)
theorem sups_later {w : World} {v : Value} {l : List (Int × Int)} (h : RSups w.heap.size w v l) : ∃ A c, v = .slice A l.length c ∧ l.length ≤ 9223372036854775807 ∧ Hid (∀ k x, l[k]? = some x → ∃ g o, A = some ⟨g, o, none⟩ ∧ Hid (∀ X, Below w.heap.size w X → X.cell? ⟨g, o + k * 2, none⟩ = some (.int .i64 x.1) ∧ X.cell? ⟨g, o + k * 2 + 1, none⟩ = some (.int .i64 x.2))) := by
  obtain ⟨A, c, rfl, -, hm, hr⟩ := h
  refine ⟨A, c, rfl, by simpa [maxLen] using hm, fun k x hx => ?_⟩
  have hk : k < l.length := (List.getElem?_eq_some_iff.1 hx).1
  obtain ⟨g, o, hA, hb, hc⟩ := hr (by omega)
  have hf := fun j hj => flat_at supCells 2 (fun _ => rfl) _ k j _ hx hj
  exact ⟨g, o, hA, fun X hX => ⟨(hX.cell (p := ⟨g, o + k * 2, none⟩) hb).trans (hc _ _ (hf 0 (by omega))), (hX.cell (p := ⟨g, o + k * 2 + 1, none⟩) hb).trans (hc _ _ (hf 1 (by omega)))⟩⟩
/-- The least so far. -/
def lstS (l : List (Int × Int)) (k : Nat) : Int × Int := (leastTo ltS none (l.take k)).getD (0, 0)
theorem leastTo_snoc {α : Type} (lt : α → α → Bool) (x : α) : ∀ (l : List α) (b : Option α), leastTo lt b (l ++ [x]) = match leastTo lt b l with
    | none => some x
    | some y => some (if lt x y then x else y)
  | [], none => rfl
  | [], some y => rfl
  | z :: l, none => leastTo_snoc lt x l (some z)
  | z :: l, some y => leastTo_snoc lt x l _
theorem lstS_zero (l : List (Int × Int)) : lstS l 0 = (0, 0) := by simp [lstS, leastTo]
theorem lstS_first {l : List (Int × Int)} {x : Int × Int} (h : l[0]? = some x) : lstS l 1 = x := by
  unfold lstS
  rw [show (1 : Nat) = 0 + 1 from rfl, List.take_add_one, h]
  rfl
theorem lstS_next {l : List (Int × Int)} {k : Nat} {x : Int × Int} (h : l[k]? = some x) (hk : 0 < k) : lstS l (k + 1) = if ltS x (lstS l k) then x else lstS l k := by
  unfold lstS
  rw [List.take_add_one, h, Option.toList_some, leastTo_snoc]
  cases e : leastTo ltS none (l.take k) with
  | none =>
    have := leastTo_none e
    have h1 : k < l.length := (List.getElem?_eq_some_iff.1 h).1
    have h2 : (l.take k).length = k := by rw [List.length_take]; omega
    rw [this] at h2
    simp at h2
    omega
  | some y => rfl
/-- What lies there while the least is looked for. -/
structure LeSt (w : World) (b : Int × Int) (X : World) : Prop where
  low : Below w.heap.size w X
  res : Blk X w.heap.size 150 #[.int .i64 0, .int .i64 0]
  best : Blk X (w.heap.size + 1) 150 #[.int .i64 b.1, .int .i64 b.2]
theorem LeSt.below {w X Y : World} {b : Int × Int} (h : LeSt w b X) (hb : Below X.heap.size X Y) : LeSt w b Y := ⟨h.low.trans (hb.mono h.low.size), h.res.below hb h.res.lt, h.best.below hb h.best.lt⟩
theorem LeSt.put {w X : World} {b : Int × Int} (h : LeSt w b X) (c : Int × Int) : LeSt w c ((X.setCell ⟨w.heap.size + 1, 0, none⟩ (.int .i64 c.1)).setCell ⟨w.heap.size + 1, 1, none⟩ (.int .i64 c.2)) := by
  have hK : KeptBut (fun g => g = w.heap.size + 1) X ((X.setCell ⟨w.heap.size + 1, 0, none⟩ (.int .i64 c.1)).setCell ⟨w.heap.size + 1, 1, none⟩ (.int .i64 c.2)) := (KeptBut.setCell (S := fun g => g = w.heap.size + 1) rfl _).trans (KeptBut.setCell (S := fun g => g = w.heap.size + 1) rfl _) fun _ _ h => h
  exact ⟨h.low.trans (hK.below (fun g hg => by omega) h.low.size), hK.blk h.res (by omega), (h.best.put 0 _).put 1 _⟩
set_option maxRecDepth 100000 in
set_option maxHeartbeats 4000000 in
theorem leastS_any (l : List (Int × Int)) (h0 : 0 < l.length) (v : Value) (w : World) (h : RSups w.heap.size w v l) :
    Calls Try.prog 116 #[v, .func (.func 117) #[] #[]] w fun e w' => e = .returned (.tuple #[.agg #[.int .i64 (lstS l l.length).1, .int .i64 (lstS l l.length).2], .bool true]) ∧ Below w.heap.size w w' := by
  obtain ⟨A, c, rfl, hlm, HD⟩ := sups_later h
  obtain ⟨n, hn⟩ : ∃ n, l.length = n := ⟨_, rfl⟩
  rw [hn] at hlm h0 ⊢
  have HN := Lib.hid hn
  have F0 : ∃ W0, (w.alloc (.cells #[.int .i64 0, .int .i64 0] 150)).alloc (.cells #[.int .i64 0, .int .i64 0] 150) = W0 ∧ Hid (LeSt w (lstS l 0) W0) := by
    refine ⟨_, rfl, sbelow_al (below_alloc _ _) _, (Blk.new _ _ _).alloc _, ?_⟩
    rw [lstS_zero]
    exact blk_new (by simp) _ _
  obtain ⟨W0, e0, HS0⟩ := F0
  have E0 := Lib.hid e0
  obtain ⟨p, hp⟩ : ∃ p, w.heap.size = p := ⟨_, rfl⟩
  have HP := Lib.hid hp
  clear h hn e0 hp
  go_enter Try.func116, Try.ntmps116
  go_upto_region 2 with fail
  rw [E0.out]
  clear E0
  rw [HP.out]
  go_wp2_with fail
  go_loopw [11] (fun i wr => ∃ k : Nat, k ≤ n ∧ i = .int .i64 k ∧ Hid (LeSt w (lstS l k) wr)) (fun i _ => n - (intOf i).toNat)
  case atStart => exact ⟨0, Nat.zero_le _, rfl, HS0.out⟩
  case round =>
  obtain ⟨k, hk, rfl, hst⟩ := hrel
  obtain ⟨X, rfl⟩ : ∃ X : World, X = wr := ⟨_, rfl⟩
  obtain ⟨b, hb⟩ : ∃ b, lstS l k = b := ⟨_, rfl⟩
  rw [hb] at hst
  have HBK := Lib.hid hb
  clear hb
  by_cases hlt : k < n
  · obtain ⟨x, hx⟩ : ∃ x, l[k]? = some x := ⟨_, List.getElem?_eq_getElem (by rw [HN.out]; exact hlt)⟩
    obtain ⟨g, o, rfl, HX⟩ := HD.out k x hx
    obtain ⟨c0, c1⟩ := HX.out X hst.out.low
    have F1 : ∃ X1, X.alloc (.cells #[.int .i64 x.1, .int .i64 x.2] 150) = X1 ∧ Hid (Below X.heap.size X X1) ∧ Hid (Blk X1 X.heap.size 150 #[.int .i64 x.1, .int .i64 x.2]) := ⟨_, rfl, below_alloc _ _, Blk.new _ _ _⟩
    obtain ⟨X1, e1, HX1, HK1⟩ := F1
    have E1 := Lib.hid e1
    have HS1 := Lib.hid (hst.out.below HX1.out)
    have d0 := cellOf HK1.out 0 (x := .int .i64 x.1) rfl
    have d1 := cellOf HK1.out 1 (x := .int .i64 x.2) rfl
    have HXX := Lib.hid hx
    have k0 : (0 : Int) ≤ (k : Int) := by omega
    have k1 : (k : Int) < (n : Int) := by omega
    obtain ⟨q, hq⟩ : ∃ q, X.heap.size = q := ⟨_, rfl⟩
    have HQ := Lib.hid hq
    rw [hq] at d0 d1
    have HPUT : Hid (∀ Y, LeSt w b Y → LeSt w x ((Y.setCell ⟨p + 1, 0, none⟩ (.int .i64 x.1)).setCell ⟨p + 1, 1, none⟩ (.int .i64 x.2))) := fun Y hY => by
      rw [← HP.out]
      exact hY.put x
    have HBC : Hid (∀ Y, LeSt w b Y → Y.cell? ⟨p + 1, 0, none⟩ = some (.int .i64 b.1) ∧ Y.cell? ⟨p + 1, 1, none⟩ = some (.int .i64 b.2) ∧ Y.frozen? ⟨p + 1, 0, none⟩ = false ∧ Y.frozen? ⟨p + 1, 1, none⟩ = false) := fun Y hY => by
      rw [← HP.out]
      exact ⟨cellOf hY.best 0 rfl, cellOf hY.best 1 rfl, hY.best.frozen 0, hY.best.frozen 1⟩
    clear hx e1 hq HX
    by_cases hk0 : k = 0
    · have hkz : ((k : Int) == 0) = true := by simp [hk0]
      have HFIN : Hid (lstS l (k + 1) = x) := by
        show _ = _
        rw [hk0]
        exact lstS_first (by rw [← hk0]; exact HXX.out)
      obtain ⟨b0, b1, f0, f1⟩ := HBC.out X1 HS1.out
      have HS2 := Lib.hid (HPUT.out X1 HS1.out)
      clear hk0
      go_upto_region 5 with fail
      rw [E1.out, HQ.out]
      clear E1 c0 c1
      go_wp2_with fail
      go_roundw
      case rel => exact ⟨k + 1, by omega, by go_num, by show LeSt _ _ _; rw [HFIN.out]; exact HS2.out⟩
      case measure => simp [intOf]; omega
    · have hkz : ((k : Int) == 0) = false := by simp; omega
      have CC := Lib.hid (compare_any x b X1)
      obtain ⟨cc, hcc⟩ : ∃ cc, cmpS x b = cc := ⟨_, rfl⟩
      have hlt' := cmpS_lt x b
      rw [hcc] at CC hlt'
      have HLT := Lib.hid hlt'
      have HFIN : Hid (lstS l (k + 1) = if decide (cc < 0) then x else b) := by
        show _ = _
        rw [lstS_next HXX.out (by omega), HBK.out, HLT.out]
      obtain ⟨b0, b1, f0, f1⟩ := HBC.out X1 HS1.out
      clear hcc hlt' hk0
      go_upto_region 5 with fail
      rw [E1.out, HQ.out]
      clear E1 c0 c1
      go_wp2_with fail
      refine CC.out.mono ?_
      rintro _ Y ⟨rfl, hb2⟩
      have HSY := Lib.hid (HS1.out.below hb2)
      have HKY := Lib.hid (HK1.out.below hb2 HK1.out.lt)
      rw [HQ.out] at HKY
      have d0' := cellOf HKY.out 0 (x := .int .i64 x.1) rfl
      have d1' := cellOf HKY.out 1 (x := .int .i64 x.2) rfl
      obtain ⟨b0', b1', f0', f1'⟩ := HBC.out Y HSY.out
      have HS2 := Lib.hid (HPUT.out Y HSY.out)
      clear CC hb2 d0 d1 b0 b1 f0 f1
      by_cases hc : cc < 0
      · have HF2 : Hid (lstS l (k + 1) = x) := by show _ = _; rw [HFIN.out, decide_eq_true hc]; rfl
        go_wp2_with fail
        go_roundw
        case rel => exact ⟨k + 1, by omega, by go_num, by show LeSt _ _ _; rw [HF2.out]; exact HS2.out⟩
        case measure => simp [intOf]; omega
      · have HF2 : Hid (lstS l (k + 1) = b) := by show _ = _; rw [HFIN.out, decide_eq_false hc]; rfl
        go_wp2_with fail
        go_roundw
        case rel => exact ⟨k + 1, by omega, by go_num, by show LeSt _ _ _; rw [HF2.out]; exact HSY.out⟩
        case measure => simp [intOf]; omega
  · have hkn : k = n := by omega
    have HF : Hid (lstS l n = b) := by show _ = _; rw [← hkn, HBK.out]
    have hpos : (0 : Int) < (n : Int) := by omega
    have hz : (decide ((0 : Int) < (n : Int))) = true := by simpa using h0
    have HRB : Hid (Blk X p 150 #[.int .i64 0, .int .i64 0]) := by show Blk _ _ _ _; rw [← HP.out]; exact hst.out.res
    have HBB : Hid (Blk X (p + 1) 150 #[.int .i64 b.1, .int .i64 b.2]) := by show Blk _ _ _ _; rw [← HP.out]; exact hst.out.best
    have r0 := cellOf HRB.out 0 (x := .int .i64 0) rfl
    have r1 := cellOf HRB.out 1 (x := .int .i64 0) rfl
    have f0 := HRB.out.frozen 0
    have f1 := HRB.out.frozen 1
    have b0 := cellOf HBB.out 0 (x := .int .i64 b.1) rfl
    have b1 := cellOf HBB.out 1 (x := .int .i64 b.2) rfl
    have hK : KeptBut (fun g => g = p) X ((X.setCell ⟨p, 0, none⟩ (.int .i64 b.1)).setCell ⟨p, 1, none⟩ (.int .i64 b.2)) := (KeptBut.setCell (S := fun g => g = p) rfl _).trans (KeptBut.setCell (S := fun g => g = p) rfl _) fun _ _ h => h
    have HZ : Hid (Below w.heap.size w ((X.setCell ⟨p, 0, none⟩ (.int .i64 b.1)).setCell ⟨p, 1, none⟩ (.int .i64 b.2))) := hst.out.low.trans (hK.below (fun g hg => by rw [hg, HP.out]; exact Nat.le_refl _) hst.out.low.size)
    have R := (HRB.out.put 0 (.int .i64 b.1)).put 1 (.int .i64 b.2)
    have z0 := cellOf R 0 (x := .int .i64 b.1) rfl
    have z1 := cellOf R 1 (x := .int .i64 b.2) rfl
    clear hkn hK R HRB HBB
    go_wp2_with fail
    rw [HF.out]
    exact bodyPost_ret (v := .tuple #[.agg #[.int .i64 b.1, .int .i64 b.2], .bool true]) (by simp [results, Try.results116, go_sem, z0, z1]) rfl ⟨rfl, HZ.out⟩
end Go.Proofs.Ytlmpbmlbllndcaa
