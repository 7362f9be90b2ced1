/-
  The reference's Settle.
-/
import Derived.Test.YtffodgpafiifcaaJa
import Derived.Test.YtffodgpafiifcaaId
namespace Go.Proofs.Ytffodgpafiifcaa
open Go.RowKit

def AbsCut (e : Int) (w2 : World) (s1 : Value) (wx : World) : Prop := s1 = .int .i64 (absI e) ∧ wx = w2
theorem ceil_div {X p k : Int} (hp : 0 < p) (h1 : X ≤ k * p) (h2 : (k - 1) * p < X) : (X + p - 1) / p = k := by
  rw [Int.sub_mul] at h2
  generalize hy : k * p = y at *
  have h3 : X + p - 1 = (X + p - 1 - y) + k * p := by omega
  rw [h3, Int.add_mul_ediv_right _ _ (by omega), Int.ediv_eq_zero_of_lt (by omega) (by omega)]
  omega
/-- So often the error was made less. -/
def SetSt (a p T : Int) (k : Nat) (E : Int) : Prop := E + k * p = a ∧ (k = 0 ∨ T < E + p)
theorem SetSt.start (a p T : Int) : SetSt a p T 0 a := ⟨by simp, Or.inl rfl⟩
theorem SetSt.next {a p T : Int} {k : Nat} {E : Int} (h : SetSt a p T k E) (hE : T < E) : SetSt a p T (k + 1) (E - p) := by
  refine ⟨?_, Or.inr (by omega)⟩
  rw [Int.natCast_add, Int.natCast_one, Int.add_mul]
  have := h.1
  omega
theorem SetSt.more {l : LoopD} {e : Int} {k : Nat} {E : Int} (h : SetSt (absI e) (l.step - l.noise) (l.step - l.blur) k E) (hp : l.noise ≤ l.step) (hE : E ≤ l.step - l.blur) (hk : k = 0 ∨ 0 < l.step - l.noise) : moreD l e = some (k : Int) := by
  obtain ⟨h1, h2⟩ := h
  have ha : absI e = max e (-e) := rfl
  unfold moreD
  rcases Nat.eq_zero_or_pos k with rfl | hk0
  · rw [if_pos (by rw [← ha]; simp at h1; omega)]; rfl
  · have hpos : 0 < l.step - l.noise := by omega
    have hlt : l.step - l.blur < E + (l.step - l.noise) := by omega
    have hkp : (1 : Int) * (l.step - l.noise) ≤ k * (l.step - l.noise) := Int.mul_le_mul_of_nonneg_right (by omega) (by omega)
    rw [if_neg (by rw [← ha]; omega), if_neg (by omega), ← ha]
    congr 1
    refine ceil_div hpos (by omega) ?_
    rw [Int.sub_mul]
    omega

set_option maxRecDepth 100000 in
set_option maxHeartbeats 8000000 in
theorem refSettle_any (l : LoopD) (e : Int) (w : World) : Calls Try.prog 17 #[l.val, .int .i64 e] w fun en w' => en = .returned (settleRet l e) ∧ Below w.heap.size w w' := by
  obtain ⟨w1, e1, B1, V1⟩ : ∃ w1, w.alloc (.cells l.cells 23) = w1 ∧ Below w.heap.size w w1 ∧ Blk w1 w.heap.size 23 l.cells := ⟨_, rfl, below_alloc _ _, Blk.new _ _ _⟩
  unfold LoopD.cells at e1 V1
  have E1 := Lib.hid e1
  have HB1 := Lib.hid B1
  have HV1 := Lib.hid V1
  have C1 := refCheck_any l w1
  unfold LoopD.val at C1 ⊢
  have v0 := cellOf V1 0 (x := .int .i64 l.dead) rfl
  have v1 := cellOf V1 1 (x := .int .i64 l.noise) rfl
  have v2 := cellOf V1 2 (x := .int .i64 l.blur) rfl
  have v3 := cellOf V1 3 (x := .int .i64 l.step) rfl
  clear e1 V1 B1
  by_cases hok : LoopOk l
  · rw [checkE_ok hok] at C1
    have C1 := Lib.hid C1
    have Hok := Lib.hid hok
    go_enter Try.func17, Try.ntmps17
    go_upto_region 1 with fail
    rw [E1.out]
    go_wp2_with fail
    refine C1.out.mono ?_
    rintro en w2 ⟨rfl, hb2'⟩
    have HV2 := Lib.hid (HV1.out.below hb2' HV1.out.lt)
    have HB2 := Lib.hid (HB1.out.trans (hb2'.mono HB1.out.size))
    clear v0 v1 v2 v3 C1 hb2' hok
    by_cases hin : e ≤ 1000000 ∧ -1000000 ≤ e
    · have C2 := Lib.hid (beyond_in e 1000000 (by omega) hin w2)
      obtain ⟨he1, he2⟩ := hin
      have hd1 := Hok.out.1
      have hd2 := Hok.out.2.1
      have hn1 := Hok.out.2.2.1
      have hn2 := Hok.out.2.2.2.1
      have hb1 := Hok.out.2.2.2.2.1
      have hb2 := Hok.out.2.2.2.2.2.1
      have hs1 := Hok.out.2.2.2.2.2.2.1
      have hs2 := Hok.out.2.2.2.2.2.2.2.1
      have hs3 := Hok.out.2.2.2.2.2.2.2.2
      have v0 := cellOf HV2.out 0 (x := .int .i64 l.dead) rfl
      have v1 := cellOf HV2.out 1 (x := .int .i64 l.noise) rfl
      have v2 := cellOf HV2.out 2 (x := .int .i64 l.blur) rfl
      have v3 := cellOf HV2.out 3 (x := .int .i64 l.step) rfl
      go_wp2_with fail
      refine C2.out.mono ?_
      rintro en w' ⟨rfl, rfl⟩
      go_upto_region 6 with fail
      go_cut [1] (fun s1 wx => AbsCut e w2 s1 wx)
      case first =>
        have kw1 : IntKind.i64.wrap (-e) = -e := IntWalk.i64_in _ ⟨by omega, by omega⟩
        rcases (show (-e ≤ e ∧ ¬ e < -e) ∨ (¬ -e ≤ e ∧ e < -e) by omega) with ⟨m1, m2⟩ | ⟨m1, m2⟩
        all_goals
          go_wp2_with fail
          go_meet
          exact ⟨by first | rw [show absI e = e by unfold absI; omega] | rw [show absI e = -e by unfold absI; omega], rfl⟩
      case rest =>
        obtain ⟨rfl, rfl⟩ := hcut
        clear C2
        have kwd : IntKind.i64.wrap (l.dead + 1) = l.dead + 1 := IntWalk.i64_in _ ⟨by omega, by omega⟩
        have kwt : IntKind.i64.wrap (l.step - l.blur) = l.step - l.blur := IntWalk.i64_in _ ⟨by omega, by omega⟩
        have kwp : IntKind.i64.wrap (l.step - l.noise) = l.step - l.noise := IntWalk.i64_in _ ⟨by omega, by omega⟩
        have ha0 : 0 ≤ absI e ∧ absI e ≤ 1000000 := by unfold absI; omega
        obtain ⟨ha1, ha2⟩ := ha0
        go_wp2
        go_loop [1, 7] (fun x i => ∃ (k : Nat) (E : Int), x = .int .i64 E ∧ i = .int .i64 (l.dead + 1 + k) ∧ SetSt (absI e) (l.step - l.noise) (l.step - l.blur) k E ∧ (k = 0 ∨ 0 < l.step - l.noise) ∧ E ≤ 1000000 - k) (fun x _ => (intOf x).toNat)
        case atStart => exact ⟨0, absI e, rfl, by simp, SetSt.start _ _ _, Or.inl rfl, by simp; exact ha2⟩
        case round =>
          obtain ⟨k, E, rfl, rfl, hst, hk0, hEk⟩ := hrel
          have HSt := Lib.hid hst
          have Hk0 := Lib.hid hk0
          have hkb : (k : Int) ≤ 1000000 + 10000 := by
            rcases hst.2 with h | h <;> omega
          clear hst hk0
          by_cases hlt : l.step - l.blur < E
          · by_cases hsn : l.step = l.noise
            · have HR : Hid (settleRet l e = .tuple #[.int .i64 0, .int .i64 4]) := by
                have hk : k = 0 := by rcases Hk0.out with h | h <;> omega
                have hE : E = absI e := by have := HSt.out.1; rw [hk] at this; simp at this; exact this
                have hm : moreD l e = none := by
                  unfold moreD
                  rw [if_neg (by rw [hE] at hlt; unfold absI at hlt; omega), if_pos hsn]
                show _ = _
                unfold settleRet
                rw [if_neg (not_not_intro Hok.out), if_neg (not_not_intro ⟨he1, he2⟩), hm]
              have hsb : (l.step == l.noise) = true := by simpa using hsn
              clear hsn
              go_wp2
              refine bodyPost_ret (v := .tuple #[.int .i64 0, .int .i64 4]) (by simp [results, Try.results17, go_sem]) rfl ⟨by rw [HR.out], HB2.out⟩
            · have hsb : (l.step == l.noise) = false := by simpa using hsn
              have HNx := Lib.hid (HSt.out.next hlt)
              have kwe : IntKind.i64.wrap (E - (l.step - l.noise)) = E - (l.step - l.noise) := IntWalk.i64_in _ ⟨by omega, by omega⟩
              have kwk : IntKind.i64.wrap (l.dead + 1 + k + 1) = l.dead + 1 + k + 1 := IntWalk.i64_in _ ⟨by omega, by omega⟩
              go_wp2
              exact ⟨⟨k + 1, E - (l.step - l.noise), rfl, by rw [Int.natCast_add, Int.natCast_one, ← Int.add_assoc], HNx.out, Or.inr (by omega), by omega⟩, by simp [intOf]; omega⟩
          · have hm := HSt.out.more (e := e) (by omega) (by omega) Hk0.out
            have HR : Hid (settleRet l e = .tuple #[.int .i64 (l.dead + 1 + k), .int .i64 0]) := by
              show _ = _
              unfold settleRet
              rw [if_neg (not_not_intro Hok.out), if_neg (not_not_intro ⟨he1, he2⟩), hm]
            clear hm
            go_wp2
            refine bodyPost_ret (v := .tuple #[.int .i64 (l.dead + 1 + k), .int .i64 0]) (by simp [results, Try.results17, go_sem]) rfl ⟨by rw [HR.out], HB2.out⟩
    · have C2 := Lib.hid (beyond_out e 1000000 (by omega) hin w2)
      have HR : Hid (settleRet l e = .tuple #[.int .i64 0, .int .i64 6]) := by
        show _ = _
        unfold settleRet
        rw [if_neg (not_not_intro Hok.out), if_pos hin]
      clear hin
      go_wp2_with fail
      refine C2.out.mono ?_
      rintro en w' ⟨rfl, rfl⟩
      go_wp2
      refine bodyPost_ret (v := .tuple #[.int .i64 0, .int .i64 6]) (by simp [results, Try.results17, go_sem]) rfl ⟨by rw [HR.out], HB2.out⟩
  · have HR : Hid (settleRet l e = .tuple #[.int .i64 0, .int .i64 60]) := by
      show _ = _
      unfold settleRet
      rw [if_pos hok]
    rw [checkE_no hok] at C1
    have C1 := Lib.hid C1
    clear hok
    go_enter Try.func17, Try.ntmps17
    go_upto_region 1 with fail
    rw [E1.out]
    go_wp2_with fail
    refine C1.out.mono ?_
    rintro en w2 ⟨rfl, hb2'⟩
    have HB2 := Lib.hid (HB1.out.trans (hb2'.mono HB1.out.size))
    clear v0 v1 v2 v3 C1 hb2'
    go_wp2
    refine bodyPost_ret (v := .tuple #[.int .i64 0, .int .i64 60]) (by simp [results, Try.results17, go_sem]) rfl ⟨by rw [HR.out], HB2.out⟩
end Go.Proofs.Ytffodgpafiifcaa
