/-
  The rules of reels: how they lie, what each says; the error of the first reel that is not allowed.
-/
import Derived.Test.YtpkepacbondopaaLb
import Derived.Test.YtpkepacbondopaaLk
import Derived.Test.YtpkepacbondopaaNa
namespace Go.Proofs.Ytpkepacbondopaa
open Go.RowKit

theorem SetAt.ne_blk {w : World} {N b : Nat} {l : List Int} {t : TypeId} {cs : Array Value} (h : SetAt w N l) (k : Blk w b t cs) : b ≠ N := fun e => by
  subst e
  have := h.symm.trans k
  simp at this
theorem underIntL : Try.prog.underlying 3 = some (.int .i64) := by kernel_rfl
theorem mapIntBool : Try.prog.underlying 229 = some (.map 3 4) := by kernel_rfl
theorem zeroBool : ∀ w : World, (zeroValue 4).run Try.prog w = .ok (.bool false) w := fun w => by kernel_rfl

def ruleCells (M : Nat) : Array Value := #[.func (.func 142) #[] #[], .int .i64 70, .func (.func 143) #[] #[], .int .i64 70, .func (.func 144) #[] #[], .int .i64 70, .func (.func 145) #[] #[], .int .i64 70, .func (.func 146) #[] #[.pointer (some ⟨M, 0, none⟩)], .int .i64 10]
/-- The rules lie in block R, the set of Ids in N, its variable in M. -/
structure RulesAt (w : World) (N M R : Nat) (met : List Int) : Prop where
  set : SetAt w N met
  box : Blk w M 229 #[.map (some N)]
  row : Blk w R 232 (ruleCells M)
theorem RulesAt.put {w w' : World} {N M R : Nat} {met met' : List Int} (h : RulesAt w N M R met) (hk : KeptBut (fun k => k = N) w w') (hs : SetAt w' N met') : RulesAt w' N M R met' :=
  ⟨hs, hk.blk h.box (h.set.ne_blk h.box), hk.blk h.row (h.set.ne_blk h.row)⟩
theorem RulesAt.below {w w' : World} {N M R : Nat} {met : List Int} (h : RulesAt w N M R met) (hb : Below w.heap.size w w') : RulesAt w' N M R met := h.put (KeptBut.of_below hb) (h.set.below hb h.set.lt)

section
variable (x : ReelD) (w : World)
set_option maxHeartbeats 400000 in
theorem rule1_any : Calls Try.prog 142 #[.agg #[.int .i64 x.id, .int .i64 x.width, .int .i64 x.length, .int .i64 x.core]] w fun e w' => e = .returned (.bool (withinB x.id 0 1000000)) ∧ Below w.heap.size w w' := by
  obtain ⟨i, wd, n, c⟩ := x
  go_enter Try.func142, Try.ntmps142
  go_wp2_with (go_at_call 75; refine (within_any _ _ _ _).mono ?_; rintro e w' ⟨rfl, rfl⟩)
  go_ret
  exact ⟨rfl, below_alloc _ _⟩
set_option maxHeartbeats 400000 in
theorem rule2_any : Calls Try.prog 143 #[.agg #[.int .i64 x.id, .int .i64 x.width, .int .i64 x.length, .int .i64 x.core]] w fun e w' => e = .returned (.bool (withinB x.width 1 3000)) ∧ Below w.heap.size w w' := by
  obtain ⟨i, wd, n, c⟩ := x
  go_enter Try.func143, Try.ntmps143
  go_wp2_with (go_at_call 75; refine (within_any _ _ _ _).mono ?_; rintro e w' ⟨rfl, rfl⟩)
  go_ret
  exact ⟨rfl, below_alloc _ _⟩
set_option maxHeartbeats 400000 in
theorem rule3_any : Calls Try.prog 144 #[.agg #[.int .i64 x.id, .int .i64 x.width, .int .i64 x.length, .int .i64 x.core]] w fun e w' => e = .returned (.bool (withinB x.length 0 20000000)) ∧ Below w.heap.size w w' := by
  obtain ⟨i, wd, n, c⟩ := x
  go_enter Try.func144, Try.ntmps144
  go_wp2_with (go_at_call 75; refine (within_any _ _ _ _).mono ?_; rintro e w' ⟨rfl, rfl⟩)
  go_ret
  exact ⟨rfl, below_alloc _ _⟩
set_option maxHeartbeats 400000 in
theorem rule4_any : Calls Try.prog 145 #[.agg #[.int .i64 x.id, .int .i64 x.width, .int .i64 x.length, .int .i64 x.core]] w fun e w' => e = .returned (.bool (withinB x.core 0 x.length)) ∧ Below w.heap.size w w' := by
  obtain ⟨i, wd, n, c⟩ := x
  go_enter Try.func145, Try.ntmps145
  go_wp2_with (go_at_call 75; refine (within_any _ _ _ _).mono ?_; rintro e w' ⟨rfl, rfl⟩)
  go_ret
  exact ⟨rfl, below_alloc _ _⟩
end
def Rule5Ret (w : World) (N : Nat) (met : List Int) (id : Int) (e : Ending) (w' : World) : Prop := e = .returned (.bool (!decide (id ∈ met))) ∧ SetAt w' N (addS met id) ∧ KeptBut (fun k => k = N) w w'
set_option maxHeartbeats 1000000 in
theorem rule5_any (x : ReelD) (w : World) (N M : Nat) (met : List Int) (hs : SetAt w N met) (hM : Blk w M 229 #[.map (some N)]) : Calls Try.prog 146 #[.agg #[.int .i64 x.id, .int .i64 x.width, .int .i64 x.length, .int .i64 x.core], .pointer (some ⟨M, 0, none⟩)] w (Rule5Ret w N met x.id) := by
  obtain ⟨i, wd, n, c⟩ := x
  have F0 : ∃ W0, w.alloc (.cells #[.int .i64 i, .int .i64 wd, .int .i64 n, .int .i64 c] 58) = W0 ∧ Below w.heap.size w W0 ∧ Blk W0 w.heap.size 58 #[.int .i64 i, .int .i64 wd, .int .i64 n, .int .i64 c] := ⟨_, rfl, below_alloc _ _, Blk.new _ _ _⟩
  obtain ⟨W0, e0, hb0, B0⟩ := F0
  have E0 := Lib.hid e0
  have HB0 := Lib.hid hb0
  have hs0 := hs.below hb0 hs.lt
  have hM0 := hM.below hb0 hM.lt
  have hbN : w.heap.size ≠ N := by have := hs.lt; omega
  have hMN := hs.ne_blk hM
  have HS0 := Lib.hid hs0
  have HM0 := Lib.hid hM0
  have HK0 := Lib.hid B0
  have m0 := cellOf hM0 0 (x := .map (some N)) rfl
  have r0 := cellOf B0 0 (x := .int .i64 i) rfl
  have hget := fun w' (h : SetAt w' N met) => h.get (P := Try.prog) underIntL mapIntBool zeroBool i
  have hg0 := hget W0 hs0
  clear e0 hb0 hs hM hs0 hM0 B0 hget
  go_enter Try.func146, Try.ntmps146
  go_upto_region 1 with fail
  rw [E0.out]
  go_upto_region 2 with fail
  clear hg0
  go_wp2_with (at_mapUpdate; refine wpList_setPut _ underIntL rfl _ _ _ 229 rfl mapIntBool N met i rfl rfl rfl HS0.out ?_; intro w1 hs1 hg1)
  have HR : Hid (SetAt w1 N (addS met i) ∧ KeptBut (fun k => k = N) w w1) := ⟨hs1, (KeptBut.of_below HB0.out).trans (KeptBut.grown hg1 fun k hk => by cases hk; rfl) fun _ _ h => h⟩
  clear hs1 hg1 m0 r0
  go_wp2
  go_ret
  exact ⟨rfl, HR.out⟩
end Go.Proofs.Ytpkepacbondopaa
