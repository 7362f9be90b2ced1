/-
  floor, thrownBy, meet, the maker of the iterator of splices.
-/
import Derived.Laws.EntriesVeiled
import Derived.Test.YtpkepacbondopaaLb
import Derived.Test.YtpkepacbondopaaTr
namespace Go.Proofs.Ytpkepacbondopaa
open Go.RowKit

theorem floor_dec {n d : Int} (hd : 1 ≤ d) : n / d = if n.tmod d < 0 then n.tdiv d - 1 else n.tdiv d := by
  have h1 := Int.tdiv_eq_ediv (a := n) (b := d)
  have h2 := Int.tmod_eq_emod (a := n) (b := d)
  have h3 := Int.emod_nonneg n (show d ≠ 0 by omega)
  have h4 := Int.emod_lt_of_pos n (show 0 < d by omega)
  have h5 : (d.natAbs : Int) = d := Int.natAbs_of_nonneg (by omega)
  have h6 : d.sign = 1 := Int.sign_eq_one_of_pos (by omega)
  have h7 : d ∣ n ↔ n % d = 0 := Int.dvd_iff_emod_eq_zero
  rw [h6] at h1
  by_cases hn : 0 ≤ n
  · rw [if_pos (.inl hn)] at h1 h2
    rw [if_neg (by omega)]
    omega
  · by_cases hdv : d ∣ n
    · rw [if_pos (.inr hdv)] at h1 h2
      rw [if_neg (by omega)]
      omega
    · rw [if_neg (by simp only [not_or]; exact ⟨hn, hdv⟩)] at h1 h2
      have h8 : n % d ≠ 0 := fun h => hdv (h7.2 h)
      rw [if_pos (by omega)]
      omega
theorem tdiv_bound {n d b : Int} (hd : 1 ≤ d) (h1 : -b ≤ n) (h2 : n ≤ b) : -b ≤ n.tdiv d ∧ n.tdiv d ≤ b := by
  have h3 := Int.natAbs_tdiv_le_natAbs n d
  omega
set_option maxHeartbeats 400000 in
theorem floor_any (n d : Int) (hd : 1 ≤ d) (h1 : -1000000000000 ≤ n) (h2 : n ≤ 1000000000000) (w : World) : Calls Try.prog 149 #[.int .i64 n, .int .i64 d] w fun e w' => e = .returned (.int .i64 (n / d)) ∧ w = w' := by
  have H := Lib.hid (floor_dec (n := n) hd)
  obtain ⟨hb1, hb2⟩ := tdiv_bound hd h1 h2
  by_cases hx : n.tmod d < 0
  · go_enter Try.func149, Try.ntmps149
    go_wp2
    go_ret
    exact ⟨by rw [H.out, if_pos hx]; go_num, rfl⟩
  · go_enter Try.func149, Try.ntmps149
    go_wp2
    go_ret
    exact ⟨by rw [H.out, if_neg (by omega)]; rfl, rfl⟩

/-- meet, of two spans in order. -/
def MeetRet (w : World) (a b : Sp) (e : Ending) (w' : World) : Prop :=
  Below w.heap.size w w' ∧ if b.lo ≤ a.hi + 1 then e = .returned (.tuple #[.agg #[.int .i64 a.lo, .int .i64 (max a.hi b.hi)], .bool true]) else e = .returned (.tuple #[.agg #[.int .i64 0, .int .i64 0], .bool false])
set_option maxHeartbeats 1000000 in
theorem meet_any (a b : Sp) (h1 : -1000000000000 ≤ a.hi) (h2 : a.hi ≤ 1000000000000) (w : World) : Calls Try.prog 119 #[.agg #[.int .i64 a.lo, .int .i64 a.hi], .agg #[.int .i64 b.lo, .int .i64 b.hi]] w (MeetRet w a b) := by
  obtain ⟨a1, a2⟩ := a
  obtain ⟨b1, b2⟩ := b
  simp only at h1 h2
  have HB : Hid (∀ (o1 o2 o3 : Obj) (v0 v1 : Value), Below w.heap.size w (((w.alloc o1).alloc o2).alloc o3)) := fun o1 o2 o3 v0 v1 => (((Below.refl _ _).alloc (Nat.le_refl _) _).alloc (by simp) _).alloc (by simp; omega) _
  by_cases hx : b1 ≤ a2 + 1
  · have hx' : ¬ b1 > a2 + 1 := by omega
    by_cases hm : b2 ≤ a2
    all_goals
      go_enter Try.func119, Try.ntmps119
      go_wp2
      refine bodyPost_ret (v := .tuple #[.agg #[.int .i64 a1, .int .i64 (max a2 b2)], .bool true]) (by simp [results, Try.results119, go_sem]; try omega) rfl ⟨?_, ?_⟩
      · exact HB.out _ _ _ (.int .i64 0) (.int .i64 0)
      · show ite _ _ _
        rw [if_pos hx]
  · have hx' : b1 > a2 + 1 := by omega
    go_enter Try.func119, Try.ntmps119
    go_wp2
    refine bodyPost_ret (v := .tuple #[.agg #[.int .i64 0, .int .i64 0], .bool false]) (by simp [results, Try.results119, go_sem]) rfl ⟨?_, ?_⟩
    · exact HB.out _ _ _ (.int .i64 0) (.int .i64 0)
    · show ite _ _ _
      rw [if_neg (show ¬ b1 ≤ a2 + 1 by omega)]

set_option maxHeartbeats 400000 in
theorem splices_any (x : WebD) (A : Option Addr) (n c : Nat) (w : World) : Calls Try.prog 77 #[.agg #[.slice A n c, .int .i64 x.off, .int .i64 x.before, .int .i64 x.after]] w fun e w' =>
    e = .returned (.func (.func 121) #[] #[.pointer (some ⟨w.heap.size, 0, none⟩)]) ∧ w' = w.alloc (.cells #[.slice A n c, .int .i64 x.off, .int .i64 x.before, .int .i64 x.after] 47) := by
  have hmf : ∀ (fn : Fn) (first cap : Array Value) (w : World), (Instr.makeFunc fn first cap).run Try.prog w = .ok (.func fn first cap) w := fun _ _ _ _ => rfl
  go_enter Try.func77, Try.ntmps77
  go_wp2
  go_ret
  exact ⟨rfl, rfl⟩
end Go.Proofs.Ytpkepacbondopaa
