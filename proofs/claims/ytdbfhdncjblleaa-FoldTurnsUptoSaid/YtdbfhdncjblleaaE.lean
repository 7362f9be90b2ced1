/-
  THE CHECKS OF A RUN: a ribbon's fit.
-/
import Derived.Test.YtdbfhdncjblleaaC
namespace Go.Proofs.Ytdbfhdncjblleaa
open Go.RowKit

def fitsB (r : RunD) (x : RibD) : Bool :=
  decide (0 ≤ x.web ∧ x.web < r.webs.length ∧ 1 ≤ x.width ∧ x.width ≤ 2) && !(decide (x.width = 2) && x.left) && decide (0 ≤ x.col ∧ x.col ≤ (r.webs.getD x.web.toNat default).cols - x.width)

set_option maxHeartbeats 800000 in
theorem fits_any (v : Value) (r : RunD) (x : RibD) (w : World) (h : RRun w.heap.size w v r) (hcols : ∀ y ∈ r.webs, 1 ≤ y.cols ∧ y.cols ≤ 4) :
    Calls Try.prog 79 #[v, .agg #[.int .i64 x.web, .int .i64 x.col, .int .i64 x.width, .bool x.turned, .bool x.left]] w fun e w' => e = .returned (.bool (fitsB r x)) ∧ Below w.heap.size w w' := by
  obtain ⟨v1, v2, v3, rfl, hw, hr, hs⟩ := h
  obtain ⟨A, c, rfl, hA1, hA⟩ := hw.open_
  obtain ⟨web, col, width, turned, left⟩ := x
  have hend : ∀ w1 w2 : World, Below w.heap.size w ((w.alloc (.cells #[.slice A r.webs.length c, v2, v3, .bool r.coll] 111)).alloc (.cells #[.int .i64 web, .int .i64 col, .int .i64 width, .bool turned, .bool left] 91)) :=
    fun _ _ => ((Below.refl _ _).alloc (Nat.le_refl _) _).alloc (by simp) _
  by_cases h1 : 0 ≤ web
  case neg =>
    go_enter Try.func79, Try.ntmps79
    go_wp2
    go_ret
    exact ⟨rb (by simp [fitsB]; omega), hend w w⟩
  by_cases h2 : web < r.webs.length
  case neg =>
    go_enter Try.func79, Try.ntmps79
    go_wp2
    go_ret
    exact ⟨rb (by simp [fitsB]; omega), hend w w⟩
  by_cases h3 : 1 ≤ width
  case neg =>
    go_enter Try.func79, Try.ntmps79
    go_wp2
    go_ret
    exact ⟨rb (by simp [fitsB]; omega), hend w w⟩
  by_cases h4 : width ≤ 2
  case neg =>
    go_enter Try.func79, Try.ntmps79
    go_wp2
    go_ret
    exact ⟨rb (by simp [fitsB]; omega), hend w w⟩
  obtain ⟨k, rfl⟩ := Int.eq_ofNat_of_zero_le h1
  have hk : k < r.webs.length := by omega
  obtain ⟨x, hx⟩ : ∃ x, r.webs[k]? = some x := ⟨_, List.getElem?_eq_getElem hk⟩
  obtain ⟨g, o, u, rfl, hb, hc1, hc2, hc3, hp⟩ := hA k x hx
  have hxm := hcols x (List.mem_of_getElem? hx)
  have Hx : Hid (r.webs.getD k default = x) := by
    show r.webs.getD k default = x
    rw [List.getD_eq_getElem?_getD, hx]; rfl
  clear hx hA
  by_cases h5 : width = 2 ∧ left = true
  · obtain ⟨rfl, rfl⟩ := h5
    go_enter Try.func79, Try.ntmps79
    go_wp2
    go_ret
    exact ⟨rb (by simp [fitsB]), hend w w⟩
  by_cases h6 : 0 ≤ col
  case neg =>
    have hd : decide (0 ≤ col) = false := by simpa using h6
    by_cases h7 : width = 2
    · have h8 : left = false := by simpa [h7] using h5
      subst h7 h8
      go_enter Try.func79, Try.ntmps79
      go_wp2
      go_quiet (fail)
      go_wp2
      go_ret
      exact ⟨rb (by simp [fitsB]; omega), below_drewN (hend w w) _⟩
    · have h7' : (width == 2) = false := by simpa using h7
      go_enter Try.func79, Try.ntmps79
      go_wp2
      go_quiet (fail)
      go_wp2
      go_ret
      exact ⟨rb (by simp [fitsB]; omega), below_drewN (hend w w) _⟩
  have hres : fitsB r ⟨k, col, width, turned, left⟩ = decide (col ≤ x.cols - width) := by
    have e1 : (!(decide (width = 2) && left)) = true := by
      cases left <;> simp at h5 ⊢
      exact h5
    have e2 : decide (0 ≤ (k : Int) ∧ (k : Int) < r.webs.length ∧ 1 ≤ width ∧ width ≤ 2) = true := by simp; omega
    simp only [fitsB, e1, e2, Bool.true_and, Int.toNat_natCast, Hx.out, h6, true_and]
  have Hres := Lib.hid hres
  clear hres
  by_cases h7 : width = 2
  · have h8 : left = false := by simpa [h7] using h5
    subst h7 h8
    clear h5 h3 h4
    go_enter Try.func79, Try.ntmps79
    go_wp2
    go_quiet (fail)
    go_wp2
    go_ret
    exact ⟨rb Hres.out, below_drewN (hend w w) _⟩
  · have h7' : (width == 2) = false := by simpa using h7
    go_enter Try.func79, Try.ntmps79
    go_wp2
    go_quiet (fail)
    go_wp2
    go_ret
    exact ⟨rb Hres.out, below_drewN (hend w w) _⟩

end Go.Proofs.Ytdbfhdncjblleaa
