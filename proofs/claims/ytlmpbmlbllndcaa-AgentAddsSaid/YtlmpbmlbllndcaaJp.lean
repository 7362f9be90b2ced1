/-
  Plain for AgentAdds: late copies, what accounts add up to.
-/
import Derived.Test.YtlmpbmlbllndcaaJa
namespace Go.Proofs.Ytlmpbmlbllndcaa

/-- The late copies of the first k days. -/
def lateAt (h : List DayD) (m : List Int) (i : Nat) : Int := if i < m.length then m.getD i 0 % (((h[i]?).map DayD.ret).getD 0 + 1) else 0
def lateTo (h : List DayD) (m : List Int) (k : Nat) : List Int := (List.range h.length).map fun i => if i < k then lateAt h m i else 0
theorem lateTo_len (h : List DayD) (m : List Int) (k : Nat) : (lateTo h m k).length = h.length := by simp [lateTo]
theorem lateTo_zero (h : List DayD) (m : List Int) : lateTo h m 0 = List.replicate h.length 0 := by
  unfold lateTo
  rw [List.eq_replicate_iff]
  exact ⟨by simp, fun b hb => by obtain ⟨i, -, rfl⟩ := List.mem_map.1 hb; simp⟩
theorem lateTo_get (h : List DayD) (m : List Int) (k i : Nat) (hi : i < h.length) : (lateTo h m k)[i]? = some (if i < k then lateAt h m i else 0) := by
  unfold lateTo
  rw [List.getElem?_map, List.getElem?_range hi]
  rfl
theorem lateTo_next (h : List DayD) (m : List Int) (k : Nat) : lateTo h m (k + 1) = (lateTo h m k).set k (lateAt h m k) := by
  apply List.ext_getElem?
  intro i
  rw [List.getElem?_set]
  by_cases hi : i < h.length
  · rw [lateTo_get _ _ _ _ hi, lateTo_get _ _ _ _ hi, lateTo_len]
    by_cases e : k = i
    · subst e
      rw [if_pos rfl, if_pos hi, if_pos (by omega)]
    · rw [if_neg e]
      by_cases h1 : i < k
      · rw [if_pos h1, if_pos (by omega)]
      · rw [if_neg h1, if_neg (by omega)]
  · rw [List.getElem?_eq_none (by rw [lateTo_len]; omega), List.getElem?_eq_none (by rw [lateTo_len]; omega), lateTo_len]
    split
    · rw [if_neg (by omega)]
    · rfl
theorem lateTo_same (h : List DayD) (m : List Int) (k : Nat) (h0 : lateAt h m k = 0) : lateTo h m (k + 1) = lateTo h m k := by
  rw [lateTo_next]
  apply List.ext_getElem?
  intro i
  rw [List.getElem?_set]
  split
  · rename_i e
    subst e
    split
    · rename_i hl
      rw [lateTo_len] at hl
      rw [lateTo_get _ _ _ _ hl, if_neg (by omega), h0]
    · rename_i hl
      rw [List.getElem?_eq_none (by omega)]
  · rfl
def lateD (h : List DayD) (m : List Int) : List Int := lateTo h m h.length
theorem lateAt_bd {h : List DayD} (hd : ∀ d ∈ h, d.ok) (m : List Int) {i : Nat} {d : DayD} (hi : h[i]? = some d) : 0 ≤ lateAt h m i ∧ lateAt h m i ≤ d.ret := by
  unfold lateAt
  rw [hi]
  simp only [Option.map_some, Option.getD_some]
  have := hd d (List.mem_of_getElem? hi)
  obtain ⟨-, -, h3, -⟩ := this
  split
  · have h1 := Int.emod_nonneg (m.getD i 0) (show d.ret + 1 ≠ 0 by omega)
    have h2 := Int.emod_lt_of_pos (m.getD i 0) (show 0 < d.ret + 1 by omega)
    omega
  · omega
theorem lateB_of {l : List DayD} {m : List Int} (h : ∀ (i : Nat) (d : DayD) (x : Int), l[i]? = some d → m[i]? = some x → 0 ≤ x ∧ x ≤ d.ret) : lateB l m = true := List.all_eq_true.2 fun x hx => by
  obtain ⟨i, hi⟩ := List.mem_iff_getElem?.1 hx
  obtain ⟨h1, h2⟩ := List.getElem?_zip_eq_some.1 hi
  exact inB_iff.2 (h i x.1 x.2 h1 h2)
theorem late_lateB {h : List DayD} (hd : ∀ d ∈ h, d.ok) (m : List Int) : lateB h (lateD h m) = true := lateB_of fun i d x h1 h2 => by
  have hi : i < h.length := (List.getElem?_eq_some_iff.1 h1).1
  unfold lateD at h2
  rw [lateTo_get _ _ _ _ hi, if_pos hi] at h2
  obtain rfl : lateAt h m i = x := by simpa using h2
  exact lateAt_bd hd m h1
theorem none_lateB {h : List DayD} (hd : ∀ d ∈ h, d.ok) : lateB h (List.replicate h.length 0) = true := lateB_of fun i d x h1 h2 => by
  have h3 : x = 0 := (List.mem_replicate.1 (List.mem_of_getElem? h2)).2
  obtain ⟨-, -, h4, -⟩ := hd d (List.mem_of_getElem? h1)
  omega
theorem sumI_zeros : ∀ n, sumI (List.replicate n 0) = 0
  | 0 => rfl
  | n + 1 => by rw [List.replicate_succ, sumI_cons, sumI_zeros n]; rfl
/-- The sums of the first k days. -/
def lateK (h : List DayD) (m : List Int) (k : Nat) : Int := sumI ((lateD h m).take k)
def supS (h : List DayD) (k : Nat) : Int := supTo (h.take k)
def retS (h : List DayD) (k : Nat) : Int := retTo (h.take k)
theorem supS_next {h : List DayD} {k : Nat} {d : DayD} (hk : h[k]? = some d) : supS h (k + 1) = supS h k + d.sup ∧ retS h (k + 1) = retS h k + d.ret := by
  unfold supS retS supTo retTo
  rw [List.take_add_one, hk, Option.toList_some, List.map_append, List.map_append, sumI_app, sumI_app]
  simp [sumI]
theorem lateK_next {h : List DayD} {m : List Int} {k : Nat} (hk : k < h.length) : lateK h m (k + 1) = lateK h m k + lateAt h m k := by
  unfold lateK
  rw [List.take_add_one, show (lateD h m)[k]? = some (lateAt h m k) by unfold lateD; rw [lateTo_get _ _ _ _ hk, if_pos hk], Option.toList_some, sumI_app]
  simp [sumI]
theorem supS_bd {h : List DayD} (hd : ∀ d ∈ h, d.ok ∧ d.sup ≤ 59) (m : List Int) : ∀ k, k ≤ h.length → (0 ≤ supS h k ∧ supS h k ≤ 59 * k) ∧ (0 ≤ retS h k ∧ retS h k ≤ supS h k) ∧ (0 ≤ lateK h m k ∧ lateK h m k ≤ retS h k)
  | 0, _ => by simp [supS, retS, lateK, supTo, retTo, sumI]
  | k + 1, hk => by
    have hx : h[k]? = some h[k] := List.getElem?_eq_getElem (by omega)
    have ih := supS_bd hd m k (by omega)
    obtain ⟨h1, h2⟩ := supS_next hx
    have h3 := lateK_next (m := m) (show k < h.length by omega)
    have h4 := lateAt_bd (fun d hd' => (hd d hd').1) m hx
    obtain ⟨⟨d1, d2, d3, d4⟩, d5⟩ := hd _ (List.getElem_mem (show k < h.length by omega))
    rw [h1, h2, h3]
    push_cast
    omega
theorem supS_all (h : List DayD) (m : List Int) : supS h h.length = supTo h ∧ retS h h.length = retTo h ∧ lateK h m h.length = sumI (lateD h m) := by
  unfold supS retS lateK
  rw [List.take_length, show (lateD h m).take h.length = lateD h m by rw [List.take_of_length_le (by unfold lateD; rw [lateTo_len]; omega)]]
  exact ⟨rfl, rfl, rfl⟩
theorem set_none (t : TarD) (h : List DayD) : setS t h (List.replicate h.length 0) = supTo h * t.price - retTo h * t.back := by
  unfold setS
  rw [sumI_zeros, Int.mul_neg, Int.zero_mul, Int.sub_zero]
  omega
theorem set_some (t : TarD) (h : List DayD) (m : List Int) : setS t h m - setS t h (List.replicate h.length 0) = sumI m * (t.back - t.late) := by
  rw [set_none]
  unfold setS
  simp only [Int.mul_neg, Int.sub_mul, Int.mul_sub]
  omega
end Go.Proofs.Ytlmpbmlbllndcaa
