/-
  A ribbon that is turned over: the run stays right.
-/
import Derived.Test.YtdbfhdncjblleaaZJ
namespace Go.Proofs.Ytdbfhdncjblleaa
open Go.RowKit

def RibD.flat (b : RibD) : Int × Int × Int × Bool := (b.web, b.col, b.width, b.left)
theorem cov_flat (l : List RibD) (a c : Nat) : cov l a c = (l.map RibD.flat).any fun p => decide (p.1 = a ∧ p.2.1 ≤ c ∧ (c : Int) < p.2.1 + p.2.2.1) := by
  unfold cov
  rw [List.any_map]; rfl
theorem fits_flat {r : RunD} {rs : List RibD} {x y : RibD} (h : x.flat = y.flat) : fitsB { r with ribs := rs } x = fitsB r y := by
  unfold RibD.flat at h
  simp only [Prod.mk.injEq] at h
  obtain ⟨h1, h2, h3, h4⟩ := h
  unfold fitsB
  rw [h1, h2, h3, h4]
theorem cov_same {l m : List RibD} (h : l.map RibD.flat = m.map RibD.flat) (a c : Nat) : cov l a c = cov m a c := by rw [cov_flat, cov_flat, h]
theorem free_flat {l m : List RibD} {x y : RibD} (hl : l.map RibD.flat = m.map RibD.flat) (h : x.flat = y.flat) : freeB l x = freeB m y := by
  unfold RibD.flat at h
  simp only [Prod.mk.injEq] at h
  obtain ⟨h1, h2, h3, h4⟩ := h
  unfold freeB
  rw [h1, h2, h3]
  congr 1
  funext j
  rw [cov_same hl]
theorem getD_flat {l m : List RibD} (h : l.map RibD.flat = m.map RibD.flat) (k : Nat) : (l.getD k default).flat = (m.getD k default).flat := by
  have e : (l.map RibD.flat).getD k (default : RibD).flat = (m.map RibD.flat).getD k (default : RibD).flat := by rw [h]
  simpa [List.getD_eq_getElem?_getD, List.getElem?_map, Option.getD_map] using e
theorem part_flat {r : RunD} {rs : List RibD} (h : rs.map RibD.flat = r.ribs.map RibD.flat) (j : Nat) : partE { r with ribs := rs } j = partE r j := by
  have hl : rs.length = r.ribs.length := by simpa using congrArg List.length h
  match j with
  | 0 => show numbersE _ = numbersE _; unfold numbersE numbersB; rw [hl]
  | 1 => rfl
  | 2 =>
    show ribsE _ = ribsE _
    have h1 : disjB { r with ribs := rs } = disjB r := by
      unfold disjB
      show (List.range rs.length).all (fun k => fitsB { r with ribs := rs } (rs.getD k default) && freeB (rs.take k) (rs.getD k default)) = _
      rw [hl]
      congr 1
      funext k
      have h3 : (rs.take k).map RibD.flat = (r.ribs.take k).map RibD.flat := by rw [List.map_take, List.map_take, h]
      rw [fits_flat (r := r) (rs := rs) (getD_flat h k), free_flat h3 (getD_flat h k)]
    have h2 : coverB { r with ribs := rs } = coverB r := by
      unfold coverB
      show ((List.range r.webs.length).all fun i => (List.range (r.webs.getD i default).cols.toNat).all fun c => cov rs i c) = _
      congr 1
      funext i
      congr 1
      funext c
      rw [cov_same h]
    unfold ribsE
    rw [h1, h2]
  | 3 =>
    show stacksE _ = stacksE _
    have h1 : stackB { r with ribs := rs } = stackB r := by
      funext k
      unfold stackB
      have : itemB { r with ribs := rs } k = itemB r k := by
        funext m
        unfold itemB
        rw [hl]; rfl
      rw [this]
    unfold stacksE
    rw [h1]
    show (if (List.range r.stacks.length).all (stackB r) && (List.range rs.length).all (fun i => r.stacks.flatten.contains (i : Int)) then (0 : Int) else 20) = _
    rw [hl]
  | _ + 4 => rfl
theorem check_flat {r : RunD} {rs : List RibD} (h : rs.map RibD.flat = r.ribs.map RibD.flat) : checkE { r with ribs := rs } = checkE r := by
  unfold checkE
  simp only [part_flat h]
theorem turn_flat (r : RunD) (i : Int) : (turnD r i).ribs.map RibD.flat = r.ribs.map RibD.flat := by
  unfold turnD
  show (r.ribs.set i.toNat _).map RibD.flat = _
  rw [List.map_set]
  refine List.ext_getElem? fun k => ?_
  rw [List.getElem?_set]
  split
  · rename_i hk
    subst hk
    split
    · rename_i hl
      rw [List.getElem?_eq_getElem (by simpa using hl), List.getElem_map]
      rw [show r.ribs.getD i.toNat default = r.ribs[i.toNat]'(by simpa using hl) from getD_of (List.getElem?_eq_getElem _)]
      rfl
    · rename_i hl
      rw [List.getElem?_eq_none (by simpa using hl)]
  · rfl
/-- Turning keeps a run right. -/
theorem turn_check (r : RunD) (i : Int) : checkE (turnD r i) = checkE r := check_flat (turn_flat r i)
theorem turn_rows (r : RunD) (i : Int) : rows0 (turnD r i) = rows0 r := rfl

end Go.Proofs.Ytdbfhdncjblleaa
