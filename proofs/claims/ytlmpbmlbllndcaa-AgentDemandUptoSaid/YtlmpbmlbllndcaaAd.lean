/-
  Plain: what methods say; scores; accounts; histories made of numbers.
-/
import Derived.Test.YtlmpbmlbllndcaaAc
namespace Go.Proofs.Ytlmpbmlbllndcaa

structure MethD where
  kind : Int
  days : Int
deriving DecidableEq
def MethD.okB (m : MethD) : Bool := if m.kind = 1 then decide (m.days = 1) else decide (1 ≤ m.kind ∧ m.kind ≤ 4) && decide (1 ≤ m.days ∧ m.days ≤ 60)
def MethD.apart (m : MethD) : Int := if m.kind = 3 then 7 else 1
theorem MethD.apart_bd (m : MethD) : 1 ≤ m.apart ∧ m.apart ≤ 7 := by unfold MethD.apart; split <;> omega
theorem MethD.ok_bd {m : MethD} (h : m.okB = true) : (1 ≤ m.kind ∧ m.kind ≤ 4) ∧ (1 ≤ m.days ∧ m.days ≤ 60) ∧ (m.kind = 1 → m.days = 1) := by
  unfold MethD.okB at h
  by_cases hk : m.kind = 1
  · rw [if_pos hk] at h
    have := of_decide_eq_true h
    omega
  · rw [if_neg hk, Bool.and_eq_true, decide_eq_true_eq, decide_eq_true_eq] at h
    omega
def soldAt (h : List DayD) (i : Int) : Int := ((h[i.toNat]?).map DayD.sold).getD 0
/-- What was sold on the first k days at which a method looks. -/
def lookTo (m : MethD) (h : List DayD) (day : Int) (k : Nat) : List Int := (List.range k).map fun i : Nat => soldAt h (day - ((i : Int) + 1) * m.apart)
def lookL (m : MethD) (h : List DayD) (day : Int) : List Int := lookTo m h day m.days.toNat
theorem lookTo_len (m : MethD) (h : List DayD) (day : Int) (k : Nat) : (lookTo m h day k).length = k := by simp [lookTo]
theorem lookTo_next (m : MethD) (h : List DayD) (day : Int) (k : Nat) : lookTo m h day (k + 1) = lookTo m h day k ++ [soldAt h (day - ((k : Int) + 1) * m.apart)] := by
  unfold lookTo
  rw [List.range_succ, List.map_append]
  rfl
def maxL (l : List Int) : Int := l.foldl max 0
def meanL (l : List Int) : Int := (sumI l + l.length - 1) / l.length
/-- Whether a method says something of a day. -/
def MethD.says (m : MethD) (day : Int) : Bool := !decide (day < m.days * m.apart)
/-- What a method says of a day. -/
def MethD.said (m : MethD) (h : List DayD) (day : Int) : Int := if m.kind = 4 then maxL (lookL m h day) else meanL (lookL m h day)
theorem sumI_snoc (l : List Int) (x : Int) : sumI (l ++ [x]) = sumI l + x := by
  induction l with
  | nil => simp [sumI]
  | cons y l ih => rw [List.cons_append, sumI_cons, sumI_cons, ih]; omega
theorem maxL_snoc (l : List Int) (x : Int) : maxL (l ++ [x]) = max (maxL l) x := by simp [maxL, List.foldl_append]
theorem sumI_bd {l : List Int} {B : Int} (h : ∀ x ∈ l, 0 ≤ x ∧ x ≤ B) : 0 ≤ sumI l ∧ sumI l ≤ B * l.length := by
  induction l with
  | nil => simp [sumI]
  | cons y l ih =>
    have h1 := ih fun x hx => h x (List.mem_cons_of_mem _ hx)
    have h2 := h y List.mem_cons_self
    rw [sumI_cons, List.length_cons]
    push_cast
    rw [Int.mul_add]
    omega
theorem soldAt_bd {h : List DayD} (hl : ∀ d ∈ h, d.ok) (i : Int) : 0 ≤ soldAt h i ∧ soldAt h i ≤ 10000 := by
  unfold soldAt
  cases e : h[i.toNat]? with
  | none => simp
  | some d =>
    obtain ⟨h1, h2, h3, h4⟩ := hl d (List.mem_of_getElem? e)
    simp only [Option.map_some, Option.getD_some, DayD.sold]
    omega
theorem lookTo_bd {h : List DayD} (hl : ∀ d ∈ h, d.ok) (m : MethD) (day : Int) (k : Nat) : ∀ x ∈ lookTo m h day k, 0 ≤ x ∧ x ≤ 10000 := fun x hx => by
  obtain ⟨i, -, rfl⟩ := List.mem_map.1 hx
  exact soldAt_bd hl _
theorem maxL_bd {l : List Int} {B : Int} (hB : 0 ≤ B) (h : ∀ x ∈ l, 0 ≤ x ∧ x ≤ B) : 0 ≤ maxL l ∧ maxL l ≤ B := by
  unfold maxL
  suffices H : ∀ (l : List Int) (a : Int), 0 ≤ a → a ≤ B → (∀ x ∈ l, 0 ≤ x ∧ x ≤ B) → 0 ≤ l.foldl max a ∧ l.foldl max a ≤ B from H l 0 (Int.le_refl _) hB h
  intro l
  induction l with
  | nil => intro a h1 h2 _; exact ⟨h1, h2⟩
  | cons y l ih =>
    intro a h1 h2 h3
    have := h3 y List.mem_cons_self
    exact ih (max a y) (by omega) (by omega) fun x hx => h3 x (List.mem_cons_of_mem _ hx)
theorem said_bd {m : MethD} {h : List DayD} (hm : m.okB = true) (hl : ∀ d ∈ h, d.ok) (day : Int) : 0 ≤ m.said h day ∧ m.said h day ≤ 10000 := by
  obtain ⟨-, h2, -⟩ := m.ok_bd hm
  have hb := lookTo_bd hl m day m.days.toNat
  unfold MethD.said lookL
  split
  · exact maxL_bd (by omega) hb
  · have h3 := sumI_bd hb
    unfold meanL
    rw [lookTo_len] at h3 ⊢
    have h4 : ((m.days.toNat : Nat) : Int) = m.days := by omega
    rw [h4] at h3 ⊢
    constructor
    · exact Int.ediv_nonneg (by omega) (by omega)
    · have : (sumI (lookTo m h day m.days.toNat) + m.days - 1) / m.days < 10001 := Int.ediv_lt_of_lt_mul (by omega) (by omega)
      omega
/-- What was supplied, came back in time, and late. -/
def supTo (h : List DayD) : Int := sumI (h.map DayD.sup)
def retTo (h : List DayD) : Int := sumI (h.map DayD.ret)
/-- A day made of two numbers. -/
def dayOf (x y : Int) : DayD := ⟨x % 60, if 0 < y % 3 then y % (x % 60 + 1) else 0⟩
def histTo (l : List Int) (k : Nat) : List DayD := (List.range k).map fun i => dayOf (l.getD (2 * i) 0) (l.getD (2 * i + 1) 0)
def nDays (l : List Int) : Nat := min 60 (l.length / 2)
def histD (l : List Int) : List DayD := histTo l (nDays l)
theorem histTo_len (l : List Int) (k : Nat) : (histTo l k).length = k := by simp [histTo]
theorem histTo_next (l : List Int) (k : Nat) : histTo l (k + 1) = histTo l k ++ [dayOf (l.getD (2 * k) 0) (l.getD (2 * k + 1) 0)] := by
  unfold histTo
  rw [List.range_succ, List.map_append]
  rfl
theorem day_ok (x y : Int) : (dayOf x y).ok ∧ (dayOf x y).sup ≤ 59 := by
  have h1 : 0 ≤ y % (x % 60 + 1) := Int.emod_nonneg _ (by omega)
  have h2 : y % (x % 60 + 1) < x % 60 + 1 := Int.emod_lt_of_pos _ (by omega)
  unfold DayD.ok dayOf
  simp only
  split <;> omega
theorem hist_ok (l : List Int) (k : Nat) : ∀ d ∈ histTo l k, d.ok ∧ d.sup ≤ 59 := fun d hd => by
  obtain ⟨i, -, rfl⟩ := List.mem_map.1 hd
  exact day_ok _ _
end Go.Proofs.Ytlmpbmlbllndcaa
