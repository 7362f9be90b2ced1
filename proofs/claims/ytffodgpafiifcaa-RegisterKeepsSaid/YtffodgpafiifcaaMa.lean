/-
  A LOOP OF CONTROL, plain: what happens, copy by copy; the bound; the settling time; what reaches the bound; what no rule can hold.
-/
import Derived.Lib.Hide
namespace Go.Proofs.Ytffodgpafiifcaa

structure LoopD where
  dead : Int
  noise : Int
  blur : Int
  step : Int
  deriving DecidableEq, Inhabited

def loopB (l : LoopD) : Bool := decide (0 ≤ l.dead ∧ l.dead ≤ 20) && decide (0 ≤ l.noise ∧ l.noise ≤ 1000) && decide (0 ≤ l.blur ∧ l.blur ≤ 1000) && decide (max 1 (l.noise + 2 * l.blur) ≤ l.step ∧ l.step ≤ 10000)
def LoopOk (l : LoopD) : Prop := 0 ≤ l.dead ∧ l.dead ≤ 20 ∧ 0 ≤ l.noise ∧ l.noise ≤ 1000 ∧ 0 ≤ l.blur ∧ l.blur ≤ 1000 ∧ 1 ≤ l.step ∧ l.noise + 2 * l.blur ≤ l.step ∧ l.step ≤ 10000
theorem loopB_iff (l : LoopD) : loopB l = true ↔ LoopOk l := by
  unfold loopB LoopOk
  simp only [Bool.and_eq_true, decide_eq_true_eq]
  omega

def boundD (l : LoopD) : Int := (l.dead + 1) * l.noise + l.blur
theorem boundD_small {l : LoopD} (h : LoopOk l) : 0 ≤ boundD l ∧ boundD l ≤ 22000 := by
  obtain ⟨h1, h2, h3, h4, h5, h6, -⟩ := h
  unfold boundD
  have a := Int.mul_nonneg (show 0 ≤ l.dead + 1 by omega) h3
  have b := Int.mul_le_mul (show l.dead + 1 ≤ 21 by omega) h4 h3 (by omega)
  omega

/-- The opposite of what is seen, but within the greatest correction. -/
def clampD (s v : Int) : Int := min (max (-v) (-s)) s
theorem clampD_le (s v : Int) (h : 0 ≤ s) : clampD s v ≤ s ∧ -s ≤ clampD s v := by unfold clampD; omega

section
variable (s : Int) (n b : Nat → Int) (e0 : Int)
/-- What will be there when all pending corrections have acted. -/
def pD : Nat → Int
  | 0 => e0
  | t + 1 => pD t + clampD s (pD t + b t) + n t
def uD (t : Nat) : Int := clampD s (pD s n b e0 t + b t)
/-- The corrections, none before copy 0. -/
def UD (t : Int) : Int := if t < 0 then 0 else uD s n b e0 t.toNat
/-- The corrections that are pending at copy t. -/
def qD (d t : Nat) : List Int := (List.range d).map fun (i : Nat) => UD s n b e0 ((t : Int) - d + i)
def eD (d t : Nat) : Int := pD s n b e0 t - (qD s n b e0 d t).sum

theorem UD_nat (t : Nat) : UD s n b e0 (t : Int) = uD s n b e0 t := by unfold UD; rw [if_neg (by omega), Int.toNat_natCast]
theorem qD_len (d t : Nat) : (qD s n b e0 d t).length = d := by simp [qD]
theorem qD_snoc (d t : Nat) : qD s n b e0 d t ++ [uD s n b e0 t] = UD s n b e0 ((t : Int) - d) :: qD s n b e0 d (t + 1) := by
  have h1 : qD s n b e0 d t ++ [uD s n b e0 t] = (List.range (d + 1)).map fun (i : Nat) => UD s n b e0 ((t : Int) - d + i) := by
    rw [List.range_succ, List.map_append, List.map_singleton]
    unfold qD
    rw [show ((t : Int) - d + d) = (t : Int) by omega, UD_nat]
  rw [h1, List.range_succ_eq_map, List.map_cons, List.map_map]
  unfold qD
  congr 1
  · simp
  · apply List.map_congr_left
    intro i _
    show UD s n b e0 ((t : Int) - d + ((i + 1 : Nat) : Int)) = UD s n b e0 (((t + 1 : Nat) : Int) - d + i)
    congr 1
    omega
theorem sum_snoc (l : List Int) (x : Int) : (l ++ [x]).sum = l.sum + x := by simp
theorem eD_step (d t : Nat) : eD s n b e0 d (t + 1) = eD s n b e0 d t + UD s n b e0 ((t : Int) - d) + n t := by
  have h := congrArg List.sum (qD_snoc s n b e0 d t)
  rw [sum_snoc, List.sum_cons] at h
  unfold eD
  have hp : pD s n b e0 (t + 1) = pD s n b e0 t + uD s n b e0 t + n t := rfl
  rw [hp]
  omega
theorem UD_early (t : Int) (h : t < 0) : UD s n b e0 t = 0 := by unfold UD; rw [if_pos h]
theorem zero_sum (l : List Int) (h : ∀ x ∈ l, x = 0) : l.sum = 0 := by
  induction l with
  | nil => rfl
  | cons x l ih => rw [List.sum_cons, h x (by simp), ih fun y hy => h y (by simp [hy])]; rfl
theorem qD_zero (d : Nat) : qD s n b e0 d 0 = List.replicate d 0 := by
  unfold qD
  rw [List.eq_replicate_iff]
  refine ⟨by simp, fun x hx => ?_⟩
  obtain ⟨i, hi, rfl⟩ := List.mem_map.1 hx
  rw [List.mem_range] at hi
  exact UD_early _ _ _ _ _ (by omega)
theorem eD_zero (d : Nat) : eD s n b e0 d 0 = e0 := by
  unfold eD
  rw [qD_zero, zero_sum _ (fun x hx => List.eq_of_mem_replicate hx)]
  show e0 - 0 = e0
  omega
/-- The noise of the last d copies. -/
def nSum : Nat → Nat → Int
  | 0, _ => 0
  | d + 1, t => nSum d (t + 1) + n t
/-- Behind d copies the error is what was unseen. -/
theorem sum_last (d t : Nat) : (qD s n b e0 d (t + d)).sum = pD s n b e0 (t + d) - pD s n b e0 t - nSum n d t := by
  induction d generalizing t with
  | zero => simp [qD, nSum]
  | succ d ih =>
    have h : qD s n b e0 (d + 1) (t + (d + 1)) = uD s n b e0 t :: qD s n b e0 d (t + 1 + d) := by
      unfold qD
      rw [List.range_succ_eq_map, List.map_cons, List.map_map]
      congr 1
      · rw [show (((t + (d + 1) : Nat) : Int) - ((d + 1 : Nat) : Int) + ((0 : Nat) : Int)) = (t : Int) by omega, UD_nat]
      · apply List.map_congr_left
        intro i _
        show UD s n b e0 _ = UD s n b e0 _
        congr 1
        simp only [Nat.succ_eq_add_one]
        omega
    rw [h, List.sum_cons, ih (t + 1), show t + 1 + d = t + (d + 1) by omega]
    have hp : pD s n b e0 (t + 1) = pD s n b e0 t + uD s n b e0 t + n t := rfl
    rw [hp]
    show uD s n b e0 t + (pD s n b e0 (t + (d + 1)) - (pD s n b e0 t + uD s n b e0 t + n t) - nSum n d (t + 1)) = pD s n b e0 (t + (d + 1)) - pD s n b e0 t - (nSum n d (t + 1) + n t)
    omega
theorem eD_late (d t : Nat) : eD s n b e0 d (t + d) = pD s n b e0 t + nSum n d t := by
  unfold eD
  rw [sum_last]
  omega
theorem nSum_le {N : Int} (hn : ∀ t, n t ≤ N ∧ -N ≤ n t) (d : Nat) : ∀ t, nSum n d t ≤ d * N ∧ -(d * N) ≤ nSum n d t := by
  induction d with
  | zero => intro t; simp [nSum]
  | succ d ih =>
    intro t
    have h1 := ih (t + 1)
    have h2 := hn t
    have h3 : ((d + 1 : Nat) : Int) * N = d * N + N := by rw [Int.natCast_add, Int.add_mul]; simp
    rw [h3]
    show nSum n d (t + 1) + n t ≤ _ ∧ _ ≤ nSum n d (t + 1) + n t
    omega
theorem nSum_const {N : Int} (d : Nat) : ∀ t, (∀ i, t ≤ i → i < t + d → n i = N) → nSum n d t = d * N := by
  induction d with
  | zero => intro t _; simp [nSum]
  | succ d ih =>
    intro t h
    have h3 : ((d + 1 : Nat) : Int) * N = d * N + N := by rw [Int.natCast_add, Int.add_mul]; simp
    rw [h3]
    show nSum n d (t + 1) + n t = _
    rw [ih (t + 1) (fun i h1 h2 => h i (by omega) (by omega)), h t (by omega) (by omega)]
end

section
variable {l : LoopD} {n b : Nat → Int} {e0 : Int}
/-- One copy: what is to be there is small, or has been made less. -/
theorem p_next (h : LoopOk l) (hn : ∀ t, n t ≤ l.noise ∧ -l.noise ≤ n t) (hb : ∀ t, b t ≤ l.blur ∧ -l.blur ≤ b t) (t : Nat) :
    (pD l.step n b e0 (t + 1) = n t - b t ∨ (l.step < pD l.step n b e0 t + b t ∧ pD l.step n b e0 (t + 1) = pD l.step n b e0 t - l.step + n t) ∨ (pD l.step n b e0 t + b t < -l.step ∧ pD l.step n b e0 (t + 1) = pD l.step n b e0 t + l.step + n t)) := by
  obtain ⟨h1, h2, h3, h4, h5, h6, h7, h8, h9⟩ := h
  have := hn t
  have := hb t
  show pD l.step n b e0 t + clampD l.step (pD l.step n b e0 t + b t) + n t = _ ∨ _ ∧ pD l.step n b e0 t + clampD l.step (pD l.step n b e0 t + b t) + n t = _ ∨ _ ∧ pD l.step n b e0 t + clampD l.step (pD l.step n b e0 t + b t) + n t = _
  unfold clampD
  omega
theorem p_small (h : LoopOk l) (hn : ∀ t, n t ≤ l.noise ∧ -l.noise ≤ n t) (hb : ∀ t, b t ≤ l.blur ∧ -l.blur ≤ b t) (t : Nat) (hp : pD l.step n b e0 t ≤ l.step - l.blur ∧ -(l.step - l.blur) ≤ pD l.step n b e0 t) :
    pD l.step n b e0 (t + 1) = n t - b t ∧ pD l.step n b e0 (t + 1) ≤ l.step - l.blur ∧ -(l.step - l.blur) ≤ pD l.step n b e0 (t + 1) := by
  have h0 := p_next (e0 := e0) h hn hb t
  obtain ⟨h1, h2, h3, h4, h5, h6, h7, h8, h9⟩ := h
  have := hn t
  have := hb t
  omega
theorem p_stay (h : LoopOk l) (hn : ∀ t, n t ≤ l.noise ∧ -l.noise ≤ n t) (hb : ∀ t, b t ≤ l.blur ∧ -l.blur ≤ b t) (t : Nat) (hp : pD l.step n b e0 t ≤ l.step - l.blur ∧ -(l.step - l.blur) ≤ pD l.step n b e0 t) :
    ∀ k, pD l.step n b e0 (t + k) ≤ l.step - l.blur ∧ -(l.step - l.blur) ≤ pD l.step n b e0 (t + k)
  | 0 => hp
  | k + 1 => (p_small h hn hb (t + k) (p_stay h hn hb t hp k)).2
/-- From a copy on at which it is small the error is within the bound, Dead + 1 copies later. -/
theorem e_bound (h : LoopOk l) (hn : ∀ t, n t ≤ l.noise ∧ -l.noise ≤ n t) (hb : ∀ t, b t ≤ l.blur ∧ -l.blur ≤ b t) (d k t : Nat) (hd : (d : Int) = l.dead)
    (hp : pD l.step n b e0 k ≤ l.step - l.blur ∧ -(l.step - l.blur) ≤ pD l.step n b e0 k) (ht : k + d + 1 ≤ t) : eD l.step n b e0 d t ≤ boundD l ∧ -(boundD l) ≤ eD l.step n b e0 d t := by
  obtain ⟨j, rfl⟩ : ∃ j, t = k + j + 1 + d := ⟨t - d - 1 - k, by omega⟩
  have h1 := p_small h hn hb (k + j) (p_stay h hn hb k hp j)
  have h2 := nSum_le n hn d (k + j + 1)
  have h3 := hn (k + j)
  have h4 := hb (k + j)
  rw [eD_late, h1.1]
  have h5 : boundD l = d * l.noise + l.noise + l.blur := by
    unfold boundD; rw [← hd, Int.add_mul, Int.one_mul]
  omega
/-- From a great error each copy leaves Step - Noise less. -/
theorem p_settles (h : LoopOk l) (hn : ∀ t, n t ≤ l.noise ∧ -l.noise ≤ n t) (hb : ∀ t, b t ≤ l.blur ∧ -l.blur ≤ b t) (k : Nat) :
    (max (pD l.step n b e0 k) (-(pD l.step n b e0 k)) ≤ max (l.step - l.blur) (max e0 (-e0) - k * (l.step - l.noise))) := by
  induction k with
  | zero => show max e0 (-e0) ≤ _; simp only [Int.natCast_zero, Int.zero_mul]; omega
  | succ k ih =>
    have h0 := p_next (e0 := e0) h hn hb k
    obtain ⟨h1, h2, h3, h4, h5, h6, h7, h8, h9⟩ := h
    have := hn k
    have := hb k
    have h3 : ((k + 1 : Nat) : Int) * (l.step - l.noise) = k * (l.step - l.noise) + (l.step - l.noise) := by rw [Int.natCast_add, Int.add_mul]; simp
    rw [h3]
    generalize (k : Int) * (l.step - l.noise) = y at *
    omega
theorem u_le (h : LoopOk l) (t : Nat) : uD l.step n b e0 t ≤ l.step ∧ -l.step ≤ uD l.step n b e0 t := clampD_le _ _ (by have := h.2.2.2.2.2.2.1; omega)
theorem U_le (h : LoopOk l) (t : Int) : UD l.step n b e0 t ≤ l.step ∧ -l.step ≤ UD l.step n b e0 t := by
  unfold UD
  split
  · have := h.2.2.2.2.2.2.1; omega
  · exact u_le h _
theorem e_small (h : LoopOk l) (hn : ∀ t, n t ≤ l.noise ∧ -l.noise ≤ n t) (d t : Nat) : eD l.step n b e0 d t ≤ max e0 (-e0) + t * 11000 ∧ -(max e0 (-e0) + t * 11000) ≤ eD l.step n b e0 d t := by
  induction t with
  | zero => rw [eD_zero]; omega
  | succ t ih =>
    rw [eD_step]
    have h1 := U_le (n := n) (b := b) (e0 := e0) h ((t : Int) - d)
    have h2 := hn t
    obtain ⟨-, -, -, h4, -, -, -, -, h9⟩ := h
    omega
end

/-- The settling time: how many copies beyond Dead + 1. -/
def moreD (l : LoopD) (e : Int) : Option Int := if max e (-e) ≤ l.step - l.blur then some 0 else if l.step = l.noise then none else some ((max e (-e) - (l.step - l.blur) + (l.step - l.noise) - 1) / (l.step - l.noise))
/-- After the settling time the error is within the bound. -/
theorem settled {l : LoopD} {n b : Nat → Int} {e0 : Int} (h : LoopOk l) (hn : ∀ t, n t ≤ l.noise ∧ -l.noise ≤ n t) (hb : ∀ t, b t ≤ l.blur ∧ -l.blur ≤ b t) (d t : Nat) (hd : (d : Int) = l.dead) {m : Int} (hm : moreD l e0 = some m) (ht : l.dead + 1 + m ≤ t) :
    eD l.step n b e0 d t ≤ boundD l ∧ -(boundD l) ≤ eD l.step n b e0 d t := by
  have h9 := h
  obtain ⟨-, -, h3, -, h5, -, h7, h8, -⟩ := h9
  unfold moreD at hm
  split at hm
  · obtain rfl : 0 = m := by simpa using hm
    exact e_bound h hn hb d 0 t hd (by show e0 ≤ _ ∧ _ ≤ e0; omega) (by omega)
  · split at hm
    · cases hm
    · rename_i h1 h2
      obtain rfl := Option.some.inj hm
      have hpos : 0 < l.step - l.noise := by omega
      have hq := Int.mul_ediv_self_le (x := max e0 (-e0) - (l.step - l.blur) + (l.step - l.noise) - 1) (k := l.step - l.noise) (by omega)
      have hq2 := Int.lt_mul_ediv_self_add (x := max e0 (-e0) - (l.step - l.blur) + (l.step - l.noise) - 1) hpos
      have hq0 : 0 ≤ (max e0 (-e0) - (l.step - l.blur) + (l.step - l.noise) - 1) / (l.step - l.noise) := Int.ediv_nonneg (by omega) (by omega)
      generalize hk : (max e0 (-e0) - (l.step - l.blur) + (l.step - l.noise) - 1) / (l.step - l.noise) = q at *
      obtain ⟨k, rfl⟩ : ∃ k : Nat, q = k := ⟨q.toNat, by omega⟩
      have h4 := p_settles (e0 := e0) h hn hb k
      rw [Int.mul_comm] at hq2
      generalize (k : Int) * (l.step - l.noise) = y at *
      exact e_bound h hn hb d k t hd (by omega) (by omega)
/-- What reaches the bound. -/
theorem worst {l : LoopD} {n b : Nat → Int} (h : LoopOk l) (d : Nat) (hd : (d : Int) = l.dead) (hn : ∀ i, i < d + 1 → n i = l.noise) (hb : b 0 = -l.blur) : eD l.step n b 0 d (d + 1) = boundD l := by
  rw [show d + 1 = 1 + d by omega, eD_late, nSum_const n d 1 (fun i _ h2 => hn i (by omega))]
  have hp : pD l.step n b 0 1 = 0 + clampD l.step (0 + b 0) + n 0 := rfl
  rw [hp, hb, hn 0 (by omega)]
  obtain ⟨h1, h2, h3, h4, h5, h6, h7, h8, h9⟩ := h
  unfold boundD clampD
  rw [← hd, Int.add_mul, Int.one_mul]
  generalize (d : Int) * l.noise = y
  omega
/-- What no rule can hold. -/
def beatD (l : LoopD) (e : Int) : Int := if e < 0 ∧ -2 * ((l.dead + 1) * l.noise) < e then -l.noise else l.noise
theorem beat {l : LoopD} (h : LoopOk l) (e : Int) : (l.dead + 1) * l.noise ≤ max (e + (l.dead + 1) * beatD l e) (-(e + (l.dead + 1) * beatD l e)) := by
  have h0 : 0 ≤ (l.dead + 1) * l.noise := Int.mul_nonneg (by have := h.1; omega) h.2.2.1
  unfold beatD
  split
  · rw [Int.mul_neg]
    generalize (l.dead + 1) * l.noise = y at *
    omega
  · generalize (l.dead + 1) * l.noise = y at *
    omega
end Go.Proofs.Ytffodgpafiifcaa
