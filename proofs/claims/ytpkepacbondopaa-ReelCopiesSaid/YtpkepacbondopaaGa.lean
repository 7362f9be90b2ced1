/-
  Plain: the press that Made makes of numbers. No function of the program.
-/
import Derived.Test.YtpkepacbondopaaPa
namespace Go.Proofs.Ytpkepacbondopaa

/-- The i-th number, below n; zero after the end. -/
def nxD (l : List Int) (i n : Nat) : Int := if i < l.length then l.getD i 0 % (n : Int) else 0
def Bytes (l : List Int) : Prop := ∀ x ∈ l, 0 ≤ x ∧ x ≤ 255
theorem nxD_bound (l : List Int) (i n : Nat) (hn : 0 < n) : 0 ≤ nxD l i n ∧ nxD l i n < n := by
  unfold nxD
  split
  · exact ⟨Int.emod_nonneg _ (by omega), Int.emod_lt_of_pos _ (by omega)⟩
  · omega
def reelM (l : List Int) (i : Nat) (id : Int) : ReelD :=
  ⟨id + 1 + nxD l i 5, 700 + nxD l (i + 1) 3, 800 * nxD l (i + 2) 256 + nxD l (i + 3) 256, min (800 * nxD l (i + 2) 256 + nxD l (i + 3) 256) (10 * nxD l (i + 4) 100)⟩
/-- The last Id after k reels. -/
def idM (l : List Int) (i : Nat) (id : Int) : Nat → Int
  | 0 => id
  | k + 1 => idM l i id k + 1 + nxD l (i + 5 * k) 5
def reelsM (l : List Int) (i : Nat) (id : Int) : Nat → List ReelD
  | 0 => []
  | k + 1 => reelsM l i id k ++ [reelM l (i + 5 * k) (idM l i id k)]
def nReels (l : List Int) (i : Nat) : Nat := (1 + nxD l (i + 3) 6).toNat
def webM (l : List Int) (i : Nat) (id : Int) : WebD := ⟨reelsM l (i + 4) id (nReels l i), 13 * nxD l i 200, 3 * nxD l (i + 1) 150, 4 * nxD l (i + 2) 150⟩
/-- Where the k-th web's numbers begin, and the last Id before it. -/
def atM (l : List Int) : Nat → Nat
  | 0 => 3
  | k + 1 => atM l k + 4 + 5 * nReels l (atM l k)
def beforeM (l : List Int) : Nat → Int
  | 0 => 0
  | k + 1 => idM l (atM l k + 4) (beforeM l k) (nReels l (atM l k))
def websM (l : List Int) : Nat → List WebD
  | 0 => []
  | k + 1 => websM l k ++ [webM l (atM l k) (beforeM l k)]
def nWebs (l : List Int) : Nat := (1 + nxD l 2 3).toNat
def madeP (l : List Int) : PressD := ⟨300 + 5 * nxD l 0 240, nxD l 1 4, websM l (nWebs l)⟩

theorem reelsM_len (l : List Int) (i : Nat) (id : Int) : ∀ k, (reelsM l i id k).length = k
  | 0 => rfl
  | k + 1 => by unfold reelsM; rw [List.length_append, reelsM_len l i id k]; rfl
theorem websM_len (l : List Int) : ∀ k, (websM l k).length = k
  | 0 => rfl
  | k + 1 => by unfold websM; rw [List.length_append, websM_len l k]; rfl
theorem nReels_bound (l : List Int) (i : Nat) : 1 ≤ nReels l i ∧ nReels l i ≤ 6 ∧ ((nReels l i : Nat) : Int) = 1 + nxD l (i + 3) 6 := by
  have := nxD_bound l (i + 3) 6 (by omega)
  unfold nReels
  omega
theorem nWebs_bound (l : List Int) : 1 ≤ nWebs l ∧ nWebs l ≤ 3 ∧ ((nWebs l : Nat) : Int) = 1 + nxD l 2 3 := by
  have := nxD_bound l 2 3 (by omega)
  unfold nWebs
  omega
theorem idM_bound (l : List Int) (i : Nat) (id : Int) : ∀ k : Nat, id + k ≤ idM l i id k ∧ idM l i id k ≤ id + 5 * k
  | 0 => by unfold idM; omega
  | k + 1 => by
    have h1 := idM_bound l i id k
    have h2 := nxD_bound l (i + 5 * k) 5 (by omega)
    unfold idM
    omega
theorem beforeM_bound (l : List Int) : ∀ k : Nat, 0 ≤ beforeM l k ∧ beforeM l k ≤ 30 * k
  | 0 => by unfold beforeM; omega
  | k + 1 => by
    have h1 := beforeM_bound l k
    have h2 := idM_bound l (atM l k + 4) (beforeM l k) (nReels l (atM l k))
    have h3 := nReels_bound l (atM l k)
    unfold beforeM
    omega
theorem atM_bound (l : List Int) : ∀ k : Nat, atM l k ≤ 3 + 34 * k
  | 0 => by unfold atM; omega
  | k + 1 => by
    have h1 := atM_bound l k
    have h3 := nReels_bound l (atM l k)
    unfold atM
    omega
theorem reelM_ok {l : List Int} {i : Nat} {id : Int} (h : 0 ≤ id ∧ id ≤ 1000) : (reelM l i id).ok := by
  have h1 := nxD_bound l i 5 (by omega)
  have h2 := nxD_bound l (i + 1) 3 (by omega)
  have h3 := nxD_bound l (i + 2) 256 (by omega)
  have h4 := nxD_bound l (i + 3) 256 (by omega)
  have h5 := nxD_bound l (i + 4) 100 (by omega)
  unfold reelM
  refine ⟨?_, ?_, ?_, ?_⟩ <;> simp only <;> omega
theorem reelsM_ok {l : List Int} {i : Nat} {id : Int} (h : 0 ≤ id ∧ id ≤ 500) : ∀ k, k ≤ 6 → ∀ r ∈ reelsM l i id k, r.ok ∧ id < r.id ∧ r.id ≤ idM l i id k
  | 0, _, r, hr => by cases hr
  | k + 1, hk, r, hr => by
    unfold reelsM at hr
    have h1 := idM_bound l i id k
    have h2 := nxD_bound l (i + 5 * k) 5 (by omega)
    rcases List.mem_append.1 hr with hr | hr
    · obtain ⟨h3, h4, h5⟩ := reelsM_ok h k (by omega) r hr
      refine ⟨h3, h4, ?_⟩
      show r.id ≤ idM l i id k + 1 + nxD l (i + 5 * k) 5
      omega
    · rw [List.mem_singleton.1 hr]
      refine ⟨reelM_ok (by omega), ?_, ?_⟩
      · show id < idM l i id k + 1 + nxD l (i + 5 * k) 5
        omega
      · exact Int.le_refl _
theorem reelsM_up {l : List Int} {i : Nat} {id : Int} (h : 0 ≤ id ∧ id ≤ 500) : ∀ k, k ≤ 6 → (idsL (reelsM l i id k)).Pairwise (· < ·)
  | 0, _ => List.Pairwise.nil
  | k + 1, hk => by
    unfold reelsM idsL
    rw [List.map_append, List.pairwise_append]
    refine ⟨reelsM_up h k (by omega), List.pairwise_singleton _ _, fun a ha b hb => ?_⟩
    obtain ⟨r, hr, rfl⟩ := List.mem_map.1 ha
    obtain ⟨r', hr', rfl⟩ := List.mem_map.1 hb
    rw [List.mem_singleton.1 hr']
    have h2 := nxD_bound l (i + 5 * k) 5 (by omega)
    have := reelsM_ok h k (by omega) r hr
    show r.id < idM l i id k + 1 + nxD l (i + 5 * k) 5
    omega
theorem reelsE_zero : ∀ {met : List Int} {l : List ReelD}, (∀ r ∈ l, r.ok) → (∀ r ∈ l, r.id ∉ met) → (idsL l).Nodup → reelsE met l = 0
  | _, [], _, _, _ => rfl
  | met, r :: l, h1, h2, h3 => by
    unfold reelsE
    rw [if_neg (fun h => h (h1 r (List.mem_cons_self ..))), if_neg (h2 r (List.mem_cons_self ..))]
    unfold idsL at h3
    rw [List.map_cons, List.nodup_cons] at h3
    refine reelsE_zero (fun x hx => h1 x (List.mem_cons_of_mem _ hx)) (fun x hx => ?_) h3.2
    rw [List.mem_append, List.mem_singleton]
    rintro (h | h)
    · exact h2 x (List.mem_cons_of_mem _ hx) h
    · exact h3.1 (List.mem_map.2 ⟨x, hx, h⟩)
theorem websE_zero : ∀ {met : List Int} {l : List WebD}, (∀ x ∈ l, x.ok ∧ ∀ r ∈ x.reels, r.ok) → (met ++ l.flatMap fun x => idsL x.reels).Nodup → websE met l = 0
  | _, [], _, _ => rfl
  | met, x :: l, h1, h2 => by
    rw [List.flatMap_cons, ← List.append_assoc] at h2
    have h3 := (List.nodup_append.1 h2).1
    have h4 := List.nodup_append.1 h3
    have hx := h1 x (List.mem_cons_self ..)
    unfold websE
    rw [if_neg (fun h => h hx.1), if_neg (fun h => h (reelsE_zero hx.2 (fun r hr hm => h4.2.2 r.id hm r.id (List.mem_map.2 ⟨r, hr, rfl⟩) rfl) h4.2.1))]
    exact websE_zero (fun y hy => h1 y (List.mem_cons_of_mem _ hy)) h2
theorem webM_ok (l : List Int) (k : Nat) (hk : k ≤ 3) : (webM l (atM l k) (beforeM l k)).ok ∧ (∀ r ∈ (webM l (atM l k) (beforeM l k)).reels, r.ok ∧ beforeM l k < r.id ∧ r.id ≤ beforeM l (k + 1)) ∧ (webM l (atM l k) (beforeM l k)).reels.length ≤ 6 := by
  have h1 := nxD_bound l (atM l k) 200 (by omega)
  have h2 := nxD_bound l (atM l k + 1) 150 (by omega)
  have h3 := nxD_bound l (atM l k + 2) 150 (by omega)
  have h4 := nReels_bound l (atM l k)
  have h5 := beforeM_bound l k
  refine ⟨?_, fun r hr => ?_, ?_⟩
  · unfold webM
    refine ⟨?_, ?_, ?_⟩ <;> simp only <;> omega
  · exact reelsM_ok (by omega) _ h4.2.1 r hr
  · show (reelsM _ _ _ _).length ≤ 6
    rw [reelsM_len]
    omega
theorem websM_mem (l : List Int) : ∀ k, k ≤ 3 → ∀ x ∈ websM l k, x.ok ∧ (∀ r ∈ x.reels, r.ok ∧ r.id ≤ beforeM l k) ∧ x.reels.length ≤ 6
  | 0, _, x, hx => by cases hx
  | k + 1, hk, x, hx => by
    unfold websM at hx
    have h6 := idM_bound l (atM l k + 4) (beforeM l k) (nReels l (atM l k))
    have h7 : beforeM l k ≤ beforeM l (k + 1) := by
      conv => rhs; unfold beforeM
      omega
    rcases List.mem_append.1 hx with hx | hx
    · have := websM_mem l k (by omega) x hx
      exact ⟨this.1, fun r hr => ⟨(this.2.1 r hr).1, by have := (this.2.1 r hr).2; omega⟩, this.2.2⟩
    · rw [List.mem_singleton.1 hx]
      have := webM_ok l k (by omega)
      exact ⟨this.1, fun r hr => ⟨(this.2.1 r hr).1, (this.2.1 r hr).2.2⟩, this.2.2⟩
theorem websM_up (l : List Int) : ∀ k, k ≤ 3 → ((websM l k).flatMap fun x => idsL x.reels).Pairwise (· < ·)
  | 0, _ => List.Pairwise.nil
  | k + 1, hk => by
    unfold websM
    rw [List.flatMap_append, List.pairwise_append]
    have h5 := beforeM_bound l k
    have h4 := nReels_bound l (atM l k)
    refine ⟨websM_up l k (by omega), ?_, fun a ha b hb => ?_⟩
    · simp only [List.flatMap_cons, List.flatMap_nil, List.append_nil]
      exact reelsM_up (by omega) _ h4.2.1
    · simp only [List.flatMap_cons, List.flatMap_nil, List.append_nil] at hb
      obtain ⟨x, hx, hax⟩ := List.mem_flatMap.1 ha
      obtain ⟨r, hr, rfl⟩ := List.mem_map.1 hax
      obtain ⟨r', hr', rfl⟩ := List.mem_map.1 hb
      have h1 := (websM_mem l k (by omega) x hx).2.1 r hr
      have h2 := (webM_ok l k (by omega)).2.1 r' hr'
      omega
theorem made_check (l : List Int) : checkE (madeP l) = 0 := by
  have h1 := nWebs_bound l
  have h2 := websM_len l (nWebs l)
  have h3 := nxD_bound l 0 240 (by omega)
  have h4 := nxD_bound l 1 4 (by omega)
  unfold checkE madeP
  simp only
  rw [if_pos, if_pos]
  · refine websE_zero (fun x hx => ?_) ?_
    · have := websM_mem l (nWebs l) h1.2.1 x hx
      exact ⟨this.1, fun r hr => (this.2.1 r hr).1⟩
    · rw [List.nil_append]
      exact (websM_up l (nWebs l) h1.2.1).imp fun h => by omega
  · omega
  · refine ⟨by omega, by omega, List.all_eq_true.2 fun x hx => ?_⟩
    have := (websM_mem l (nWebs l) h1.2.1 x hx).2.2
    simp only [decide_eq_true_eq]
    omega
theorem made_ok (l : List Int) : (madeP l).Ok := checkE_ok (made_check l)
end Go.Proofs.Ytpkepacbondopaa
