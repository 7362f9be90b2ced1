/-
  Plain, for RegisterKeeps: colours, what a desk reads, what lies there during the walk.
-/
import Derived.Test.YtffodgpafiifcaaKa
import Derived.Test.YtffodgpafiifcaaOe
import Derived.Test.YtffodgpafiifcaaQz
import Derived.Test.YtffodgpafiifcaaHa
import Derived.Test.YtffodgpafiifcaaEc
namespace Go.Proofs.Ytffodgpafiifcaa
open Go.RowKit

section
variable {s : Int} {n n' b b' : Nat → Int} {e0 : Int} {t : Nat}
theorem pD_congr (h : ∀ k, k < t → n k = n' k ∧ b k = b' k) : pD s n b e0 t = pD s n' b' e0 t := by
  induction t with
  | zero => rfl
  | succ t ih =>
    have h1 := ih fun k hk => h k (by omega)
    have h2 := h t (by omega)
    show pD s n b e0 t + clampD s (pD s n b e0 t + b t) + n t = pD s n' b' e0 t + clampD s (pD s n' b' e0 t + b' t) + n' t
    rw [h1, h2.1, h2.2]
theorem uD_congr (h : ∀ k, k < t → n k = n' k ∧ b k = b' k) (hb : b t = b' t) : uD s n b e0 t = uD s n' b' e0 t := by
  unfold uD
  rw [pD_congr h, hb]
theorem UD_congr (h : ∀ k, k < t → n k = n' k ∧ b k = b' k) {x : Int} (hx : x < t) : UD s n b e0 x = UD s n' b' e0 x := by
  unfold UD
  split
  · rfl
  · exact uD_congr (fun k hk => h k (by omega)) (h _ (by omega)).2
theorem qD_congr (d : Nat) (h : ∀ k, k < t → n k = n' k ∧ b k = b' k) : qD s n b e0 d t = qD s n' b' e0 d t := by
  unfold qD
  apply List.map_congr_left
  intro i hi
  rw [List.mem_range] at hi
  exact UD_congr h (by omega)
theorem eD_congr (d : Nat) (h : ∀ k, k < t → n k = n' k ∧ b k = b' k) : eD s n b e0 d t = eD s n' b' e0 d t := by
  unfold eD
  rw [pD_congr h, qD_congr d h]
theorem qD_queue (d t : Nat) : qD s n b e0 d t = queueD d ((List.range t).map (uD s n b e0)) := by
  induction t with
  | zero => rw [qD_zero, List.range_zero, List.map_nil, queueD_nil]
  | succ t ih =>
    have h1 := qD_snoc s n b e0 d t
    obtain ⟨x, h2⟩ := queueD_next d ((List.range t).map (uD s n b e0)) (uD s n b e0 t)
    rw [ih, h2] at h1
    have h3 := (List.cons.inj h1).2
    rw [← h3, List.range_succ, List.map_append, List.map_singleton]
end

/-- A colour at copy t: its error, and its corrections so far. -/
def Col (l : LoopD) (d t : Nat) (e : Int) (ms : List Int) : Prop :=
  ∃ (n b : Nat → Int) (e0 : Int), (∀ k, n k ≤ l.noise ∧ -l.noise ≤ n k) ∧ (∀ k, b k ≤ l.blur ∧ -l.blur ≤ b k) ∧ (e0 ≤ l.step - l.blur ∧ -(l.step - l.blur) ≤ e0) ∧ (e0 ≤ 1000 ∧ -1000 ≤ e0) ∧ e = eD l.step n b e0 d t ∧ ms = (List.range t).map (uD l.step n b e0)
theorem Col.start {l : LoopD} (h : LoopOk l) (d : Nat) {e0 : Int} (h1 : e0 ≤ l.step - l.blur ∧ -(l.step - l.blur) ≤ e0) (h2 : e0 ≤ 1000 ∧ -1000 ≤ e0) : Col l d 0 e0 [] := by
  obtain ⟨-, -, g3, -, g5, -⟩ := h
  exact ⟨fun _ => 0, fun _ => 0, e0, fun _ => ⟨g3, by show -_ ≤ (0 : Int); omega⟩, fun _ => ⟨g5, by show -_ ≤ (0 : Int); omega⟩, h1, h2, (eD_zero _ _ _ _ _).symm, rfl⟩
theorem Col.len {l : LoopD} {d t : Nat} {e : Int} {ms : List Int} (h : Col l d t e ms) : ms.length = t := by
  obtain ⟨n, b, e0, -, -, -, -, -, rfl⟩ := h
  simp
theorem Col.step {l : LoopD} {d t : Nat} {e : Int} {ms : List Int} (hc : Col l d t e ms) {be nu x u : Int} (hb : be ≤ l.blur ∧ -l.blur ≤ be) (hn : nu ≤ l.noise ∧ -l.noise ≤ nu) (hx : x = e + be) (hl : x ≠ lostD) (hu : u = moveD l (queueD d ms) x) :
    Col l d (t + 1) (e + (if t < d then 0 else (ms ++ [u]).getD (t - d) 0) + nu) (ms ++ [u]) := by
  obtain ⟨n, b, e0, h1, h2, h3, h4, rfl, rfl⟩ := hc
  have hcg : ∀ k, k < t → n k = (fun k => if k = t then nu else n k) k ∧ b k = (fun k => if k = t then be else b k) k := fun k hk => by
    have : ¬ k = t := by omega
    simp [this]
  have huu : u = uD l.step (fun k => if k = t then nu else n k) (fun k => if k = t then be else b k) e0 t := by
    rw [hu, ← qD_queue]
    unfold moveD uD
    rw [if_neg hl, hx, ← pD_congr hcg]
    have : eD l.step n b e0 d t = pD l.step n b e0 t - (qD l.step n b e0 d t).sum := rfl
    congr 1
    simp only [if_true]
    omega
  refine ⟨fun k => if k = t then nu else n k, fun k => if k = t then be else b k, e0, fun k => ?_, fun k => ?_, h3, h4, ?_, ?_⟩
  · by_cases hk : k = t
    · simp only [hk, if_true]; exact hn
    · simp only [hk, if_false]; exact h1 k
  · by_cases hk : k = t
    · simp only [hk, if_true]; exact hb
    · simp only [hk, if_false]; exact h2 k
  · rw [eD_step, ← eD_congr d hcg]
    have hU : UD l.step (fun k => if k = t then nu else n k) (fun k => if k = t then be else b k) e0 ((t : Int) - d) = if t < d then 0 else (((List.range t).map (uD l.step n b e0)) ++ [u]).getD (t - d) 0 := by
      by_cases htd : t < d
      · rw [if_pos htd, UD_early _ _ _ _ _ (by omega)]
      · rw [if_neg htd]
        obtain ⟨j, rfl⟩ : ∃ j, t = j + d := ⟨t - d, by omega⟩
        rw [show ((j + d : Nat) : Int) - (d : Int) = ((j : Nat) : Int) by omega, UD_nat, show j + d - d = j by omega]
        by_cases hd0 : d = 0
        · subst hd0
          rw [List.getD_eq_getElem?_getD, List.getElem?_append_right (by simp)]
          simp only [List.length_map, List.length_range, Nat.add_zero, Nat.sub_self, List.getElem?_cons_zero, Option.getD_some]
          exact huu.symm
        · have hj : j < j + d := by omega
          rw [List.getD_eq_getElem?_getD, List.getElem?_append_left (by simpa using hj), List.getElem?_map, List.getElem?_range hj]
          exact (uD_congr (fun k hk => hcg k (by omega)) (hcg j hj).2).symm
    rw [hU]
    simp only [if_true]
  · rw [List.range_succ, List.map_append, List.map_singleton, ← huu]
    congr 1
    apply List.map_congr_left
    intro k hk
    rw [List.mem_range] at hk
    exact uD_congr (fun j hj => hcg j (by omega)) (hcg k hk).2
theorem Col.bound {l : LoopD} (h : LoopOk l) {d t : Nat} {e : Int} {ms : List Int} (hd : (d : Int) = l.dead) (hc : Col l d t e ms) (ht : d < t) : e ≤ boundD l ∧ -(boundD l) ≤ e := by
  obtain ⟨n, b, e0, h1, h2, h3, h4, rfl, rfl⟩ := hc
  exact e_bound h h1 h2 d 0 t hd h3 (by omega)
theorem Col.small {l : LoopD} (h : LoopOk l) {d t : Nat} {e : Int} {ms : List Int} (hd : (d : Int) = l.dead) (hn : l.noise ≤ 50) (hb : l.blur ≤ 200) (hd5 : d ≤ 5) (hc : Col l d t e ms) : e ≤ 1250 ∧ -1250 ≤ e := by
  by_cases ht : d < t
  · have h1 := hc.bound h hd ht
    have h2 : boundD l ≤ 500 := by
      unfold boundD
      have h3 : (l.dead + 1) * l.noise ≤ 6 * 50 := Int.mul_le_mul (by omega) hn h.2.2.1 (by omega)
      omega
    omega
  · obtain ⟨n, b, e0, h1, h2, h3, h4, rfl, rfl⟩ := hc
    have key : ∀ k : Nat, k ≤ d → eD l.step n b e0 d k ≤ 1000 + 50 * k ∧ -(1000 + 50 * k) ≤ eD l.step n b e0 d k := by
      intro k
      induction k with
      | zero => intro _; rw [eD_zero]; omega
      | succ k ih =>
        intro hk
        have h5 := ih (by omega)
        have h6 := h1 k
        rw [eD_step, UD_early _ _ _ _ _ (by omega)]
        omega
    have := key t (by omega)
    omega
end Go.Proofs.Ytffodgpafiifcaa

namespace Go.Proofs.Ytffodgpafiifcaa
open Go.RowKit

theorem get_getD9 {l : List Int} {k : Nat} {x : Int} (h : l[k]? = some x) : l.getD k 0 = x := by rw [List.getD_eq_getElem?_getD, h]; rfl
/-- Marks at 0, 30000, .. are seen, each off by o. -/
structure SeenAt (n : Nat) (marks seen : List Int) (o : Nat → Int) : Prop where
  few : 1 ≤ n ∧ n ≤ 3
  lm : marks.length = n + 1
  ls : seen.length = n + 1
  mark : ∀ j : Nat, j ≤ n → marks[j]? = some (30000 * (j : Int))
  seen : ∀ j : Nat, j ≤ n → seen[j]? = some (30000 * (j : Int) + o j)
  off : ∀ j : Nat, j ≤ n → o j ≤ 2000 ∧ -2000 ≤ o j
section
variable {n : Nat} {marks seen : List Int} {o : Nat → Int}
theorem SeenAt.allow (h : SeenAt n marks seen o) : AllowOk marks 5000 := by
  refine ⟨by omega, fun x hx => ?_, fun i x y hx hy => ?_⟩
  · obtain ⟨j, hj, rfl⟩ := List.getElem_of_mem hx
    have h1 := h.mark j (by have := h.lm; omega)
    rw [List.getElem?_eq_getElem hj] at h1
    injection h1 with h1
    rw [h1]
    have := h.lm
    have := h.few
    omega
  · have h3 := (List.getElem?_eq_some_iff.1 hy).1
    have hl := h.lm
    have h1 := h.mark i (by omega)
    have h2 := h.mark (i + 1) (by omega)
    rw [h1] at hx
    rw [h2] at hy
    injection hx with hx
    injection hy with hy
    omega
theorem SeenAt.place (h : SeenAt n marks seen o) : ∀ x ∈ seen, -100000 ≤ x ∧ x ≤ 200000 := fun x hx => by
  obtain ⟨j, hj, rfl⟩ := List.getElem_of_mem hx
  have hl := h.ls
  have h1 := h.seen j (by omega)
  have h2 := h.off j (by omega)
  rw [List.getElem?_eq_getElem hj] at h1
  injection h1 with h1
  rw [h1]
  have := h.few
  omega
theorem SeenAt.asc (h : SeenAt n marks seen o) : Ascends seen := fun i j x y hij hx hy => by
  have h3 := (List.getElem?_eq_some_iff.1 hy).1
  have hl := h.ls
  have h1 := h.seen i (by omega)
  have h2 := h.seen j (by omega)
  have h4 := h.off i (by omega)
  have h5 := h.off j (by omega)
  rw [h1] at hx
  rw [h2] at hy
  injection hx with hx
  injection hy with hy
  omega
theorem SeenAt.seenAsc (h : SeenAt n marks seen o) : SeenAsc seen := ⟨h.place, fun i x y hx hy => h.asc i (i + 1) x y (by omega) hx hy⟩
theorem SeenAt.find (h : SeenAt n marks seen o) {S : Int} (hS : S ≤ 2000 ∧ -2000 ≤ S) {j : Nat} (hj : j ≤ n) : findD seen (30000 * (j : Int) + S - 5000) (30000 * (j : Int) + S + 5000) = 30000 * (j : Int) + o j := by
  have h1 := h.off j hj
  refine findD_hit h.asc (h.seen j hj) (by omega) fun i y hi hy hin => ?_
  rw [h.seen i (by omega)] at hy
  injection hy with hy
  have h2 := h.off i (by omega)
  omega
theorem SeenAt.best (h : SeenAt n marks seen o) : (bestD marks 5000 seen).1 ≤ 2000 ∧ -2000 ≤ (bestD marks 5000 seen).1 := by
  have h1 := (bestTo_best (seen := seen) h.allow 2000).1
  have h2 := shiftsTo_abs 2000 _ h1
  have h3 : (bestTo marks 5000 seen (shiftsTo 2000)).1 = (bestD marks 5000 seen).1 := rfl
  rw [h3] at h2
  unfold absI at h2
  omega
theorem SeenAt.count (h : SeenAt n marks seen o) : (bestD marks 5000 seen).2 = ((n + 1 : Nat) : Int) := by
  rw [best_is h.allow]
  have hall : ∀ m ∈ marks, foundB seen 5000 (bestD marks 5000 seen).1 m = true := fun m hm => by
    obtain ⟨j, hj, rfl⟩ := List.getElem_of_mem hm
    have hl := h.lm
    have h1 := h.mark j (by omega)
    rw [List.getElem?_eq_getElem hj] at h1
    injection h1 with h1
    rw [h1]
    unfold foundB
    rw [h.find h.best (by omega)]
    have h2 := h.off j (by omega)
    have h3 := h.few
    rw [bne_iff_ne]
    unfold lostD
    omega
  unfold countD
  rw [List.filter_eq_self.2 hall, h.lm]
theorem SeenAt.fit (h : SeenAt n marks seen o) {j : Nat} (hj : j ≤ n) : (fitD marks 5000 seen)[j]? = some (30000 * (j : Int) + o j) := by
  rw [fitD_at (h.mark j hj), h.find h.best hj]
theorem SeenAt.read (h : SeenAt n marks seen o) {d d' : DeskD} {c : CopyD} {code : Int} (hr : ReadIs d seen c code d') (hm : d.marks = marks) (hW : d.W = 5000) (hL : d.limit = 1000000) (hn : d.loops.length = n) (hf : d.copies.length ≠ 5000) (ho : ∀ k : Nat, k < n → o (k + 1) - o 0 ≤ 1000000 ∧ -1000000 ≤ o (k + 1) - o 0) :
    code = 0 ∧ d' = d.add c ∧ c.good = true ∧ c.errors.length = n ∧ c.moves.length = n ∧ ∀ (k : Nat) (l : LoopD), d.loops[k]? = some l → c.errors[k]? = some (o (k + 1) - o 0) ∧ c.moves[k]? = some (moveD l (queueD l.dead.toNat (histD d.copies k)) (o (k + 1) - o 0)) := by
  rcases hr with ⟨h1, -⟩ | ⟨-, s, ct, l, err, hfit, hor⟩
  · exact absurd h1 hf
  rw [hm, hW] at hfit
  have hthree : ct = (bestD marks 5000 seen).2 ∧ l = fitD marks 5000 seen ∧ err = 0 := by
    rcases hfit with ⟨h1, -⟩ | ⟨-, h1, -⟩ | ⟨-, -, h1, -⟩ | ⟨-, -, -, -, h2, h3, h4⟩
    · exact absurd ⟨by have := h.lm; have := h.few; omega, by have := h.ls; have := h.few; omega⟩ h1
    · exact absurd h.allow h1
    · exact absurd h.seenAsc h1
    · exact ⟨h2, h3, h4⟩
  obtain ⟨h2, h3, h4⟩ := hthree
  have hct : ct = ((n + 1 : Nat) : Int) := h2.trans h.count
  have hfl : ∀ j, j ≤ n → l[j]? = some (30000 * (j : Int) + o j) := fun j hj => by rw [h3]; exact h.fit hj
  clear h2 h3 hfit
  subst h4
  have hfew := h.few
  have hbad : ¬ BadFit d l ct := by
    unfold BadFit
    rw [hm, h.lm, hct, List.getD_eq_getElem?_getD, hfl 0 (Nat.zero_le _), Option.getD_some]
    have := h.off 0 (Nat.zero_le _)
    unfold lostD
    omega
  rcases hor with ⟨h1, -⟩ | ⟨-, h1, -⟩ | ⟨-, -, rfl, rfl, rfl⟩
  · exact absurd rfl h1
  · exact absurd h1 hbad
  have herr : ∀ k, k < n → errD marks l k = o (k + 1) - o 0 := fun k hk => by
    unfold errD
    have e1 : l.getD (k + 1) 0 = 30000 * ((k + 1 : Nat) : Int) + o (k + 1) := get_getD9 (hfl _ (by omega))
    have e0 : l.getD 0 0 = 30000 * ((0 : Nat) : Int) + o 0 := get_getD9 (hfl _ (Nat.zero_le _))
    have m1 : marks.getD (k + 1) 0 = 30000 * ((k + 1 : Nat) : Int) := get_getD9 (h.mark (k + 1) (by omega))
    have m0 : marks.getD 0 0 = 30000 * ((0 : Nat) : Int) := get_getD9 (h.mark 0 (Nat.zero_le _))
    rw [e1, e0, m1, m0]
    have h2 := h.off (k + 1) (by omega)
    rw [if_neg (by unfold lostD; omega)]
    omega
  have hat : ∀ k, k < n → (errsD marks l n)[k]? = some (o (k + 1) - o 0) := fun k hk => by
    rw [← herr k hk]
    unfold errsD
    rw [List.getElem?_map, List.getElem?_range hk]
    rfl
  refine ⟨rfl, rfl, ?_, ?_, ?_, fun k lp hl => ?_⟩
  · show decide (farD (errsD d.marks l d.loops.length) ≤ d.limit) = true
    rw [hm, hn, hL]
    refine decide_eq_true ((farD_le (by omega)).2 fun x hx => ?_)
    obtain ⟨k, hk⟩ := List.getElem?_of_mem hx
    have hkn : k < n := by have := (List.getElem?_eq_some_iff.1 hk).1; rwa [errsD_len] at this
    rw [hat k hkn] at hk
    injection hk with hk
    rw [← hk]
    exact ho k hkn
  · show (errsD d.marks l d.loops.length).length = n
    rw [errsD_len, hn]
  · show (movesD d.loops (Qd d) (errsD d.marks l d.loops.length)).length = n
    rw [movesD_len, hn]
  · have hkn : k < n := by have := (List.getElem?_eq_some_iff.1 hl).1; rwa [hn] at this
    refine ⟨?_, ?_⟩
    · show (errsD d.marks l d.loops.length)[k]? = _
      rw [hm, hn]
      exact hat k hkn
    · show (movesD d.loops (Qd d) (errsD d.marks l d.loops.length))[k]? = _
      rw [movesD_at hl, hm, hn, get_getD9 (hat k hkn), Qd_at hl]
end
end Go.Proofs.Ytffodgpafiifcaa

namespace Go.Proofs.Ytffodgpafiifcaa
open Go.RowKit

/-- Triples of numbers, as they read. -/
def tripC (x : Int × Int × Int) : List Value := [.int .i64 x.1, .int .i64 x.2.1, .int .i64 x.2.2]
def RTrip (B : Nat) (w : World) (v : Value) (ls : List (Int × Int × Int)) : Prop := Rd B w 3 v ls.length (ls.flatMap tripC)
theorem RTrip.at {B : Nat} {w : World} {A : Option Addr} {n c : Nat} {ls : List (Int × Int × Int)} (h : RTrip B w (.slice A n c) ls) {k : Nat} {x : Int × Int × Int} (hx : ls[k]? = some x) :
    ∃ g o, A = some ⟨g, o, none⟩ ∧ g < B ∧ w.cell? ⟨g, o + k * 3, none⟩ = some (.int .i64 x.1) ∧ w.cell? ⟨g, o + k * 3 + 1, none⟩ = some (.int .i64 x.2.1) ∧ w.cell? ⟨g, o + k * 3 + 2, none⟩ = some (.int .i64 x.2.2) := by
  have hk := (List.getElem?_eq_some_iff.1 hx).1
  obtain ⟨A', c', e', -, hm, hr⟩ := h
  cases e'
  obtain ⟨g, o, hA, hb, hcl⟩ := hr (by omega)
  have hf := fun j (hj : j < 3) => flat_at tripC 3 (fun _ => rfl) ls k j _ hx hj
  refine ⟨g, o, hA, hb, ?_, ?_, ?_⟩
  · exact hcl (k * 3) _ (by have := hf 0 (by omega); simpa [tripC] using this)
  · have := hcl (k * 3 + 1) (.int .i64 x.2.1) (by have := hf 1 (by omega); simpa [tripC] using this)
    rwa [← Nat.add_assoc] at this
  · have := hcl (k * 3 + 2) (.int .i64 x.2.2) (by have := hf 2 (by omega); simpa [tripC] using this)
    rwa [← Nat.add_assoc] at this

/-- A colour that the law makes. -/
def keepLoop (bl : Int) (x : Int × Int × Int) : LoopD := ⟨x.1 % 6, x.2.1 % 51, 2 * bl, max (x.2.1 % 51 + 2 * (2 * bl)) 1 + x.2.2 % 500⟩
def keepMost (bl : Int) (x : Int × Int × Int) : Int := min ((keepLoop bl x).step - 2 * bl) 1000
def keepErr (bl : Int) (x : Int × Int × Int) : Int := x.2.2 % (2 * keepMost bl x + 1) - keepMost bl x
theorem keep_ok {bl : Int} (hb : 0 ≤ bl ∧ bl ≤ 100) (x : Int × Int × Int) : LoopOk (keepLoop bl x) ∧ (keepLoop bl x).dead ≤ 5 ∧ (keepLoop bl x).noise ≤ 50 ∧ 0 ≤ keepMost bl x ∧ (keepErr bl x ≤ (keepLoop bl x).step - (keepLoop bl x).blur ∧ -((keepLoop bl x).step - (keepLoop bl x).blur) ≤ keepErr bl x) ∧ (keepErr bl x ≤ 1000 ∧ -1000 ≤ keepErr bl x) := by
  obtain ⟨a, b, c⟩ := x
  have h1 : (keepLoop bl (a, b, c)).dead = a % 6 := rfl
  have h2 : (keepLoop bl (a, b, c)).noise = b % 51 := rfl
  have h3 : (keepLoop bl (a, b, c)).blur = 2 * bl := rfl
  have h4 : (keepLoop bl (a, b, c)).step = max (b % 51 + 2 * (2 * bl)) 1 + c % 500 := rfl
  have h5 : keepMost bl (a, b, c) = min ((keepLoop bl (a, b, c)).step - 2 * bl) 1000 := rfl
  have h6 : keepErr bl (a, b, c) = c % (2 * keepMost bl (a, b, c) + 1) - keepMost bl (a, b, c) := rfl
  have e0 : 0 ≤ keepMost bl (a, b, c) := by rw [h5, h4]; omega
  have e1 := Int.emod_nonneg c (show 2 * keepMost bl (a, b, c) + 1 ≠ 0 by omega)
  have e2 := Int.emod_lt_of_pos c (show 0 < 2 * keepMost bl (a, b, c) + 1 by omega)
  unfold LoopOk
  rw [h6]
  generalize c % (2 * keepMost bl (a, b, c) + 1) = q at *
  rw [h1, h2, h3]
  omega
def keepMarks (n : Nat) : List Int := (List.range n).map fun (j : Nat) => 30000 * (j : Int)
theorem keepMarks_len (n : Nat) : (keepMarks n).length = n := by simp [keepMarks]
theorem keepMarks_next (n : Nat) : keepMarks (n + 1) = keepMarks n ++ [30000 * (n : Int)] := by simp [keepMarks, List.range_succ]
theorem keepMarks_at {n j : Nat} (h : j < n) : (keepMarks n)[j]? = some (30000 * (j : Int)) := by simp [keepMarks, h]

/-- What lies there while the colours are made. -/
structure KSt (w : World) (bl : Int) (xs : List (Int × Int × Int)) (k : Nat) (vp vl ve vm : Value) (X : World) : Prop where
  two : Two w vp ve (keepMarks (k + 1)) ((xs.take k).map (keepErr bl)) X
  lps : OLoops w.heap.size X vl ((xs.take k).map (keepLoop bl))
  mvs : X.ownsRow w.heap.size 24 1 vm k (List.replicate k (.slice none 0 0))
/-- The colour in the making. -/
def XCut (wo : World) (a b bl st : Int) (s : Value) (X : World) : Prop := ∃ bX, s = .pointer (some ⟨bX, 0, none⟩) ∧ wo.heap.size ≤ bX ∧ Blk X bX 26 #[.int .i64 a, .int .i64 b, .int .i64 (2 * bl), .int .i64 st] ∧ Below wo.heap.size wo X
def XC2 (wo : World) (a b bl st : Int) (bX : Nat) (X : World) : Prop := Blk X bX 26 #[.int .i64 a, .int .i64 b, .int .i64 (2 * bl), .int .i64 st] ∧ Below wo.heap.size wo X
theorem Two.below {wA X Y : World} {u v : Value} {l m : List Int} (h : Two wA u v l m X) (hb : Below X.heap.size X Y) : Two wA u v l m Y := ⟨h.1.trans (hb.mono h.1.size), ownsRow_below h.2.1 hb, ownsRow_below h.2.2.1 hb, h.2.2.2⟩
theorem Two.grew {wA X Y : World} {u v : Value} {l m : List Int} {e : TypeId} (h : Two wA u v l m X) (hg : Grew e X Y) (hne : 3 ≠ e) (hb : Below wA.heap.size wA Y) : Two wA u v l m Y := ⟨hb, ownsRow_grew h.2.1 hg hne, ownsRow_grew h.2.2.1 hg hne, h.2.2.2⟩
theorem KSt.below {w X Y : World} {bl : Int} {xs : List (Int × Int × Int)} {k : Nat} {vp vl ve vm : Value} (h : KSt w bl xs k vp vl ve vm X) (hb : Below X.heap.size X Y) : KSt w bl xs k vp vl ve vm Y := ⟨h.two.below hb, ownsRow_below h.lps hb, ownsRow_below h.mvs hb⟩
theorem infoInts : (Try.prog.info? 24).map (fun i => (i.zero, i.size, i.bytes)) = some (some (.slice none 0 0), 1, 24) := by kernel_rfl

theorem tdiv_in {x m : Int} (h : x ≤ 1000 * m ∧ -(1000 * m) ≤ x) : x.tdiv 1000 ≤ m ∧ -m ≤ x.tdiv 1000 := by
  by_cases h0 : 0 ≤ x
  · rw [Int.tdiv_eq_ediv_of_nonneg h0]
    omega
  · have e : x.tdiv 1000 = -((-x).tdiv 1000) := by rw [Int.neg_tdiv, Int.neg_neg]
    rw [e, Int.tdiv_eq_ediv_of_nonneg (by omega)]
    omega
theorem tdiv_three {x : Int} (h : x ≤ 1000 ∧ -1000 ≤ x) : x.tdiv 3 ≤ 333 ∧ -333 ≤ x.tdiv 3 := by
  by_cases h0 : 0 ≤ x
  · rw [Int.tdiv_eq_ediv_of_nonneg h0]
    omega
  · have e : x.tdiv 3 = -((-x).tdiv 3) := by rw [Int.neg_tdiv, Int.neg_neg]
    rw [e, Int.tdiv_eq_ediv_of_nonneg (by omega)]
    omega
/-- A number from -1000 to 1000, scaled by m. -/
def scaled (x m : Int) : Int := (x * m).tdiv 1000
theorem scaled_in {x m : Int} (hx : x ≤ 1000 ∧ -1000 ≤ x) (hm : 0 ≤ m ∧ m ≤ 1000) : (x * m ≤ 1000000 ∧ -1000000 ≤ x * m) ∧ scaled x m ≤ m ∧ -m ≤ scaled x m := by
  have h1 := Int.mul_le_mul_of_nonneg_right hx.1 hm.1
  have h2 := Int.mul_le_mul_of_nonneg_right hx.2 hm.1
  have h3 : -1000 * m = -(1000 * m) := by omega
  rw [h3] at h2
  exact ⟨⟨by omega, by omega⟩, tdiv_in ⟨h1, h2⟩⟩
theorem scaled_wrap {x m : Int} (hx : x ≤ 1000 ∧ -1000 ≤ x) (hm : 0 ≤ m ∧ m ≤ 1000) : wrap64 ((wrap64 (x * m)).tdiv 1000) = scaled x m := by
  obtain ⟨h1, h2⟩ := scaled_in hx hm
  rw [IntWalk.wrap64_in (x * m) ⟨by omega, by omega⟩]
  exact IntWalk.wrap64_in _ ⟨by unfold scaled at h2; omega, by unfold scaled at h2; omega⟩
/-- How far the marks of a copy are seen from their places. -/
def keepOff (sh ky bl : Int) (es out : List Int) (j : Nat) : Int := if j = 0 then sh + ky else sh + es.getD (j - 1) 0 + scaled (out.getD (j + 1) 0) bl
def keepSeen (sh ky bl : Int) (es out : List Int) (n : Nat) : List Int := (List.range (n + 1)).map fun (j : Nat) => 30000 * (j : Int) + keepOff sh ky bl es out j
theorem keepSeen_len (sh ky bl : Int) (es out : List Int) (n : Nat) : (keepSeen sh ky bl es out n).length = n + 1 := by simp [keepSeen]
theorem keepSeen_next (sh ky bl : Int) (es out : List Int) (n : Nat) : keepSeen sh ky bl es out (n + 1) = keepSeen sh ky bl es out n ++ [30000 * ((n + 1 : Nat) : Int) + keepOff sh ky bl es out (n + 1)] := by unfold keepSeen; rw [List.range_succ, List.map_append]; rfl
theorem keepSeen_at {sh ky bl : Int} {es out : List Int} {n j : Nat} (h : j ≤ n) : (keepSeen sh ky bl es out n)[j]? = some (30000 * (j : Int) + keepOff sh ky bl es out j) := by
  unfold keepSeen
  rw [List.getElem?_map, List.getElem?_range (by omega)]
  rfl
def SeenCut (wd : World) (sh ky bl : Int) (es out : List Int) (i : Nat) (s : Value) (X : World) : Prop := OInts wd.heap.size X s (keepSeen sh ky bl es out (i + 1)) ∧ Below wd.heap.size wd X
theorem keep_new {n : Nat} {ls : List LoopD} {code : Int} (h1 : 1 ≤ n) (h3 : n ≤ 3) (hl : ls.length = n) (hok : ∀ l ∈ ls, LoopOk l) (h : NewIs (keepMarks (n + 1)) ls 5000 1000000 code) : code = 0 := by
  have hm := keepMarks_len (n + 1)
  have hA : AllowOk (keepMarks (n + 1)) 5000 := by
    refine ⟨by omega, fun x hx => ?_, fun i x y hx hy => ?_⟩
    · unfold keepMarks at hx
      obtain ⟨j, hj, rfl⟩ := List.mem_map.1 hx
      rw [List.mem_range] at hj
      omega
    · have hi := (List.getElem?_eq_some_iff.1 hy).1
      rw [hm] at hi
      rw [keepMarks_at (by omega)] at hx hy
      injection hx with hx
      injection hy with hy
      omega
  rcases h with ⟨h, -⟩ | ⟨-, ⟨l, hl, hn⟩, -⟩ | ⟨-, -, h, -⟩ | ⟨-, -, -, h, -⟩ | ⟨-, -, -, -, h⟩
  · exact absurd ⟨by omega, by omega⟩ h
  · exact absurd (hok l hl) hn
  · exact absurd (by omega) h
  · exact absurd ⟨hA, by omega, by omega⟩ h
  · exact h
/-- The rows of corrections: none shares a block with another one or with the desk. -/
structure URows (w w3 : World) (F : Nat → Prop) (us : List Value) (ms : List (List Int)) (X : World) : Prop where
  len : us.length = ms.length
  row : ∀ (i : Nat) (u : Value) (m : List Int), us[i]? = some u → ms[i]? = some m → OInts w.heap.size X u m
  new : ∀ (i : Nat) (u : Value) (j : Nat), us[i]? = some u → u.ownBlock = some j → w3.heap.size ≤ j ∧ ¬ F j
  apart : ∀ (i i' : Nat) (u u' : Value) (j : Nat), i ≠ i' → us[i]? = some u → us[i']? = some u' → u.ownBlock = some j → u'.ownBlock ≠ some j
/-- What lies there between two copies. -/
def KRun (w w3 : World) (D n : Nat) (ls : List LoopD) (vp vl ve vm : Value) (t : Nat) (X : World) : Prop :=
  ∃ (d : DeskD) (F : Nat → Prop) (es : List Int) (ms : List (List Int)) (us : List Value),
    PSt w3 D d F X ∧ (d.marks = keepMarks (n + 1) ∧ d.W = 5000 ∧ d.limit = 1000000 ∧ d.loops = ls ∧ d.copies.length = t) ∧
    (ls.length = n ∧ es.length = n ∧ ms.length = n) ∧
    (∀ (i : Nat) (l : LoopD) (e : Int) (m : List Int), ls[i]? = some l → es[i]? = some e → ms[i]? = some m → Col l l.dead.toNat t e m ∧ histD d.copies i = m) ∧
    Two w vp ve (keepMarks (n + 1)) es X ∧ OLoops w.heap.size X vl ls ∧ X.ownsRow w.heap.size 24 1 vm n us ∧ URows w w3 F us ms X ∧
    (∀ j, (vp.ownBlock = some j ∨ vl.ownBlock = some j ∨ ve.ownBlock = some j ∨ vm.ownBlock = some j) → j < w3.heap.size)
theorem rep_at {α : Type} {n i : Nat} {a x : α} (h : (List.replicate n a)[i]? = some x) : x = a := by
  have := List.mem_of_getElem? h
  exact List.eq_of_mem_replicate this
theorem krun_start {w wo w3 : World} {D n : Nat} {ls : List LoopD} {es : List Int} {vp vl ve vm mv cv : Value} {Cs : List Nat} {vs : List Value} (htwo : Two w vp ve (keepMarks (n + 1)) es wo) (hlps : OLoops w.heap.size wo vl ls) (hmvs : wo.ownsRow w.heap.size 24 1 vm n (List.replicate n (.slice none 0 0)))
    (hl : ls.length = n) (he : es.length = n) (hc : ∀ (i : Nat) (l : LoopD) (e : Int), ls[i]? = some l → es[i]? = some e → Col l l.dead.toNat 0 e []) (hok : DeskOk (desk0 (keepMarks (n + 1)) ls 5000 1000000)) (hat : DeskAt wo.heap.size w3 D (desk0 (keepMarks (n + 1)) ls 5000 1000000) mv cv (.slice none 0 0) Cs vs [])
    (hb : Below wo.heap.size wo w3) : KRun w wo D n ls vp vl ve vm 0 w3 := by
  refine ⟨_, Foot D mv cv (.slice none 0 0) Cs vs [], es, List.replicate n [], List.replicate n (.slice none 0 0), ⟨wo.heap.size, mv, cv, _, Cs, vs, [], Nat.le_refl _, hok, hat, fun _ => Iff.rfl⟩, ⟨rfl, rfl, rfl, rfl, rfl⟩, ⟨hl, he, List.length_replicate⟩, fun i l e m h1 h2 h3 => ?_, htwo.below hb, ownsRow_below hlps hb, ownsRow_below hmvs hb, ⟨by simp, fun i u m h1 h2 => ?_, fun i u j h1 h2 => ?_, fun i i' u u' j _ h1 _ h3 => ?_⟩, fun j hj => ?_⟩
  · rw [rep_at h3]
    exact ⟨hc i l e h1 h2, rfl⟩
  · rw [rep_at h1, rep_at h2]
    exact World.ownsRow_nil _ _ _ _
  · rw [rep_at h1] at h2
    simp [Value.ownBlock] at h2
  · rw [rep_at h1] at h3
    simp [Value.ownBlock] at h3
  · rcases hj with h | h | h | h
    · exact (htwo.2.1.lt j h).2
    · exact (hlps.lt j h).2
    · exact (htwo.2.2.1.lt j h).2
    · exact (hmvs.lt j h).2
theorem own_put {base n c i g : Nat} {w : World} {e : TypeId} {xs : List Value} (h : w.ownsRow base e 1 (.slice (some ⟨g, 0, none⟩) n c) n xs) (y : Value) : (w.setCell ⟨g, i, none⟩ y).ownsRow base e 1 (.slice (some ⟨g, 0, none⟩) n c) n (xs.set i y) := by
  obtain ⟨h1, h2⟩ := h
  refine ⟨by rw [List.length_set]; exact h1, ?_⟩
  rcases h2 with ⟨h2, -⟩ | ⟨g', cap, cur, he, hb, hg, hn, hm, hs, ht⟩
  · cases h2
  · cases he
    refine .inr ⟨g, c, cur.setIfInBounds i y, rfl, hb, Blk.put hg i y, hn, hm, by simpa using hs, ?_⟩
    rw [Array.toList_setIfInBounds, List.take_set, ht]
theorem ints_put {base n c i g : Nat} {w : World} {l : List Int} (h : OInts base w (.slice (some ⟨g, 0, none⟩) n c) l) (y : Int) : OInts base (w.setCell ⟨g, i, none⟩ (.int .i64 y)) (.slice (some ⟨g, 0, none⟩) n c) (l.set i y) := by
  unfold OInts at h ⊢
  obtain ⟨A, c', e⟩ := ownsRow_form h
  have hn : n = l.length := by cases e; rfl
  subst hn
  rw [List.length_set, List.map_set]
  exact own_put h _

/-- What lies there while the colours of a copy are gone through. -/
structure K4 (w w3 wf : World) (D : Nat) (d : DeskD) (F G : Nat → Prop) (n : Nat) (ls : List LoopD) (vp vl ve vm : Value) (es : List Int) (ms : List (List Int)) (us : List Value) (X : World) : Prop where
  desk : PSt w3 D d F X
  two : Two w vp ve (keepMarks (n + 1)) es X
  lps : OLoops w.heap.size X vl ls
  mvs : X.ownsRow w.heap.size 24 1 vm n us
  rows : URows w w3 (fun k => F k ∨ G k) us ms X
  old : ∀ j, (vp.ownBlock = some j ∨ vl.ownBlock = some j ∨ ve.ownBlock = some j ∨ vm.ownBlock = some j) → j < w3.heap.size
  far : ∀ j, G j → w3.heap.size ≤ j ∧ j < wf.heap.size
  cells : ∀ p : Addr, G p.block → X.cell? p = wf.cell? p
  size : wf.heap.size ≤ X.heap.size
  base : w.heap.size ≤ w3.heap.size
section
variable {w w3 wf X Y : World} {D n : Nat} {d : DeskD} {F G S : Nat → Prop} {ls : List LoopD} {vp vl ve vm : Value} {es : List Int} {ms : List (List Int)} {us : List Value}
/-- Blocks of none of these are written. -/
theorem K4.keep (h : K4 w w3 wf D d F G n ls vp vl ve vm es ms us X) (hk : KeptBut S X Y) (h1 : ∀ k, S k → w3.heap.size ≤ k) (h2 : ∀ k, S k → ¬ F k ∧ ¬ G k) (h3 : ∀ (i : Nat) (u : Value) (k : Nat), us[i]? = some u → u.ownBlock = some k → ¬ S k) : K4 w w3 wf D d F G n ls vp vl ve vm es ms us Y := by
  have ho : ∀ v : Value, (v = vp ∨ v = vl ∨ v = ve ∨ v = vm) → ∀ j, v.ownBlock = some j → ¬ S j := fun v hv j hj hs => by
    have h4 := h1 j hs
    have h5 := h.old j (by rcases hv with rfl | rfl | rfl | rfl <;> simp [hj])
    omega
  refine ⟨h.desk.keep hk fun k hf hs => (h2 k hs).1 hf, ⟨h.two.1.trans (hk.below (fun k hs => Nat.le_trans h.base (h1 k hs)) h.two.1.size), ownsRow_keep h.two.2.1 hk (ho vp (.inl rfl)), ownsRow_keep h.two.2.2.1 hk (ho ve (.inr (.inr (.inl rfl)))), h.two.2.2.2⟩, ownsRow_keep h.lps hk (ho vl (.inr (.inl rfl))), ownsRow_keep h.mvs hk (ho vm (.inr (.inr (.inr rfl)))),
    ⟨h.rows.len, fun i u m hu hm => ownsRow_keep (h.rows.row i u m hu hm) hk fun j hj => h3 i u j hu hj, h.rows.new, h.rows.apart⟩, h.old, h.far, fun p hp => ?_, Nat.le_trans h.size hk.size, h.base⟩
  rw [← h.cells p hp]
  exact kept_cell hk (Nat.lt_of_lt_of_le (h.far _ hp).2 h.size) fun hs => (h2 _ hs).2 hp
theorem K4.below (h : K4 w w3 wf D d F G n ls vp vl ve vm es ms us X) (hb : Below X.heap.size X Y) : K4 w w3 wf D d F G n ls vp vl ve vm es ms us Y :=
  h.keep (S := fun _ => False) (KeptBut.of_below hb) (fun _ hs => hs.elim) (fun _ hs => hs.elim) fun _ _ _ _ _ hs => hs
/-- A number of the errors is set. -/
theorem K4.put {ge ce i : Nat} (h : K4 w w3 wf D d F G n ls vp vl (.slice (some ⟨ge, 0, none⟩) n ce) vm es ms us X) (y : Int) :
    K4 w w3 wf D d F G n ls vp vl (.slice (some ⟨ge, 0, none⟩) n ce) vm (es.set i y) ms us (X.setCell ⟨ge, i, none⟩ (.int .i64 y)) := by
  have hge : ge < w3.heap.size := h.old ge (.inr (.inr (.inl rfl)))
  have hgw : w.heap.size ≤ ge := (h.two.2.2.1.lt ge rfl).1
  obtain ⟨cs, hB⟩ := own_type h.two.2.2.1 (g := ge) rfl
  have hk : KeptBut (fun k => k = ge) X (X.setCell ⟨ge, i, none⟩ (.int .i64 y)) := KeptBut.setCell (S := fun k => k = ge) (p := ⟨ge, i, none⟩) rfl _
  refine ⟨h.desk.keep hk fun k hf hs => ?_, ⟨h.two.1.setCell (p := ⟨ge, i, none⟩) hgw _, ownsRow_keep h.two.2.1 hk fun j hj hs => ?_, ints_put h.two.2.2.1 y, h.two.2.2.2⟩, ownsRow_grew h.lps (Grew.set hB i _) (by decide), ownsRow_grew h.mvs (Grew.set hB i _) (by decide),
    ⟨h.rows.len, fun j u m hu hm => ownsRow_keep (h.rows.row j u m hu hm) hk fun q hq hs => ?_, h.rows.new, h.rows.apart⟩, h.old, h.far, fun p hp => ?_, Nat.le_trans h.size hk.size, h.base⟩
  · have := (h.desk.lt hf).1
    subst hs
    omega
  · subst hs
    exact h.two.2.2.2 _ hj rfl
  · have := (h.rows.new j u q hu hq).1
    subst hs
    omega
  · rw [← h.cells p hp]
    refine cell_far _ _ _ _ fun he => ?_
    have h8 : ge = p.block := he
    have h9 := h.far _ hp
    omega
theorem K4.loop {gl ol cl i : Nat} {l : LoopD} (h : K4 w w3 wf D d F G n ls vp (.slice (some ⟨gl, ol, none⟩) n cl) ve vm es ms us X) (hl : ls[i]? = some l) :
    X.cell? ⟨gl, ol + i * 4, none⟩ = some (.int .i64 l.dead) ∧ X.cell? ⟨gl, ol + i * 4 + 1, none⟩ = some (.int .i64 l.noise) ∧ X.cell? ⟨gl, ol + i * 4 + 2, none⟩ = some (.int .i64 l.blur) := by
  have h9 := h.lps
  obtain ⟨A, c, e⟩ := ownsRow_form h9
  have hn : n = ls.length := by cases e; rfl
  subst hn
  obtain ⟨g, o, hA, -, c0, c1, c2, -⟩ := RLoops.at (Rd.own h9 (own_le h9)) hl
  injection hA with hA
  injection hA with hA1 hA2
  subst hA1
  subst hA2
  exact ⟨c0, c1, c2⟩
theorem K4.err {ge ce i : Nat} {e : Int} (h : K4 w w3 wf D d F G n ls vp vl (.slice (some ⟨ge, 0, none⟩) n ce) vm es ms us X) (he : es[i]? = some e) : X.cell? ⟨ge, i, none⟩ = some (.int .i64 e) ∧ X.frozen? ⟨ge, i, none⟩ = false := by
  have h9 := h.two.2.2.1
  obtain ⟨A, c, e9⟩ := ownsRow_form h9
  have hn : n = es.length := by cases e9; rfl
  subst hn
  have h8 : RInts X.heap.size X (.slice (some ⟨ge, 0, none⟩) es.length ce) es := Rd.own h9 (own_le h9)
  obtain ⟨g, o, hA, -, c0⟩ := h8.at he
  injection hA with hA
  injection hA with hA1 hA2
  subst hA1
  subst hA2
  rw [Nat.zero_add] at c0
  obtain ⟨cs, hB⟩ := own_type h9 (g := ge) rfl
  exact ⟨c0, hB.frozen i⟩
theorem K4.cor {gm cm i : Nat} {u : Value} (h : K4 w w3 wf D d F G n ls vp vl ve (.slice (some ⟨gm, 0, none⟩) n cm) es ms us X) (hu : us[i]? = some u) : X.cell? ⟨gm, i, none⟩ = some u := by
  have h9 := h.mvs
  obtain ⟨A', c', e', hlen, hm, hr⟩ := Rd.own h9 (own_le h9)
  cases e'
  have hi := (List.getElem?_eq_some_iff.1 hu).1
  obtain ⟨g, o, hA, hb, hcl⟩ := hr (by omega)
  injection hA with hA
  injection hA with hA1 hA2
  subst hA1
  subst hA2
  have := hcl i u hu
  rwa [Nat.zero_add] at this
theorem K4.at {gu ou cu k i j : Nat} {m : List Int} {z : Int} (h : K4 w w3 wf D d F G n ls vp vl ve vm es ms us X) (hu : us[i]? = some (.slice (some ⟨gu, ou, none⟩) k cu)) (hm : ms[i]? = some m) (hz : m[j]? = some z) : X.cell? ⟨gu, ou + j, none⟩ = some (.int .i64 z) := by
  have h9 := h.rows.row i _ m hu hm
  obtain ⟨A, c, e9⟩ := ownsRow_form h9
  have hn : k = m.length := by cases e9; rfl
  subst hn
  have h8 : RInts X.heap.size X (.slice (some ⟨gu, ou, none⟩) m.length cu) m := Rd.own h9 (own_le h9)
  obtain ⟨g, o, hA, -, c0⟩ := h8.at hz
  injection hA with hA
  injection hA with hA1 hA2
  subst hA1
  subst hA2
  exact c0
theorem K4.form {i : Nat} {u : Value} {m : List Int} (h : K4 w w3 wf D d F G n ls vp vl ve vm es ms us X) (hu : us[i]? = some u) (hm : ms[i]? = some m) (h0 : 0 < m.length) : ∃ gu cu, u = .slice (some ⟨gu, 0, none⟩) m.length cu := by
  have h9 := h.rows.row i _ m hu hm
  obtain ⟨A, c, rfl⟩ := ownsRow_form h9
  obtain ⟨g, cs, rfl, -⟩ := own_blk h9 h0
  exact ⟨g, c, rfl⟩
theorem K4.drewN (h : K4 w w3 wf D d F G n ls vp vl ve vm es ms us X) (k : Nat) : K4 w w3 wf D d F G n ls vp vl ve vm es ms us (X.drewN k) := h.below (below_drewN (Below.refl _ _) k)
theorem K4.drew (h : K4 w w3 wf D d F G n ls vp vl ve vm es ms us X) : K4 w w3 wf D d F G n ls vp vl ve vm es ms us X.drew := h.below (Below.refl _ X).drew
/-- The place of a row of corrections stands while one is put to. -/
theorem K4.room {i gm cm : Nat} {u y : Value} {w6 : World} {t : TypeId} (h : K4 w w3 wf D d F G n ls vp vl ve (.slice (some ⟨gm, 0, none⟩) n cm) es ms us X) (hi : i < n) (hu : us[i]? = some u)
    (hgrow : (X.alloc (.cells #[y] t)).grownBy w6 u.ownBlock) : ∃ x, w6.cell? ⟨gm, i, none⟩ = some x ∧ w6.frozen? ⟨gm, i, none⟩ = false := by
  have hK : KeptBut (fun j => some j = u.ownBlock) X w6 := (KeptBut.of_below (below_alloc X _)).trans (KeptBut.grown (S := fun j => some j = u.ownBlock) hgrow fun _ hj => hj) fun _ _ hi => hi
  have m6 := ownsRow_keep h.mvs hK fun j hj hs => by
    have h1 := (h.rows.new i u j hu hs.symm).1
    have h2 := h.old j (.inr (.inr (.inr hj)))
    omega
  obtain ⟨g', cs, e, -, hB, hs⟩ := own_blk m6 (by omega)
  cases e
  obtain ⟨x, hx⟩ := blk_some hB (j := i) (by omega)
  exact ⟨x, hx, hB.frozen i⟩
/-- A correction is put to its colour's row. -/
theorem K4.app {i t g cap gm cm : Nat} {u : Value} {m : List Int} {y : Int} {w6 : World} (h : K4 w w3 wf D d F G n ls vp vl ve (.slice (some ⟨gm, 0, none⟩) n cm) es ms us X) (hu : us[i]? = some u) (hm : ms[i]? = some m) (ht : m.length = t)
    (hown : w6.ownsRow w.heap.size 3 1 (.slice (some ⟨g, 0, none⟩) (t + 1) cap) (t + 1) (m.map (Value.int .i64) ++ [.int .i64 y])) (hgrow : (X.alloc (.cells #[.int .i64 y] 3)).grownBy w6 u.ownBlock) (hat : u.ownBlock = some g ∨ g = X.heap.size + 1) :
    K4 w w3 wf D d F G n ls vp vl ve (.slice (some ⟨gm, 0, none⟩) n cm) es (ms.set i (m ++ [y])) (us.set i (.slice (some ⟨g, 0, none⟩) (t + 1) cap)) (w6.setCell ⟨gm, i, none⟩ (.slice (some ⟨g, 0, none⟩) (t + 1) cap)) := by
  have hnew : ∀ j, u.ownBlock = some j → w3.heap.size ≤ j ∧ ¬ (F j ∨ G j) := fun j hj => h.rows.new i u j hu hj
  have hK : KeptBut (fun j => some j = u.ownBlock) X w6 := (KeptBut.of_below (below_alloc X _)).trans (KeptBut.grown (S := fun j => some j = u.ownBlock) hgrow fun _ hj => hj) fun _ _ hi => hi
  have hz3 : w3.heap.size ≤ X.heap.size := by
    have h1 := h.size
    have h2 : ∀ j, G j → w3.heap.size ≤ wf.heap.size := fun j hj => by have := h.far j hj; omega
    obtain ⟨b, mv, cv, pv, Cs, vs, es9, h8, h9, h10, h11⟩ := h.desk
    have h12 := h10.foot_lt (k := D) (by first | exact .inl rfl | exact Or.inl rfl)
    omega
  have hgm : gm < w3.heap.size := h.old gm (.inr (.inr (.inr rfl)))
  have hgw : w.heap.size ≤ gm := (h.mvs.lt gm rfl).1
  have hgn : w3.heap.size ≤ g := by
    rcases hat with e | e
    · exact (hnew g e).1
    · omega
  have hgF : ¬ (F g ∨ G g) := by
    rcases hat with e | e
    · exact (hnew g e).2
    · rintro (hf | hf)
      · have := (h.desk.lt hf).2
        omega
      · have := (h.far g hf).2
        have := h.size
        omega
  have hold : ∀ v : Value, (v = vp ∨ v = vl ∨ v = ve ∨ v = .slice (some ⟨gm, 0, none⟩) n cm) → ∀ j, v.ownBlock = some j → ¬ some j = u.ownBlock := fun v hv j hj hs => by
    have h4 := (hnew j hs.symm).1
    have h5 := h.old j (by rcases hv with rfl | rfl | rfl | rfl <;> simp [hj])
    omega
  have m6 := ownsRow_keep h.mvs hK (hold _ (.inr (.inr (.inr rfl))))
  obtain ⟨cs, hB⟩ := own_type m6 (g := gm) rfl
  have hk : KeptBut (fun k => k = gm) w6 (w6.setCell ⟨gm, i, none⟩ (.slice (some ⟨g, 0, none⟩) (t + 1) cap)) := KeptBut.setCell (S := fun k => k = gm) (p := ⟨gm, i, none⟩) rfl _
  have hgr : Grew 24 w6 (w6.setCell ⟨gm, i, none⟩ (.slice (some ⟨g, 0, none⟩) (t + 1) cap)) := Grew.set hB i _
  refine ⟨(h.desk.keep hK fun k hf hs => (hnew k hs.symm).2 (.inl hf)).keep hk fun k hf hs => ?_, ⟨(h.two.1.trans (hK.below (fun k hs => Nat.le_trans h.base (hnew k hs.symm).1) h.two.1.size)).setCell (p := ⟨gm, i, none⟩) hgw _, ownsRow_grew (ownsRow_keep h.two.2.1 hK (hold _ (.inl rfl))) hgr (by decide), ownsRow_grew (ownsRow_keep h.two.2.2.1 hK (hold _ (.inr (.inr (.inl rfl))))) hgr (by decide), h.two.2.2.2⟩,
    ownsRow_grew (ownsRow_keep h.lps hK (hold _ (.inr (.inl rfl)))) hgr (by decide), own_put m6 _, ⟨by rw [List.length_set, List.length_set]; exact h.rows.len, fun j u' m' hu' hm' => ?_, fun j u' q hu' hq => ?_, fun j j' u1 u2 q hj h1 h2 h3 => ?_⟩, h.old, h.far, fun p hp => ?_, Nat.le_trans h.size (Nat.le_trans hK.size hk.size), h.base⟩
  · have := (h.desk.lt hf).1
    subst hs
    omega
  · by_cases hji : j = i
    · subst hji
      rw [List.getElem?_set_self (List.getElem?_eq_some_iff.1 hu).1] at hu'
      rw [List.getElem?_set_self (List.getElem?_eq_some_iff.1 hm).1] at hm'
      cases hu'
      cases hm'
      refine ownsRow_grew (show OInts w.heap.size w6 _ (m ++ [y]) from ?_) hgr (by decide)
      unfold OInts
      rw [List.length_append, List.map_append, ht]
      exact hown
    · rw [List.getElem?_set_ne (Ne.symm hji)] at hu' hm'
      exact ownsRow_grew (ownsRow_keep (h.rows.row j u' m' hu' hm') hK fun q hq hs => h.rows.apart j i u' u q hji hu' hu hq hs.symm) hgr (by decide)
  · by_cases hji : j = i
    · subst hji
      rw [List.getElem?_set_self (List.getElem?_eq_some_iff.1 hu).1] at hu'
      cases hu'
      have hq' : g = q := by simpa [Value.ownBlock] using hq
      subst hq'
      exact ⟨hgn, hgF⟩
    · rw [List.getElem?_set_ne (Ne.symm hji)] at hu'
      exact h.rows.new j u' q hu' hq
  · have key : ∀ (k : Nat) (u3 : Value), k ≠ i → us[k]? = some u3 → u3.ownBlock ≠ some g := fun k u3 hk9 h9 hb9 => by
      rcases hat with e | e
      · exact h.rows.apart k i u3 u g hk9 h9 hu hb9 e
      · have hlen := h.rows.len
        have hkl := (List.getElem?_eq_some_iff.1 h9).1
        have h8 := (h.rows.row k u3 _ h9 (List.getElem?_eq_getElem (by omega))).lt g hb9
        omega
    by_cases hji : j = i
    · subst hji
      rw [List.getElem?_set_self (List.getElem?_eq_some_iff.1 hu).1] at h1
      rw [List.getElem?_set_ne hj] at h2
      cases h1
      have hq' : g = q := by simpa [Value.ownBlock] using h3
      subst hq'
      exact key j' u2 (Ne.symm hj) h2
    · rw [List.getElem?_set_ne (Ne.symm hji)] at h1
      by_cases hji' : j' = i
      · subst hji'
        rw [List.getElem?_set_self (List.getElem?_eq_some_iff.1 hu).1] at h2
        cases h2
        intro h4
        have hq' : g = q := by simpa [Value.ownBlock] using h4
        subst hq'
        exact key j u1 hji h1 h3
      · rw [List.getElem?_set_ne (Ne.symm hji')] at h2
        exact h.rows.apart j j' u1 u2 q hj h1 h2 h3
  · have h8 : p.block ≠ gm := fun e => by have := h.far _ hp; omega
    refine (cell_far _ _ _ _ (show gm ≠ p.block from fun e => h8 e.symm)).trans ?_
    rw [← h.cells p hp]
    exact kept_cell hK (Nat.lt_of_lt_of_le (h.far _ hp).2 h.size) fun hs => (hnew _ hs.symm).2 (.inr hp)
end

/-- The colours of a copy, those before the i-th one gone through. -/
structure KCol (ls : List LoopD) (n t i : Nat) (es0 : List Int) (ms0 : List (List Int)) (mv : List Int) (es : List Int) (ms : List (List Int)) : Prop where
  le : es.length = n
  lm : ms.length = n
  done : ∀ (j : Nat) (l : LoopD), j < i → ls[j]? = some l → ∃ e m0 u, es[j]? = some e ∧ ms0[j]? = some m0 ∧ mv[j]? = some u ∧ ms[j]? = some (m0 ++ [u]) ∧ Col l l.dead.toNat (t + 1) e (m0 ++ [u])
  left : ∀ j, i ≤ j → es[j]? = es0[j]? ∧ ms[j]? = ms0[j]?
theorem KCol.next {ls : List LoopD} {n t i : Nat} {es0 es : List Int} {ms0 ms : List (List Int)} {mv : List Int} {l : LoopD} {m0 : List Int} {u e : Int} (h : KCol ls n t i es0 ms0 mv es ms) (hi : i < n) (hl : ls[i]? = some l) (hm : ms0[i]? = some m0) (hu : mv[i]? = some u) (hc : Col l l.dead.toNat (t + 1) e (m0 ++ [u])) :
    KCol ls n t (i + 1) es0 ms0 mv (es.set i e) (ms.set i (m0 ++ [u])) := by
  refine ⟨by rw [List.length_set]; exact h.le, by rw [List.length_set]; exact h.lm, fun j l' hj hl' => ?_, fun j hj => ?_⟩
  · by_cases hji : j = i
    · subst hji
      rw [hl] at hl'
      cases hl'
      exact ⟨e, m0, u, List.getElem?_set_self (by rw [h.le]; exact hi), hm, hu, List.getElem?_set_self (by rw [h.lm]; exact hi), hc⟩
    · obtain ⟨e9, m9, u9, k1, k2, k3, k4, k5⟩ := h.done j l' (by omega) hl'
      exact ⟨e9, m9, u9, by rw [List.getElem?_set_ne (Ne.symm hji)]; exact k1, k2, k3, by rw [List.getElem?_set_ne (Ne.symm hji)]; exact k4, k5⟩
  · rw [List.getElem?_set_ne (by omega), List.getElem?_set_ne (by omega)]
    exact h.left j (by omega)
theorem histD_snoc (cs : List CopyD) (c : CopyD) (i : Nat) : histD (cs ++ [c]) i = histD cs i ++ [c.moves.getD i 0] := by
  unfold histD
  rw [List.map_append]
  rfl
end Go.Proofs.Ytffodgpafiifcaa
