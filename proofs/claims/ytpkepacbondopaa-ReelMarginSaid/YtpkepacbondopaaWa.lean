/-
  ReelMargin: more margin, more spoil: plain; the closure; a web that is written.
-/
import Derived.Test.YtpkepacbondopaaVb
namespace Go.Proofs.Ytpkepacbondopaa
open Go.RowKit
attribute [local go_sem] Oper.semAt_some

def chgW (b a : Int) (x : WebD) : WebD := ⟨x.reels, x.off, x.before + b, x.after + a⟩
def moreP (p : PressD) (m b a : Int) : PressD := ⟨p.cut, p.margin + m, p.webs.map (chgW b a)⟩
theorem websE_more {b a : Int} : ∀ {met : List Int} {l : List WebD}, websE met l = 0 → (∀ x ∈ l, (chgW b a x).ok) → websE met (l.map (chgW b a)) = 0
  | _, [], _, _ => rfl
  | met, x :: l, h, hok => by
    unfold websE at h
    split at h
    · cases h
    split at h
    · rename_i h1
      exact absurd h h1
    rename_i h1 h2
    rw [List.map_cons]
    unfold websE
    rw [if_neg (fun h9 => h9 (hok x (List.mem_cons_self ..))), if_neg (show ¬ reelsE met (chgW b a x).reels ≠ 0 from h2)]
    exact websE_more h fun y hy => hok y (List.mem_cons_of_mem _ hy)
theorem more_check {p : PressD} (hc : checkE p = 0) {m b a : Int} (hm : 0 ≤ p.margin + m ∧ p.margin + m ≤ 20) (hw : ∀ x ∈ p.webs, (chgW b a x).ok) : checkE (moreP p m b a) = 0 := by
  unfold checkE at hc ⊢
  split at hc
  · rename_i h1
    split at hc
    · rename_i h2
      rw [if_pos, if_pos ⟨h2.1, hm⟩]
      · exact websE_more hc hw
      · refine ⟨by simpa [moreP] using h1.1, by simpa [moreP] using h1.2.1, List.all_eq_true.2 fun x hx => ?_⟩
        obtain ⟨y, hy, rfl⟩ := List.mem_map.1 hx
        exact List.all_eq_true.1 h1.2.2 y hy
    · cases hc
  · cases hc
theorem more_reach (p : PressD) (m b a : Int) : (moreP p m b a).reach = p.reach := by
  show reachL p.cut (p.webs.map (chgW b a)) = reachL p.cut p.webs
  unfold reachL
  rw [List.foldl_map]
  rfl
theorem more_out {p : PressD} (hp : p.Ok) {m b a : Int} (hm : 0 ≤ m) (hb : 0 ≤ b) (ha : 0 ≤ a) {k : Int} (h : p.Out k) : (moreP p m b a).Out k := by
  obtain ⟨x, hx, h0, y, hy, h1, h2⟩ := h
  have hxo := hp.web x hx
  have hc := hp.cut
  refine ⟨chgW b a x, List.mem_map.2 ⟨x, hx, rfl⟩, ?_, y, hy, ?_, ?_⟩
  · show x.before + b + (x.after + a) ≠ 0
    have h3 := hxo.2.1
    have h4 := hxo.2.2
    omega
  · show (y - (x.before + b) - x.off) / p.cut - (p.margin + m) ≤ k
    have h3 : (y - (x.before + b) - x.off) / p.cut ≤ (y - x.before - x.off) / p.cut := Int.ediv_le_ediv (by omega) (by omega)
    have h4 : (y - x.before - x.off) / p.cut - p.margin ≤ k := h1
    omega
  · show k ≤ (y + (x.after + a) - 1 - x.off) / p.cut + (p.margin + m)
    have h3 : (y + x.after - 1 - x.off) / p.cut ≤ (y + (x.after + a) - 1 - x.off) / p.cut := Int.ediv_le_ediv (by omega) (by omega)
    have h4 : k ≤ (y + x.after - 1 - x.off) / p.cut + p.margin := h2
    omega
theorem more_cov {p : PressD} (hp : p.Ok) {m b a n : Int} (hm : 0 ≤ m) (hb : 0 ≤ b) (ha : 0 ≤ a) {l l' : List Sp} (h : p.ThrownIs n l) (h' : (moreP p m b a).ThrownIs n l') (k : Int) (hk : Cov l k) : Cov l' k := by
  have h1 := (h.2 k).1 hk
  exact (h'.2 k).2 ⟨h1.1, more_out hp hm hb ha h1.2⟩
def inB (s : Sp) (x : Sp) : Bool := decide (x.lo ≤ s.lo) && decide (s.hi ≤ x.hi)
theorem more_in {p : PressD} (hp : p.Ok) {m b a n : Int} (hm : 0 ≤ m) (hb : 0 ≤ b) (ha : 0 ≤ a) {l l' : List Sp} (h : p.ThrownIs n l) (h' : (moreP p m b a).ThrownIs n l') {s : Sp} (hs : s ∈ l) : l'.any (inB s) = true := by
  obtain ⟨x, hx, h1, h2⟩ := norm_in h'.1 (h.1.1 s hs) fun k h1 h2 => more_cov hp hm hb ha h h' k ⟨s, hs, h1, h2⟩
  exact List.any_eq_true.2 ⟨x, hx, by unfold inB; rw [decide_eq_true h1, decide_eq_true h2]; rfl⟩
theorem more_run {p : PressD} (hp : p.Ok) {m b a g : Int} (hm : 0 ≤ m) (hb : 0 ≤ b) (ha : 0 ≤ a) (hg : 0 ≤ g) {l l' : List Sp} (h : p.ThrownIs p.reach l) (h' : (moreP p m b a).ThrownIs p.reach l') : runL g l ≤ runL g l' :=
  runL_mono h.1 h'.1 (fun s hs => (ThrownIs.within h s hs).1) (fun s hs => (ThrownIs.within h' s hs).1) hg fun k hk => more_cov hp hm hb ha h h' k hk

/-- What Run answers where it does; the spans are somewhere. -/
def RunOk2 (p : PressD) (g : Int) (w : World) (e : Ending) (w' : World) : Prop := Hid (Below w.heap.size w w') ∧ ∃ lw, Hid (p.ThrownIs p.reach lw) ∧ ((p.reach < runL g lw ∧ e = .returned (.tuple #[.int .i64 0, .int .i64 70])) ∨ (runL g lw ≤ p.reach ∧ e = .returned (.tuple #[.int .i64 (runL g lw), .int .i64 0])))
theorem run_ok2 (p : PressD) (hc : checkE p = 0) (g : Int) (h0 : 0 ≤ g) (h1 : g ≤ 1000000) (v : Value) (w : World) (h : RPress w.heap.size w v p) :
    Calls Try.prog 23 #[v, .int .i64 g] w (RunOk2 p g w) := by
  refine (Run_any p g v w h).mono ?_
  rintro e w' ⟨n, c, rfl, hb, h2 | h2 | ⟨-, -, l, h3, h4⟩⟩
  · exact absurd hc h2.1
  · exact absurd ⟨h0, h1⟩ h2.2.1
  · refine ⟨hb, l, h3, ?_⟩
    rcases h4 with ⟨h5, rfl, rfl⟩ | ⟨h5, rfl, rfl⟩
    · exact .inl ⟨h5, rfl⟩
    · exact .inr ⟨h5, rfl⟩

set_option maxHeartbeats 1000000 in
theorem margin1_any (s : Sp) (C : Nat) (x : Sp) (X : World) (hC : Blk X C 45 #[.int .i64 s.lo, .int .i64 s.hi]) :
    Calls Try.prog 27 #[.agg #[.int .i64 x.lo, .int .i64 x.hi], .pointer (some ⟨C, 0, none⟩)] X fun e w' => e = .returned (.bool (inB s x)) ∧ Below X.heap.size X w' := by
  obtain ⟨a, b⟩ := x
  obtain ⟨c, d⟩ := s
  have F : ∃ W, X.alloc (.cells #[.int .i64 a, .int .i64 b] 45) = W ∧ Below X.heap.size X W ∧ Blk W X.heap.size 45 #[.int .i64 a, .int .i64 b] := ⟨_, rfl, below_alloc _ _, Blk.new _ _ _⟩
  obtain ⟨W, e, hb, hk⟩ := F
  have E := Lib.hid e
  have HB := Lib.hid hb
  have k0 := cellOf hk 0 (x := .int .i64 a) rfl
  have k1 := cellOf hk 1 (x := .int .i64 b) rfl
  have c0 := cellOf (hC.below hb hC.lt) 0 (x := .int .i64 c) rfl
  have c1 := cellOf (hC.below hb hC.lt) 1 (x := .int .i64 d) rfl
  clear e hb hk hC
  unfold inB
  simp only
  by_cases h1 : a ≤ c
  · have g1 : decide (a ≤ c) = true := by simp [h1]
    by_cases h2 : d ≤ b
    · have g2 : decide (d ≤ b) = true := by simp [h2]
      rw [g1, g2]
      go_enter Try.func27, Try.ntmps27
      go_upto_region 1 with fail
      rw [E.out]
      go_wp2_with fail
      go_ret
      exact ⟨rfl, HB.out⟩
    · have g2 : decide (d ≤ b) = false := by simp; omega
      rw [g1, g2]
      go_enter Try.func27, Try.ntmps27
      go_upto_region 1 with fail
      rw [E.out]
      go_wp2_with fail
      go_ret
      exact ⟨rfl, HB.out⟩
  · have g1 : decide (a ≤ c) = false := by simp; omega
    rw [g1, Bool.false_and]
    go_enter Try.func27, Try.ntmps27
    go_upto_region 1 with fail
    rw [E.out]
    go_wp2_with fail
    go_ret
    exact ⟨rfl, HB.out⟩
theorem flat_set {α : Type} (f : α → List Value) (k : Nat) (hk : ∀ x, (f x).length = k) : ∀ (l : List α) (i j : Nat) (x y : α) (u : Value), l[i]? = some x → j < k → f y = (f x).set j u → (l.flatMap f).set (i * k + j) u = (l.set i y).flatMap f
  | [], i, j, x, y, u, h, _, _ => by simp at h
  | z :: l, 0, j, x, y, u, h, hj, he => by
    simp only [List.getElem?_cons_zero, Option.some.injEq] at h
    subst h
    rw [Nat.zero_mul, Nat.zero_add, List.set_cons_zero, List.flatMap_cons, List.flatMap_cons, he, List.set_append_left _ _ (by rw [hk]; exact hj)]
  | z :: l, i + 1, j, x, y, u, h, hj, he => by
    rw [List.set_cons_succ, List.flatMap_cons, List.flatMap_cons, ← flat_set f k hk l i j x y u (by simpa using h) hj he]
    have e : (i + 1) * k + j = (f z).length + (i * k + j) := by rw [hk, Nat.add_mul]; omega
    rw [e, List.set_append_right _ _ (by omega), Nat.add_sub_cancel_left]
theorem zip_set {α β : Type} : ∀ (l : List α) (vs : List β) (i : Nat) (y : α) (v : β), vs[i]? = some v → (l.set i y).zip vs = (l.zip vs).set i (y, v)
  | [], _, _, _, _, _ => by simp
  | _ :: _, [], _, _, _, h => by simp at h
  | a :: l, b :: vs, 0, y, v, h => by
    simp only [List.getElem?_cons_zero, Option.some.injEq] at h
    subst h
    rfl
  | a :: l, b :: vs, i + 1, y, v, h => by
    rw [List.set_cons_succ, List.zip_cons_cons, List.zip_cons_cons, List.set_cons_succ, zip_set l vs i y v (by simpa using h)]
/-- A cell of a web of one's own is written. -/
theorem OWebs.put {base g c : Nat} {w : World} {l : List WebD} {i : Nat} {x : WebD} (h : OWebs base w (.slice (some ⟨g, 0, none⟩) l.length c) l) (hx : l[i]? = some x) (j : Nat) (hj : j < 4) (y : WebD) (u : Value) (hy : y.reels = x.reels) (he : ∀ v, webCells y v = (webCells x v).set j u) :
    OWebs base (w.setCell ⟨g, i * 4 + j, none⟩ u) (.slice (some ⟨g, 0, none⟩) l.length c) (l.set i y) := by
  obtain ⟨vs, h1, h2, h3⟩ := h
  have hi : i < l.length := (List.getElem?_eq_some_iff.1 hx).1
  obtain ⟨v, hv⟩ : ∃ v, vs[i]? = some v := ⟨_, List.getElem?_eq_getElem (by omega)⟩
  have hz : (l.zip vs)[i]? = some (x, v) := by rw [List.getElem?_zip_eq_some]; exact ⟨hx, hv⟩
  have e1 := flat_set (fun x : WebD × Value => webCells x.1 x.2) 4 (fun _ => rfl) (l.zip vs) i j (x, v) (y, v) u hz hj (he v)
  obtain ⟨-, cs, hB⟩ := ownsRow_own h1 (g := g) rfl
  refine ⟨vs, ?_, by rw [List.length_set]; exact h2, fun a b z hu hz => ?_⟩
  · rw [List.length_set, zip_set l vs i _ v hv, ← e1]
    exact ownsRow_put h1 (by omega) _
  · have hr : ∀ xs n, w.ownsRow base 58 4 b n xs → (w.setCell ⟨g, i * 4 + j, none⟩ u).ownsRow base 58 4 b n xs := fun xs n hr =>
      ownsRow_keptBut hr (KeptBut.setCell (S := fun j => j = g) rfl _) fun g' cs' _ hB' e => by
        subst e
        exact Blk.ne hB' hB (by decide) rfl
    by_cases hji : a = i
    · subst hji
      rw [List.getElem?_set_self hi] at hz
      cases hz
      rw [hy]
      exact hr _ _ (h3 a b x hu hx)
    · rw [List.getElem?_set_ne (by omega)] at hz
      exact hr _ _ (h3 a b z hu hz)
theorem OWebs.cells {base g c : Nat} {w : World} {l : List WebD} {i : Nat} {x : WebD} (h : OWebs base w (.slice (some ⟨g, 0, none⟩) l.length c) l) (hx : l[i]? = some x) :
    w.cell? ⟨g, i * 4 + 2, none⟩ = some (.int .i64 x.before) ∧ w.cell? ⟨g, i * 4 + 3, none⟩ = some (.int .i64 x.after) ∧ w.frozen? ⟨g, i * 4 + 2, none⟩ = false ∧ w.frozen? ⟨g, i * 4 + 3, none⟩ = false := by
  obtain ⟨A, c', e1, -, hr⟩ := h.reads.open_
  injection e1 with e11 e12 e13
  subst e11
  obtain ⟨g', o', A2, c2, e2, -, -, -, h2, h3, -⟩ := hr i x hx
  injection e2 with e2
  injection e2 with e21 e22
  subst e21
  subst e22
  rw [Nat.zero_add] at h2 h3
  obtain ⟨vs, h1, -⟩ := h
  exact ⟨h2, h3, ownsRow_frozen h1 _, ownsRow_frozen h1 _⟩
/-- The first k webs are changed. -/
def mixW (b a : Int) (l : List WebD) (k : Nat) : List WebD := (l.take k).map (chgW b a) ++ l.drop k
theorem mixW_len (b a : Int) (l : List WebD) (k : Nat) : (mixW b a l k).length = l.length := by
  unfold mixW
  rw [List.length_append, List.length_map, List.length_take, List.length_drop]
  omega
theorem mixW_at {b a : Int} {l : List WebD} {k : Nat} {x : WebD} (h : l[k]? = some x) : (mixW b a l k)[k]? = some x ∧ (mixW b a l k).set k (chgW b a x) = mixW b a l (k + 1) := by
  have hk := (List.getElem?_eq_some_iff.1 h).1
  have hl : ((l.take k).map (chgW b a)).length = k := by rw [List.length_map, List.length_take]; omega
  have hd : l.drop k = x :: l.drop (k + 1) := by
    rw [List.drop_eq_getElem_cons hk]
    rw [List.getElem?_eq_getElem hk] at h
    injection h with h
    rw [h]
  constructor
  · unfold mixW
    rw [List.getElem?_append_right (by omega), hl, Nat.sub_self, hd]
    rfl
  · unfold mixW
    rw [List.set_append_right _ _ (by omega), hl, Nat.sub_self, hd, List.set_cons_zero, take_snoc_get h, List.map_append, List.append_assoc]
    rfl
end Go.Proofs.Ytpkepacbondopaa
