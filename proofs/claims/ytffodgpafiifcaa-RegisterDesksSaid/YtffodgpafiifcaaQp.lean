/-
  Plain facts for the walk of RegisterDesks: what a reading leaves, rows that are written over.
-/
import Derived.Test.YtffodgpafiifcaaQe
namespace Go.Proofs.Ytffodgpafiifcaa
open Go.RowKit

/-- Lists of numbers, as they read. -/
def RIntss (w : World) (v : Value) (ls : List (List Int)) : Prop := ∃ vs, Rd w.heap.size w 1 v ls.length vs ∧ ∀ (i : Nat) (u : Value) (l : List Int), vs[i]? = some u → ls[i]? = some l → RInts w.heap.size w u l
theorem RIntss.at {w : World} {A : Option Addr} {n c : Nat} {ls : List (List Int)} (h : RIntss w (.slice A n c) ls) {i : Nat} {l : List Int} (hl : ls[i]? = some l) : ∃ g o u, A = some ⟨g, o, none⟩ ∧ g < w.heap.size ∧ w.cell? ⟨g, o + i, none⟩ = some u ∧ RInts w.heap.size w u l := by
  obtain ⟨vs, ⟨A', c', e, hlen, hm, hr⟩, hall⟩ := h
  cases e
  have hi := (List.getElem?_eq_some_iff.1 hl).1
  obtain ⟨g, o, hA, hg, hc⟩ := hr (by omega)
  have hv : vs[i]? = some (vs[i]'(by omega)) := List.getElem?_eq_getElem (by omega)
  exact ⟨g, o, _, hA, hg, hc i _ hv, hall i _ l hv hl⟩
theorem RIntss.form {w : World} {v : Value} {ls : List (List Int)} (h : RIntss w v ls) : ∃ A c, v = .slice A ls.length c ∧ ls.length ≤ maxLen := by
  obtain ⟨vs, ⟨A', c', e, hlen, hm, hr⟩, hall⟩ := h
  exact ⟨A', c', e, hm⟩
/-- The block of a row of one's own that is not empty. -/
theorem own_blk {base n k c : Nat} {w : World} {e : TypeId} {A : Option Addr} {xs : List Value} (h : w.ownsRow base e k (.slice A n c) n xs) (hn : 0 < n) : ∃ g cs, A = some ⟨g, 0, none⟩ ∧ base ≤ g ∧ Blk w g e cs ∧ n * k ≤ cs.size := by
  rcases h.2 with ⟨-, h2⟩ | ⟨g, cap, cur, he, hb, hh, h1, h2, h3, h4⟩
  · omega
  · cases he
    exact ⟨g, cur, rfl, hb, hh, by rw [h3]; exact Nat.mul_le_mul_right _ h1⟩
theorem NewIs.many {marks : List Int} {loops : List LoopD} {W limit : Int} (h : NewIs marks loops W limit 0) : (2 ≤ marks.length ∧ marks.length ≤ 12) ∧ loops.length + 1 = marks.length := by
  rcases h with ⟨-, h⟩ | ⟨-, -, h⟩ | ⟨-, -, -, h⟩ | ⟨-, -, -, -, h⟩ | ⟨h1, -, h3, -, -⟩
  · omega
  · omega
  · omega
  · omega
  · exact ⟨h1, h3⟩
theorem blk_some {w : World} {b j : Nat} {t : TypeId} {cs : Array Value} (h : Blk w b t cs) (hj : j < cs.size) : ∃ v, w.cell? ⟨b, j, none⟩ = some v := ⟨cs[j], by rw [h.cell, Array.getElem?_eq_getElem hj]⟩

theorem still_want {P : Program} {ops : Array Oper} {w : World} {Q : Act → Prop} {a : Act} {o : Oper} {rest : List Oper} (hw : Region.wanted o (yielded ops a.tmps) = true) (h : ∀ K : Act → Prop, (∀ a, wpStill P ops w Q rest a → K a) → o.still P a w K) : wpStill P ops w Q (o :: rest) a :=
  wpStill_step fun K hK => by rw [if_pos hw]; exact h K hK
theorem still_skip {P : Program} {ops : Array Oper} {w : World} {Q : Act → Prop} {a : Act} {o : Oper} {rest : List Oper} (hw : Region.wanted o (yielded ops a.tmps) = false) (h : wpStill P ops w Q rest (a.put o.dst undef)) : wpStill P ops w Q (o :: rest) a :=
  wpStill_step fun K hK => by rw [if_neg (by rw [hw]; exact Bool.false_ne_true)]; exact hK _ h
theorem still_move {P : Program} {w : World} {a : Act} {o : Oper} {K : Act → Prop} (x : Operand) (h : o.op = .move x) (hk : K (a.put o.dst (a.eval x))) : o.still P a w K := by
  unfold Oper.still
  rw [BigFrame.run_move x h]
  rw [Oper.stillUpon_value]
  exact hk
def skipsTo (S : List Oper) (a : Act) : Act := S.foldl (fun a o => a.put o.dst undef) a
def skipsB (ops : Array Oper) : List Oper → Act → Bool
  | [], _ => true
  | o :: S, a => !Region.wanted o (yielded ops a.tmps) && skipsB ops S (a.put o.dst undef)
theorem still_skips {P : Program} {ops : Array Oper} {w : World} {Q : Act → Prop} {rest : List Oper} : ∀ (S : List Oper) {a : Act}, skipsB ops S a = true → wpStill P ops w Q rest (skipsTo S a) → wpStill P ops w Q (S ++ rest) a
  | [], a, _, h => h
  | o :: S, a, hs, h => by
    unfold skipsB at hs
    rw [Bool.and_eq_true] at hs
    exact still_skip (by simpa using hs.1) (still_skips S hs.2 h)
/-- A move, behind it operations that are passed over. -/
theorem still_run {P : Program} {ops : Array Oper} {w : World} {Q : Act → Prop} {a a1 a8 : Act} {o : Oper} (S : List Oper) {rest : List Oper} (x : Operand) (hw : Region.wanted o (yielded ops a.tmps) = true) (hm : o.op = .move x) (h1 : a.put o.dst (a.eval x) = a1) (hs : skipsB ops S a1 = true) (h8 : skipsTo S a1 = a8) (h : wpStill P ops w Q rest a8) : wpStill P ops w Q (o :: (S ++ rest)) a :=
  still_want hw fun K hK => still_move x hm (hK _ (still_skips S (by rw [h1]; exact hs) (by rw [h1, h8]; exact h)))
theorem below_al0 {a w : World} (h : Below a.heap.size a w) (o : Obj) : Below a.heap.size a (w.alloc o) := h.alloc h.size o
/-- What a reading of the reference leaves. -/
def DCut (mp ml : Value) (W lim : Int) (d : DeskD) (l : List Int) (P : Nat → Prop) (wc : World) (s24 s25 s26 : Value) (X : World) : Prop :=
  ∃ (c2 : CopyD) (code2 : Int) (d2 : DeskD) (A2 : Option Addr) (k2 : Nat) (u3 u4 : Value) (P2 : Nat → Prop) (b24 b25 : Nat), s24 = .pointer (some ⟨b24, 0, none⟩) ∧ s25 = .pointer (some ⟨b25, 0, none⟩) ∧ s26 = .int .i64 code2 ∧ ReadIs d l c2 code2 d2 ∧
    QSt mp ml (.slice A2 d2.copies.length k2) d2 P2 X ∧ (∀ k, P2 k → P k ∨ wc.heap.size ≤ k) ∧ RInts X.heap.size X u3 c2.errors ∧ RInts X.heap.size X u4 c2.moves ∧
    Blk X b24 68 #[mp, ml, .int .i64 W, .int .i64 lim, .slice A2 d2.copies.length k2] ∧ Blk X b25 75 #[.bool c2.good, .int .i64 c2.shift, u3, u4] ∧ Below wc.heap.size wc X
theorem dcut_end {mp ml u3 u4 : Value} {W lim code2 : Int} {d d2 : DeskD} {l : List Int} {P P2 : Nat → Prop} {wc wd X : World} {base b24 b25 k2 : Nat} {c2 : CopyD} {A2 : Option Addr} (his : ReadIs d l c2 code2 d2) (hq : QSt mp ml (.slice A2 d2.copies.length k2) d2 P2 wd)
    (hp2 : ∀ k, P2 k → P k ∨ (base ≤ k ∧ k < wd.heap.size)) (hu : OInts base wd u3 c2.errors) (hm : OInts base wd u4 c2.moves) (hbx : Below wc.heap.size wc wd) (hP : ∀ k, P k → k < wc.heap.size) (hbase : wc.heap.size ≤ base) (h24 : wc.heap.size ≤ b24 ∧ (b24 < base ∨ wd.heap.size ≤ b24)) (h25 : wc.heap.size ≤ b25 ∧ (b25 < base ∨ wd.heap.size ≤ b25))
    (hk : KeptBut (fun k => k = b24 ∨ k = b25) wd X) (K24 : Blk X b24 68 #[mp, ml, .int .i64 W, .int .i64 lim, .slice A2 d2.copies.length k2]) (K25 : Blk X b25 75 #[.bool c2.good, .int .i64 c2.shift, u3, u4]) :
    DCut mp ml W lim d l P wc (.pointer (some ⟨b24, 0, none⟩)) (.pointer (some ⟨b25, 0, none⟩)) (.int .i64 code2) X := by
  have r3 := ownsRow_keep hu hk fun j hj => by have := hu.lt j hj; omega
  have r4 := ownsRow_keep hm hk fun j hj => by have := hm.lt j hj; omega
  refine ⟨c2, code2, d2, A2, k2, u3, u4, P2, b24, b25, rfl, rfl, rfl, his, hq.keep hk fun k hk' => ?_, fun k hk' => ?_, Rd.own r3 (own_le r3), Rd.own r4 (own_le r4), K24, K25, hbx.trans (hk.below (fun k hk' => by omega) hbx.size)⟩
  · rcases hp2 k hk' with h | h
    · have := hP k h
      omega
    · omega
  · rcases hp2 k hk' with h | h
    · exact .inl h
    · exact .inr (by omega)
theorem kb2_of {w X : World} {b c : Nat} (h : Below w.heap.size w X) : KeptBut (fun k => k = b ∨ k = c) w X := KeptBut.of_below h
theorem kb2_al {w X : World} {b c : Nat} (h : KeptBut (fun k => k = b ∨ k = c) w X) (o : Obj) : KeptBut (fun k => k = b ∨ k = c) w (X.alloc o) := h.trans (T := fun _ => False) (KeptBut.of_below (below_alloc X o)) fun _ _ h => h.elim
theorem desk_sets {X : World} {b c k : Nat} (hk : k = b ∨ k = c) {cs : Array Value} (hc : cs.size = 5) (K : Blk X k 68 cs) (x0 x1 x2 x3 x4 : Value) :
    Blk (((((X.setCell ⟨k, 0, none⟩ x0).setCell ⟨k, 1, none⟩ x1).setCell ⟨k, 2, none⟩ x2).setCell ⟨k, 3, none⟩ x3).setCell ⟨k, 4, none⟩ x4) k 68 #[x0, x1, x2, x3, x4] ∧
    KeptBut (fun k => k = b ∨ k = c) X (((((X.setCell ⟨k, 0, none⟩ x0).setCell ⟨k, 1, none⟩ x1).setCell ⟨k, 2, none⟩ x2).setCell ⟨k, 3, none⟩ x3).setCell ⟨k, 4, none⟩ x4) := by
  obtain ⟨a, b', c', d, e, rfl⟩ : ∃ a b' c d e, cs = #[a, b', c, d, e] := by
    rcases cs with ⟨l⟩
    match l, hc with
    | [a, b', c, d, e], _ => exact ⟨a, b', c, d, e, rfl⟩
  exact ⟨((((K.put 0 _).put 1 _).put 2 _).put 3 _).put 4 _, kb2_set (kb2_set (kb2_set (kb2_set (kb2_set (KeptBut.refl _ _) hk) hk) hk) hk) hk⟩
theorem copy_sets {X : World} {b c k : Nat} (hk : k = b ∨ k = c) {cs : Array Value} (hc : cs.size = 4) (K : Blk X k 75 cs) (x0 x1 x2 x3 : Value) :
    Blk ((((X.setCell ⟨k, 0, none⟩ x0).setCell ⟨k, 1, none⟩ x1).setCell ⟨k, 2, none⟩ x2).setCell ⟨k, 3, none⟩ x3) k 75 #[x0, x1, x2, x3] ∧
    KeptBut (fun k => k = b ∨ k = c) X ((((X.setCell ⟨k, 0, none⟩ x0).setCell ⟨k, 1, none⟩ x1).setCell ⟨k, 2, none⟩ x2).setCell ⟨k, 3, none⟩ x3) := by
  obtain ⟨a, b', c', d, rfl⟩ : ∃ a b' c d, cs = #[a, b', c, d] := by
    rcases cs with ⟨l⟩
    match l, hc with
    | [a, b', c, d], _ => exact ⟨a, b', c, d, rfl⟩
  exact ⟨(((K.put 0 _).put 1 _).put 2 _).put 3 _, kb2_set (kb2_set (kb2_set (kb2_set (KeptBut.refl _ _) hk) hk) hk) hk⟩
theorem KeptBut.blk2 {X Y : World} {b c k : Nat} {t : TypeId} {cs : Array Value} (h : KeptBut (fun j => j = b ∨ j = c) X Y) (hB : Blk X k t cs) (h1 : k ≠ b) (h2 : k ≠ c) : Blk Y k t cs := h.blk hB fun h => h.elim h1 h2
theorem sto_dcut {mp ml u3 u4 : Value} {W lim code2 : Int} {d d2 : DeskD} {l : List Int} {P P2 : Nat → Prop} {wc wd : World} {base b24 b25 k2 : Nat} {c2 : CopyD} {A2 : Option Addr} {cs1 cs2 : Array Value} (his : ReadIs d l c2 code2 d2) (hq : QSt mp ml (.slice A2 d2.copies.length k2) d2 P2 wd)
    (hp2 : ∀ k, P2 k → P k ∨ (base ≤ k ∧ k < wd.heap.size)) (hu : OInts base wd u3 c2.errors) (hm : OInts base wd u4 c2.moves) (hbx : Below wc.heap.size wc wd) (hP : ∀ k, P k → k < wc.heap.size) (hbase : wc.heap.size ≤ base) (h24 : wc.heap.size ≤ b24 ∧ b24 < base) (h25 : wc.heap.size ≤ b25 ∧ b25 < base)
    (K1 : Blk wd b24 68 cs1) (K2 : Blk wd b25 75 cs2) (hc1 : cs1.size = 5) (hc2 : cs2.size = 4) :
    DCut mp ml W lim d l P wc (.pointer (some ⟨b24, 0, none⟩)) (.pointer (some ⟨b25, 0, none⟩)) (.int .i64 code2) (Sto b24 b25 wd mp ml (.int .i64 W) (.int .i64 lim) (.slice A2 d2.copies.length k2) (.bool c2.good) (.int .i64 c2.shift) u3 u4) := by
  obtain ⟨Y, rfl, q1, q2, q3, q4⟩ := sto_is hc1 hc2 K1 K2 hbx h24.1 h25.1 mp ml (.int .i64 W) (.int .i64 lim) (.slice A2 d2.copies.length k2) (.bool c2.good) (.int .i64 c2.shift) u3 u4
  exact dcut_end his hq hp2 hu hm hbx hP hbase ⟨h24.1, .inl h24.2⟩ ⟨h25.1, .inl h25.2⟩ q4 q1 q2
/-- What the call leaves. -/
structure DPre (mp ml : Value) (W lim : Int) (d : DeskD) (l : List Int) (P : Nat → Prop) (wc wd : World) (base : Nat) (c2 : CopyD) (code2 : Int) (d2 : DeskD) (A2 : Option Addr) (k2 : Nat) (u3 u4 : Value) (P2 : Nat → Prop) : Prop where
  his : ReadIs d l c2 code2 d2
  hq : QSt mp ml (.slice A2 d2.copies.length k2) d2 P2 wd
  hp2 : ∀ k, P2 k → P k ∨ (base ≤ k ∧ k < wd.heap.size)
  hu : OInts base wd u3 c2.errors
  hm : OInts base wd u4 c2.moves
  hbx : Below wc.heap.size wc wd
  hP : ∀ k, P k → k < wc.heap.size
section
variable {mp ml u3 u4 : Value} {W lim code2 : Int} {d d2 : DeskD} {l : List Int} {P P2 : Nat → Prop} {wc wd : World} {base k2 : Nat} {c2 : CopyD} {A2 : Option Addr} {cs1 cs2 : Array Value}
theorem dcut_1 (h : DPre mp ml W lim d l P wc wd base c2 code2 d2 A2 k2 u3 u4 P2) (hb : base = wc.heap.size) : DCut mp ml W lim d l P wc (.pointer (some ⟨wd.heap.size, 0, none⟩)) (.pointer (some ⟨(wd.heap.size + 1), 0, none⟩)) (.int .i64 code2) ((wd.alloc (.cells #[mp, ml, .int .i64 W, .int .i64 lim, .slice A2 d2.copies.length k2] 68)).alloc (.cells #[.bool c2.good, .int .i64 c2.shift, u3, u4] 75)) :=
  dcut_end h.his h.hq h.hp2 h.hu h.hm h.hbx h.hP (by omega) ⟨by have := h.hbx.size; omega, .inr (by omega)⟩ ⟨by have := h.hbx.size; omega, .inr (by omega)⟩ (kb2_of ((below_alloc _ _).trans ((below_alloc _ _).mono (by simp)))) ((Blk.new wd _ _).alloc _) (blk_new (by simp) _ _)
theorem dcut_2 (h : DPre mp ml W lim d l P wc wd base c2 code2 d2 A2 k2 u3 u4 P2) (hb : base = wc.heap.size) : DCut mp ml W lim d l P wc (.pointer (some ⟨(wd.heap.size + 1), 0, none⟩)) (.pointer (some ⟨wd.heap.size, 0, none⟩)) (.int .i64 code2) ((wd.alloc (.cells #[.bool c2.good, .int .i64 c2.shift, u3, u4] 75)).alloc (.cells #[mp, ml, .int .i64 W, .int .i64 lim, .slice A2 d2.copies.length k2] 68)) :=
  dcut_end h.his h.hq h.hp2 h.hu h.hm h.hbx h.hP (by omega) ⟨by have := h.hbx.size; omega, .inr (by omega)⟩ ⟨by have := h.hbx.size; omega, .inr (by omega)⟩ (kb2_of ((below_alloc _ _).trans ((below_alloc _ _).mono (by simp)))) (blk_new (by simp) _ _) ((Blk.new wd _ _).alloc _)
theorem dcut_3 (h : DPre mp ml W lim d l P wc wd base c2 code2 d2 A2 k2 u3 u4 P2) (hb : base = wc.heap.size + 1) (K1 : Blk wd wc.heap.size 68 cs1) (hc1 : cs1.size = 5) : DCut mp ml W lim d l P wc (.pointer (some ⟨wc.heap.size, 0, none⟩)) (.pointer (some ⟨wd.heap.size, 0, none⟩)) (.int .i64 code2) ((((((wd.setCell ⟨wc.heap.size, 0, none⟩ mp).setCell ⟨wc.heap.size, 1, none⟩ ml).setCell ⟨wc.heap.size, 2, none⟩ (.int .i64 W)).setCell ⟨wc.heap.size, 3, none⟩ (.int .i64 lim)).setCell ⟨wc.heap.size, 4, none⟩ (.slice A2 d2.copies.length k2)).alloc (.cells #[.bool c2.good, .int .i64 c2.shift, u3, u4] 75)) :=
  dcut_end h.his h.hq h.hp2 h.hu h.hm h.hbx h.hP (by omega) ⟨by omega, .inl (by omega)⟩ ⟨by have := h.hbx.size; omega, .inr (by omega)⟩ (kb2_al (desk_sets (.inl rfl) hc1 K1 _ _ _ _ _).2 _) ((desk_sets (b := wc.heap.size) (c := wd.heap.size) (.inl rfl) hc1 K1 _ _ _ _ _).1.alloc _) (blk_new (by simp [World.setCell]) _ _)
theorem dcut_5 (h : DPre mp ml W lim d l P wc wd base c2 code2 d2 A2 k2 u3 u4 P2) (hb : base = wc.heap.size + 1) (K2 : Blk wd wc.heap.size 75 cs2) (hc2 : cs2.size = 4) : DCut mp ml W lim d l P wc (.pointer (some ⟨wd.heap.size, 0, none⟩)) (.pointer (some ⟨wc.heap.size, 0, none⟩)) (.int .i64 code2) (((((wd.setCell ⟨wc.heap.size, 0, none⟩ (.bool c2.good)).setCell ⟨wc.heap.size, 1, none⟩ (.int .i64 c2.shift)).setCell ⟨wc.heap.size, 2, none⟩ u3).setCell ⟨wc.heap.size, 3, none⟩ u4).alloc (.cells #[mp, ml, .int .i64 W, .int .i64 lim, .slice A2 d2.copies.length k2] 68)) :=
  dcut_end h.his h.hq h.hp2 h.hu h.hm h.hbx h.hP (by omega) ⟨by have := h.hbx.size; omega, .inr (by omega)⟩ ⟨by omega, .inl (by omega)⟩ (kb2_al (copy_sets (.inr rfl) hc2 K2 _ _ _ _).2 _) (blk_new (by simp [World.setCell]) _ _) ((copy_sets (b := wd.heap.size) (c := wc.heap.size) (.inr rfl) hc2 K2 _ _ _ _).1.alloc _)
theorem dcut_4 (h : DPre mp ml W lim d l P wc wd base c2 code2 d2 A2 k2 u3 u4 P2) (hb : base = wc.heap.size + 2) (K1 : Blk wd wc.heap.size 68 cs1) (hc1 : cs1.size = 5) (K2 : Blk wd (wc.heap.size + 1) 75 cs2) (hc2 : cs2.size = 4) : DCut mp ml W lim d l P wc (.pointer (some ⟨wc.heap.size, 0, none⟩)) (.pointer (some ⟨(wc.heap.size + 1), 0, none⟩)) (.int .i64 code2) (((((((((wd.setCell ⟨wc.heap.size, 0, none⟩ mp).setCell ⟨wc.heap.size, 1, none⟩ ml).setCell ⟨wc.heap.size, 2, none⟩ (.int .i64 W)).setCell ⟨wc.heap.size, 3, none⟩ (.int .i64 lim)).setCell ⟨wc.heap.size, 4, none⟩ (.slice A2 d2.copies.length k2)).setCell ⟨(wc.heap.size + 1), 0, none⟩ (.bool c2.good)).setCell ⟨(wc.heap.size + 1), 1, none⟩ (.int .i64 c2.shift)).setCell ⟨(wc.heap.size + 1), 2, none⟩ u3).setCell ⟨(wc.heap.size + 1), 3, none⟩ u4) :=
  sto_dcut h.his h.hq h.hp2 h.hu h.hm h.hbx h.hP (by omega) ⟨by omega, by omega⟩ ⟨by omega, by omega⟩ K1 K2 hc1 hc2
theorem dcut_6 (h : DPre mp ml W lim d l P wc wd base c2 code2 d2 A2 k2 u3 u4 P2) (hb : base = wc.heap.size + 2) (K1 : Blk wd (wc.heap.size + 1) 68 cs1) (hc1 : cs1.size = 5) (K2 : Blk wd wc.heap.size 75 cs2) (hc2 : cs2.size = 4) : DCut mp ml W lim d l P wc (.pointer (some ⟨(wc.heap.size + 1), 0, none⟩)) (.pointer (some ⟨wc.heap.size, 0, none⟩)) (.int .i64 code2) (((((((((wd.setCell ⟨(wc.heap.size + 1), 0, none⟩ mp).setCell ⟨(wc.heap.size + 1), 1, none⟩ ml).setCell ⟨(wc.heap.size + 1), 2, none⟩ (.int .i64 W)).setCell ⟨(wc.heap.size + 1), 3, none⟩ (.int .i64 lim)).setCell ⟨(wc.heap.size + 1), 4, none⟩ (.slice A2 d2.copies.length k2)).setCell ⟨wc.heap.size, 0, none⟩ (.bool c2.good)).setCell ⟨wc.heap.size, 1, none⟩ (.int .i64 c2.shift)).setCell ⟨wc.heap.size, 2, none⟩ u3).setCell ⟨wc.heap.size, 3, none⟩ u4) :=
  sto_dcut h.his h.hq h.hp2 h.hu h.hm h.hbx h.hP (by omega) ⟨by omega, by omega⟩ ⟨by omega, by omega⟩ K1 K2 hc1 hc2
end
theorem desk_set2 {w X : World} {b : Nat} {cs : Array Value} (hc : cs.size = 5) (K : Blk X b 68 cs) (B : Below w.heap.size w X) (hb : w.heap.size ≤ b) (x0 x1 x2 x3 x4 : Value) :
    ∃ Y, (((((X.setCell ⟨b, 0, none⟩ x0).setCell ⟨b, 1, none⟩ x1).setCell ⟨b, 2, none⟩ x2).setCell ⟨b, 3, none⟩ x3).setCell ⟨b, 4, none⟩ x4) = Y ∧ Blk Y b 68 #[x0, x1, x2, x3, x4] ∧ Below w.heap.size w Y ∧ KeptBut (fun k => k = b) X Y := by
  obtain ⟨Y, e, h1, h2⟩ := desk_set hc K B hb x0 x1 x2 x3 x4
  exact ⟨Y, e, h1, h2, e ▸ kb_set (kb_set4 x0 x1 x2 x3)⟩
theorem ReadIs.grows {d d2 : DeskD} {l : List Int} {c : CopyD} {code : Int} (h : ReadIs d l c code d2) : d2 = d ∨ d2 = d.add c := by
  rcases h with ⟨-, -, -, h⟩ | ⟨-, s, ct, l, err, -, h⟩
  · exact .inl h
  · rcases h with ⟨-, -, -, h⟩ | ⟨-, -, -, -, h⟩ | ⟨-, -, -, -, h⟩
    · exact .inl h
    · exact .inr h
    · exact .inr h
theorem ReadIs.lens {d d2 : DeskD} {l : List Int} {c : CopyD} {code : Int} (h : ReadIs d l c code d2) : c.errors.length = c.moves.length ∧ c.moves.length ≤ d.loops.length := by
  rcases h with ⟨-, rfl, -, -⟩ | ⟨-, s, ct, l, err, -, h⟩
  · exact ⟨rfl, Nat.zero_le _⟩
  · rcases h with ⟨-, rfl, -, -⟩ | ⟨-, -, rfl, -, -⟩ | ⟨-, -, rfl, -, -⟩
    · exact ⟨rfl, Nat.zero_le _⟩
    · exact ⟨by simp [readBad, readWith, movesD_len], by simp [readBad, readWith, movesD_len]⟩
    · exact ⟨by simp [readGood, readWith, movesD_len, errsD], by simp [readGood, readWith, movesD_len]⟩
theorem wasteD_snoc (cs : List CopyD) (c : CopyD) : wasteD (cs ++ [c]) = wasteD cs + if c.good then 0 else 1 := by
  unfold wasteD
  rw [List.filter_append, List.length_append]
  cases h : c.good <;> simp [List.filter, h]
/-- Two rows of one's own that are written over. -/
def RowsAt (Ae Am : Option Addr) (n : Nat) (S : Nat → Prop) (w X : World) : Prop :=
  KeptBut S w X ∧ (0 < n → ∃ ge gm cse csm, Ae = some ⟨ge, 0, none⟩ ∧ Am = some ⟨gm, 0, none⟩ ∧ S ge ∧ S gm ∧ Blk X ge 3 cse ∧ Blk X gm 3 csm ∧ n ≤ cse.size ∧ n ≤ csm.size)
theorem kbS_set {S : Nat → Prop} {w X : World} {k j : Nat} {u : Value} (h : KeptBut S w X) (hk : S k) : KeptBut S w (X.setCell ⟨k, j, none⟩ u) := h.trans (KeptBut.setCell (S := S) (p := ⟨k, j, none⟩) hk u) fun _ _ h => h
theorem blk_any {X : World} {a b j : Nat} {t : TypeId} {cs : Array Value} {u : Value} (h : Blk X a t cs) : ∃ cs', Blk (X.setCell ⟨b, j, none⟩ u) a t cs' ∧ cs'.size = cs.size := by
  by_cases e : a = b
  · subst e
    exact ⟨_, h.put j u, by simp⟩
  · exact ⟨cs, h.far (p := ⟨b, j, none⟩) e u, rfl⟩
theorem RowsAt.set {Ae Am : Option Addr} {n j k : Nat} {S : Nat → Prop} {w X : World} {u : Value} (h : RowsAt Ae Am n S w X) (hk : S k) : RowsAt Ae Am n S w (X.setCell ⟨k, j, none⟩ u) := by
  refine ⟨kbS_set h.1 hk, fun h0 => ?_⟩
  obtain ⟨ge, gm, cse, csm, e1, e2, s1, s2, k1, k2, h1, h2⟩ := h.2 h0
  obtain ⟨cse', q1, q2⟩ := blk_any (b := k) (j := j) (u := u) k1
  obtain ⟨csm', r1, r2⟩ := blk_any (b := k) (j := j) (u := u) k2
  exact ⟨ge, gm, cse', csm', e1, e2, s1, s2, q1, r1, by omega, by omega⟩
theorem RowsAt.drew {Ae Am : Option Addr} {n : Nat} {S : Nat → Prop} {w X : World} (h : RowsAt Ae Am n S w X) : RowsAt Ae Am n S w X.drew := ⟨⟨h.1.os, h.1.tape, h.1.output, h.1.size, h.1.block⟩, h.2⟩
theorem RowsAt.start {b n ce cm : Nat} {Ae Am : Option Addr} {w X : World} {er mo : List Int} {S : Nat → Prop} (h1 : OInts b w (.slice Ae er.length ce) er) (h2 : OInts b w (.slice Am mo.length cm) mo) (hr : er.length = n) (hm : mo.length = n) (hk : KeptBut (fun k => ¬ S k) w X)
    (hS : ∀ k, ((Value.slice Ae er.length ce).ownBlock = some k ∨ (Value.slice Am mo.length cm).ownBlock = some k) → S k) : RowsAt Ae Am n S X X := by
  refine ⟨KeptBut.refl _ _, fun h0 => ?_⟩
  obtain ⟨ge, cse, e1, -, k1, s1⟩ := own_blk h1 (by omega)
  obtain ⟨gm, csm, e2, -, k2, s2⟩ := own_blk h2 (by omega)
  have se : S ge := hS ge (.inl (by rw [e1]; rfl))
  have sm : S gm := hS gm (.inr (by rw [e2]; rfl))
  exact ⟨ge, gm, cse, csm, e1, e2, se, sm, hk.blk k1 fun h => h se, hk.blk k2 fun h => h sm, by omega, by omega⟩
theorem own_type {base n k : Nat} {w : World} {e : TypeId} {v : Value} {xs : List Value} (h : w.ownsRow base e k v n xs) {g : Nat} (hg : v.ownBlock = some g) : ∃ cs, Blk w g e cs := by
  rcases h.2 with ⟨rfl, -⟩ | ⟨g', cap, cur, rfl, hb, hh, -⟩
  · simp [Value.ownBlock] at hg
  · have : g' = g := by simpa [Value.ownBlock] using hg
    subst this
    exact ⟨cur, hh⟩
/-- The rows of errors of the copies before the k-th one. -/
def Spent (es : List (Value × Value)) (k j : Nat) : Prop := ∃ (m : Nat) (e : Value × Value), m < k ∧ es[m]? = some e ∧ e.1.ownBlock = some j
theorem spent_zero (es : List (Value × Value)) (w : World) : KeptBut (Spent es 0) w w := KeptBut.refl _ _
theorem spent_next {es : List (Value × Value)} {k : Nat} {w X Y : World} {e : Value × Value} (h : KeptBut (Spent es k) w X) (he : es[k]? = some e) (hk : KeptBut (fun j => e.1.ownBlock = some j) X Y) : KeptBut (Spent es (k + 1)) w Y :=
  (h.mono fun j _ ⟨m, e', h1, h2, h3⟩ => ⟨m, e', Nat.lt_succ_of_lt h1, h2, h3⟩).trans (T := fun j => e.1.ownBlock = some j) hk fun j _ hj => ⟨k, e, Nat.lt_succ_self k, he, hj⟩
theorem spent_ge {b : Nat} {w : World} {v : Value} {cs : List CopyD} {es : List (Value × Value)} (h : OCps b w v cs es) {k j : Nat} (hs : Spent es k j) : b ≤ j ∧ j < w.heap.size := by
  obtain ⟨m, e, -, h2, h3⟩ := hs
  exact h.lt_ (List.mem_of_getElem? h2) (.inl h3)
theorem all_at {b n cap k : Nat} {w X : World} {A : Option Addr} {cs : List CopyD} {es : List (Value × Value)} {c : CopyD} (h : OCps b w (.slice A n cap) cs es) (hr : Rising es) (hk : KeptBut (Spent es k) w X) (hc : cs[k]? = some c) :
    ∃ g o A1 c1 A2 c2, A = some ⟨g, o, none⟩ ∧ g < X.heap.size ∧ X.cell? ⟨g, o + k * 4, none⟩ = some (.bool c.good) ∧ X.cell? ⟨g, o + k * 4 + 1, none⟩ = some (.int .i64 c.shift) ∧ X.cell? ⟨g, o + k * 4 + 2, none⟩ = some (.slice A1 c.errors.length c1) ∧ X.cell? ⟨g, o + k * 4 + 3, none⟩ = some (.slice A2 c.moves.length c2) ∧
      OInts b X (.slice A1 c.errors.length c1) c.errors ∧ OInts b X (.slice A2 c.moves.length c2) c.moves ∧ es[k]? = some (.slice A1 c.errors.length c1, .slice A2 c.moves.length c2) ∧ ∀ j, (Value.slice A1 c.errors.length c1).ownBlock = some j → j ≠ g := by
  have hk1 := (List.getElem?_eq_some_iff.1 hc).1
  have hk2 : k < es.length := by rw [h.len]; exact hk1
  have he : es[k]? = some es[k] := List.getElem?_eq_getElem hk2
  obtain ⟨h1, h2⟩ := h.each k c _ hc he
  have hn : cs.length = n := by
    obtain ⟨A', c', e⟩ := ownsRow_form h.rows
    cases e
    rfl
  have hrow : w.ownsRow b 72 4 (.slice A n cap) n (rowsC cs es) := by have h9 := h.rows; rwa [hn] at h9
  obtain ⟨g, cur, hA, -, hB, -⟩ := own_blk hrow (by omega)
  have hint : ∀ j, Spent es k j → ∃ ds, Blk w j 3 ds := fun j ⟨m, e, _, hm2, hm3⟩ => by
    have hm4 : m < cs.length := by rw [← h.len]; exact (List.getElem?_eq_some_iff.1 hm2).1
    exact own_type (h.each m _ e (List.getElem?_eq_getElem hm4) hm2).1 hm3
  have hgS : ¬ Spent es k g := fun hs => by
    obtain ⟨ds, hd⟩ := hint g hs
    exact Blk.ne hB hd (by decide) rfl
  obtain ⟨g', o, ve, vm, hA', hg', k0, k1, k2, k3, -, -⟩ := h.at hc
  rw [hA] at hA'
  injection hA' with hA'
  injection hA' with e1 e2 e3
  subst e1
  have hz : (cs.zip es)[k]? = some (c, es[k]) := by rw [List.getElem?_zip_eq_some]; exact ⟨hc, he⟩
  have hf := fun j (hj : j < 4) => flat_at (fun x : CopyD × (Value × Value) => [Value.bool x.1.good, Value.int .i64 x.1.shift, x.2.1, x.2.2]) 4 (fun _ => rfl) (cs.zip es) k j _ hz hj
  have hcl := fun j u hu => h.rows.cells (g := g) (by rw [hA]; rfl) j u hu
  have q2 : w.cell? ⟨g, 0 + k * 4 + 2, none⟩ = some es[k].1 := by
    have h9 := hcl (k * 4 + 2) es[k].1 (by have := hf 2 (by omega); simpa [rowsC] using this)
    rwa [Addr.add_lit, ← Nat.add_assoc] at h9
  have q3 : w.cell? ⟨g, 0 + k * 4 + 3, none⟩ = some es[k].2 := by
    have h9 := hcl (k * 4 + 3) es[k].2 (by have := hf 3 (by omega); simpa [rowsC] using this)
    rwa [Addr.add_lit, ← Nat.add_assoc] at h9
  subst e2
  obtain ⟨A1, c1, f1⟩ := ownsRow_form h1
  obtain ⟨A2, c2, f2⟩ := ownsRow_form h2
  have kc := fun j => kept_cell (p := ⟨g, j, none⟩) hk hB.lt hgS
  refine ⟨g, 0, A1, c1, A2, c2, hA, Nat.lt_of_lt_of_le hB.lt hk.size, (kc _).trans k0, (kc _).trans k1, ?_, ?_, ?_, ?_, ?_, fun j hj e => ?_⟩
  · rw [← f1]; exact (kc _).trans q2
  · rw [← f2]; exact (kc _).trans q3
  · rw [← f1]; exact ownsRow_keep h1 hk fun j hj ⟨m, e, m1, m2, m3⟩ => by have := hr m k e _ j j m1 m2 he m3 (.inl hj); omega
  · rw [← f2]; exact ownsRow_keep h2 hk fun j hj ⟨m, e, m1, m2, m3⟩ => by have := hr m k e _ j j m1 m2 he m3 (.inr hj); omega
  · rw [he, ← f1, ← f2]
  · rw [← f1] at hj
    obtain ⟨ds, hd⟩ := own_type h1 hj
    exact Blk.ne hB hd (by decide) e.symm
end Go.Proofs.Ytffodgpafiifcaa
