/-
  The law's Loops; what the program's desk and the reference's desk need, each with the set of its blocks.
-/
import Derived.Test.YtffodgpafiifcaaQb
namespace Go.Proofs.Ytffodgpafiifcaa
open Go.RowKit

theorem infoLoop : (Try.prog.info? 26).map (fun i => (i.zero, i.size, i.bytes)) = some (some (.agg #[.int .i64 0, .int .i64 0, .int .i64 0, .int .i64 0]), 4, 32) := by kernel_rfl
def OLoops (base : Nat) (w : World) (v : Value) (ls : List LoopD) : Prop := w.ownsRow base 26 4 v ls.length (loopCells ls)
theorem loopCells_snoc (ls : List LoopD) (l : LoopD) : loopCells (ls ++ [l]) = loopCells ls ++ [.int .i64 l.dead, .int .i64 l.noise, .int .i64 l.blur, .int .i64 l.step] := by unfold loopCells; rw [List.flatMap_append]; rfl

set_option maxRecDepth 100000 in
set_option maxHeartbeats 4000000 in
theorem lawLoops_any (v : Value) (ls : List LoopD) (w : World) (h : RLoops w.heap.size w v ls) (hn : ls.length ≤ 20) :
    Calls Try.prog 29 #[v] w fun e w' => ∃ u, e = .returned u ∧ OLoops w.heap.size w' u ls ∧ Below w.heap.size w w' := by
  have H := Lib.hid h
  obtain ⟨A, c, rfl⟩ := rd_form h
  obtain ⟨n, hl⟩ : ∃ n, ls.length = n := ⟨_, rfl⟩
  have HN := Lib.hid hl
  rw [hl] at H hn ⊢
  clear h hl
  obtain ⟨i0, hi0, hz0, hz1, hz2⟩ := info_parts infoLoop
  go_enter Try.func29, Try.ntmps29
  go_wp2
  go_loopw [3, 4] (fun u iq wr => ∃ k : Nat, k ≤ n ∧ iq = .int .i64 k ∧ OLoops w.heap.size wr u (ls.take k) ∧ Below w.heap.size w wr) (fun _ iq _ => n - (intOf iq).toNat)
  case atStart => exact ⟨0, Nat.zero_le _, rfl, World.ownsRow_nil _ _ _ _, Below.refl _ _⟩
  case round =>
    obtain ⟨k, hk, rfl, ho, hb⟩ := hrel
    have HB := Lib.hid hb
    have hzr := hb.size
    have hlen : (ls.take k).length = k := by rw [List.length_take, HN.out]; omega
    have HO := Lib.hid ho
    obtain ⟨Au, cu, rfl⟩ : ∃ A c, u3 = .slice A k c := by
      obtain ⟨A, c, e⟩ := ownsRow_form ho
      rw [hlen] at e
      exact ⟨A, c, e⟩
    have HR : Hid (wr.ownsRow w.heap.size 26 4 (.slice Au k cu) k (loopCells (ls.take k))) := by have h1 := ho; unfold OLoops at h1; rwa [hlen] at h1
    have HLen := Lib.hid hlen
    clear ho hlen
    by_cases hlt : k < n
    · obtain ⟨l, hl⟩ : ∃ l, ls[k]? = some l := ⟨_, List.getElem?_eq_getElem (by rw [HN.out]; exact hlt)⟩
      obtain ⟨g, o, rfl, hg, c0, c1, c2, c3⟩ := RLoops.at H.out hl
      have c0' := (hb.cell (p := ⟨g, o + k * 4, none⟩) hg).trans c0
      have c1' := (hb.cell (p := ⟨g, o + k * 4 + 1, none⟩) hg).trans c1
      have c2' := (hb.cell (p := ⟨g, o + k * 4 + 2, none⟩) hg).trans c2
      have c3' := (hb.cell (p := ⟨g, o + k * 4 + 3, none⟩) hg).trans c3
      have HL := Lib.hid hl
      have ik : (k : Int) < (n : Int) := by omega
      clear c0 c1 c2 c3 hl hb
      go_wp2_with (at_builtin; refine wpList_append_lies _ rfl _ _ 61 rfl w.heap.size 26 i0 _ 4 32 Try.underlying61 hi0 hz0 hz1 hz2 rfl (by decide) (.slice Au k cu) k _ rfl (HR.out.alloc _) ⟨wr.heap.size, 0, none⟩ 1 1 [.int .i64 l.dead, .int .i64 l.noise, .int .i64 l.blur, .int .i64 l.step] rfl rfl (cells_new _ _ _) (by simp [Value.oneCell']) (by omega) (by simp only [maxLen]; omega) (by omega) (by simp; omega) (wr.heap.size + 1) (by simp) ?_; intro g8 c8 w7 hown hgrow hat hlt7; have HN7 : Hid (OLoops w.heap.size w7 (.slice (some ⟨g8, 0, none⟩) (k + 1) c8) (ls.take (k + 1)) ∧ Below w.heap.size w w7) := Lib.hid ⟨by rw [take_one HL.out]; unfold OLoops; rw [List.length_append, HLen.out, loopCells_snoc]; exact hown, (HB.out.alloc hzr _).grown hgrow (by simp; omega) fun j hj => (HR.out.lt j hj).1⟩; clear hown hgrow hat hlt7)
      go_roundw
      case rel => exact ⟨k + 1, by omega, by go_num, HN7.out.1, HN7.out.2⟩
      case measure => simp [intOf]; omega
    · obtain rfl : n = k := by omega
      have ht : ls.take n = ls := List.take_of_length_le (by rw [HN.out]; exact Nat.le_refl _)
      rw [ht] at HO
      clear ht hb
      go_wp2
      go_ret
      exact ⟨_, rfl, HO.out, HB.out⟩

/-- The program's desk; F are its blocks. -/
def PSt (w : World) (D : Nat) (d : DeskD) (F : Nat → Prop) (X : World) : Prop :=
  ∃ (b : Nat) (mv cv pv : Value) (Cs : List Nat) (vs : List Value) (es : List (Value × Value)), w.heap.size ≤ b ∧ DeskOk d ∧ DeskAt b X D d mv cv pv Cs vs es ∧ ∀ k, F k ↔ Foot D mv cv pv Cs vs es k
section
variable {w X Y : World} {D : Nat} {d : DeskD} {F S : Nat → Prop}
theorem PSt.ok (h : PSt w D d F X) : DeskOk d := by
  obtain ⟨b, mv, cv, pv, Cs, vs, es, h0, h1, h2, h3⟩ := h
  exact h1
theorem PSt.lt (h : PSt w D d F X) {k : Nat} (hk : F k) : w.heap.size ≤ k ∧ k < X.heap.size := by
  obtain ⟨b, mv, cv, pv, Cs, vs, es, h0, h1, h2, h3⟩ := h
  have h9 := h2.foot_lt ((h3 k).1 hk)
  exact ⟨by omega, h9.2⟩
theorem PSt.keep (h : PSt w D d F X) (hk : KeptBut S X Y) (hS : ∀ k, F k → ¬ S k) : PSt w D d F Y := by
  obtain ⟨b, mv, cv, pv, Cs, vs, es, h0, h1, h2, h3⟩ := h
  exact ⟨b, mv, cv, pv, Cs, vs, es, h0, h1, h2.keep hk fun k hf => hS k ((h3 k).2 hf), h3⟩
theorem PSt.below (h : PSt w D d F X) (hb : Below X.heap.size X Y) : PSt w D d F Y := h.keep (S := fun _ => False) (KeptBut.of_below hb) fun _ _ => id
theorem PSt.read (h : PSt w D d F X) (v : Value) (seen : List Int) (hv : RInts X.heap.size X v seen) (hl : seen.length ≤ 1000000) :
    Calls Try.prog 32 #[.pointer (some ⟨D, 0, none⟩), v] X fun e w' => ∃ (c : CopyD) (code : Int) (d' : DeskD) (F' : Nat → Prop) (ue um : Value), e = .returned (.tuple #[.agg #[.bool c.good, .int .i64 c.shift, ue, um], .int .i64 code]) ∧ ReadIs d seen c code d' ∧
      PSt w D d' F' w' ∧ KeptBut F X w' ∧ (∀ k, F' k → F k ∨ X.heap.size ≤ k) ∧ OInts X.heap.size w' ue c.errors ∧ OInts X.heap.size w' um c.moves ∧ ∀ k, (ue.ownBlock = some k ∨ um.ownBlock = some k) → ¬ F' k := by
  obtain ⟨b, mv, cv, pv, Cs, vs, es, h0, h1, h2, h3⟩ := h
  refine (Read_any b D d mv cv pv Cs vs es X h2 h1 v seen hv hl).mono ?_
  rintro e w' ⟨c, code, d', pv', vs', es', ue, um, rfl, his, hok', hat', hk', hf', hue, hum, hno⟩
  refine ⟨c, code, d', Foot D mv cv pv' Cs vs' es', ue, um, rfl, his, ⟨b, mv, cv, pv', Cs, vs', es', h0, hok', hat', fun k => Iff.rfl⟩, hk'.mono fun k _ hf => (h3 k).2 hf, fun k hk => ?_, hue, hum, hno⟩
  rcases hf' k hk with h9 | h9
  · exact .inl ((h3 k).2 h9)
  · exact .inr h9
theorem PSt.waste (h : PSt w D d F X) : Calls Try.prog 36 #[.pointer (some ⟨D, 0, none⟩)] X fun e w' => e = .returned (.tuple #[.int .i64 (wasteD d.copies : Nat), .int .i64 0]) ∧ Below X.heap.size X w' := by
  obtain ⟨b, mv, cv, pv, Cs, vs, es, h0, h1, h2, h3⟩ := h
  exact Waste_any b D d mv cv pv Cs vs es X h2 h1.play
theorem PSt.copies (h : PSt w D d F X) : Calls Try.prog 35 #[.pointer (some ⟨D, 0, none⟩)] X fun e w' => ∃ u es', e = .returned (.tuple #[u, .int .i64 0]) ∧ OCps X.heap.size w' u d.copies es' ∧ Rising es' ∧ Below X.heap.size X w' := by
  obtain ⟨b, mv, cv, pv, Cs, vs, es, h0, h1, h2, h3⟩ := h
  have hlo : d.loops.length ≤ 12 := by have := h1.len; have := h1.many; omega
  exact Copies_any b D d mv cv pv Cs vs es X h2 h1.play fun c hc => by
    have := h1.each c hc
    omega
end

theorem kept_cell {S : Nat → Prop} {X Y : World} (h : KeptBut S X Y) {p : Addr} (hp : p.block < X.heap.size) (hs : ¬ S p.block) : Y.cell? p = X.cell? p := World.cell?_of_block (h.block _ hp hs)
/-- The reference's desk; P are its blocks. -/
def QSt (mp ml pc : Value) (d : DeskD) (P : Nat → Prop) (X : World) : Prop :=
  (∀ k, P k → k < X.heap.size) ∧ ∃ es, ∀ Y : World, (∀ p : Addr, P p.block → Y.cell? p = X.cell? p) → X.heap.size ≤ Y.heap.size → RDesk Y.heap.size Y mp ml pc d es
section
variable {X Y : World} {mp ml pc : Value} {d : DeskD} {P S : Nat → Prop}
theorem QSt.keep (h : QSt mp ml pc d P X) (hk : KeptBut S X Y) (hS : ∀ k, P k → ¬ S k) : QSt mp ml pc d P Y := by
  obtain ⟨h1, es, h2⟩ := h
  exact ⟨fun k hk' => Nat.lt_of_lt_of_le (h1 k hk') hk.size, es, fun Z hZ hs => h2 Z (fun p hp => (hZ p hp).trans (kept_cell hk (h1 _ hp) (hS _ hp))) (Nat.le_trans hk.size hs)⟩
theorem QSt.below (h : QSt mp ml pc d P X) (hb : Below X.heap.size X Y) : QSt mp ml pc d P Y := h.keep (S := fun _ => False) (KeptBut.of_below hb) fun _ _ => id
theorem QSt.desk (h : QSt mp ml pc d P X) : ∃ es, RDesk X.heap.size X mp ml pc d es := by
  obtain ⟨h1, es, h2⟩ := h
  exact ⟨es, h2 X (fun _ _ => rfl) (Nat.le_refl _)⟩
theorem QSt.start {w : World} {marks : List Int} {loops : List LoopD} {W lim : Int} (hm : RInts w.heap.size w mp marks) (hl : RLoops w.heap.size w ml loops) (hb : Below w.heap.size w X) : QSt mp ml (.slice none 0 0) (desk0 marks loops W lim) (fun k => k < w.heap.size) X :=
  ⟨fun k hk => Nat.lt_of_lt_of_le hk hb.size, [], fun Y hY hs => by
    have hc : ∀ p : Addr, p.block < w.heap.size → Y.cell? p = w.cell? p := fun p hp => (hY p hp).trans (hb.cell hp)
    have hz : w.heap.size ≤ Y.heap.size := Nat.le_trans hb.size hs
    exact ⟨(Rd.keep hm hc).more hz, (Rd.keep hl hc).more hz, Rd.nil, rfl, fun i c e hc => by simp [desk0] at hc⟩⟩
theorem own_agree {base k n : Nat} {e : TypeId} {v : Value} {xs : List Value} (h : X.ownsRow base e k v n xs) (hY : ∀ p : Addr, base ≤ p.block → p.block < X.heap.size → Y.cell? p = X.cell? p) (hs : X.heap.size ≤ Y.heap.size) : Rd Y.heap.size Y k v n xs := by
  obtain ⟨A, c, rfl, hl, hm, hr⟩ := Rd.own h (own_le h)
  refine ⟨A, c, rfl, hl, hm, fun h0 => ?_⟩
  obtain ⟨g, o, rfl, hg, hc⟩ := hr h0
  have hb := (h.lt g rfl).1
  exact ⟨g, o, rfl, Nat.lt_of_lt_of_le hg hs, fun j u hu => (hY ⟨g, o + j, none⟩ hb hg).trans (hc j u hu)⟩
theorem oints_agree {base : Nat} {v : Value} {l : List Int} (h : OInts base X v l) (hY : ∀ p : Addr, base ≤ p.block → p.block < X.heap.size → Y.cell? p = X.cell? p) (hs : X.heap.size ≤ Y.heap.size) : RInts Y.heap.size Y v l := own_agree h hY hs
end
/-- What the reference's Read returns, with its blocks. -/
def RRead (mp ml : Value) (d : DeskD) (P : Nat → Prop) (seen : List Int) (X : World) (e : Ending) (w' : World) : Prop :=
  ∃ (c : CopyD) (code : Int) (d' : DeskD) (pc' ue um : Value) (P' : Nat → Prop), e = .returned (.tuple #[.agg #[mp, ml, .int .i64 d.W, .int .i64 d.limit, pc'], .agg #[.bool c.good, .int .i64 c.shift, ue, um], .int .i64 code]) ∧ ReadIs d seen c code d' ∧
    QSt mp ml pc' d' P' w' ∧ (∀ k, P' k → P k ∨ (X.heap.size ≤ k ∧ k < w'.heap.size)) ∧ OInts X.heap.size w' ue c.errors ∧ OInts X.heap.size w' um c.moves ∧ Below X.heap.size X w'
end Go.Proofs.Ytffodgpafiifcaa
