/-
  Methods: says.
-/
import Derived.Laws.EntriesVeiled
import Derived.TacticsInMore
import Derived.OwnWalkIn
import Derived.WalkLawsBesides
import Derived.Deep.LoopGhost
import Derived.Test.YtlmpbmlbllndcaaMas
namespace Go.Proofs.Ytlmpbmlbllndcaa
open Go.RowKit Go.Shelf
attribute [local go_sem] Oper.semAt_some

theorem blk_grown {X Y : World} {b : Nat} {t : TypeId} {cs : Array Value} {row : Option Nat} {B : Nat} (h : Blk X b t cs) (hg : X.grownBy Y row) (hr : ∀ r, row = some r → B ≤ r ∧ ∃ o : Obj, X.heap[r]? = some o ∧ o.isCells = false) : Blk Y b t cs := by
  refine (hg.block b h.lt fun e => ?_).trans h
  obtain ⟨-, o, ho, hc⟩ := hr b e.symm
  have := h.symm.trans ho
  simp at this
  subst this
  cases hc
/-- The way out past the marks of ranges that deferred nothing. -/
theorem leaves_marks {F : Fence} {n : Nat} {P : Program} {fn : Func} {tmps : Array Value} {R : Ending → World → Prop} : ∀ (Ds : List Nat) (X : World), Ds.Nodup → (∀ D ∈ Ds, X.heap[D]? = some (.deferred (some []))) →
    (∀ Y, KeptBut (fun k => k ∈ Ds) X Y → LeavesIn F n P fn tmps R [] .returning Y) → LeavesInM F n P fn tmps R (Ds.map fun D => { target := .collected D, args := #[] }) .returning X
  | [], X, _, _, h => h X (KeptBut.refl _ _)
  | D :: Ds, X, hn, hD, h => by
    refine ⟨by simp, .inl ⟨D, _, rfl, run_takeDeferred (hD D (List.mem_cons_self ..)), ?_⟩⟩
    obtain ⟨hn1, hn2⟩ := List.nodup_cons.1 hn
    have hk : KeptBut (fun k => k = D) X (X.putObj D (.deferred none)) := KeptBut.grown (grownBy_putObj' X D _) fun k e => by cases e; rfl
    refine leaves_marks Ds _ hn2 (fun D' hD' => (hk.block D' (Array.getElem?_eq_some_iff.1 (hD D' (List.mem_cons_of_mem _ hD'))).1 (by rintro rfl; exact hn1 hD')).trans (hD D' (List.mem_cons_of_mem _ hD'))) fun Y hY => h Y ?_
    exact (hk.mono fun i _ hi => by subst hi; exact List.mem_cons_self ..).trans hY fun i _ hi => List.mem_cons_of_mem _ hi
theorem wpOpIn_list {F : Fence} {n i : Nat} {P : Program} {ops : Array Oper} {Q : Exit → Act → World → Prop} {K : Act → World → Prop} {a : Act} {w : World} {o : Oper} (ho : ops[i]? = some o) (h : wpListIn F n P ops (Exit.then K Q) [o] a w) : wpOpIn F n P ops Q i K a w := by
  unfold wpOpIn
  rw [ho]
  unfold wpListIn at h
  show if _ then _ else _
  split at h
  · rename_i hw
    rw [if_pos hw]
    unfold Oper.wpIn at h ⊢
    refine ⟨h.1, ?_⟩
    have h2 := h.2
    generalize (o.semAt F.round a.eval).run P w = r at *
    cases r with
    | ok x w' =>
      cases x <;> simp only [Oper.uponIn] at h2 ⊢ <;>
        first
          | exact h2
          | exact ⟨h2.1, CallsIn.mono h2.2 (fun e w'' he => by cases e <;> exact he)⟩
          | exact ⟨h2.1, RowsIn.mono h2.2 (fun _ _ he => he)⟩
          | exact ⟨h2.1, RoundIn.mono h2.2 (fun e w'' he => by cases e <;> exact he)⟩
    | halt x w' => cases x <;> simp only [Oper.uponIn] at h2 ⊢ <;> exact h2
  · rename_i hw
    rw [if_neg hw]
    exact h
theorem wpIn_code {F : Fence} {n : Nat} {P : Program} {c d : Code} {Q : Exit → Act → World → Prop} {a : Act} {w : World} (h : c = d) (hh : d.wpIn F n P Q a w) : c.wpIn F n P Q a w := h ▸ hh
theorem wp_code {P : Program} {c d : Code} {Q : Exit → Act → World → Prop} {a : Act} {w : World} (h : c = d) (hh : d.wp P Q a w) : c.wp P Q a w := h ▸ hh
theorem wpAnyIn_list {F : Fence} {n f : Nat} {P : Program} {md : Region.Mode} {ops : Array Oper} {Q : Exit → Act → World → Prop} {listed : Array Bool} {a : Act} {w : World} {rs : List Nat} (h : Region.ready md ops listed = rs) (hne : rs ≠ []) (hh : ∀ i ∈ rs, wpOpIn F n P ops Q i (wpAnyIn F n P md ops Q f (listed.setIfInBounds i true)) a w) : wpAnyIn F n P md ops Q (f + 1) listed a w :=
  ⟨fun h0 => absurd (h.symm.trans h0) hne, fun i hi => hh i (h ▸ hi)⟩

theorem sliceSales : Try.prog.underlying 202 = some (.slice 3) := by kernel_rfl
theorem looks_any (m : MethD) (day : Int) (w : World) : Calls Try.prog 122 #[.agg #[.int .i64 m.kind, .int .i64 m.days], .int .i64 day] w fun e w' => e = .returned (.func (.func 144) #[] #[.pointer (some ⟨w.heap.size, 0, none⟩), .pointer (some ⟨w.heap.size + 1, 0, none⟩)]) ∧ (w.alloc (.cells #[.int .i64 m.kind, .int .i64 m.days] 56)).alloc (.cells #[.int .i64 day] 3) = w' := by
  go_enter Try.func122, Try.ntmps122
  go_wp2
  go_ret
  exact ⟨rfl, rfl⟩
theorem keepsO_below {A B : World} (h : Below A.heap.size A B) : KeepsOthers A B := ⟨h.size, fun k o hk _ => (h.block k (Array.getElem?_eq_some_iff.1 hk).1).trans hk⟩
/-- What lies there while a method looks. -/
structure SaSt (w : World) (m : MethD) (u : Value) (Lb rb : Nat) (acc : List Int) (X : World) : Prop where
  low : Below w.heap.size w X
  meth : Blk X w.heap.size 56 #[.int .i64 m.kind, .int .i64 m.days]
  hist : Blk X (w.heap.size + 1) 22 #[u]
  at_ : w.heap.size + 1 < Lb ∧ Lb < rb
  row : ∃ v, Blk X Lb 202 #[v] ∧ OInts rb X v acc
theorem SaSt.below {w : World} {m : MethD} {u : Value} {Lb rb : Nat} {acc : List Int} {X Y : World} (h : SaSt w m u Lb rb acc X) (hb : Below X.heap.size X Y) : SaSt w m u Lb rb acc Y := by
  obtain ⟨h1, h2, h3, h4, v, h5, h6⟩ := h
  exact ⟨h1.trans (hb.mono h1.size), h2.below hb h2.lt, h3.below hb h3.lt, h4, v, h5.below hb h5.lt, ownsRow_below h6 hb⟩
theorem SaSt.grown {w : World} {m : MethD} {u : Value} {Lb rb : Nat} {acc : List Int} {X Y : World} {row : Option Nat} {B : Nat} (h : SaSt w m u Lb rb acc X) (hg : X.grownBy Y row) (hr : ∀ r, row = some r → B ≤ r ∧ ∃ o : Obj, X.heap[r]? = some o ∧ o.isCells = false) (hB : w.heap.size ≤ B) : SaSt w m u Lb rb acc Y := by
  obtain ⟨h1, h2, h3, h4, v, h5, h6⟩ := h
  refine ⟨h1.grown hg h1.size (fun j hj => by have := (hr j hj).1; omega), blk_grown h2 hg hr, blk_grown h3 hg hr, h4, v, blk_grown h5 hg hr, ?_⟩
  refine ownsRow_keptBut h6 (KeptBut.grown (S := fun k => some k = row) hg fun k hk => hk) fun g cs _ hB' e => ?_
  obtain ⟨-, o, ho, hc⟩ := hr g e.symm
  have := hB'.symm.trans ho
  simp at this
  subst this
  cases hc
/-- A number put behind the others in a round: what stays, beside. -/
theorem SaSt.app {w : World} {m : MethD} {u : Value} {Lb rb Mb Db : Nat} {acc : List Int} {Y Z : World} {v v' : Value} {a : Int} (h : SaSt w m u Lb rb acc Y) (hv : Blk Y Lb 202 #[v]) (hO : OInts rb Y v acc) (hM : ∃ cs, Blk Y Mb 56 cs) (hD : Db < Y.heap.size ∧ Db ≠ Lb ∧ some Db ≠ v.ownBlock)
    (hg : Y.grownBy Z v.ownBlock) (ho : Z.ownsRow rb 3 1 v' (acc.length + 1) (acc.map (Value.int .i64) ++ [.int .i64 a])) :
    KeepsOthers Y (Z.setCell ⟨Lb, 0, none⟩ v') ∧ KpM w.heap.size Mb Db Y (Z.setCell ⟨Lb, 0, none⟩ v') ∧ SaSt w m u Lb rb (acc ++ [a]) (Z.setCell ⟨Lb, 0, none⟩ v') := by
  obtain ⟨h1, h2, h3, h4, -⟩ := h
  have hS : ∀ k, some k = v.ownBlock → rb ≤ k ∧ ∃ cs, Blk Y k 3 cs := fun k hk => ownsRow_own hO hk.symm
  have hK1 : KeptBut (fun k => some k = v.ownBlock) Y Z := KeptBut.grown (S := fun k => some k = v.ownBlock) hg fun k hk => hk
  have hK : KeptBut (fun k => k = Lb ∨ some k = v.ownBlock) Y (Z.setCell ⟨Lb, 0, none⟩ v') :=
    (hK1.mono fun i _ hi => Or.inr hi).trans (KeptBut.setCell (S := fun k => k = Lb) rfl v') fun i _ hi => Or.inl hi
  have hZ : Blk Z Lb 202 #[v] := hK1.blk hv fun hk => by
    obtain ⟨-, cs', hB'⟩ := hS _ hk
    exact Blk.ne hv hB' (by decide) rfl
  have hlow : ∀ k, (k = Lb ∨ some k = v.ownBlock) → w.heap.size ≤ k := fun k hk => hk.elim (fun e => by omega) fun e => by have := (hS k e).1; omega
  have hkeep : ∀ b t cs, Blk Y b t cs → t ≠ 202 → t ≠ 3 → Blk (Z.setCell ⟨Lb, 0, none⟩ v') b t cs := fun b t cs hB h1 h2 => hK.blk hB fun e => by
    rcases e with rfl | e
    · exact Blk.ne hB hv h1 rfl
    · obtain ⟨-, cs', hB'⟩ := hS _ e
      exact Blk.ne hB hB' h2 rfl
  refine ⟨⟨hK.size, fun k o hk hc => (hK.block k (Array.getElem?_eq_some_iff.1 hk).1 fun hk' => ?_).trans hk⟩, ⟨hK.below hlow h1.size, ?_, ?_⟩, h1.trans (hK.below hlow h1.size), hkeep _ _ _ h2 (by decide) (by decide), hkeep _ _ _ h3 (by decide) (by decide), h4, v', hZ.put 0 v', ?_⟩
  · rcases hk' with rfl | hk'
    · have := hk.symm.trans hv
      simp at this
      subst this
      cases hc
    · obtain ⟨-, cs', hB'⟩ := hS k hk'
      have := hk.symm.trans hB'
      simp at this
      subst this
      cases hc
  · obtain ⟨cs, hM⟩ := hM
    exact (hkeep _ _ _ hM (by decide) (by decide)).trans hM.symm
  · exact hK.block Db hD.1 fun e => by
      rcases e with e | e
      · exact hD.2.1 e
      · exact hD.2.2 e
  · have ho' : OInts rb Z v' (acc ++ [a]) := by
      unfold OInts
      rw [List.length_append, List.map_append]
      exact ho
    refine ownsRow_keptBut ho' (KeptBut.setCell (S := fun k => k = Lb) rfl v') fun g cs _ hB e => ?_
    subst e
    exact Blk.ne hB hZ (by decide) rfl
set_option maxRecDepth 1000000 in
set_option maxHeartbeats 4000000 in
theorem says_any (m : MethD) (hm : m.okB = true) (l : List DayD) (hl : l.length ≤ 400) (hd : ∀ d ∈ l, d.ok) (day : Int) (hday : 0 ≤ day ∧ day ≤ l.length) (v : Value) (w : World) (h : RDays w.heap.size w v l) :
    Calls Try.prog 81 #[.agg #[.int .i64 m.kind, .int .i64 m.days], v, .int .i64 day] w fun e w' => e = .returned (.tuple #[.int .i64 (if m.says day then m.said l day else 0), .bool (m.says day)]) ∧ Below w.heap.size w w' := by
  obtain ⟨A, c, rfl, hlm, HD⟩ := days_later h
  obtain ⟨n, hn⟩ : ∃ n, l.length = n := ⟨_, rfl⟩
  rw [hn] at hlm hl hday ⊢
  have HN := Lib.hid hn
  obtain ⟨mk, md, mc⟩ := m.ok_bd hm
  have hab := m.apart_bd
  obtain ⟨sb, hsb⟩ : ∃ b, m.says day = b := ⟨_, rfl⟩
  have HSB : Hid (decide (day < m.days * m.apart) = !sb) := by show _ = _; rw [← hsb]; unfold MethD.says; simp
  have hpb : 0 ≤ m.days * m.apart ∧ m.days * m.apart ≤ 420 := ⟨Int.mul_nonneg (by omega) (by omega), Int.le_trans (Int.mul_le_mul (show m.days ≤ 60 by omega) (show m.apart ≤ 7 by omega) (by omega) (by omega)) (by omega)⟩
  have F0 : ∃ W0, (w.alloc (.cells #[.int .i64 m.kind, .int .i64 m.days] 56)).alloc (.cells #[.slice A n c] 22) = W0 ∧ Hid (Below w.heap.size w W0) ∧ Hid (Blk W0 w.heap.size 56 #[.int .i64 m.kind, .int .i64 m.days] ∧ Blk W0 (w.heap.size + 1) 22 #[.slice A n c]) :=
    ⟨_, rfl, sbelow_al (below_alloc _ _) _, (Blk.new _ _ _).alloc _, blk_new (by simp) _ _⟩
  obtain ⟨W0, e0, HB0, HK0⟩ := F0
  have E0 := Lib.hid e0
  have CA := Lib.hid (fun w => apart_any m w)
  obtain ⟨ap, hap⟩ : ∃ a, m.apart = a := ⟨_, rfl⟩
  rw [hap] at CA HSB hpb hab
  have HAP := Lib.hid hap
  obtain ⟨kd, hkd⟩ : ∃ k, m.kind = k := ⟨_, rfl⟩
  obtain ⟨dd, hdd⟩ : ∃ k, m.days = k := ⟨_, rfl⟩
  have HKD := Lib.hid hkd
  have HDD := Lib.hid hdd
  rw [hkd] at mk mc HK0 CA ⊢
  rw [hdd] at md mc HK0 CA HSB hpb ⊢
  rw [hkd, hdd] at E0
  rw [hsb]
  have HSO : Hid (∀ x ∈ l, ∀ W : World, Calls Try.prog 115 #[.agg #[.int .i64 x.sup, .int .i64 x.ret]] W fun e w' => e = .returned (.int .i64 x.sold) ∧ Below W.heap.size W w') := fun x hx W => sold_any x (hd x hx) W
  have HDO := Lib.hid hd
  have HMO := Lib.hid hm
  have HSAY := Lib.hid hsb
  obtain ⟨p, hp⟩ : ∃ p, w.heap.size = p := ⟨_, rfl⟩
  have HP := Lib.hid hp
  have S0 : Hid (∀ X, Below W0.heap.size W0 X → X.cell? ⟨p, 0, none⟩ = some (.int .i64 kd) ∧ X.cell? ⟨p, 1, none⟩ = some (.int .i64 dd)) := fun X hX => by
    have h := HK0.out.1.below hX HK0.out.1.lt
    rw [HP.out] at h
    exact ⟨cellOf h 0 rfl, cellOf h 1 rfl⟩
  clear h hn hd hm hsb e0 hap hkd hdd hp
  refine (callsIn_wide (n := 10)).1 ?_
  refine callsIn_of_wp_marks Try.func81 rfl trivial ?_ rfl
  simp only [Try.ntmps81, List.size_toArray, List.length_cons, List.length_nil, Nat.reduceAdd, Nat.reduceSub, Array.replicate_succ, Array.replicate_zero, List.push_toArray, List.append_toArray, List.nil_append, List.cons_append]
  refine wpIn_wide.2 ?_
  go_upto_region 1 with fail
  rw [E0.out]
  clear E0
  rw [HP.out]
  have S1 := S0.out W0 (Below.refl _ _)
  have kx : IntKind.i64.wrap (dd * ap) = dd * ap := IntWalk.i64_in _ ⟨by omega, by omega⟩
  go_cut [17] from 11 to 17 (fun q wx => q = .bool (!sb) ∧ Hid (Below W0.heap.size W0 wx))
  case first =>
    have HD0 : Hid (Below W0.heap.size W0 W0.drew) := (Below.refl _ _).drew
    have hsq := HSB.out
    go_region_held3 (fun X => X.cell? ⟨p, 0, none⟩ = some (.int .i64 kd) ∧ X.cell? ⟨p, 1, none⟩ = some (.int .i64 dd)) (first | with_reducible exact T1 | with_reducible exact S1 | go_keep)
      (first | (go_at_call 121; with_reducible refine (CA.out _).mono ?_; rintro _ y1 ⟨rfl, hb1⟩; have H1 := Lib.hid (HD0.out.trans (hb1.mono HD0.out.size)); have T1 := S0.out y1 H1.out; clear hb1))
    all_goals
      clear S1 kx
      go_wp2_with fail
      go_meet
      exact ⟨rfl, H1⟩
  case rest =>
  clear S1 kx
  obtain ⟨rfl, HB1⟩ := hcut
  obtain ⟨W1, rfl⟩ : ∃ X : World, X = wc := ⟨_, rfl⟩
  cases sb
  · have HBW : Hid (Below w.heap.size w W1) := HB0.out.trans (HB1.out.mono HB0.out.size)
    go_wp2_with fail
    refine leaves_marks [] W1 List.nodup_nil (fun _ h => by cases h) fun Z hZ => ⟨.tuple #[.int .i64 0, .bool false], by simp [results, Try.results81, go_sem], rfl, ?_⟩
    exact HBW.out.trans ((hZ.below (fun k hk => by cases hk) (Nat.le_refl _)).mono HBW.out.size)
  have HBW1 : Hid (Below w.heap.size w W1) := HB0.out.trans (HB1.out.mono HB0.out.size)
  have F2 : ∃ W2, W1.alloc (.cells #[.slice none 0 0] 202) = W2 ∧ Hid (Below W1.heap.size W1 W2) ∧ Hid (Blk W2 W1.heap.size 202 #[.slice none 0 0]) := ⟨_, rfl, below_alloc _ _, Blk.new _ _ _⟩
  obtain ⟨W2, e2, HX2, HK2⟩ := F2
  have E2 := Lib.hid e2
  have HLK := Lib.hid (looks_any m day W2)
  rw [HKD.out, HDD.out] at HLK
  have F3 : ∃ W3, (W2.alloc (.cells #[.int .i64 kd, .int .i64 dd] 56)).alloc (.cells #[.int .i64 day] 3) = W3 ∧ Hid (Below W2.heap.size W2 W3) ∧ Hid (Blk W3 W2.heap.size 56 #[.int .i64 kd, .int .i64 dd] ∧ Blk W3 (W2.heap.size + 1) 3 #[.int .i64 day]) :=
    ⟨_, rfl, sbelow_al (below_alloc _ _) _, (Blk.new _ _ _).alloc _, blk_new (by simp) _ _⟩
  obtain ⟨W3, e3, HX3, HK3⟩ := F3
  rw [e3] at HLK
  have HS3 : Hid (SaSt w m (.slice A n c) W1.heap.size W3.heap.size [] W3) := by
    have h1 : Below W0.heap.size W0 W3 := HB1.out.trans ((HX2.out.trans (HX3.out.mono HX2.out.size)).mono HB1.out.size)
    refine ⟨HB0.out.trans (h1.mono HB0.out.size), ?_, HK0.out.2.below h1 HK0.out.2.lt, ⟨Nat.lt_of_lt_of_le HK0.out.2.lt HB1.out.size, Nat.lt_of_lt_of_le HK2.out.lt HX3.out.size⟩, _, HK2.out.below HX3.out HK2.out.lt, World.ownsRow_nil _ _ _ _⟩
    rw [HKD.out, HDD.out]
    exact HK0.out.1.below h1 HK0.out.1.lt
  have HW3 : Hid (w.heap.size ≤ W3.heap.size) := HS3.out.low.size
  have HDL : Hid (W2.heap.size + 1 < W3.heap.size) := HK3.out.2.lt
  have HML : Hid (W2.heap.size < W3.heap.size ∧ W1.heap.size < W2.heap.size) := ⟨HK3.out.1.lt, HK2.out.lt⟩
  obtain ⟨z0, z1⟩ := S0.out W2 (HB1.out.trans (HX2.out.mono HB1.out.size))
  obtain ⟨Lb, hLb⟩ : ∃ b, W1.heap.size = b := ⟨_, rfl⟩
  rw [hLb] at HS3 HML
  have HLB := Lib.hid hLb
  obtain ⟨M, hMq⟩ : ∃ b, W2.heap.size = b := ⟨_, rfl⟩
  rw [hMq] at HLK HK3 HDL HML
  obtain ⟨rb, hrb⟩ : ∃ b, W3.heap.size = b := ⟨_, rfl⟩
  have HRB := Lib.hid hrb
  have hfo : m.days * m.apart ≤ day ∧ day ≤ n := by
    have h1 := HSB.out
    rw [HAP.out, HDD.out]
    simp at h1
    omega
  have HN0 : Hid (0 < n) := by
    have h1 := hfo.1
    rw [HAP.out, HDD.out] at h1
    have h2 : 1 * 1 ≤ dd * ap := Int.mul_le_mul (by omega) (by omega) (by omega) (by omega)
    show 0 < n
    omega
  have hseq := looks_stops n hl 9 (by omega) m HMO.out day hfo M (M + 1) w.heap.size W3 HW3.out (by rw [HKD.out, HDD.out]; exact HK3.out.1) HK3.out.2
  have HLS : Hid ((looksS n m day m.days.toNat).map (fun z : Dy n => soldAt l z.1) = lookL m l day) := by
    show _ = _
    unfold looksS lookL lookTo
    rw [List.map_map]
    refine List.map_congr_left fun i hi => ?_
    have h1 := looks_bd (k := i) hfo.1 hfo.2 (by have := List.mem_range.1 hi; omega)
    show soldAt l (dyS n _).1 = _
    rw [dyS_val h1.1]
  have HSD : Hid (∀ y : Dy n, 0 < n → ∃ x, l[y.1.toNat]? = some x ∧ soldAt l y.1 = x.sold) := fun y hy => by
    have h1 := y.2
    have h2 : y.1.toNat < l.length := by rw [HN.out]; omega
    exact ⟨_, List.getElem?_eq_getElem h2, by unfold soldAt; rw [List.getElem?_eq_getElem h2]; rfl⟩
  clear e2 e3 hLb hMq hfo HX2 HX3 HK2
  go_upto_region 4 with fail
  rw [E2.out, HLB.out]
  clear E2
  go_wp2_with fail
  refine HLK.out.mono ?_
  rintro _ _ ⟨rfl, rfl⟩
  clear HLK z0 z1
  go_wp2_with fail
  have hMl := HML.out
  have hDl := HDL.out
  refine (wpIn_wide (n := 10)).1 ?_
  refine wpIn_rangeFunc_ownF rfl (by omega) (gf := 144) (lb := #[.pointer (some ⟨M, 0, none⟩), .pointer (some ⟨M + 1, 0, none⟩)]) rfl trivial (enters_of Try.func144 (by kernel_rfl) rfl)
    hseq KpM.trans (KpM.putObj HW3.out hMl.1 hDl) (Below.refl _ _) (fun _ => rfl)
    (fun pre Y => Hid (SaSt w m (.slice A n c) Lb W3.heap.size (pre.map (fun z : Dy n => soldAt l z.1)) Y ∧ Blk Y M 56 #[.int .i64 kd, .int .i64 dd] ∧ Blk Y (M + 1) 3 #[.int .i64 day] ∧ W3.heap.size ≤ Y.heap.size)) (fun _ _ _ => False)
    (fun s A B row hs hg hr => ⟨hs.out.1.grown hg hr HW3.out, blk_grown hs.out.2.1 hg hr, blk_grown hs.out.2.2.1 hg hr, Nat.le_trans hs.out.2.2.2 hg.size⟩) (fun _ _ _ _ _ hs _ _ => hs) ⟨HS3.out, HK3.out.1, HK3.out.2, Nat.le_refl _⟩
    (fun y : Dy n => { tmps := List.toArray ((.agg #[.int .i64 kd, .int .i64 dd]) :: (.slice A n c) :: (.int .i64 day) :: (.pointer (some ⟨p, 0, none⟩)) :: (.pointer (some ⟨p + 1, 0, none⟩)) :: undef :: (.int .i64 0) :: (.bool false) :: (.pointer (some ⟨Lb, 0, none⟩)) :: (.int .i64 y.1) :: undef :: u11 :: u12 :: u13 :: u14 :: u15 :: u16 :: (.bool false) :: (.agg #[.int .i64 kd, .int .i64 dd]) :: (.int .i64 day) :: (.func (.func 144) #[] #[.pointer (some ⟨M, 0, none⟩), .pointer (some ⟨M + 1, 0, none⟩)]) :: (.int .i64 y.1) :: undef :: undef :: undef :: undef :: undef :: undef :: undef :: undef :: undef :: undef :: undef :: undef :: undef :: undef :: undef :: []), defers := [] }) ?assign ?body ?done ?stop
  case assign =>
    intro l9 y Y K hK
    gi_wp2
    exact hK
  case body =>
    rintro l9 pre y Y hst9 hlen
    have hst := hst9.out
    obtain ⟨acc, hacc⟩ : ∃ a, pre.map (fun z : Dy n => soldAt l z.1) = a := ⟨_, rfl⟩
    rw [hacc] at hst
    have hmap : (pre ++ [y]).map (fun z : Dy n => soldAt l z.1) = acc ++ [soldAt l y.1] := by rw [List.map_append, hacc]; rfl
    have hal : acc.length ≤ 60 := by rw [← hacc, List.length_map]; omega
    have hn0 : 0 < n := HN0.out
    obtain ⟨x, hx, hxs⟩ := HSD.out y hn0
    obtain ⟨v, hv, hO⟩ := hst.1.row
    obtain ⟨Av, cv, rfl⟩ := ownsRow_form hO
    obtain ⟨g, o, rfl, HX⟩ := HD.out _ x hx
    have HST := Lib.hid hst.1
    obtain ⟨yi, hyi⟩ : ∃ k : Nat, y.1 = (k : Int) := ⟨y.1.toNat, by have := y.2; omega⟩
    have hyn : yi < n := by have := y.2; omega
    have hyt : y.1.toNat = yi := by omega
    rw [hyt] at HX
    have HSOY := Lib.hid (HSO.out x (List.mem_of_getElem? hx))
    obtain ⟨s, hs⟩ : ∃ s, x.sold = s := ⟨_, rfl⟩
    rw [hs] at HSOY hxs
    rw [hxs] at hmap
    have hVB := Lib.hid (hst.1.below (Y := Y) (Below.refl _ _))
    have HBV : Hid (Blk Y Lb 202 #[.slice Av acc.length cv]) := hv
    have HO : Hid (∀ Z, Below Y.heap.size Y Z → Z.ownsRow W3.heap.size 3 1 (.slice Av acc.length cv) acc.length (acc.map (Value.int .i64))) := fun Z hZ => ownsRow_below hO hZ
    have HZ : Hid (∀ Z, Below Y.heap.size Y Z → W3.heap.size ≤ Z.heap.size) := fun Z hZ => Nat.le_trans hst.2.2.2 hZ.size
    have hBM := Lib.hid hst.2.1
    have hBD := Lib.hid hst.2.2.1
    have hWY := hst.2.2.2
    have hDlt : M + 1 < W3.heap.size := HDL.out
    have HAp : Hid (∀ (W Z : World) (v' : Value), Below Y.heap.size Y W → W.grownBy Z (Value.slice Av acc.length cv).ownBlock → Z.ownsRow W3.heap.size 3 1 v' (acc.length + 1) (acc.map (Value.int .i64) ++ [.int .i64 s]) → Hid (KeepsOthers Y (Z.setCell ⟨Lb, 0, none⟩ v') ∧ KpM w.heap.size M (M + 1) Y (Z.setCell ⟨Lb, 0, none⟩ v') ∧ Hid (SaSt w m (.slice (some ⟨g, o, none⟩) n c) Lb W3.heap.size ((pre ++ [y]).map (fun z : Dy n => soldAt l z.1)) (Z.setCell ⟨Lb, 0, none⟩ v') ∧ Blk (Z.setCell ⟨Lb, 0, none⟩ v') M 56 #[.int .i64 kd, .int .i64 dd] ∧ Blk (Z.setCell ⟨Lb, 0, none⟩ v') (M + 1) 3 #[.int .i64 day] ∧ W3.heap.size ≤ (Z.setCell ⟨Lb, 0, none⟩ v').heap.size)) ∧ (Z.cell? ⟨Lb, 0, none⟩ = some (.slice Av acc.length cv) ∧ Z.frozen? ⟨Lb, 0, none⟩ = false)) := fun W Z v' hW hg ho => by
      have hBW : Blk W Lb 202 #[.slice Av acc.length cv] := HBV.out.below hW HBV.out.lt
      have hOW : OInts W3.heap.size W (.slice Av acc.length cv) acc := HO.out W hW
      have hne : some (M + 1) ≠ (Value.slice Av acc.length cv).ownBlock := fun e => by
        have := (ownsRow_own hOW e.symm).1
        omega
      have hML := HML.out.2
      obtain ⟨k1, k2, k3⟩ := (HST.out.below hW).app (Mb := M) (Db := M + 1) hBW hOW ⟨_, hBM.out.below hW hBM.out.lt⟩ ⟨(hBD.out.below hW hBD.out.lt).lt, by omega, hne⟩ hg ho
      have hZ : Blk Z Lb 202 #[.slice Av acc.length cv] := by
        refine (hg.block _ hBW.lt fun e => ?_).trans hBW
        obtain ⟨-, cs, hB⟩ := ownsRow_own hOW e.symm
        exact Blk.ne hBW hB (by decide) rfl
      rw [hmap]
      have kp : KpM w.heap.size M (M + 1) Y (Z.setCell ⟨Lb, 0, none⟩ v') := KpM.trans ⟨hW.mono HST.out.low.size, hW.block _ hBM.out.lt, hW.block _ hBD.out.lt⟩ k2
      exact ⟨⟨KeepsOthers.trans (keepsO_below hW) k1, kp, k3, kp.2.1.trans hBM.out, kp.2.2.trans hBD.out, Nat.le_trans hWY kp.1.size⟩, cellOf hZ 0 rfl, hZ.frozen 0⟩
    have HF : Hid (∀ Z, Below Y.heap.size Y Z → Z.cell? ⟨Lb, 0, none⟩ = some (.slice Av acc.length cv) ∧ Z.cell? ⟨p + 1, 0, none⟩ = some (.slice (some ⟨g, o, none⟩) n c) ∧ Lb < Z.heap.size ∧ Z.frozen? ⟨Lb, 0, none⟩ = false) := fun Z hZ => by
      have h1 := HBV.out.below hZ HBV.out.lt
      have h2 := (HST.out.below hZ).hist
      rw [HP.out] at h2
      exact ⟨cellOf h1 0 rfl, cellOf h2 0 rfl, h1.lt, h1.frozen 0⟩
    have HD0 : Hid (Below Y.heap.size Y Y.drew) := (Below.refl _ _).drew
    obtain ⟨c0, c1⟩ := HX.out Y HST.out.low
    obtain ⟨x0, x1, x2, x3⟩ := HF.out Y (Below.refl _ _)
    obtain ⟨i0, hi0, hz0, hz1, hz2⟩ := info_parts infoInt0
    have y0 : (0 : Int) ≤ (yi : Int) := by omega
    have y1' : (yi : Int) < (n : Int) := by omega
    rw [hyi]
    clear hst9 hst hacc hmap hx hxs hv hO HX hyt hs hVB hn0 hDlt hWY
    gi_upto_region 6 with fail
    refine wpIn_region_any (by kernel_rfl) ?_
    try (change wpAnyIn _ _ _ _ _ _ _ _ _ (World.drew _))
    refine wpAnyIn_list (rs := [0, 1, 2]) (by kernel_rfl) (by simp) ?_
    refine List.forall_mem_cons.2 ⟨?_, List.forall_mem_cons.2 ⟨?_, List.forall_mem_cons.2 ⟨?_, fun _ h => nomatch h⟩⟩⟩
    · skip
      refine wpOpIn_list (i := 0) rfl ?_
      gi_wp2_with fail
      refine wpAnyIn_list (rs := [1, 2]) (by kernel_rfl) (by simp) ?_
      refine List.forall_mem_cons.2 ⟨?_, List.forall_mem_cons.2 ⟨?_, fun _ h => nomatch h⟩⟩
      · skip
        refine wpOpIn_list (i := 1) rfl ?_
        gi_wp2_with fail
        refine wpAnyIn_list (rs := [2]) (by kernel_rfl) (by simp) ?_
        refine List.forall_mem_cons.2 ⟨?_, fun _ h => nomatch h⟩
        refine wpOpIn_list (i := 2) rfl ?_
        gi_wp2_with fail
        refine wpAnyIn_list (rs := [3]) (by kernel_rfl) (by simp) ?_
        refine List.forall_mem_cons.2 ⟨?_, fun _ h => nomatch h⟩
        refine wpOpIn_list (i := 3) rfl ?_
        gi_wp2_with fail
        refine wpAnyIn_list (rs := [4]) (by kernel_rfl) (by simp) ?_
        refine List.forall_mem_cons.2 ⟨?_, fun _ h => nomatch h⟩
        refine wpOpIn_list (i := 4) rfl ?_
        gi_wp2_with fail
        refine wpAnyIn_list (rs := [5]) (by kernel_rfl) (by simp) ?_
        refine List.forall_mem_cons.2 ⟨?_, fun _ h => nomatch h⟩
        refine wpOpIn_list (i := 5) rfl ?_
        gi_wp2_with fail
        refine ⟨trivial, (CallsIn.inRound l9 (callsIn_wide.2 (HSOY.out _))).mono ?_⟩
        rintro _ y1 ⟨rfl, hb1⟩
        have H1 : Hid (Below Y.heap.size Y y1) := HD0.out.trans (hb1.mono HD0.out.size)
        obtain ⟨x0, x1, x2, x3⟩ := HF.out y1 H1.out
        clear hb1
        gi_wp2_with fail
        refine wpAnyIn_list (rs := [6]) (by kernel_rfl) (by simp) ?_
        refine List.forall_mem_cons.2 ⟨?_, fun _ h => nomatch h⟩
        refine wpOpIn_list (i := 6) rfl ?_
        gi_wp2_with fail
        refine wpAnyIn_list (rs := [7]) (by kernel_rfl) (by simp) ?_
        refine List.forall_mem_cons.2 ⟨?_, fun _ h => nomatch h⟩
        refine wpOpIn_list (i := 7) rfl ?_
        refine wpListIn_append_own _ rfl _ _ 202 rfl W3.heap.size 3 i0 _ 1 8 sliceSales hi0 hz0 hz1 hz2 rfl (by decide) (.slice Av acc.length cv) acc.length (acc.map (Value.int .i64)) rfl (HO.out _ (sbelow_al H1.out _)) ⟨y1.heap.size, 0, none⟩ 1 1 [.int .i64 s] rfl rfl (cells_new _ _ _) (by simp [Value.oneCell']) (by simp only [maxLen]; omega) (by omega) (HZ.out _ (sbelow_al H1.out _)) ?_
        intro v2' w10 hown' hgro _
        obtain ⟨Av2, cv2, rfl⟩ := ownsRow_form hown'
        obtain ⟨hfin, q0, q1⟩ := HAp.out _ _ _ (sbelow_al H1.out _) hgro hown'
        clear hown' hgro
        gi_wp2_with fail
        refine wpAnyIn_list (rs := [8]) (by kernel_rfl) (by simp) ?_
        refine List.forall_mem_cons.2 ⟨?_, fun _ h => nomatch h⟩
        refine wpOpIn_list (i := 8) rfl ?_
        gi_wp2_with fail
        refine wpAnyIn_done (by kernel_rfl) ?_ _
        exact hfin.out
      · skip
        refine wpOpIn_list (i := 2) rfl ?_
        gi_wp2_with fail
        refine wpAnyIn_list (rs := [1]) (by kernel_rfl) (by simp) ?_
        refine List.forall_mem_cons.2 ⟨?_, fun _ h => nomatch h⟩
        refine wpOpIn_list (i := 1) rfl ?_
        gi_wp2_with fail
        refine wpAnyIn_list (rs := [3]) (by kernel_rfl) (by simp) ?_
        refine List.forall_mem_cons.2 ⟨?_, fun _ h => nomatch h⟩
        refine wpOpIn_list (i := 3) rfl ?_
        gi_wp2_with fail
        refine wpAnyIn_list (rs := [4]) (by kernel_rfl) (by simp) ?_
        refine List.forall_mem_cons.2 ⟨?_, fun _ h => nomatch h⟩
        refine wpOpIn_list (i := 4) rfl ?_
        gi_wp2_with fail
        refine wpAnyIn_list (rs := [5]) (by kernel_rfl) (by simp) ?_
        refine List.forall_mem_cons.2 ⟨?_, fun _ h => nomatch h⟩
        refine wpOpIn_list (i := 5) rfl ?_
        gi_wp2_with fail
        refine ⟨trivial, (CallsIn.inRound l9 (callsIn_wide.2 (HSOY.out _))).mono ?_⟩
        rintro _ y1 ⟨rfl, hb1⟩
        have H1 : Hid (Below Y.heap.size Y y1) := HD0.out.trans (hb1.mono HD0.out.size)
        obtain ⟨x0, x1, x2, x3⟩ := HF.out y1 H1.out
        clear hb1
        gi_wp2_with fail
        refine wpAnyIn_list (rs := [6]) (by kernel_rfl) (by simp) ?_
        refine List.forall_mem_cons.2 ⟨?_, fun _ h => nomatch h⟩
        refine wpOpIn_list (i := 6) rfl ?_
        gi_wp2_with fail
        refine wpAnyIn_list (rs := [7]) (by kernel_rfl) (by simp) ?_
        refine List.forall_mem_cons.2 ⟨?_, fun _ h => nomatch h⟩
        refine wpOpIn_list (i := 7) rfl ?_
        refine wpListIn_append_own _ rfl _ _ 202 rfl W3.heap.size 3 i0 _ 1 8 sliceSales hi0 hz0 hz1 hz2 rfl (by decide) (.slice Av acc.length cv) acc.length (acc.map (Value.int .i64)) rfl (HO.out _ (sbelow_al H1.out _)) ⟨y1.heap.size, 0, none⟩ 1 1 [.int .i64 s] rfl rfl (cells_new _ _ _) (by simp [Value.oneCell']) (by simp only [maxLen]; omega) (by omega) (HZ.out _ (sbelow_al H1.out _)) ?_
        intro v2' w10 hown' hgro _
        obtain ⟨Av2, cv2, rfl⟩ := ownsRow_form hown'
        obtain ⟨hfin, q0, q1⟩ := HAp.out _ _ _ (sbelow_al H1.out _) hgro hown'
        clear hown' hgro
        gi_wp2_with fail
        refine wpAnyIn_list (rs := [8]) (by kernel_rfl) (by simp) ?_
        refine List.forall_mem_cons.2 ⟨?_, fun _ h => nomatch h⟩
        refine wpOpIn_list (i := 8) rfl ?_
        gi_wp2_with fail
        refine wpAnyIn_done (by kernel_rfl) ?_ _
        exact hfin.out
    · skip
      refine wpOpIn_list (i := 1) rfl ?_
      gi_wp2_with fail
      refine wpAnyIn_list (rs := [0, 2]) (by kernel_rfl) (by simp) ?_
      refine List.forall_mem_cons.2 ⟨?_, List.forall_mem_cons.2 ⟨?_, fun _ h => nomatch h⟩⟩
      · skip
        refine wpOpIn_list (i := 0) rfl ?_
        gi_wp2_with fail
        refine wpAnyIn_list (rs := [2]) (by kernel_rfl) (by simp) ?_
        refine List.forall_mem_cons.2 ⟨?_, fun _ h => nomatch h⟩
        refine wpOpIn_list (i := 2) rfl ?_
        gi_wp2_with fail
        refine wpAnyIn_list (rs := [3]) (by kernel_rfl) (by simp) ?_
        refine List.forall_mem_cons.2 ⟨?_, fun _ h => nomatch h⟩
        refine wpOpIn_list (i := 3) rfl ?_
        gi_wp2_with fail
        refine wpAnyIn_list (rs := [4]) (by kernel_rfl) (by simp) ?_
        refine List.forall_mem_cons.2 ⟨?_, fun _ h => nomatch h⟩
        refine wpOpIn_list (i := 4) rfl ?_
        gi_wp2_with fail
        refine wpAnyIn_list (rs := [5]) (by kernel_rfl) (by simp) ?_
        refine List.forall_mem_cons.2 ⟨?_, fun _ h => nomatch h⟩
        refine wpOpIn_list (i := 5) rfl ?_
        gi_wp2_with fail
        refine ⟨trivial, (CallsIn.inRound l9 (callsIn_wide.2 (HSOY.out _))).mono ?_⟩
        rintro _ y1 ⟨rfl, hb1⟩
        have H1 : Hid (Below Y.heap.size Y y1) := HD0.out.trans (hb1.mono HD0.out.size)
        obtain ⟨x0, x1, x2, x3⟩ := HF.out y1 H1.out
        clear hb1
        gi_wp2_with fail
        refine wpAnyIn_list (rs := [6]) (by kernel_rfl) (by simp) ?_
        refine List.forall_mem_cons.2 ⟨?_, fun _ h => nomatch h⟩
        refine wpOpIn_list (i := 6) rfl ?_
        gi_wp2_with fail
        refine wpAnyIn_list (rs := [7]) (by kernel_rfl) (by simp) ?_
        refine List.forall_mem_cons.2 ⟨?_, fun _ h => nomatch h⟩
        refine wpOpIn_list (i := 7) rfl ?_
        refine wpListIn_append_own _ rfl _ _ 202 rfl W3.heap.size 3 i0 _ 1 8 sliceSales hi0 hz0 hz1 hz2 rfl (by decide) (.slice Av acc.length cv) acc.length (acc.map (Value.int .i64)) rfl (HO.out _ (sbelow_al H1.out _)) ⟨y1.heap.size, 0, none⟩ 1 1 [.int .i64 s] rfl rfl (cells_new _ _ _) (by simp [Value.oneCell']) (by simp only [maxLen]; omega) (by omega) (HZ.out _ (sbelow_al H1.out _)) ?_
        intro v2' w10 hown' hgro _
        obtain ⟨Av2, cv2, rfl⟩ := ownsRow_form hown'
        obtain ⟨hfin, q0, q1⟩ := HAp.out _ _ _ (sbelow_al H1.out _) hgro hown'
        clear hown' hgro
        gi_wp2_with fail
        refine wpAnyIn_list (rs := [8]) (by kernel_rfl) (by simp) ?_
        refine List.forall_mem_cons.2 ⟨?_, fun _ h => nomatch h⟩
        refine wpOpIn_list (i := 8) rfl ?_
        gi_wp2_with fail
        refine wpAnyIn_done (by kernel_rfl) ?_ _
        exact hfin.out
      · skip
        refine wpOpIn_list (i := 2) rfl ?_
        gi_wp2_with fail
        refine wpAnyIn_list (rs := [0, 3]) (by kernel_rfl) (by simp) ?_
        refine List.forall_mem_cons.2 ⟨?_, List.forall_mem_cons.2 ⟨?_, fun _ h => nomatch h⟩⟩
        · skip
          refine wpOpIn_list (i := 0) rfl ?_
          gi_wp2_with fail
          refine wpAnyIn_list (rs := [3]) (by kernel_rfl) (by simp) ?_
          refine List.forall_mem_cons.2 ⟨?_, fun _ h => nomatch h⟩
          refine wpOpIn_list (i := 3) rfl ?_
          gi_wp2_with fail
          refine wpAnyIn_list (rs := [4]) (by kernel_rfl) (by simp) ?_
          refine List.forall_mem_cons.2 ⟨?_, fun _ h => nomatch h⟩
          refine wpOpIn_list (i := 4) rfl ?_
          gi_wp2_with fail
          refine wpAnyIn_list (rs := [5]) (by kernel_rfl) (by simp) ?_
          refine List.forall_mem_cons.2 ⟨?_, fun _ h => nomatch h⟩
          refine wpOpIn_list (i := 5) rfl ?_
          gi_wp2_with fail
          refine ⟨trivial, (CallsIn.inRound l9 (callsIn_wide.2 (HSOY.out _))).mono ?_⟩
          rintro _ y1 ⟨rfl, hb1⟩
          have H1 : Hid (Below Y.heap.size Y y1) := HD0.out.trans (hb1.mono HD0.out.size)
          obtain ⟨x0, x1, x2, x3⟩ := HF.out y1 H1.out
          clear hb1
          gi_wp2_with fail
          refine wpAnyIn_list (rs := [6]) (by kernel_rfl) (by simp) ?_
          refine List.forall_mem_cons.2 ⟨?_, fun _ h => nomatch h⟩
          refine wpOpIn_list (i := 6) rfl ?_
          gi_wp2_with fail
          refine wpAnyIn_list (rs := [7]) (by kernel_rfl) (by simp) ?_
          refine List.forall_mem_cons.2 ⟨?_, fun _ h => nomatch h⟩
          refine wpOpIn_list (i := 7) rfl ?_
          refine wpListIn_append_own _ rfl _ _ 202 rfl W3.heap.size 3 i0 _ 1 8 sliceSales hi0 hz0 hz1 hz2 rfl (by decide) (.slice Av acc.length cv) acc.length (acc.map (Value.int .i64)) rfl (HO.out _ (sbelow_al H1.out _)) ⟨y1.heap.size, 0, none⟩ 1 1 [.int .i64 s] rfl rfl (cells_new _ _ _) (by simp [Value.oneCell']) (by simp only [maxLen]; omega) (by omega) (HZ.out _ (sbelow_al H1.out _)) ?_
          intro v2' w10 hown' hgro _
          obtain ⟨Av2, cv2, rfl⟩ := ownsRow_form hown'
          obtain ⟨hfin, q0, q1⟩ := HAp.out _ _ _ (sbelow_al H1.out _) hgro hown'
          clear hown' hgro
          gi_wp2_with fail
          refine wpAnyIn_list (rs := [8]) (by kernel_rfl) (by simp) ?_
          refine List.forall_mem_cons.2 ⟨?_, fun _ h => nomatch h⟩
          refine wpOpIn_list (i := 8) rfl ?_
          gi_wp2_with fail
          refine wpAnyIn_done (by kernel_rfl) ?_ _
          exact hfin.out
        · skip
          refine wpOpIn_list (i := 3) rfl ?_
          gi_wp2_with fail
          refine wpAnyIn_list (rs := [0, 4]) (by kernel_rfl) (by simp) ?_
          refine List.forall_mem_cons.2 ⟨?_, List.forall_mem_cons.2 ⟨?_, fun _ h => nomatch h⟩⟩
          · skip
            refine wpOpIn_list (i := 0) rfl ?_
            gi_wp2_with fail
            refine wpAnyIn_list (rs := [4]) (by kernel_rfl) (by simp) ?_
            refine List.forall_mem_cons.2 ⟨?_, fun _ h => nomatch h⟩
            refine wpOpIn_list (i := 4) rfl ?_
            gi_wp2_with fail
            refine wpAnyIn_list (rs := [5]) (by kernel_rfl) (by simp) ?_
            refine List.forall_mem_cons.2 ⟨?_, fun _ h => nomatch h⟩
            refine wpOpIn_list (i := 5) rfl ?_
            gi_wp2_with fail
            refine ⟨trivial, (CallsIn.inRound l9 (callsIn_wide.2 (HSOY.out _))).mono ?_⟩
            rintro _ y1 ⟨rfl, hb1⟩
            have H1 : Hid (Below Y.heap.size Y y1) := HD0.out.trans (hb1.mono HD0.out.size)
            obtain ⟨x0, x1, x2, x3⟩ := HF.out y1 H1.out
            clear hb1
            gi_wp2_with fail
            refine wpAnyIn_list (rs := [6]) (by kernel_rfl) (by simp) ?_
            refine List.forall_mem_cons.2 ⟨?_, fun _ h => nomatch h⟩
            refine wpOpIn_list (i := 6) rfl ?_
            gi_wp2_with fail
            refine wpAnyIn_list (rs := [7]) (by kernel_rfl) (by simp) ?_
            refine List.forall_mem_cons.2 ⟨?_, fun _ h => nomatch h⟩
            refine wpOpIn_list (i := 7) rfl ?_
            refine wpListIn_append_own _ rfl _ _ 202 rfl W3.heap.size 3 i0 _ 1 8 sliceSales hi0 hz0 hz1 hz2 rfl (by decide) (.slice Av acc.length cv) acc.length (acc.map (Value.int .i64)) rfl (HO.out _ (sbelow_al H1.out _)) ⟨y1.heap.size, 0, none⟩ 1 1 [.int .i64 s] rfl rfl (cells_new _ _ _) (by simp [Value.oneCell']) (by simp only [maxLen]; omega) (by omega) (HZ.out _ (sbelow_al H1.out _)) ?_
            intro v2' w10 hown' hgro _
            obtain ⟨Av2, cv2, rfl⟩ := ownsRow_form hown'
            obtain ⟨hfin, q0, q1⟩ := HAp.out _ _ _ (sbelow_al H1.out _) hgro hown'
            clear hown' hgro
            gi_wp2_with fail
            refine wpAnyIn_list (rs := [8]) (by kernel_rfl) (by simp) ?_
            refine List.forall_mem_cons.2 ⟨?_, fun _ h => nomatch h⟩
            refine wpOpIn_list (i := 8) rfl ?_
            gi_wp2_with fail
            refine wpAnyIn_done (by kernel_rfl) ?_ _
            exact hfin.out
          · skip
            refine wpOpIn_list (i := 4) rfl ?_
            gi_wp2_with fail
            refine wpAnyIn_list (rs := [0, 5]) (by kernel_rfl) (by simp) ?_
            refine List.forall_mem_cons.2 ⟨?_, List.forall_mem_cons.2 ⟨?_, fun _ h => nomatch h⟩⟩
            · skip
              refine wpOpIn_list (i := 0) rfl ?_
              gi_wp2_with fail
              refine wpAnyIn_list (rs := [5]) (by kernel_rfl) (by simp) ?_
              refine List.forall_mem_cons.2 ⟨?_, fun _ h => nomatch h⟩
              refine wpOpIn_list (i := 5) rfl ?_
              gi_wp2_with fail
              refine ⟨trivial, (CallsIn.inRound l9 (callsIn_wide.2 (HSOY.out _))).mono ?_⟩
              rintro _ y1 ⟨rfl, hb1⟩
              have H1 : Hid (Below Y.heap.size Y y1) := HD0.out.trans (hb1.mono HD0.out.size)
              obtain ⟨x0, x1, x2, x3⟩ := HF.out y1 H1.out
              clear hb1
              gi_wp2_with fail
              refine wpAnyIn_list (rs := [6]) (by kernel_rfl) (by simp) ?_
              refine List.forall_mem_cons.2 ⟨?_, fun _ h => nomatch h⟩
              refine wpOpIn_list (i := 6) rfl ?_
              gi_wp2_with fail
              refine wpAnyIn_list (rs := [7]) (by kernel_rfl) (by simp) ?_
              refine List.forall_mem_cons.2 ⟨?_, fun _ h => nomatch h⟩
              refine wpOpIn_list (i := 7) rfl ?_
              refine wpListIn_append_own _ rfl _ _ 202 rfl W3.heap.size 3 i0 _ 1 8 sliceSales hi0 hz0 hz1 hz2 rfl (by decide) (.slice Av acc.length cv) acc.length (acc.map (Value.int .i64)) rfl (HO.out _ (sbelow_al H1.out _)) ⟨y1.heap.size, 0, none⟩ 1 1 [.int .i64 s] rfl rfl (cells_new _ _ _) (by simp [Value.oneCell']) (by simp only [maxLen]; omega) (by omega) (HZ.out _ (sbelow_al H1.out _)) ?_
              intro v2' w10 hown' hgro _
              obtain ⟨Av2, cv2, rfl⟩ := ownsRow_form hown'
              obtain ⟨hfin, q0, q1⟩ := HAp.out _ _ _ (sbelow_al H1.out _) hgro hown'
              clear hown' hgro
              gi_wp2_with fail
              refine wpAnyIn_list (rs := [8]) (by kernel_rfl) (by simp) ?_
              refine List.forall_mem_cons.2 ⟨?_, fun _ h => nomatch h⟩
              refine wpOpIn_list (i := 8) rfl ?_
              gi_wp2_with fail
              refine wpAnyIn_done (by kernel_rfl) ?_ _
              exact hfin.out
            · skip
              refine wpOpIn_list (i := 5) rfl ?_
              gi_wp2_with fail
              refine ⟨trivial, (CallsIn.inRound l9 (callsIn_wide.2 (HSOY.out _))).mono ?_⟩
              rintro _ y1 ⟨rfl, hb1⟩
              have H1 : Hid (Below Y.heap.size Y y1) := HD0.out.trans (hb1.mono HD0.out.size)
              obtain ⟨x0, x1, x2, x3⟩ := HF.out y1 H1.out
              clear hb1
              gi_wp2_with fail
              refine wpAnyIn_list (rs := [0, 6]) (by kernel_rfl) (by simp) ?_
              refine List.forall_mem_cons.2 ⟨?_, List.forall_mem_cons.2 ⟨?_, fun _ h => nomatch h⟩⟩
              · skip
                refine wpOpIn_list (i := 0) rfl ?_
                gi_wp2_with fail
                refine wpAnyIn_list (rs := [6]) (by kernel_rfl) (by simp) ?_
                refine List.forall_mem_cons.2 ⟨?_, fun _ h => nomatch h⟩
                refine wpOpIn_list (i := 6) rfl ?_
                gi_wp2_with fail
                refine wpAnyIn_list (rs := [7]) (by kernel_rfl) (by simp) ?_
                refine List.forall_mem_cons.2 ⟨?_, fun _ h => nomatch h⟩
                refine wpOpIn_list (i := 7) rfl ?_
                refine wpListIn_append_own _ rfl _ _ 202 rfl W3.heap.size 3 i0 _ 1 8 sliceSales hi0 hz0 hz1 hz2 rfl (by decide) (.slice Av acc.length cv) acc.length (acc.map (Value.int .i64)) rfl (HO.out _ (sbelow_al H1.out _)) ⟨y1.heap.size, 0, none⟩ 1 1 [.int .i64 s] rfl rfl (cells_new _ _ _) (by simp [Value.oneCell']) (by simp only [maxLen]; omega) (by omega) (HZ.out _ (sbelow_al H1.out _)) ?_
                intro v2' w10 hown' hgro _
                obtain ⟨Av2, cv2, rfl⟩ := ownsRow_form hown'
                obtain ⟨hfin, q0, q1⟩ := HAp.out _ _ _ (sbelow_al H1.out _) hgro hown'
                clear hown' hgro
                gi_wp2_with fail
                refine wpAnyIn_list (rs := [8]) (by kernel_rfl) (by simp) ?_
                refine List.forall_mem_cons.2 ⟨?_, fun _ h => nomatch h⟩
                refine wpOpIn_list (i := 8) rfl ?_
                gi_wp2_with fail
                refine wpAnyIn_done (by kernel_rfl) ?_ _
                exact hfin.out
              · skip
                refine wpOpIn_list (i := 6) rfl ?_
                gi_wp2_with fail
                refine wpAnyIn_list (rs := [0]) (by kernel_rfl) (by simp) ?_
                refine List.forall_mem_cons.2 ⟨?_, fun _ h => nomatch h⟩
                refine wpOpIn_list (i := 0) rfl ?_
                gi_wp2_with fail
                refine wpAnyIn_list (rs := [7]) (by kernel_rfl) (by simp) ?_
                refine List.forall_mem_cons.2 ⟨?_, fun _ h => nomatch h⟩
                refine wpOpIn_list (i := 7) rfl ?_
                refine wpListIn_append_own _ rfl _ _ 202 rfl W3.heap.size 3 i0 _ 1 8 sliceSales hi0 hz0 hz1 hz2 rfl (by decide) (.slice Av acc.length cv) acc.length (acc.map (Value.int .i64)) rfl (HO.out _ (sbelow_al H1.out _)) ⟨y1.heap.size, 0, none⟩ 1 1 [.int .i64 s] rfl rfl (cells_new _ _ _) (by simp [Value.oneCell']) (by simp only [maxLen]; omega) (by omega) (HZ.out _ (sbelow_al H1.out _)) ?_
                intro v2' w10 hown' hgro _
                obtain ⟨Av2, cv2, rfl⟩ := ownsRow_form hown'
                obtain ⟨hfin, q0, q1⟩ := HAp.out _ _ _ (sbelow_al H1.out _) hgro hown'
                clear hown' hgro
                gi_wp2_with fail
                refine wpAnyIn_list (rs := [8]) (by kernel_rfl) (by simp) ?_
                refine List.forall_mem_cons.2 ⟨?_, fun _ h => nomatch h⟩
                refine wpOpIn_list (i := 8) rfl ?_
                gi_wp2_with fail
                refine wpAnyIn_done (by kernel_rfl) ?_ _
                exact hfin.out
    · skip
      refine wpOpIn_list (i := 2) rfl ?_
      gi_wp2_with fail
      refine wpAnyIn_list (rs := [0, 1]) (by kernel_rfl) (by simp) ?_
      refine List.forall_mem_cons.2 ⟨?_, List.forall_mem_cons.2 ⟨?_, fun _ h => nomatch h⟩⟩
      · skip
        refine wpOpIn_list (i := 0) rfl ?_
        gi_wp2_with fail
        refine wpAnyIn_list (rs := [1]) (by kernel_rfl) (by simp) ?_
        refine List.forall_mem_cons.2 ⟨?_, fun _ h => nomatch h⟩
        refine wpOpIn_list (i := 1) rfl ?_
        gi_wp2_with fail
        refine wpAnyIn_list (rs := [3]) (by kernel_rfl) (by simp) ?_
        refine List.forall_mem_cons.2 ⟨?_, fun _ h => nomatch h⟩
        refine wpOpIn_list (i := 3) rfl ?_
        gi_wp2_with fail
        refine wpAnyIn_list (rs := [4]) (by kernel_rfl) (by simp) ?_
        refine List.forall_mem_cons.2 ⟨?_, fun _ h => nomatch h⟩
        refine wpOpIn_list (i := 4) rfl ?_
        gi_wp2_with fail
        refine wpAnyIn_list (rs := [5]) (by kernel_rfl) (by simp) ?_
        refine List.forall_mem_cons.2 ⟨?_, fun _ h => nomatch h⟩
        refine wpOpIn_list (i := 5) rfl ?_
        gi_wp2_with fail
        refine ⟨trivial, (CallsIn.inRound l9 (callsIn_wide.2 (HSOY.out _))).mono ?_⟩
        rintro _ y1 ⟨rfl, hb1⟩
        have H1 : Hid (Below Y.heap.size Y y1) := HD0.out.trans (hb1.mono HD0.out.size)
        obtain ⟨x0, x1, x2, x3⟩ := HF.out y1 H1.out
        clear hb1
        gi_wp2_with fail
        refine wpAnyIn_list (rs := [6]) (by kernel_rfl) (by simp) ?_
        refine List.forall_mem_cons.2 ⟨?_, fun _ h => nomatch h⟩
        refine wpOpIn_list (i := 6) rfl ?_
        gi_wp2_with fail
        refine wpAnyIn_list (rs := [7]) (by kernel_rfl) (by simp) ?_
        refine List.forall_mem_cons.2 ⟨?_, fun _ h => nomatch h⟩
        refine wpOpIn_list (i := 7) rfl ?_
        refine wpListIn_append_own _ rfl _ _ 202 rfl W3.heap.size 3 i0 _ 1 8 sliceSales hi0 hz0 hz1 hz2 rfl (by decide) (.slice Av acc.length cv) acc.length (acc.map (Value.int .i64)) rfl (HO.out _ (sbelow_al H1.out _)) ⟨y1.heap.size, 0, none⟩ 1 1 [.int .i64 s] rfl rfl (cells_new _ _ _) (by simp [Value.oneCell']) (by simp only [maxLen]; omega) (by omega) (HZ.out _ (sbelow_al H1.out _)) ?_
        intro v2' w10 hown' hgro _
        obtain ⟨Av2, cv2, rfl⟩ := ownsRow_form hown'
        obtain ⟨hfin, q0, q1⟩ := HAp.out _ _ _ (sbelow_al H1.out _) hgro hown'
        clear hown' hgro
        gi_wp2_with fail
        refine wpAnyIn_list (rs := [8]) (by kernel_rfl) (by simp) ?_
        refine List.forall_mem_cons.2 ⟨?_, fun _ h => nomatch h⟩
        refine wpOpIn_list (i := 8) rfl ?_
        gi_wp2_with fail
        refine wpAnyIn_done (by kernel_rfl) ?_ _
        exact hfin.out
      · skip
        refine wpOpIn_list (i := 1) rfl ?_
        gi_wp2_with fail
        refine wpAnyIn_list (rs := [0, 3]) (by kernel_rfl) (by simp) ?_
        refine List.forall_mem_cons.2 ⟨?_, List.forall_mem_cons.2 ⟨?_, fun _ h => nomatch h⟩⟩
        · skip
          refine wpOpIn_list (i := 0) rfl ?_
          gi_wp2_with fail
          refine wpAnyIn_list (rs := [3]) (by kernel_rfl) (by simp) ?_
          refine List.forall_mem_cons.2 ⟨?_, fun _ h => nomatch h⟩
          refine wpOpIn_list (i := 3) rfl ?_
          gi_wp2_with fail
          refine wpAnyIn_list (rs := [4]) (by kernel_rfl) (by simp) ?_
          refine List.forall_mem_cons.2 ⟨?_, fun _ h => nomatch h⟩
          refine wpOpIn_list (i := 4) rfl ?_
          gi_wp2_with fail
          refine wpAnyIn_list (rs := [5]) (by kernel_rfl) (by simp) ?_
          refine List.forall_mem_cons.2 ⟨?_, fun _ h => nomatch h⟩
          refine wpOpIn_list (i := 5) rfl ?_
          gi_wp2_with fail
          refine ⟨trivial, (CallsIn.inRound l9 (callsIn_wide.2 (HSOY.out _))).mono ?_⟩
          rintro _ y1 ⟨rfl, hb1⟩
          have H1 : Hid (Below Y.heap.size Y y1) := HD0.out.trans (hb1.mono HD0.out.size)
          obtain ⟨x0, x1, x2, x3⟩ := HF.out y1 H1.out
          clear hb1
          gi_wp2_with fail
          refine wpAnyIn_list (rs := [6]) (by kernel_rfl) (by simp) ?_
          refine List.forall_mem_cons.2 ⟨?_, fun _ h => nomatch h⟩
          refine wpOpIn_list (i := 6) rfl ?_
          gi_wp2_with fail
          refine wpAnyIn_list (rs := [7]) (by kernel_rfl) (by simp) ?_
          refine List.forall_mem_cons.2 ⟨?_, fun _ h => nomatch h⟩
          refine wpOpIn_list (i := 7) rfl ?_
          refine wpListIn_append_own _ rfl _ _ 202 rfl W3.heap.size 3 i0 _ 1 8 sliceSales hi0 hz0 hz1 hz2 rfl (by decide) (.slice Av acc.length cv) acc.length (acc.map (Value.int .i64)) rfl (HO.out _ (sbelow_al H1.out _)) ⟨y1.heap.size, 0, none⟩ 1 1 [.int .i64 s] rfl rfl (cells_new _ _ _) (by simp [Value.oneCell']) (by simp only [maxLen]; omega) (by omega) (HZ.out _ (sbelow_al H1.out _)) ?_
          intro v2' w10 hown' hgro _
          obtain ⟨Av2, cv2, rfl⟩ := ownsRow_form hown'
          obtain ⟨hfin, q0, q1⟩ := HAp.out _ _ _ (sbelow_al H1.out _) hgro hown'
          clear hown' hgro
          gi_wp2_with fail
          refine wpAnyIn_list (rs := [8]) (by kernel_rfl) (by simp) ?_
          refine List.forall_mem_cons.2 ⟨?_, fun _ h => nomatch h⟩
          refine wpOpIn_list (i := 8) rfl ?_
          gi_wp2_with fail
          refine wpAnyIn_done (by kernel_rfl) ?_ _
          exact hfin.out
        · skip
          refine wpOpIn_list (i := 3) rfl ?_
          gi_wp2_with fail
          refine wpAnyIn_list (rs := [0, 4]) (by kernel_rfl) (by simp) ?_
          refine List.forall_mem_cons.2 ⟨?_, List.forall_mem_cons.2 ⟨?_, fun _ h => nomatch h⟩⟩
          · skip
            refine wpOpIn_list (i := 0) rfl ?_
            gi_wp2_with fail
            refine wpAnyIn_list (rs := [4]) (by kernel_rfl) (by simp) ?_
            refine List.forall_mem_cons.2 ⟨?_, fun _ h => nomatch h⟩
            refine wpOpIn_list (i := 4) rfl ?_
            gi_wp2_with fail
            refine wpAnyIn_list (rs := [5]) (by kernel_rfl) (by simp) ?_
            refine List.forall_mem_cons.2 ⟨?_, fun _ h => nomatch h⟩
            refine wpOpIn_list (i := 5) rfl ?_
            gi_wp2_with fail
            refine ⟨trivial, (CallsIn.inRound l9 (callsIn_wide.2 (HSOY.out _))).mono ?_⟩
            rintro _ y1 ⟨rfl, hb1⟩
            have H1 : Hid (Below Y.heap.size Y y1) := HD0.out.trans (hb1.mono HD0.out.size)
            obtain ⟨x0, x1, x2, x3⟩ := HF.out y1 H1.out
            clear hb1
            gi_wp2_with fail
            refine wpAnyIn_list (rs := [6]) (by kernel_rfl) (by simp) ?_
            refine List.forall_mem_cons.2 ⟨?_, fun _ h => nomatch h⟩
            refine wpOpIn_list (i := 6) rfl ?_
            gi_wp2_with fail
            refine wpAnyIn_list (rs := [7]) (by kernel_rfl) (by simp) ?_
            refine List.forall_mem_cons.2 ⟨?_, fun _ h => nomatch h⟩
            refine wpOpIn_list (i := 7) rfl ?_
            refine wpListIn_append_own _ rfl _ _ 202 rfl W3.heap.size 3 i0 _ 1 8 sliceSales hi0 hz0 hz1 hz2 rfl (by decide) (.slice Av acc.length cv) acc.length (acc.map (Value.int .i64)) rfl (HO.out _ (sbelow_al H1.out _)) ⟨y1.heap.size, 0, none⟩ 1 1 [.int .i64 s] rfl rfl (cells_new _ _ _) (by simp [Value.oneCell']) (by simp only [maxLen]; omega) (by omega) (HZ.out _ (sbelow_al H1.out _)) ?_
            intro v2' w10 hown' hgro _
            obtain ⟨Av2, cv2, rfl⟩ := ownsRow_form hown'
            obtain ⟨hfin, q0, q1⟩ := HAp.out _ _ _ (sbelow_al H1.out _) hgro hown'
            clear hown' hgro
            gi_wp2_with fail
            refine wpAnyIn_list (rs := [8]) (by kernel_rfl) (by simp) ?_
            refine List.forall_mem_cons.2 ⟨?_, fun _ h => nomatch h⟩
            refine wpOpIn_list (i := 8) rfl ?_
            gi_wp2_with fail
            refine wpAnyIn_done (by kernel_rfl) ?_ _
            exact hfin.out
          · skip
            refine wpOpIn_list (i := 4) rfl ?_
            gi_wp2_with fail
            refine wpAnyIn_list (rs := [0, 5]) (by kernel_rfl) (by simp) ?_
            refine List.forall_mem_cons.2 ⟨?_, List.forall_mem_cons.2 ⟨?_, fun _ h => nomatch h⟩⟩
            · skip
              refine wpOpIn_list (i := 0) rfl ?_
              gi_wp2_with fail
              refine wpAnyIn_list (rs := [5]) (by kernel_rfl) (by simp) ?_
              refine List.forall_mem_cons.2 ⟨?_, fun _ h => nomatch h⟩
              refine wpOpIn_list (i := 5) rfl ?_
              gi_wp2_with fail
              refine ⟨trivial, (CallsIn.inRound l9 (callsIn_wide.2 (HSOY.out _))).mono ?_⟩
              rintro _ y1 ⟨rfl, hb1⟩
              have H1 : Hid (Below Y.heap.size Y y1) := HD0.out.trans (hb1.mono HD0.out.size)
              obtain ⟨x0, x1, x2, x3⟩ := HF.out y1 H1.out
              clear hb1
              gi_wp2_with fail
              refine wpAnyIn_list (rs := [6]) (by kernel_rfl) (by simp) ?_
              refine List.forall_mem_cons.2 ⟨?_, fun _ h => nomatch h⟩
              refine wpOpIn_list (i := 6) rfl ?_
              gi_wp2_with fail
              refine wpAnyIn_list (rs := [7]) (by kernel_rfl) (by simp) ?_
              refine List.forall_mem_cons.2 ⟨?_, fun _ h => nomatch h⟩
              refine wpOpIn_list (i := 7) rfl ?_
              refine wpListIn_append_own _ rfl _ _ 202 rfl W3.heap.size 3 i0 _ 1 8 sliceSales hi0 hz0 hz1 hz2 rfl (by decide) (.slice Av acc.length cv) acc.length (acc.map (Value.int .i64)) rfl (HO.out _ (sbelow_al H1.out _)) ⟨y1.heap.size, 0, none⟩ 1 1 [.int .i64 s] rfl rfl (cells_new _ _ _) (by simp [Value.oneCell']) (by simp only [maxLen]; omega) (by omega) (HZ.out _ (sbelow_al H1.out _)) ?_
              intro v2' w10 hown' hgro _
              obtain ⟨Av2, cv2, rfl⟩ := ownsRow_form hown'
              obtain ⟨hfin, q0, q1⟩ := HAp.out _ _ _ (sbelow_al H1.out _) hgro hown'
              clear hown' hgro
              gi_wp2_with fail
              refine wpAnyIn_list (rs := [8]) (by kernel_rfl) (by simp) ?_
              refine List.forall_mem_cons.2 ⟨?_, fun _ h => nomatch h⟩
              refine wpOpIn_list (i := 8) rfl ?_
              gi_wp2_with fail
              refine wpAnyIn_done (by kernel_rfl) ?_ _
              exact hfin.out
            · skip
              refine wpOpIn_list (i := 5) rfl ?_
              gi_wp2_with fail
              refine ⟨trivial, (CallsIn.inRound l9 (callsIn_wide.2 (HSOY.out _))).mono ?_⟩
              rintro _ y1 ⟨rfl, hb1⟩
              have H1 : Hid (Below Y.heap.size Y y1) := HD0.out.trans (hb1.mono HD0.out.size)
              obtain ⟨x0, x1, x2, x3⟩ := HF.out y1 H1.out
              clear hb1
              gi_wp2_with fail
              refine wpAnyIn_list (rs := [0, 6]) (by kernel_rfl) (by simp) ?_
              refine List.forall_mem_cons.2 ⟨?_, List.forall_mem_cons.2 ⟨?_, fun _ h => nomatch h⟩⟩
              · skip
                refine wpOpIn_list (i := 0) rfl ?_
                gi_wp2_with fail
                refine wpAnyIn_list (rs := [6]) (by kernel_rfl) (by simp) ?_
                refine List.forall_mem_cons.2 ⟨?_, fun _ h => nomatch h⟩
                refine wpOpIn_list (i := 6) rfl ?_
                gi_wp2_with fail
                refine wpAnyIn_list (rs := [7]) (by kernel_rfl) (by simp) ?_
                refine List.forall_mem_cons.2 ⟨?_, fun _ h => nomatch h⟩
                refine wpOpIn_list (i := 7) rfl ?_
                refine wpListIn_append_own _ rfl _ _ 202 rfl W3.heap.size 3 i0 _ 1 8 sliceSales hi0 hz0 hz1 hz2 rfl (by decide) (.slice Av acc.length cv) acc.length (acc.map (Value.int .i64)) rfl (HO.out _ (sbelow_al H1.out _)) ⟨y1.heap.size, 0, none⟩ 1 1 [.int .i64 s] rfl rfl (cells_new _ _ _) (by simp [Value.oneCell']) (by simp only [maxLen]; omega) (by omega) (HZ.out _ (sbelow_al H1.out _)) ?_
                intro v2' w10 hown' hgro _
                obtain ⟨Av2, cv2, rfl⟩ := ownsRow_form hown'
                obtain ⟨hfin, q0, q1⟩ := HAp.out _ _ _ (sbelow_al H1.out _) hgro hown'
                clear hown' hgro
                gi_wp2_with fail
                refine wpAnyIn_list (rs := [8]) (by kernel_rfl) (by simp) ?_
                refine List.forall_mem_cons.2 ⟨?_, fun _ h => nomatch h⟩
                refine wpOpIn_list (i := 8) rfl ?_
                gi_wp2_with fail
                refine wpAnyIn_done (by kernel_rfl) ?_ _
                exact hfin.out
              · skip
                refine wpOpIn_list (i := 6) rfl ?_
                gi_wp2_with fail
                refine wpAnyIn_list (rs := [0]) (by kernel_rfl) (by simp) ?_
                refine List.forall_mem_cons.2 ⟨?_, fun _ h => nomatch h⟩
                refine wpOpIn_list (i := 0) rfl ?_
                gi_wp2_with fail
                refine wpAnyIn_list (rs := [7]) (by kernel_rfl) (by simp) ?_
                refine List.forall_mem_cons.2 ⟨?_, fun _ h => nomatch h⟩
                refine wpOpIn_list (i := 7) rfl ?_
                refine wpListIn_append_own _ rfl _ _ 202 rfl W3.heap.size 3 i0 _ 1 8 sliceSales hi0 hz0 hz1 hz2 rfl (by decide) (.slice Av acc.length cv) acc.length (acc.map (Value.int .i64)) rfl (HO.out _ (sbelow_al H1.out _)) ⟨y1.heap.size, 0, none⟩ 1 1 [.int .i64 s] rfl rfl (cells_new _ _ _) (by simp [Value.oneCell']) (by simp only [maxLen]; omega) (by omega) (HZ.out _ (sbelow_al H1.out _)) ?_
                intro v2' w10 hown' hgro _
                obtain ⟨Av2, cv2, rfl⟩ := ownsRow_form hown'
                obtain ⟨hfin, q0, q1⟩ := HAp.out _ _ _ (sbelow_al H1.out _) hgro hown'
                clear hown' hgro
                gi_wp2_with fail
                refine wpAnyIn_list (rs := [8]) (by kernel_rfl) (by simp) ?_
                refine List.forall_mem_cons.2 ⟨?_, fun _ h => nomatch h⟩
                refine wpOpIn_list (i := 8) rfl ?_
                gi_wp2_with fail
                refine wpAnyIn_done (by kernel_rfl) ?_ _
                exact hfin.out
  case done =>
    rintro D ys Y hD rfl hst9 hK
    have HST := Lib.hid hst9.out.1
    rw [HLS.out] at HST
    have hD' : w.heap.size ≤ D := Nat.le_trans HW3.out hD
    have hDY : D < Y.heap.size := (Array.getElem?_eq_some_iff.1 hK).1
    have F4 : ∃ Y2, Y.alloc (.cells #[.nilFunc, (.func (.func 123) #[] #[]), (.func (.func 124) #[] #[]), (.func (.func 124) #[] #[]), (.func (.func 125) #[] #[])] 207) = Y2 ∧ Hid (Below Y.heap.size Y Y2) ∧ Hid (Blk Y2 Y.heap.size 207 #[.nilFunc, (.func (.func 123) #[] #[]), (.func (.func 124) #[] #[]), (.func (.func 124) #[] #[]), (.func (.func 125) #[] #[])]) := ⟨_, rfl, below_alloc _ _, Blk.new _ _ _⟩
    obtain ⟨Y2, e4, HX4, HK4⟩ := F4
    have E4 := Lib.hid e4
    have HKD9 : Hid (∀ nq, (Y2.drewN nq).heap[D]? = some (.deferred (some []))) := fun nq => (HX4.out.block D hDY).trans hK
    obtain ⟨v, hv, hO⟩ := (HST.out.below HX4.out).row
    obtain ⟨L, hL⟩ : ∃ L, lookL m l day = L := ⟨_, rfl⟩
    rw [hL] at hO
    have HLL := Lib.hid hL
    have hLn : L.length = m.days.toNat := by rw [← hL]; exact lookTo_len _ _ _ _
    have hLb : ∀ x ∈ L, 0 ≤ x ∧ x ≤ 10000 := by rw [← hL]; exact lookTo_bd HDO.out m day _
    obtain ⟨Av, cv, rfl⟩ := ownsRow_form hO
    have HRD : Hid (∀ W, Below Y2.heap.size Y2 W → RInts W.heap.size W (.slice Av L.length cv) L) := fun W hW => (Rd.below (Rd.own hO (own_le hO)) hW).more hW.size
    have hm1 : 0 < L.length ∧ L.length ≤ 60 := by rw [hLn, HDD.out]; omega
    have HM1 := Lib.hid hm1
    have HLBD := Lib.hid hLb
    have HLN := Lib.hid hLn
    obtain ⟨ln, hln⟩ : ∃ k, L.length = k := ⟨_, rfl⟩
    have l0 := cellOf hv 0 (x := .slice Av L.length cv) rfl
    have z0 : Y2.cell? ⟨p, 0, none⟩ = some (.int .i64 kd) := by
      have h := (HST.out.below HX4.out).meth
      rw [HP.out, HKD.out, HDD.out] at h
      exact cellOf h 0 rfl
    obtain ⟨r, hr⟩ : ∃ r, m.said l day = r := ⟨_, rfl⟩
    have HSAID := Lib.hid hr
    have HR : Hid (r = if kd = 4 then maxL L else meanL L) := by show _ = _; rw [← hr, ← HKD.out, ← hL]; rfl
    have HBW : Hid (∀ nq, Below w.heap.size w (Y2.drewN nq)) := fun nq => below_drewN (HST.out.low.trans (HX4.out.mono HST.out.low.size)) nq
    rw [hln] at l0 HRD
    obtain ⟨yb, hyb⟩ : ∃ b, Y.heap.size = b := ⟨_, rfl⟩
    rw [hyb] at HK4
    have HYB := Lib.hid hyb
    have q1 := cellOf HK4.out 1 (x := (.func (.func 123) #[] #[])) rfl
    have q2 := cellOf HK4.out 2 (x := (.func (.func 124) #[] #[])) rfl
    have q3 := cellOf HK4.out 3 (x := (.func (.func 124) #[] #[])) rfl
    have q4 := cellOf HK4.out 4 (x := (.func (.func 125) #[] #[])) rfl
    have HLN2 := Lib.hid hln
    have HMC := Lib.hid mc
    clear hst9 hK hseq hv hO e4 hLn hLb hL hr hm1 hyb hDY hMl hDl mc hln
    rcases (show kd = 1 ∨ kd = 2 ∨ kd = 3 ∨ kd = 4 by omega) with rfl | rfl | rfl | rfl
    · have h1 : dd = 1 := HMC.out rfl
      have h2 : L.length = 1 := by rw [HLN.out, HDD.out, h1]; rfl
      obtain ⟨x, hx⟩ : ∃ x, L = [x] := List.length_eq_one_iff.1 h2
      have HRX : Hid (x = r) := by show _ = _; rw [HR.out, if_neg (by decide), hx]; simp [meanL, sumI]
      have HC : Hid (∀ W, Below Y2.heap.size Y2 W → Calls Try.prog 123 #[.slice Av ln cv] W fun e w' => e = .returned (.int .i64 r) ∧ w' = W) := fun W hW => (last_any L x (by rw [hx]; rfl) _ W (HRD.out W hW)).mono fun e w' h => ⟨by rw [h.1, HRX.out], h.2.symm⟩
      clear h1 h2 hx
      go_upto_region 8 with fail
      rw [E4.out, HYB.out]
      go_quiet ((go_at_call 123; first | exact Calls.quiet_of_same (HC.out _ (Below.refl _ _)) | exact Calls.quiet_of_same (HC.out _ (below_drewN (Below.refl _ _) _)) | exact Calls.quiet_of_same (HC.out _ (Below.refl _ _).drew)))
      go_wp2_with fail
      refine leaves_marks [D] _ (List.nodup_cons.2 ⟨List.not_mem_nil, List.nodup_nil⟩) (fun D' hD' => by rw [List.mem_singleton.1 hD']; exact HKD9.out _) fun Z hZ => ⟨.tuple #[.int .i64 r, .bool true], by simp [results, Try.results81, go_sem], by rw [HSAID.out], (HBW.out _).trans (hZ.below (fun k hk => by rw [List.mem_singleton.1 hk]; exact hD') (HBW.out _).size)⟩
    · have HC : Hid (∀ W, Below Y2.heap.size Y2 W → Calls Try.prog 124 #[.slice Av ln cv] W fun e w' => e = .returned (.int .i64 r) ∧ w' = W) := fun W hW => (mean_any L HM1.out.1 HM1.out.2 HLBD.out _ W (HRD.out W hW)).mono fun e w' h => ⟨by rw [h.1, HR.out, if_neg (by decide)], h.2.symm⟩
      go_upto_region 8 with fail
      rw [E4.out, HYB.out]
      go_quiet ((go_at_call 124; first | exact Calls.quiet_of_same (HC.out _ (Below.refl _ _)) | exact Calls.quiet_of_same (HC.out _ (below_drewN (Below.refl _ _) _)) | exact Calls.quiet_of_same (HC.out _ (Below.refl _ _).drew)))
      go_wp2_with fail
      refine leaves_marks [D] _ (List.nodup_cons.2 ⟨List.not_mem_nil, List.nodup_nil⟩) (fun D' hD' => by rw [List.mem_singleton.1 hD']; exact HKD9.out _) fun Z hZ => ⟨.tuple #[.int .i64 r, .bool true], by simp [results, Try.results81, go_sem], by rw [HSAID.out], (HBW.out _).trans (hZ.below (fun k hk => by rw [List.mem_singleton.1 hk]; exact hD') (HBW.out _).size)⟩
    · have HC : Hid (∀ W, Below Y2.heap.size Y2 W → Calls Try.prog 124 #[.slice Av ln cv] W fun e w' => e = .returned (.int .i64 r) ∧ w' = W) := fun W hW => (mean_any L HM1.out.1 HM1.out.2 HLBD.out _ W (HRD.out W hW)).mono fun e w' h => ⟨by rw [h.1, HR.out, if_neg (by decide)], h.2.symm⟩
      go_upto_region 8 with fail
      rw [E4.out, HYB.out]
      go_quiet ((go_at_call 124; first | exact Calls.quiet_of_same (HC.out _ (Below.refl _ _)) | exact Calls.quiet_of_same (HC.out _ (below_drewN (Below.refl _ _) _)) | exact Calls.quiet_of_same (HC.out _ (Below.refl _ _).drew)))
      go_wp2_with fail
      refine leaves_marks [D] _ (List.nodup_cons.2 ⟨List.not_mem_nil, List.nodup_nil⟩) (fun D' hD' => by rw [List.mem_singleton.1 hD']; exact HKD9.out _) fun Z hZ => ⟨.tuple #[.int .i64 r, .bool true], by simp [results, Try.results81, go_sem], by rw [HSAID.out], (HBW.out _).trans (hZ.below (fun k hk => by rw [List.mem_singleton.1 hk]; exact hD') (HBW.out _).size)⟩
    · have HC : Hid (∀ W, Below Y2.heap.size Y2 W → Calls Try.prog 125 #[.slice Av ln cv] W fun e w' => e = .returned (.int .i64 r) ∧ w' = W) := fun W hW => (greatest_any L HM1.out.1 HM1.out.2 HLBD.out _ W (HRD.out W hW)).mono fun e w' h => ⟨by rw [h.1, HR.out, if_pos rfl], h.2.symm⟩
      go_upto_region 8 with fail
      rw [E4.out, HYB.out]
      go_quiet ((go_at_call 125; first | exact Calls.quiet_of_same (HC.out _ (Below.refl _ _)) | exact Calls.quiet_of_same (HC.out _ (below_drewN (Below.refl _ _) _)) | exact Calls.quiet_of_same (HC.out _ (Below.refl _ _).drew)))
      go_wp2_with fail
      refine leaves_marks [D] _ (List.nodup_cons.2 ⟨List.not_mem_nil, List.nodup_nil⟩) (fun D' hD' => by rw [List.mem_singleton.1 hD']; exact HKD9.out _) fun Z hZ => ⟨.tuple #[.int .i64 r, .bool true], by simp [results, Try.results81, go_sem], by rw [HSAID.out], (HBW.out _).trans (hZ.below (fun k hk => by rw [List.mem_singleton.1 hk]; exact hD') (HBW.out _).size)⟩
  case stop =>
    rintro D c pre Y _ _ h _
    exact h.elim
end Go.Proofs.Ytlmpbmlbllndcaa
