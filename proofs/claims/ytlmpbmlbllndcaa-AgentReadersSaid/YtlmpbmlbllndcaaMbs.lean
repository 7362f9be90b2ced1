/-
  The reference's Carrier.
-/
import Derived.Test.YtlmpbmlbllndcaaMbp
import Derived.Test.YtlmpbmlbllndcaaMbm
import Derived.Test.YtlmpbmlbllndcaaMbr
namespace Go.Proofs.Ytlmpbmlbllndcaa
open Go.RowKit
attribute [local go_sem] Oper.semAt_some

theorem fieldsRC : Try.prog.underlying 134 = some (.struct (Try.prog.fieldsOf 134)) := by kernel_rfl
theorem heldRC : Try.prog.stoodInHeld 134 = false := by kernel_rfl
theorem flRC : (Try.prog.fieldsOf 134).toList.map (fun f => (f.name != "_", f.type, f.offset)) = [(true, 3, 0), (true, 3, 1)] := by kernel_rfl
theorem eqRC (a b a' b' : Int) (w : World) : (Op.equalIn 10000 134 (.agg #[.int .i64 a, .int .i64 b]) (.agg #[.int .i64 a', .int .i64 b'])).run Try.prog w = .ok (a == a' && b == b') w := by
  rw [run_equalIn_agg w 9999 _ _ _ fieldsRC heldRC]
  have hl := flRC
  generalize (Try.prog.fieldsOf 134).toList = fs at hl ⊢
  obtain ⟨f0, r0, rfl, h0, hl⟩ := List.map_eq_cons_iff.1 hl
  obtain ⟨f1, r1, rfl, h1, hl⟩ := List.map_eq_cons_iff.1 hl
  obtain rfl := List.map_eq_nil_iff.1 hl
  simp only [Prod.mk.injEq, bne_iff_ne, ne_eq] at h0 h1
  obtain ⟨n0, t0, o0⟩ := h0
  obtain ⟨n1, t1, o1⟩ := h1
  clear hl
  have hi : Try.prog.underlying 3 = some (.int .i64) := by kernel_rfl
  simp [Op.eqFields, n0, n1, t0, t1, o0, o1, go_sem]
  by_cases h1 : a = a' <;> by_cases h2 : b = b' <;> simp [h1, h2]
theorem eqRCb (a b a' b' : Int) (w : World) : (binOp .eql 134 (.agg #[.int .i64 a, .int .i64 b]) (.agg #[.int .i64 a', .int .i64 b'])).run Try.prog w = .ok (.bool (a == a' && b == b')) w := by
  simp [go_sem, eqRC]
/-- Whether a subscriber is to have the copy of a complaint. -/
def dueS (a b : Int) (x : CmpD) (s : SubD) : Bool := decide (s.id = x.sub) && (inB x.day a b && s.getB x.day)
theorem due_any {l : List SubD} (hn : (l.map SubD.id).Nodup) (a b : Int) (x : CmpD) : l.any (dueS a b x) = dueB l a b x := by
  unfold dueB
  cases e : l.find? fun s => decide (s.id = x.sub) with
  | none =>
    rw [List.any_eq_false]
    intro s hs h
    have h1 := List.find?_eq_none.1 e s hs
    unfold dueS at h
    rw [Bool.and_eq_true] at h
    exact h1 h.1
  | some s =>
    have h1 := List.mem_of_find?_eq_some e
    have h2 : s.id = x.sub := by have := List.find?_some e; simpa using this
    show _ = (inB x.day a b && s.getB x.day)
    cases h3 : inB x.day a b && s.getB x.day with
    | true =>
      rw [List.any_eq_true]
      exact ⟨s, h1, by unfold dueS; rw [decide_eq_true h2, h3]; rfl⟩
    | false =>
      rw [List.any_eq_false]
      intro s' hs' h
      unfold dueS at h
      rw [Bool.and_eq_true, decide_eq_true_eq] at h
      obtain ⟨k, hk⟩ := List.mem_iff_getElem?.1 hs'
      have h4 := due_find hn hk x.sub h.1
      rw [h4] at e
      cases e
      rw [h3] at h
      exact absurd h.2 (by simp)
theorem any_next' {α : Type} {f : α → Bool} {l : List α} {k : Nat} {x : α} (hx : l[k]? = some x) : (l.take (k + 1)).any f = ((l.take k).any f || f x) := by
  rw [List.take_add_one, hx, Option.toList_some, List.any_append]
  simp
def RCarRt (t : TarD) (l : List SubD) (a b : Int) (c : List CmpD) (w : World) (e : Ending) (w' : World) : Prop := ∃ u, e = .returned (.tuple #[.agg #[u, .int .i64 (carrS t l a b c)], .int .i64 (carrE t l a b c)]) ∧ Hid (ORLns w.heap.size w' u (carrL t l a b c)) ∧ Hid (Below w.heap.size w w')
set_option maxRecDepth 1000000 in
set_option maxHeartbeats 4000000 in
theorem refCarrier_any (t : TarD) (l : List SubD) (a b : Int) (c : List CmpD) (v vl : Value) (w : World) (hv : RCmps w.heap.size w v c) (hl : RSubs w.heap.size w vl l) :
    Calls Try.prog 65 #[.agg #[.int .i64 t.price, .int .i64 t.back, .int .i64 t.late, .int .i64 t.carry, .int .i64 t.credit], vl, v, .int .i64 a, .int .i64 b] w (RCarRt t l a b c w) := by
  have HR := Lib.hid hl
  obtain ⟨A, cc, rfl, hlm, HD⟩ := subs_later hl
  obtain ⟨A2, c2, rfl, hcm, HC⟩ := cmps_later hv
  obtain ⟨n, hn⟩ : ∃ n, l.length = n := ⟨_, rfl⟩
  obtain ⟨m, hm⟩ : ∃ n, c.length = n := ⟨_, rfl⟩
  have HN := Lib.hid hn
  have HM := Lib.hid hm
  rw [hn] at HR hlm ⊢
  rw [hm] at hcm ⊢
  have F0 : ∃ W0, (w.alloc (.cells #[.int .i64 t.price, .int .i64 t.back, .int .i64 t.late, .int .i64 t.carry, .int .i64 t.credit] 140)).alloc (.cells #[.slice none 0 0, .int .i64 0] 137) = W0 ∧ Hid (Below w.heap.size w W0) ∧ Hid (Blk W0 w.heap.size 140 #[.int .i64 t.price, .int .i64 t.back, .int .i64 t.late, .int .i64 t.carry, .int .i64 t.credit] ∧ Blk W0 (w.heap.size + 1) 137 #[.slice none 0 0, .int .i64 0]) :=
    ⟨_, rfl, sbelow_al (below_alloc _ _) _, (Blk.new _ _ _).alloc _, blk_new (by simp) _ _⟩
  obtain ⟨W0, e0, HB0, HK0⟩ := F0
  have E0 := Lib.hid e0
  have z0 := cellOf HK0.out.1 0 (x := .int .i64 t.price) rfl
  have z1 := cellOf HK0.out.1 1 (x := .int .i64 t.back) rfl
  have z2 := cellOf HK0.out.1 2 (x := .int .i64 t.late) rfl
  have z3 := cellOf HK0.out.1 3 (x := .int .i64 t.carry) rfl
  have z4 := cellOf HK0.out.1 4 (x := .int .i64 t.credit) rfl
  have C1 := Lib.hid (priced_any t W0)
  have C2 := Lib.hid (fun Y (hY : Below w.heap.size w Y) => refListed_any l (.slice A n cc) Y ((RSubs.below HR.out hY).more hY.size))
  obtain ⟨tb, htb⟩ : ∃ b, t.okB = b := ⟨_, rfl⟩
  obtain ⟨se, hse⟩ : ∃ b, subsE l = b := ⟨_, rfl⟩
  obtain ⟨b1, hb1⟩ : ∃ z, inB a 0 20000 = z := ⟨_, rfl⟩
  obtain ⟨b2, hb2⟩ : ∃ z, inB b 0 20000 = z := ⟨_, rfl⟩
  obtain ⟨ce, hce⟩ : ∃ z, carrE t l a b c = z := ⟨_, rfl⟩
  have C3 : Hid (∀ Y, Calls Try.prog 98 #[.int .i64 a, .int .i64 0, .int .i64 20000] Y fun e w' => e = .returned (.bool b1) ∧ Y = w') := fun Y => by rw [← hb1]; exact refIn_any a 0 20000 Y
  have C4 : Hid (∀ Y, Calls Try.prog 98 #[.int .i64 b, .int .i64 0, .int .i64 20000] Y fun e w' => e = .returned (.bool b2) ∧ Y = w') := fun Y => by rw [← hb2]; exact refIn_any b 0 20000 Y
  rw [htb] at C1
  rw [hse] at C2
  have HTB := Lib.hid htb
  have HSE := Lib.hid hse
  have HDB : Hid (dayB a b = ((b1 && b2) && decide (a ≤ b))) := by show _ = _; rw [dayB_as, hb1, hb2]
  have HCE : Hid (ce = if tb then (if se = 0 then (if dayB a b then (if 500 < m then 2 else fcE l a b [] c) else 6) else se) else 1) := by
    show _ = _
    rw [← hce]
    unfold carrE cmpsE
    rw [htb, hse, hm]
  obtain ⟨p, hp⟩ : ∃ p, w.heap.size = p := ⟨_, rfl⟩
  have HP := Lib.hid hp
  have HK : Hid (∀ Y, Below W0.heap.size W0 Y → (Y.cell? ⟨p, 3, none⟩ = some (.int .i64 t.carry) ∧ Y.cell? ⟨p, 4, none⟩ = some (.int .i64 t.credit)) ∧ Blk Y (p + 1) 137 #[.slice none 0 0, .int .i64 0]) := fun Y hY => by
    rw [← HP.out]
    have h1 := HK0.out.1.below hY HK0.out.1.lt
    exact ⟨⟨cellOf h1 3 rfl, cellOf h1 4 rfl⟩, HK0.out.2.below hY HK0.out.2.lt⟩
  have HERR : Hid (∀ Y (E : Int), Below W0.heap.size W0 Y → ce = E → ¬ E = 0 → RCarRt t l a b c w (.returned (.tuple #[.agg #[.slice none 0 0, .int .i64 0], .int .i64 E])) ((Y.setCell ⟨p + 1, 0, none⟩ (.slice none 0 0)).setCell ⟨p + 1, 1, none⟩ (.int .i64 0))) := fun Y E hY hE hne => by
    have h9 : carrE t l a b c = E := hce.trans hE
    have hbw : Below w.heap.size w Y := HB0.out.trans (hY.mono HB0.out.size)
    refine ⟨_, by unfold carrS; rw [h9, if_neg hne], by unfold carrL; rw [h9, if_neg hne]; exact World.ownsRow_nil _ _ _ _, ?_⟩
    exact (hbw.setCell (p := ⟨p + 1, 0, none⟩) (by rw [HP.out]; show p ≤ p + 1; omega) _).setCell (p := ⟨p + 1, 1, none⟩) (by rw [HP.out]; show p ≤ p + 1; omega) _
  have HOK : Hid (ce = 0 → carrS t l a b c = carS t (copK l a b n) m ∧ carrL t l a b c = carL t (copK l a b n) m ∧ carrE t l a b c = 0) := fun h => by
    have h9 : carrE t l a b c = 0 := hce.trans h
    exact ⟨by unfold carrS; rw [if_pos h9, hn, hm], by unfold carrL; rw [if_pos h9, hn, hm], h9⟩
  rw [hp] at z0 z1 z2 z3 z4
  clear hl hv hn hm e0 hp HK0 htb hse hb1 hb2 hce
  go_enter Try.func65, Try.ntmps65
  go_upto_region 1 with fail
  rw [E0.out]
  clear E0
  rw [HP.out]
  go_wp2_with fail
  refine C1.out.mono ?_
  rintro _ Y1 ⟨rfl, hb1⟩
  have HB1 := Lib.hid hb1
  have HBW1 : Hid (Below w.heap.size w Y1) := HB0.out.trans (hb1.mono HB0.out.size)
  clear C1 hb1 z0 z1 z2 z3 z4
  cases tb with
  | false =>
    have HRY := Lib.hid (HK.out Y1 HB1.out).2
    have r0 := cellOf HRY.out 0 (x := .slice none 0 0) rfl
    have r1 := cellOf HRY.out 1 (x := .int .i64 0) rfl
    have f0 := HRY.out.frozen 0
    have f1 := HRY.out.frozen 1
    have HFIN := Lib.hid (HERR.out Y1 1 HB1.out (by rw [HCE.out]; rfl) (by omega))
    have R := (HRY.out.put 0 (.slice none 0 0)).put 1 (.int .i64 0)
    have e0 := cellOf R 0 (x := (.slice none 0 0)) rfl
    have e1 := cellOf R 1 (x := (.int .i64 0)) rfl
    clear R
    go_wp2_with fail
    exact bodyPost_ret (v := .tuple #[.agg #[(.slice none 0 0), (.int .i64 0)], .int .i64 1]) (by simp [results, Try.results65, go_sem, e0, e1]) rfl HFIN.out
  | true =>
  have CA := Lib.hid (C2.out Y1 HBW1.out)
  clear C2
  go_wp2_with fail
  refine CA.out.mono ?_
  rintro _ Y2 ⟨rfl, hb2⟩
  have HB2 : Hid (Below W0.heap.size W0 Y2) := HB1.out.trans (hb2.mono HB1.out.size)
  clear CA hb2
  by_cases hs0 : se = 0
  case neg =>
    have hsb : (se != 0) = true := by simpa using hs0
    have HRY := Lib.hid (HK.out Y2 HB2.out).2
    have r0 := cellOf HRY.out 0 (x := .slice none 0 0) rfl
    have r1 := cellOf HRY.out 1 (x := .int .i64 0) rfl
    have f0 := HRY.out.frozen 0
    have f1 := HRY.out.frozen 1
    have HFIN := Lib.hid (HERR.out Y2 se HB2.out (by rw [HCE.out]; simp [hs0]) hs0)
    have R := (HRY.out.put 0 (.slice none 0 0)).put 1 (.int .i64 0)
    have e0 := cellOf R 0 (x := (.slice none 0 0)) rfl
    have e1 := cellOf R 1 (x := (.int .i64 0)) rfl
    clear R
    go_wp2_with fail
    exact bodyPost_ret (v := .tuple #[.agg #[(.slice none 0 0), (.int .i64 0)], .int .i64 se]) (by simp [results, Try.results65, go_sem, e0, e1]) rfl HFIN.out
  subst hs0
  have hsb : ((0 : Int) != 0) = false := rfl
  go_wp2_with fail
  refine (C3.out _).mono ?_
  rintro _ _ ⟨rfl, rfl⟩
  cases b1 with
  | false =>
    have HRY := Lib.hid (HK.out Y2 HB2.out).2
    have r0 := cellOf HRY.out 0 (x := .slice none 0 0) rfl
    have r1 := cellOf HRY.out 1 (x := .int .i64 0) rfl
    have f0 := HRY.out.frozen 0
    have f1 := HRY.out.frozen 1
    have HFIN := Lib.hid (HERR.out Y2 6 HB2.out (by rw [HCE.out, HDB.out]; rfl) (by omega))
    have R := (HRY.out.put 0 (.slice none 0 0)).put 1 (.int .i64 0)
    have e0 := cellOf R 0 (x := (.slice none 0 0)) rfl
    have e1 := cellOf R 1 (x := (.int .i64 0)) rfl
    clear R
    go_wp2_with fail
    exact bodyPost_ret (v := .tuple #[.agg #[(.slice none 0 0), (.int .i64 0)], .int .i64 6]) (by simp [results, Try.results65, go_sem, e0, e1]) rfl HFIN.out
  | true =>
  go_wp2_with fail
  refine (C4.out _).mono ?_
  rintro _ _ ⟨rfl, rfl⟩
  cases b2 with
  | false =>
    have HRY := Lib.hid (HK.out Y2 HB2.out).2
    have r0 := cellOf HRY.out 0 (x := .slice none 0 0) rfl
    have r1 := cellOf HRY.out 1 (x := .int .i64 0) rfl
    have f0 := HRY.out.frozen 0
    have f1 := HRY.out.frozen 1
    have HFIN := Lib.hid (HERR.out Y2 6 HB2.out (by rw [HCE.out, HDB.out]; rfl) (by omega))
    have R := (HRY.out.put 0 (.slice none 0 0)).put 1 (.int .i64 0)
    have e0 := cellOf R 0 (x := (.slice none 0 0)) rfl
    have e1 := cellOf R 1 (x := (.int .i64 0)) rfl
    clear R
    go_wp2_with fail
    exact bodyPost_ret (v := .tuple #[.agg #[(.slice none 0 0), (.int .i64 0)], .int .i64 6]) (by simp [results, Try.results65, go_sem, e0, e1]) rfl HFIN.out
  | true =>
  by_cases h4 : b < a
  · have g4 : decide (b < a) = true := by simpa using h4
    have HRY := Lib.hid (HK.out Y2 HB2.out).2
    have r0 := cellOf HRY.out 0 (x := .slice none 0 0) rfl
    have r1 := cellOf HRY.out 1 (x := .int .i64 0) rfl
    have f0 := HRY.out.frozen 0
    have f1 := HRY.out.frozen 1
    have HFIN := Lib.hid (HERR.out Y2 6 HB2.out (by rw [HCE.out, HDB.out, decide_eq_false (show ¬ a ≤ b by omega)]; rfl) (by omega))
    have R := (HRY.out.put 0 (.slice none 0 0)).put 1 (.int .i64 0)
    have e0 := cellOf R 0 (x := (.slice none 0 0)) rfl
    have e1 := cellOf R 1 (x := (.int .i64 0)) rfl
    clear R
    go_wp2_with fail
    exact bodyPost_ret (v := .tuple #[.agg #[(.slice none 0 0), (.int .i64 0)], .int .i64 6]) (by simp [results, Try.results65, go_sem, e0, e1]) rfl HFIN.out
  have g4 : decide (b < a) = false := by simpa using h4
  have HAB : Hid (dayB a b = true) := by show _ = _; rw [HDB.out, decide_eq_true (show a ≤ b by omega)]; rfl
  obtain ⟨a0, ab, b20⟩ := dayB_iff.1 HAB.out
  by_cases h5 : (500 : Int) < (m : Int)
  · have g5 : decide ((500 : Int) < (m : Int)) = true := by simpa using h5
    have HRY := Lib.hid (HK.out Y2 HB2.out).2
    have r0 := cellOf HRY.out 0 (x := .slice none 0 0) rfl
    have r1 := cellOf HRY.out 1 (x := .int .i64 0) rfl
    have f0 := HRY.out.frozen 0
    have f1 := HRY.out.frozen 1
    have HFIN := Lib.hid (HERR.out Y2 2 HB2.out (by rw [HCE.out, HAB.out]; simp; omega) (by omega))
    have R := (HRY.out.put 0 (.slice none 0 0)).put 1 (.int .i64 0)
    have e0 := cellOf R 0 (x := (.slice none 0 0)) rfl
    have e1 := cellOf R 1 (x := (.int .i64 0)) rfl
    clear R
    go_wp2_with fail
    exact bodyPost_ret (v := .tuple #[.agg #[(.slice none 0 0), (.int .i64 0)], .int .i64 2]) (by simp [results, Try.results65, go_sem, e0, e1]) rfl HFIN.out
  have g5 : decide ((500 : Int) < (m : Int)) = false := by simpa using h5
  have HCF : Hid (fcE l a b [] c = ce) := by
    show _ = _
    rw [HCE.out, HAB.out]
    simp
    omega
  have hm5 : m ≤ 500 := by omega
  have HLS := Lib.hid (subsE_ok HSE.out)
  have hn5 : n ≤ 500 := by rw [← HN.out]; exact HLS.out.1
  have HLO : Hid (∀ s ∈ l, s.Ok) := fun s hs => subB_ok (HLS.out.2 s hs)
  have HND := Lib.hid (subsE_nodup HSE.out)
  clear HCE HDB h4 h5 C3 C4 HLS
  go_wp2_with fail
  go_loopw [13] (fun i wr => ∃ k : Nat, k ≤ m ∧ i = .int .i64 k ∧ Hid (fcE l a b (c.take k) (c.drop k) = ce) ∧ Hid (Below W0.heap.size W0 wr)) (fun i _ => m - (intOf i).toNat)
  case atStart => exact ⟨0, Nat.zero_le _, rfl, HCF.out, HB2.out⟩
  case round =>
  clear HB2 HCF g4 g5 HB1 HBW1
  obtain ⟨k, hk, rfl, hf, hB⟩ := hrel
  obtain ⟨X, rfl⟩ : ∃ X : World, X = wr := ⟨_, rfl⟩
  by_cases hlt : k < m
  · obtain ⟨x, hx⟩ : ∃ x, c[k]? = some x := ⟨_, List.getElem?_eq_getElem (by rw [HM.out]; exact hlt)⟩
    obtain ⟨gc, oc, rfl, HX⟩ := HC.out k x hx
    have HFQ : Hid ((if dueB l a b x then (if x ∈ c.take k then 10 else fcE l a b (c.take k ++ [x]) (c.drop (k + 1))) else 4) = ce) := by
      have h1 := hf.out
      rw [drop_cons hx] at h1
      exact h1
    have HTK : Hid (c.take (k + 1) = c.take k ++ [x]) := by show _ = _; rw [List.take_add_one, hx, Option.toList_some]
    have HDU := Lib.hid (due_any HND.out a b x)
    obtain ⟨xs, hxs⟩ : ∃ z, x.sub = z := ⟨_, rfl⟩
    obtain ⟨xd, hxd⟩ : ∃ z, x.day = z := ⟨_, rfl⟩
    have HXC : Hid (∀ Y, Below w.heap.size w Y → Y.cell? ⟨gc, oc + k * 2, none⟩ = some (.int .i64 xs) ∧ Y.cell? ⟨gc, oc + k * 2 + 1, none⟩ = some (.int .i64 xd)) := fun Y hY => by
      rw [← hxs, ← hxd]
      exact HX.out Y hY
    have HDS : Hid (∀ s : SubD, dueS a b x s = (decide (s.id = xs) && (inB xd a b && s.getB xd))) := fun s => by rw [← hxs, ← hxd]; rfl
    have HXE : Hid (x.sub = xs ∧ x.day = xd) := ⟨hxs, hxd⟩
    have k0 : (0 : Int) ≤ (k : Int) := by omega
    have k1 : (k : Int) < (m : Int) := by omega
    clear hx HX hf hxs hxd
    go_wp2_with fail
    go_loopw [14, 15] (fun o i wr => ∃ (j : Nat) (ok : Bool), j ≤ n ∧ i = .int .i64 j ∧ o = .bool ok ∧ Hid (ok = (l.take j).any (dueS a b x)) ∧ Hid (Below W0.heap.size W0 wr)) (fun _ i _ => n - (intOf i).toNat)
    case atStart => exact ⟨0, false, Nat.zero_le _, rfl, rfl, rfl, hB.out⟩
    case round =>
    clear hB
    obtain ⟨j, ok, hj, rfl, rfl, hok, hB⟩ := hrel
    obtain ⟨V, rfl⟩ : ∃ X : World, X = wr := ⟨_, rfl⟩
    have HBV : Hid (Below w.heap.size w V) := HB0.out.trans (hB.out.mono HB0.out.size)
    by_cases hjn : j < n
    · obtain ⟨s, hs⟩ : ∃ x, l[j]? = some x := ⟨_, List.getElem?_eq_getElem (by rw [HN.out]; exact hjn)⟩
      obtain ⟨g, o, u, rfl, HS⟩ := HD.out j s hs
      obtain ⟨⟨s0, s1, s2, s3, s4⟩, -⟩ := HS.out V HBV.out
      obtain ⟨x0, x1⟩ := HXC.out V HBV.out
      have HSO := Lib.hid (HLO.out s (List.mem_of_getElem? hs))
      have HNX : Hid ((l.take (j + 1)).any (dueS a b x) = (ok || (decide (s.id = xs) && (inB xd a b && s.getB xd)))) := by
        show _ = _
        rw [any_next' hs, hok.out, HDS.out]
      have j0 : (0 : Int) ≤ (j : Int) := by omega
      have j1 : (j : Int) < (n : Int) := by omega
      obtain ⟨si, hsi⟩ : ∃ z, s.id = z := ⟨_, rfl⟩
      have HSI := Lib.hid hsi
      rw [hsi] at s0
      have HVD : Hid (∀ q, Below W0.heap.size W0 (V.drewN q)) := fun q => below_drewN hB.out q
      have HNOT : Hid ((decide (si = xs) && inB xd a b) = false → ok = (l.take (j + 1)).any (dueS a b x)) := fun h => by
        rw [HNX.out, HSI.out, ← Bool.and_assoc, h]
        simp
      clear hs hsi hok
      by_cases hid : si = xs
      case neg =>
        have g1 : (si == xs) = false := by simpa using hid
        have HN2 := Lib.hid (HNOT.out (by rw [decide_eq_false hid]; rfl))
        clear hid
        go_wp2_with fail
        go_quiet (fail)
        go_wp2_with fail
        go_roundw
        case rel => exact ⟨j + 1, ok, by omega, by go_num, rfl, HN2, HVD.out _⟩
        case measure => simp [intOf]; omega
      have g1 : (si == xs) = true := by simpa using hid
      by_cases hda : a ≤ xd
      case neg =>
        have g2 : decide (a ≤ xd) = false := by simpa using hda
        have HN2 := Lib.hid (HNOT.out (by rw [show inB xd a b = false by rw [Bool.eq_false_iff]; intro h; have := inB_iff.1 h; omega]; simp))
        clear hid hda
        go_wp2_with fail
        go_quiet (fail)
        go_wp2_with fail
        go_roundw
        case rel => exact ⟨j + 1, ok, by omega, by go_num, rfl, HN2, HVD.out _⟩
        case measure => simp [intOf]; omega
      have g2 : decide (a ≤ xd) = true := by simpa using hda
      by_cases hdb : xd ≤ b
      case neg =>
        have g3 : decide (xd ≤ b) = false := by simpa using hdb
        have HN2 := Lib.hid (HNOT.out (by rw [show inB xd a b = false by rw [Bool.eq_false_iff]; intro h; have := inB_iff.1 h; omega]; simp))
        clear hid hda hdb
        go_wp2_with fail
        go_quiet (fail)
        go_wp2_with fail
        go_roundw
        case rel => exact ⟨j + 1, ok, by omega, by go_num, rfl, HN2, HVD.out _⟩
        case measure => simp [intOf]; omega
      have g3 : decide (xd ≤ b) = true := by simpa using hdb
      obtain ⟨gb, hgb⟩ : ∃ z, s.gets xd = z := ⟨_, rfl⟩
      have HN3 : Hid ((l.take (j + 1)).any (dueS a b x) = (ok || gb)) := by
        show _ = _
        rw [HNX.out, HSI.out, decide_eq_true hid, inB_iff.2 ⟨hda, hdb⟩, getB_gets HSO.out (show 0 ≤ xd by omega), hgb]
        rfl
      have CG : Hid (∀ Y, Below V.heap.size V Y → Calls Try.prog 108 #[.agg #[.int .i64 si, .int .i64 s.from_, .int .i64 s.to_, .int .i64 s.days, u], .int .i64 xd] Y fun e w' => e = .returned (.bool gb) ∧ Hid (Below Y.heap.size Y w')) := fun Y hY => by
        have h1 := refGetsC_any s HSO.out xd ⟨by omega, by omega⟩ _ Y (HS.out Y (HBV.out.trans (hY.mono HBV.out.size))).2
        rw [hgb, HSI.out] at h1
        exact h1
      have HTT : Hid (∀ Y, Below V.heap.size V Y → ((Y.cell? ⟨g, o + j * 5, none⟩ = some (.int .i64 si) ∧ Y.cell? ⟨g, o + j * 5 + 1, none⟩ = some (.int .i64 s.from_) ∧ Y.cell? ⟨g, o + j * 5 + 2, none⟩ = some (.int .i64 s.to_) ∧ Y.cell? ⟨g, o + j * 5 + 3, none⟩ = some (.int .i64 s.days) ∧ Y.cell? ⟨g, o + j * 5 + 4, none⟩ = some u) ∧ (Y.cell? ⟨gc, oc + k * 2, none⟩ = some (.int .i64 xs) ∧ Y.cell? ⟨gc, oc + k * 2 + 1, none⟩ = some (.int .i64 xd)))) := fun Y hY => by
        have h1 := HBV.out.trans (hY.mono HBV.out.size)
        rw [← HSI.out]
        exact ⟨(HS.out Y h1).1, HXC.out Y h1⟩
      have S1 := HTT.out V (Below.refl _ _)
      have HD0 : Hid (Below V.heap.size V V.drew) := (Below.refl _ _).drew
      clear hid hda hdb hgb HNOT HNX HS s0 s1 s2 s3 s4 x0 x1
      go_upto_region 17 with fail
      go_region_held3 (fun Y => ((Y.cell? ⟨g, o + j * 5, none⟩ = some (.int .i64 si) ∧ Y.cell? ⟨g, o + j * 5 + 1, none⟩ = some (.int .i64 s.from_) ∧ Y.cell? ⟨g, o + j * 5 + 2, none⟩ = some (.int .i64 s.to_) ∧ Y.cell? ⟨g, o + j * 5 + 3, none⟩ = some (.int .i64 s.days) ∧ Y.cell? ⟨g, o + j * 5 + 4, none⟩ = some u) ∧ (Y.cell? ⟨gc, oc + k * 2, none⟩ = some (.int .i64 xs) ∧ Y.cell? ⟨gc, oc + k * 2 + 1, none⟩ = some (.int .i64 xd))))
        (first | with_reducible exact T1 | with_reducible exact S1 | go_keep)
        (first | (go_at_call 108; with_reducible refine (CG.out _ HD0.out).mono ?_; rintro _ y1 ⟨rfl, HY1⟩; have H1 := Lib.hid (HD0.out.trans (HY1.out.mono HD0.out.size)); have T1 := HTT.out y1 H1.out))
      all_goals
        clear S1
        have HBE : Hid (Below W0.heap.size W0 y1) := hB.out.trans (H1.out.mono hB.out.size)
        cases gb with
        | true =>
          have HN2 : Hid (true = (l.take (j + 1)).any (dueS a b x)) := by show _ = _; rw [HN3.out]; simp
          go_wp2_with fail
          go_roundw
          case rel => exact ⟨j + 1, true, by omega, by go_num, rfl, HN2, HBE⟩
          case measure => simp [intOf]; omega
        | false =>
          have HN2 : Hid (ok = (l.take (j + 1)).any (dueS a b x)) := by show _ = _; rw [HN3.out]; simp
          go_wp2_with fail
          go_roundw
          case rel => exact ⟨j + 1, ok, by omega, by go_num, rfl, HN2, HBE⟩
          case measure => simp [intOf]; omega
    obtain rfl : j = n := by omega
    have HOD : Hid (dueB l a b x = ok) := by
      show _ = _
      rw [hok.out, List.take_of_length_le (by rw [HN.out]; exact Nat.le_refl _), HDU.out]
    clear hok HDS HDU
    cases ok with
    | false =>
      have HRY := Lib.hid (HK.out V hB.out).2
      have r0 := cellOf HRY.out 0 (x := .slice none 0 0) rfl
      have r1 := cellOf HRY.out 1 (x := .int .i64 0) rfl
      have f0 := HRY.out.frozen 0
      have f1 := HRY.out.frozen 1
      have HFIN := Lib.hid (HERR.out V 4 hB.out (by rw [← HFQ.out, HOD.out]; rfl) (by omega))
      have R := (HRY.out.put 0 (.slice none 0 0)).put 1 (.int .i64 0)
      have e0 := cellOf R 0 (x := (.slice none 0 0)) rfl
      have e1 := cellOf R 1 (x := (.int .i64 0)) rfl
      clear R
      go_wp2_with fail
      exact bodyPost_ret (v := .tuple #[.agg #[(.slice none 0 0), (.int .i64 0)], .int .i64 4]) (by simp [results, Try.results65, go_sem, e0, e1]) rfl HFIN.out
    | true =>
    have HFQ2 : Hid ((if x ∈ c.take k then 10 else fcE l a b (c.take k ++ [x]) (c.drop (k + 1))) = ce) := by
      have h1 := HFQ.out
      rw [HOD.out] at h1
      exact h1
    clear HFQ HOD
    go_wp2_with fail
    go_loopw [16] (fun i wr => ∃ j' : Nat, j' ≤ k ∧ i = .int .i64 j' ∧ Hid (∀ (i : Nat) (y : CmpD), i < j' → c[i]? = some y → ¬ y = x) ∧ Hid (Below W0.heap.size W0 wr)) (fun i _ => k - (intOf i).toNat)
    case atStart => exact ⟨0, Nat.zero_le _, rfl, fun i y hi => absurd hi (Nat.not_lt_zero _), hB.out⟩
    case round =>
    clear hB HBV
    obtain ⟨i, hi, rfl, hno, hB⟩ := hrel
    obtain ⟨U, rfl⟩ : ∃ X : World, X = wr := ⟨_, rfl⟩
    have HBU : Hid (Below w.heap.size w U) := HB0.out.trans (hB.out.mono HB0.out.size)
    have HUD : Hid (∀ q, Below W0.heap.size W0 (U.drewN q)) := fun q => below_drewN hB.out q
    by_cases hik : i < k
    · obtain ⟨y, hy⟩ : ∃ x, c[i]? = some x := ⟨_, List.getElem?_eq_getElem (by rw [HM.out]; omega)⟩
      obtain ⟨g', o', e', HY⟩ := HC.out i y hy
      cases e'
      obtain ⟨y0, y1⟩ := HY.out U HBU.out
      obtain ⟨x0, x1⟩ := HXC.out U HBU.out
      obtain ⟨ys, hys⟩ : ∃ z, y.sub = z := ⟨_, rfl⟩
      obtain ⟨yd, hyd⟩ : ∃ z, y.day = z := ⟨_, rfl⟩
      rw [hys] at y0
      rw [hyd] at y1
      have i0 : (0 : Int) ≤ (i : Int) := by omega
      have i1 : (i : Int) < (m : Int) := by omega
      have i2 : (i : Int) < (k : Int) := by omega
      have hne := eqRCb ys yd xs xd
      by_cases he : ys = xs ∧ yd = xd
      · have hyx : y = x := by
          obtain ⟨e1, e2⟩ := HXE.out
          cases x; cases y
          simp only at e1 e2 hys hyd
          rw [hys, hyd, e1, e2, he.1, he.2]
        have hmem : x ∈ c.take k := by
          rw [← hyx]
          exact List.mem_iff_getElem?.2 ⟨i, by rw [List.getElem?_take]; simp [hik, hy]⟩
        have HX : Hid (ce = 10) := by show _ = _; rw [← HFQ2.out, if_pos hmem]
        have hn2 : ∀ w, (binOp .eql 134 (.agg #[.int .i64 ys, .int .i64 yd]) (.agg #[.int .i64 xs, .int .i64 xd])).run Try.prog w = .ok (.bool true) w := fun w => by rw [hne, he.1, he.2]; simp
        clear hy HY hys hyd hne he hyx hmem
        go_wp2_with fail
        go_quiet (fail)
        have HBE := Lib.hid (HUD.out nq)
        clear y0 y1 x0 x1
        obtain ⟨U2, hU2⟩ : ∃ Z, U.drewN nq = Z := ⟨_, rfl⟩
        rw [hU2] at HBE ⊢
        clear hU2
        have HRY := Lib.hid (HK.out U2 HBE.out).2
        have r0 := cellOf HRY.out 0 (x := .slice none 0 0) rfl
        have r1 := cellOf HRY.out 1 (x := .int .i64 0) rfl
        have f0 := HRY.out.frozen 0
        have f1 := HRY.out.frozen 1
        have HFIN := Lib.hid (HERR.out U2 10 HBE.out HX.out (by omega))
        have R := (HRY.out.put 0 (.slice none 0 0)).put 1 (.int .i64 0)
        have e0 := cellOf R 0 (x := (.slice none 0 0)) rfl
        have e1 := cellOf R 1 (x := (.int .i64 0)) rfl
        clear R
        go_wp2_with fail
        exact bodyPost_ret (v := .tuple #[.agg #[(.slice none 0 0), (.int .i64 0)], .int .i64 10]) (by simp [results, Try.results65, go_sem, e0, e1]) rfl HFIN.out
      · have hn2 : ∀ w, (binOp .eql 134 (.agg #[.int .i64 ys, .int .i64 yd]) (.agg #[.int .i64 xs, .int .i64 xd])).run Try.prog w = .ok (.bool false) w := fun w => by
          rw [hne]
          have : (ys == xs && yd == xd) = false := by
            rw [Bool.eq_false_iff]
            intro h
            rw [Bool.and_eq_true, beq_iff_eq, beq_iff_eq] at h
            exact he h
          rw [this]
        have HNO : Hid (∀ (i' : Nat) (y : CmpD), i' < i + 1 → c[i']? = some y → ¬ y = x) := fun i' y' hi' hy' => by
          by_cases e : i' = i
          · subst e
            rw [hy] at hy'
            cases hy'
            intro e2
            obtain ⟨e3, e4⟩ := HXE.out
            exact he ⟨by rw [← hys, e2, e3], by rw [← hyd, e2, e4]⟩
          · exact hno.out i' y' (by omega) hy'
        clear hy HY hys hyd hne he
        go_wp2_with fail
        go_quiet (fail)
        go_wp2_with fail
        go_roundw
        case rel => exact ⟨i + 1, by omega, by go_num, HNO, HUD.out _⟩
        case measure => simp [intOf]; omega
    · obtain rfl : i = k := by omega
      have HNI : Hid (¬ x ∈ c.take i) := fun h => by
        obtain ⟨q, hq⟩ := List.mem_iff_getElem?.1 h
        rw [List.getElem?_take] at hq
        split at hq
        · rename_i hqi
          exact hno.out q x hqi hq rfl
        · cases hq
      have HF2 : Hid (fcE l a b (c.take (i + 1)) (c.drop (i + 1)) = ce) := by
        have h1 := HFQ2.out
        rw [if_neg HNI.out, ← HTK.out] at h1
        exact h1
      clear hno HFQ2 HTK
      go_wp2_with fail
      go_roundw
      case rel => exact ⟨i + 1, by omega, by go_num, HF2, hB⟩
      case measure => simp [intOf]; omega
  obtain rfl : k = m := by omega
  have HC0 : Hid (ce = 0) := by
    show _ = _
    rw [← hf.out, List.drop_eq_nil_of_le (by rw [HM.out]; exact Nat.le_refl _)]
    rfl
  have HBD : Hid (∀ j, j ≤ n → 0 ≤ copK l a b j ∧ copK l a b j ≤ 20001 * (j : Int)) := fun j hj => copK_bd HLO.out a0 b20 j (by rw [HN.out]; exact hj)
  clear hf
  go_wp2_with fail
  go_loopw [17, 18] (fun s i wr => ∃ j : Nat, j ≤ n ∧ i = .int .i64 j ∧ ∃ S : Int, s = .int .i64 S ∧ Hid (S = copK l a b j) ∧ Hid (Below W0.heap.size W0 wr)) (fun _ i _ => n - (intOf i).toNat)
  case atStart => exact ⟨0, Nat.zero_le _, rfl, 0, rfl, by show _ = _; simp [copK, sumI], hB.out⟩
  case round =>
  clear hB
  obtain ⟨j, hj, rfl, S, rfl, hS, hB⟩ := hrel
  obtain ⟨V, rfl⟩ : ∃ X : World, X = wr := ⟨_, rfl⟩
  have HBV : Hid (Below w.heap.size w V) := HB0.out.trans (hB.out.mono HB0.out.size)
  obtain ⟨s1, s2⟩ : 0 ≤ S ∧ S ≤ 20001 * (j : Int) := by rw [hS.out]; exact HBD.out j hj
  by_cases hjn : j < n
  · obtain ⟨x, hx⟩ : ∃ x, l[j]? = some x := ⟨_, List.getElem?_eq_getElem (by rw [HN.out]; exact hjn)⟩
    obtain ⟨g, o, u, rfl, HX⟩ := HD.out j x hx
    obtain ⟨⟨c0, c1, c2', c3, c4⟩, hrs⟩ := HX.out V HBV.out
    have CG := Lib.hid (refCopiesC_any x (HLO.out x (List.mem_of_getElem? hx)) a b HAB.out _ V hrs)
    obtain ⟨gc, hgc⟩ : ∃ b', x.copies a b = b' := ⟨_, rfl⟩
    rw [hgc] at CG
    have hnx := copK_next (a := a) (b := b) hx
    rw [hgc] at hnx
    have HNX : Hid (S + gc = copK l a b (j + 1)) := by show _ = _; rw [hnx, hS.out]
    have u1 : -20000000 ≤ S + gc := by have := HBD.out (j + 1) (by omega); have := HNX.out; omega
    have u2 : S + gc ≤ 20000000 := by have := HBD.out (j + 1) (by omega); have := HNX.out; omega
    have j0 : (0 : Int) ≤ (j : Int) := by omega
    have j1 : (j : Int) < (n : Int) := by omega
    clear hx hrs HX hgc hnx hS
    go_wp2_with fail
    refine CG.out.mono ?_
    rintro _ V2 ⟨rfl, hb2⟩
    have HB2 : Hid (Below W0.heap.size W0 V2) := hB.out.trans (hb2.mono hB.out.size)
    clear CG hb2 c0 c1 c2' c3 c4 hB
    go_wp2_with fail
    go_roundw
    case rel => exact ⟨j + 1, by omega, by go_num, _, rfl, HNX, HB2⟩
    case measure => simp [intOf]; omega
  obtain rfl : j = n := by omega
  obtain ⟨HSe, HLe, HEe⟩ := HOK.out HC0.out
  have HOKX : Hid (carrS t l a b c = carS t S k ∧ carrL t l a b c = carL t S k ∧ carrE t l a b c = 0) := by
    rw [hS.out]
    exact ⟨HSe, HLe, HEe⟩
  obtain ⟨-, -, -, ⟨tc0, tc1⟩, td0, td1⟩ := TarD.okB_iff.1 HTB.out
  have m1 : 0 ≤ S * t.carry ∧ S * t.carry ≤ 12000000 * 10000 := ⟨Int.mul_nonneg s1 tc0, Int.mul_le_mul (by omega) tc1 tc0 (by omega)⟩
  have m2 : 0 ≤ (k : Int) * t.credit ∧ (k : Int) * t.credit ≤ 500 * 10000 := ⟨Int.mul_nonneg (by omega) td0, Int.mul_le_mul (by omega) td1 td0 (by omega)⟩
  obtain ⟨p1, hp1⟩ : ∃ z, S * t.carry = z := ⟨_, rfl⟩
  obtain ⟨p2, hp2⟩ : ∃ z, -(k : Int) * t.credit = z := ⟨_, rfl⟩
  have hp2' : p2 = -((k : Int) * t.credit) := by rw [← hp2, Int.neg_mul]
  rw [hp1] at m1
  obtain ⟨m1a, m1b⟩ := m1
  have m2a : -40000000000 ≤ p2 := by omega
  have m2b : p2 ≤ 0 := by omega
  have HL3 : Hid (carrL t l a b c = [⟨4, S, p1⟩, ⟨5, (k : Int), p2⟩]) := by
    show _ = _
    rw [HOKX.out.2.1]
    unfold carL
    rw [hp1, Int.mul_neg, hp2']
  have HS3 : Hid (carrS t l a b c = p1 + p2) := by
    show _ = _
    rw [HOKX.out.1]
    unfold carS
    rw [hp1, Int.mul_neg, hp2']
  have F8 : ∃ X1, V.alloc (.cells #[.int .i64 4, .int .i64 S, .int .i64 p1, .int .i64 5, .int .i64 (k : Int), .int .i64 p2] 190) = X1 ∧ Hid (Below V.heap.size V X1) ∧ Hid (Blk X1 V.heap.size 190 #[.int .i64 4, .int .i64 S, .int .i64 p1, .int .i64 5, .int .i64 (k : Int), .int .i64 p2]) := ⟨_, rfl, below_alloc _ _, Blk.new _ _ _⟩
  obtain ⟨X1, e8, HX1, HK8⟩ := F8
  have E8 := Lib.hid e8
  have HB8 : Hid (Below W0.heap.size W0 X1) := hB.out.trans (HX1.out.mono hB.out.size)
  obtain ⟨q, hq⟩ : ∃ q, V.heap.size = q := ⟨_, rfl⟩
  rw [hq] at HK8
  have HQ := Lib.hid hq
  obtain ⟨LL, hLL⟩ : ∃ LL : List LineD, LL = [⟨4, S, p1⟩, ⟨5, (k : Int), p2⟩] := ⟨_, rfl⟩
  have hLn : LL.length = 2 := by rw [hLL]; rfl
  have hRL : RLns X1.heap.size X1 (.slice (some ⟨q, 0, none⟩) 2 2) LL := by
    rw [hLL]
    exact ⟨_, _, rfl, rfl, by simp [maxLen], fun _ => ⟨q, 0, rfl, HK8.out.lt, fun j u hj => by rw [Nat.zero_add, HK8.out.cell]; simpa [LineD.cells] using hj⟩⟩
  have hAM : amK LL 0 = 0 ∧ amK LL 1 = p1 ∧ amK LL 2 = p1 + p2 := by
    rw [hLL]
    simp only [amK, sumI, List.take, List.map, List.foldr]
    exact ⟨by first | trivial | rfl, by omega, by omega⟩
  have CSU := Lib.hid (refSum_any LL (fun j hj => by
    rw [hLn] at hj
    have : j = 0 ∨ j = 1 ∨ j = 2 := by omega
    rcases this with e | e | e <;> subst e
    · rw [hAM.1]; omega
    · rw [hAM.2.1]; omega
    · rw [hAM.2.2]; omega) _ X1 hRL)
  rw [hLn, hAM.2.2, ← HS3.out] at CSU
  have HQP : Hid (p + 1 < q) := by
    have h1 := (HK.out V hB.out).2.lt
    rw [HQ.out] at h1
    exact h1
  have HRLL : Hid (∀ Y, Blk Y q 190 #[.int .i64 4, .int .i64 S, .int .i64 p1, .int .i64 5, .int .i64 (k : Int), .int .i64 p2] → ORLns w.heap.size Y (.slice (some ⟨q, 0, none⟩) 2 2) (carrL t l a b c)) := fun Y hY => by
    rw [HL3.out]
    exact row_of_blk' hY (by rw [HP.out]; have := HQP.out; omega) rfl (by simp [maxLen])
  obtain ⟨SS, hSS⟩ : ∃ z, carrS t l a b c = z := ⟨_, rfl⟩
  rw [hSS] at CSU
  have HSSE := Lib.hid hSS
  obtain ⟨⟨w3, w4⟩, -⟩ := HK.out V hB.out
  have nb0 : -100000000 ≤ -(k : Int) := by omega
  have nb1 : -(k : Int) ≤ 100000000 := by omega
  clear hp2' m2 e8 hq hLL hLn hRL hAM hSS hB hS HSe HLe HEe
  go_upto_region 31 with fail
  go_wp2_with (go_at_call 112; rw [E8.out, HQ.out]; refine CSU.out.mono ?_; rintro _ Y ⟨rfl, hb9⟩; have HBY := Lib.hid (HB8.out.trans (hb9.mono HB8.out.size)); have HRY := Lib.hid (HK.out Y HBY.out).2; have r0 := cellOf HRY.out 0 (x := .slice none 0 0) rfl; have r1 := cellOf HRY.out 1 (x := .int .i64 0) rfl; have f0 := HRY.out.frozen 0; have f1 := HRY.out.frozen 1)
  have R := (HRY.out.put 0 (.slice (some ⟨q, 0, none⟩) 2 2)).put 1 (.int .i64 SS)
  have e0 := cellOf R 0 (x := .slice (some ⟨q, 0, none⟩) 2 2) rfl
  have e1 := cellOf R 1 (x := .int .i64 SS) rfl
  have hKK : KeptBut (fun i => i = p + 1) Y ((Y.setCell ⟨p + 1, 0, none⟩ (.slice (some ⟨q, 0, none⟩) 2 2)).setCell ⟨p + 1, 1, none⟩ (.int .i64 SS)) := (KeptBut.setCell (S := fun i => i = p + 1) rfl _).trans (KeptBut.setCell (S := fun i => i = p + 1) rfl _) fun _ _ h => h
  have HFIN : Hid (RCarRt t l a b c w (.returned (.tuple #[.agg #[.slice (some ⟨q, 0, none⟩) 2 2, .int .i64 SS], .int .i64 0])) ((Y.setCell ⟨p + 1, 0, none⟩ (.slice (some ⟨q, 0, none⟩) 2 2)).setCell ⟨p + 1, 1, none⟩ (.int .i64 SS))) := by
    refine ⟨_, by rw [HSSE.out, HOKX.out.2.2], HRLL.out _ (hKK.blk (HK8.out.below hb9 HK8.out.lt) (by have := HQP.out; omega)), ?_⟩
    have h1 := HB0.out.trans (HBY.out.mono HB0.out.size)
    exact h1.trans (hKK.below (fun i hi => by rw [hi, HP.out]; omega) h1.size)
  clear hKK R
  exact bodyPost_ret (v := .tuple #[.agg #[.slice (some ⟨q, 0, none⟩) 2 2, .int .i64 SS], .int .i64 0]) (by simp [results, Try.results65, go_sem, e0, e1]) rfl HFIN.out
end Go.Proofs.Ytlmpbmlbllndcaa
