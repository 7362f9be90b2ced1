/-
  checkComplaints, of at most one complaint.
-/
import Derived.Test.YtlmpbmlbllndcaaJb
import Derived.Test.YtlmpbmlbllndcaaJa
namespace Go.Proofs.Ytlmpbmlbllndcaa
open Go.RowKit
attribute [local go_sem] Oper.semAt_some

structure CmpD where
  sub : Int
  day : Int
def CmpD.cells (x : CmpD) : List Value := [.int .i64 x.sub, .int .i64 x.day]
/-- Whether a complaint is of a copy that was to come. -/
def dueB (l : List SubD) (a b : Int) (x : CmpD) : Bool := match l.find? fun s => decide (s.id = x.sub) with
  | some s => inB x.day a b && s.getB x.day
  | none => false
def subKV (x : SubD × Value) : Int × Value := (x.1.id, x.1.val x.2)
theorem keys_ids : ∀ (l : List SubD) (us : List Value), us.length = l.length → ((l.zip us).map subKV).map Prod.fst = l.map SubD.id
  | [], [], _ => rfl
  | x :: l, u :: us, h => by
    have := keys_ids l us (by simpa using h)
    simp only [List.zip_cons_cons, List.map_cons] at this ⊢
    rw [this]
    rfl
/-- Subscribers by place, with the slices of their holidays, each at any later world. -/
theorem subs_us {w : World} {v : Value} {l : List SubD} (h : RSubs w.heap.size w v l) : ∃ (us : List Value) (A : Option Addr) (c : Nat), us.length = l.length ∧ v = .slice A l.length c ∧ l.length ≤ 9223372036854775807 ∧
    Hid (∀ (k : Nat) (s : SubD) (u : Value), l[k]? = some s → us[k]? = some u → ∃ g o, A = some ⟨g, o, none⟩ ∧ Hid (∀ X, Below w.heap.size w X → X.cell? ⟨g, o + k * 5, none⟩ = some (.int .i64 s.id) ∧ X.cell? ⟨g, o + k * 5 + 1, none⟩ = some (.int .i64 s.from_) ∧ X.cell? ⟨g, o + k * 5 + 2, none⟩ = some (.int .i64 s.to_) ∧ X.cell? ⟨g, o + k * 5 + 3, none⟩ = some (.int .i64 s.days) ∧ X.cell? ⟨g, o + k * 5 + 4, none⟩ = some u)) ∧
    Hid (∀ (k : Nat) (s : SubD) (u : Value), l[k]? = some s → us[k]? = some u → ∀ X, Below w.heap.size w X → RSub X.heap.size X (.agg #[.int .i64 s.id, .int .i64 s.from_, .int .i64 s.to_, .int .i64 s.days, u]) s) := by
  obtain ⟨us, hu, ⟨A, c, rfl, -, hm, hr⟩, hs⟩ := h
  refine ⟨us, A, c, hu, rfl, by simpa [maxLen] using hm, fun k s u hk hku => ?_, fun k s u hk hku X hX => ⟨u, rfl, (Rd.below (hs k u s hku hk) hX).more hX.size⟩⟩
  have hkl : k < l.length := (List.getElem?_eq_some_iff.1 hk).1
  have hz : (l.zip us)[k]? = some (s, u) := List.getElem?_zip_eq_some.2 ⟨hk, hku⟩
  obtain ⟨g, o, hA, hb, hc⟩ := hr (by omega)
  have hf := fun j hj => flat_at subCells 5 (fun _ => rfl) _ k j _ hz hj
  exact ⟨g, o, hA, fun X hX => ⟨(hX.cell (p := ⟨g, o + k * 5, none⟩) hb).trans (hc _ _ (hf 0 (by omega))), (hX.cell (p := ⟨g, o + k * 5 + 1, none⟩) hb).trans (hc _ _ (hf 1 (by omega))), (hX.cell (p := ⟨g, o + k * 5 + 2, none⟩) hb).trans (hc _ _ (hf 2 (by omega))), (hX.cell (p := ⟨g, o + k * 5 + 3, none⟩) hb).trans (hc _ _ (hf 3 (by omega))), (hX.cell (p := ⟨g, o + k * 5 + 4, none⟩) hb).trans (hc _ _ (hf 4 (by omega)))⟩⟩
theorem mapSub : Try.prog.underlying 216 = some (.map 3 42) := by kernel_rfl
theorem zeroSub : ∀ w : World, (zeroValue 42).run Try.prog w = .ok (.agg #[.int .i64 0, .int .i64 0, .int .i64 0, .int .i64 0, .slice none 0 0]) w := fun w => by kernel_rfl
set_option maxHeartbeats 2000000 in
theorem cmpKey_any (x : CmpD) (w : World) : Calls Try.prog 139 #[.agg #[.int .i64 x.sub, .int .i64 x.day]] w fun e w' => e = .returned (.agg #[.int .i64 x.sub, .int .i64 x.day]) ∧ Below w.heap.size w w' := by
  have F0 : ∃ W0, (w.alloc (.cells #[.int .i64 x.sub, .int .i64 x.day] 91)).alloc (.cells #[.int .i64 0, .int .i64 0] 91) = W0 ∧ Hid (Below w.heap.size w W0) ∧ Hid (Blk W0 w.heap.size 91 #[.int .i64 x.sub, .int .i64 x.day] ∧ Blk W0 (w.heap.size + 1) 91 #[.int .i64 0, .int .i64 0]) :=
    ⟨_, rfl, sbelow_al (below_alloc _ _) _, (Blk.new _ _ _).alloc _, blk_new (by simp) _ _⟩
  obtain ⟨Y, e0, HB0, HK0⟩ := F0
  have E0 := Lib.hid e0
  obtain ⟨p, hp⟩ : ∃ p, w.heap.size = p := ⟨_, rfl⟩
  rw [hp] at HK0
  have HP := Lib.hid hp
  have z0 := cellOf HK0.out.1 0 (x := .int .i64 x.sub) rfl
  have z1 := cellOf HK0.out.1 1 (x := .int .i64 x.day) rfl
  have r0 := cellOf HK0.out.2 0 (x := .int .i64 0) rfl
  have r1 := cellOf HK0.out.2 1 (x := .int .i64 0) rfl
  have f0 := HK0.out.2.frozen 0
  have f1 := HK0.out.2.frozen 1
  have R := (HK0.out.2.put 0 (.int .i64 x.sub)).put 1 (.int .i64 x.day)
  have e0' := cellOf R 0 (x := .int .i64 x.sub) rfl
  have e1' := cellOf R 1 (x := .int .i64 x.day) rfl
  have hK : KeptBut (fun g => g = p + 1) Y ((Y.setCell ⟨p + 1, 0, none⟩ (.int .i64 x.sub)).setCell ⟨p + 1, 1, none⟩ (.int .i64 x.day)) := (KeptBut.setCell (S := fun g => g = p + 1) rfl _).trans (KeptBut.setCell (S := fun g => g = p + 1) rfl _) fun _ _ h => h
  have HFIN : Hid (Below w.heap.size w ((Y.setCell ⟨p + 1, 0, none⟩ (.int .i64 x.sub)).setCell ⟨p + 1, 1, none⟩ (.int .i64 x.day))) := HB0.out.trans (hK.below (fun g hg => by rw [hg, ← HP.out]; omega) HB0.out.size)
  clear hK R e0 hp
  go_enter Try.func139, Try.ntmps139
  go_upto_region 1 with fail
  rw [E0.out, HP.out]
  clear E0
  go_wp2_with fail
  exact bodyPost_ret (v := .agg #[.int .i64 x.sub, .int .i64 x.day]) (by simp [results, Try.results139, go_sem, e0', e1']) rfl ⟨rfl, HFIN.out⟩
/-- What the closure that asks whether a complaint is due reads. -/
structure DueSt (l : List SubD) (us : List Value) (a b : Int) (mp MB FB TB : Nat) (X : World) : Prop where
  map : MapAt X mp ((l.zip us).map subKV)
  box : Blk X MB 216 #[.map (some mp)]
  fb : Blk X FB 3 #[.int .i64 a]
  tb : Blk X TB 3 #[.int .i64 b]
  len : us.length = l.length
  subs : ∀ (k : Nat) (s : SubD) (u : Value), l[k]? = some s → us[k]? = some u → ∀ Y, Below X.heap.size X Y → RSub Y.heap.size Y (.agg #[.int .i64 s.id, .int .i64 s.from_, .int .i64 s.to_, .int .i64 s.days, u]) s
theorem DueSt.below {l : List SubD} {us : List Value} {a b : Int} {mp MB FB TB : Nat} {X Y : World} (h : DueSt l us a b mp MB FB TB X) (hb : Below X.heap.size X Y) : DueSt l us a b mp MB FB TB Y :=
  ⟨h.map.below hb h.map.lt, h.box.below hb h.box.lt, h.fb.below hb h.fb.lt, h.tb.below hb h.tb.lt, h.len, fun k s u h1 h2 Z hZ => h.subs k s u h1 h2 Z (hb.trans (hZ.mono hb.size))⟩
theorem due_find {l : List SubD} (hn : (l.map SubD.id).Nodup) {k : Nat} {s : SubD} (hk : l[k]? = some s) (i : Int) (hi : s.id = i) : (l.find? fun s => decide (s.id = i)) = some s := by
  induction l generalizing k with
  | nil => simp at hk
  | cons x l ih =>
    rw [List.map_cons, List.nodup_cons] at hn
    match k, hk with
    | 0, hk =>
      obtain rfl : x = s := by simpa using hk
      rw [List.find?_cons_of_pos (by simpa using hi)]
    | k + 1, hk =>
      have hk' : l[k]? = some s := by simpa using hk
      have hx : x.id ≠ i := fun e => hn.1 (List.mem_map.2 ⟨s, List.mem_of_getElem? hk', by rw [hi, e]⟩)
      rw [List.find?_cons_of_neg (by simpa using hx)]
      exact ih hn.2 hk'
theorem due_none {l : List SubD} {i : Int} (h : i ∉ l.map SubD.id) : (l.find? fun s => decide (s.id = i)) = none := by
  rw [List.find?_eq_none]
  intro x hx e
  exact h (List.mem_map.2 ⟨x, hx, of_decide_eq_true e⟩)
set_option maxRecDepth 100000 in
set_option maxHeartbeats 4000000 in
theorem isDue_any (l : List SubD) (us : List Value) (a b : Int) (hab : dayB a b = true) (hl : ∀ s ∈ l, s.Ok) (hid : (l.map SubD.id).Nodup) (mp MB FB TB : Nat) (x : CmpD) (w : World) (h : DueSt l us a b mp MB FB TB w) :
    Calls Try.prog 137 #[.agg #[.int .i64 x.sub, .int .i64 x.day], .pointer (some ⟨MB, 0, none⟩), .pointer (some ⟨FB, 0, none⟩), .pointer (some ⟨TB, 0, none⟩)] w fun e w' => e = .returned (.bool (dueB l a b x)) ∧ Below w.heap.size w w' := by
  have HD := dayB_iff.1 hab
  have F0 : ∃ W0, w.alloc (.cells #[.int .i64 x.sub, .int .i64 x.day] 91) = W0 ∧ Hid (Below w.heap.size w W0) ∧ Hid (Blk W0 w.heap.size 91 #[.int .i64 x.sub, .int .i64 x.day]) := ⟨_, rfl, below_alloc _ _, Blk.new _ _ _⟩
  obtain ⟨X, e0, HB0, HK0⟩ := F0
  have E0 := Lib.hid e0
  have HS : Hid (DueSt l us a b mp MB FB TB X) := h.below HB0.out
  have m0 := cellOf HS.out.box 0 (x := .map (some mp)) rfl
  have z0 := cellOf HK0.out 0 (x := .int .i64 x.sub) rfl
  have z1 := cellOf HK0.out 1 (x := .int .i64 x.day) rfl
  clear h e0
  by_cases hm : x.sub ∈ l.map SubD.id
  case neg =>
    have HX : Hid (dueB l a b x = false) := by show _ = _; unfold dueB; rw [due_none hm]
    have hget := HS.out.map.get_no (P := Try.prog) underInt mapSub zeroSub x.sub (by rw [keys_ids _ _ HS.out.len]; exact hm)
    clear hm
    go_enter Try.func137, Try.ntmps137
    go_upto_region 1 with fail
    rw [E0.out]
    clear E0
    go_wp2_with fail
    go_ret
    exact ⟨rb HX.out, HB0.out.trans ((below_alloc X _).mono HB0.out.size)⟩
  obtain ⟨s, hs, hsid⟩ := List.mem_map.1 hm
  obtain ⟨k, hk⟩ := List.mem_iff_getElem?.1 hs
  obtain ⟨u, hu⟩ : ∃ u, us[k]? = some u := ⟨_, List.getElem?_eq_getElem (by rw [HS.out.len]; exact (List.getElem?_eq_some_iff.1 hk).1)⟩
  have HF := Lib.hid (due_find hid hk x.sub hsid)
  have hget := HS.out.map.get_yes (P := Try.prog) underInt mapSub (by rw [keys_ids _ _ HS.out.len]; exact hid) x.sub (s.val u) (List.mem_map.2 ⟨(s, u), List.mem_of_getElem? (List.getElem?_zip_eq_some.2 ⟨hk, hu⟩), by show (s.id, s.val u) = _; rw [hsid]⟩)
  unfold SubD.val at hget
  obtain ⟨Au, nu, cu, rfl⟩ : ∃ Au nu cu, u = .slice Au nu cu := by
    obtain ⟨u', hu', hsp⟩ := HS.out.subs k s u hk hu X (Below.refl _ _)
    obtain ⟨Au, cu, e, -⟩ := spans_later hsp
    have e9 : u = u' := by simpa using hu'
    exact ⟨Au, _, cu, e9.trans e⟩
  have F1 : ∃ X1, X.alloc (.cells #[.int .i64 s.id, .int .i64 s.from_, .int .i64 s.to_, .int .i64 s.days, .slice Au nu cu] 42) = X1 ∧ Hid (Below X.heap.size X X1) ∧ Hid (Blk X1 X.heap.size 42 #[.int .i64 s.id, .int .i64 s.from_, .int .i64 s.to_, .int .i64 s.days, .slice Au nu cu]) := ⟨_, rfl, below_alloc _ _, Blk.new _ _ _⟩
  obtain ⟨X1, e1, HX1, HK1⟩ := F1
  have E1 := Lib.hid e1
  have HS1 := Lib.hid (HS.out.below HX1.out)
  have HB1 : Hid (Below w.heap.size w X1) := HB0.out.trans (HX1.out.mono HB0.out.size)
  have HK0' := Lib.hid (HK0.out.below HX1.out HK0.out.lt)
  have CW := Lib.hid (fun w => within_any x.day a b w)
  obtain ⟨wb, hwb⟩ : ∃ c, inB x.day a b = c := ⟨_, rfl⟩
  rw [hwb] at CW
  have HWB := Lib.hid hwb
  have HRS := Lib.hid (HS1.out.subs k s _ hk hu)
  have HSO := Lib.hid (hl s hs)
  have HXE : Hid (dueB l a b x = (wb && s.getB x.day)) := by show _ = _; unfold dueB; rw [HF.out, ← hwb]
  obtain ⟨p0, hp0⟩ : ∃ p, w.heap.size = p := ⟨_, rfl⟩
  have HP0 := Lib.hid hp0
  rw [hp0] at z0 z1 HK0'
  obtain ⟨q, hq⟩ : ∃ p, X.heap.size = p := ⟨_, rfl⟩
  have HQ := Lib.hid hq
  rw [hq] at HK1
  clear e1 hm hk hs hu hwb hq hp0 hsid
  go_enter Try.func137, Try.ntmps137
  go_upto_region 1 with fail
  rw [E0.out, HP0.out]
  clear E0
  go_upto_region 2 with fail
  rw [E1.out, HQ.out]
  clear E1 m0 z0 z1 hget
  have z1 := cellOf HK0'.out 1 (x := .int .i64 x.day) rfl
  have y0 := cellOf HS1.out.fb 0 (x := .int .i64 a) rfl
  have y1 := cellOf HS1.out.tb 0 (x := .int .i64 b) rfl
  have d0 := cellOf HK1.out 0 (x := .int .i64 s.id) rfl
  have d1 := cellOf HK1.out 1 (x := .int .i64 s.from_) rfl
  have d2 := cellOf HK1.out 2 (x := .int .i64 s.to_) rfl
  have d3 := cellOf HK1.out 3 (x := .int .i64 s.days) rfl
  have d4 := cellOf HK1.out 4 (x := .slice Au nu cu) rfl
  cases wb with
  | false =>
    have HX : Hid (dueB l a b x = false) := by show _ = _; rw [HXE.out]; rfl
    go_wp2_with fail
    refine (CW.out _).mono ?_
    rintro _ _ ⟨rfl, rfl⟩
    go_wp2_with fail
    go_ret
    exact ⟨rb HX.out, HB1.out⟩
  | true =>
    have HX : Hid (dueB l a b x = s.getB x.day) := by show _ = _; rw [HXE.out]; rfl
    have CG := Lib.hid (gets_any s HSO.out x.day (by have := inB_iff.1 HWB.out; omega) _ X1 (HRS.out X1 (Below.refl _ _)))
    obtain ⟨gb, hgb⟩ : ∃ c, s.getB x.day = c := ⟨_, rfl⟩
    rw [hgb] at CG HX
    clear hgb
    go_wp2_with fail
    refine (CW.out _).mono ?_
    rintro _ _ ⟨rfl, rfl⟩
    go_wp2_with fail
    refine CG.out.mono ?_
    rintro _ X2 ⟨rfl, hb2⟩
    have HB2 : Hid (Below w.heap.size w X2) := HB1.out.trans (hb2.mono HB1.out.size)
    clear CG hb2 z1 y0 y1 d0 d1 d2 d3 d4
    go_wp2_with fail
    go_ret
    exact ⟨rb HX.out, HB2.out⟩
end Go.Proofs.Ytlmpbmlbllndcaa
