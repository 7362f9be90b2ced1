/-
  checkComplaints, of at most one complaint (three texts made into one).
-/
import Derived.Test.YtlmpbmlbllndcaaMac
import Derived.Test.YtlmpbmlbllndcaaMax
namespace Go.Proofs.Ytlmpbmlbllndcaa
open Go.RowKit
attribute [local go_sem] Oper.semAt_some

structure CmpD where
  sub : Int
  day : Int
def CmpD.cells (x : CmpD) : List Value := [.int .i64 x.sub, .int .i64 x.day]
/-- Whether a complaint is of a copy that was to come. -/
def dueB (l : List SubD) (a b : Int) (x : CmpD) : Bool := match l.find? fun s => decide (s.id = x.sub) with
  | some s => inB x.day a b && s.getB x.day
  | none => false
def subKV (x : SubD × Value) : Int × Value := (x.1.id, x.1.val x.2)
theorem keys_ids : ∀ (l : List SubD) (us : List Value), us.length = l.length → ((l.zip us).map subKV).map Prod.fst = l.map SubD.id
  | [], [], _ => rfl
  | x :: l, u :: us, h => by
    have := keys_ids l us (by simpa using h)
    simp only [List.zip_cons_cons, List.map_cons] at this ⊢
    rw [this]
    rfl
/-- Subscribers by place, with the slices of their holidays, each at any later world. -/
theorem subs_us {w : World} {v : Value} {l : List SubD} (h : RSubs w.heap.size w v l) : ∃ (us : List Value) (A : Option Addr) (c : Nat), us.length = l.length ∧ v = .slice A l.length c ∧ l.length ≤ 9223372036854775807 ∧
    Hid (∀ (k : Nat) (s : SubD) (u : Value), l[k]? = some s → us[k]? = some u → ∃ g o, A = some ⟨g, o, none⟩ ∧ Hid (∀ X, Below w.heap.size w X → X.cell? ⟨g, o + k * 5, none⟩ = some (.int .i64 s.id) ∧ X.cell? ⟨g, o + k * 5 + 1, none⟩ = some (.int .i64 s.from_) ∧ X.cell? ⟨g, o + k * 5 + 2, none⟩ = some (.int .i64 s.to_) ∧ X.cell? ⟨g, o + k * 5 + 3, none⟩ = some (.int .i64 s.days) ∧ X.cell? ⟨g, o + k * 5 + 4, none⟩ = some u)) ∧
    Hid (∀ (k : Nat) (s : SubD) (u : Value), l[k]? = some s → us[k]? = some u → ∀ X, Below w.heap.size w X → RSub X.heap.size X (.agg #[.int .i64 s.id, .int .i64 s.from_, .int .i64 s.to_, .int .i64 s.days, u]) s) := by
  obtain ⟨us, hu, ⟨A, c, rfl, -, hm, hr⟩, hs⟩ := h
  refine ⟨us, A, c, hu, rfl, by simpa [maxLen] using hm, fun k s u hk hku => ?_, fun k s u hk hku X hX => ⟨u, rfl, (Rd.below (hs k u s hku hk) hX).more hX.size⟩⟩
  have hkl : k < l.length := (List.getElem?_eq_some_iff.1 hk).1
  have hz : (l.zip us)[k]? = some (s, u) := List.getElem?_zip_eq_some.2 ⟨hk, hku⟩
  obtain ⟨g, o, hA, hb, hc⟩ := hr (by omega)
  have hf := fun j hj => flat_at subCells 5 (fun _ => rfl) _ k j _ hz hj
  exact ⟨g, o, hA, fun X hX => ⟨(hX.cell (p := ⟨g, o + k * 5, none⟩) hb).trans (hc _ _ (hf 0 (by omega))), (hX.cell (p := ⟨g, o + k * 5 + 1, none⟩) hb).trans (hc _ _ (hf 1 (by omega))), (hX.cell (p := ⟨g, o + k * 5 + 2, none⟩) hb).trans (hc _ _ (hf 2 (by omega))), (hX.cell (p := ⟨g, o + k * 5 + 3, none⟩) hb).trans (hc _ _ (hf 3 (by omega))), (hX.cell (p := ⟨g, o + k * 5 + 4, none⟩) hb).trans (hc _ _ (hf 4 (by omega)))⟩⟩
theorem mapSub : Try.prog.underlying 216 = some (.map 3 42) := by kernel_rfl
theorem zeroSub : ∀ w : World, (zeroValue 42).run Try.prog w = .ok (.agg #[.int .i64 0, .int .i64 0, .int .i64 0, .int .i64 0, .slice none 0 0]) w := fun w => by kernel_rfl
set_option maxHeartbeats 2000000 in
theorem cmpKey_any (x : CmpD) (w : World) : Calls Try.prog 139 #[.agg #[.int .i64 x.sub, .int .i64 x.day]] w fun e w' => e = .returned (.agg #[.int .i64 x.sub, .int .i64 x.day]) ∧ Below w.heap.size w w' := by
  have F0 : ∃ W0, (w.alloc (.cells #[.int .i64 x.sub, .int .i64 x.day] 91)).alloc (.cells #[.int .i64 0, .int .i64 0] 91) = W0 ∧ Hid (Below w.heap.size w W0) ∧ Hid (Blk W0 w.heap.size 91 #[.int .i64 x.sub, .int .i64 x.day] ∧ Blk W0 (w.heap.size + 1) 91 #[.int .i64 0, .int .i64 0]) :=
    ⟨_, rfl, sbelow_al (below_alloc _ _) _, (Blk.new _ _ _).alloc _, blk_new (by simp) _ _⟩
  obtain ⟨Y, e0, HB0, HK0⟩ := F0
  have E0 := Lib.hid e0
  obtain ⟨p, hp⟩ : ∃ p, w.heap.size = p := ⟨_, rfl⟩
  rw [hp] at HK0
  have HP := Lib.hid hp
  have z0 := cellOf HK0.out.1 0 (x := .int .i64 x.sub) rfl
  have z1 := cellOf HK0.out.1 1 (x := .int .i64 x.day) rfl
  have r0 := cellOf HK0.out.2 0 (x := .int .i64 0) rfl
  have r1 := cellOf HK0.out.2 1 (x := .int .i64 0) rfl
  have f0 := HK0.out.2.frozen 0
  have f1 := HK0.out.2.frozen 1
  have R := (HK0.out.2.put 0 (.int .i64 x.sub)).put 1 (.int .i64 x.day)
  have e0' := cellOf R 0 (x := .int .i64 x.sub) rfl
  have e1' := cellOf R 1 (x := .int .i64 x.day) rfl
  have hK : KeptBut (fun g => g = p + 1) Y ((Y.setCell ⟨p + 1, 0, none⟩ (.int .i64 x.sub)).setCell ⟨p + 1, 1, none⟩ (.int .i64 x.day)) := (KeptBut.setCell (S := fun g => g = p + 1) rfl _).trans (KeptBut.setCell (S := fun g => g = p + 1) rfl _) fun _ _ h => h
  have HFIN : Hid (Below w.heap.size w ((Y.setCell ⟨p + 1, 0, none⟩ (.int .i64 x.sub)).setCell ⟨p + 1, 1, none⟩ (.int .i64 x.day))) := HB0.out.trans (hK.below (fun g hg => by rw [hg, ← HP.out]; omega) HB0.out.size)
  clear hK R e0 hp
  go_enter Try.func139, Try.ntmps139
  go_upto_region 1 with fail
  rw [E0.out, HP.out]
  clear E0
  go_wp2_with fail
  exact bodyPost_ret (v := .agg #[.int .i64 x.sub, .int .i64 x.day]) (by simp [results, Try.results139, go_sem, e0', e1']) rfl ⟨rfl, HFIN.out⟩
/-- What the closure that asks whether a complaint is due reads. -/
structure DueSt (l : List SubD) (us : List Value) (a b : Int) (mp MB FB TB : Nat) (X : World) : Prop where
  map : MapAt X mp ((l.zip us).map subKV)
  box : Blk X MB 216 #[.map (some mp)]
  fb : Blk X FB 3 #[.int .i64 a]
  tb : Blk X TB 3 #[.int .i64 b]
  len : us.length = l.length
  subs : ∀ (k : Nat) (s : SubD) (u : Value), l[k]? = some s → us[k]? = some u → ∀ Y, Below X.heap.size X Y → RSub Y.heap.size Y (.agg #[.int .i64 s.id, .int .i64 s.from_, .int .i64 s.to_, .int .i64 s.days, u]) s
theorem DueSt.below {l : List SubD} {us : List Value} {a b : Int} {mp MB FB TB : Nat} {X Y : World} (h : DueSt l us a b mp MB FB TB X) (hb : Below X.heap.size X Y) : DueSt l us a b mp MB FB TB Y :=
  ⟨h.map.below hb h.map.lt, h.box.below hb h.box.lt, h.fb.below hb h.fb.lt, h.tb.below hb h.tb.lt, h.len, fun k s u h1 h2 Z hZ => h.subs k s u h1 h2 Z (hb.trans (hZ.mono hb.size))⟩
theorem due_find {l : List SubD} (hn : (l.map SubD.id).Nodup) {k : Nat} {s : SubD} (hk : l[k]? = some s) (i : Int) (hi : s.id = i) : (l.find? fun s => decide (s.id = i)) = some s := by
  induction l generalizing k with
  | nil => simp at hk
  | cons x l ih =>
    rw [List.map_cons, List.nodup_cons] at hn
    match k, hk with
    | 0, hk =>
      obtain rfl : x = s := by simpa using hk
      rw [List.find?_cons_of_pos (by simpa using hi)]
    | k + 1, hk =>
      have hk' : l[k]? = some s := by simpa using hk
      have hx : x.id ≠ i := fun e => hn.1 (List.mem_map.2 ⟨s, List.mem_of_getElem? hk', by rw [hi, e]⟩)
      rw [List.find?_cons_of_neg (by simpa using hx)]
      exact ih hn.2 hk'
theorem due_none {l : List SubD} {i : Int} (h : i ∉ l.map SubD.id) : (l.find? fun s => decide (s.id = i)) = none := by
  rw [List.find?_eq_none]
  intro x hx e
  exact h (List.mem_map.2 ⟨x, hx, of_decide_eq_true e⟩)
set_option maxRecDepth 100000 in
set_option maxHeartbeats 4000000 in
theorem isDue_any (l : List SubD) (us : List Value) (a b : Int) (hab : dayB a b = true) (hl : ∀ s ∈ l, s.Ok) (hid : (l.map SubD.id).Nodup) (mp MB FB TB : Nat) (x : CmpD) (w : World) (h : DueSt l us a b mp MB FB TB w) :
    Calls Try.prog 137 #[.agg #[.int .i64 x.sub, .int .i64 x.day], .pointer (some ⟨MB, 0, none⟩), .pointer (some ⟨FB, 0, none⟩), .pointer (some ⟨TB, 0, none⟩)] w fun e w' => e = .returned (.bool (dueB l a b x)) ∧ Below w.heap.size w w' := by
  have HD := dayB_iff.1 hab
  have F0 : ∃ W0, w.alloc (.cells #[.int .i64 x.sub, .int .i64 x.day] 91) = W0 ∧ Hid (Below w.heap.size w W0) ∧ Hid (Blk W0 w.heap.size 91 #[.int .i64 x.sub, .int .i64 x.day]) := ⟨_, rfl, below_alloc _ _, Blk.new _ _ _⟩
  obtain ⟨X, e0, HB0, HK0⟩ := F0
  have E0 := Lib.hid e0
  have HS : Hid (DueSt l us a b mp MB FB TB X) := h.below HB0.out
  have m0 := cellOf HS.out.box 0 (x := .map (some mp)) rfl
  have z0 := cellOf HK0.out 0 (x := .int .i64 x.sub) rfl
  have z1 := cellOf HK0.out 1 (x := .int .i64 x.day) rfl
  clear h e0
  by_cases hm : x.sub ∈ l.map SubD.id
  case neg =>
    have HX : Hid (dueB l a b x = false) := by show _ = _; unfold dueB; rw [due_none hm]
    have hget := HS.out.map.get_no (P := Try.prog) underInt mapSub zeroSub x.sub (by rw [keys_ids _ _ HS.out.len]; exact hm)
    clear hm
    go_enter Try.func137, Try.ntmps137
    go_upto_region 1 with fail
    rw [E0.out]
    clear E0
    go_wp2_with fail
    go_ret
    exact ⟨rb HX.out, HB0.out.trans ((below_alloc X _).mono HB0.out.size)⟩
  obtain ⟨s, hs, hsid⟩ := List.mem_map.1 hm
  obtain ⟨k, hk⟩ := List.mem_iff_getElem?.1 hs
  obtain ⟨u, hu⟩ : ∃ u, us[k]? = some u := ⟨_, List.getElem?_eq_getElem (by rw [HS.out.len]; exact (List.getElem?_eq_some_iff.1 hk).1)⟩
  have HF := Lib.hid (due_find hid hk x.sub hsid)
  have hget := HS.out.map.get_yes (P := Try.prog) underInt mapSub (by rw [keys_ids _ _ HS.out.len]; exact hid) x.sub (s.val u) (List.mem_map.2 ⟨(s, u), List.mem_of_getElem? (List.getElem?_zip_eq_some.2 ⟨hk, hu⟩), by show (s.id, s.val u) = _; rw [hsid]⟩)
  unfold SubD.val at hget
  obtain ⟨Au, nu, cu, rfl⟩ : ∃ Au nu cu, u = .slice Au nu cu := by
    obtain ⟨u', hu', hsp⟩ := HS.out.subs k s u hk hu X (Below.refl _ _)
    obtain ⟨Au, cu, e, -⟩ := spans_later hsp
    have e9 : u = u' := by simpa using hu'
    exact ⟨Au, _, cu, e9.trans e⟩
  have F1 : ∃ X1, X.alloc (.cells #[.int .i64 s.id, .int .i64 s.from_, .int .i64 s.to_, .int .i64 s.days, .slice Au nu cu] 42) = X1 ∧ Hid (Below X.heap.size X X1) ∧ Hid (Blk X1 X.heap.size 42 #[.int .i64 s.id, .int .i64 s.from_, .int .i64 s.to_, .int .i64 s.days, .slice Au nu cu]) := ⟨_, rfl, below_alloc _ _, Blk.new _ _ _⟩
  obtain ⟨X1, e1, HX1, HK1⟩ := F1
  have E1 := Lib.hid e1
  have HS1 := Lib.hid (HS.out.below HX1.out)
  have HB1 : Hid (Below w.heap.size w X1) := HB0.out.trans (HX1.out.mono HB0.out.size)
  have HK0' := Lib.hid (HK0.out.below HX1.out HK0.out.lt)
  have CW := Lib.hid (fun w => within_any x.day a b w)
  obtain ⟨wb, hwb⟩ : ∃ c, inB x.day a b = c := ⟨_, rfl⟩
  rw [hwb] at CW
  have HWB := Lib.hid hwb
  have HRS := Lib.hid (HS1.out.subs k s _ hk hu)
  have HSO := Lib.hid (hl s hs)
  have HXE : Hid (dueB l a b x = (wb && s.getB x.day)) := by show _ = _; unfold dueB; rw [HF.out, ← hwb]
  obtain ⟨p0, hp0⟩ : ∃ p, w.heap.size = p := ⟨_, rfl⟩
  have HP0 := Lib.hid hp0
  rw [hp0] at z0 z1 HK0'
  obtain ⟨q, hq⟩ : ∃ p, X.heap.size = p := ⟨_, rfl⟩
  have HQ := Lib.hid hq
  rw [hq] at HK1
  clear e1 hm hk hs hu hwb hq hp0 hsid
  go_enter Try.func137, Try.ntmps137
  go_upto_region 1 with fail
  rw [E0.out, HP0.out]
  clear E0
  go_upto_region 2 with fail
  rw [E1.out, HQ.out]
  clear E1 m0 z0 z1 hget
  have z1 := cellOf HK0'.out 1 (x := .int .i64 x.day) rfl
  have y0 := cellOf HS1.out.fb 0 (x := .int .i64 a) rfl
  have y1 := cellOf HS1.out.tb 0 (x := .int .i64 b) rfl
  have d0 := cellOf HK1.out 0 (x := .int .i64 s.id) rfl
  have d1 := cellOf HK1.out 1 (x := .int .i64 s.from_) rfl
  have d2 := cellOf HK1.out 2 (x := .int .i64 s.to_) rfl
  have d3 := cellOf HK1.out 3 (x := .int .i64 s.days) rfl
  have d4 := cellOf HK1.out 4 (x := .slice Au nu cu) rfl
  cases wb with
  | false =>
    have HX : Hid (dueB l a b x = false) := by show _ = _; rw [HXE.out]; rfl
    go_wp2_with fail
    refine (CW.out _).mono ?_
    rintro _ _ ⟨rfl, rfl⟩
    go_wp2_with fail
    go_ret
    exact ⟨rb HX.out, HB1.out⟩
  | true =>
    have HX : Hid (dueB l a b x = s.getB x.day) := by show _ = _; rw [HXE.out]; rfl
    have CG := Lib.hid (gets_any s HSO.out x.day (by have := inB_iff.1 HWB.out; omega) _ X1 (HRS.out X1 (Below.refl _ _)))
    obtain ⟨gb, hgb⟩ : ∃ c, s.getB x.day = c := ⟨_, rfl⟩
    rw [hgb] at CG HX
    clear hgb
    go_wp2_with fail
    refine (CW.out _).mono ?_
    rintro _ _ ⟨rfl, rfl⟩
    go_wp2_with fail
    refine CG.out.mono ?_
    rintro _ X2 ⟨rfl, hb2⟩
    have HB2 : Hid (Below w.heap.size w X2) := HB1.out.trans (hb2.mono HB1.out.size)
    clear CG hb2 z1 y0 y1 d0 d1 d2 d3 d4
    go_wp2_with fail
    go_ret
    exact ⟨rb HX.out, HB2.out⟩
end Go.Proofs.Ytlmpbmlbllndcaa

namespace Go.Proofs.Ytlmpbmlbllndcaa
open Go.RowKit
open Go.ChangeMaps (setBlock)
open Go.MapKept (heap_set)
attribute [local go_sem] Oper.semAt_some

theorem underCmp : Try.prog.underlying 91 = some (.struct (Try.prog.fieldsOf 91)) := by kernel_rfl
theorem mapCmp : Try.prog.underlying 227 = some (.map 91 4) := by kernel_rfl
theorem cmp_check (e : Bool) (a b : Int) (w : World) : (Instr.checkKey e 10000 91 (.agg #[.int .i64 a, .int .i64 b])).run Try.prog w = .ok () w := by kernel_rfl
theorem find_nil {P : Program} {K : TypeId} {d : TypeDesc} (hk : P.underlying K = some d) (key : Value) (w : World) : (Instr.findKey K key []).run P w = .ok none w := by
  unfold Instr.findKey
  simp only [Sem.run_bind, run_underlying hk, Result.andThen_ok]
  rfl
theorem cmp_get {w : World} {p : Nat} (hm : w.heap[p]? = some (.map #[] 0)) (a b : Int) : (Instr.lookup 227 (.map (some p)) (.agg #[.int .i64 a, .int .i64 b]) false).run Try.prog w = .ok (.bool false) w := by
  have hd := underCmp
  simp only [Instr.lookup, Sem.run_bind, run_underlying mapCmp, Result.andThen_ok]
  simp only [getObj, Sem.run, hm, Sem.run_bind, Result.andThen_ok, Sem.run_pure, cmp_check, Result.andThen]
  rw [find_nil hd]
  simp [zeroBool]
theorem cmp_put {w : World} {p : Nat} (hm : w.heap[p]? = some (.map #[] 0)) (a b : Int) : ∃ w1, (Instr.mapUpdate 227 (.map (some p)) (.agg #[.int .i64 a, .int .i64 b]) (.bool true)).run Try.prog w = .ok () w1 ∧ w.grownBy w1 (some p) := by
  have hd := underCmp
  have hset := fun o' => heap_set (o' := o') hm
  refine ⟨setBlock w p (.map #[{ key := .agg #[.int .i64 a, .int .i64 b], val := .bool true, born := 0 }] 1), ?_, ⟨rfl, rfl, rfl, by simp [setBlock], fun i _ hi => (hset _).2 i (fun e => hi (by rw [e]))⟩⟩
  simp only [Instr.mapUpdate, Sem.run_bind, run_underlying mapCmp, Result.andThen_ok]
  simp only [getObj, setObj, Sem.run, hm, Sem.run_bind, Result.andThen_ok, cmp_check, Result.andThen]
  rw [find_nil hd]
  simp [Sem.run, hm, setBlock]
/-- A map step in the walk: by its run. -/
theorem wpList_mapUpdate_run {P : Program} {w w1 : World} {ops : Array Oper} {rest : List Oper} {o : Oper} {a : Act} {Q : Exit → Act → World → Prop} (hg : o.guard = none) (m x v : Operand) (t : TypeId) (hop : o.op = Op.mapUpdate t m x v)
    (hrun : (Instr.mapUpdate t (a.eval m) (a.eval x) (a.eval v)).run P w = .ok () w1) (h : wpList P ops Q rest (a.put o.dst undef) w1) : wpList P ops Q (o :: rest) a w := by
  refine wpList_plain hg fun K' hK' => ?_
  unfold Oper.wp
  simp [execOp, hop, hrun, Result.andThen]
  exact hK' _ _ h
/-- A map step in the walk, by what it leaves. -/
theorem wpList_map_ex {P : Program} {w : World} {Φ : World → Prop} {ops : Array Oper} {rest : List Oper} {o : Oper} {a : Act} {Q : Exit → Act → World → Prop} (hg : o.guard = none) (m x v : Operand) (t : TypeId) (hop : o.op = Op.mapUpdate t m x v)
    (hrun : ∃ w1, (Instr.mapUpdate t (a.eval m) (a.eval x) (a.eval v)).run P w = .ok () w1 ∧ Φ w1) (h : ∀ w1, Φ w1 → wpList P ops Q rest (a.put o.dst undef) w1) : wpList P ops Q (o :: rest) a w := by
  obtain ⟨w1, h1, h2⟩ := hrun
  exact wpList_mapUpdate_run hg m x v t hop h1 (h w1 h2)
def RCmps (B : Nat) (w : World) (v : Value) (c : List CmpD) : Prop := Rd B w 2 v c.length (c.flatMap CmpD.cells)
theorem cmps_later {w : World} {v : Value} {l : List CmpD} (h : RCmps w.heap.size w v l) : ∃ A c, v = .slice A l.length c ∧ l.length ≤ 9223372036854775807 ∧ Hid (∀ k x, l[k]? = some x → ∃ g o, A = some ⟨g, o, none⟩ ∧ Hid (∀ X, Below w.heap.size w X → X.cell? ⟨g, o + k * 2, none⟩ = some (.int .i64 x.sub) ∧ X.cell? ⟨g, o + k * 2 + 1, none⟩ = some (.int .i64 x.day))) := by
  obtain ⟨A, c, rfl, -, hm, hr⟩ := h
  refine ⟨A, c, rfl, by simpa [maxLen] using hm, fun k x hx => ?_⟩
  have hk : k < l.length := (List.getElem?_eq_some_iff.1 hx).1
  obtain ⟨g, o, hA, hb, hc⟩ := hr (by omega)
  have hf := fun j hj => flat_at CmpD.cells 2 (fun _ => rfl) _ k j _ hx hj
  exact ⟨g, o, hA, fun X hX => ⟨(hX.cell (p := ⟨g, o + k * 2, none⟩) hb).trans (hc _ _ (hf 0 (by omega))), (hX.cell (p := ⟨g, o + k * 2 + 1, none⟩) hb).trans (hc _ _ (hf 1 (by omega)))⟩⟩
def cmpE (l : List SubD) (a b : Int) (c : List CmpD) : Int := if c.all (dueB l a b) then 0 else 4
set_option maxRecDepth 100000 in
set_option maxHeartbeats 4000000 in
theorem firstCmp_any (l : List SubD) (us : List Value) (a b : Int) (hab : dayB a b = true) (hl : ∀ s ∈ l, s.Ok) (hid : (l.map SubD.id).Nodup) (mp MB FB TB : Nat) (c : List CmpD) (hc : c.length ≤ 1) (v : Value) (w : World) (hv : RCmps w.heap.size w v c) (h : DueSt l us a b mp MB FB TB w) :
    Calls Try.prog 138 #[v, .func (.func 137) #[] #[.pointer (some ⟨MB, 0, none⟩), .pointer (some ⟨FB, 0, none⟩), .pointer (some ⟨TB, 0, none⟩)], .int .i64 4, .func (.func 139) #[] #[]] w fun e w' => e = .returned (.int .i64 (cmpE l a b c)) ∧ Below w.heap.size w w' := by
  obtain ⟨A, cc, rfl, -, HD⟩ := cmps_later hv
  obtain ⟨n, hn⟩ : ∃ n, c.length = n := ⟨_, rfl⟩
  rw [hn] at hc ⊢
  have HN := Lib.hid hn
  have CD := Lib.hid (fun (x : CmpD) (w : World) (h : DueSt l us a b mp MB FB TB w) => isDue_any l us a b hab hl hid mp MB FB TB x w h)
  have HS := Lib.hid h
  have hmm := @run_makeMap Try.prog
  have F0 : ∃ W0, w.alloc (.map #[] 0) = W0 ∧ Hid (Below w.heap.size w W0) ∧ Hid (W0.heap[w.heap.size]? = some (.map #[] 0)) := ⟨_, rfl, below_alloc _ _, (MapKept.heap_alloc w _).1⟩
  obtain ⟨W0, e0, HB0, HS0⟩ := F0
  have E0 := Lib.hid e0
  obtain ⟨p, hp⟩ : ∃ p, w.heap.size = p := ⟨_, rfl⟩
  rw [hp] at HS0
  have HP := Lib.hid hp
  clear h hab hl hid hv hn e0 hp
  go_enter Try.func138, Try.ntmps138
  go_upto_region 2 with fail
  rw [E0.out]
  clear E0 hmm
  rw [HP.out]
  go_wp2_with fail
  go_loopw [15] (fun i wr => ∃ k : Nat, k ≤ n ∧ i = .int .i64 k ∧ Hid (k = 0 → wr.heap[p]? = some (.map #[] 0)) ∧ Hid (0 < k → c.all (dueB l a b) = true) ∧ Hid (Below w.heap.size w wr)) (fun i _ => n - (intOf i).toNat)
  case atStart => exact ⟨0, Nat.zero_le _, rfl, fun _ => HS0.out, fun h => absurd h (by omega), HB0.out⟩
  case round =>
  clear HS0 HB0
  obtain ⟨k, hk, rfl, h0, h1, hB⟩ := hrel
  obtain ⟨X, rfl⟩ : ∃ X : World, X = wr := ⟨_, rfl⟩
  by_cases hlt : k < n
  · obtain rfl : k = 0 := by omega
    obtain rfl : n = 1 := by omega
    obtain ⟨x, hx⟩ : ∃ x, c[0]? = some x := ⟨_, List.getElem?_eq_getElem (by rw [HN.out]; exact hlt)⟩
    have HCX : Hid (c = [x]) := by
      have hl := HN.out
      show c = [x]
      match c, hl with
      | [y], _ => simpa using hx
    obtain ⟨g, o, rfl, HX⟩ := HD.out 0 x hx
    obtain ⟨c0, c1⟩ := HX.out X hB.out
    simp only [Nat.zero_mul, Nat.add_zero] at c0 c1
    have HM0 : Hid (X.heap[p]? = some (.map #[] 0)) := h0.out rfl
    have F1 : ∃ X1, X.alloc (.cells #[.int .i64 x.sub, .int .i64 x.day] 91) = X1 ∧ Hid (Below X.heap.size X X1) ∧ Hid (Blk X1 X.heap.size 91 #[.int .i64 x.sub, .int .i64 x.day]) := ⟨_, rfl, below_alloc _ _, Blk.new _ _ _⟩
    obtain ⟨X1, e1, HX1, HK1⟩ := F1
    have E1 := Lib.hid e1
    have hpX : p < X.heap.size := (Array.getElem?_eq_some_iff.1 HM0.out).1
    have HM1 : Hid (X1.heap[p]? = some (.map #[] 0)) := (HX1.out.block p hpX).trans HM0.out
    have HB1 : Hid (Below w.heap.size w X1) := hB.out.trans (HX1.out.mono hB.out.size)
    have hpX1 : Hid (p < X1.heap.size) := Nat.lt_of_lt_of_le hpX HX1.out.size
    obtain ⟨q, hq⟩ : ∃ q, X.heap.size = q := ⟨_, rfl⟩
    rw [hq] at HK1
    have HQ := Lib.hid hq
    have HCC : Hid (∀ Y, Below X1.heap.size X1 Y → Y.cell? ⟨q, 0, none⟩ = some (.int .i64 x.sub) ∧ Y.cell? ⟨q, 1, none⟩ = some (.int .i64 x.day)) := fun Y hY => by
      have h1 := HK1.out.below hY HK1.out.lt
      exact ⟨cellOf h1 0 rfl, cellOf h1 1 rfl⟩
    have CR := Lib.hid (CD.out x X1 (HS.out.below HB1.out))
    obtain ⟨ob, hob⟩ : ∃ e, dueB l a b x = e := ⟨_, rfl⟩
    rw [hob] at CR
    have HAL : Hid (c.all (dueB l a b) = ob) := by show _ = _; rw [HCX.out, ← hob]; simp
    obtain ⟨d0, d1⟩ := HCC.out X1 (Below.refl _ _)
    clear hx hob e1 hq HX hB h0 h1 HX1 HK1 hpX
    go_upto_region 5 with fail
    rw [E1.out, HQ.out]
    clear E1 c0 c1
    go_wp2_with fail
    refine CR.out.mono ?_
    rintro _ X2 ⟨rfl, hb2⟩
    have HX2 := Lib.hid hb2
    have HB2 : Hid (Below w.heap.size w X2) := HB1.out.trans (hb2.mono HB1.out.size)
    have HM2 : Hid (X2.heap[p]? = some (.map #[] 0)) := (hb2.block p hpX1.out).trans HM1.out
    clear CR hb2 d0 d1
    cases ob
    · have HX : Hid (cmpE l a b c = 4) := by show _ = _; unfold cmpE; rw [HAL.out]; rfl
      go_wp2_with fail
      go_ret
      exact ⟨ri HX.out, HB2.out⟩
    have CK := Lib.hid (fun w => cmpKey_any x w)
    obtain ⟨d0, d1⟩ := HCC.out X2 HX2.out
    go_wp2_with fail
    refine (CK.out _).mono ?_
    rintro _ X3 ⟨rfl, hb3⟩
    have HX3 : Hid (Below X1.heap.size X1 X3) := HX2.out.trans (hb3.mono HX2.out.size)
    have HB3 : Hid (Below w.heap.size w X3) := HB2.out.trans (hb3.mono HB2.out.size)
    have HM3 : Hid (X3.heap[p]? = some (.map #[] 0)) := (hb3.block p (Nat.lt_of_lt_of_le hpX1.out HX2.out.size)).trans HM2.out
    have hget := cmp_get HM3.out x.sub x.day
    clear hb3 d0 d1
    obtain ⟨d0, d1⟩ := HCC.out X3 HX3.out
    go_wp2_with fail
    clear hget
    refine (CK.out _).mono ?_
    rintro _ X4 ⟨rfl, hb4⟩
    have HB4 : Hid (Below w.heap.size w X4) := HB3.out.trans (hb4.mono HB3.out.size)
    have HM4 : Hid (X4.heap[p]? = some (.map #[] 0)) := (hb4.block p (Nat.lt_of_lt_of_le hpX1.out HX3.out.size)).trans HM3.out
    have HUP := Lib.hid (cmp_put HM4.out x.sub x.day)
    clear hb4 d0 d1
    go_wp2_with (at_mapUpdate; refine wpList_map_ex rfl _ _ _ 227 rfl HUP.out ?_; intro w1 hg1)
    have HB5 : Hid (Below w.heap.size w w1) := HB4.out.grown hg1 HB4.out.size (fun j hj => by cases hj; rw [HP.out]; exact Nat.le_refl _)
    clear hg1
    go_roundw
    case rel =>
      repeat apply Exists.intro
      refine ⟨?_, rfl⟩
      exact ⟨1, by omega, by go_num, fun h => absurd h (by omega), fun _ => HAL.out, HB5⟩
    case measure => simp [intOf]
  · have HX : Hid (cmpE l a b c = 0) := by
      show _ = _
      unfold cmpE
      by_cases hk0 : 0 < k
      · rw [if_pos (h1.out hk0)]
      · rw [List.eq_nil_of_length_eq_zero (l := c) (by rw [HN.out]; omega)]
        rfl
    go_wp2_with fail
    go_ret
    exact ⟨ri HX.out, hB.out⟩
end Go.Proofs.Ytlmpbmlbllndcaa

namespace Go.Proofs.Ytlmpbmlbllndcaa
open Go.RowKit
attribute [local go_sem] Oper.semAt_some

theorem make_sub (n : Int) (w : World) : (Instr.makeMap 216 (some (.int .i64 n))).run Try.prog w = .ok (.map (some w.heap.size)) (w.alloc (.map #[] 0)) := by kernel_rfl
set_option maxRecDepth 100000 in
set_option maxHeartbeats 4000000 in
theorem checkCmps_any (l : List SubD) (hok : subsE l = 0) (hid : (l.map SubD.id).Nodup) (a b : Int) (hab : dayB a b = true) (c : List CmpD) (hc : c.length ≤ 1) (v vl : Value) (w : World) (hv : RCmps w.heap.size w v c) (hl : RSubs w.heap.size w vl l) :
    Calls Try.prog 92 #[v, vl, .int .i64 a, .int .i64 b] w fun e w' => e = .returned (.int .i64 (cmpE l a b c)) ∧ Below w.heap.size w w' := by
  obtain ⟨us, A, cc, hus, rfl, hlm, HD, HRS⟩ := subs_us hl
  obtain ⟨A2, c2, rfl, -, -⟩ := cmps_later hv
  have HV := Lib.hid hv
  have HCI := Lib.hid (fun mp MB FB TB v w hv h => firstCmp_any l us a b hab (fun s hs => subB_ok ((subsE_ok hok).2 s hs)) hid mp MB FB TB c hc v w hv h)
  have HID := Lib.hid hid
  have HUS := Lib.hid hus
  obtain ⟨m, hm⟩ : ∃ n, c.length = n := ⟨_, rfl⟩
  obtain ⟨n, hn⟩ : ∃ n, l.length = n := ⟨_, rfl⟩
  have hl5 : n ≤ 500 := by rw [← hn]; exact (subsE_ok hok).1
  rw [hm] at HV hc ⊢
  rw [hn] at hlm ⊢
  have HN := Lib.hid hn
  have hc5 : ¬ (500 : Int) < (m : Int) := by omega
  have hmm := make_sub
  have F0 : ∃ W0, (w.alloc (.cells #[.int .i64 a] 3)).alloc (.cells #[.int .i64 b] 3) = W0 ∧ Hid (Below w.heap.size w W0) ∧ Hid (Blk W0 w.heap.size 3 #[.int .i64 a] ∧ Blk W0 (w.heap.size + 1) 3 #[.int .i64 b]) :=
    ⟨_, rfl, sbelow_al (below_alloc _ _) _, (Blk.new _ _ _).alloc _, blk_new (by simp) _ _⟩
  obtain ⟨W0, e0, HB0, HK0⟩ := F0
  have E0 := Lib.hid e0
  obtain ⟨p, hp⟩ : ∃ p, w.heap.size = p := ⟨_, rfl⟩
  rw [hp] at HK0
  have HP := Lib.hid hp
  have F1 : ∃ W1, W0.alloc (.map #[] 0) = W1 ∧ Hid (Below W0.heap.size W0 W1) ∧ Hid (MapAt W1 W0.heap.size []) ∧ W1.heap.size = W0.heap.size + 1 := ⟨_, rfl, below_alloc _ _, MapAt.new _, by simp⟩
  obtain ⟨W1, e1, HB1, HM1, hz1⟩ := F1
  have E1 := Lib.hid e1
  obtain ⟨mp, hmp⟩ : ∃ p, W0.heap.size = p := ⟨_, rfl⟩
  rw [hmp] at HM1 hz1
  have HMP := Lib.hid hmp
  have F2 : ∃ W2, W1.alloc (.cells #[.map (some mp)] 216) = W2 ∧ Hid (Below W1.heap.size W1 W2) ∧ Hid (Blk W2 (mp + 1) 216 #[.map (some mp)]) := ⟨_, rfl, below_alloc _ _, by rw [← hz1]; exact Blk.new _ _ _⟩
  obtain ⟨W2, e2, HB2, HK2⟩ := F2
  have E2 := Lib.hid e2
  have HZ1 := Lib.hid hz1
  have hpw : p + 1 < mp := by have := HK0.out.2.lt; omega
  have HST : Hid (MapAt W2 mp ((l.zip us).take 0 |>.map subKV) ∧ Blk W2 (mp + 1) 216 #[.map (some mp)] ∧ Blk W2 p 3 #[.int .i64 a] ∧ Blk W2 (p + 1) 3 #[.int .i64 b] ∧ Below w.heap.size w W2) := by
    have hb : Below W0.heap.size W0 W2 := HB1.out.trans (HB2.out.mono HB1.out.size)
    exact ⟨HM1.out.below HB2.out (by rw [hz1]; omega), HK2.out, HK0.out.1.below hb HK0.out.1.lt, HK0.out.2.below hb HK0.out.2.lt, HB0.out.trans (hb.mono HB0.out.size)⟩
  clear hv hl hok hid hab hus hm hn e0 hp e1 hz1 hmp e2 HB0 HK0 HB1 HM1 HB2 HK2
  go_enter Try.func92, Try.ntmps92
  go_upto_region 1 with fail
  rw [E0.out, HP.out]
  go_upto_region 4 with fail
  rw [E1.out, HMP.out, E2.out]
  clear E0 E1 E2 hmm hc5
  go_wp2_with fail
  go_loopw [21] (fun i wr => ∃ k : Nat, k ≤ n ∧ i = .int .i64 k ∧ Hid (MapAt wr mp ((l.zip us).take k |>.map subKV) ∧ Blk wr (mp + 1) 216 #[.map (some mp)] ∧ Blk wr p 3 #[.int .i64 a] ∧ Blk wr (p + 1) 3 #[.int .i64 b] ∧ Below w.heap.size w wr)) (fun i _ => n - (intOf i).toNat)
  case atStart => exact ⟨0, Nat.zero_le _, rfl, HST.out⟩
  case round =>
  clear HST
  obtain ⟨k, hk, rfl, hS⟩ := hrel
  obtain ⟨X, rfl⟩ : ∃ X : World, X = wr := ⟨_, rfl⟩
  by_cases hlt : k < n
  · obtain ⟨s, hs⟩ : ∃ x, l[k]? = some x := ⟨_, List.getElem?_eq_getElem (by rw [HN.out]; exact hlt)⟩
    obtain ⟨u, hu⟩ : ∃ u, us[k]? = some u := ⟨_, List.getElem?_eq_getElem (by rw [HUS.out, HN.out]; exact hlt)⟩
    obtain ⟨g, o, rfl, HX⟩ := HD.out k s u hs hu
    obtain ⟨Au, nu, cu, rfl⟩ : ∃ Au nu cu, u = .slice Au nu cu := by
      obtain ⟨u', hu', hsp⟩ := HRS.out k s u hs hu X hS.out.2.2.2.2
      obtain ⟨Au, cu, e, -⟩ := spans_later hsp
      have e9 : u = u' := by simpa using hu'
      exact ⟨Au, _, cu, e9.trans e⟩
    obtain ⟨c0, c1, c2', c3', c4'⟩ := HX.out X hS.out.2.2.2.2
    have F1 : ∃ X1, X.alloc (.cells #[.int .i64 s.id, .int .i64 s.from_, .int .i64 s.to_, .int .i64 s.days, .slice Au nu cu] 42) = X1 ∧ Hid (Below X.heap.size X X1) ∧ Hid (Blk X1 X.heap.size 42 #[.int .i64 s.id, .int .i64 s.from_, .int .i64 s.to_, .int .i64 s.days, .slice Au nu cu]) := ⟨_, rfl, below_alloc _ _, Blk.new _ _ _⟩
    obtain ⟨X1, e1, HX1, HK1⟩ := F1
    have E1 := Lib.hid e1
    have HS1 : Hid (MapAt X1 mp ((l.zip us).take k |>.map subKV) ∧ Blk X1 (mp + 1) 216 #[.map (some mp)] ∧ Blk X1 p 3 #[.int .i64 a] ∧ Blk X1 (p + 1) 3 #[.int .i64 b] ∧ Below w.heap.size w X1) := by
      obtain ⟨h1, h2, h3, h4, h5⟩ := hS.out
      exact ⟨h1.below HX1.out h1.lt, h2.below HX1.out h2.lt, h3.below HX1.out h3.lt, h4.below HX1.out h4.lt, h5.trans (HX1.out.mono h5.size)⟩
    have HNE : Hid (s.id ∉ ((l.zip us).take k |>.map subKV).map Prod.fst) := by
      show ¬ _
      intro hmem
      have h1 : ((l.zip us).take k |>.map subKV).map Prod.fst = (l.map SubD.id).take k := by
        rw [← keys_ids l us HUS.out, List.map_take, List.map_take]
      rw [h1] at hmem
      obtain ⟨i, hi⟩ := List.mem_iff_getElem?.1 hmem
      rw [List.getElem?_take] at hi
      split at hi
      · rename_i hik
        have h2 : (l.map SubD.id)[k]? = some s.id := by rw [List.getElem?_map, hs]; rfl
        have h3 := (List.getElem?_inj (by rw [List.length_map, HN.out]; omega) HID.out).1 (hi.trans h2.symm)
        omega
      · cases hi
    have HNX : Hid (((l.zip us).take (k + 1) |>.map subKV) = ((l.zip us).take k |>.map subKV) ++ [(s.id, .agg #[.int .i64 s.id, .int .i64 s.from_, .int .i64 s.to_, .int .i64 s.days, .slice Au nu cu])]) := by
      show _ = _
      have hz : (l.zip us)[k]? = some (s, Value.slice Au nu cu) := List.getElem?_zip_eq_some.2 ⟨hs, hu⟩
      rw [List.take_add_one, hz, Option.toList_some, List.map_append]
      rfl
    obtain ⟨q, hq⟩ : ∃ q, X.heap.size = q := ⟨_, rfl⟩
    rw [hq] at HK1
    have HQ := Lib.hid hq
    have d0 := cellOf HK1.out 0 (x := .int .i64 s.id) rfl
    have d1 := cellOf HK1.out 1 (x := .int .i64 s.from_) rfl
    have d2 := cellOf HK1.out 2 (x := .int .i64 s.to_) rfl
    have d3 := cellOf HK1.out 3 (x := .int .i64 s.days) rfl
    have d4 := cellOf HK1.out 4 (x := .slice Au nu cu) rfl
    have y0 := cellOf HS1.out.2.1 0 (x := .map (some mp)) rfl
    have k0 : (0 : Int) ≤ (k : Int) := by omega
    have k1 : (k : Int) < (n : Int) := by omega
    clear hs hu HX hS e1 hq HX1 HK1
    go_upto_region 7 with fail
    rw [E1.out, HQ.out]
    clear E1 c0 c1 c2' c3' c4'
    go_wp2_with (at_mapUpdate; refine wpList_mapPut _ underInt rfl _ _ _ 216 rfl mapSub mp _ s.id (.agg #[.int .i64 s.id, .int .i64 s.from_, .int .i64 s.to_, .int .i64 s.days, .slice Au nu cu]) rfl rfl rfl HS1.out.1 HNE.out ?_; intro w1 hs1 hg1)
    have HS2 : Hid (MapAt w1 mp ((l.zip us).take (k + 1) |>.map subKV) ∧ Blk w1 (mp + 1) 216 #[.map (some mp)] ∧ Blk w1 p 3 #[.int .i64 a] ∧ Blk w1 (p + 1) 3 #[.int .i64 b] ∧ Below w.heap.size w w1) := by
      have hK : KeptBut (fun j => j = mp) X1 w1 := KeptBut.grown (S := fun j => j = mp) hg1 fun j hj => by cases hj; rfl
      obtain ⟨h1, h2, h3, h4, h5⟩ := HS1.out
      exact ⟨by rw [HNX.out]; exact hs1, hK.blk h2 (by omega), hK.blk h3 (by omega), hK.blk h4 (by omega), h5.trans (hK.below (fun j hj => by rw [hj, HP.out]; omega) h5.size)⟩
    clear hs1 hg1 d0 d1 d2 d3 d4 y0
    go_roundw
    case rel => exact ⟨k + 1, by omega, by go_num, HS2⟩
    case measure => simp [intOf]; omega
  · obtain rfl : k = n := by omega
    obtain ⟨h1, h2, h3, h4, h5⟩ := hS.out
    have HBX := Lib.hid h5
    have HDU : Hid (DueSt l us a b mp (mp + 1) p (p + 1) X) := by
      refine ⟨?_, h2, h3, h4, HUS.out, fun k s u hk hu Y hY => HRS.out k s u hk hu Y (h5.trans (hY.mono h5.size))⟩
      rw [List.take_of_length_le (by rw [List.length_zip, HUS.out, HN.out]; omega)] at h1
      exact h1
    have CC := Lib.hid (HCI.out mp (mp + 1) p (p + 1) _ X ((Rd.below HV.out h5).more h5.size) HDU.out)
    clear hS h1 h2 h3 h4 h5 HCI
    go_wp2_with fail
    refine CC.out.mono ?_
    rintro _ X2 ⟨rfl, hb2⟩
    have HB2 : Hid (Below w.heap.size w X2) := HBX.out.trans (hb2.mono HBX.out.size)
    clear CC hb2
    go_wp2_with fail
    go_ret
    exact ⟨rfl, HB2.out⟩
end Go.Proofs.Ytlmpbmlbllndcaa
