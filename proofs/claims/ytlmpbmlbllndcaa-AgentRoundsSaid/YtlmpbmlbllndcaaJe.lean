/-
  checkComplaints, of at most one complaint.
-/
import Derived.Test.YtlmpbmlbllndcaaJd
namespace Go.Proofs.Ytlmpbmlbllndcaa
open Go.RowKit
open Go.ChangeMaps (setBlock)
open Go.MapKept (heap_set)
attribute [local go_sem] Oper.semAt_some

theorem underCmp : Try.prog.underlying 91 = some (.struct (Try.prog.fieldsOf 91)) := by kernel_rfl
theorem mapCmp : Try.prog.underlying 227 = some (.map 91 4) := by kernel_rfl
theorem cmp_check (e : Bool) (a b : Int) (w : World) : (Instr.checkKey e 10000 91 (.agg #[.int .i64 a, .int .i64 b])).run Try.prog w = .ok () w := by kernel_rfl
theorem find_nil {P : Program} {K : TypeId} {d : TypeDesc} (hk : P.underlying K = some d) (key : Value) (w : World) : (Instr.findKey K key []).run P w = .ok none w := by
  unfold Instr.findKey
  simp only [Sem.run_bind, run_underlying hk, Result.andThen_ok]
  rfl
theorem cmp_get {w : World} {p : Nat} (hm : w.heap[p]? = some (.map #[] 0)) (a b : Int) : (Instr.lookup 227 (.map (some p)) (.agg #[.int .i64 a, .int .i64 b]) false).run Try.prog w = .ok (.bool false) w := by
  have hd := underCmp
  simp only [Instr.lookup, Sem.run_bind, run_underlying mapCmp, Result.andThen_ok]
  simp only [getObj, Sem.run, hm, Sem.run_bind, Result.andThen_ok, Sem.run_pure, cmp_check, Result.andThen]
  rw [find_nil hd]
  simp [zeroBool]
theorem cmp_put {w : World} {p : Nat} (hm : w.heap[p]? = some (.map #[] 0)) (a b : Int) : ∃ w1, (Instr.mapUpdate 227 (.map (some p)) (.agg #[.int .i64 a, .int .i64 b]) (.bool true)).run Try.prog w = .ok () w1 ∧ w.grownBy w1 (some p) := by
  have hd := underCmp
  have hset := fun o' => heap_set (o' := o') hm
  refine ⟨setBlock w p (.map #[{ key := .agg #[.int .i64 a, .int .i64 b], val := .bool true, born := 0 }] 1), ?_, ⟨rfl, rfl, rfl, by simp [setBlock], fun i _ hi => (hset _).2 i (fun e => hi (by rw [e]))⟩⟩
  simp only [Instr.mapUpdate, Sem.run_bind, run_underlying mapCmp, Result.andThen_ok]
  simp only [getObj, setObj, Sem.run, hm, Sem.run_bind, Result.andThen_ok, cmp_check, Result.andThen]
  rw [find_nil hd]
  simp [Sem.run, hm, setBlock]
/-- A map step in the walk: by its run. -/
theorem wpList_mapUpdate_run {P : Program} {w w1 : World} {ops : Array Oper} {rest : List Oper} {o : Oper} {a : Act} {Q : Exit → Act → World → Prop} (hg : o.guard = none) (m x v : Operand) (t : TypeId) (hop : o.op = Op.mapUpdate t m x v)
    (hrun : (Instr.mapUpdate t (a.eval m) (a.eval x) (a.eval v)).run P w = .ok () w1) (h : wpList P ops Q rest (a.put o.dst undef) w1) : wpList P ops Q (o :: rest) a w := by
  refine wpList_plain hg fun K' hK' => ?_
  unfold Oper.wp
  simp [execOp, hop, hrun, Result.andThen]
  exact hK' _ _ h
/-- A map step in the walk, by what it leaves. -/
theorem wpList_map_ex {P : Program} {w : World} {Φ : World → Prop} {ops : Array Oper} {rest : List Oper} {o : Oper} {a : Act} {Q : Exit → Act → World → Prop} (hg : o.guard = none) (m x v : Operand) (t : TypeId) (hop : o.op = Op.mapUpdate t m x v)
    (hrun : ∃ w1, (Instr.mapUpdate t (a.eval m) (a.eval x) (a.eval v)).run P w = .ok () w1 ∧ Φ w1) (h : ∀ w1, Φ w1 → wpList P ops Q rest (a.put o.dst undef) w1) : wpList P ops Q (o :: rest) a w := by
  obtain ⟨w1, h1, h2⟩ := hrun
  exact wpList_mapUpdate_run hg m x v t hop h1 (h w1 h2)
def RCmps (B : Nat) (w : World) (v : Value) (c : List CmpD) : Prop := Rd B w 2 v c.length (c.flatMap CmpD.cells)
theorem cmps_later {w : World} {v : Value} {l : List CmpD} (h : RCmps w.heap.size w v l) : ∃ A c, v = .slice A l.length c ∧ l.length ≤ 9223372036854775807 ∧ Hid (∀ k x, l[k]? = some x → ∃ g o, A = some ⟨g, o, none⟩ ∧ Hid (∀ X, Below w.heap.size w X → X.cell? ⟨g, o + k * 2, none⟩ = some (.int .i64 x.sub) ∧ X.cell? ⟨g, o + k * 2 + 1, none⟩ = some (.int .i64 x.day))) := by
  obtain ⟨A, c, rfl, -, hm, hr⟩ := h
  refine ⟨A, c, rfl, by simpa [maxLen] using hm, fun k x hx => ?_⟩
  have hk : k < l.length := (List.getElem?_eq_some_iff.1 hx).1
  obtain ⟨g, o, hA, hb, hc⟩ := hr (by omega)
  have hf := fun j hj => flat_at CmpD.cells 2 (fun _ => rfl) _ k j _ hx hj
  exact ⟨g, o, hA, fun X hX => ⟨(hX.cell (p := ⟨g, o + k * 2, none⟩) hb).trans (hc _ _ (hf 0 (by omega))), (hX.cell (p := ⟨g, o + k * 2 + 1, none⟩) hb).trans (hc _ _ (hf 1 (by omega)))⟩⟩
def cmpE (l : List SubD) (a b : Int) (c : List CmpD) : Int := if c.all (dueB l a b) then 0 else 4
set_option maxRecDepth 100000 in
set_option maxHeartbeats 4000000 in
theorem firstCmp_any (l : List SubD) (us : List Value) (a b : Int) (hab : dayB a b = true) (hl : ∀ s ∈ l, s.Ok) (hid : (l.map SubD.id).Nodup) (mp MB FB TB : Nat) (c : List CmpD) (hc : c.length ≤ 1) (v : Value) (w : World) (hv : RCmps w.heap.size w v c) (h : DueSt l us a b mp MB FB TB w) :
    Calls Try.prog 138 #[v, .func (.func 137) #[] #[.pointer (some ⟨MB, 0, none⟩), .pointer (some ⟨FB, 0, none⟩), .pointer (some ⟨TB, 0, none⟩)], .int .i64 4, .func (.func 139) #[] #[]] w fun e w' => e = .returned (.int .i64 (cmpE l a b c)) ∧ Below w.heap.size w w' := by
  obtain ⟨A, cc, rfl, -, HD⟩ := cmps_later hv
  obtain ⟨n, hn⟩ : ∃ n, c.length = n := ⟨_, rfl⟩
  rw [hn] at hc ⊢
  have HN := Lib.hid hn
  have CD := Lib.hid (fun (x : CmpD) (w : World) (h : DueSt l us a b mp MB FB TB w) => isDue_any l us a b hab hl hid mp MB FB TB x w h)
  have HS := Lib.hid h
  have hmm := @run_makeMap Try.prog
  have F0 : ∃ W0, w.alloc (.map #[] 0) = W0 ∧ Hid (Below w.heap.size w W0) ∧ Hid (W0.heap[w.heap.size]? = some (.map #[] 0)) := ⟨_, rfl, below_alloc _ _, (MapKept.heap_alloc w _).1⟩
  obtain ⟨W0, e0, HB0, HS0⟩ := F0
  have E0 := Lib.hid e0
  obtain ⟨p, hp⟩ : ∃ p, w.heap.size = p := ⟨_, rfl⟩
  rw [hp] at HS0
  have HP := Lib.hid hp
  clear h hab hl hid hv hn e0 hp
  go_enter Try.func138, Try.ntmps138
  go_upto_region 2 with fail
  rw [E0.out]
  clear E0 hmm
  rw [HP.out]
  go_wp2_with fail
  go_loopw [15] (fun i wr => ∃ k : Nat, k ≤ n ∧ i = .int .i64 k ∧ Hid (k = 0 → wr.heap[p]? = some (.map #[] 0)) ∧ Hid (0 < k → c.all (dueB l a b) = true) ∧ Hid (Below w.heap.size w wr)) (fun i _ => n - (intOf i).toNat)
  case atStart => exact ⟨0, Nat.zero_le _, rfl, fun _ => HS0.out, fun h => absurd h (by omega), HB0.out⟩
  case round =>
  clear HS0 HB0
  obtain ⟨k, hk, rfl, h0, h1, hB⟩ := hrel
  obtain ⟨X, rfl⟩ : ∃ X : World, X = wr := ⟨_, rfl⟩
  by_cases hlt : k < n
  · obtain rfl : k = 0 := by omega
    obtain rfl : n = 1 := by omega
    obtain ⟨x, hx⟩ : ∃ x, c[0]? = some x := ⟨_, List.getElem?_eq_getElem (by rw [HN.out]; exact hlt)⟩
    have HCX : Hid (c = [x]) := by
      have hl := HN.out
      show c = [x]
      match c, hl with
      | [y], _ => simpa using hx
    obtain ⟨g, o, rfl, HX⟩ := HD.out 0 x hx
    obtain ⟨c0, c1⟩ := HX.out X hB.out
    simp only [Nat.zero_mul, Nat.add_zero] at c0 c1
    have HM0 : Hid (X.heap[p]? = some (.map #[] 0)) := h0.out rfl
    have F1 : ∃ X1, X.alloc (.cells #[.int .i64 x.sub, .int .i64 x.day] 91) = X1 ∧ Hid (Below X.heap.size X X1) ∧ Hid (Blk X1 X.heap.size 91 #[.int .i64 x.sub, .int .i64 x.day]) := ⟨_, rfl, below_alloc _ _, Blk.new _ _ _⟩
    obtain ⟨X1, e1, HX1, HK1⟩ := F1
    have E1 := Lib.hid e1
    have hpX : p < X.heap.size := (Array.getElem?_eq_some_iff.1 HM0.out).1
    have HM1 : Hid (X1.heap[p]? = some (.map #[] 0)) := (HX1.out.block p hpX).trans HM0.out
    have HB1 : Hid (Below w.heap.size w X1) := hB.out.trans (HX1.out.mono hB.out.size)
    have hpX1 : Hid (p < X1.heap.size) := Nat.lt_of_lt_of_le hpX HX1.out.size
    obtain ⟨q, hq⟩ : ∃ q, X.heap.size = q := ⟨_, rfl⟩
    rw [hq] at HK1
    have HQ := Lib.hid hq
    have HCC : Hid (∀ Y, Below X1.heap.size X1 Y → Y.cell? ⟨q, 0, none⟩ = some (.int .i64 x.sub) ∧ Y.cell? ⟨q, 1, none⟩ = some (.int .i64 x.day)) := fun Y hY => by
      have h1 := HK1.out.below hY HK1.out.lt
      exact ⟨cellOf h1 0 rfl, cellOf h1 1 rfl⟩
    have CR := Lib.hid (CD.out x X1 (HS.out.below HB1.out))
    obtain ⟨ob, hob⟩ : ∃ e, dueB l a b x = e := ⟨_, rfl⟩
    rw [hob] at CR
    have HAL : Hid (c.all (dueB l a b) = ob) := by show _ = _; rw [HCX.out, ← hob]; simp
    obtain ⟨d0, d1⟩ := HCC.out X1 (Below.refl _ _)
    clear hx hob e1 hq HX hB h0 h1 HX1 HK1 hpX
    go_upto_region 5 with fail
    rw [E1.out, HQ.out]
    clear E1 c0 c1
    go_wp2_with fail
    refine CR.out.mono ?_
    rintro _ X2 ⟨rfl, hb2⟩
    have HX2 := Lib.hid hb2
    have HB2 : Hid (Below w.heap.size w X2) := HB1.out.trans (hb2.mono HB1.out.size)
    have HM2 : Hid (X2.heap[p]? = some (.map #[] 0)) := (hb2.block p hpX1.out).trans HM1.out
    clear CR hb2 d0 d1
    cases ob
    · have HX : Hid (cmpE l a b c = 4) := by show _ = _; unfold cmpE; rw [HAL.out]; rfl
      go_wp2_with fail
      go_ret
      exact ⟨ri HX.out, HB2.out⟩
    have CK := Lib.hid (fun w => cmpKey_any x w)
    obtain ⟨d0, d1⟩ := HCC.out X2 HX2.out
    go_wp2_with fail
    refine (CK.out _).mono ?_
    rintro _ X3 ⟨rfl, hb3⟩
    have HX3 : Hid (Below X1.heap.size X1 X3) := HX2.out.trans (hb3.mono HX2.out.size)
    have HB3 : Hid (Below w.heap.size w X3) := HB2.out.trans (hb3.mono HB2.out.size)
    have HM3 : Hid (X3.heap[p]? = some (.map #[] 0)) := (hb3.block p (Nat.lt_of_lt_of_le hpX1.out HX2.out.size)).trans HM2.out
    have hget := cmp_get HM3.out x.sub x.day
    clear hb3 d0 d1
    obtain ⟨d0, d1⟩ := HCC.out X3 HX3.out
    go_wp2_with fail
    clear hget
    refine (CK.out _).mono ?_
    rintro _ X4 ⟨rfl, hb4⟩
    have HB4 : Hid (Below w.heap.size w X4) := HB3.out.trans (hb4.mono HB3.out.size)
    have HM4 : Hid (X4.heap[p]? = some (.map #[] 0)) := (hb4.block p (Nat.lt_of_lt_of_le hpX1.out HX3.out.size)).trans HM3.out
    have HUP := Lib.hid (cmp_put HM4.out x.sub x.day)
    clear hb4 d0 d1
    go_wp2_with (at_mapUpdate; refine wpList_map_ex rfl _ _ _ 227 rfl HUP.out ?_; intro w1 hg1)
    have HB5 : Hid (Below w.heap.size w w1) := HB4.out.grown hg1 HB4.out.size (fun j hj => by cases hj; rw [HP.out]; exact Nat.le_refl _)
    clear hg1
    go_roundw
    case rel =>
      repeat apply Exists.intro
      refine ⟨?_, rfl⟩
      exact ⟨1, by omega, by go_num, fun h => absurd h (by omega), fun _ => HAL.out, HB5⟩
    case measure => simp [intOf]
  · have HX : Hid (cmpE l a b c = 0) := by
      show _ = _
      unfold cmpE
      by_cases hk0 : 0 < k
      · rw [if_pos (h1.out hk0)]
      · rw [List.eq_nil_of_length_eq_zero (l := c) (by rw [HN.out]; omega)]
        rfl
    go_wp2_with fail
    go_ret
    exact ⟨ri HX.out, hB.out⟩
end Go.Proofs.Ytlmpbmlbllndcaa
