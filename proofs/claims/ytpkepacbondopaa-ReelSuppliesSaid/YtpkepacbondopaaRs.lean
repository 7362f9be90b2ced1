/-
  ReelSupplies: for any supply, any list of weeks and any list of prices the call returns true, and each argument reads as it did.
  No bound is asked of the arguments.
-/
import Derived.Test.YtpkepacbondopaaRr
import Derived.Deep.RegionHeld3
import Derived.Test.YtpkepacbondopaaOc
import Derived.WalkLawsBesides
import Derived.Lib.SmallJoins
import Derived.Test.YtpkepacbondopaaOd
namespace Go.Proofs.Ytpkepacbondopaa
open Go.RowKit Go.Shelf
attribute [local go_sem] Oper.semAt_some

theorem sched_ge {m : Nat} {l : List Int} (h0 : l.getD 0 0 = 0) : ∀ k : Nat, (∀ j, j < k → stepB m l j = true) → (k : Int) ≤ l.getD k 0
  | 0, _ => by rw [h0]; exact Int.le_refl _
  | k + 1, h => by
    have h1 := stepB_iff.1 (h k (Nat.lt_succ_self _))
    have h2 := sched_ge h0 k fun j hj => h j (by omega)
    omega
theorem sched_all {m : Nat} (hm : 0 < m) {l : List Int} (h : schedB m l = true) : l.length ≤ m ∧ ∀ x ∈ l, 0 ≤ x ∧ x < (m : Int) := by
  unfold schedB at h
  rw [Bool.and_eq_true, Bool.and_eq_true, decide_eq_true_eq, decide_eq_true_eq] at h
  obtain ⟨⟨h1, h2⟩, h3⟩ := h
  have h4 : ∀ j, j < l.length - 1 → stepB m l j = true := fun j hj => List.all_eq_true.1 h3 j (List.mem_range.2 hj)
  have h5 := sched_ge h2 (l.length - 1) h4
  have h6 := sched_in hm h2 (l.length - 1) h4
  refine ⟨by omega, fun x hx => ?_⟩
  obtain ⟨j, hj, rfl⟩ := List.mem_iff_getElem.1 hx
  have h7 := sched_in hm h2 j fun i hi => h4 i (by omega)
  rw [List.getD_eq_getElem?_getD, List.getElem?_eq_getElem hj, Option.getD_some] at h7
  exact h7
theorem cost_end {s : SupD} {l : List Int} {w X9 : World} {tmps : Array Value} {x c : Int} (hA : tmps.getD 4 undef = .pointer (some ⟨w.heap.size + 1, 0, none⟩)) (hB : tmps.getD 5 undef = .pointer (some ⟨w.heap.size + 1 + 1, 0, none⟩))
    (k4 : X9.cell? ⟨w.heap.size + 1, 0, none⟩ = some (.int .i64 x)) (k5 : X9.cell? ⟨w.heap.size + 1 + 1, 0, none⟩ = some (.int .i64 c)) (his : CostIs s l x c) (hb : Below w.heap.size w X9) : LeavesInM Fence.wide 10 Try.prog Try.f36 tmps (CostR s l w) [] .returning X9 := by
  refine leaves_marks ([] : List Nat) X9 List.nodup_nil (fun _ h => (by cases h)) fun Z hZ => ?_
  have h4 := (hZ.cell (p := ⟨w.heap.size + 1, 0, none⟩) (World.block_lt_of_cell? X9 _ k4) (fun h => by cases h)).trans k4
  have h5 := (hZ.cell (p := ⟨w.heap.size + 1 + 1, 0, none⟩) (World.block_lt_of_cell? X9 _ k5) (fun h => by cases h)).trans k5
  exact ⟨_, results_cost hA hB h4 h5, x, c, rfl, his, hb.trans (hZ.below (fun _ h => (by cases h)) hb.size)⟩
set_option maxRecDepth 1000000 in
set_option maxHeartbeats 4000000 in
theorem Cost_bad (s : SupD) (l : List Int) (hbad : checkS s ≠ 0 ∨ schedB s.need.length l = false) (v u : Value) (w : World) (h : RSup w.heap.size w v s) (hu : RInts w.heap.size w u l) (hl : l.length ≤ 1000) (hcap : ∀ A n c, u = .slice A n c → n ≤ c) :
    Calls Try.prog 36 #[v, u] w (CostR s l w) := by
  have HSUP := Lib.hid h
  obtain ⟨vn, vo, rfl, hN, hO⟩ := h
  obtain ⟨An, cn, rfl, hnm, -⟩ := hN.open_
  obtain ⟨Ao, co, rfl, hom, -⟩ := hO.open_
  obtain ⟨Au, cu, rfl, hum, -⟩ := hu.open_
  have HU := Lib.hid hu
  have HCAP := Lib.hid hcap
  obtain ⟨m, hm⟩ : ∃ m, s.need.length = m := ⟨_, rfl⟩
  obtain ⟨o, ho⟩ : ∃ m, s.order.length = m := ⟨_, rfl⟩
  obtain ⟨n, hn⟩ : ∃ m, l.length = m := ⟨_, rfl⟩
  rw [hm] at hnm HSUP ⊢
  rw [ho] at hom HSUP ⊢
  rw [hn] at hum hl HU HCAP ⊢
  have HM := Lib.hid hm
  have Hn := Lib.hid hn
  obtain ⟨r, hrr⟩ : ∃ r, checkS s = r := ⟨_, rfl⟩
  have HC := Lib.hid hrr
  have HBAD := Lib.hid hbad
  clear hN hO hu hcap hm ho hn hbad
  have F0 : ∃ W0, ((w.alloc (.cells #[.slice An m cn, .slice Ao o co, .int .i64 s.keep, .int .i64 s.room] 33)).alloc (.cells #[.int .i64 0] 3)).alloc (.cells #[.int .i64 0] 38) = W0 ∧ Hid (Below w.heap.size w W0 ∧ Blk W0 w.heap.size 33 #[.slice An m cn, .slice Ao o co, .int .i64 s.keep, .int .i64 s.room] ∧ Blk W0 (w.heap.size + 1) 3 #[.int .i64 0] ∧ Blk W0 (w.heap.size + 1 + 1) 38 #[.int .i64 0]) := by
    have b1 := below_alloc w (.cells #[.slice An m cn, .slice Ao o co, .int .i64 s.keep, .int .i64 s.room] 33)
    have k1 := Blk.new w 33 #[.slice An m cn, .slice Ao o co, .int .i64 s.keep, .int .i64 s.room]
    obtain ⟨V1, e1⟩ : ∃ V, w.alloc (.cells #[.slice An m cn, .slice Ao o co, .int .i64 s.keep, .int .i64 s.room] 33) = V := ⟨_, rfl⟩
    rw [e1] at b1 k1 ⊢
    have z1 : V1.heap.size = w.heap.size + 1 := by rw [← e1]; simp
    have b3 := below_alloc V1 (.cells #[.int .i64 0] 3)
    have k3 := Blk.new V1 3 #[.int .i64 0]
    obtain ⟨V3, e3⟩ : ∃ V, V1.alloc (.cells #[.int .i64 0] 3) = V := ⟨_, rfl⟩
    rw [e3] at b3 k3 ⊢
    have z3 : V3.heap.size = w.heap.size + 1 + 1 := by rw [← e3]; simp [z1]
    have b4 := below_alloc V3 (.cells #[.int .i64 0] 38)
    have k4 := Blk.new V3 38 #[.int .i64 0]
    refine ⟨_, rfl, b1.trans ((b3.trans (b4.mono b3.size)).mono b1.size), ?_, ?_, ?_⟩
    · exact (k1.below b3 k1.lt).below b4 (k1.below b3 k1.lt).lt
    · rw [← z1]; exact k3.below b4 k3.lt
    · rw [← z3]; exact k4
  obtain ⟨W0, e0, h0⟩ := F0
  have E0 := Lib.hid e0

  have CC := Lib.hid (CheckSupply_any s _ W0 ((HSUP.out.below h0.out.1).more h0.out.1.size))
  rw [hrr] at CC
  clear e0 hrr
  have S := h0.out.2.1
  have s0 := cellOf S 0 (x := .slice An m cn) rfl
  have s1 := cellOf S 1 (x := .slice Ao o co) rfl
  have s2 := cellOf S 2 (x := .int .i64 s.keep) rfl
  have s3 := cellOf S 3 (x := .int .i64 s.room) rfl
  clear S
  refine (callsIn_wide (n := 10)).1 ?_
  refine callsIn_of_wp_marks Try.func36 rfl trivial ?_ rfl
  simp only [Try.ntmps36, List.size_toArray, List.length_cons, List.length_nil, Nat.reduceAdd, Nat.reduceSub, Array.replicate_succ, Array.replicate_zero, List.push_toArray, List.append_toArray, List.nil_append, List.cons_append]
  refine wpIn_wide.2 ?_
  go_upto_region 1 with fail
  rw [E0.out]
  clear E0
  go_wp2_with fail
  refine CC.out.mono ?_
  rintro _ W1 ⟨rfl, hb1⟩
  have h1 : Hid (Below w.heap.size w W1 ∧ Blk W1 w.heap.size 33 #[.slice An m cn, .slice Ao o co, .int .i64 s.keep, .int .i64 s.room] ∧ Blk W1 (w.heap.size + 1) 3 #[.int .i64 0] ∧ Blk W1 (w.heap.size + 1 + 1) 38 #[.int .i64 0]) := ⟨h0.out.1.trans (hb1.mono h0.out.1.size), h0.out.2.1.below hb1 h0.out.2.1.lt, h0.out.2.2.1.below hb1 h0.out.2.2.1.lt, h0.out.2.2.2.below hb1 h0.out.2.2.2.lt⟩
  clear hb1 CC s0 s1 s2 s3 h0
  have d4 := cellOf h1.out.2.2.1 0 (x := .int .i64 0) rfl
  have d5 := cellOf h1.out.2.2.2 0 (x := .int .i64 0) rfl
  have f4 := h1.out.2.2.1.frozen 0
  have f5 := h1.out.2.2.2.frozen 0
  by_cases hr0 : r = 0
  case neg =>
    have hr1 : (r != 0) = true := by simpa using hr0
    have HX : Hid (∃ X9, (W1.setCell ⟨w.heap.size + 1, 0, none⟩ (.int .i64 0)).setCell ⟨w.heap.size + 1 + 1, 0, none⟩ (.int .i64 r) = X9 ∧ X9.cell? ⟨w.heap.size + 1, 0, none⟩ = some (.int .i64 0) ∧ X9.cell? ⟨w.heap.size + 1 + 1, 0, none⟩ = some (.int .i64 r) ∧ CostIs s l 0 r ∧ Below w.heap.size w X9) := by
      have k4 := (h1.out.2.2.1.put 0 (.int .i64 0)).far (p := ⟨w.heap.size + 1 + 1, 0, none⟩) (by show w.heap.size + 1 ≠ w.heap.size + 1 + 1; omega) (.int .i64 r)
      have k5 := (h1.out.2.2.2.far (p := ⟨w.heap.size + 1, 0, none⟩) (by show w.heap.size + 1 + 1 ≠ w.heap.size + 1; omega) (.int .i64 0)).put 0 (.int .i64 r)
      exact ⟨_, rfl, cellOf k4 0 rfl, cellOf k5 0 rfl, .inl ⟨by rw [HC.out]; exact hr0, rfl, HC.out.symm⟩, (h1.out.1.setCell (p := ⟨w.heap.size + 1, 0, none⟩) (by show w.heap.size ≤ w.heap.size + 1; omega) _).setCell (p := ⟨w.heap.size + 1 + 1, 0, none⟩) (by show w.heap.size ≤ w.heap.size + 1 + 1; omega) _⟩
    clear hr0
    go_wp2_with fail
    obtain ⟨X9, e9, k4, k5, h8, h9⟩ := HX.out
    rw [e9]
    exact cost_end rfl rfl k4 k5 h8 h9
  subst hr0
  have HSB : Hid (schedB s.need.length l = false) := HBAD.out.resolve_left fun h => h HC.out
  have HS := Lib.hid (checkS_ok HC.out)
  have CA := Lib.hid (isSchedule_all s l _ _ W1 ((HSUP.out.below h1.out.1).more h1.out.1.size) (by have := HS.out.weeks; omega) ((HU.out.below h1.out.1).more h1.out.1.size) (by rw [Hn.out]; exact hl) HCAP.out (by have := HS.out.weeks; omega))
  rw [HSB.out] at CA
  clear d4 d5 f4 f5
  have S := h1.out.2.1
  have s0 := cellOf S 0 (x := .slice An m cn) rfl
  have s1 := cellOf S 1 (x := .slice Ao o co) rfl
  have s2 := cellOf S 2 (x := .int .i64 s.keep) rfl
  have s3 := cellOf S 3 (x := .int .i64 s.room) rfl
  clear S
  go_wp2_with fail
  refine CA.out.mono ?_
  rintro _ W2 ⟨rfl, hb2⟩
  have h2 : Hid (Below w.heap.size w W2 ∧ Blk W2 w.heap.size 33 #[.slice An m cn, .slice Ao o co, .int .i64 s.keep, .int .i64 s.room] ∧ Blk W2 (w.heap.size + 1) 3 #[.int .i64 0] ∧ Blk W2 (w.heap.size + 1 + 1) 38 #[.int .i64 0]) := ⟨h1.out.1.trans (hb2.mono h1.out.1.size), h1.out.2.1.below hb2 h1.out.2.1.lt, h1.out.2.2.1.below hb2 h1.out.2.2.1.lt, h1.out.2.2.2.below hb2 h1.out.2.2.2.lt⟩
  clear hb2 CA s0 s1 s2 s3
  have d4 := cellOf h2.out.2.2.1 0 (x := .int .i64 0) rfl
  have d5 := cellOf h2.out.2.2.2 0 (x := .int .i64 0) rfl
  have f4 := h2.out.2.2.1.frozen 0
  have f5 := h2.out.2.2.2.frozen 0
  have HX : Hid (∃ X9, (W2.setCell ⟨w.heap.size + 1, 0, none⟩ (.int .i64 0)).setCell ⟨w.heap.size + 1 + 1, 0, none⟩ (.int .i64 1) = X9 ∧ X9.cell? ⟨w.heap.size + 1, 0, none⟩ = some (.int .i64 0) ∧ X9.cell? ⟨w.heap.size + 1 + 1, 0, none⟩ = some (.int .i64 1) ∧ CostIs s l 0 1 ∧ Below w.heap.size w X9) := by
    have k4 := (h2.out.2.2.1.put 0 (.int .i64 0)).far (p := ⟨w.heap.size + 1 + 1, 0, none⟩) (by show w.heap.size + 1 ≠ w.heap.size + 1 + 1; omega) (.int .i64 1)
    have k5 := (h2.out.2.2.2.far (p := ⟨w.heap.size + 1, 0, none⟩) (by show w.heap.size + 1 + 1 ≠ w.heap.size + 1; omega) (.int .i64 0)).put 0 (.int .i64 1)
    exact ⟨_, rfl, cellOf k4 0 rfl, cellOf k5 0 rfl, .inr (.inl ⟨HC.out, HSB.out, rfl, rfl⟩), (h2.out.1.setCell (p := ⟨w.heap.size + 1, 0, none⟩) (by show w.heap.size ≤ w.heap.size + 1; omega) _).setCell (p := ⟨w.heap.size + 1 + 1, 0, none⟩) (by show w.heap.size ≤ w.heap.size + 1 + 1; omega) _⟩
  go_wp2_with fail
  obtain ⟨X9, e9, k4, k5, h8, h9⟩ := HX.out
  rw [e9]
  exact cost_end rfl rfl k4 k5 h8 h9
theorem Cost_full (s : SupD) (l : List Int) (v u : Value) (w : World) (h : RSup w.heap.size w v s) (hu : RInts w.heap.size w u l) (hl : l.length ≤ 1000) (hcap : ∀ A n c, u = .slice A n c → n ≤ c) :
    Calls Try.prog 36 #[v, u] w (CostR s l w) := by
  by_cases hc : checkS s = 0
  · obtain ⟨b, hb⟩ : ∃ b, schedB s.need.length l = b := ⟨_, rfl⟩
    cases b
    · exact Cost_bad s l (.inr hb) v u w h hu hl hcap
    · have hs := checkS_ok hc
      have hw := hs.weeks
      obtain ⟨h1, h2⟩ := sched_all (by omega) hb
      refine (Cost_ok s hc l hb h2 (by omega) v u w h hu hcap).mono ?_
      rintro e w' ⟨rfl, h3⟩
      obtain ⟨f, hf⟩ : ∃ f, (cF s s.need.length l).1 = f := ⟨_, rfl⟩
      cases f
      · exact ⟨0, 9, by rw [hf]; rfl, .inr (.inr ⟨hc, hb, .inr ⟨hf, rfl, rfl⟩⟩), h3⟩
      · exact ⟨_, 0, by rw [hf]; rfl, .inr (.inr ⟨hc, hb, .inl ⟨hf, rfl, rfl⟩⟩), h3⟩
  · exact Cost_bad s l (.inl hc) v u w h hu hl hcap
end Go.Proofs.Ytpkepacbondopaa

namespace Go.Proofs.Ytpkepacbondopaa
open Go.RowKit Go.Shelf
attribute [local go_sem] Oper.semAt_some

theorem prv_end {s : SupD} {l : List Int} {w X9 : World} {tmps : Array Value} {x c : Int} (hA : tmps.getD 4 undef = .pointer (some ⟨w.heap.size + 1 + 1, 0, none⟩)) (hB : tmps.getD 5 undef = .pointer (some ⟨w.heap.size + 1 + 1 + 1, 0, none⟩))
    (k4 : X9.cell? ⟨w.heap.size + 1 + 1, 0, none⟩ = some (.int .i64 x)) (k5 : X9.cell? ⟨w.heap.size + 1 + 1 + 1, 0, none⟩ = some (.int .i64 c)) (his : PrvIs s l x c) (hb : Below w.heap.size w X9) : LeavesInM Fence.wide 10 Try.prog Try.f35 tmps (PrvR s l w) [] .returning X9 := by
  refine leaves_marks ([] : List Nat) X9 List.nodup_nil (fun _ h => (by cases h)) fun Z hZ => ?_
  have h4 := (hZ.cell (p := ⟨w.heap.size + 1 + 1, 0, none⟩) (World.block_lt_of_cell? X9 _ k4) (fun h => by cases h)).trans k4
  have h5 := (hZ.cell (p := ⟨w.heap.size + 1 + 1 + 1, 0, none⟩) (World.block_lt_of_cell? X9 _ k5) (fun h => by cases h)).trans k5
  exact ⟨_, results_two hA hB h4 h5, x, c, rfl, his, hb.trans (hZ.below (fun _ h => (by cases h)) hb.size)⟩
set_option maxRecDepth 1000000 in
set_option maxHeartbeats 4000000 in
theorem Proves_bad (s : SupD) (l : List Int) (hbad : checkS s ≠ 0 ∨ pricesB s.need.length l = false) (v u : Value) (w : World) (h : RSup w.heap.size w v s) (hu : RInts w.heap.size w u l) (hl : l.length ≤ 1000) :
    Calls Try.prog 35 #[v, u] w (PrvR s l w) := by
  have HSUP := Lib.hid h
  obtain ⟨vn, vo, rfl, hN, hO⟩ := h
  obtain ⟨An, cn, rfl, hnm, -⟩ := hN.open_
  obtain ⟨Ao, co, rfl, hom, -⟩ := hO.open_
  obtain ⟨Au, cu, rfl, hum, -⟩ := hu.open_
  have HU := Lib.hid hu
  obtain ⟨m, hm⟩ : ∃ m, s.need.length = m := ⟨_, rfl⟩
  obtain ⟨o, ho⟩ : ∃ m, s.order.length = m := ⟨_, rfl⟩
  obtain ⟨n, hn⟩ : ∃ m, l.length = m := ⟨_, rfl⟩
  rw [hm] at hnm HSUP ⊢
  rw [ho] at hom HSUP ⊢
  rw [hn] at hum hl HU ⊢
  have HM := Lib.hid hm
  have Hn := Lib.hid hn
  obtain ⟨r, hrr⟩ : ∃ r, checkS s = r := ⟨_, rfl⟩
  have HC := Lib.hid hrr
  have HBAD := Lib.hid hbad
  clear hN hO hu hm ho hn hbad
  have F0 : ∃ W0, (((w.alloc (.cells #[.slice An m cn, .slice Ao o co, .int .i64 s.keep, .int .i64 s.room] 33)).alloc (.cells #[.slice Au n cu] 30)).alloc (.cells #[.int .i64 0] 3)).alloc (.cells #[.int .i64 0] 38) = W0 ∧ Hid (Below w.heap.size w W0 ∧ Blk W0 w.heap.size 33 #[.slice An m cn, .slice Ao o co, .int .i64 s.keep, .int .i64 s.room] ∧ Blk W0 (w.heap.size + 1 + 1) 3 #[.int .i64 0] ∧ Blk W0 (w.heap.size + 1 + 1 + 1) 38 #[.int .i64 0] ∧ Blk W0 (w.heap.size + 1) 30 #[.slice Au n cu]) := by
    have b1 := below_alloc w (.cells #[.slice An m cn, .slice Ao o co, .int .i64 s.keep, .int .i64 s.room] 33)
    have k1 := Blk.new w 33 #[.slice An m cn, .slice Ao o co, .int .i64 s.keep, .int .i64 s.room]
    obtain ⟨V1, e1⟩ : ∃ V, w.alloc (.cells #[.slice An m cn, .slice Ao o co, .int .i64 s.keep, .int .i64 s.room] 33) = V := ⟨_, rfl⟩
    rw [e1] at b1 k1 ⊢
    have z1 : V1.heap.size = w.heap.size + 1 := by rw [← e1]; simp
    have b2 := below_alloc V1 (.cells #[.slice Au n cu] 30)
    have k2 := Blk.new V1 30 #[.slice Au n cu]
    obtain ⟨V2, e2⟩ : ∃ V, V1.alloc (.cells #[.slice Au n cu] 30) = V := ⟨_, rfl⟩
    rw [e2] at b2 k2 ⊢
    have z2 : V2.heap.size = w.heap.size + 1 + 1 := by rw [← e2]; simp [z1]
    have b3 := below_alloc V2 (.cells #[.int .i64 0] 3)
    have k3 := Blk.new V2 3 #[.int .i64 0]
    obtain ⟨V3, e3⟩ : ∃ V, V2.alloc (.cells #[.int .i64 0] 3) = V := ⟨_, rfl⟩
    rw [e3] at b3 k3 ⊢
    have z3 : V3.heap.size = w.heap.size + 1 + 1 + 1 := by rw [← e3]; simp [z2]
    have b4 := below_alloc V3 (.cells #[.int .i64 0] 38)
    have k4 := Blk.new V3 38 #[.int .i64 0]
    refine ⟨_, rfl, b1.trans ((b2.trans ((b3.trans (b4.mono b3.size)).mono b2.size)).mono b1.size), ?_, ?_, ?_, ?_⟩
    · exact ((k1.below b2 k1.lt).below b3 (k1.below b2 k1.lt).lt).below b4 ((k1.below b2 k1.lt).below b3 (k1.below b2 k1.lt).lt).lt
    · rw [← z2]; exact k3.below b4 k3.lt
    · rw [← z3]; exact k4
    · rw [← z1]; exact (k2.below b3 k2.lt).below b4 (k2.below b3 k2.lt).lt
  obtain ⟨W0, e0, h0⟩ := F0
  have E0 := Lib.hid e0

  have CC := Lib.hid (CheckSupply_any s _ W0 ((HSUP.out.below h0.out.1).more h0.out.1.size))
  rw [hrr] at CC
  clear e0 hrr
  have S := h0.out.2.1
  have s0 := cellOf S 0 (x := .slice An m cn) rfl
  have s1 := cellOf S 1 (x := .slice Ao o co) rfl
  have s2 := cellOf S 2 (x := .int .i64 s.keep) rfl
  have s3 := cellOf S 3 (x := .int .i64 s.room) rfl
  have bx := cellOf h0.out.2.2.2.2 0 (x := .slice Au n cu) rfl
  clear S
  refine (callsIn_wide (n := 10)).1 ?_
  refine callsIn_of_wp_marks Try.func35 rfl trivial ?_ rfl
  simp only [Try.ntmps35, List.size_toArray, List.length_cons, List.length_nil, Nat.reduceAdd, Nat.reduceSub, Array.replicate_succ, Array.replicate_zero, List.push_toArray, List.append_toArray, List.nil_append, List.cons_append]
  refine wpIn_wide.2 ?_
  go_upto_region 1 with fail
  rw [E0.out]
  clear E0
  go_wp2_with fail
  refine CC.out.mono ?_
  rintro _ W1 ⟨rfl, hb1⟩
  have h1 : Hid (Below w.heap.size w W1 ∧ Blk W1 w.heap.size 33 #[.slice An m cn, .slice Ao o co, .int .i64 s.keep, .int .i64 s.room] ∧ Blk W1 (w.heap.size + 1 + 1) 3 #[.int .i64 0] ∧ Blk W1 (w.heap.size + 1 + 1 + 1) 38 #[.int .i64 0] ∧ Blk W1 (w.heap.size + 1) 30 #[.slice Au n cu]) := ⟨h0.out.1.trans (hb1.mono h0.out.1.size), h0.out.2.1.below hb1 h0.out.2.1.lt, h0.out.2.2.1.below hb1 h0.out.2.2.1.lt, h0.out.2.2.2.1.below hb1 h0.out.2.2.2.1.lt, h0.out.2.2.2.2.below hb1 h0.out.2.2.2.2.lt⟩
  clear hb1 CC s0 s1 s2 s3 bx h0
  have d4 := cellOf h1.out.2.2.1 0 (x := .int .i64 0) rfl
  have d5 := cellOf h1.out.2.2.2.1 0 (x := .int .i64 0) rfl
  have f4 := h1.out.2.2.1.frozen 0
  have f5 := h1.out.2.2.2.1.frozen 0
  by_cases hr0 : r = 0
  case neg =>
    have hr1 : (r != 0) = true := by simpa using hr0
    have HX : Hid (∃ X9, (W1.setCell ⟨w.heap.size + 1 + 1, 0, none⟩ (.int .i64 0)).setCell ⟨w.heap.size + 1 + 1 + 1, 0, none⟩ (.int .i64 r) = X9 ∧ X9.cell? ⟨w.heap.size + 1 + 1, 0, none⟩ = some (.int .i64 0) ∧ X9.cell? ⟨w.heap.size + 1 + 1 + 1, 0, none⟩ = some (.int .i64 r) ∧ PrvIs s l 0 r ∧ Below w.heap.size w X9) := by
      have k4 := (h1.out.2.2.1.put 0 (.int .i64 0)).far (p := ⟨w.heap.size + 1 + 1 + 1, 0, none⟩) (by show w.heap.size + 1 + 1 ≠ w.heap.size + 1 + 1 + 1; omega) (.int .i64 r)
      have k5 := (h1.out.2.2.2.1.far (p := ⟨w.heap.size + 1 + 1, 0, none⟩) (by show w.heap.size + 1 + 1 + 1 ≠ w.heap.size + 1 + 1; omega) (.int .i64 0)).put 0 (.int .i64 r)
      exact ⟨_, rfl, cellOf k4 0 rfl, cellOf k5 0 rfl, .inl ⟨by rw [HC.out]; exact hr0, rfl, HC.out.symm⟩, (h1.out.1.setCell (p := ⟨w.heap.size + 1 + 1, 0, none⟩) (by show w.heap.size ≤ w.heap.size + 1 + 1; omega) _).setCell (p := ⟨w.heap.size + 1 + 1 + 1, 0, none⟩) (by show w.heap.size ≤ w.heap.size + 1 + 1 + 1; omega) _⟩
    clear hr0
    go_wp2_with fail
    obtain ⟨X9, e9, k4, k5, h8, h9⟩ := HX.out
    rw [e9]
    exact prv_end rfl rfl k4 k5 h8 h9
  subst hr0
  have HSB : Hid (pricesB s.need.length l = false) := HBAD.out.resolve_left fun h => h HC.out
  have HS := Lib.hid (checkS_ok HC.out)
  have CA := Lib.hid (arePrices_any s l _ _ W1 ((HSUP.out.below h1.out.1).more h1.out.1.size) (by have := HS.out.weeks; omega) ((HU.out.below h1.out.1).more h1.out.1.size) (by rw [Hn.out]; exact hl))
  rw [HSB.out] at CA
  clear d4 d5 f4 f5
  have S := h1.out.2.1
  have s0 := cellOf S 0 (x := .slice An m cn) rfl
  have s1 := cellOf S 1 (x := .slice Ao o co) rfl
  have s2 := cellOf S 2 (x := .int .i64 s.keep) rfl
  have s3 := cellOf S 3 (x := .int .i64 s.room) rfl
  have bx := cellOf h1.out.2.2.2.2 0 (x := .slice Au n cu) rfl
  clear S
  go_wp2_with fail
  refine CA.out.mono ?_
  rintro _ W2 ⟨rfl, hb2⟩
  have h2 : Hid (Below w.heap.size w W2 ∧ Blk W2 w.heap.size 33 #[.slice An m cn, .slice Ao o co, .int .i64 s.keep, .int .i64 s.room] ∧ Blk W2 (w.heap.size + 1 + 1) 3 #[.int .i64 0] ∧ Blk W2 (w.heap.size + 1 + 1 + 1) 38 #[.int .i64 0] ∧ Blk W2 (w.heap.size + 1) 30 #[.slice Au n cu]) := ⟨h1.out.1.trans (hb2.mono h1.out.1.size), h1.out.2.1.below hb2 h1.out.2.1.lt, h1.out.2.2.1.below hb2 h1.out.2.2.1.lt, h1.out.2.2.2.1.below hb2 h1.out.2.2.2.1.lt, h1.out.2.2.2.2.below hb2 h1.out.2.2.2.2.lt⟩
  clear hb2 CA s0 s1 s2 s3 bx
  have d4 := cellOf h2.out.2.2.1 0 (x := .int .i64 0) rfl
  have d5 := cellOf h2.out.2.2.2.1 0 (x := .int .i64 0) rfl
  have f4 := h2.out.2.2.1.frozen 0
  have f5 := h2.out.2.2.2.1.frozen 0
  have HX : Hid (∃ X9, (W2.setCell ⟨w.heap.size + 1 + 1, 0, none⟩ (.int .i64 0)).setCell ⟨w.heap.size + 1 + 1 + 1, 0, none⟩ (.int .i64 1) = X9 ∧ X9.cell? ⟨w.heap.size + 1 + 1, 0, none⟩ = some (.int .i64 0) ∧ X9.cell? ⟨w.heap.size + 1 + 1 + 1, 0, none⟩ = some (.int .i64 1) ∧ PrvIs s l 0 1 ∧ Below w.heap.size w X9) := by
    have k4 := (h2.out.2.2.1.put 0 (.int .i64 0)).far (p := ⟨w.heap.size + 1 + 1 + 1, 0, none⟩) (by show w.heap.size + 1 + 1 ≠ w.heap.size + 1 + 1 + 1; omega) (.int .i64 1)
    have k5 := (h2.out.2.2.2.1.far (p := ⟨w.heap.size + 1 + 1, 0, none⟩) (by show w.heap.size + 1 + 1 + 1 ≠ w.heap.size + 1 + 1; omega) (.int .i64 0)).put 0 (.int .i64 1)
    exact ⟨_, rfl, cellOf k4 0 rfl, cellOf k5 0 rfl, .inr (.inl ⟨HC.out, HSB.out, rfl, rfl⟩), (h2.out.1.setCell (p := ⟨w.heap.size + 1 + 1, 0, none⟩) (by show w.heap.size ≤ w.heap.size + 1 + 1; omega) _).setCell (p := ⟨w.heap.size + 1 + 1 + 1, 0, none⟩) (by show w.heap.size ≤ w.heap.size + 1 + 1 + 1; omega) _⟩
  go_wp2_with fail
  obtain ⟨X9, e9, k4, k5, h8, h9⟩ := HX.out
  rw [e9]
  exact prv_end rfl rfl k4 k5 h8 h9
theorem Proves_full (s : SupD) (l : List Int) (v u : Value) (w : World) (h : RSup w.heap.size w v s) (hu : RInts w.heap.size w u l) (hl : l.length ≤ 1000) :
    Calls Try.prog 35 #[v, u] w (PrvR s l w) := by
  by_cases hc : checkS s = 0
  · obtain ⟨b, hb⟩ : ∃ b, pricesB s.need.length l = b := ⟨_, rfl⟩
    cases b
    · exact Proves_bad s l (.inr hb) v u w h hu hl
    · refine (Proves_ok s hc l hb v u w h hu).mono ?_
      rintro e w' ⟨⟨h1, rfl⟩ | ⟨h1, rfl⟩, h3⟩
      · exact ⟨_, _, rfl, .inr (.inr ⟨hc, hb, .inl ⟨h1, rfl, rfl⟩⟩), h3⟩
      · exact ⟨_, _, rfl, .inr (.inr ⟨hc, hb, .inr ⟨h1, rfl, rfl⟩⟩), h3⟩
  · exact Proves_bad s l (.inl hc) v u w h hu hl
end Go.Proofs.Ytpkepacbondopaa

namespace Go.Proofs.Ytpkepacbondopaa
open Go.RowKit Go.Shelf
attribute [local go_sem] Oper.semAt_some

/-- A supply in a block, its two lists readable. -/
structure SupAt (t : TypeId) (s : SupD) (b : Nat) (a o : Value) (X : World) : Prop where
  at_ : Blk X b t #[a, o, .int .i64 s.keep, .int .i64 s.room]
  need : RInts X.heap.size X a s.need
  order : RInts X.heap.size X o s.order
theorem SupAt.below {t : TypeId} {s : SupD} {b : Nat} {a o : Value} {X Z : World} (h : SupAt t s b a o X) (hb : Below X.heap.size X Z) : SupAt t s b a o Z :=
  ⟨h.at_.below hb h.at_.lt, (h.need.below hb).more hb.size, (h.order.below hb).more hb.size⟩
theorem SupAt.sup {t : TypeId} {s : SupD} {b : Nat} {a o : Value} {X : World} (h : SupAt t s b a o X) : RSup X.heap.size X (.agg #[a, o, .int .i64 s.keep, .int .i64 s.room]) s := ⟨a, o, rfl, h.need, h.order⟩
/-- What a copy leaves. -/
def Copied (t : TypeId) (s : SupD) (m n : Nat) (X0 : World) (p : Value) (X : World) : Prop :=
  ∃ b A c A' c', p = .pointer (some ⟨b, 0, none⟩) ∧ Hid (SupAt t s b (.slice A m c) (.slice A' n c') X) ∧ Hid (Below X0.heap.size X0 X)
theorem put4 {t : TypeId} (ht : 3 ≠ t) {s : SupD} {b m n : Nat} {X0 Z : World} {A A' : Option Addr} {c c' : Nat} {z0 z1 z2 z3 : Value} (hm : s.need.length = m) (hn : s.order.length = n) (hB : Blk Z b t #[z0, z1, z2, z3]) (h1 : Z.ownsRow 0 3 1 (.slice A m c) m (s.need.map (Value.int .i64))) (h2 : Z.ownsRow 0 3 1 (.slice A' n c') n (s.order.map (Value.int .i64)))
    (hX : Below X0.heap.size X0 Z) (hb : X0.heap.size ≤ b) : Copied t s m n X0 (.pointer (some ⟨b, 0, none⟩)) ((((Z.setCell ⟨b, 0, none⟩ (.slice A m c)).setCell ⟨b, 1, none⟩ (.slice A' n c')).setCell ⟨b, 2, none⟩ (.int .i64 s.keep)).setCell ⟨b, 3, none⟩ (.int .i64 s.room)) := by
  have hK : KeptBut (fun j => j = b) Z ((((Z.setCell ⟨b, 0, none⟩ (.slice A m c)).setCell ⟨b, 1, none⟩ (.slice A' n c')).setCell ⟨b, 2, none⟩ (.int .i64 s.keep)).setCell ⟨b, 3, none⟩ (.int .i64 s.room)) :=
    (((KeptBut.setCell (S := fun j => j = b) rfl _).trans (KeptBut.setCell (S := fun j => j = b) rfl _) fun _ _ h => h).trans (KeptBut.setCell (S := fun j => j = b) rfl _) fun _ _ h => h).trans (KeptBut.setCell (S := fun j => j = b) rfl _) fun _ _ h => h
  have k1 := ownsRow_keptBut h1 hK fun g cs _ hG e => by subst e; exact Blk.ne hG hB ht rfl
  have k2 := ownsRow_keptBut h2 hK fun g cs _ hG e => by subst e; exact Blk.ne hG hB ht rfl
  subst hm
  subst hn
  exact ⟨b, A, c, A', c', rfl, ⟨(((hB.put 0 _).put 1 _).put 2 _).put 3 _, Rd.own k1 (own_le k1), Rd.own k2 (own_le k2)⟩, hX.trans (hK.below (fun k hk => by rw [hk]; exact hb) hX.size)⟩
theorem fresh4 {t : TypeId} {b : Nat} {X : World} {z0 z1 z2 z3 : Value} (h : Blk X b t #[z0, z1, z2, z3]) : X.cell? ⟨b, 0, none⟩ = some z0 ∧ X.cell? ⟨b, 1, none⟩ = some z1 ∧ X.cell? ⟨b, 2, none⟩ = some z2 ∧ X.cell? ⟨b, 3, none⟩ = some z3 ∧ X.frozen? ⟨b, 0, none⟩ = false ∧ X.frozen? ⟨b, 1, none⟩ = false ∧ X.frozen? ⟨b, 2, none⟩ = false ∧ X.frozen? ⟨b, 3, none⟩ = false :=
  ⟨cellOf h 0 rfl, cellOf h 1 rfl, cellOf h 2 rfl, cellOf h 3 rfl, h.frozen 0, h.frozen 1, h.frozen 2, h.frozen 3⟩
theorem keep4 {t : TypeId} {b q : Nat} {X Y : World} {c0 c1 c2 c3 v0 v1 v2 v3 : Value} (h : Blk X b t #[c0, c1, c2, c3]) (hY : Below X.heap.size X Y) (hq : X.heap.size ≤ q) :
    ((((Y.setCell ⟨q, 0, none⟩ v0).setCell ⟨q, 1, none⟩ v1).setCell ⟨q, 2, none⟩ v2).setCell ⟨q, 3, none⟩ v3).cell? ⟨b, 0, none⟩ = some c0 ∧ ((((Y.setCell ⟨q, 0, none⟩ v0).setCell ⟨q, 1, none⟩ v1).setCell ⟨q, 2, none⟩ v2).setCell ⟨q, 3, none⟩ v3).cell? ⟨b, 1, none⟩ = some c1 ∧
    ((((Y.setCell ⟨q, 0, none⟩ v0).setCell ⟨q, 1, none⟩ v1).setCell ⟨q, 2, none⟩ v2).setCell ⟨q, 3, none⟩ v3).cell? ⟨b, 2, none⟩ = some c2 ∧ ((((Y.setCell ⟨q, 0, none⟩ v0).setCell ⟨q, 1, none⟩ v1).setCell ⟨q, 2, none⟩ v2).setCell ⟨q, 3, none⟩ v3).cell? ⟨b, 3, none⟩ = some c3 := by
  have hne : b ≠ q := by have := h.lt; omega
  have k := ((((h.below hY h.lt).far (p := ⟨q, 0, none⟩) hne v0).far (p := ⟨q, 1, none⟩) hne v1).far (p := ⟨q, 2, none⟩) hne v2).far (p := ⟨q, 3, none⟩) hne v3
  exact ⟨cellOf k 0 rfl, cellOf k 1 rfl, cellOf k 2 rfl, cellOf k 3 rfl⟩
theorem new4 {t : TypeId} {s : SupD} {m n : Nat} {X0 Z : World} {A A' : Option Addr} {c c' : Nat} (hm : s.need.length = m) (hn : s.order.length = n) (h1 : Z.ownsRow 0 3 1 (.slice A m c) m (s.need.map (Value.int .i64))) (h2 : Z.ownsRow 0 3 1 (.slice A' n c') n (s.order.map (Value.int .i64)))
    (hX : Below X0.heap.size X0 Z) : Copied t s m n X0 (.pointer (some ⟨Z.heap.size, 0, none⟩)) (Z.alloc (.cells #[.slice A m c, .slice A' n c', .int .i64 s.keep, .int .i64 s.room] t)) := by
  have k1 := ownsRow_below h1 (below_alloc Z (.cells #[.slice A m c, .slice A' n c', .int .i64 s.keep, .int .i64 s.room] t))
  have k2 := ownsRow_below h2 (below_alloc Z (.cells #[.slice A m c, .slice A' n c', .int .i64 s.keep, .int .i64 s.room] t))
  subst hm
  subst hn
  exact ⟨_, A, c, A', c', rfl, ⟨Blk.new _ _ _, Rd.own k1 (own_le k1), Rd.own k2 (own_le k2)⟩, below_al hX _⟩
/-- A clone beside loads of a block. -/
theorem clone_held (l : List Int) (v : Value) {X0 : World} (h : RInts X0.heap.size X0 v l) (hl : l.length ≤ 1000) {b m : Nat} (hm : l.length = m) {t : TypeId} {c0 c1 c2 c3 : Value} (hB : Blk X0 b t #[c0, c1, c2, c3]) :
    Hid (∀ Y, Below X0.heap.size X0 Y → Calls Try.prog 59 #[v] Y fun e w' => ∃ A c, e = .returned (.slice A m c) ∧ Hid (w'.ownsRow 0 3 1 (.slice A m c) m (l.map (Value.int .i64)) ∧ Below Y.heap.size Y w' ∧ Below X0.heap.size X0 w') ∧
      (w'.cell? ⟨b, 0, none⟩ = some c0 ∧ w'.cell? ⟨b, 1, none⟩ = some c1 ∧ w'.cell? ⟨b, 2, none⟩ = some c2 ∧ w'.cell? ⟨b, 3, none⟩ = some c3)) := fun Y hY => by
  refine (cloneInts_any v l Y ((h.below hY).more hY.size) (by omega)).mono ?_
  rintro e w' ⟨u, rfl, h1, h2⟩
  subst hm
  obtain ⟨A, c, rfl⟩ := ownsRow_form h1
  have hZ := hY.trans (h2.mono hY.size)
  have hB' := hB.below hZ hB.lt
  exact ⟨A, c, rfl, ⟨ownsRow_base h1 (Nat.zero_le _), h2, hZ⟩, cellOf hB' 0 rfl, cellOf hB' 1 rfl, cellOf hB' 2 rfl, cellOf hB' 3 rfl⟩
theorem own_cap2 {w : World} {base k n c : Nat} {e : TypeId} {A : Option Addr} {xs : List Value} (h : w.ownsRow base e k (.slice A n c) n xs) : n ≤ c := by
  rcases h.2 with ⟨h1, -⟩ | ⟨g', cap', cur, h1, -, -, h2, -⟩
  · cases h1; omega
  · cases h1; exact h2
theorem incr_len2 {m : Nat} : ∀ {l : List Nat} {a : Nat}, Incr m a l → a + l.length < m
  | [], _, h => h
  | _ :: l, _, h => by
    have := incr_len2 h.2
    have := h.1
    rw [List.length_cons]
    omega
/-- What Schedule answers, in letters. -/
def SRet (l : List Int) (n : Nat) (x r : Int) (X : World) (e : Ending) (X' : World) : Prop := ∃ A c, e = .returned (.tuple #[.slice A n c, .int .i64 x, .int .i64 r]) ∧ Hid (RInts X'.heap.size X' (.slice A n c) l ∧ Below X.heap.size X X')
/-- What Prices answers, in letters. -/
def PRet (l : List Int) (n : Nat) (r : Int) (X : World) (e : Ending) (X' : World) : Prop := ∃ A c, e = .returned (.tuple #[.slice A n c, .int .i64 r]) ∧ Hid (RInts X'.heap.size X' (.slice A n c) l ∧ Below X.heap.size X X')
theorem SRet.of {s : SupD} {l : List Int} {n : Nat} {x : Int} (hl : (if checkS s = 0 then weeksOf s else []) = l) (hn : l.length = n) (hx : (if checkS s = 0 then cheapOf s else 0) = x) {X X' : World} {e : Ending} (h : SchedRet s X e X') : SRet l n x (checkS s) X e X' := by
  obtain ⟨u, rfl, h1, h2⟩ := h
  subst hx
  rw [hl] at h1
  subst hn
  obtain ⟨A, c, rfl⟩ := ownsRow_form h1
  exact ⟨A, c, rfl, Rd.own h1 (own_le h1), h2⟩
theorem PRet.of {s : SupD} {l : List Int} {n : Nat} (hl : (if checkS s = 0 then pricesTo s s.need.length else []) = l) (hn : l.length = n) {X X' : World} {e : Ending} (h : PricesRet s X e X') : PRet l n (checkS s) X e X' := by
  obtain ⟨u, rfl, h1, h2⟩ := h
  rw [hl] at h1
  subst hn
  obtain ⟨A, c, rfl⟩ := ownsRow_form h1
  exact ⟨A, c, rfl, Rd.own h1 (own_le h1), h2⟩
theorem sched_form (s : SupD) : ∃ (l : List Int) (n : Nat) (x r : Int), Hid (l.length = n) ∧ n ≤ 40 ∧ Hid (∀ v X, RSup X.heap.size X v s → Calls Try.prog 33 #[v] X (SRet l n x r X)) ∧ Hid (∀ v X, RSup X.heap.size X v s → Calls Try.prog 68 #[v] X (SRet l n x r X)) := by
  refine ⟨_, _, _, _, rfl, ?_, fun v X h => (Schedule_any s v X h).mono fun _ _ h => SRet.of rfl rfl rfl h, fun v X h => (refSchedule_any s v X h).mono fun _ _ h => SRet.of rfl rfl rfl h⟩
  by_cases hc : checkS s = 0
  · rw [if_pos hc]
    obtain ⟨L, h1, h2, -⟩ := weeks_path (checkS_ok hc)
    have h3 := incr_len2 h2
    have h4 := (checkS_ok hc).weeks
    rw [h1]
    simp
    omega
  · rw [if_neg hc]
    exact Nat.zero_le _
theorem prices_form (s : SupD) : ∃ (l : List Int) (n : Nat) (r : Int), Hid (l.length = n) ∧ n ≤ 40 ∧ Hid (∀ v X, RSup X.heap.size X v s → Calls Try.prog 34 #[v] X (PRet l n r X)) ∧ Hid (∀ v X, RSup X.heap.size X v s → Calls Try.prog 70 #[v] X (PRet l n r X)) := by
  refine ⟨_, _, _, rfl, ?_, fun v X h => (Prices_any s v X h).mono fun _ _ h => PRet.of rfl rfl h, fun v X h => (refPrices_any s v X h).mono fun _ _ h => PRet.of rfl rfl h⟩
  by_cases hc : checkS s = 0
  · rw [if_pos hc]
    have h3 := priceL_len (checkS_ok hc)
    have h4 := (checkS_ok hc).weeks
    unfold priceL at h3
    rw [h3]
    omega
  · rw [if_neg hc]
    exact Nat.zero_le _
theorem clone2 (l : List Int) (n : Nat) (hl : l.length = n) (hn : n ≤ 40) (v : Value) (X : World) (h : RInts X.heap.size X v l) : Calls Try.prog 59 #[v] X fun e w' => ∃ A c, e = .returned (.slice A n c) ∧ n ≤ c ∧ Hid (RInts w'.heap.size w' (.slice A n c) l ∧ Below X.heap.size X w') := by
  subst hl
  refine (cloneInts_any v l X h (by omega)).mono ?_
  rintro e w' ⟨u, rfl, h1, h2⟩
  obtain ⟨A, c, rfl⟩ := ownsRow_form h1
  exact ⟨A, c, rfl, own_cap2 h1, Rd.own h1 (own_le h1), h2⟩
/-- The row of two lists. -/
theorem row2 {t : TypeId} {X Z : World} {b : Nat} {A B : Option Addr} {m n c d : Nat} {l k : List Int} (hB : Blk X b t #[.slice A m c, .slice B n d]) (hl : l.length = m) (hk : k.length = n) (hm : m ≤ 40) (hn : n ≤ 40) (h1 : RInts X.heap.size X (.slice A m c) l) (h2 : RInts X.heap.size X (.slice B n d) k) (hZ : Below X.heap.size X Z) (j : Nat) (hj : j < 2) :
    ∃ A c l n, Z.cell? ⟨b, j, none⟩ = some (.slice A n c) ∧ Hid (l.length = n) ∧ n ≤ 40 ∧ Hid (RInts Z.heap.size Z (.slice A n c) l) := by
  have hB' := hB.below hZ hB.lt
  match j, hj with
  | 0, _ => exact ⟨A, c, l, m, cellOf hB' 0 rfl, hl, hm, (h1.below hZ).more hZ.size⟩
  | 1, _ => exact ⟨B, d, k, n, cellOf hB' 1 rfl, hk, hn, (h2.below hZ).more hZ.size⟩
end Go.Proofs.Ytpkepacbondopaa

namespace Go.Proofs.Ytpkepacbondopaa
open Go.RowKit Go.Shelf
attribute [local go_sem] Oper.semAt_some

set_option maxRecDepth 1000000 in
set_option maxHeartbeats 4000000 in
theorem supplies_any (s : SupD) (lw lp : List Int) (hsm : s.need.length ≤ 30) (hsn : s.order.length ≤ 30) (hw : lw.length ≤ 40) (hp : lp.length ≤ 40) (v vw vp : Value) (w : World) (h : RSup w.heap.size w v s) (hW : RInts w.heap.size w vw lw) (hP : RInts w.heap.size w vp lp) :
    Calls Try.prog 17 #[v, vw, vp] w fun e w' => e = .returned (.bool true) ∧ Below w.heap.size w w' := by
  obtain ⟨vn, vo, rfl, hN, hO⟩ := h
  obtain ⟨An, cn, rfl, hnm, -⟩ := hN.open_
  obtain ⟨Ao, co, rfl, hom, -⟩ := hO.open_
  obtain ⟨Aw, cw, rfl, hwm, -⟩ := hW.open_
  obtain ⟨Ap, cp, rfl, hpm, -⟩ := hP.open_
  have HN := Lib.hid hN
  have HO := Lib.hid hO
  have HW := Lib.hid hW
  have HP := Lib.hid hP
  obtain ⟨m, hm⟩ : ∃ a, s.need.length = a := ⟨_, rfl⟩
  obtain ⟨n, hn⟩ : ∃ a, s.order.length = a := ⟨_, rfl⟩
  obtain ⟨nw, hnw⟩ : ∃ a, lw.length = a := ⟨_, rfl⟩
  obtain ⟨np, hnp⟩ : ∃ a, lp.length = a := ⟨_, rfl⟩
  rw [hm] at hnm hsm HN ⊢
  rw [hn] at hom hsn HO ⊢
  rw [hnw] at hwm hw HW ⊢
  rw [hnp] at hpm hp HP ⊢
  have HM := Lib.hid hm
  have HNN := Lib.hid hn
  have HNW := Lib.hid hnw
  have HNP := Lib.hid hnp
  clear hN hO hW hP hm hn hnw hnp
  have F0 : ∃ W0, w.alloc (.cells #[.slice An m cn, .slice Ao n co, .int .i64 s.keep, .int .i64 s.room] 33) = W0 ∧ Hid (Below w.heap.size w W0) ∧ Blk W0 w.heap.size 33 #[.slice An m cn, .slice Ao n co, .int .i64 s.keep, .int .i64 s.room] := ⟨_, rfl, below_alloc _ _, Blk.new _ _ _⟩
  obtain ⟨W0, e0, hb0, hk0⟩ := F0
  have E0 := Lib.hid e0
  have HXW0 : Hid (SupAt 33 s w.heap.size (.slice An m cn) (.slice Ao n co) W0) := ⟨hk0, (HN.out.below hb0.out).more hb0.out.size, (HO.out.below hb0.out).more hb0.out.size⟩
  clear e0 hk0
  go_enter Try.func17, Try.ntmps17
  go_upto_region 1 with fail
  rw [E0.out]
  clear E0
  go_cut [7] from 31 to 42 (fun q wx => Copied 33 s m n W0 q wx)
  case first =>
    have S1 : W0.cell? ⟨w.heap.size, 0, none⟩ = some (.slice An m cn) ∧ W0.cell? ⟨w.heap.size, 1, none⟩ = some (.slice Ao n co) ∧ W0.cell? ⟨w.heap.size, 2, none⟩ = some (.int .i64 s.keep) ∧ W0.cell? ⟨w.heap.size, 3, none⟩ = some (.int .i64 s.room) := ⟨cellOf HXW0.out.at_ 0 rfl, cellOf HXW0.out.at_ 1 rfl, cellOf HXW0.out.at_ 2 rfl, cellOf HXW0.out.at_ 3 rfl⟩
    have C1 := clone_held s.need (.slice An m cn) HXW0.out.need (by rw [HM.out]; omega) HM.out HXW0.out.at_
    have C2 := clone_held s.order (.slice Ao n co) HXW0.out.order (by rw [HNN.out]; omega) HNN.out HXW0.out.at_
    have HD0 : Hid (Below W0.heap.size W0 W0.drew) := (Below.refl _ _).drew
    have HQ0 : Hid (W0.heap.size ≤ W0.heap.size) := Nat.le_refl _
    have HDA : Hid (∀ o, Below W0.heap.size W0 (W0.alloc o).drew) := fun o => (below_al (Below.refl _ _) o).drew
    go_region_held3 (fun X => X.cell? ⟨w.heap.size, 0, none⟩ = some (.slice An m cn) ∧ X.cell? ⟨w.heap.size, 1, none⟩ = some (.slice Ao n co) ∧ X.cell? ⟨w.heap.size, 2, none⟩ = some (.int .i64 s.keep) ∧ X.cell? ⟨w.heap.size, 3, none⟩ = some (.int .i64 s.room))
      (first | with_reducible exact T2 | with_reducible exact T1 | with_reducible exact S1 | with_reducible exact keep4 HXW0.out.at_ H2.out.2.2 H1.out.2.2.size | with_reducible exact keep4 HXW0.out.at_ H1.out.2.2 H2.out.2.2.size | with_reducible exact keep4 HXW0.out.at_ H2.out.2.2 HD0.out.size | with_reducible exact keep4 HXW0.out.at_ H1.out.2.2 HD0.out.size | with_reducible exact keep4 HXW0.out.at_ H2.out.2.2 HQ0.out | with_reducible exact keep4 HXW0.out.at_ H1.out.2.2 HQ0.out | with_reducible exact keep4 HXW0.out.at_ (below_al H2.out.2.2 _) H2.out.2.2.size | with_reducible exact keep4 HXW0.out.at_ (below_al H1.out.2.2 _) H1.out.2.2.size | go_keep)
      (first | (go_at_call 59; with_reducible refine (C1.out _ HD0.out).mono ?_; rintro _ y1 ⟨A1, c1, rfl, H1, T1⟩)
             | (go_at_call 59; with_reducible refine (C1.out _ H2.out.2.2).mono ?_; rintro _ y1 ⟨A1, c1, rfl, H1, T1⟩; (try (have K1 := Lib.hid (K.out.below H1.out.2.1 K.out.lt); obtain ⟨a0, a1, a2, a3, f0, f1, f2, f3⟩ := fresh4 K1.out)))
             | (go_at_call 59; with_reducible refine (C1.out _ (below_al H2.out.2.2 _)).mono ?_; rintro _ y1 ⟨A1, c1, rfl, H1, T1⟩; have K := Lib.hid ((Blk.new y2 _ _).below H1.out.2.1 (Blk.new y2 _ _).lt); obtain ⟨a0, a1, a2, a3, f0, f1, f2, f3⟩ := fresh4 K.out)
             | (go_at_call 59; with_reducible refine (C1.out _ (HDA.out _)).mono ?_; rintro _ y1 ⟨A1, c1, rfl, H1, T1⟩; have K := Lib.hid ((Blk.new W0 _ _).drew_.below H1.out.2.1 (Blk.new W0 _ _).drew_.lt); obtain ⟨a0, a1, a2, a3, f0, f1, f2, f3⟩ := fresh4 K.out)
             | (go_at_call 59; with_reducible refine (C2.out _ HD0.out).mono ?_; rintro _ y2 ⟨A2, c2, rfl, H2, T2⟩)
             | (go_at_call 59; with_reducible refine (C2.out _ H1.out.2.2).mono ?_; rintro _ y2 ⟨A2, c2, rfl, H2, T2⟩; (try (have K1 := Lib.hid (K.out.below H2.out.2.1 K.out.lt); obtain ⟨a0, a1, a2, a3, f0, f1, f2, f3⟩ := fresh4 K1.out)))
             | (go_at_call 59; with_reducible refine (C2.out _ (below_al H1.out.2.2 _)).mono ?_; rintro _ y2 ⟨A2, c2, rfl, H2, T2⟩; have K := Lib.hid ((Blk.new y1 _ _).below H2.out.2.1 (Blk.new y1 _ _).lt); obtain ⟨a0, a1, a2, a3, f0, f1, f2, f3⟩ := fresh4 K.out)
             | (go_at_call 59; with_reducible refine (C2.out _ (HDA.out _)).mono ?_; rintro _ y2 ⟨A2, c2, rfl, H2, T2⟩; have K := Lib.hid ((Blk.new W0 _ _).drew_.below H2.out.2.1 (Blk.new W0 _ _).drew_.lt); obtain ⟨a0, a1, a2, a3, f0, f1, f2, f3⟩ := fresh4 K.out))
    all_goals
      clear S1
      go_wp2_with fail
      go_meet
      first
        | exact new4 HM.out HNN.out (ownsRow_below H1.out.1 H2.out.2.1) H2.out.1 H2.out.2.2
        | exact new4 HM.out HNN.out H1.out.1 (ownsRow_below H2.out.1 H1.out.2.1) H1.out.2.2
        | exact put4 (by decide) HM.out HNN.out K1.out (ownsRow_below H1.out.1 H2.out.2.1) H2.out.1 H2.out.2.2 (Nat.le_refl _)
        | exact put4 (by decide) HM.out HNN.out K1.out H1.out.1 (ownsRow_below H2.out.1 H1.out.2.1) H1.out.2.2 (Nat.le_refl _)
        | exact put4 (by decide) HM.out HNN.out K.out (ownsRow_below (ownsRow_below H1.out.1 (below_alloc _ _)) H2.out.2.1) H2.out.1 H2.out.2.2 H1.out.2.2.size
        | exact put4 (by decide) HM.out HNN.out K.out H1.out.1 (ownsRow_below (ownsRow_below H2.out.1 (below_alloc _ _)) H1.out.2.1) H1.out.2.2 H2.out.2.2.size
  case rest =>
  obtain ⟨by_, Ay, cy, Ay', cy', rfl, HY1, HBY⟩ := hcut
  obtain ⟨W1, rfl⟩ : ∃ X : World, X = wc := ⟨_, rfl⟩
  have HB1 : Hid (Below w.heap.size w W1) := hb0.out.trans (HBY.out.mono hb0.out.size)
  have HXW1 := Lib.hid (HXW0.out.below HBY.out)
  clear HBY HXW0 hb0
  go_upto_region 2 with fail
  go_cut [8] from 42 to 53 (fun q wx => Copied 138 s m n W1 q wx)
  case first =>
    have S1 : W1.cell? ⟨w.heap.size, 0, none⟩ = some (.slice An m cn) ∧ W1.cell? ⟨w.heap.size, 1, none⟩ = some (.slice Ao n co) ∧ W1.cell? ⟨w.heap.size, 2, none⟩ = some (.int .i64 s.keep) ∧ W1.cell? ⟨w.heap.size, 3, none⟩ = some (.int .i64 s.room) := ⟨cellOf HXW1.out.at_ 0 rfl, cellOf HXW1.out.at_ 1 rfl, cellOf HXW1.out.at_ 2 rfl, cellOf HXW1.out.at_ 3 rfl⟩
    have C1 := clone_held s.need (.slice An m cn) HXW1.out.need (by rw [HM.out]; omega) HM.out HXW1.out.at_
    have C2 := clone_held s.order (.slice Ao n co) HXW1.out.order (by rw [HNN.out]; omega) HNN.out HXW1.out.at_
    have HD0 : Hid (Below W1.heap.size W1 W1.drew) := (Below.refl _ _).drew
    have HQ0 : Hid (W1.heap.size ≤ W1.heap.size) := Nat.le_refl _
    have HDA : Hid (∀ o, Below W1.heap.size W1 (W1.alloc o).drew) := fun o => (below_al (Below.refl _ _) o).drew
    go_region_held3 (fun X => X.cell? ⟨w.heap.size, 0, none⟩ = some (.slice An m cn) ∧ X.cell? ⟨w.heap.size, 1, none⟩ = some (.slice Ao n co) ∧ X.cell? ⟨w.heap.size, 2, none⟩ = some (.int .i64 s.keep) ∧ X.cell? ⟨w.heap.size, 3, none⟩ = some (.int .i64 s.room))
      (first | with_reducible exact T2 | with_reducible exact T1 | with_reducible exact S1 | with_reducible exact keep4 HXW1.out.at_ H2.out.2.2 H1.out.2.2.size | with_reducible exact keep4 HXW1.out.at_ H1.out.2.2 H2.out.2.2.size | with_reducible exact keep4 HXW1.out.at_ H2.out.2.2 HD0.out.size | with_reducible exact keep4 HXW1.out.at_ H1.out.2.2 HD0.out.size | with_reducible exact keep4 HXW1.out.at_ H2.out.2.2 HQ0.out | with_reducible exact keep4 HXW1.out.at_ H1.out.2.2 HQ0.out | with_reducible exact keep4 HXW1.out.at_ (below_al H2.out.2.2 _) H2.out.2.2.size | with_reducible exact keep4 HXW1.out.at_ (below_al H1.out.2.2 _) H1.out.2.2.size | go_keep)
      (first | (go_at_call 59; with_reducible refine (C1.out _ HD0.out).mono ?_; rintro _ y1 ⟨A1, c1, rfl, H1, T1⟩)
             | (go_at_call 59; with_reducible refine (C1.out _ H2.out.2.2).mono ?_; rintro _ y1 ⟨A1, c1, rfl, H1, T1⟩; (try (have K1 := Lib.hid (K.out.below H1.out.2.1 K.out.lt); obtain ⟨a0, a1, a2, a3, f0, f1, f2, f3⟩ := fresh4 K1.out)))
             | (go_at_call 59; with_reducible refine (C1.out _ (below_al H2.out.2.2 _)).mono ?_; rintro _ y1 ⟨A1, c1, rfl, H1, T1⟩; have K := Lib.hid ((Blk.new y2 _ _).below H1.out.2.1 (Blk.new y2 _ _).lt); obtain ⟨a0, a1, a2, a3, f0, f1, f2, f3⟩ := fresh4 K.out)
             | (go_at_call 59; with_reducible refine (C1.out _ (HDA.out _)).mono ?_; rintro _ y1 ⟨A1, c1, rfl, H1, T1⟩; have K := Lib.hid ((Blk.new W1 _ _).drew_.below H1.out.2.1 (Blk.new W1 _ _).drew_.lt); obtain ⟨a0, a1, a2, a3, f0, f1, f2, f3⟩ := fresh4 K.out)
             | (go_at_call 59; with_reducible refine (C2.out _ HD0.out).mono ?_; rintro _ y2 ⟨A2, c2, rfl, H2, T2⟩)
             | (go_at_call 59; with_reducible refine (C2.out _ H1.out.2.2).mono ?_; rintro _ y2 ⟨A2, c2, rfl, H2, T2⟩; (try (have K1 := Lib.hid (K.out.below H2.out.2.1 K.out.lt); obtain ⟨a0, a1, a2, a3, f0, f1, f2, f3⟩ := fresh4 K1.out)))
             | (go_at_call 59; with_reducible refine (C2.out _ (below_al H1.out.2.2 _)).mono ?_; rintro _ y2 ⟨A2, c2, rfl, H2, T2⟩; have K := Lib.hid ((Blk.new y1 _ _).below H2.out.2.1 (Blk.new y1 _ _).lt); obtain ⟨a0, a1, a2, a3, f0, f1, f2, f3⟩ := fresh4 K.out)
             | (go_at_call 59; with_reducible refine (C2.out _ (HDA.out _)).mono ?_; rintro _ y2 ⟨A2, c2, rfl, H2, T2⟩; have K := Lib.hid ((Blk.new W1 _ _).drew_.below H2.out.2.1 (Blk.new W1 _ _).drew_.lt); obtain ⟨a0, a1, a2, a3, f0, f1, f2, f3⟩ := fresh4 K.out))
    all_goals
      clear S1
      go_wp2_with fail
      go_meet
      first
        | exact new4 HM.out HNN.out (ownsRow_below H1.out.1 H2.out.2.1) H2.out.1 H2.out.2.2
        | exact new4 HM.out HNN.out H1.out.1 (ownsRow_below H2.out.1 H1.out.2.1) H1.out.2.2
        | exact put4 (by decide) HM.out HNN.out K1.out (ownsRow_below H1.out.1 H2.out.2.1) H2.out.1 H2.out.2.2 (Nat.le_refl _)
        | exact put4 (by decide) HM.out HNN.out K1.out H1.out.1 (ownsRow_below H2.out.1 H1.out.2.1) H1.out.2.2 (Nat.le_refl _)
        | exact put4 (by decide) HM.out HNN.out K.out (ownsRow_below (ownsRow_below H1.out.1 (below_alloc _ _)) H2.out.2.1) H2.out.1 H2.out.2.2 H1.out.2.2.size
        | exact put4 (by decide) HM.out HNN.out K.out H1.out.1 (ownsRow_below (ownsRow_below H2.out.1 (below_alloc _ _)) H1.out.2.1) H1.out.2.2 H2.out.2.2.size
  case rest =>
  obtain ⟨bz, Az, cz, Az', cz', rfl, HZZ, HBZ⟩ := hcut
  obtain ⟨W2, rfl⟩ : ∃ X : World, X = wc := ⟨_, rfl⟩
  have HB2 : Hid (Below w.heap.size w W2) := HB1.out.trans (HBZ.out.mono HB1.out.size)
  have HXW2 := Lib.hid (HXW1.out.below HBZ.out)
  have HYW2 := Lib.hid (HY1.out.below HBZ.out)
  clear HBZ HXW1 HY1 HB1
  have HC : Hid (∀ X, Below W2.heap.size W2 X → Hid (SupAt 33 s by_ (.slice Ay m cy) (.slice Ay' n cy') X ∧ SupAt 138 s bz (.slice Az m cz) (.slice Az' n cz') X ∧ SupAt 33 s w.heap.size (.slice An m cn) (.slice Ao n co) X)) := fun X hX => ⟨HYW2.out.below hX, HZZ.out.below hX, HXW2.out.below hX⟩
  have HS : Hid (∀ X, Below W2.heap.size W2 X → (X.cell? ⟨by_, 0, none⟩ = some (.slice Ay m cy) ∧ X.cell? ⟨by_, 1, none⟩ = some (.slice Ay' n cy') ∧ X.cell? ⟨by_, 2, none⟩ = some (.int .i64 s.keep) ∧ X.cell? ⟨by_, 3, none⟩ = some (.int .i64 s.room) ∧ X.cell? ⟨bz, 0, none⟩ = some (.slice Az m cz) ∧ X.cell? ⟨bz, 1, none⟩ = some (.slice Az' n cz') ∧ X.cell? ⟨bz, 2, none⟩ = some (.int .i64 s.keep) ∧ X.cell? ⟨bz, 3, none⟩ = some (.int .i64 s.room))) := fun X hX => by
    have h := (HC.out X hX).out
    obtain ⟨y0, y1, y2, y3, -⟩ := fresh4 h.1.at_
    obtain ⟨z0, z1, z2, z3, -⟩ := fresh4 h.2.1.at_
    exact ⟨y0, y1, y2, y3, z0, z1, z2, z3⟩
  have HWA : Hid (∀ X, Below W2.heap.size W2 X → RInts X.heap.size X (.slice Aw nw cw) lw ∧ RInts X.heap.size X (.slice Ap np cp) lp) := fun X hX => by
    have hX' := HB2.out.trans (hX.mono HB2.out.size)
    exact ⟨(HW.out.below hX').more hX'.size, (HP.out.below hX').more hX'.size⟩
  obtain ⟨r, hr⟩ : ∃ r, checkS s = r := ⟨_, rfl⟩
  have CY : Hid (∀ X, Below W2.heap.size W2 X → Calls Try.prog 66 #[(.agg #[.slice Ay m cy, .slice Ay' n cy', .int .i64 s.keep, .int .i64 s.room])] X fun e w' => e = .returned (.int .i64 r) ∧ Hid (Below W2.heap.size W2 w') ∧ (w'.cell? ⟨by_, 0, none⟩ = some (.slice Ay m cy) ∧ w'.cell? ⟨by_, 1, none⟩ = some (.slice Ay' n cy') ∧ w'.cell? ⟨by_, 2, none⟩ = some (.int .i64 s.keep) ∧ w'.cell? ⟨by_, 3, none⟩ = some (.int .i64 s.room) ∧ w'.cell? ⟨bz, 0, none⟩ = some (.slice Az m cz) ∧ w'.cell? ⟨bz, 1, none⟩ = some (.slice Az' n cz') ∧ w'.cell? ⟨bz, 2, none⟩ = some (.int .i64 s.keep) ∧ w'.cell? ⟨bz, 3, none⟩ = some (.int .i64 s.room))) := fun X hX => by
    refine (CheckSupply_any s _ X (HC.out X hX).out.1.sup).mono ?_
    rintro e w' ⟨rfl, h1⟩
    have h2 := hX.trans (h1.mono hX.size)
    exact ⟨by rw [hr], h2, HS.out _ h2⟩
  have CZ : Hid (∀ X, Below W2.heap.size W2 X → Calls Try.prog 67 #[(.agg #[.slice Az m cz, .slice Az' n cz', .int .i64 s.keep, .int .i64 s.room])] X fun e w' => e = .returned (.int .i64 r) ∧ Hid (Below W2.heap.size W2 w') ∧ (w'.cell? ⟨by_, 0, none⟩ = some (.slice Ay m cy) ∧ w'.cell? ⟨by_, 1, none⟩ = some (.slice Ay' n cy') ∧ w'.cell? ⟨by_, 2, none⟩ = some (.int .i64 s.keep) ∧ w'.cell? ⟨by_, 3, none⟩ = some (.int .i64 s.room) ∧ w'.cell? ⟨bz, 0, none⟩ = some (.slice Az m cz) ∧ w'.cell? ⟨bz, 1, none⟩ = some (.slice Az' n cz') ∧ w'.cell? ⟨bz, 2, none⟩ = some (.int .i64 s.keep) ∧ w'.cell? ⟨bz, 3, none⟩ = some (.int .i64 s.room))) := fun X hX => by
    refine (refCheckSupply_any s _ X (HC.out X hX).out.2.1.sup).mono ?_
    rintro e w' ⟨rfl, h1⟩
    have h2 := hX.trans (h1.mono hX.size)
    exact ⟨by rw [hr], h2, HS.out _ h2⟩
  clear hr HXW2 HYW2 HZZ HN HO HW HP
  go_upto_region 3 with fail
  go_cut [57] from 53 to 57 (fun q wx => q = .bool false ∧ Hid (Below W2.heap.size W2 wx))
  case first =>
    have S1 := HS.out W2 (Below.refl _ _)
    have HD0 : Hid (Below W2.heap.size W2 W2.drew) := (Below.refl _ _).drew
    go_region_held3 (fun X => X.cell? ⟨by_, 0, none⟩ = some (.slice Ay m cy) ∧ X.cell? ⟨by_, 1, none⟩ = some (.slice Ay' n cy') ∧ X.cell? ⟨by_, 2, none⟩ = some (.int .i64 s.keep) ∧ X.cell? ⟨by_, 3, none⟩ = some (.int .i64 s.room) ∧ X.cell? ⟨bz, 0, none⟩ = some (.slice Az m cz) ∧ X.cell? ⟨bz, 1, none⟩ = some (.slice Az' n cz') ∧ X.cell? ⟨bz, 2, none⟩ = some (.int .i64 s.keep) ∧ X.cell? ⟨bz, 3, none⟩ = some (.int .i64 s.room))
      (first | with_reducible exact T2 | with_reducible exact T1 | with_reducible exact S1 | go_keep)
      (first | (go_at_call 66; with_reducible refine (CY.out _ HD0.out).mono ?_; rintro _ y1 ⟨rfl, H1, T1⟩)
             | (go_at_call 66; with_reducible refine (CY.out _ H2.out).mono ?_; rintro _ y1 ⟨rfl, H1, T1⟩)
             | (go_at_call 67; with_reducible refine (CZ.out _ HD0.out).mono ?_; rintro _ y2 ⟨rfl, H2, T2⟩)
             | (go_at_call 67; with_reducible refine (CZ.out _ H1.out).mono ?_; rintro _ y2 ⟨rfl, H2, T2⟩))
    all_goals
      clear S1
      go_wp2_with fail
      go_meet
      first
        | exact ⟨rfl, H2⟩
        | exact ⟨rfl, H1⟩
  case rest =>
  obtain ⟨rfl, HBW3⟩ := hcut
  obtain ⟨W3, rfl⟩ : ∃ X : World, X = wc := ⟨_, rfl⟩
  clear CY CZ
  obtain ⟨ls, ns, xs, rs, HLS, hns, FS1, FS2⟩ := sched_form s
  obtain ⟨lq, nq, rq, HLQ, hnq, FP1, FP2⟩ := prices_form s
  obtain ⟨y0, y1, y2, y3, z0, z1, z2, z3⟩ := HS.out W3 HBW3.out
  have C1 := Lib.hid (FS1.out _ W3 (HC.out W3 HBW3.out).out.1.sup)
  go_wp2_with fail
  refine C1.out.mono ?_
  rintro _ W5 ⟨AW5, cW5, rfl, HW5⟩
  have HBW5 : Hid (Below W2.heap.size W2 W5) := HBW3.out.trans (HW5.out.2.mono HBW3.out.size)
  clear C1 y0 y1 y2 y3 z0 z1 z2 z3
  obtain ⟨y0, y1, y2, y3, z0, z1, z2, z3⟩ := HS.out W5 HBW5.out
  have C2 := Lib.hid (FS2.out _ W5 (HC.out W5 HBW5.out).out.2.1.sup)
  go_wp2_with fail
  refine C2.out.mono ?_
  rintro _ W6 ⟨AW6, cW6, rfl, HW6⟩
  have HBW6 : Hid (Below W2.heap.size W2 W6) := HBW5.out.trans (HW6.out.2.mono HBW5.out.size)
  clear C2 y0 y1 y2 y3 z0 z1 z2 z3
  have HRW6 : Hid (RInts W6.heap.size W6 (.slice AW5 ns cW5) ls) := (HW5.out.1.below HW6.out.2).more HW6.out.2.size
  have C3 := Lib.hid (eqInts_any _ _ ls ls W6 HRW6.out HW6.out.1)
  rw [decide_eq_true rfl] at C3
  go_wp2_with fail
  refine C3.out.mono ?_
  rintro _ W6e ⟨rfl, hE⟩
  have HBW6e : Hid (Below W2.heap.size W2 W6e) := HBW6.out.trans (hE.mono HBW6.out.size)
  have HRW6e : Hid (RInts W6e.heap.size W6e (.slice AW5 ns cW5) ls) := (HRW6.out.below hE).more hE.size
  clear C3 hE HRW6
  have FR : ∃ W9, W6e.alloc (.cells #[.slice Aw nw cw, .slice AW5 ns cW5] 30) = W9 ∧ Below W6e.heap.size W6e W9 ∧ Blk W9 W6e.heap.size 30 #[.slice Aw nw cw, .slice AW5 ns cW5] := ⟨_, rfl, below_alloc _ _, Blk.new _ _ _⟩
  obtain ⟨W9, eR, hbR, hkR⟩ := FR
  have ER := Lib.hid eR
  have HBW9 : Hid (Below W2.heap.size W2 W9) := HBW6e.out.trans (hbR.mono HBW6e.out.size)
  have HROW : Hid (∀ Z, Below W9.heap.size W9 Z → ∀ j, j < 2 → ∃ A c l n, Z.cell? ⟨W6e.heap.size, j, none⟩ = some (.slice A n c) ∧ Hid (l.length = n) ∧ n ≤ 40 ∧ Hid (RInts Z.heap.size Z (.slice A n c) l)) := fun Z hZ j hj =>
    row2 hkR HNW.out HLS.out hw hns ((HWA.out _ HBW9.out).1) ((HRW6e.out.below hbR).more hbR.size) hZ j hj
  clear eR hbR hkR
  go_wp2_with fail
  rw [ER.out]
  clear ER
  go_loopw [88] (fun s wr => ∃ k : Nat, k ≤ 2 ∧ s = .int .i64 (k : Int) ∧ Hid (Below W9.heap.size W9 wr)) (fun s _ => 2 - (intOf s).toNat)
  case atStart => exact ⟨0, by omega, rfl, Below.refl _ _⟩
  case round =>
  obtain ⟨k, hk, rfl, hB⟩ := hrel
  obtain ⟨X, rfl⟩ : ∃ X : World, X = wr := ⟨_, rfl⟩
  have HBX : Hid (Below W2.heap.size W2 X) := HBW9.out.trans (hB.out.mono HBW9.out.size)
  by_cases hlt : k < 2
  · obtain ⟨Ak, ck, lk, nk, hcell, hlk, hnk, hRk⟩ := HROW.out X hB.out k hlt
    have hk0 : (0 : Int) ≤ (k : Int) := by omega
    have hk2 : (k : Int) < 2 := by omega
    have C1 := Lib.hid (clone2 lk nk hlk.out hnk _ X hRk.out)
    go_wp2_with fail
    refine C1.out.mono ?_
    rintro _ X1 ⟨A1, c1, rfl, hc1, H1⟩
    have HB1 : Hid (Below W2.heap.size W2 X1) := HBX.out.trans (H1.out.2.mono HBX.out.size)
    clear C1 hcell
    obtain ⟨y0, y1, y2, y3, z0, z1, z2, z3⟩ := HS.out X1 HB1.out
    have C2 := Lib.hid (Cost_full s lk (.agg #[.slice Ay m cy, .slice Ay' n cy', .int .i64 s.keep, .int .i64 s.room]) (.slice A1 nk c1) X1 (HC.out X1 HB1.out).out.1.sup H1.out.1 (by rw [hlk.out]; omega) (fun _ _ _ e => by cases e; exact hc1))
    go_wp2_with fail
    refine C2.out.mono ?_
    rintro _ X2 ⟨x, e, rfl, hi, hb2⟩
    have HI := Lib.hid hi
    have HB2 : Hid (Below W2.heap.size W2 X2) := HB1.out.trans (hb2.mono HB1.out.size)
    have HR1 : Hid (RInts X2.heap.size X2 (.slice A1 nk c1) lk) := (H1.out.1.below hb2).more hb2.size
    have HBX2 : Hid (Below X.heap.size X X2) := H1.out.2.trans (hb2.mono H1.out.2.size)
    clear C2 y0 y1 y2 y3 z0 z1 z2 z3 hi hb2
    obtain ⟨y0, y1, y2, y3, z0, z1, z2, z3⟩ := HS.out X2 HB2.out
    have C3 := Lib.hid (refCost_any s lk (.agg #[.slice Az m cz, .slice Az' n cz', .int .i64 s.keep, .int .i64 s.room]) (.slice Ak nk ck) X2 (HC.out X2 HB2.out).out.2.1.sup ((hRk.out.below HBX2.out).more HBX2.out.size) (by rw [hlk.out]; omega))
    go_wp2_with fail
    refine C3.out.mono ?_
    rintro _ X3 ⟨x', e', rfl, hi', hb3⟩
    obtain ⟨rfl, rfl⟩ := CostIs.one HI.out hi'
    have HBX3 : Hid (Below X.heap.size X X3) := HBX2.out.trans (hb3.mono HBX2.out.size)
    have HR13 : Hid (RInts X3.heap.size X3 (.slice A1 nk c1) lk) := (HR1.out.below hb3).more hb3.size
    clear C3 y0 y1 y2 y3 z0 z1 z2 z3 hi' hb3
    have C4 := Lib.hid (eqInts_any _ _ lk lk X3 ((hRk.out.below HBX3.out).more HBX3.out.size) HR13.out)
    rw [decide_eq_true rfl] at C4
    go_wp2_with fail
    refine C4.out.mono ?_
    rintro _ X4 ⟨rfl, hb4⟩
    have HBX4 : Hid (Below W9.heap.size W9 X4) := hB.out.trans ((HBX3.out.trans (hb4.mono HBX3.out.size)).mono hB.out.size)
    clear C4 hb4
    go_wp2_with fail
    go_roundw
    case rel =>
      first
        | exact ⟨k + 1, by omega, by go_num, HBX4⟩
        | (repeat apply Exists.intro
           refine ⟨?_, rfl⟩
           exact ⟨k + 1, by omega, by go_num, HBX4⟩)
    case measure => simp [intOf]; omega
  obtain rfl : k = 2 := by omega
  clear HROW hlt hk
  obtain ⟨y0, y1, y2, y3, z0, z1, z2, z3⟩ := HS.out X HBX.out
  have C1 := Lib.hid (FP1.out _ X (HC.out X HBX.out).out.1.sup)
  go_wp2_with fail
  refine C1.out.mono ?_
  rintro _ W18 ⟨AW18, cW18, rfl, HW18⟩
  have HBW18 : Hid (Below W2.heap.size W2 W18) := HBX.out.trans (HW18.out.2.mono HBX.out.size)
  clear C1 y0 y1 y2 y3 z0 z1 z2 z3
  obtain ⟨y0, y1, y2, y3, z0, z1, z2, z3⟩ := HS.out W18 HBW18.out
  have C2 := Lib.hid (FP2.out _ W18 (HC.out W18 HBW18.out).out.2.1.sup)
  go_wp2_with fail
  refine C2.out.mono ?_
  rintro _ W19 ⟨AW19, cW19, rfl, HW19⟩
  have HBW19 : Hid (Below W2.heap.size W2 W19) := HBW18.out.trans (HW19.out.2.mono HBW18.out.size)
  clear C2 y0 y1 y2 y3 z0 z1 z2 z3
  have HRW19 : Hid (RInts W19.heap.size W19 (.slice AW18 nq cW18) lq) := (HW18.out.1.below HW19.out.2).more HW19.out.2.size
  have C3 := Lib.hid (eqInts_any _ _ lq lq W19 HRW19.out HW19.out.1)
  rw [decide_eq_true rfl] at C3
  go_wp2_with fail
  refine C3.out.mono ?_
  rintro _ W19e ⟨rfl, hE⟩
  have HBW19e : Hid (Below W2.heap.size W2 W19e) := HBW19.out.trans (hE.mono HBW19.out.size)
  have HRW19e : Hid (RInts W19e.heap.size W19e (.slice AW18 nq cW18) lq) := (HRW19.out.below hE).more hE.size
  clear C3 hE HRW19
  have FR : ∃ W22, W19e.alloc (.cells #[.slice Ap np cp, .slice AW18 nq cW18] 30) = W22 ∧ Below W19e.heap.size W19e W22 ∧ Blk W22 W19e.heap.size 30 #[.slice Ap np cp, .slice AW18 nq cW18] := ⟨_, rfl, below_alloc _ _, Blk.new _ _ _⟩
  obtain ⟨W22, eR, hbR, hkR⟩ := FR
  have ER := Lib.hid eR
  have HBW22 : Hid (Below W2.heap.size W2 W22) := HBW19e.out.trans (hbR.mono HBW19e.out.size)
  have HROW : Hid (∀ Z, Below W22.heap.size W22 Z → ∀ j, j < 2 → ∃ A c l n, Z.cell? ⟨W19e.heap.size, j, none⟩ = some (.slice A n c) ∧ Hid (l.length = n) ∧ n ≤ 40 ∧ Hid (RInts Z.heap.size Z (.slice A n c) l)) := fun Z hZ j hj =>
    row2 hkR HNP.out HLQ.out hp hnq ((HWA.out _ HBW22.out).2) ((HRW19e.out.below hbR).more hbR.size) hZ j hj
  clear eR hbR hkR
  go_wp2_with fail
  rw [ER.out]
  clear ER
  go_loopw [144] (fun s wr => ∃ k : Nat, k ≤ 2 ∧ s = .int .i64 (k : Int) ∧ Hid (Below W22.heap.size W22 wr)) (fun s _ => 2 - (intOf s).toNat)
  case atStart => exact ⟨0, by omega, rfl, Below.refl _ _⟩
  case round =>
  obtain ⟨k, hk, rfl, hB⟩ := hrel
  obtain ⟨X, rfl⟩ : ∃ X : World, X = wr := ⟨_, rfl⟩
  have HBX : Hid (Below W2.heap.size W2 X) := HBW22.out.trans (hB.out.mono HBW22.out.size)
  by_cases hlt : k < 2
  · obtain ⟨Ak, ck, lk, nk, hcell, hlk, hnk, hRk⟩ := HROW.out X hB.out k hlt
    have hk0 : (0 : Int) ≤ (k : Int) := by omega
    have hk2 : (k : Int) < 2 := by omega
    have C1 := Lib.hid (clone2 lk nk hlk.out hnk _ X hRk.out)
    go_wp2_with fail
    refine C1.out.mono ?_
    rintro _ X1 ⟨A1, c1, rfl, hc1, H1⟩
    have HB1 : Hid (Below W2.heap.size W2 X1) := HBX.out.trans (H1.out.2.mono HBX.out.size)
    clear C1 hcell
    obtain ⟨y0, y1, y2, y3, z0, z1, z2, z3⟩ := HS.out X1 HB1.out
    have C2 := Lib.hid (Proves_full s lk (.agg #[.slice Ay m cy, .slice Ay' n cy', .int .i64 s.keep, .int .i64 s.room]) (.slice A1 nk c1) X1 (HC.out X1 HB1.out).out.1.sup H1.out.1 (by rw [hlk.out]; omega))
    go_wp2_with fail
    refine C2.out.mono ?_
    rintro _ X2 ⟨x, e, rfl, hi, hb2⟩
    have HI := Lib.hid hi
    have HB2 : Hid (Below W2.heap.size W2 X2) := HB1.out.trans (hb2.mono HB1.out.size)
    have HR1 : Hid (RInts X2.heap.size X2 (.slice A1 nk c1) lk) := (H1.out.1.below hb2).more hb2.size
    have HBX2 : Hid (Below X.heap.size X X2) := H1.out.2.trans (hb2.mono H1.out.2.size)
    clear C2 y0 y1 y2 y3 z0 z1 z2 z3 hi hb2
    obtain ⟨y0, y1, y2, y3, z0, z1, z2, z3⟩ := HS.out X2 HB2.out
    have C3 := Lib.hid (refProves_any s lk (.agg #[.slice Az m cz, .slice Az' n cz', .int .i64 s.keep, .int .i64 s.room]) (.slice Ak nk ck) X2 (HC.out X2 HB2.out).out.2.1.sup ((hRk.out.below HBX2.out).more HBX2.out.size) (by rw [hlk.out]; omega))
    go_wp2_with fail
    refine C3.out.mono ?_
    rintro _ X3 ⟨x', e', rfl, hi', hb3⟩
    obtain ⟨rfl, rfl⟩ := PrvIs.one HI.out hi'
    have HBX3 : Hid (Below X.heap.size X X3) := HBX2.out.trans (hb3.mono HBX2.out.size)
    have HR13 : Hid (RInts X3.heap.size X3 (.slice A1 nk c1) lk) := (HR1.out.below hb3).more hb3.size
    clear C3 y0 y1 y2 y3 z0 z1 z2 z3 hi' hb3
    have C4 := Lib.hid (eqInts_any _ _ lk lk X3 ((hRk.out.below HBX3.out).more HBX3.out.size) HR13.out)
    rw [decide_eq_true rfl] at C4
    go_wp2_with fail
    refine C4.out.mono ?_
    rintro _ X4 ⟨rfl, hb4⟩
    have HBX4 : Hid (Below W22.heap.size W22 X4) := hB.out.trans ((HBX3.out.trans (hb4.mono HBX3.out.size)).mono hB.out.size)
    clear C4 hb4
    go_wp2_with fail
    go_roundw
    case rel =>
      first
        | exact ⟨k + 1, by omega, by go_num, HBX4⟩
        | (repeat apply Exists.intro
           refine ⟨?_, rfl⟩
           exact ⟨k + 1, by omega, by go_num, HBX4⟩)
    case measure => simp [intOf]; omega
  obtain rfl : k = 2 := by omega
  clear HROW hlt hk
  have hsup := (HC.out X HBX.out).out
  obtain ⟨y0, y1, -⟩ := fresh4 hsup.1.at_
  obtain ⟨x0, x1, -⟩ := fresh4 hsup.2.2.at_
  have C1 := Lib.hid (eqInts_any _ _ s.need s.need X hsup.1.need hsup.2.2.need)
  rw [decide_eq_true rfl] at C1
  clear hsup
  go_wp2_with fail
  refine C1.out.mono ?_
  rintro _ X1 ⟨rfl, hb1⟩
  have HB1 : Hid (Below W2.heap.size W2 X1) := HBX.out.trans (hb1.mono HBX.out.size)
  clear C1 hb1 y0 y1 x0 x1
  have hsup := (HC.out X1 HB1.out).out
  obtain ⟨y0, y1, -⟩ := fresh4 hsup.1.at_
  obtain ⟨x0, x1, -⟩ := fresh4 hsup.2.2.at_
  have C2 := Lib.hid (eqInts_any _ _ s.order s.order X1 hsup.1.order hsup.2.2.order)
  rw [decide_eq_true rfl] at C2
  clear hsup
  go_wp2_with fail
  refine C2.out.mono ?_
  rintro _ X2 ⟨rfl, hb2⟩
  have HB3 : Hid (Below w.heap.size w X2) := HB2.out.trans ((HB1.out.trans (hb2.mono HB1.out.size)).mono HB2.out.size)
  clear C2 hb2
  go_wp2_with fail
  go_ret
  exact ⟨rfl, HB3.out⟩
end Go.Proofs.Ytpkepacbondopaa

namespace Go.Proofs.Ytpkepacbondopaa
open Go.RowKit Go.Shelf Go.ChangeShapes Go.WideShapes Go.ChangeAt Go.Deep Go.Joins
attribute [local go_sem] Oper.semAt_some

set_option maxRecDepth 100000 in
theorem sup_arg {H : Type} {enc : TypeId × Value → H} {w : World} {base b0 : Nat} {rc : Reach} {spare : Nat → Bool} {held : Bool} {v : Value} {d : DataW H} {p : List MemPlace}
    (hv : Value.okWide Try.prog w rc b0 33 v) (h : DataW.Trod enc Try.prog w base spare held 33 v d p) : ∃ s : SupD, RSup w.heap.size w v s := by
  obtain ⟨v0, v1, v2, v3, y0, y1, y2, y3, n, rfl, -, -, t0, t1, t2, t3⟩ := open_agg4 Try.underlying33 (by kernel_rfl) (by kernel_rfl) hv h
  obtain ⟨l, hl, -⟩ := ints_of t0
  obtain ⟨m, hm, -⟩ := ints_of t1
  obtain ⟨x, rfl, -⟩ := field_int t2
  obtain ⟨y, rfl, -⟩ := field_int t3
  exact ⟨⟨l, m, x, y⟩, v0, v1, rfl, hl, hm⟩
set_option maxRecDepth 1000000 in
set_option maxHeartbeats 4000000 in
theorem ReelSupplies_any (s : SupD) (lw lp : List Int) (v vw vp : Value) (w : World) (h : RSup w.heap.size w v s) (hW : RInts w.heap.size w vw lw) (hP : RInts w.heap.size w vp lp) :
    Calls Try.prog 5 #[v, vw, vp] w fun e w' => e = .returned (.bool true) ∧ Below w.heap.size w w' := by
  have HSUP := Lib.hid h
  obtain ⟨vn, vo, rfl, hN, hO⟩ := h
  obtain ⟨An, cn, rfl, hnm, -⟩ := hN.open_
  obtain ⟨Ao, co, rfl, hom, -⟩ := hO.open_
  obtain ⟨Aw, cw, rfl, hwm, -⟩ := hW.open_
  obtain ⟨Ap, cp, rfl, hpm, -⟩ := hP.open_
  have HW := Lib.hid hW
  have HP := Lib.hid hP
  obtain ⟨m, hm⟩ : ∃ a, s.need.length = a := ⟨_, rfl⟩
  obtain ⟨n, hn⟩ : ∃ a, s.order.length = a := ⟨_, rfl⟩
  obtain ⟨nw, hnw⟩ : ∃ a, lw.length = a := ⟨_, rfl⟩
  obtain ⟨np, hnp⟩ : ∃ a, lp.length = a := ⟨_, rfl⟩
  rw [hm] at hnm HSUP ⊢
  rw [hn] at hom HSUP ⊢
  rw [hnw] at hwm HW ⊢
  rw [hnp] at hpm HP ⊢
  have HM := Lib.hid hm
  have HNN := Lib.hid hn
  have HNW := Lib.hid hnw
  have HNP := Lib.hid hnp
  clear hN hO hW hP hm hn hnw hnp
  have F0 : ∃ W0, w.alloc (.cells #[.slice An m cn, .slice Ao n co, .int .i64 s.keep, .int .i64 s.room] 33) = W0 ∧ Hid (Below w.heap.size w W0) ∧ Blk W0 w.heap.size 33 #[.slice An m cn, .slice Ao n co, .int .i64 s.keep, .int .i64 s.room] := ⟨_, rfl, below_alloc _ _, Blk.new _ _ _⟩
  obtain ⟨W0, e0, hb0, hk0⟩ := F0
  have E0 := Lib.hid e0
  obtain ⟨x0, x1, x2, x3, -⟩ := fresh4 hk0
  clear e0 hk0
  go_enter Try.func5, Try.ntmps5
  go_upto_region 1 with fail
  rw [E0.out]
  clear E0
  by_cases q1 : (30 : Int) < (m : Int)
  case pos =>
    have C2 := Lib.hid (awake_any W0)
    go_wp2_with fail
    refine C2.out.mono ?_
    rintro _ W2 ⟨rfl, hb2⟩
    have HB2 : Hid (Below w.heap.size w W2) := hb0.out.trans (hb2.mono hb0.out.size)
    clear C2 hb2
    go_wp2_with fail
    go_ret
    exact ⟨rfl, HB2.out⟩
  by_cases q2 : (30 : Int) < (n : Int)
  case pos =>
    have C2 := Lib.hid (awake_any W0)
    go_wp2_with fail
    refine C2.out.mono ?_
    rintro _ W2 ⟨rfl, hb2⟩
    have HB2 : Hid (Below w.heap.size w W2) := hb0.out.trans (hb2.mono hb0.out.size)
    clear C2 hb2
    go_wp2_with fail
    go_ret
    exact ⟨rfl, HB2.out⟩
  by_cases q3 : (40 : Int) < (nw : Int)
  case pos =>
    have C2 := Lib.hid (awake_any W0)
    go_wp2_with fail
    refine C2.out.mono ?_
    rintro _ W2 ⟨rfl, hb2⟩
    have HB2 : Hid (Below w.heap.size w W2) := hb0.out.trans (hb2.mono hb0.out.size)
    clear C2 hb2
    go_wp2_with fail
    go_ret
    exact ⟨rfl, HB2.out⟩
  by_cases q4 : (40 : Int) < (np : Int)
  case pos =>
    have C2 := Lib.hid (awake_any W0)
    go_wp2_with fail
    refine C2.out.mono ?_
    rintro _ W2 ⟨rfl, hb2⟩
    have HB2 : Hid (Below w.heap.size w W2) := hb0.out.trans (hb2.mono hb0.out.size)
    clear C2 hb2
    go_wp2_with fail
    go_ret
    exact ⟨rfl, HB2.out⟩
  have C1 := Lib.hid (supplies_any s lw lp (by rw [HM.out]; omega) (by rw [HNN.out]; omega) (by rw [HNW.out]; omega) (by rw [HNP.out]; omega) _ _ _ W0 ((HSUP.out.below hb0.out).more hb0.out.size) ((HW.out.below hb0.out).more hb0.out.size) ((HP.out.below hb0.out).more hb0.out.size))
  go_wp2_with fail
  refine C1.out.mono ?_
  rintro _ W1 ⟨rfl, hb1⟩
  have HB1 : Hid (Below w.heap.size w W1) := hb0.out.trans (hb1.mono hb0.out.size)
  have C2 := Lib.hid (awake_any W1)
  clear C1 hb1
  go_wp2_with fail
  refine C2.out.mono ?_
  rintro _ W2 ⟨rfl, hb2⟩
  have HB2 : Hid (Below w.heap.size w W2) := HB1.out.trans (hb2.mono HB1.out.size)
  clear C2 hb2
  go_wp2_with fail
  go_ret
  exact ⟨rfl, HB2.out⟩
end Go.Proofs.Ytpkepacbondopaa

namespace Go.Proofs.Ytpkepacbondopaa
open Go.ChangeShapes Go.WideShapes Go.ChangeAt Go.RowKit Go.Joins

set_option maxRecDepth 100000 in
theorem supplies_contract (H : Type) (enc : TypeId × Value → H) (W : World) (base : Nat) (args : Array Value) (ds gs : List (DataW H)) (before : List MemPlace)
    (hval : ∀ (j : Nat) t v, Try.f5.params[j]? = some t → args[j]? = some v → Value.okWide Try.prog W .any base t v)
    (hW : DataW.Whole enc Try.prog Try.f5.params.toList Rows.reelSuppliesSpec.vars false W args.toList ds gs before) :
    Calls Try.prog 5 args W fun e W' => ∃ v, e = .returned v ∧ Rows.reelSuppliesSpec.post enc Try.prog Try.f5 false true false false W args v W' := by
  have hW' := hW
  obtain ⟨p, q, hA0, hV, rfl, hfz, hnd⟩ := hW
  have hA : DataW.TrodAll enc Try.prog W 0 (fun _ => true) true Try.f5.params.toList args.toList ds p := hA0
  rw [Try.params5] at hA hval
  obtain ⟨v0, vs0, d0, ds0, p0, q0, hargs0, rfl, rfl, h0, r0⟩ := trodAll_cons hA
  obtain ⟨v1, vs1, d1, ds1, p1, q1, hargs1, rfl, rfl, h1, r1⟩ := trodAll_cons r0
  obtain ⟨v2, vs2, d2, ds2, p2, q2, hargs2, rfl, rfl, h2, r2⟩ := trodAll_cons r1
  obtain ⟨rfl, rfl, rfl⟩ := trodAll_nil r2
  subst hargs2
  obtain rfl : args = #[v0, v1, v2] := by cases args; simp_all
  obtain ⟨rfl, rfl⟩ := trodVars_none hV
  clear hA0
  simp only [List.append_nil] at hW'
  obtain ⟨l0, hr0⟩ := sup_arg (hval 0 33 v0 rfl rfl) h0
  have hlt0 : ∀ x ∈ p0, x.block < W.heap.size := fun x hx => by
    simpa using hW'.lt x (by simp [hx])
  have hargs0 : ∀ (W' : World), Below W.heap.size W W' → DataW.Trod enc Try.prog W' 0 (fun b => decide (b < W.heap.size)) true 33 v0 d0 p0 :=
    fun W' hn => Below.trod laidOutN (by kernel_rfl) (of_decide_eq_true (by kernel_rfl)) h0 hn fun x hx => hlt0 x hx
  obtain ⟨l1, hr1, hl1⟩ := ints_arg (hval 1 30 v1 rfl rfl) h1
  have hlt1 : ∀ x ∈ p1, x.block < W.heap.size := fun x hx => by
    simpa using hW'.lt x (by simp [hx])
  have hargs1 : ∀ (W' : World), Below W.heap.size W W' → DataW.Trod enc Try.prog W' 0 (fun b => decide (b < W.heap.size)) true 30 v1 d1 p1 :=
    fun W' hn => Below.trod laidOutN (by kernel_rfl) (of_decide_eq_true (by kernel_rfl)) h1 hn fun x hx => hlt1 x hx
  obtain ⟨l2, hr2, hl2⟩ := ints_arg (hval 2 30 v2 rfl rfl) h2
  have hlt2 : ∀ x ∈ p2, x.block < W.heap.size := fun x hx => by
    simpa using hW'.lt x (by simp [hx])
  have hargs2 : ∀ (W' : World), Below W.heap.size W W' → DataW.Trod enc Try.prog W' 0 (fun b => decide (b < W.heap.size)) true 30 v2 d2 p2 :=
    fun W' hn => Below.trod laidOutN (by kernel_rfl) (of_decide_eq_true (by kernel_rfl)) h2 hn fun x hx => hlt2 x hx
  refine (ReelSupplies_any l0 l1 l2 v0 v1 v2 W hr0 hr1 hr2).mono fun e W' ⟨he, hnx⟩ => ?_
  subst he
  exact ⟨_, rfl, _, _, _, [], p0 ++ (p1 ++ (p2 ++ ([]))), [], hW', trodAll_cons_mk (shut_bool Try.underlying4 _) trodAll_mk0, trodAll_cons_mk (hargs0 _ hnx) (trodAll_cons_mk (hargs1 _ hnx) (trodAll_cons_mk (hargs2 _ hnx) (trodAll_mk0))), rfl, hnx.frame _, fun h => by cases h⟩

set_option maxRecDepth 100000 in
theorem supplies_lifted (os : Os) (started : os.Started) (H : Type) (enc : TypeId × Value → H) :
    ReturnsInHanded {} Try.checked os 5 .any (Rows.reelSuppliesSpec.pre6 enc Try.prog Try.f5 Rows.reelSuppliesRow.domain false) (Rows.reelSuppliesSpec.post enc Try.prog Try.f5 false true false false) := by
  refine returnsInHanded_of_change (C := Try.checked) ownN started (by kernel_rfl) Try.func5
    (ChangeSpec.witness6 (enc := enc) (C := Try.checked) false ⟨#[], #[.agg #[.slice none 0 0, .slice none 0 0, .int .i64 0, .int .i64 0], .slice none 0 0, .slice none 0 0], []⟩ 8 (by kernel_rfl) (by kernel_rfl) (by kernel_rfl) (by kernel_rfl)) ?_
  intro W base args ds gs before hval hW _ _
  exact supplies_contract H enc W base args ds gs before hval hW

theorem supplies_proved : Rows.ReelSuppliesSaid :=
  OpenClaim.holds_of_wide 5 Try.f5 rfl rfl rfl rfl rfl rfl rfl ⟨rfl, rfl, rfl, rfl, rfl⟩ rfl rfl rfl rfl rfl (by kernel_rfl) Try.func5 (by kernel_rfl)
    (of_decide_eq_true (by kernel_rfl)) (by unfold Func.isWrapper; first | (rw [if_pos (by decide +kernel)]; kernel_rfl) | (rw [if_neg (by decide +kernel)]; exact ⟨rfl, rfl⟩))
    (fun os started H enc _ => supplies_lifted os started H enc)
#print axioms supplies_proved
end Go.Proofs.Ytpkepacbondopaa
