/-
  Proves.
-/
import Derived.Deep.LoopGhost
import Derived.Test.YtpkepacbondopaaLw
import Derived.Test.YtpkepacbondopaaZe
namespace Go.Proofs.Ytpkepacbondopaa
open Go.RowKit Go.Shelf
attribute [local go_sem] Oper.semAt_some

/-- What Proves answers for right prices. -/
def PrvRet (s : SupD) (p : List Int) (w : World) (e : Ending) (w' : World) : Prop :=
  ((Fea s p ∧ e = .returned (.tuple #[.int .i64 (p.getD s.need.length 0), .int .i64 0])) ∨ (¬ Fea s p ∧ e = .returned (.tuple #[.int .i64 0, .int .i64 7]))) ∧ Below w.heap.size w w'
set_option maxRecDepth 1000000 in
set_option maxHeartbeats 4000000 in
theorem Proves_ok (s : SupD) (hc : checkS s = 0) (p : List Int) (hp : pricesB s.need.length p = true) (v u : Value) (w : World) (h : RSup w.heap.size w v s) (hu : RInts w.heap.size w u p) :
    Calls Try.prog 35 #[v, u] w (PrvRet s p w) := by
  have hs := checkS_ok hc
  have HSUP := h
  obtain ⟨vn, vo, rfl, hN, hO⟩ := h
  obtain ⟨An, cn, rfl, hnm, -⟩ := hN.open_
  obtain ⟨Ao, co, rfl, hom, -⟩ := hO.open_
  rw [hs.same] at hom HSUP ⊢
  have HSUP := Lib.hid HSUP
  have HPR := Lib.hid hp
  have hp2 := hp
  unfold pricesB at hp2
  rw [Bool.and_eq_true, Bool.and_eq_true, decide_eq_true_eq, decide_eq_true_eq, Bool.not_eq_true'] at hp2
  obtain ⟨⟨hpl, hp0⟩, hpw⟩ := hp2
  obtain ⟨m, hm⟩ : ∃ m, s.need.length = m := ⟨_, rfl⟩
  have hm20 : m ≤ 20 := by have := hs.weeks.2; omega
  have HM := Lib.hid hm
  have HS := Lib.hid hs
  have HC := Lib.hid hc
  have HU := Lib.hid hu
  rw [hm] at hpl
  obtain ⟨Au, cu, rfl, -, hr⟩ := hu.open_
  rw [hpl] at hr
  obtain ⟨gu, ou, _, e9, hgu, -, -⟩ := hr 0 (by omega)
  subst e9
  have HP : Hid (∀ X, Below w.heap.size w X → ∀ j, j ≤ m → X.cell? ⟨gu, ou + j, none⟩ = some (.int .i64 (p.getD j 0))) := fun X hX j hj => by
    obtain ⟨g', o', x, e9, hg', c0, hx⟩ := hr j (by omega)
    injection e9 with e9
    injection e9 with e1 e2
    subst e1
    subst e2
    rw [hx.out, hX.cell (p := ⟨gu, ou + j, none⟩) hg']
    exact c0
  have HPB : Hid (∀ j, j ≤ m → -1000000000000 ≤ p.getD j 0 ∧ p.getD j 0 ≤ 1000000000000) := fun j hj => by
    have h1 := List.any_eq_false.1 hpw (p.getD j 0) (by
      rw [List.getD_eq_getElem?_getD, List.getElem?_eq_getElem (by omega), Option.getD_some]
      exact List.getElem_mem _)
    have h2 : withinB (p.getD j 0) (-1000000000000) 1000000000000 = true := by
      unfold wideB at h1
      simpa using h1
    exact within_iff.1 h2
  rw [hm] at hnm hom ⊢
  rw [hpl] at HU ⊢
  have HPL := Lib.hid hpl
  clear hN hO hm hs hc hp hr hpw hp0 hu hpl hnm hom hgu
  have F0 : ∃ W0, (((w.alloc (.cells #[.slice An m cn, .slice Ao m co, .int .i64 s.keep, .int .i64 s.room] 33)).alloc (.cells #[.slice (some ⟨gu, ou, none⟩) (m + 1) cu] 30)).alloc (.cells #[.int .i64 0] 3)).alloc (.cells #[.int .i64 0] 38) = W0 ∧ PvSt w s An Ao (some ⟨gu, ou, none⟩) cn co (m + 1) cu 0 0 [] W0 := by
    have b1 := below_alloc w (.cells #[.slice An m cn, .slice Ao m co, .int .i64 s.keep, .int .i64 s.room] 33)
    have k1 := Blk.new w 33 #[.slice An m cn, .slice Ao m co, .int .i64 s.keep, .int .i64 s.room]
    obtain ⟨V1, e1⟩ : ∃ V, w.alloc (.cells #[.slice An m cn, .slice Ao m co, .int .i64 s.keep, .int .i64 s.room] 33) = V := ⟨_, rfl⟩
    rw [e1] at b1 k1 ⊢
    have z1 : V1.heap.size = w.heap.size + 1 := by rw [← e1]; simp
    have b2 := below_alloc V1 (.cells #[.slice (some ⟨gu, ou, none⟩) (m + 1) cu] 30)
    have k2 := Blk.new V1 30 #[.slice (some ⟨gu, ou, none⟩) (m + 1) cu]
    obtain ⟨V2, e2⟩ : ∃ V, V1.alloc (.cells #[.slice (some ⟨gu, ou, none⟩) (m + 1) cu] 30) = V := ⟨_, rfl⟩
    rw [e2] at b2 k2 ⊢
    have z2 : V2.heap.size = w.heap.size + 1 + 1 := by rw [← e2]; simp [z1]
    have b3 := below_alloc V2 (.cells #[.int .i64 0] 3)
    have k3 := Blk.new V2 3 #[.int .i64 0]
    obtain ⟨V3, e3⟩ : ∃ V, V2.alloc (.cells #[.int .i64 0] 3) = V := ⟨_, rfl⟩
    rw [e3] at b3 k3 ⊢
    have z3 : V3.heap.size = w.heap.size + 1 + 1 + 1 := by rw [← e3]; simp [z2]
    have b4 := below_alloc V3 (.cells #[.int .i64 0] 38)
    have k4 := Blk.new V3 38 #[.int .i64 0]
    refine ⟨_, rfl, b1.trans ((b2.trans ((b3.trans (b4.mono b3.size)).mono b2.size)).mono b1.size), ?_, ?_, ?_, ?_, ⟨[], rfl, List.nodup_nil, fun _ h => (by cases h)⟩⟩
    · rw [HM.out]; exact ((k1.below b2 k1.lt).below b3 (k1.below b2 k1.lt).lt).below b4 ((k1.below b2 k1.lt).below b3 (k1.below b2 k1.lt).lt).lt
    · rw [← z1]; exact (k2.below b3 k2.lt).below b4 (k2.below b3 k2.lt).lt
    · rw [← z2]; exact k3.below b4 k3.lt
    · rw [← z3]; exact k4
  obtain ⟨W0, e0, hst0⟩ := F0
  have E0 := Lib.hid e0
  have HS0 := Lib.hid hst0
  have CC := Lib.hid (CheckSupply_any s _ W0 ((HSUP.out.below HS0.out.below_).more HS0.out.below_.size))
  rw [HC.out, HM.out] at CC
  clear e0 hst0
  have S := HS0.out.sup
  rw [HM.out] at S
  have s0 := cellOf S 0 (x := .slice An m cn) rfl
  have s1 := cellOf S 1 (x := .slice Ao m co) rfl
  have s2 := cellOf S 2 (x := .int .i64 s.keep) rfl
  have s3 := cellOf S 3 (x := .int .i64 s.room) rfl
  have bx := cellOf HS0.out.box 0 (x := .slice (some ⟨gu, ou, none⟩) (m + 1) cu) rfl
  clear S
  refine (callsIn_wide (n := 10)).1 ?_
  refine callsIn_of_wp_marks Try.func35 rfl trivial ?_ rfl
  simp only [Try.ntmps35, List.size_toArray, List.length_cons, List.length_nil, Nat.reduceAdd, Nat.reduceSub, Array.replicate_succ, Array.replicate_zero, List.push_toArray, List.append_toArray, List.nil_append, List.cons_append]
  refine wpIn_wide.2 ?_
  go_upto_region 1 with fail
  rw [E0.out]
  clear E0
  go_wp2_with fail
  refine CC.out.mono ?_
  rintro _ W1 ⟨rfl, hb1⟩
  have HS1 := Lib.hid (HS0.out.below hb1)
  have CA := Lib.hid (arePrices_any s p _ _ W1 ((HSUP.out.below HS1.out.below_).more HS1.out.below_.size) (by rw [HM.out]; exact hm20) ((HU.out.below HS1.out.below_).more HS1.out.below_.size) (by rw [HPL.out]; omega))
  rw [HPR.out, HM.out] at CA
  clear CC hb1 s0 s1 s2 s3 bx
  have S := HS1.out.sup
  rw [HM.out] at S
  have s0 := cellOf S 0 (x := .slice An m cn) rfl
  have s1 := cellOf S 1 (x := .slice Ao m co) rfl
  have s2 := cellOf S 2 (x := .int .i64 s.keep) rfl
  have s3 := cellOf S 3 (x := .int .i64 s.room) rfl
  have bx := cellOf HS1.out.box 0 (x := .slice (some ⟨gu, ou, none⟩) (m + 1) cu) rfl
  clear S
  go_wp2_with fail
  refine CA.out.mono ?_
  rintro _ W2 ⟨rfl, hb2⟩
  have HS2 := Lib.hid (HS1.out.below hb2)
  clear CA hb2 s0 s1 s2 s3 bx
  have S := HS2.out.sup
  rw [HM.out] at S
  have s0 := cellOf S 0 (x := .slice An m cn) rfl
  have s1 := cellOf S 1 (x := .slice Ao m co) rfl
  have s2 := cellOf S 2 (x := .int .i64 s.keep) rfl
  have s3 := cellOf S 3 (x := .int .i64 s.room) rfl
  have bx := cellOf HS2.out.box 0 (x := .slice (some ⟨gu, ou, none⟩) (m + 1) cu) rfl
  clear S
  go_wp2_with fail
  clear s0 s1 s2 s3 bx
  refine wp_loop_ghost (fun t a X => ∃ (k : Nat) (x6 x7 x8 x9 x10 x11 x12 x13 x14 x15 x16 x17 x18 x19 x20 x23 x24 x25 x26 x27 x28 x29 x30 x31 x32 x33 x34 x35 x36 x37 x38 x39 x40 x41 x42 x43 x44 x45 x46 x47 : Value) (ds : List Deferred), t = m - k ∧ k ≤ m ∧ Hid (PvSt w s An Ao (some ⟨gu, ou, none⟩) cn co (m + 1) cu 0 0 ds X) ∧ Hid (∀ j, j < k → WkOk s p j) ∧ a = ⟨List.toArray ((.agg #[.slice An m cn, .slice Ao m co, .int .i64 s.keep, .int .i64 s.room]) :: (.slice (some ⟨gu, ou, none⟩) (m + 1) cu) :: (.pointer (some ⟨w.heap.size, 0, none⟩)) :: (.pointer (some ⟨w.heap.size + 1, 0, none⟩)) :: (.pointer (some ⟨w.heap.size + 1 + 1, 0, none⟩)) :: (.pointer (some ⟨w.heap.size + 1 + 1 + 1, 0, none⟩)) :: x6 :: x7 :: x8 :: x9 :: x10 :: x11 :: x12 :: x13 :: x14 :: x15 :: x16 :: x17 :: x18 :: x19 :: x20 :: (.int .i64 (m : Int)) :: (.int .i64 (k : Int)) :: x23 :: x24 :: x25 :: x26 :: x27 :: x28 :: x29 :: x30 :: x31 :: x32 :: x33 :: x34 :: x35 :: x36 :: x37 :: x38 :: x39 :: x40 :: x41 :: x42 :: x43 :: x44 :: x45 :: x46 :: x47 :: []), ds⟩) m ⟨0, _, _, _, _, _, _, _, _, _, _, _, _, _, _, _, _, _, _, _, _, _, _, _, _, _, _, _, _, _, _, _, _, _, _, _, _, _, _, _, _, [], rfl, Nat.zero_le _, HS2, fun j hj => absurd hj (Nat.not_lt_zero _), rfl⟩ ?_
  rintro t a X ⟨k, x6, x7, x8, x9, x10, x11, x12, x13, x14, x15, x16, x17, x18, x19, x20, x23, x24, x25, x26, x27, x28, x29, x30, x31, x32, x33, x34, x35, x36, x37, x38, x39, x40, x41, x42, x43, x44, x45, x46, x47, ds, rfl, hkm, hst, hwk, rfl⟩
  by_cases hk : k < m
  · refine wp_code (d := pvLoop 7) (by kernel_rfl) ?_
    refine proves_round _ _ _ _ _ _ _ _ _ _ _ _ _ _ _ _ _ _ _ _ _ _ _ _ _ _ _ _ _ _ _ _ _ _ _ _ _ _ _ _ _ _ HS HM hk hm20 HSUP hst HP HPB ?_ ?_
    · intro x7 x8 x9 x23 x24 x25 x26 x27 x28 x29 x30 x31 x32 x33 x34 x35 x36 x37 x38 x39 x40 x41 ds' Y hY hok
      exact ⟨m - (k + 1), by omega, k + 1, _, _, _, _, _, _, _, _, _, _, _, _, _, _, _, _, _, _, _, _, _, _, _, _, _, _, _, _, _, _, _, _, _, _, _, _, _, _, _, _, ds', rfl, by omega, hY, fun j hj => by
        rcases Nat.lt_or_ge j k with h | h
        · exact hwk.out j h
        · obtain rfl : j = k := by omega
          exact hok, rfl⟩
    · intro x7 x8 x9 x23 x24 x25 x26 x27 x28 x29 x30 x31 x32 x33 x34 x35 x36 x37 x38 x39 x40 x41 ds' Y hY hbad
      obtain ⟨Ds, rfl, hDs1, hDs2⟩ := hY.defs
      have HY := Lib.hid hY
      have HDs := Lib.hid hDs2
      have HNF : Hid (¬ Fea s p) := fun h9 => hbad (h9 k (by rw [HM.out]; exact hk))
      refine leaves_marks Ds Y hDs1 (fun D hD => (HDs.out D hD).2) fun Z hZ => ?_
      have hk4 : Z.cell? ⟨w.heap.size + 1 + 1, 0, none⟩ = some (.int .i64 0) := cellOf (hZ.blk HY.out.r4 (fun e => by have := HY.out.r4.symm.trans (HDs.out _ e).2; simp at this)) 0 rfl
      have hk5 : Z.cell? ⟨w.heap.size + 1 + 1 + 1, 0, none⟩ = some (.int .i64 7) := cellOf (hZ.blk HY.out.r5 (fun e => by have := HY.out.r5.symm.trans (HDs.out _ e).2; simp at this)) 0 rfl
      exact ⟨_, results_two rfl rfl hk4 hk5, .inr ⟨HNF.out, rfl⟩, HY.out.below_.trans (hZ.below (fun k hk => (HDs.out k hk).1) HY.out.below_.size)⟩
  obtain rfl : k = m := by omega
  have HFE : Hid (Fea s p) := fun a ha => hwk.out a (by rw [← HM.out]; exact ha)
  obtain ⟨pm, hpm⟩ : ∃ a, p.getD k 0 = a := ⟨_, rfl⟩
  have HPM := Lib.hid hpm
  have HPT := Lib.hid (hst.out.put pm 0)
  obtain ⟨Ds, rfl, hDs1, hDs2⟩ := hst.out.defs
  have HDs := Lib.hid hDs2
  have HX := Lib.hid hst.out
  have cm := HP.out X HX.out.below_ k (Nat.le_refl _)
  rw [hpm] at cm
  have S := HX.out.sup
  rw [HM.out] at S
  have s0 := cellOf S 0 (x := .slice An k cn) rfl
  have s1 := cellOf S 1 (x := .slice Ao k co) rfl
  have s2 := cellOf S 2 (x := .int .i64 s.keep) rfl
  have s3 := cellOf S 3 (x := .int .i64 s.room) rfl
  have bx := cellOf HX.out.box 0 (x := .slice (some ⟨gu, ou, none⟩) (k + 1) cu) rfl
  clear S
  have hr4 := cellOf HX.out.r4 0 (x := .int .i64 0) rfl
  have hr5 := cellOf HX.out.r5 0 (x := .int .i64 0) rfl
  have hf4 := HX.out.r4.frozen 0
  have hf5 := HX.out.r5.frozen 0
  have hb1 : (k : Int) < ((k + 1 : Nat) : Int) := by omega
  have hb0 : (0 : Int) ≤ (k : Int) := by omega
  clear hpm hDs2 hst hwk HSUP HS0 HS1 HS2 HC HPR HU HP HPB
  go_wp2_with fail
  have HQ := HPT.out
  obtain ⟨X9, hX9⟩ : ∃ X9, ((X.setCell ⟨w.heap.size + 1 + 1, 0, none⟩ (.int .i64 pm)).setCell ⟨w.heap.size + 1 + 1 + 1, 0, none⟩ (.int .i64 0)) = X9 := ⟨_, rfl⟩
  rw [hX9] at HQ
  rw [hX9]
  have HQ' := Lib.hid HQ
  have hDs9 : ∀ D ∈ Ds, X9.heap[D]? = some (.deferred (some [])) := fun D hD => by
    rw [← hX9]
    refine (Below.heap_setCell _ _ _ D ?_).trans ((Below.heap_setCell _ _ _ D ?_).trans (HDs.out D hD).2)
    · intro e
      have e' : D = w.heap.size + 1 + 1 + 1 := e
      subst e'
      have := HX.out.r5.symm.trans (HDs.out _ hD).2
      simp at this
    · intro e
      have e' : D = w.heap.size + 1 + 1 := e
      subst e'
      have := HX.out.r4.symm.trans (HDs.out _ hD).2
      simp at this
  refine leaves_marks Ds X9 hDs1 hDs9 fun Z hZ => ?_
  have hk4 : Z.cell? ⟨w.heap.size + 1 + 1, 0, none⟩ = some (.int .i64 pm) := cellOf (hZ.blk HQ.r4 (fun e => by have := HQ.r4.symm.trans (hDs9 _ e); simp at this)) 0 rfl
  have hk5 : Z.cell? ⟨w.heap.size + 1 + 1 + 1, 0, none⟩ = some (.int .i64 0) := cellOf (hZ.blk HQ.r5 (fun e => by have := HQ.r5.symm.trans (hDs9 _ e); simp at this)) 0 rfl
  exact ⟨_, results_two rfl rfl hk4 hk5, .inl ⟨HFE.out, by rw [HM.out, HPM.out]⟩, HQ.below_.trans (hZ.below (fun k hk => (HDs.out k hk).1) HQ.below_.size)⟩
end Go.Proofs.Ytpkepacbondopaa
