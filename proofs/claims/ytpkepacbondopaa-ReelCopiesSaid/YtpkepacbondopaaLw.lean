/-
  thrown.
-/
import Derived.Deep.LoopGhost
import Derived.Test.YtpkepacbondopaaLt
import Derived.Test.YtpkepacbondopaaLu
namespace Go.Proofs.Ytpkepacbondopaa
open Go.RowKit Go.Shelf
attribute [local go_sem] Oper.semAt_some

theorem clipS_some {p : PressD} {n : Int} {x : WebD} {a : Int} {s : Sp} : clipS p n x a = some s ↔ s = ⟨max (p.span x a).lo 0, min (p.span x a).hi (n - 1)⟩ ∧ max (p.span x a).lo 0 ≤ min (p.span x a).hi (n - 1) := by
  unfold clipS
  split <;> rename_i h
  · constructor
    · intro e; cases e; exact ⟨rfl, h⟩
    · rintro ⟨rfl, -⟩; rfl
  · constructor
    · intro e; cases e
    · rintro ⟨-, h'⟩; exact absurd h' h
theorem mem_webSpans {p : PressD} {n : Int} {x : WebD} {s : Sp} : s ∈ webSpans p n x ↔ x.before + x.after ≠ 0 ∧ ∃ a ∈ x.places, s = ⟨max (p.span x a).lo 0, min (p.span x a).hi (n - 1)⟩ ∧ max (p.span x a).lo 0 ≤ min (p.span x a).hi (n - 1) := by
  unfold webSpans
  split <;> rename_i h
  · constructor
    · intro h'; cases h'
    · rintro ⟨h', -⟩; exact absurd h h'
  · rw [List.mem_filterMap]
    constructor
    · rintro ⟨a, ha, hs⟩; exact ⟨h, a, ha, clipS_some.1 hs⟩
    · rintro ⟨-, a, ha, hs⟩; exact ⟨a, ha, clipS_some.2 hs⟩
theorem mem_spans {p : PressD} {n : Int} {s : Sp} : s ∈ spansTo p n p.webs.length ↔ ∃ x ∈ p.webs, s ∈ webSpans p n x := by
  unfold spansTo
  rw [List.take_length, List.mem_flatMap]
theorem spans_le {p : PressD} {n : Int} {s : Sp} (h : s ∈ spansTo p n p.webs.length) : s.lo ≤ s.hi ∧ 0 ≤ s.lo ∧ s.hi ≤ n - 1 := by
  obtain ⟨x, hx, hs⟩ := mem_spans.1 h
  obtain ⟨-, a, ha, rfl, hle⟩ := mem_webSpans.1 hs
  exact ⟨hle, by show 0 ≤ max _ _; omega, by show min _ _ ≤ _; omega⟩
theorem cov_spans {p : PressD} {n k : Int} : Cov (spansTo p n p.webs.length) k ↔ (0 ≤ k ∧ k < n) ∧ p.Out k := by
  constructor
  · rintro ⟨s, hs, h1, h2⟩
    obtain ⟨x, hx, hs⟩ := mem_spans.1 hs
    obtain ⟨h0, a, ha, rfl, hle⟩ := mem_webSpans.1 hs
    simp only at h1 h2
    exact ⟨⟨by omega, by omega⟩, x, hx, h0, a, ha, by omega, by omega⟩
  · rintro ⟨⟨h1, h2⟩, x, hx, h0, a, ha, h3, h4⟩
    exact ⟨_, mem_spans.2 ⟨x, hx, mem_webSpans.2 ⟨h0, a, ha, rfl, by omega⟩⟩, by show max _ _ ≤ _; omega, by show _ ≤ min _ _; omega⟩
theorem joinL_len (l : List Sp) : (joinL l).length ≤ l.length := by
  rcases List.eq_nil_or_concat l with rfl | ⟨d, s, rfl⟩
  · exact Nat.le_refl _
  · rw [List.concat_eq_append, joinL_snoc, List.length_append]
    have := joinL_len d
    have := joinStep_len (joinL d) s
    simp; omega
termination_by l.length
decreasing_by all_goals (subst_vars; simp)
/-- The way out past the marks of ranges that deferred nothing. -/
theorem leaves_marks {F : Fence} {n : Nat} {P : Program} {fn : Func} {tmps : Array Value} {R : Ending → World → Prop} : ∀ (Ds : List Nat) (X : World), Ds.Nodup → (∀ D ∈ Ds, X.heap[D]? = some (.deferred (some []))) →
    (∀ Y, KeptBut (fun k => k ∈ Ds) X Y → LeavesIn F n P fn tmps R [] .returning Y) → LeavesInM F n P fn tmps R (Ds.map fun D => { target := .collected D, args := #[] }) .returning X
  | [], X, _, _, h => h X (KeptBut.refl _ _)
  | D :: Ds, X, hn, hD, h => by
    refine ⟨by simp, .inl ⟨D, _, rfl, run_takeDeferred (hD D (List.mem_cons_self ..)), ?_⟩⟩
    obtain ⟨hn1, hn2⟩ := List.nodup_cons.1 hn
    have hk : KeptBut (fun k => k = D) X (X.putObj D (.deferred none)) := KeptBut.grown (grownBy_putObj' X D _) fun k e => by cases e; rfl
    refine leaves_marks Ds _ hn2 (fun D' hD' => (hk.block D' (Array.getElem?_eq_some_iff.1 (hD D' (List.mem_cons_of_mem _ hD'))).1 (by rintro rfl; exact hn1 hD')).trans (hD D' (List.mem_cons_of_mem _ hD'))) fun Y hY => h Y ?_
    exact (hk.mono fun i _ hi => by subst hi; exact List.mem_cons_self ..).trans hY fun i _ hi => List.mem_cons_of_mem _ hi
set_option maxRecDepth 1000000 in
set_option maxHeartbeats 4000000 in
theorem thrown_any (p : PressD) (hp : p.Ok) (n : Int) (hn : 0 ≤ n ∧ n ≤ 1000000) (w : World) (v : Value) (h : RPress w.heap.size w v p) :
    Calls Try.prog 74 #[v, .int .i64 n] w fun e w' => ∃ u l, e = .returned u ∧ p.ThrownIs n l ∧ l.length ≤ 120 ∧ OSpans w.heap.size w' u l ∧ Below w.heap.size w w' := by
  obtain ⟨uw, rfl, hw⟩ := h
  obtain ⟨A, c, rfl, hlm, -⟩ := hw.open_
  obtain ⟨m, hm⟩ : ∃ m, p.webs.length = m := ⟨_, rfl⟩
  rw [hm] at hw ⊢
  have hm6 : m ≤ 6 := by have := hp.webs.2; omega
  have HP := Lib.hid hp
  have HM := Lib.hid hm
  have HW := Lib.hid hw
  clear hp hm hw hlm
  have F0 : ∃ W0, ((w.alloc (.cells #[.int .i64 p.cut, .int .i64 p.margin, .slice A m c] 24)).alloc (.cells #[.int .i64 n] 3)).alloc (.cells #[.slice none 0 0] 41) = W0 ∧ ThSt w p (.slice A m c) n [] (spansTo p n 0) W0 := by
    have b1 := below_alloc w (.cells #[.int .i64 p.cut, .int .i64 p.margin, .slice A m c] 24)
    have k1 := Blk.new w 24 #[.int .i64 p.cut, .int .i64 p.margin, .slice A m c]
    obtain ⟨X1, e1⟩ : ∃ X, w.alloc (.cells #[.int .i64 p.cut, .int .i64 p.margin, .slice A m c] 24) = X := ⟨_, rfl⟩
    have z1 : X1.heap.size = w.heap.size + 1 := by rw [← e1]; simp
    rw [e1] at b1 k1 ⊢
    have b2 := below_alloc X1 (.cells #[.int .i64 n] 3)
    have k2 := Blk.new X1 3 #[.int .i64 n]
    obtain ⟨X2, e2⟩ : ∃ X, X1.alloc (.cells #[.int .i64 n] 3) = X := ⟨_, rfl⟩
    have z2 : X2.heap.size = w.heap.size + 1 + 1 := by rw [← e2]; simp [z1]
    rw [e2] at b2 k2 ⊢
    have b3 := below_alloc X2 (.cells #[.slice none 0 0] 41)
    have k3 := Blk.new X2 41 #[.slice none 0 0]
    refine ⟨_, rfl, ?_⟩
    have k1' := (k1.below b2 k1.lt).below b3 (k1.below b2 k1.lt).lt
    have k2' := k2.below b3 k2.lt
    rw [z1] at k2'
    rw [z2] at k3
    exact ⟨b1.trans ((b2.mono (by omega)).trans (b3.mono (by omega))), k1', k2', ⟨[], rfl, List.nodup_nil, fun _ h => by cases h⟩, _, k3, World.ownsRow_nil _ _ _ _⟩
  obtain ⟨W0, e0, hst0⟩ := F0
  have E0 := Lib.hid e0
  have HS0 := Lib.hid hst0
  have c2 := cellOf hst0.press 2 (x := .slice A m c) rfl
  clear e0 hst0
  refine (callsIn_wide (n := 10)).1 ?_
  refine callsIn_of_wp_marks Try.func74 rfl trivial ?_ rfl
  simp only [Try.ntmps74, List.size_toArray, List.length_cons, List.length_nil, Nat.reduceAdd, Nat.reduceSub, Array.replicate_succ, Array.replicate_zero, List.push_toArray, List.append_toArray, List.nil_append, List.cons_append]
  refine wpIn_wide.2 ?_
  go_upto_region 2 with fail
  rw [E0.out]
  go_wp2_with fail
  clear c2
  refine wp_loop_ghost (fun t a X => ∃ (k : Nat) (x7 x8 x9 x14 x15 x16 x17 x18 x19 x20 x21 x22 x23 x24 x25 x26 x27 x28 x29 x30 x31 x32 x33 x34 x35 x36 x37 x38 x39 x40 x41 x42 x43 x44 x45 x46 x47 x48 x49 : Value) (ds : List Deferred), t = m - k ∧ k ≤ m ∧ Hid (ThSt w p (.slice A m c) n ds (spansTo p n k) X) ∧ a = ⟨List.toArray ((.agg #[.int .i64 p.cut, .int .i64 p.margin, .slice A m c]) :: (.int .i64 n) :: (.pointer (some ⟨w.heap.size, 0, none⟩)) :: (.pointer (some ⟨w.heap.size + 1, 0, none⟩)) :: (.slice none 0 0) :: (.pointer (some ⟨w.heap.size + 1 + 1, 0, none⟩)) :: undef :: x7 :: x8 :: x9 :: (.pointer (some ⟨w.heap.size, 2, none⟩)) :: (.slice A m c) :: (.int .i64 (m : Int)) :: (.int .i64 (k : Int)) :: x14 :: x15 :: x16 :: x17 :: x18 :: x19 :: x20 :: x21 :: x22 :: x23 :: x24 :: x25 :: x26 :: x27 :: x28 :: x29 :: x30 :: x31 :: x32 :: x33 :: x34 :: x35 :: x36 :: x37 :: x38 :: x39 :: x40 :: x41 :: x42 :: x43 :: x44 :: x45 :: x46 :: x47 :: x48 :: x49 :: undef :: undef :: undef :: undef :: []), ds⟩) m ⟨0, _, _, _, _, _, _, _, _, _, _, _, _, _, _, _, _, _, _, _, _, _, _, _, _, _, _, _, _, _, _, _, _, _, _, _, _, _, _, _, [], rfl, Nat.zero_le _, HS0, rfl⟩ ?_
  rintro t a X ⟨k, x7, x8, x9, x14, x15, x16, x17, x18, x19, x20, x21, x22, x23, x24, x25, x26, x27, x28, x29, x30, x31, x32, x33, x34, x35, x36, x37, x38, x39, x40, x41, x42, x43, x44, x45, x46, x47, x48, x49, ds, rfl, hkm, hst, rfl⟩
  by_cases hk : k < m
  · refine wp_code (d := thLoop 3) (by kernel_rfl) ?_
    refine thrown_round _ _ _ _ _ _ _ _ _ _ _ _ _ _ _ _ _ _ _ _ _ _ _ _ _ _ _ _ _ _ _ _ _ _ _ _ _ _ _ _ _ _ _ _ _ _ _ _ HP hn HM hm6 hk HW hst ?_
    intro y7 y8 y9 y14 y15 y16 y17 y18 y19 y20 y21 y22 y23 y24 y25 y26 y27 y28 y29 y30 y31 y32 y33 y34 y35 y36 y37 y38 y39 y40 y41 y42 y43 y44 y45 y46 y47 y48 y49 ds' Y hY
    exact ⟨m - (k + 1), by omega, k + 1, _, _, _, _, _, _, _, _, _, _, _, _, _, _, _, _, _, _, _, _, _, _, _, _, _, _, _, _, _, _, _, _, _, _, _, _, _, _, _, ds', rfl, by omega, hY, rfl⟩
  obtain rfl : k = m := by omega
  obtain ⟨u, hu, hO⟩ := hst.out.row
  have hsb := cellOf hu 0 (x := u) rfl
  have hlen : (spansTo p n k).length ≤ 120 := spansTo_len HP.out k
  have HO := Lib.hid hO
  have HU := Lib.hid hu
  have HL := Lib.hid hlen
  clear hO hu hlen
  go_wp2_with fail
  refine (sort_any w.heap.size (spansTo p n k) u X HO.out (by have := HL.out; omega)).mono ?_
  rintro _ W2 ⟨rfl, l', hperm, hpw, hO2, hk2⟩
  have hU2 : Blk W2 (w.heap.size + 1 + 1) 41 #[u] := hk2.blk HU.out fun hk' => by
    obtain ⟨-, cs', hB'⟩ := ownsRow_own HO.out hk'.symm
    have := HU.out.symm.trans hB'
    simp at this
  have HD2 : Hid (DsOk w.heap.size ds W2) := hst.out.defs.keep fun D _ hD => hk2.block D (Array.getElem?_eq_some_iff.1 hD).1 fun hk' => by
    obtain ⟨-, cs', hB'⟩ := ownsRow_own HO.out hk'.symm
    have := hD.symm.trans hB'
    simp at this
  have HB2 : Hid (Below w.heap.size w W2) := hst.out.below_.trans (hk2.below (fun k hk' => (ownsRow_own HO.out hk'.symm).1) hst.out.below_.size)
  have HP2 := Lib.hid hperm
  have HW2 := Lib.hid hpw
  have HO2 := Lib.hid hO2
  have hsb2 := cellOf hU2 0 (x := u) rfl
  clear hperm hpw hO2 hk2 hU2 hsb
  go_wp2_with fail
  have hmem : ∀ s ∈ l', s.lo ≤ s.hi ∧ 0 ≤ s.lo ∧ s.hi ≤ n - 1 := fun s hs => by
    have h2 := HP2.out.mem_iff.1 hs
    rw [← HM.out] at h2
    exact spans_le h2
  have hlen' : l'.length ≤ 120 := by rw [HP2.out.length_eq]; exact HL.out
  have HME := Lib.hid hmem
  have HLE := Lib.hid hlen'
  refine (joined_any l' u W2 HO2.out.reads (by omega) (fun s hs => by have := hmem s hs; omega)).mono ?_
  rintro _ W3 ⟨u3, rfl, hO3, hb3⟩
  have HO3 := Lib.hid hO3
  have HB3 : Hid (Below w.heap.size w W3) := HB2.out.trans (hb3.mono HB2.out.size)
  obtain ⟨Ds, rfl, hDs1, hDs2⟩ := HD2.out.keep (Y := W3) fun D _ hD => hb3.block D (Array.getElem?_eq_some_iff.1 hD).1
  have HDs := Lib.hid hDs2
  clear hO3 hb3 hDs2 hmem hlen' hsb2
  go_wp2_with fail
  refine leaves_marks Ds W3 hDs1 (fun D hD => (HDs.out D hD).2) fun Y hY => ⟨_, results_tmp rfl _ _ _, u3, joinL l', rfl, ?_, ?_, ?_, ?_⟩
  · obtain ⟨j1, j2, -⟩ := join_ok (fun s hs => (HME.out s hs).1) HW2.out
    refine ⟨j1, fun i => (j2 i).trans ?_⟩
    rw [← cov_spans, HM.out]
    exact ⟨fun ⟨s, hs, h⟩ => ⟨s, HP2.out.mem_iff.1 hs, h⟩, fun ⟨s, hs, h⟩ => ⟨s, HP2.out.mem_iff.2 hs, h⟩⟩
  · exact Nat.le_trans (joinL_len l') HLE.out
  · refine ownsRow_keptBut (ownsRow_base HO3.out HB2.out.size) hY fun g cs _ hB hg => ?_
    have := hB.symm.trans (HDs.out g hg).2
    simp at this
  · exact HB3.out.trans (hY.below (fun k hk => (HDs.out k hk).1) HB3.out.size)
end Go.Proofs.Ytpkepacbondopaa
