/-
  Splices: AppendSeq of the places of a web.
-/
import Derived.Test.YtpkepacbondopaaLj
import Derived.Test.YtpkepacbondopaaLu
import Derived.Test.YtpkepacbondopaaLw
import Derived.Test.YtpkepacbondopaaLx
namespace Go.Proofs.Ytpkepacbondopaa
open Go.RowKit Go.Shelf
attribute [local go_sem] Oper.semAt_some

/-- What has been collected. -/
def AsSt (w : World) (acc : List Int) (X : World) : Prop := Below w.heap.size w X ∧ ∃ v, Blk X w.heap.size 30 #[v] ∧ OInts w.heap.size X v acc
theorem AsSt.grown {w : World} {acc : List Int} {X Y : World} {row : Option Nat} {B : Nat} (h : AsSt w acc X) (hg : X.grownBy Y row) (hr : ∀ r, row = some r → B ≤ r ∧ ∃ o : Obj, X.heap[r]? = some o ∧ o.isCells = false) (hB : w.heap.size ≤ B) : AsSt w acc Y := by
  obtain ⟨h1, v, h2, h3⟩ := h
  refine ⟨h1.grown hg h1.size (fun j hj => by have := (hr j hj).1; omega), v, blk_grown h2 hg hr, ?_⟩
  refine ownsRow_keptBut h3 (KeptBut.grown (S := fun k => some k = row) hg fun k hk => hk) fun g cs _ hB' e => ?_
  obtain ⟨-, o, ho, hc⟩ := hr g e.symm
  have := hB'.symm.trans ho
  simp at this
  subst this
  cases hc
theorem AsSt.app {w : World} {acc : List Int} {Y Z : World} {tmp : Obj} {v v' : Value} {a : Int} (h : AsSt w acc Y) (hv : Blk Y w.heap.size 30 #[v]) (hO : OInts w.heap.size Y v acc) (hg : (Y.alloc tmp).grownBy Z v.ownBlock) (ho : Z.ownsRow w.heap.size 3 1 v' (acc.length + 1) (acc.map (Value.int .i64) ++ [.int .i64 a])) :
    KeepsOthers Y (Z.setCell ⟨w.heap.size, 0, none⟩ v') ∧ KpR w.heap.size Y (Z.setCell ⟨w.heap.size, 0, none⟩ v') ∧ AsSt w (acc ++ [a]) (Z.setCell ⟨w.heap.size, 0, none⟩ v') := by
  have hS : ∀ k, some k = v.ownBlock → w.heap.size ≤ k ∧ ∃ cs, Blk Y k 3 cs := fun k hk => ownsRow_own hO hk.symm
  have hK1 : KeptBut (fun k => some k = v.ownBlock) Y Z := by
    have h1 : KeptBut (fun k => some k = v.ownBlock) Y (Y.alloc tmp) := (KeptBut.mono (S := fun _ => False) (KeptBut.of_below (below_alloc Y tmp) |>.mono fun _ _ h => h) fun _ _ h => h.elim)
    exact h1.trans (KeptBut.grown (S := fun k => some k = v.ownBlock) hg fun k hk => hk) fun i _ hi => hi
  have hK : KeptBut (fun k => k = w.heap.size ∨ some k = v.ownBlock) Y (Z.setCell ⟨w.heap.size, 0, none⟩ v') :=
    (hK1.mono fun i _ hi => Or.inr hi).trans (KeptBut.setCell (S := fun k => k = w.heap.size) rfl v') fun i _ hi => Or.inl hi
  have hZ : Blk Z w.heap.size 30 #[v] := hK1.blk hv fun hk => by
    obtain ⟨-, cs', hB'⟩ := hS _ hk
    have := hv.symm.trans hB'
    simp at this
  have hlow : ∀ k, (k = w.heap.size ∨ some k = v.ownBlock) → w.heap.size ≤ k := fun k hk => hk.elim (fun e => by omega) fun e => (hS k e).1
  refine ⟨⟨hK.size, fun k o hk hc => (hK.block k (Array.getElem?_eq_some_iff.1 hk).1 fun hk' => ?_).trans hk⟩, ⟨hK.below hlow h.1.size, fun g cs fr hg => hK.block g (Array.getElem?_eq_some_iff.1 hg).1 fun hk' => ?_⟩, h.1.trans (hK.below hlow h.1.size), v', hZ.put 0 v', ?_⟩
  · rcases hk' with rfl | hk'
    · have := hk.symm.trans hv
      simp at this
      subst this
      cases hc
    · obtain ⟨-, cs', hB'⟩ := hS k hk'
      have := hk.symm.trans hB'
      simp at this
      subst this
      cases hc
  · rcases hk' with rfl | hk'
    · have := hg.symm.trans hv
      simp at this
    · obtain ⟨-, cs', hB'⟩ := hS g hk'
      have := hg.symm.trans hB'
      simp at this
  · have ho' : OInts w.heap.size Z v' (acc ++ [a]) := by
      unfold OInts
      rw [List.length_append, List.map_append]
      exact ho
    refine ownsRow_keptBut ho' (KeptBut.setCell (S := fun k => k = w.heap.size) rfl v') fun g cs _ hB e => ?_
    subst e
    have := hZ.symm.trans hB
    simp at this
set_option maxRecDepth 1000000 in
set_option maxHeartbeats 4000000 in
theorem appendSeq_any (x : WebD) (A : Option Addr) (c Bw : Nat) (w : World) (hBw : Bw < w.heap.size) (hbox : w.cell? ⟨Bw, 0, none⟩ = some (.slice A x.reels.length c)) (hr : RReels w.heap.size w (.slice A x.reels.length c) x.reels) (hok : ∀ r ∈ x.reels, r.ok) (hl : x.reels.length ≤ 20) :
    Calls Try.prog 120 #[.slice none 0 0, .func (.func 121) #[] #[.pointer (some ⟨Bw, 0, none⟩)]] w fun e w' => ∃ u, e = .returned u ∧ OInts w.heap.size w' u x.places ∧ Below w.heap.size w w' := by
  have F0 : ∃ W0, w.alloc (.cells #[.slice none 0 0] 30) = W0 ∧ Below w.heap.size w W0 ∧ AsSt w [] W0 := ⟨_, rfl, below_alloc _ _, below_alloc _ _, _, Blk.new _ _ _, World.ownsRow_nil _ _ _ _⟩
  obtain ⟨W0, e0, hb0, hst0⟩ := F0
  have E0 := Lib.hid e0
  have hnW : w.heap.size ≤ W0.heap.size := hb0.size
  have hseq := splices_stops 9 (by omega) x A c Bw w.heap.size W0 (by omega) hnW ((hb0.cell (p := ⟨Bw, 0, none⟩) hBw).trans hbox) (Rd.below hr hb0) hok hl
  have hI0 : AsSt w ((([] : List Pl)).map (·.1)) W0 := hst0
  have HST := Lib.hid hst0
  obtain ⟨i0, hi0, hz0, hz1, hz2⟩ := info_parts infoInt0
  clear e0 hb0 hst0 hbox hr
  refine (callsIn_wide (n := 10)).1 ?_
  refine callsIn_of_wp_marks Try.func120 rfl trivial ?_ rfl
  simp only [Try.ntmps120, List.size_toArray, List.length_cons, List.length_nil, Nat.reduceAdd, Nat.reduceSub, Array.replicate_succ, Array.replicate_zero, List.push_toArray, List.append_toArray, List.nil_append, List.cons_append]
  refine wpIn_wide.2 ?_
  go_upto_region 1 with fail
  rw [E0.out]
  go_wp2_with fail
  refine (wpIn_wide (n := 10)).1 ?_
  refine wpIn_rangeFunc_ownF rfl (by omega) (gf := 121) (lb := #[.pointer (some ⟨Bw, 0, none⟩)]) rfl trivial (enters_of Try.func121 (by kernel_rfl) rfl)
    hseq KpR.trans (KpR.putObj hnW) (Below.refl _ _) (fun _ => rfl)
    (fun pre Y => AsSt w (pre.map (fun z : Pl => z.1)) Y) (fun _ _ _ => False)
    (fun s A B row hs hg hr => hs.grown hg hr hnW) (fun _ _ _ _ _ hs _ _ => hs) hI0
    (fun y : Pl => { tmps := List.toArray ((.slice none 0 0) :: (.func (.func 121) #[] #[.pointer (some ⟨Bw, 0, none⟩)]) :: (.pointer (some ⟨w.heap.size, 0, none⟩)) :: undef :: (.slice none 0 0) :: (.int .i64 y.1) :: (.func (.func 121) #[] #[.pointer (some ⟨Bw, 0, none⟩)]) :: (.int .i64 y.1) :: undef :: undef :: undef :: undef :: undef :: []), defers := [] }) ?assign ?body ?done ?stop
  case assign =>
    intro l y Y K hK
    gi_wp2
    exact hK
  case body =>
    rintro l pre y Y hst9 hlen
    obtain ⟨acc, hacc⟩ : ∃ a, pre.map (fun z : Pl => z.1) = a := ⟨_, rfl⟩
    have hmap : (pre ++ [y]).map (fun z : Pl => z.1) = acc ++ [y.1] := by rw [List.map_append, hacc]; rfl
    have hal : acc.length ≤ 20 := by rw [← hacc, List.length_map]; omega
    rw [hacc] at hst9
    obtain ⟨v, hv, hO⟩ := hst9.2
    obtain ⟨Av, cv, rfl⟩ := ownsRow_form hO
    have b0 := cellOf hv 0 (x := .slice Av acc.length cv) rfl
    have HAp : Hid (∀ Z v' tmp, (Y.alloc tmp).grownBy Z (Value.slice Av acc.length cv).ownBlock → Z.ownsRow w.heap.size 3 1 v' (acc.length + 1) (acc.map (Value.int .i64) ++ [.int .i64 y.1]) → Hid (KeepsOthers Y (Z.setCell ⟨w.heap.size, 0, none⟩ v') ∧ KpR w.heap.size Y (Z.setCell ⟨w.heap.size, 0, none⟩ v') ∧ AsSt w ((pre ++ [y]).map (fun z : Pl => z.1)) (Z.setCell ⟨w.heap.size, 0, none⟩ v')) ∧ (Z.cell? ⟨w.heap.size, 0, none⟩ = some (.slice Av acc.length cv) ∧ Z.frozen? ⟨w.heap.size, 0, none⟩ = false)) := fun Z v' tmp hg ho => by
      have h1 := hst9.app hv hO hg ho
      have hZ : Blk Z w.heap.size 30 #[.slice Av acc.length cv] := by
        refine (hg.block _ (by simp; have := hv.lt; omega) fun e => ?_).trans ((Below.heap_alloc Y tmp _ hv.lt).trans hv)
        obtain ⟨-, cs, hB⟩ := ownsRow_own hO e.symm
        have := hv.symm.trans hB
        simp at this
      rw [hmap]
      exact ⟨h1, cellOf hZ 0 rfl, hZ.frozen 0⟩
    have HO := Lib.hid hO
    have HZ : Hid (w.heap.size ≤ Y.heap.size) := hst9.1.size
    clear hv hO hst9 hacc hseq hI0 hmap
    gi_wp2_with (gi_at_builtin; refine wpListIn_append_own _ rfl _ _ 30 rfl w.heap.size 3 i0 _ 1 8 sliceInts hi0 hz0 hz1 hz2 rfl (by decide) (.slice Av acc.length cv) acc.length (acc.map (Value.int .i64)) rfl (HO.out.alloc _) ⟨Y.heap.size, 0, none⟩ 1 1 [.int .i64 y.1] rfl rfl (cells_new _ _ _) (by simp [Value.oneCell']) (by simp only [maxLen]; omega) (by omega) (by have := HZ.out; simp; omega) ?_; intro v2' w10 hown' hgro _; obtain ⟨Av2, cv2, rfl⟩ := ownsRow_form hown'; obtain ⟨hfin, q0, q1⟩ := HAp.out _ _ _ hgro hown'; clear hown' hgro)
    exact hfin.out
  case done =>
    rintro D ys Y hD rfl hst9 hK
    rw [placesS_val hok hl] at hst9
    obtain ⟨hb, v, hv, hO⟩ := hst9
    have b0 := cellOf hv 0 (x := v) rfl
    obtain ⟨Av, cv, rfl⟩ := ownsRow_form hO
    have HO := Lib.hid hO
    have HB := Lib.hid hb
    have HK := Lib.hid hK
    have hD' : w.heap.size ≤ D := Nat.le_trans hnW hD
    clear hv hO hb hseq hI0 hK
    go_wp2_with fail
    refine leaves_marks [D] Y (List.nodup_cons.2 ⟨List.not_mem_nil, List.nodup_nil⟩) (fun D' hD' => by rw [List.mem_singleton.1 hD']; exact HK.out) fun Z hZ => ⟨_, results_tmp rfl _ _ _, _, rfl, ?_, ?_⟩
    · refine ownsRow_keptBut HO.out hZ fun g cs _ hB hg => ?_
      rw [List.mem_singleton.1 hg] at hB
      have := hB.symm.trans HK.out
      simp at this
    · exact HB.out.trans (hZ.below (fun k hk => by rw [List.mem_singleton.1 hk]; exact hD') HB.out.size)
  case stop =>
    rintro D c pre Y _ _ h _
    exact h.elim
end Go.Proofs.Ytpkepacbondopaa
