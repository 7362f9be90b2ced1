/-
  Copies.
-/
import Derived.Test.YtlmpbmlbllndcaaMaz
namespace Go.Proofs.Ytlmpbmlbllndcaa
open Go.RowKit
attribute [local go_sem] Oper.semAt_some

/-- What Copies answers: the error, and how many. -/
def copE (s : SubD) (a b : Int) : Int := if subB s then (if dayB a b then 0 else 6) else 120
def copV (s : SubD) (a b : Int) : Int := if copE s a b = 0 then s.copies a b else 0
set_option maxRecDepth 100000 in
set_option maxHeartbeats 2000000 in
theorem Copies_any (s : SubD) (a b : Int) (v : Value) (w : World) (h : RSub w.heap.size w v s) :
    Calls Try.prog 34 #[v, .int .i64 a, .int .i64 b] w fun e w' => e = .returned (.tuple #[.int .i64 (copV s a b), .int .i64 (copE s a b)]) ∧ Below w.heap.size w w' := by
  have HS := Lib.hid h
  obtain ⟨u, rfl, hsp⟩ := h
  obtain ⟨A, c, rfl, -, -⟩ := spans_later hsp
  obtain ⟨n, hn⟩ : ∃ n, s.hol.length = n := ⟨_, rfl⟩
  rw [hn] at HS ⊢
  obtain ⟨id, hid⟩ : ∃ x, s.id = x := ⟨_, rfl⟩
  obtain ⟨fr, hfr⟩ : ∃ x, s.from_ = x := ⟨_, rfl⟩
  obtain ⟨to_, hto⟩ : ∃ x, s.to_ = x := ⟨_, rfl⟩
  obtain ⟨dy, hdy⟩ : ∃ x, s.days = x := ⟨_, rfl⟩
  rw [hid, hfr, hto, hdy] at HS ⊢
  have F0 : ∃ W0, w.alloc (.cells #[.int .i64 id, .int .i64 fr, .int .i64 to_, .int .i64 dy, .slice A n c] 42) = W0 ∧ Hid (Below w.heap.size w W0) ∧ Hid (Blk W0 w.heap.size 42 #[.int .i64 id, .int .i64 fr, .int .i64 to_, .int .i64 dy, .slice A n c]) := ⟨_, rfl, below_alloc _ _, Blk.new _ _ _⟩
  obtain ⟨W0, e0, HB0, HK0⟩ := F0
  have E0 := Lib.hid e0
  obtain ⟨p, hp⟩ : ∃ p, w.heap.size = p := ⟨_, rfl⟩
  have HP := Lib.hid hp
  have S0 : Hid (∀ X, Below W0.heap.size W0 X → X.cell? ⟨p, 0, none⟩ = some (.int .i64 id) ∧ X.cell? ⟨p, 1, none⟩ = some (.int .i64 fr) ∧ X.cell? ⟨p, 2, none⟩ = some (.int .i64 to_) ∧ X.cell? ⟨p, 3, none⟩ = some (.int .i64 dy) ∧ X.cell? ⟨p, 4, none⟩ = some (.slice A n c)) := fun X hX => by
    have h := HK0.out.below hX HK0.out.lt
    rw [HP.out] at h
    exact ⟨cellOf h 0 rfl, cellOf h 1 rfl, cellOf h 2 rfl, cellOf h 3 rfl, cellOf h 4 rfl⟩
  have C1 := Lib.hid (subRight_any s _ W0 ((HS.out.below HB0.out).more HB0.out.size))
  obtain ⟨sb, hsb⟩ : ∃ x, subB s = x := ⟨_, rfl⟩
  obtain ⟨db, hdb⟩ : ∃ x, dayB a b = x := ⟨_, rfl⟩
  obtain ⟨te, hte⟩ : ∃ x, copE s a b = x := ⟨_, rfl⟩
  obtain ⟨tv, htv⟩ : ∃ x, copV s a b = x := ⟨_, rfl⟩
  have HE : Hid (te = if sb then (if db then 0 else 6) else 120) := by show _ = _; rw [← hte, ← hsb, ← hdb]; rfl
  have HV : Hid (tv = if te = 0 then s.copies a b else 0) := by show _ = _; rw [← htv, ← hte]; rfl
  rw [hsb] at C1
  have HSB := Lib.hid hsb
  have HDB := Lib.hid hdb
  have C2 := Lib.hid (fun w => areDays_any a b w)
  rw [hdb] at C2
  rw [hte, htv]
  obtain ⟨z0, z1, z2, z3, z4⟩ := S0.out W0 (Below.refl _ _)
  clear hsp hn hid hfr hto hdy e0 hp hsb hdb hte htv
  go_enter Try.func34, Try.ntmps34
  go_upto_region 1 with fail
  rw [E0.out]
  clear E0
  rw [HP.out]
  go_wp2_with fail
  refine C1.out.mono ?_
  rintro _ W1 ⟨rfl, hb1⟩
  have HB1 := Lib.hid hb1
  have HBW1 : Hid (Below w.heap.size w W1) := HB0.out.trans (hb1.mono HB0.out.size)
  clear C1 hb1 z0 z1 z2 z3 z4
  cases sb
  · have HX1 : Hid ((120 : Int) = te) := by show _ = _; rw [HE.out]; rfl
    have HX2 : Hid ((0 : Int) = tv) := by show _ = _; rw [HV.out, ← HX1.out]; rfl
    go_wp2_with fail
    go_ret2
    exact ⟨ret_two HX2.out HX1.out, HBW1.out⟩
  have HOK : Hid (s.Ok) := subB_ok HSB.out
  go_wp2_with fail
  refine (C2.out _).mono ?_
  rintro _ _ ⟨rfl, rfl⟩
  cases db
  · have HX1 : Hid ((6 : Int) = te) := by show _ = _; rw [HE.out]; rfl
    have HX2 : Hid ((0 : Int) = tv) := by show _ = _; rw [HV.out, ← HX1.out]; rfl
    go_wp2_with fail
    go_ret2
    exact ⟨ret_two HX2.out HX1.out, HBW1.out⟩
  have HX1 : Hid ((0 : Int) = te) := by show _ = _; rw [HE.out]; rfl
  have hd := dayB_iff.1 HDB.out
  have C3 := Lib.hid (subCopies_any s HOK.out a b ⟨by omega, by omega⟩ ⟨by omega, by omega⟩ _ W1 ((HS.out.below HBW1.out).more HBW1.out.size))
  have HX2 : Hid (s.copies a b = tv) := by show _ = _; rw [HV.out, ← HX1.out]; rfl
  rw [HX2.out] at C3
  obtain ⟨z0, z1, z2, z3, z4⟩ := S0.out W1 HB1.out
  clear hd
  go_wp2_with fail
  refine C3.out.mono ?_
  rintro _ W2 ⟨rfl, hb2⟩
  have HBW2 : Hid (Below w.heap.size w W2) := HBW1.out.trans (hb2.mono HBW1.out.size)
  clear C3 hb2 z0 z1 z2 z3 z4
  go_wp2_with fail
  go_ret2
  exact ⟨ret_two rfl HX1.out, HBW2.out⟩
end Go.Proofs.Ytlmpbmlbllndcaa
