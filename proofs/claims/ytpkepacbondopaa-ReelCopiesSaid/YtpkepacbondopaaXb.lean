/-
  Collect, Splices.
-/
import Derived.Test.YtpkepacbondopaaXa
import Derived.Test.YtpkepacbondopaaVb
namespace Go.Proofs.Ytpkepacbondopaa
open Go.RowKit Go.Shelf
attribute [local go_sem] Oper.semAt_some

set_option maxHeartbeats 1000000 in
theorem collect_any (x : WebD) (A : Option Addr) (c Bw : Nat) (w : World) (hBw : Bw < w.heap.size) (hbox : w.cell? ⟨Bw, 0, none⟩ = some (.slice A x.reels.length c)) (hr : RReels w.heap.size w (.slice A x.reels.length c) x.reels) (hok : ∀ r ∈ x.reels, r.ok) (hl : x.reels.length ≤ 20) :
    Calls Try.prog 76 #[.func (.func 121) #[] #[.pointer (some ⟨Bw, 0, none⟩)]] w fun e w' => ∃ u, e = .returned u ∧ OInts w.heap.size w' u x.places ∧ Below w.heap.size w w' := by
  have CA := Lib.hid (appendSeq_any x A c Bw w hBw hbox hr hok hl)
  clear hr hok hbox
  go_enter Try.func76, Try.ntmps76
  go_wp2_with fail
  refine CA.out.mono ?_
  rintro _ w1 ⟨u, rfl, hO, hb⟩
  have HO := Lib.hid hO
  have HB := Lib.hid hb
  clear hO hb CA
  go_wp2_with fail
  go_ret
  exact ⟨u, rfl, HO.out, HB.out⟩
/-- What Splices answers of a web. -/
def SplRet (x : WebD) (w : World) (e : Ending) (w' : World) : Prop := ∃ A c, e = .returned (.tuple #[.slice A x.places.length c, .int .i64 0]) ∧ OInts w.heap.size w' (.slice A x.places.length c) x.places ∧ Below w.heap.size w w'
set_option maxRecDepth 100000 in
set_option maxHeartbeats 2000000 in
theorem Splices_ok (p : PressD) (hc : checkE p = 0) (i : Nat) (x : WebD) (hx : p.webs[i]? = some x) (v : Value) (w : World) (h : RPress w.heap.size w v p) :
    Calls Try.prog 21 #[v, .int .i64 (i : Int)] w (SplRet x w) := by
  obtain ⟨u, rfl, hw⟩ := id h
  obtain ⟨A, c, rfl, hlm, hr⟩ := hw.open_
  have HP := Lib.hid h
  have hok := checkE_ok hc
  have hmem := List.mem_of_getElem? hx
  have hi : i < p.webs.length := (List.getElem?_eq_some_iff.1 hx).1
  obtain ⟨b, o, A2, c2, rfl, hb, c0, c1, c2', c3, hrr⟩ := hr i x hx
  have F0 : ∃ W0, w.alloc (.cells #[.int .i64 p.cut, .int .i64 p.margin, .slice (some ⟨b, o, none⟩) p.webs.length c] 24) = W0 ∧ Below w.heap.size w W0 ∧ Blk W0 w.heap.size 24 #[.int .i64 p.cut, .int .i64 p.margin, .slice (some ⟨b, o, none⟩) p.webs.length c] := ⟨_, rfl, below_alloc _ _, Blk.new _ _ _⟩
  obtain ⟨W0, e0, hb0, B0⟩ := F0
  have E0 := Lib.hid e0
  have HB0 := Lib.hid hb0
  have HK0 := Lib.hid B0
  have m0 := cellOf B0 0 (x := .int .i64 p.cut) rfl
  have m1 := cellOf B0 1 (x := .int .i64 p.margin) rfl
  have m2 := cellOf B0 2 (x := .slice (some ⟨b, o, none⟩) p.webs.length c) rfl
  have CC := Check_any p _ W0 ((HP.out.below HB0.out).more HB0.out.size)
  rw [hc] at CC
  have CC := Lib.hid CC
  obtain ⟨nw, hnw⟩ : ∃ n, p.webs.length = n := ⟨_, rfl⟩
  have hw6 : withinB (i : Int) 0 ((nw : Int) - 1) = true := within_t (by omega) (by omega)
  have CW := Lib.hid (within_let hw6)
  have hnw6 : 1 ≤ nw ∧ nw ≤ 6 := by have := hok.webs; omega
  rw [hnw] at hi m2 E0 HK0 CC ⊢
  have hxo := Lib.hid (hok.reel x hmem)
  have hxl := hok.reels x hmem
  have HRR := Lib.hid hrr
  have HC : Hid (w.cell? ⟨b, o + i * 4, none⟩ = some (.slice A2 x.reels.length c2) ∧ w.cell? ⟨b, o + i * 4 + 1, none⟩ = some (.int .i64 x.off) ∧ w.cell? ⟨b, o + i * 4 + 2, none⟩ = some (.int .i64 x.before) ∧ w.cell? ⟨b, o + i * 4 + 3, none⟩ = some (.int .i64 x.after)) := ⟨c0, c1, c2', c3⟩
  clear e0 hb0 B0 h hw hlm hr hx hmem hrr c0 c1 c2' c3 hw6 hnw hok
  go_enter Try.func21, Try.ntmps21
  go_upto_region 1 with fail
  rw [E0.out]
  go_wp2_with fail
  refine CC.out.mono ?_
  rintro _ W1 ⟨rfl, hb1⟩
  have HB1 : Hid (Below w.heap.size w W1) := HB0.out.trans (hb1.mono HB0.out.size)
  have HK1 := Lib.hid (HK0.out.below hb1 HK0.out.lt)
  clear m0 m1 m2 hb1
  have m2 := cellOf HK1.out 2 (x := .slice (some ⟨b, o, none⟩) nw c) rfl
  have hii : (i : Int) < (nw : Int) := by omega
  go_wp2_with fail
  refine (CW.out _).mono ?_
  rintro _ _ ⟨rfl, rfl⟩
  obtain ⟨k0, k1, k2, k3⟩ := HC.out
  rw [← HB1.out.cell (p := ⟨b, o + i * 4, none⟩) hb] at k0
  rw [← HB1.out.cell (p := ⟨b, o + i * 4 + 1, none⟩) hb] at k1
  rw [← HB1.out.cell (p := ⟨b, o + i * 4 + 2, none⟩) hb] at k2
  rw [← HB1.out.cell (p := ⟨b, o + i * 4 + 3, none⟩) hb] at k3
  go_wp2_with fail
  refine (splices_any x A2 x.reels.length c2 _).mono ?_
  rintro _ W2 ⟨rfl, hW2⟩
  have hb2 : Below W1.heap.size W1 W2 := by rw [hW2]; exact below_alloc _ _
  have hk2 : Blk W2 W1.heap.size 47 #[.slice A2 x.reels.length c2, .int .i64 x.off, .int .i64 x.before, .int .i64 x.after] := by rw [hW2]; exact Blk.new _ _ _
  have HB2 : Hid (Below w.heap.size w W2) := HB1.out.trans (hb2.mono HB1.out.size)
  have CX := Lib.hid (collect_any x A2 c2 W1.heap.size W2 hk2.lt (cellOf hk2 0 rfl) ((Rd.below HRR.out HB2.out).more HB2.out.size) hxo.out hxl)
  clear hW2 hb2 hk2 m2 k0 k1 k2 k3
  go_wp2_with fail
  refine CX.out.mono ?_
  rintro _ W3 ⟨u, rfl, hO, hb3⟩
  obtain ⟨A9, c9, rfl⟩ := ownsRow_form hO
  have HX : Hid (SplRet x w (.returned (.tuple #[.slice A9 x.places.length c9, .int .i64 0])) W3) := ⟨A9, c9, rfl, ownsRow_base hO HB2.out.size, HB2.out.trans (hb3.mono HB2.out.size)⟩
  clear hO hb3 CX
  go_wp2_with fail
  go_ret2
  exact HX.out
end Go.Proofs.Ytpkepacbondopaa
