/-
  The reach of a press; the numbers of webs and reels.
-/
import Derived.Test.YtpkepacbondopaaLb
namespace Go.Proofs.Ytpkepacbondopaa
open Go.RowKit

theorem reachL_next {cut : Int} {l : List WebD} {k : Nat} {x : WebD} (h : l[k]? = some x) : reachL cut (l.take (k + 1)) = min (reachL cut (l.take k)) (reach1 cut x) := by rw [take_snoc_get h, reachL_snoc]
theorem reach1_bound {cut : Int} {x : WebD} (hc : 300 ≤ cut) (ho : 0 ≤ x.off) (hl : x.reels.length ≤ 20) (hx : ∀ r ∈ x.reels, r.ok) : 0 ≤ reach1 cut x ∧ reach1 cut x ≤ 400000000 := by
  have hb := givesL_bound hx
  unfold reach1
  have h1 : 0 ≤ max 0 (givesL x.reels - x.off) := by omega
  have h2 : max 0 (givesL x.reels - x.off) ≤ 400000000 := by omega
  constructor
  · exact Int.ediv_nonneg h1 (by omega)
  · exact Int.le_trans (Int.ediv_le_self _ h1) h2

set_option maxHeartbeats 1000000 in
theorem reach_any (p : PressD) (hp : p.Ok) (w : World) (v : Value) (h : RPress w.heap.size w v p) :
    Calls Try.prog 72 #[v] w fun e w' => e = .returned (.int .i64 p.reach) ∧ Below w.heap.size w w' := by
  obtain ⟨u, rfl, hw⟩ := h
  obtain ⟨A, c, rfl, hlm, hr⟩ := hw.open_
  obtain ⟨n, hn⟩ : ∃ n, p.webs.length = n := ⟨_, rfl⟩
  have hn6 : n ≤ 6 := by have := hp.webs.2; omega
  rw [hn] at hlm ⊢
  obtain ⟨cut, hcut⟩ : ∃ c, p.cut = c := ⟨_, rfl⟩
  obtain ⟨mg, hmg⟩ : ∃ c, p.margin = c := ⟨_, rfl⟩
  have hc1 : 300 ≤ cut ∧ cut ≤ 1500 := by have := hp.cut; rw [hcut] at this; exact this
  rw [hcut, hmg]
  have Hn := Lib.hid hn
  have HC := Lib.hid hcut
  have HR := Lib.hid hr
  have HP := Lib.hid hp
  clear hn hcut hmg hr hp hw
  obtain ⟨hc1, hc2⟩ := hc1
  have F0 : ∃ W0, w.alloc (.cells #[.int .i64 cut, .int .i64 mg, .slice A n c] 24) = W0 ∧ Below w.heap.size w W0 ∧ Blk W0 w.heap.size 24 #[.int .i64 cut, .int .i64 mg, .slice A n c] := ⟨_, rfl, below_alloc _ _, Blk.new _ _ _⟩
  obtain ⟨W0, e0, hb0, B0⟩ := F0
  have E0 := Lib.hid e0
  have HB0 := Lib.hid hb0
  have HK0 := Lib.hid B0
  have m2 := cellOf B0 2 (x := .slice A n c) rfl
  clear e0 hb0 B0
  go_enter Try.func72, Try.ntmps72
  go_upto_region 1 with fail
  rw [E0.out]
  go_wp2
  clear m2
  go_loopw [3, 9] (fun s i wr => ∃ k : Nat, k ≤ n ∧ i = .int .i64 k ∧ ∃ g : Int, s = .int .i64 g ∧ Hid (g = reachL cut (p.webs.take k)) ∧ 0 ≤ g ∧ g ≤ 1000000 ∧ Hid (Below W0.heap.size W0 wr)) (fun _ i _ => n - (intOf i).toNat)
  case atStart => exact ⟨0, Nat.zero_le _, rfl, 1000000, rfl, rfl, by omega, by omega, Below.refl _ _⟩
  case round =>
    obtain ⟨k, hk, rfl, g, rfl, hg, hg1, hg2, hB⟩ := hrel
    by_cases hlt : k < n
    · obtain ⟨x, hx⟩ : ∃ x, p.webs[k]? = some x := ⟨_, List.getElem?_eq_getElem (by rw [Hn.out]; exact hlt)⟩
      have hmem := List.mem_of_getElem? hx
      have hxo := HP.out.web x hmem
      have hxr := HP.out.reel x hmem
      have hxl := HP.out.reels x hmem
      obtain ⟨b, o, A2, c2', rfl, hb, c0, c1, c2, c3, hrr⟩ := HR.out k x hx
      have hBw : Below w.heap.size w wr := HB0.out.trans (hB.out.mono HB0.out.size)
      rw [← hBw.cell (p := ⟨b, o + k * 4, none⟩) hb] at c0
      rw [← hBw.cell (p := ⟨b, o + k * 4 + 1, none⟩) hb] at c1
      rw [← hBw.cell (p := ⟨b, o + k * 4 + 2, none⟩) hb] at c2
      rw [← hBw.cell (p := ⟨b, o + k * 4 + 3, none⟩) hb] at c3
      have hrr1 : RReels wr.heap.size wr (.slice A2 x.reels.length c2') x.reels := (Rd.below hrr hBw).more hBw.size
      have F1 : ∃ X1, wr.alloc (.cells #[.slice A2 x.reels.length c2', .int .i64 x.off, .int .i64 x.before, .int .i64 x.after] 47) = X1 ∧ Below wr.heap.size wr X1 ∧ Blk X1 wr.heap.size 47 #[.slice A2 x.reels.length c2', .int .i64 x.off, .int .i64 x.before, .int .i64 x.after] := ⟨_, rfl, below_alloc _ _, Blk.new _ _ _⟩
      obtain ⟨X1, e1, hb1, B1⟩ := F1
      have HRR := Lib.hid ((Rd.below hrr1 hb1).more hb1.size)
      have E1 := Lib.hid e1
      have HB1 := Lib.hid hb1
      have HK1 := Lib.hid B1
      have HN := Lib.hid (reachL_next (cut := cut) hx)
      have hgb := givesL_bound hxr
      have hrb := reach1_bound (x := x) hc1 hxo.1.1 hxl hxr
      have hPX : Blk X1 w.heap.size 24 #[.int .i64 cut, .int .i64 mg, .slice (some ⟨b, o, none⟩) n c] := (HK0.out.below hB.out HK0.out.lt).below hb1 (Nat.lt_of_lt_of_le HK0.out.lt hB.out.size)
      have HPX := Lib.hid hPX
      obtain ⟨m, hm⟩ : ∃ m, x.reels.length = m := ⟨_, rfl⟩
      obtain ⟨G, hG⟩ : ∃ G, givesL x.reels = G := ⟨_, rfl⟩
      obtain ⟨off, hoff⟩ : ∃ G, x.off = G := ⟨_, rfl⟩
      obtain ⟨bef, hbef⟩ : ∃ G, x.before = G := ⟨_, rfl⟩
      obtain ⟨aft, haft⟩ : ∃ G, x.after = G := ⟨_, rfl⟩
      have hr1e : Hid (reach1 cut x = max 0 (G - off) / cut) := by show _ = _; unfold reach1; rw [hG, hoff]
      have hr1b : 0 ≤ max 0 (G - off) / cut ∧ max 0 (G - off) / cut ≤ 400000000 := by rw [← hr1e.out]; exact hrb
      have hob := hxo.1
      rw [hoff] at hob
      have CG : Hid (∀ Y, Below X1.heap.size X1 Y → Calls Try.prog 113 #[.agg #[.slice A2 m c2', .int .i64 off, .int .i64 bef, .int .i64 aft]] Y fun e w' => e = .returned (.int .i64 G) ∧ Below X1.heap.size X1 w' ∧
          (w'.cell? ⟨wr.heap.size, 0, none⟩ = some (.slice A2 m c2') ∧ w'.cell? ⟨wr.heap.size, 1, none⟩ = some (.int .i64 off) ∧ w'.cell? ⟨wr.heap.size, 2, none⟩ = some (.int .i64 bef) ∧ w'.cell? ⟨wr.heap.size, 3, none⟩ = some (.int .i64 aft) ∧ w'.cell? ⟨w.heap.size, 0, none⟩ = some (.int .i64 cut))) := fun Y hY => by
        have h9 := webGives_any x A2 c2' hxr hxl Y ((Rd.below HRR.out hY).more hY.size)
        rw [hm, hoff, hbef, haft, hG] at h9
        refine h9.mono ?_
        rintro _ w' ⟨rfl, hb9⟩
        have hY' := hY.trans (hb9.mono hY.size)
        have q1 := HK1.out.below hY' HK1.out.lt
        have q2 := HPX.out.below hY' HPX.out.lt
        rw [hm, hoff, hbef, haft] at q1
        exact ⟨rfl, hY', cellOf q1 0 rfl, cellOf q1 1 rfl, cellOf q1 2 rfl, cellOf q1 3 rfl, cellOf q2 0 rfl⟩
      rw [hm] at c0 e1
      rw [hoff] at c1 e1
      rw [hbef] at c2 e1
      rw [haft] at c3 e1
      rw [hm] at hxl
      rw [hG, hm] at hgb
      have HS1 : Hid (X1.cell? ⟨wr.heap.size, 0, none⟩ = some (.slice A2 m c2') ∧ X1.cell? ⟨wr.heap.size, 1, none⟩ = some (.int .i64 off) ∧ X1.cell? ⟨wr.heap.size, 2, none⟩ = some (.int .i64 bef) ∧ X1.cell? ⟨wr.heap.size, 3, none⟩ = some (.int .i64 aft) ∧ X1.cell? ⟨w.heap.size, 0, none⟩ = some (.int .i64 cut)) := by
        have q1 := HK1.out
        rw [hm, hoff, hbef, haft] at q1
        exact ⟨cellOf q1 0 rfl, cellOf q1 1 rfl, cellOf q1 2 rfl, cellOf q1 3 rfl, cellOf HPX.out 0 rfl⟩
      have E1 := Lib.hid e1
      clear hx hmem hxo hxr hrr hrr1 hBw hb1 e1 B1 hrb hPX hoff hbef haft hG hm
      go_upto_region 5 with fail
      rw [E1.out]
      clear c0 c1 c2 c3
      have S1 := HS1.out
      have kw : IntKind.i64.wrap (G - off) = G - off := IntWalk.i64_in _ ⟨by omega, by omega⟩
      have hc0 : (cut == 0) = false := by simp; omega
      have hc0' : ¬ cut = 0 := by omega
      have HFin : Hid (∀ Y, Below X1.heap.size X1 Y → Below W0.heap.size W0 Y) := fun Y hY => (hB.out.trans ((HB1.out.trans (hY.mono HB1.out.size)).mono hB.out.size))
      by_cases hd : off < G
      · have hmx : max 0 (G - off) = G - off := by omega
        rw [hmx] at hr1e hr1b
        obtain ⟨hb1, hb2⟩ := hr1b
        clear hmx
        have kq : IntKind.i64.wrap ((G - off).tdiv cut) = (G - off) / cut := by rw [Int.tdiv_eq_ediv_of_nonneg (by omega)]; exact IntWalk.i64_in _ ⟨by omega, by omega⟩
        obtain ⟨Q, hQ⟩ : ∃ Q, (G - off) / cut = Q := ⟨_, rfl⟩
        rw [hQ] at kq hr1e hb1 hb2
        clear hQ
        by_cases hq : g ≤ Q
        all_goals
          go_region_held3 (fun wS => wS.cell? ⟨wr.heap.size, 0, none⟩ = some (.slice A2 m c2') ∧ wS.cell? ⟨wr.heap.size, 1, none⟩ = some (.int .i64 off) ∧ wS.cell? ⟨wr.heap.size, 2, none⟩ = some (.int .i64 bef) ∧ wS.cell? ⟨wr.heap.size, 3, none⟩ = some (.int .i64 aft) ∧ wS.cell? ⟨w.heap.size, 0, none⟩ = some (.int .i64 cut))
            (first | exact S6 | exact S1 | go_keep)
            (first | (go_at_call 113; refine (CG.out _ (by first | exact Below.refl _ _ | exact (Below.refl _ _).drew)).mono ?_; rintro _ w6 ⟨rfl, B6, S6⟩))
          all_goals
            have HBn := Lib.hid (HFin.out _ B6)
            clear B6 S6 S1 kw kq hc0
            go_wp2
            go_roundw
            case rel => exact ⟨k + 1, by omega, by go_num, _, rfl, by show _ = _; rw [HN.out, ← hg.out, hr1e.out]; omega, by omega, by omega, by first | exact HBn | exact Lib.hid (below_drewN HBn.out _) | exact Lib.hid HBn.out.drew⟩
            case measure => simp [intOf]; omega
      · have hmx : max 0 (G - off) = 0 := by omega
        rw [hmx] at hr1e
        rw [Int.zero_ediv] at hr1e
        clear hmx hr1b
        have kq : IntKind.i64.wrap (0 : Int) = 0 := by decide
        have kq0 : (0 : Int).tdiv cut = 0 := Int.zero_tdiv _
        have hif : (if off < G then G - off else 0) = 0 := if_neg hd
        by_cases hq : g ≤ 0
        all_goals
          go_region_held3 (fun wS => wS.cell? ⟨wr.heap.size, 0, none⟩ = some (.slice A2 m c2') ∧ wS.cell? ⟨wr.heap.size, 1, none⟩ = some (.int .i64 off) ∧ wS.cell? ⟨wr.heap.size, 2, none⟩ = some (.int .i64 bef) ∧ wS.cell? ⟨wr.heap.size, 3, none⟩ = some (.int .i64 aft) ∧ wS.cell? ⟨w.heap.size, 0, none⟩ = some (.int .i64 cut))
            (first | exact S6 | exact S1 | go_keep)
            (first | (go_at_call 113; refine (CG.out _ (by first | exact Below.refl _ _ | exact (Below.refl _ _).drew)).mono ?_; rintro _ w6 ⟨rfl, B6, S6⟩))
          all_goals
            have HBn := Lib.hid (HFin.out _ B6)
            clear B6 S6 S1 kw kq kq0 hc0 hif
            go_wp2
            go_roundw
            case rel => exact ⟨k + 1, by omega, by go_num, _, rfl, by show _ = _; rw [HN.out, ← hg.out, hr1e.out]; omega, by omega, by omega, by first | exact HBn | exact Lib.hid (below_drewN HBn.out _) | exact Lib.hid HBn.out.drew⟩
            case measure => simp [intOf]; omega
    · go_wp2
      go_ret
      exact ⟨ri (by rw [hg.out, List.take_of_length_le (by rw [Hn.out]; omega), ← HC.out]; rfl), HB0.out.trans (hB.out.mono HB0.out.size)⟩
end Go.Proofs.Ytpkepacbondopaa
