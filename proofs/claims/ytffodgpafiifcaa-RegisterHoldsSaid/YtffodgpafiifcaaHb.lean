/-
  RegisterHolds: the walk.
-/
import Derived.Test.YtffodgpafiifcaaFb
import Derived.Test.YtffodgpafiifcaaHa
namespace Go.Proofs.Ytffodgpafiifcaa
open Go.RowKit

/-- Numbers within a limit that are read. -/
def RQ (m : Int) (n : Nat) (u : Value) (X : World) : Prop := ∃ out : List Int, out.length = n ∧ (∀ x ∈ out, x ≤ m ∧ -m ≤ x) ∧ RInts X.heap.size X u out
theorem RQ.below {m : Int} {n : Nat} {u : Value} {X Y : World} (h : RQ m n u X) (hb : Below X.heap.size X Y) : RQ m n u Y := by
  obtain ⟨out, h1, h2, h3⟩ := h
  exact ⟨out, h1, h2, (h3.below hb).more hb.size⟩
theorem more_pos {l : LoopD} (h : LoopOk l) {e m : Int} (hm : moreD l e = some m) : 0 ≤ m ∧ (m = 0 → e ≤ l.step - l.blur ∧ -e ≤ l.step - l.blur) ∧ (¬ m = 0 → 1 ≤ m) := by
  unfold moreD at hm
  split at hm
  · obtain rfl : 0 = m := by simpa using hm
    refine ⟨by omega, fun _ => by omega, fun h => absurd rfl h⟩
  · split at hm
    · cases hm
    · rename_i h1 h2
      obtain rfl := Option.some.inj hm
      have h8 := h.2.2.2.2.2.2.2.1
      have h5 := h.2.2.2.2.1
      have hq : 1 ≤ (max e (-e) - (l.step - l.blur) + (l.step - l.noise) - 1) / (l.step - l.noise) := by
        rw [Int.le_ediv_iff_mul_le (by omega)]
        omega
      exact ⟨by omega, fun h => by omega, fun _ => hq⟩
theorem moreD_none {l : LoopD} {e : Int} (hm : moreD l e = none) : l.step = l.noise := by
  unfold moreD at hm
  split at hm
  · cases hm
  · split at hm
    · assumption
    · cases hm

theorem Play_settled {p : PlayD} (h : PlayOk p) {m : Int} (hm : moreD p.l p.e = some m) (k : Nat) (ht : p.l.dead + 1 + m ≤ k) : p.err k ≤ boundD p.l ∧ -(boundD p.l) ≤ p.err k := settled h.ok h.n_le h.b_le p.d k h.dead.symm hm ht
theorem Play_moves {p : PlayD} (h : PlayOk p) (k : Nat) : p.move k ≤ p.l.step ∧ -p.l.step ≤ p.move k := u_le h.ok k
theorem RMoms.at_ {w : World} {u : Value} {p : PlayD} {n : Nat} (h : RMoms w.heap.size w u (p.moms n)) (hn : 0 < n) : ∃ g o c, u = .slice (some ⟨g, o, none⟩) n c ∧ g < w.heap.size ∧ ∀ k, k < n → w.cell? ⟨g, o + k * 2, none⟩ = some (.int .i64 (p.err k)) ∧ w.cell? ⟨g, o + k * 2 + 1, none⟩ = some (.int .i64 (p.move k)) := by
  obtain ⟨A, c, rfl, -, hr⟩ := h.open_
  have hk : ∀ k, k < n → (p.moms n)[k]? = some (p.err k, p.move k) := fun k hk => by
    unfold PlayD.moms
    rw [List.getElem?_map, List.getElem?_range hk]; rfl
  obtain ⟨g, o, rfl, hg, -, -⟩ := hr 0 _ (hk 0 hn)
  refine ⟨g, o, c, by rw [PlayD.moms_len], hg, fun k h1 => ?_⟩
  obtain ⟨g', o', hA, -, h2, h3⟩ := hr k _ (hk k h1)
  cases hA
  exact ⟨h2, h3⟩

set_option maxRecDepth 100000 in
set_option maxHeartbeats 8000000 in
theorem Holds_any (a b c s e : Int) (v : Value) (any : List Int) (w : World) (hv : RInts w.heap.size w v any) :
    Calls Try.prog 7 #[.int .i64 a, .int .i64 b, .int .i64 c, .int .i64 s, .int .i64 e, v] w fun en w' => en = .returned (.bool true) ∧ Below w.heap.size w w' := by
  have HL := Lib.hid (loop_any a b c s w)
  have HLok := Lib.hid (mkLoop_ok a b c s)
  obtain ⟨l, hl⟩ : ∃ l, mkLoop a b c s = l := ⟨_, rfl⟩
  rw [hl] at HL HLok
  obtain ⟨d, hd⟩ : ∃ d : Nat, l.dead = d := ⟨l.dead.toNat, by have := HLok.out.1; omega⟩
  have HD := Lib.hid hd
  have hd20 : d ≤ 20 := by have := HLok.out.2.1; omega
  have HV := Lib.hid hv
  obtain ⟨A, cA, rfl, hml, -⟩ := hv.open_
  obtain ⟨ml, hmlen⟩ : ∃ m, any.length = m := ⟨_, rfl⟩
  have Hml := Lib.hid hmlen
  rw [hmlen] at hml HV ⊢
  unfold LoopD.val at HL
  rw [hd] at HL
  clear hl hd hv hmlen
  go_enter Try.func7, Try.ntmps7
  go_wp2_with fail
  refine HL.out.mono ?_
  rintro en w1 ⟨rfl, hb1⟩
  obtain ⟨w2, e2, hb2, V2⟩ : ∃ w2, w1.alloc (.cells #[.int .i64 d, .int .i64 l.noise, .int .i64 l.blur, .int .i64 l.step] 26) = w2 ∧ Below w1.heap.size w1 w2 ∧ Blk w2 w1.heap.size 26 #[.int .i64 d, .int .i64 l.noise, .int .i64 l.blur, .int .i64 l.step] := ⟨_, rfl, below_alloc _ _, Blk.new _ _ _⟩
  have E2 := Lib.hid e2
  have B2 : Below w.heap.size w w2 := hb1.trans (hb2.mono hb1.size)
  obtain ⟨L, hL⟩ : ∃ L, w1.heap.size = L := ⟨_, rfl⟩
  rw [hL] at V2
  clear e2 hb1 hb2
  go_upto_region 2 with fail
  rw [E2.out]
  clear hL E2
  by_cases h400 : 400 < ml
  · have CA := Lib.hid (awake_any w2)
    have HB2 := Lib.hid B2
    have h4i : (400 : Int) < (ml : Int) := by omega
    clear V2 B2
    go_wp2_with fail
    refine CA.out.mono ?_
    rintro en w9 ⟨rfl, hb9⟩
    have HB10 := Lib.hid (HB2.out.trans (hb9.mono HB2.out.size))
    clear hb9
    go_wp2
    go_ret
    exact ⟨rfl, HB10.out⟩
  · have h4i : ¬ (400 : Int) < (ml : Int) := by omega
    have hE := tmod_small e
    have HCB := Bound_any l w2
    unfold boundRet at HCB
    rw [if_pos ((loopB_iff l).2 HLok.out), checkE_ok HLok.out] at HCB
    unfold LoopD.val boundD at HCB
    rw [HD.out] at HCB
    have HCB := Lib.hid HCB
    have v0 := cellOf V2 0 (x := .int .i64 d) rfl
    have v1 := cellOf V2 1 (x := .int .i64 l.noise) rfl
    have v2 := cellOf V2 2 (x := .int .i64 l.blur) rfl
    have v3 := cellOf V2 3 (x := .int .i64 l.step) rfl
    go_upto_region 5 with fail
    obtain ⟨E, hEe⟩ : ∃ E, e.tmod 1000001 = E := ⟨_, rfl⟩
    rw [hEe] at hE ⊢
    clear hEe h4i
    go_wp2_with fail
    refine HCB.out.mono ?_
    rintro en w3 ⟨rfl, hb3⟩
    have V3 := V2.below hb3 V2.lt
    have B3 := B2.trans (hb3.mono B2.size)
    clear HCB v0 v1 v2 v3 V2 B2 hb3
    have HCS := Settle_any l E w3 (by omega)
    unfold settleRet at HCS
    rw [if_neg (not_not_intro HLok.out), if_neg (not_not_intro hE)] at HCS
    unfold LoopD.val at HCS
    rw [HD.out] at HCS
    have HCS := Lib.hid HCS
    have v0 := cellOf V3 0 (x := .int .i64 d) rfl
    have v1 := cellOf V3 1 (x := .int .i64 l.noise) rfl
    have v2 := cellOf V3 2 (x := .int .i64 l.blur) rfl
    have v3 := cellOf V3 3 (x := .int .i64 l.step) rfl
    go_wp2_with fail
    refine HCS.out.mono ?_
    rintro en w4 ⟨rfl, hb4⟩
    have V4 := V3.below hb4 V3.lt
    have B4 := B3.trans (hb4.mono B3.size)
    clear HCS v0 v1 v2 v3 V3 B3 hb4
    have hn1 := HLok.out.2.2.1
    have hn2 := HLok.out.2.2.2.1
    have hbl1 := HLok.out.2.2.2.2.1
    have hbl2 := HLok.out.2.2.2.2.2.1
    have hst := HLok.out.2.2.2.2.2.2
    have hy4 : 0 ≤ ((d : Int) + 1) * l.noise := Int.mul_nonneg (by omega) hn1
    have hy3 : ((d : Int) + 1) * l.noise ≤ 21000 := by
      have := Int.mul_le_mul (show (d : Int) + 1 ≤ 21 by omega) hn2 hn1 (by omega)
      omega
    have v0 := cellOf V4 0 (x := .int .i64 d) rfl
    have v1 := cellOf V4 1 (x := .int .i64 l.noise) rfl
    have v2 := cellOf V4 2 (x := .int .i64 l.blur) rfl
    have v3 := cellOf V4 3 (x := .int .i64 l.step) rfl
    have HV4 := Lib.hid V4
    have HB4 := Lib.hid B4
    have CA := Lib.hid (awake_any w4)
    clear V4 B4
    cases hmo : moreD l E with
    | none =>
      have hsn := moreD_none hmo
      have h4e : (4 : Int) ≠ 0 := by omega
      clear hmo
      dsimp only
      go_wp2_with fail
      refine CA.out.mono ?_
      rintro en w9 ⟨rfl, hb9⟩
      have HB10 := Lib.hid (HB4.out.trans (hb9.mono HB4.out.size))
      clear hb9
      go_wp2
      go_ret
      exact ⟨rfl, HB10.out⟩
    | some m =>
      obtain ⟨hm0, hmz, hmp⟩ := more_pos HLok.out hmo
      have HMo := Lib.hid hmo
      obtain ⟨S, hS⟩ : ∃ S : Nat, (d : Int) + 1 + m = S := ⟨((d : Int) + 1 + m).toNat, by omega⟩
      have HS := Lib.hid hS
      dsimp only
      rw [hS]
      clear hmo
      by_cases hbig : 2000 < S
      · have hbi : (2000 : Int) < (S : Int) := by omega
        clear hmz hmp
        go_wp2_with fail
        refine CA.out.mono ?_
        rintro en w9 ⟨rfl, hb9⟩
        have HB10 := Lib.hid (HB4.out.trans (hb9.mono HB4.out.size))
        clear hb9
        go_wp2
        go_ret
        exact ⟨rfl, HB10.out⟩
      · have hbi : ¬ (2000 : Int) < (S : Int) := by omega
        have hSd : d + 1 ≤ S := by omega
        obtain ⟨n, hn⟩ : ∃ n, S + 100 = n := ⟨_, rfl⟩
        have hni : (S : Int) + 100 = (n : Int) := by omega
        have HN := Lib.hid hn
        have HM := Lib.hid (And.intro hmz hmp)
        have hSn : n ≤ 2100 := by omega
        have hSn2 : S + 99 < n := by omega
        clear hmz hmp hn hS CA
        go_upto_region 14 with fail
        obtain ⟨bd, hbd⟩ : ∃ bd, ((d : Int) + 1) * l.noise + l.blur = bd := ⟨_, rfl⟩
        have Hbd := Lib.hid hbd
        rw [hbd]
        have CN : Hid (∀ (Y : World) (m f : Int), (0 ≤ m ∧ m ≤ 1000) → (0 ≤ f ∧ f ≤ 1) → Below w4.heap.size w4 Y → Calls Try.prog 38 #[.slice A ml cA, .int .i64 n, .int .i64 m, .int .i64 f] Y fun e w' => ∃ u, e = .returned u ∧ RQ m n u w' ∧ Below Y.heap.size Y w' ∧ Below w4.heap.size w4 w' ∧ (w'.cell? ⟨L, 0, none⟩ = some (.int .i64 d) ∧ w'.cell? ⟨L, 1, none⟩ = some (.int .i64 l.noise) ∧ w'.cell? ⟨L, 2, none⟩ = some (.int .i64 l.blur) ∧ w'.cell? ⟨L, 3, none⟩ = some (.int .i64 l.step))) := fun Y m f hm hf hY => by
          obtain ⟨f', rfl⟩ : ∃ f' : Nat, f = f' := ⟨f.toNat, by omega⟩
          have hB := HB4.out.trans (hY.mono HB4.out.size)
          have hvY : RInts Y.heap.size Y (.slice A ml cA) any := ((RInts.below HV.out hB).more hB.size)
          refine (numbers_any _ any n m f' Y hvY (by rw [Hml.out]; omega) (by omega) hm (by omega)).mono ?_
          rintro e w' ⟨u, out, rfl, ⟨h1, h2, h3⟩, h4⟩
          have hw := hY.trans (h4.mono hY.size)
          have hB' := HV4.out.below hw HV4.out.lt
          exact ⟨u, rfl, ⟨out, h1, h2, Rd.own h3 (own_le h3)⟩, h4, hw, cellOf hB' 0 rfl, cellOf hB' 1 rfl, cellOf hB' 2 rfl, cellOf hB' 3 rfl⟩
        have CP : Hid (∀ (Y : World) (u1 u2 : Value), RQ l.noise n u1 Y → RQ l.blur n u2 Y → Below w4.heap.size w4 Y → Calls Try.prog 19 #[.agg #[.int .i64 d, .int .i64 l.noise, .int .i64 l.blur, .int .i64 l.step], .int .i64 E, u1, u2] Y fun e w' => ∃ (u : Value) (p : PlayD), e = .returned (.tuple #[u, .int .i64 0]) ∧ (PlayOk p ∧ p.l = l ∧ p.e = E ∧ p.d = d) ∧ RMoms w'.heap.size w' u (p.moms n) ∧ Below w4.heap.size w4 w' ∧ (w'.cell? ⟨L, 0, none⟩ = some (.int .i64 d) ∧ w'.cell? ⟨L, 1, none⟩ = some (.int .i64 l.noise) ∧ w'.cell? ⟨L, 2, none⟩ = some (.int .i64 l.blur) ∧ w'.cell? ⟨L, 3, none⟩ = some (.int .i64 l.step))) := fun Y u1 u2 h1 h2 hY => by
          obtain ⟨o1, ho1, hb1, hr1⟩ := h1
          obtain ⟨o2, ho2, hb2, hr2⟩ := h2
          have hpo : PlayOk ⟨l, E, o1, o2, d⟩ := ⟨HLok.out, HD.out, hE, by show o2.length = o1.length; rw [ho1, ho2], by show o1.length ≤ 5000; omega, hb1, hb2⟩
          have h9 := Play_ok ⟨l, E, o1, o2, d⟩ hpo _ _ Y hr1 hr2
          unfold LoopD.val at h9
          dsimp only at h9
          rw [HD.out, ho1] at h9
          refine h9.mono ?_
          rintro e w' ⟨u, rfl, h3, h4⟩
          have hw := hY.trans (h4.mono hY.size)
          have hB' := HV4.out.below hw HV4.out.lt
          exact ⟨u, ⟨l, E, o1, o2, d⟩, rfl, ⟨hpo, rfl, rfl, rfl⟩, OMoms.reads h3, hw, cellOf hB' 0 rfl, cellOf hB' 1 rfl, cellOf hB' 2 rfl, cellOf hB' 3 rfl⟩
        clear hbd hni hy3 hy4
        go_region_held3 (fun X => X.cell? ⟨L, 0, none⟩ = some (.int .i64 d) ∧ X.cell? ⟨L, 1, none⟩ = some (.int .i64 l.noise) ∧ X.cell? ⟨L, 2, none⟩ = some (.int .i64 l.blur) ∧ X.cell? ⟨L, 3, none⟩ = some (.int .i64 l.step))
          (first | exact S8 | exact S7 | exact S6 | go_keep)
          (first | (have hx := q7; go_at_call 19; refine (CP.out _ _ _ (by first | exact q7 | exact q6.below b7) (by first | exact q7 | exact q6.below b7) (by exact B7)).mono ?_; rintro _ w8 ⟨u8, p, rfl, hp8, q8, B8, S8⟩)
                  | (have hx := q6; go_at_call 38; refine (CN.out _ _ _ (by omega) (by omega) (by exact B6)).mono ?_; rintro _ w7 ⟨u7, rfl, q7, b7, B7, S7⟩)
                  | (go_at_call 38; refine (CN.out _ _ _ (by omega) (by omega) (by first | exact Below.refl _ _ | exact (Below.refl _ _).drew)).mono ?_; rintro _ w6 ⟨u6, rfl, q6, b6, B6, S6⟩))
        all_goals
          clear S6 S7 q6 q7 b6 b7 B6 B7 S8 v0 v1 v2 v3 CN CP
          obtain ⟨hpo, hpl, hpe, hpd⟩ := hp8
          obtain ⟨g, o, c8, rfl, hg, hat⟩ := q8.at_ (by omega)
          have HAt := Lib.hid hat
          have HB8 := Lib.hid (HB4.out.trans (B8.mono HB4.out.size))
          have HV8 := Lib.hid (HV4.out.below B8 HV4.out.lt)
          have hbds : 0 ≤ bd ∧ bd ≤ 22000 := by
            have h9 := boundD_small HLok.out
            unfold boundD at h9
            rwa [HD.out, Hbd.out] at h9
          have HPS : Hid (∀ k : Nat, S ≤ k → p.err k ≤ bd ∧ -bd ≤ p.err k) := fun k hk => by
            have h9 := Play_settled hpo (m := m) (by rw [hpl, hpe]; exact HMo.out) k (by rw [hpl, HD.out]; have := HS.out; omega)
            unfold boundD at h9
            rwa [hpl, HD.out, Hbd.out] at h9
          have HPM : Hid (∀ k : Nat, p.move k ≤ l.step ∧ -l.step ≤ p.move k) := fun k => by
            have h9 := Play_moves hpo k
            rwa [hpl] at h9
          have c0 : w8.cell? ⟨g, o, none⟩ = some (.int .i64 E) := by
            have h9 := (HAt.out 0 (by omega)).1
            rw [PlayD.err_zero, hpe] at h9
            simpa using h9
          have i0n : (0 : Int) < (n : Int) := by omega
          clear hat q8 B8 hpo hpl hpe hpd
          go_wp2
          clear c0 i0n
          go_loopw [21] (fun i wr => ∃ k : Nat, k ≤ n ∧ i = .int .i64 k ∧ Below w8.heap.size w8 wr) (fun i _ => n - (intOf i).toNat)
          case atStart => exact ⟨0, Nat.zero_le _, rfl, Below.refl _ _⟩
          case round =>
            obtain ⟨k, hk, rfl, hb2⟩ := hrel
            have hv := HV8.out.below hb2 HV8.out.lt
            have v0 := cellOf hv 0 (x := .int .i64 d) rfl
            have v2 := cellOf hv 2 (x := .int .i64 l.blur) rfl
            have v3 := cellOf hv 3 (x := .int .i64 l.step) rfl
            have Hb2 := Lib.hid hb2
            by_cases hlt : k < n
            · obtain ⟨ce0, cm0⟩ := HAt.out k hlt
              have ce := (hb2.cell (p := ⟨g, o + k * 2, none⟩) hg).trans ce0
              have cm := (hb2.cell (p := ⟨g, o + k * 2 + 1, none⟩) hg).trans cm0
              have hmv := HPM.out k
              have heb := HPS.out k
              obtain ⟨mv, hmv1⟩ : ∃ x, p.move k = x := ⟨_, rfl⟩
              obtain ⟨er, her1⟩ : ∃ x, p.err k = x := ⟨_, rfl⟩
              rw [hmv1] at cm hmv
              rw [her1] at ce heb
              have kw1 : IntKind.i64.wrap (-l.step) = -l.step := IntWalk.i64_in _ ⟨by omega, by omega⟩
              have kw2 : IntKind.i64.wrap (-bd) = -bd := IntWalk.i64_in _ ⟨by omega, by omega⟩
              have d1 : ¬ l.step < mv := by omega
              have d2 : ¬ mv < -l.step := by omega
              have ik : (k : Int) < (n : Int) := by omega
              have ik0 : (0 : Int) ≤ (k : Int) := by omega
              clear hv hb2 ce0 cm0 hmv1 her1 hmv
              by_cases hs : S ≤ k
              · have hsi : (S : Int) ≤ (k : Int) := by omega
                obtain ⟨h1, h2⟩ := heb hs
                have d3 : ¬ bd < er := by omega
                have d4 : ¬ er < -bd := by omega
                clear heb
                go_upto_region 20 with fail
                go_quiet (fail)
                clear d1 d2 kw1 v0 v2 v3 cm
                go_wp2
                go_roundw
                case rel => exact ⟨k + 1, by omega, by go_num, below_drewN Hb2.out _⟩
                case measure => simp [intOf]; omega
              · have hsi : ¬ (S : Int) ≤ (k : Int) := by omega
                clear heb
                go_upto_region 20 with fail
                go_quiet (fail)
                clear d1 d2 kw1 v0 v2 v3 cm
                go_wp2
                go_roundw
                case rel => exact ⟨k + 1, by omega, by go_num, below_drewN Hb2.out _⟩
                case measure => simp [intOf]; omega
            · have hk' : k = n := by omega
              subst hk'
              have HB9 := Lib.hid (HB8.out.trans (hb2.mono HB8.out.size))
              have CA := Lib.hid (awake_any wr)
              have kw1 : IntKind.i64.wrap (l.step - l.blur) = l.step - l.blur := IntWalk.i64_in _ ⟨by omega, by omega⟩
              have kw2 : IntKind.i64.wrap (-E) = -E := IntWalk.i64_in _ ⟨by omega, by omega⟩
              have hSe := HS.out
              obtain ⟨hz, hp⟩ := HM.out
              clear hb2 hv
              by_cases hm : m = 0
              · obtain ⟨h1, h2⟩ := hz hm
                have h3 : ¬ (d : Int) + 1 < (S : Int) := by omega
                clear hz hp hm hSe
                go_wp2_with fail
                refine CA.out.mono ?_
                rintro en w9 ⟨rfl, hb9⟩
                have HB10 := Lib.hid (HB9.out.trans (hb9.mono HB9.out.size))
                clear hb9
                go_wp2
                go_ret
                exact ⟨rfl, HB10.out⟩
              · have h3 : (d : Int) + 1 < (S : Int) := by
                  have := hp hm
                  omega
                clear hz hp hm hSe
                go_wp2_with fail
                refine CA.out.mono ?_
                rintro en w9 ⟨rfl, hb9⟩
                have HB10 := Lib.hid (HB9.out.trans (hb9.mono HB9.out.size))
                clear hb9
                go_wp2
                go_ret
                exact ⟨rfl, HB10.out⟩
end Go.Proofs.Ytffodgpafiifcaa
