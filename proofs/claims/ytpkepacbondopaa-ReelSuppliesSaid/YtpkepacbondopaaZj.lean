/-
  Cost.
-/
import Derived.RangeFuncFrom
import Derived.Test.YtpkepacbondopaaLu
import Derived.Test.YtpkepacbondopaaZi
namespace Go.Proofs.Ytpkepacbondopaa
open Go.RowKit Go.Shelf
attribute [local go_sem] Oper.semAt_some

theorem results_cost {tmps : Array Value} {w : World} {A B : Nat} {x e : Int} (hA : tmps.getD 4 undef = .pointer (some ⟨A, 0, none⟩)) (hB : tmps.getD 5 undef = .pointer (some ⟨B, 0, none⟩))
    (ha : w.cell? ⟨A, 0, none⟩ = some (.int .i64 x)) (hb : w.cell? ⟨B, 0, none⟩ = some (.int .i64 e)) : (results Try.f36 tmps).run Try.prog w = .ok (.tuple #[.int .i64 x, .int .i64 e]) w := by
  have hr : Try.f36.results = #[.cell 4 3, .cell 5 38] := rfl
  rw [Array.getD_eq_getD_getElem?] at hA hB
  simp [results, hr, go_sem, hA, hB, ha, hb]
theorem backward_any (A : Option Addr) (n c : Nat) (w : World) : Calls Try.prog 89 #[.slice A n c] w fun e w' =>
    e = .returned (.func (.func 133) #[] #[.pointer (some ⟨w.heap.size, 0, none⟩)]) ∧ Hid (Below w.heap.size w w' ∧ Blk w' w.heap.size 30 #[.slice A n c]) := by
  have hmf : ∀ (fn : Fn) (first cap : Array Value) (w : World), (Instr.makeFunc fn first cap).run Try.prog w = .ok (.func fn first cap) w := fun _ _ _ _ => rfl
  have F : ∃ W, w.alloc (.cells #[.slice A n c] 30) = W ∧ Hid (Below w.heap.size w W ∧ Blk W w.heap.size 30 #[.slice A n c]) := ⟨_, rfl, below_alloc _ _, Blk.new _ _ _⟩
  obtain ⟨W, e, h⟩ := F
  have E := Lib.hid e
  clear e
  go_enter Try.func89, Try.ntmps89
  go_upto_region 1 with fail
  rw [E.out]
  go_wp2_with fail
  go_ret
  exact ⟨rfl, h⟩
theorem co_start {w : World} {s : SupD} {An Ao : Option Addr} {cn co m : Nat} {W : World} (hm : s.need.length = m) (h : Hid (Below w.heap.size w W ∧ Blk W w.heap.size 33 #[.slice An m cn, .slice Ao m co, .int .i64 s.keep, .int .i64 s.room] ∧ Blk W (w.heap.size + 1) 3 #[.int .i64 0] ∧ Blk W (w.heap.size + 1 + 1) 38 #[.int .i64 0])) :
    Hid (CoSt w s An Ao cn co W.heap.size (W.heap.size + 1) 0 0 0 m ((W.alloc (.cells #[.int .i64 0] 3)).alloc (.cells #[.int .i64 (m : Int)] 3)).drew) ∧
    Hid (CoSt w s An Ao cn co (W.heap.size + 1) W.heap.size 0 0 0 m ((W.alloc (.cells #[.int .i64 (m : Int)] 3)).alloc (.cells #[.int .i64 0] 3)).drew) := by
  have key : ∀ x y : Int, ∃ V, ((W.alloc (.cells #[.int .i64 x] 3)).alloc (.cells #[.int .i64 y] 3)).drew = V ∧ Below W.heap.size W V ∧ Blk V W.heap.size 3 #[.int .i64 x] ∧ Blk V (W.heap.size + 1) 3 #[.int .i64 y] := fun x y => by
    have b1 := below_alloc W (.cells #[.int .i64 x] 3)
    have k1 := Blk.new W 3 #[.int .i64 x]
    obtain ⟨V1, e1⟩ : ∃ V, W.alloc (.cells #[.int .i64 x] 3) = V := ⟨_, rfl⟩
    rw [e1] at b1 k1 ⊢
    have z1 : V1.heap.size = W.heap.size + 1 := by rw [← e1]; simp
    have b2 := below_alloc V1 (.cells #[.int .i64 y] 3)
    have k2 := Blk.new V1 3 #[.int .i64 y]
    obtain ⟨V2, e2⟩ : ∃ V, V1.alloc (.cells #[.int .i64 y] 3) = V := ⟨_, rfl⟩
    rw [e2] at b2 k2 ⊢
    have b3 : Below V2.heap.size V2 V2.drew := (Below.refl _ _).drew
    have k2' := k2.below b3 k2.lt
    rw [z1] at k2'
    exact ⟨_, rfl, b1.trans ((b2.trans (b3.mono b2.size)).mono b1.size), (k1.below b2 k1.lt).below b3 (k1.below b2 k1.lt).lt, k2'⟩
  obtain ⟨h1, h2, h3, h4⟩ := h.out
  rw [← hm] at h2
  obtain ⟨V1, e1, p1, p2, p3⟩ := key 0 (m : Int)
  obtain ⟨V2, e2, q1, q2, q3⟩ := key (m : Int) 0
  rw [e1, e2]
  have hz := h4.lt
  exact ⟨⟨h1.trans (p1.mono h1.size), h2.below p1 h2.lt, h3.below p1 h3.lt, h4.below p1 h4.lt, p2, p3, by omega, by omega, by omega⟩, ⟨h1.trans (q1.mono h1.size), h2.below q1 h2.lt, h3.below q1 h3.lt, h4.below q1 h4.lt, q3, q2, by omega, by omega, by omega⟩⟩
def CoI (w : World) (s : SupD) (An Ao : Option Addr) (cn co B7 B8 SW : Nat) (bx : Value) (l : List Int) (pre : List (Ix l)) (Y : World) : Prop :=
  CoSt w s An Ao cn co B7 B8 0 0 (cF s s.need.length (vals l pre)).2.1 (cF s s.need.length (vals l pre)).2.2 Y ∧ (cF s s.need.length (vals l pre)).1 = true ∧ Blk Y SW 30 #[bx]
def CoX (w : World) (s : SupD) (An Ao : Option Addr) (cn co B7 B8 : Nat) (l : List Int) (pre : List (Ix l)) (Y : World) : Prop :=
  (∃ sm en, CoSt w s An Ao cn co B7 B8 0 9 sm en Y) ∧ (cF s s.need.length (vals l pre)).1 = false
/-- What Cost answers for a list of increasing weeks. -/
def CostRet (s : SupD) (l : List Int) (w : World) (e : Ending) (w' : World) : Prop :=
  e = .returned (if (cF s s.need.length l).1 then .tuple #[.int .i64 (cF s s.need.length l).2.1, .int .i64 0] else .tuple #[.int .i64 0, .int .i64 9]) ∧ Below w.heap.size w w'
set_option maxRecDepth 1000000 in
set_option maxHeartbeats 4000000 in
theorem Cost_ok (s : SupD) (hc : checkS s = 0) (l : List Int) (hsc : schedB s.need.length l = true) (hx : ∀ x ∈ l, 0 ≤ x ∧ x < s.need.length) (hl : l.length ≤ 20) (v u : Value) (w : World) (h : RSup w.heap.size w v s) (hu : RInts w.heap.size w u l) (hcap : ∀ A n c, u = .slice A n c → n ≤ c) :
    Calls Try.prog 36 #[v, u] w (CostRet s l w) := by
  have hs := checkS_ok hc
  have HSUP := h
  obtain ⟨vn, vo, rfl, hN, hO⟩ := h
  obtain ⟨An, cn, rfl, hnm, -⟩ := hN.open_
  obtain ⟨Ao, co, rfl, hom, -⟩ := hO.open_
  rw [hs.same] at hom HSUP ⊢
  have HSUP := Lib.hid HSUP
  have HSC := Lib.hid hsc
  have HX := Lib.hid hx
  have HCAP := Lib.hid hcap
  have HU := Lib.hid hu
  have HS := Lib.hid hs
  have HC := Lib.hid hc
  obtain ⟨Au, cu, rfl, hum, -⟩ := hu.open_
  obtain ⟨m, hm⟩ : ∃ m, s.need.length = m := ⟨_, rfl⟩
  obtain ⟨n, hn⟩ : ∃ m, l.length = m := ⟨_, rfl⟩
  have hm20 : m ≤ 20 := by have := hs.weeks.2; omega
  have HM := Lib.hid hm
  have Hn := Lib.hid hn
  have HXI : Hid (∀ k, k < l.length → 0 ≤ l.getD k 0 ∧ l.getD k 0 < s.need.length) := fun k hk => by
    have := hx (l.getD k 0) (by
      rw [List.getD_eq_getElem?_getD, List.getElem?_eq_getElem hk, Option.getD_some]
      exact List.getElem_mem _)
    exact this
  rw [hm] at hnm hom ⊢
  rw [hn] at hum hl ⊢
  clear hN hO hm hn hs hc hx hsc hcap hu
  have F0 : ∃ W0, ((w.alloc (.cells #[.slice An m cn, .slice Ao m co, .int .i64 s.keep, .int .i64 s.room] 33)).alloc (.cells #[.int .i64 0] 3)).alloc (.cells #[.int .i64 0] 38) = W0 ∧ Hid (Below w.heap.size w W0 ∧ Blk W0 w.heap.size 33 #[.slice An m cn, .slice Ao m co, .int .i64 s.keep, .int .i64 s.room] ∧ Blk W0 (w.heap.size + 1) 3 #[.int .i64 0] ∧ Blk W0 (w.heap.size + 1 + 1) 38 #[.int .i64 0]) := by
    have b1 := below_alloc w (.cells #[.slice An m cn, .slice Ao m co, .int .i64 s.keep, .int .i64 s.room] 33)
    have k1 := Blk.new w 33 #[.slice An m cn, .slice Ao m co, .int .i64 s.keep, .int .i64 s.room]
    obtain ⟨V1, e1⟩ : ∃ V, w.alloc (.cells #[.slice An m cn, .slice Ao m co, .int .i64 s.keep, .int .i64 s.room] 33) = V := ⟨_, rfl⟩
    rw [e1] at b1 k1 ⊢
    have z1 : V1.heap.size = w.heap.size + 1 := by rw [← e1]; simp
    have b3 := below_alloc V1 (.cells #[.int .i64 0] 3)
    have k3 := Blk.new V1 3 #[.int .i64 0]
    obtain ⟨V3, e3⟩ : ∃ V, V1.alloc (.cells #[.int .i64 0] 3) = V := ⟨_, rfl⟩
    rw [e3] at b3 k3 ⊢
    have z3 : V3.heap.size = w.heap.size + 1 + 1 := by rw [← e3]; simp [z1]
    have b4 := below_alloc V3 (.cells #[.int .i64 0] 38)
    have k4 := Blk.new V3 38 #[.int .i64 0]
    refine ⟨_, rfl, b1.trans ((b3.trans (b4.mono b3.size)).mono b1.size), ?_, ?_, ?_⟩
    · exact (k1.below b3 k1.lt).below b4 (k1.below b3 k1.lt).lt
    · rw [← z1]; exact k3.below b4 k3.lt
    · rw [← z3]; exact k4
  obtain ⟨W0, e0, h0⟩ := F0
  have E0 := Lib.hid e0
  have CC := Lib.hid (CheckSupply_any s _ W0 ((HSUP.out.below h0.out.1).more h0.out.1.size))
  rw [HC.out, HM.out] at CC
  clear e0
  have S := h0.out.2.1
  have s0 := cellOf S 0 (x := .slice An m cn) rfl
  have s1 := cellOf S 1 (x := .slice Ao m co) rfl
  have s2 := cellOf S 2 (x := .int .i64 s.keep) rfl
  have s3 := cellOf S 3 (x := .int .i64 s.room) rfl
  clear S
  refine (callsIn_wide (n := 10)).1 ?_
  refine callsIn_of_wp_marks Try.func36 rfl trivial ?_ rfl
  simp only [Try.ntmps36, List.size_toArray, List.length_cons, List.length_nil, Nat.reduceAdd, Nat.reduceSub, Array.replicate_succ, Array.replicate_zero, List.push_toArray, List.append_toArray, List.nil_append, List.cons_append]
  refine wpIn_wide.2 ?_
  go_upto_region 1 with fail
  rw [E0.out]
  clear E0
  go_wp2_with fail
  refine CC.out.mono ?_
  rintro _ W1 ⟨rfl, hb1⟩
  have h1 : Hid (Below w.heap.size w W1 ∧ Blk W1 w.heap.size 33 #[.slice An m cn, .slice Ao m co, .int .i64 s.keep, .int .i64 s.room] ∧ Blk W1 (w.heap.size + 1) 3 #[.int .i64 0] ∧ Blk W1 (w.heap.size + 1 + 1) 38 #[.int .i64 0]) := ⟨h0.out.1.trans (hb1.mono h0.out.1.size), h0.out.2.1.below hb1 h0.out.2.1.lt, h0.out.2.2.1.below hb1 h0.out.2.2.1.lt, h0.out.2.2.2.below hb1 h0.out.2.2.2.lt⟩
  have CA := Lib.hid (isSchedule_any s l _ _ W1 ((HSUP.out.below h1.out.1).more h1.out.1.size) (by rw [HM.out]; exact hm20) ((HU.out.below h1.out.1).more h1.out.1.size) (by rw [Hn.out]; omega) HCAP.out (fun k hk => by have := HXI.out k hk; have := HM.out; omega))
  rw [HSC.out, HM.out, Hn.out] at CA
  clear CC hb1 h0 s0 s1 s2 s3
  have S := h1.out.2.1
  have s0 := cellOf S 0 (x := .slice An m cn) rfl
  have s1 := cellOf S 1 (x := .slice Ao m co) rfl
  have s2 := cellOf S 2 (x := .int .i64 s.keep) rfl
  have s3 := cellOf S 3 (x := .int .i64 s.room) rfl
  clear S
  go_wp2_with fail
  refine CA.out.mono ?_
  rintro _ W2 ⟨rfl, hb2⟩
  have h2 : Hid (Below w.heap.size w W2 ∧ Blk W2 w.heap.size 33 #[.slice An m cn, .slice Ao m co, .int .i64 s.keep, .int .i64 s.room] ∧ Blk W2 (w.heap.size + 1) 3 #[.int .i64 0] ∧ Blk W2 (w.heap.size + 1 + 1) 38 #[.int .i64 0]) := ⟨h1.out.1.trans (hb2.mono h1.out.1.size), h1.out.2.1.below hb2 h1.out.2.1.lt, h1.out.2.2.1.below hb2 h1.out.2.2.1.lt, h1.out.2.2.2.below hb2 h1.out.2.2.2.lt⟩
  clear CA hb2 h1 s0 s1 s2 s3
  have S := h2.out.2.1
  have s0 := cellOf S 0 (x := .slice An m cn) rfl
  have s1 := cellOf S 1 (x := .slice Ao m co) rfl
  have s2 := cellOf S 2 (x := .int .i64 s.keep) rfl
  have s3 := cellOf S 3 (x := .int .i64 s.room) rfl
  clear S
  go_upto_region 6 with fail
  go_cut [7, 8] from 22 to 24 (fun s7 s8 wx => ∃ B7 B8, s7 = .pointer (some ⟨B7, 0, none⟩) ∧ s8 = .pointer (some ⟨B8, 0, none⟩) ∧ Hid (CoSt w s An Ao cn co B7 B8 0 0 0 m wx))
  case first =>
    have hz0 : w.heap.size < W2.heap.size := by have := h2.out.2.2.2.lt; omega
    clear s1 s2 s3
    go_region_held3 (fun X => X.cell? ⟨w.heap.size, 0, none⟩ = some (.slice An m cn)) (first | exact s0 | go_keep) (fail)
    all_goals
      go_wp2_with fail
    all_goals
      go_meet
      first
        | exact ⟨_, _, rfl, rfl, (co_start HM.out h2).1⟩
        | exact ⟨_, _, rfl, rfl, (co_start HM.out h2).2⟩
  case rest =>
  obtain ⟨B7, B8, rfl, rfl, hst⟩ := hcut
  obtain ⟨W3, rfl⟩ : ∃ X, X = wc := ⟨_, rfl⟩
  clear h2 s0 s1 s2 s3
  go_wp2_with fail
  refine (backward_any Au n cu _).mono ?_
  rintro _ W4 ⟨rfl, hW4⟩
  obtain ⟨hb4, hK4⟩ := hW4.out
  have h7 := hst.out.b7.lt
  have h8 := hst.out.b8.lt
  have hz3 := hst.out.below_.size
  have HS4 := Lib.hid (hst.out.below hb4)
  obtain ⟨SW, hSW⟩ : ∃ b, W3.heap.size = b := ⟨_, rfl⟩
  rw [hSW] at hK4 h7 h8 hz3
  have HKs := Lib.hid hK4
  have hnW : w.heap.size ≤ W4.heap.size := HS4.out.below_.size
  have hseq := backward_stops 9 (by omega) l (by rw [Hn.out]; omega) Au cu SW w.heap.size W4 (by rw [Hn.out]; exact hK4) hnW (HU.out.below HS4.out.below_)
  have hI0 : CoI w s An Ao cn co B7 B8 SW (.slice Au n cu) l [] W4 := ⟨by rw [show vals l [] = [] from rfl]; show CoSt w s An Ao cn co B7 B8 0 0 0 s.need.length W4; rw [HM.out]; exact HS4.out, rfl, HKs.out⟩
  clear hW4 hb4 hK4 hst
  rw [hSW]
  clear hSW
  go_wp2_with fail
  refine (wpIn_wide (n := 10)).1 ?_
  refine wpIn_rangeFunc_ownF rfl (by omega) (gf := 133) (lb := #[.pointer (some ⟨SW, 0, none⟩)]) rfl trivial (enters_of Try.func133 (by kernel_rfl) rfl)
    hseq KpB.trans (KpB.putObj hnW HKs.out.lt HKs.out.lt) (Below.refl _ _) (fun _ => rfl)
    (CoI w s An Ao cn co B7 B8 SW (.slice Au n cu) l) (fun c pre Y => c = .ret ∧ CoX w s An Ao cn co B7 B8 l pre Y)
    (fun _ A B row hs hg hr => ⟨hs.1.grow hg hr hnW, hs.2.1, blk_grown hs.2.2 hg hr⟩) (fun _ _ A B row hs hg hr => ⟨hs.1, (by obtain ⟨sm, en, h9⟩ := hs.2.1; exact ⟨sm, en, h9.grow hg hr hnW⟩), hs.2.2⟩) hI0
    (fun y : Ix l => { tmps := #[(.agg #[.slice An m cn, .slice Ao m co, .int .i64 s.keep, .int .i64 s.room]), (.slice Au n cu), (.pointer (some ⟨w.heap.size, 0, none⟩)), undef, (.pointer (some ⟨w.heap.size + 1, 0, none⟩)), (.pointer (some ⟨w.heap.size + 1 + 1, 0, none⟩)), (.int .i64 0), (.pointer (some ⟨B7, 0, none⟩)), (.pointer (some ⟨B8, 0, none⟩)), undef, (.int .i64 (l.getD y.1 0)), undef, undef, (.agg #[.slice An m cn, .slice Ao m co, .int .i64 s.keep, .int .i64 s.room]), (.int .i64 0), (.int .i64 0), (.bool false), undef, (.agg #[.slice An m cn, .slice Ao m co, .int .i64 s.keep, .int .i64 s.room]), (.slice Au n cu), (.bool true), (.bool false), u22, u23, u24, (.slice Au n cu), (.func (.func 133) #[] #[.pointer (some ⟨SW, 0, none⟩)]), (.int .i64 (y.1 : Int)), (.int .i64 (l.getD y.1 0)), undef, undef, undef, undef, undef, undef, undef, undef, undef, undef, undef, undef, undef, undef], defers := [] }) ?assign ?body ?done ?stop
  case assign =>
    intro l y Y K hK
    gi_wp2
    exact hK
  case body =>
    rintro lo pre ⟨j, hj⟩ Y ⟨hst9, hfl, hbx⟩ hlen
    have HBX := Lib.hid hbx
    clear hbx
    obtain ⟨hx0, hx1⟩ := HXI.out j hj
    obtain ⟨a, ha⟩ : ∃ a : Nat, l.getD j 0 = (a : Int) := ⟨(l.getD j 0).toNat, by omega⟩
    have hcb := cF_bound HS.out (l := vals l pre) (fun x hx => by
      unfold vals at hx
      obtain ⟨z, hz, rfl⟩ := List.mem_map.1 (List.mem_reverse.1 hx)
      exact HXI.out z.1 z.2)
    rw [vals_len] at hcb
    have hNX : cF s s.need.length (vals l (pre ++ [(⟨j, hj⟩ : Ix l)])) = ((cF s s.need.length (vals l pre)).1 && okE s a (cF s s.need.length (vals l pre)).2.2, (cF s s.need.length (vals l pre)).2.1 + costE s a (cF s s.need.length (vals l pre)).2.2, a) := by
      rw [vals_snoc]
      show (_, _, _) = _
      rw [ha, Int.toNat_natCast]
    obtain ⟨⟨f, sm, en⟩, hcf⟩ : ∃ r, cF s s.need.length (vals l pre) = r := ⟨_, rfl⟩
    rw [hcf] at hst9 hfl hcb hNX
    simp only at hst9 hfl hcb hNX
    subst hfl
    rw [Bool.true_and] at hNX
    rw [HM.out] at hcb hx1
    obtain ⟨⟨hc1, hc2⟩, hc3⟩ := hcb
    have ham : a < m := by omega
    have hCb := HS.out.costE_all (a := a) (e := en) (by rw [HM.out]; exact ham) (by rw [HM.out]; exact hc3)
    have CB := batch_all s HS.out a en (by rw [HM.out]; exact ham) (by rw [HM.out]; exact hc3) _ Y ((HSUP.out.below hst9.below_).more hst9.below_.size)
    rw [HM.out] at CB
    obtain ⟨C, hC⟩ : ∃ C, costE s a en = C := ⟨_, rfl⟩
    obtain ⟨ok, hok⟩ : ∃ C, okE s a en = C := ⟨_, rfl⟩
    rw [hC, hok] at CB hNX
    rw [hC] at hCb
    have HNX := Lib.hid hNX
    have CB := Lib.hid CB
    have hln : pre.length ≤ 20 := by have := Hn.out; omega
    have kw : IntKind.i64.wrap (sm + C) = sm + C := IntWalk.i64_in _ ⟨by omega, by omega⟩
    have HST := Lib.hid hst9
    have S := hst9.sup
    rw [HM.out] at S
    have s0 := cellOf S 0 (x := .slice An m cn) rfl
    have s1 := cellOf S 1 (x := .slice Ao m co) rfl
    have s2 := cellOf S 2 (x := .int .i64 s.keep) rfl
    have s3 := cellOf S 3 (x := .int .i64 s.room) rfl
    have d8 := cellOf hst9.b8 0 (x := .int .i64 (en : Int)) rfl
    clear S hst9 hNX hC hok hI0 hseq hcf hx0 hx1 hlen
    try dsimp only
    rw [ha]
    clear ha
    gi_wp2_with fail
    refine ⟨trivial, (CallsIn.inRound lo (callsIn_wide.2 CB.out)).mono ?_⟩
    rintro _ Z ⟨rfl, hbz⟩
    have HSZ := Lib.hid (HST.out.below hbz)
    have HBZ := Lib.hid hbz
    have d4 := cellOf HSZ.out.r4 0 (x := .int .i64 0) rfl
    have d5 := cellOf HSZ.out.r5 0 (x := .int .i64 0) rfl
    have d7 := cellOf HSZ.out.b7 0 (x := .int .i64 sm) rfl
    have d8 := cellOf HSZ.out.b8 0 (x := .int .i64 (en : Int)) rfl
    have f4 := HSZ.out.r4.frozen 0
    have f5 := HSZ.out.r5.frozen 0
    have f7 := HSZ.out.b7.frozen 0
    have f8 := HSZ.out.b8.frozen 0
    have n78 : B7 ≠ B8 := HSZ.out.ne.2.2
    clear s0 s1 s2 s3 hbz CB
    have HSWZ : Hid (((Z.setCell ⟨B7, 0, none⟩ (.int .i64 (sm + C))).setCell ⟨B8, 0, none⟩ (.int .i64 (a : Int))).heap[SW]? = Y.heap[SW]?) :=
      (Below.heap_setCell _ ⟨B8, 0, none⟩ _ SW (by show SW ≠ B8; omega)).trans ((Below.heap_setCell Z ⟨B7, 0, none⟩ _ SW (by show SW ≠ B7; omega)).trans (HBZ.out.block SW HBX.out.lt))
    cases ok
    · have HFin : Hid (KeepsOthers Y ((Z.setCell ⟨w.heap.size + 1, 0, none⟩ (.int .i64 0)).setCell ⟨w.heap.size + 1 + 1, 0, none⟩ (.int .i64 9)) ∧ CoX w s An Ao cn co B7 B8 l (pre ++ [(⟨j, hj⟩ : Ix l)]) ((Z.setCell ⟨w.heap.size + 1, 0, none⟩ (.int .i64 0)).setCell ⟨w.heap.size + 1 + 1, 0, none⟩ (.int .i64 9))) :=
        ⟨((KeepsOthers.of_below HBZ.out).trans (KeepsOthers.setCell _ _ _)).trans (KeepsOthers.setCell _ _ _), ⟨_, _, HSZ.out.put45 0 9⟩, by rw [HNX.out]⟩
      gi_wp2_with fail
      exact ⟨HFin.out.1, rfl, HFin.out.2⟩
    · have HFin : Hid (KeepsOthers Y ((Z.setCell ⟨B7, 0, none⟩ (.int .i64 (sm + C))).setCell ⟨B8, 0, none⟩ (.int .i64 (a : Int))) ∧ KpB w.heap.size SW SW Y ((Z.setCell ⟨B7, 0, none⟩ (.int .i64 (sm + C))).setCell ⟨B8, 0, none⟩ (.int .i64 (a : Int))) ∧ CoI w s An Ao cn co B7 B8 SW (.slice Au n cu) l (pre ++ [(⟨j, hj⟩ : Ix l)]) ((Z.setCell ⟨B7, 0, none⟩ (.int .i64 (sm + C))).setCell ⟨B8, 0, none⟩ (.int .i64 (a : Int)))) := by
        refine ⟨((KeepsOthers.of_below HBZ.out).trans (KeepsOthers.setCell _ _ _)).trans (KeepsOthers.setCell _ _ _), ?_, ?_⟩
        · have q1 := ((KeptBut.setCell (S := fun k => k = B7 ∨ k = B8) (p := ⟨B7, 0, none⟩) (.inl rfl) (.int .i64 (sm + C))).trans (KeptBut.setCell (S := fun k => k = B7 ∨ k = B8) (p := ⟨B8, 0, none⟩) (.inr rfl) (.int .i64 (a : Int))) fun _ _ h => h).below (B := w.heap.size) (fun k hk => by have := HSZ.out.ne; omega) HSZ.out.below_.size
          exact ⟨(HBZ.out.mono HST.out.below_.size).trans q1, HSWZ.out, HSWZ.out⟩
        · refine ⟨?_, by rw [HNX.out], HSWZ.out.trans HBX.out⟩
          rw [HNX.out]
          exact HSZ.out.put78 (sm + C) a
      gi_wp2_with fail
      exact HFin.out
  case done =>
    rintro D ys Y hD rfl ⟨hst9, hfl, -⟩ hK
    rw [vals_all] at hst9 hfl
    obtain ⟨⟨f, sm, en⟩, hcf⟩ : ∃ r, cF s s.need.length l = r := ⟨_, rfl⟩
    rw [hcf] at hst9 hfl
    simp only at hst9 hfl
    subst hfl
    have HCF := Lib.hid hcf
    have HX9 := Lib.hid hst9
    have HPT := Lib.hid (hst9.put45 sm 0)
    have HKD := Lib.hid hK
    have HDw : Hid (w.heap.size ≤ D) := Nat.le_trans hnW hD
    have d4 := cellOf hst9.r4 0 (x := .int .i64 0) rfl
    have d5 := cellOf hst9.r5 0 (x := .int .i64 0) rfl
    have d7 := cellOf hst9.b7 0 (x := .int .i64 sm) rfl
    have f4 := hst9.r4.frozen 0
    have f5 := hst9.r5.frozen 0
    clear hst9 hK hD hcf hI0 hseq
    go_wp2_with fail
    have HQ := HPT.out
    obtain ⟨X9, hX9⟩ : ∃ X9, ((Y.setCell ⟨w.heap.size + 1, 0, none⟩ (.int .i64 sm)).setCell ⟨w.heap.size + 1 + 1, 0, none⟩ (.int .i64 0)) = X9 := ⟨_, rfl⟩
    rw [hX9] at HQ
    rw [hX9]
    have hDs9 : X9.heap[D]? = some (.deferred (some [])) := by
      rw [← hX9]
      refine (Below.heap_setCell _ _ _ D ?_).trans ((Below.heap_setCell _ _ _ D ?_).trans HKD.out)
      · intro e
        have e' : D = w.heap.size + 1 + 1 := e
        subst e'
        have := HX9.out.r5.symm.trans HKD.out
        simp at this
      · intro e
        have e' : D = w.heap.size + 1 := e
        subst e'
        have := HX9.out.r4.symm.trans HKD.out
        simp at this
    refine leaves_marks [D] X9 (List.nodup_cons.2 ⟨List.not_mem_nil, List.nodup_nil⟩) (fun D' hD' => by rw [List.mem_singleton.1 hD']; exact hDs9) fun Z hZ => ?_
    have hk4 : Z.cell? ⟨w.heap.size + 1, 0, none⟩ = some (.int .i64 sm) := cellOf (hZ.blk HQ.r4 (fun e => by rw [← List.mem_singleton.1 e] at hDs9; have := HQ.r4.symm.trans hDs9; simp at this)) 0 rfl
    have hk5 : Z.cell? ⟨w.heap.size + 1 + 1, 0, none⟩ = some (.int .i64 0) := cellOf (hZ.blk HQ.r5 (fun e => by rw [← List.mem_singleton.1 e] at hDs9; have := HQ.r5.symm.trans hDs9; simp at this)) 0 rfl
    exact ⟨_, results_cost rfl rfl hk4 hk5, by rw [HCF.out]; rfl, HQ.below_.trans (hZ.below (fun k hk => by rw [List.mem_singleton.1 hk]; exact HDw.out) HQ.below_.size)⟩
  case stop =>
    rintro D c pre Y hD hpre ⟨rfl, ⟨sm, en, hst9⟩, hfl⟩ hK
    have HFL : Hid ((cF s s.need.length l).1 = false) := by
      show _ = _
      obtain ⟨t, ht⟩ := vals_pre hpre
      have := cF_suffix hfl t
      rw [← ht] at this
      exact this
    have HQ := Lib.hid hst9
    have HKD := Lib.hid hK
    have HDw : Hid (w.heap.size ≤ D) := Nat.le_trans hnW hD
    clear hst9 hK hD hI0 hseq hfl hpre
    refine wpIn_wide.2 ?_
    go_wp2_with fail
    refine leaves_marks [D] Y (List.nodup_cons.2 ⟨List.not_mem_nil, List.nodup_nil⟩) (fun D' hD' => by rw [List.mem_singleton.1 hD']; exact HKD.out) fun Z hZ => ?_
    have hk4 : Z.cell? ⟨w.heap.size + 1, 0, none⟩ = some (.int .i64 0) := cellOf (hZ.blk HQ.out.r4 (fun e => by have h9 := HKD.out; rw [← List.mem_singleton.1 e] at h9; have := HQ.out.r4.symm.trans h9; simp at this)) 0 rfl
    have hk5 : Z.cell? ⟨w.heap.size + 1 + 1, 0, none⟩ = some (.int .i64 9) := cellOf (hZ.blk HQ.out.r5 (fun e => by have h9 := HKD.out; rw [← List.mem_singleton.1 e] at h9; have := HQ.out.r5.symm.trans h9; simp at this)) 0 rfl
    exact ⟨_, results_cost rfl rfl hk4 hk5, by rw [HFL.out]; rfl, HQ.out.below_.trans (hZ.below (fun k hk => by rw [List.mem_singleton.1 hk]; exact HDw.out) HQ.out.below_.size)⟩
end Go.Proofs.Ytpkepacbondopaa
