/-
  Right.
-/
import Derived.Test.YtdbfhdncjblleaaZO
import Derived.Test.YtdbfhdncjblleaaZM
namespace Go.Proofs.Ytdbfhdncjblleaa
open Go.RowKit

theorem plate_spot {r : RunD} {s : SpotD} {m : Nat} {x : WebD} (hs : SpotOk r s m x) : ∃ (k : Nat) (p : PlateD), x.plates[k]? = some p ∧ (s.side * x.rows + s.row) * x.cols + s.col = (k : Int) ∧ plateI x s = k ∧ plateAt r.webs s = p ∧ k ≤ 1000 := by
  have h1 := hs.idx
  obtain ⟨p, hp⟩ : ∃ p, x.plates[plateI x s]? = some p := ⟨_, List.getElem?_eq_getElem h1.1⟩
  refine ⟨plateI x s, p, hp, h1.2.symm, rfl, ?_, ?_⟩
  · unfold plateAt
    rw [hs.web, Int.toNat_natCast, getD_of hs.there, getD_of hp]
  · have := plate_lt hs.side hs.rows hs.row hs.cols hs.col
    omega
theorem plate_any2 (v : Value) (r : RunD) (s : SpotD) (m : Nat) (x : WebD) (w : World) (h : RRun w.heap.size w v r) (hs : SpotOk r s m x) :
    Calls Try.prog 56 #[v, .agg #[.int .i64 s.web, .int .i64 s.side, .int .i64 s.row, .int .i64 s.col]] w fun e w' => e = .returned (.agg #[.int .i64 (plateAt r.webs s).page, .bool (plateAt r.webs s).up]) ∧ Below w.heap.size w w' := by
  obtain ⟨k, p, hp, hk, -, e, hk2⟩ := plate_spot hs
  have hl := plate_lt hs.side hs.rows hs.row hs.cols hs.col
  rw [e, hs.web]
  have hr := hs.row
  have hrs := hs.rows
  exact plate_any v r m m s.side s.row s.col x k p w h rfl hs.there hp hk ⟨by omega, by omega⟩ ⟨by omega, by rcases hs.side with e | e <;> rw [e] at hl ⊢ <;> omega⟩ ⟨by omega, by omega⟩ hk2

/-- The next entry of the map of places. -/
theorem wpList_next_spot {P : Program} (w : World) {ops : Array Oper} {rest : List Oper} {o : Oper} {a : Act} {Q : Exit → Act → World → Prop} (hg : o.guard = none) (it : Operand) (hop : o.op = Op.next it false) (b r : Nat) (l : List (SpotD × PlaceD)) (seen : Array Nat)
    (hit : a.eval it = .pointer (some ⟨r, 0, none⟩)) (hm : MapAt SpotD.val PlaceD.val w b l) (hi : IterAt w b r l.length seen)
    (hDone : (∀ i, i < l.length → seen.contains i = true) → wpList P ops Q rest (a.put o.dst (.tuple #[.bool false])) w)
    (hMore : ∀ (i : Nat) (sw ss sr sc pc ps pi : Int) (w' : World), l[i]? = some (⟨sw, ss, sr, sc⟩, ⟨pc, ps, pi⟩) → seen.contains i = false → MapAt SpotD.val PlaceD.val w' b l → IterAt w' b r l.length (seen.push i) → w.grownBy w' (some r) → w'.heap.size = w.heap.size →
      (Instr.entry (.pointer (some ⟨r, 0, none⟩))).run P w' = .ok (.tuple #[.agg #[.int .i64 sw, .int .i64 ss, .int .i64 sr, .int .i64 sc], .agg #[.int .i64 pc, .int .i64 ps, .int .i64 pi]]) w' →
      wpList P ops Q rest (a.put o.dst (.tuple #[.bool true, .agg #[.int .i64 sw, .int .i64 ss, .int .i64 sr, .int .i64 sc], .agg #[.int .i64 pc, .int .i64 ps, .int .i64 pi]])) w') :
    wpList P ops Q (o :: rest) a w :=
  wpList_next_iter w hg it hop b r l seen hit hm hi hDone fun i x w' hx hs h1 h2 h3 h4 h5 => hMore i x.1.web x.1.side x.1.row x.1.col x.2.copy x.2.sec x.2.idx w' hx hs h1 h2 h3 h4 h5

def okAt (r : RunD) (product : List (List Int)) (x : SpotD × PlaceD) : Bool := decide ((plateAt r.webs x.1).page = pageOf product x.2) && !(decide ((plateAt r.webs x.1).page ≠ 0) && (plateAt r.webs x.1).up)
def rightB (r : RunD) (product : List (List Int)) : Bool := (placesD r).all (okAt r product)
def rightV (r : RunD) (product : List (List Int)) : Value := if checkE r ≠ 0 then .tuple #[.bool false, .int .i64 (checkE r)] else if hasPagesB product = false then .tuple #[.bool false, .int .i64 6] else if hasSizesB r product = false then .tuple #[.bool false, .int .i64 0] else .tuple #[.bool (rightB r product), .int .i64 0]
theorem ret_eq {a b : Value} (h : b = a) : Ending.returned a = Ending.returned b := by rw [h]

set_option maxRecDepth 100000 in
set_option maxHeartbeats 4000000 in
theorem Right_any (v pv : Value) (r : RunD) (product : List (List Int)) (w : World) (h : RRun w.heap.size w v r) (hp : RIntss w.heap.size w pv product) :
    Calls Try.prog 31 #[v, pv] w fun e w' => e = .returned (rightV r product) ∧ Below w.heap.size w w' := by
  have hrun := Lib.hid h
  obtain ⟨A1, c1, A2, c2, A3, c3, rfl⟩ := h.shape
  have Hp := Lib.hid hp
  obtain ⟨Ap, cp, rfl, hlp, hAp⟩ := RAll.open_ hp
  have HAp := Lib.hid hAp
  clear h hp hAp
  have F0 : ∃ W0, (w.alloc (.cells #[.slice A1 r.webs.length c1, .slice A2 r.ribs.length c2, .slice A3 r.stacks.length c3, .bool r.coll] 36)).alloc (.cells #[.slice A1 r.webs.length c1, .slice A2 r.ribs.length c2, .slice A3 r.stacks.length c3, .bool r.coll] 111) = W0 ∧
      W0.heap.size = w.heap.size + 2 ∧ Below w.heap.size w W0 ∧ Blk W0 (w.heap.size + 1) 111 #[.slice A1 r.webs.length c1, .slice A2 r.ribs.length c2, .slice A3 r.stacks.length c3, .bool r.coll] := by
    refine ⟨_, rfl, by simp, ((Below.refl _ _).alloc (Nat.le_refl _) _).alloc (by simp) _, ?_⟩
    have := Blk.new (w.alloc (.cells #[.slice A1 r.webs.length c1, .slice A2 r.ribs.length c2, .slice A3 r.stacks.length c3, .bool r.coll] 36)) 111 #[.slice A1 r.webs.length c1, .slice A2 r.ribs.length c2, .slice A3 r.stacks.length c3, .bool r.coll]
    rw [World.size_alloc] at this
    exact this
  obtain ⟨W0, e0, z0, B0, V0⟩ := F0
  have E0 := Lib.hid e0
  have Z0 := Lib.hid z0
  clear e0 z0
  go_enter Try.func31, Try.ntmps31
  go_wp2_with fail
  rw [E0.out]
  refine (check_any _ r _ ((hrun.out.below B0).more B0.size)).mono ?_
  rintro e w3 ⟨rfl, hb3⟩
  have V3 := V0.below hb3 (by rw [Z0.out]; omega)
  have B3 : Below w.heap.size w w3 := B0.trans (hb3.mono B0.size)
  clear V0 B0 E0 hb3
  by_cases hck : checkE r = 0
  case neg =>
    have hck' : (checkE r != 0) = true := by simpa using hck
    have HR : Hid (rightV r product = .tuple #[.bool false, .int .i64 (checkE r)]) := by show rightV r product = _; unfold rightV; rw [if_pos hck]
    clear V3
    go_wp2
    refine bodyPost_ret (v := .tuple #[.bool false, .int .i64 (checkE r)]) (by simp [results, Try.results31, go_sem]) rfl ⟨ret_eq HR.out, B3⟩
  have Hok := Lib.hid hck
  rw [hck]
  clear hck
  have C1 := Lib.hid (hasPages_any _ product w3 ((Hp.out.below B3).more B3.size))
  cases hpg : hasPagesB product
  · rw [hpg] at C1
    have HR : Hid (rightV r product = .tuple #[.bool false, .int .i64 6]) := by show rightV r product = _; unfold rightV; rw [if_neg (by rw [Hok.out]; simp), if_pos hpg]
    clear V3 hpg
    go_wp2_with fail
    refine C1.out.mono ?_
    rintro e w' ⟨rfl, rfl⟩
    go_wp2
    refine bodyPost_ret (v := .tuple #[.bool false, .int .i64 6]) (by simp [results, Try.results31, go_sem]) rfl ⟨ret_eq HR.out, B3⟩
  rw [hpg] at C1
  have Hpg := Lib.hid hpg
  clear hpg
  have v0 := cellOf V3 0 (x := .slice A1 r.webs.length c1) rfl
  have v1 := cellOf V3 1 (x := .slice A2 r.ribs.length c2) rfl
  have v2 := cellOf V3 2 (x := .slice A3 r.stacks.length c3) rfl
  have v3 := cellOf V3 3 (x := .bool r.coll) rfl
  go_wp2_with fail
  refine C1.out.mono ?_
  rintro e w' ⟨rfl, rfl⟩
  have C2 := Lib.hid (hasSizes_any _ _ r product _ ((hrun.out.below B3).more B3.size) Hok.out ((Hp.out.below B3).more B3.size))
  cases hsz : hasSizesB r product
  · rw [hsz] at C2
    have HR : Hid (rightV r product = .tuple #[.bool false, .int .i64 0]) := by show rightV r product = _; unfold rightV; rw [if_neg (by rw [Hok.out]; simp), if_neg (by rw [Hpg.out]; simp), if_pos hsz]
    clear V3 hsz
    go_wp2_with fail
    refine C2.out.mono ?_
    rintro e w4 ⟨rfl, hb4⟩
    have B4 := B3.trans (hb4.mono B3.size)
    go_wp2
    refine bodyPost_ret (v := .tuple #[.bool false, .int .i64 0]) (by simp [results, Try.results31, go_sem]) rfl ⟨ret_eq HR.out, B4⟩
  rw [hsz] at C2
  have HR : Hid (rightV r product = .tuple #[.bool (rightB r product), .int .i64 0]) := by show rightV r product = _; unfold rightV; rw [if_neg (by rw [Hok.out]; simp), if_neg (by rw [Hpg.out]; simp), if_neg (by rw [hsz]; simp)]
  have Hsz := Lib.hid hsz
  clear hsz
  go_wp2_with fail
  refine C2.out.mono ?_
  rintro e w4 ⟨rfl, hb4⟩
  have V4 := V3.below hb4 V3.lt
  have B4 := B3.trans (hb4.mono B3.size)
  clear v0 v1 v2 v3 V3 C1 C2 hb4
  have v0 := cellOf V4 0 (x := .slice A1 r.webs.length c1) rfl
  have v1 := cellOf V4 1 (x := .slice A2 r.ribs.length c2) rfl
  have v2 := cellOf V4 2 (x := .slice A3 r.stacks.length c3) rfl
  have v3 := cellOf V4 3 (x := .bool r.coll) rfl
  go_wp2_with fail
  refine (places_any _ r w4 ((hrun.out.below B4).more B4.size) Hok.out (hnd_ok Hok.out)).mono ?_
  rintro e w5 ⟨b, rfl, hM5, hb, hb5⟩
  have V5 := V4.below hb5 V4.lt
  have B5 := B4.trans (hb5.mono B4.size)
  clear V4 v0 v1 v2 v3 hb5
  go_wp2_with (first | (at_range; refine wpList_range_iter _ rfl _ 129 rfl _ _ mapType b (placesD r) rfl hM5 ?_; intro w6 hM6 hI6 hg6 hs6) | go_in)
  go_frame
  have hB6 : Below w5.heap.size w5 w6 := (Below.refl _ _).grown hg6 (Nat.le_refl _) fun j hj => by cases hj
  clear hM6 hg6 hs6 Hpg hb
  go_loopw [28] (fun _ wr => ∃ seen : Array Nat, IterAt wr b w5.heap.size (placesD r).length seen ∧ Hid (∀ k x, seen.contains k = true → (placesD r)[k]? = some x → okAt r product x = true) ∧ Below w5.heap.size w5 wr) (fun _ wr => iterLeft (placesD r).length wr w5.heap.size)
  case atStart => exact ⟨_, hI6, fun k x hk => by simp at hk, hB6⟩
  case round =>
    clear hI6 hB6
    obtain ⟨seen, hI, hall, hB⟩ := hrel
    have hM := hM5.below hB
    have HI := Lib.hid hI
    go_wp2_with (first | (at_next; refine wpList_next_spot _ rfl _ rfl b w5.heap.size (placesD r) seen rfl hM hI ?_ ?_) | go_in)
    · intro hdone
      have HB : Hid (rightB r product = true) := by
        show rightB r product = true
        unfold rightB
        rw [List.all_eq_true]
        intro x hx
        obtain ⟨k, hk, rfl⟩ := List.getElem_of_mem hx
        exact hall.out k _ (by simpa using hdone k hk) (List.getElem?_eq_getElem hk)
      have BF := B5.trans (hB.mono B5.size)
      clear hdone hM
      go_wp2
      refine bodyPost_ret (v := .tuple #[.bool true, .int .i64 0]) (by simp [results, Try.results31, go_sem]) rfl ⟨ret_eq (by rw [HR.out, HB.out]), BF⟩
    · intro i sw ss sr sc pc ps pi w7 hx hs hM7 hI7 hg7 hsz7 hen
      have hmem := List.mem_of_getElem? hx
      obtain ⟨m, xw, hso⟩ := spot_ok Hok.out (place_all hmem)
      obtain ⟨c, k, i2, sec, page, hpe, hsec, hpage, hpo⟩ := place_in Hok.out Hsz.out hmem
      obtain ⟨g, o, u, rfl, hgb, hc1, hp2⟩ := HAp.out k sec hsec
      obtain ⟨A6, c6, rfl, hA6, hA7⟩ := RInts.open_ hp2
      have hi2 := (List.getElem?_eq_some_iff.1 hpage).1
      obtain ⟨g2, o2, y, rfl, hgb2, hc2, hy⟩ := hA7 i2 hi2
      have hyp : y = page := by
        have h1 := hy.out
        rw [List.getD_eq_getElem?_getD, hpage] at h1
        simpa using h1.symm
      subst hyp
      have HX := Lib.hid hx
      have HSO := Lib.hid hso
      have HPO := Lib.hid hpo
      simp only [PlaceD.mk.injEq] at hpe
      obtain ⟨rfl, rfl, rfl⟩ := hpe
      have k1 : (k : Int) < (product.length : Int) := by have := (List.getElem?_eq_some_iff.1 hsec).1; omega
      have k2 : (i2 : Int) < (sec.length : Int) := by omega
      have B7 : Below w5.heap.size w5 w7 := hB.grown hg7 hB.size fun j hj => by cases hj; exact Nat.le_refl _
      have B70 := B5.trans (B7.mono B5.size)
      have V7 := V5.below B7 V5.lt
      have hd1 := (B70.cell (p := ⟨g, o + k, none⟩) hgb).trans hc1
      have hd2 := (B70.cell (p := ⟨g2, o2 + i2, none⟩) hgb2).trans hc2
      obtain ⟨pg, up, hpl⟩ : ∃ pg up, plateAt r.webs ⟨sw, ss, sr, sc⟩ = ⟨pg, up⟩ := ⟨_, _, rfl⟩
      have hcall : ∀ X, Below w7.heap.size w7 X → Calls Try.prog 56 #[.agg #[.slice A1 r.webs.length c1, .slice A2 r.ribs.length c2, .slice A3 r.stacks.length c3, .bool r.coll], .agg #[.int .i64 sw, .int .i64 ss, .int .i64 sr, .int .i64 sc]] X fun e w' => e = .returned (.agg #[.int .i64 pg, .bool up]) ∧ Below X.heap.size X w' :=
        fun X hX => by
          have := plate_any2 _ r ⟨sw, ss, sr, sc⟩ m xw X ((hrun.out.below (B70.trans (hX.mono B70.size))).more (Nat.le_trans B70.size hX.size)) HSO.out
          rw [hpl] at this
          exact this
      have HOK : Hid (okAt r product (⟨sw, ss, sr, sc⟩, ⟨c, k, i2⟩) = (decide (pg = y) && !(decide (pg ≠ 0) && up))) := by
        show okAt r product (⟨sw, ss, sr, sc⟩, ⟨c, k, i2⟩) = _
        unfold okAt
        rw [hpl, HPO.out]
      have HC := Lib.hid hcall
      have F8 : ∃ W8, (w7.alloc (.cells #[.int .i64 sw, .int .i64 ss, .int .i64 sr, .int .i64 sc] 53)).alloc (.cells #[.int .i64 c, .int .i64 k, .int .i64 i2] 56) = W8 ∧ W8.heap.size = w7.heap.size + 2 ∧ Below w7.heap.size w7 W8 ∧
          Blk W8 w7.heap.size 53 #[.int .i64 sw, .int .i64 ss, .int .i64 sr, .int .i64 sc] ∧ Blk W8 (w7.heap.size + 1) 56 #[.int .i64 c, .int .i64 k, .int .i64 i2] := by
        refine ⟨_, rfl, by simp, ((Below.refl _ _).alloc (Nat.le_refl _) _).alloc (by simp) _, (Blk.new _ _ _).alloc _, ?_⟩
        have := Blk.new (w7.alloc (.cells #[.int .i64 sw, .int .i64 ss, .int .i64 sr, .int .i64 sc] 53)) 56 #[.int .i64 c, .int .i64 k, .int .i64 i2]
        rw [World.size_alloc] at this
        exact this
      obtain ⟨W8, e8, z8, B8, S8, P8⟩ := F8
      have E8 := Lib.hid e8
      have V8 := V7.below B8 V7.lt
      have v0 := cellOf V8 0 (x := .slice A1 r.webs.length c1) rfl
      have v1 := cellOf V8 1 (x := .slice A2 r.ribs.length c2) rfl
      have v2 := cellOf V8 2 (x := .slice A3 r.stacks.length c3) rfl
      have v3 := cellOf V8 3 (x := .bool r.coll) rfl
      have q0 := cellOf S8 0 (x := .int .i64 sw) rfl
      have q1 := cellOf S8 1 (x := .int .i64 ss) rfl
      have q2 := cellOf S8 2 (x := .int .i64 sr) rfl
      have q3 := cellOf S8 3 (x := .int .i64 sc) rfl
      clear hsz7 hx hso hpo hmem hc1 hc2 hp2 hA7 hA6 hcall hM hI hg7 hB V7 hy hsec hpage hi2 HAp e8 V8
      go_upto_region 12 with fail
      rw [E8.out]
      go_wp2_with fail
      refine (HC.out W8 B8).mono ?_
      rintro e w9 ⟨rfl, hb9⟩
      have B79 := B8.trans (hb9.mono (by omega))
      have P9 := P8.below hb9 P8.lt
      have j1 := cellOf P9 1 (x := .int .i64 k) rfl
      have j2 := cellOf P9 2 (x := .int .i64 i2) rfl
      have n2 : g < w7.heap.size := Nat.lt_of_lt_of_le hgb B70.size
      have n3 : g2 < w7.heap.size := Nat.lt_of_lt_of_le hgb2 B70.size
      have hd1 := (B79.cell (p := ⟨g, o + k, none⟩) n2).trans hd1
      have hd2 := (B79.cell (p := ⟨g2, o2 + i2, none⟩) n3).trans hd2
      clear v0 v1 v2 v3 q0 q1 q2 q3 P8 S8 hb9
      have hbad : okAt r product (⟨sw, ss, sr, sc⟩, ⟨c, k, i2⟩) = false → rightB r product = false := fun h => by
        unfold rightB
        exact all_not HX.out h
      have HBad := Lib.hid hbad
      have B9 : Below w.heap.size w w9 := B70.trans (B79.mono B70.size)
      have n4 : w7.heap.size + 1 < w9.heap.size := P9.lt
      have n5 : g < w9.heap.size := Nat.lt_of_lt_of_le n2 B79.size
      have n6 : g2 < w9.heap.size := Nat.lt_of_lt_of_le n3 B79.size
      clear hbad hpl
      have B10 := Lib.hid (B9.alloc B9.size (.cells #[.int .i64 pg, .bool up] 89))
      have hten : ∀ nq, IterAt ((w9.alloc (.cells #[.int .i64 pg, .bool up] 89)).drewN nq) b w5.heap.size (placesD r).length (seen.push i) ∧ Below w5.heap.size w5 ((w9.alloc (.cells #[.int .i64 pg, .bool up] 89)).drewN nq) ∧
          iterLeft (placesD r).length ((w9.alloc (.cells #[.int .i64 pg, .bool up] 89)).drewN nq) w5.heap.size < iterLeft (placesD r).length wr w5.heap.size := fun nq => by
        have hb10 := below_drewN (B79.alloc B79.size (.cells #[.int .i64 pg, .bool up] 89)) nq
        have h10 := hI7.below hb10
        exact ⟨h10, B7.trans (hb10.mono B7.size), iterLeft_lt HI.out h10 (List.getElem?_eq_some_iff.1 HX.out).1 (by simpa using hs)⟩
      have HTen := Lib.hid hten
      have hnext : okAt r product (⟨sw, ss, sr, sc⟩, ⟨c, k, i2⟩) = true → ∀ k' x, (seen.push i).contains k' = true → (placesD r)[k']? = some x → okAt r product x = true := fun h k' x hk' hx' => by
        rw [contains_push, Bool.or_eq_true] at hk'
        rcases hk' with hk' | hk'
        · exact hall.out k' x hk' hx'
        · rw [beq_iff_eq] at hk'
          subst hk'
          have := HX.out.symm.trans hx'
          injection this with this
          rw [← this]; exact h
      have HNext := Lib.hid hnext
      clear hten hnext hI7 B7 B70 hM7 B79
      by_cases e1 : pg = y
      case neg =>
        have e1' : (pg != y) = true := by simpa using e1
        have HN := Lib.hid (HBad.out (by rw [HOK.out, decide_eq_false e1]; rfl))
        have HV : Hid (rightV r product = .tuple #[.bool false, .int .i64 0]) := by show rightV r product = _; rw [HR.out, HN.out]
        clear e1
        go_upto_region 13 with fail
        go_quiet (fail)
        go_wp2
        refine bodyPost_ret (v := .tuple #[.bool false, .int .i64 0]) (by simp [results, Try.results31, go_sem]) rfl ⟨ret_eq HV.out, ?_⟩
        exact below_drewN B10.out _
      have e1' : (pg != y) = false := by simpa using e1
      by_cases e2 : pg = 0
      · have e2' : (pg != 0) = false := by simpa using e2
        have HN := Lib.hid (HNext.out (by rw [HOK.out, decide_eq_true e1, decide_eq_false (fun h => h e2)]; rfl))
        clear e1 e2
        go_upto_region 13 with fail
        go_quiet (fail)
        have h10 := HTen.out nq
        go_wp2
        go_roundw
        case rel => exact ⟨_, h10.1, HN.out, h10.2.1⟩
        case measure => exact h10.2.2
      have e2' : (pg != 0) = true := by simpa using e2
      cases up
      · have HN := Lib.hid (HNext.out (by rw [HOK.out, decide_eq_true e1, Bool.and_false]; rfl))
        clear e1 e2
        go_upto_region 13 with fail
        go_quiet (fail)
        have h10 := HTen.out nq
        go_wp2
        go_roundw
        case rel => exact ⟨_, h10.1, HN.out, h10.2.1⟩
        case measure => exact h10.2.2
      · have HN := Lib.hid (HBad.out (by rw [HOK.out, decide_eq_true e2, Bool.and_true, Bool.not_true, Bool.and_false]))
        have HV : Hid (rightV r product = .tuple #[.bool false, .int .i64 0]) := by show rightV r product = _; rw [HR.out, HN.out]
        clear e1 e2
        go_upto_region 13 with fail
        go_quiet (fail)
        go_wp2
        refine bodyPost_ret (v := .tuple #[.bool false, .int .i64 0]) (by simp [results, Try.results31, go_sem]) rfl ⟨ret_eq HV.out, ?_⟩
        exact below_drewN B10.out _
end Go.Proofs.Ytdbfhdncjblleaa
