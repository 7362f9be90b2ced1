/-
  Right.
  A plate stored into a run of one's own; what Fill leaves.
  Fill.
-/
import Derived.Test.YtdbfhdncjblleaaKj
import Derived.Test.YtdbfhdncjblleaaKi
namespace Go.Proofs.Ytdbfhdncjblleaa
open Go.RowKit

theorem plate_spot {r : RunD} {s : SpotD} {m : Nat} {x : WebD} (hs : SpotOk r s m x) : ∃ (k : Nat) (p : PlateD), x.plates[k]? = some p ∧ (s.side * x.rows + s.row) * x.cols + s.col = (k : Int) ∧ plateI x s = k ∧ plateAt r.webs s = p ∧ k ≤ 1000 := by
  have h1 := hs.idx
  obtain ⟨p, hp⟩ : ∃ p, x.plates[plateI x s]? = some p := ⟨_, List.getElem?_eq_getElem h1.1⟩
  refine ⟨plateI x s, p, hp, h1.2.symm, rfl, ?_, ?_⟩
  · unfold plateAt
    rw [hs.web, Int.toNat_natCast, getD_of hs.there, getD_of hp]
  · have := plate_lt hs.side hs.rows hs.row hs.cols hs.col
    omega
theorem plate_any2 (v : Value) (r : RunD) (s : SpotD) (m : Nat) (x : WebD) (w : World) (h : RRun w.heap.size w v r) (hs : SpotOk r s m x) :
    Calls Try.prog 56 #[v, .agg #[.int .i64 s.web, .int .i64 s.side, .int .i64 s.row, .int .i64 s.col]] w fun e w' => e = .returned (.agg #[.int .i64 (plateAt r.webs s).page, .bool (plateAt r.webs s).up]) ∧ Below w.heap.size w w' := by
  obtain ⟨k, p, hp, hk, -, e, hk2⟩ := plate_spot hs
  have hl := plate_lt hs.side hs.rows hs.row hs.cols hs.col
  rw [e, hs.web]
  have hr := hs.row
  have hrs := hs.rows
  exact plate_any v r m m s.side s.row s.col x k p w h rfl hs.there hp hk ⟨by omega, by omega⟩ ⟨by omega, by rcases hs.side with e | e <;> rw [e] at hl ⊢ <;> omega⟩ ⟨by omega, by omega⟩ hk2

/-- The next entry of the map of places. -/
theorem wpList_next_spot {P : Program} (w : World) {ops : Array Oper} {rest : List Oper} {o : Oper} {a : Act} {Q : Exit → Act → World → Prop} (hg : o.guard = none) (it : Operand) (hop : o.op = Op.next it false) (b r : Nat) (l : List (SpotD × PlaceD)) (seen : Array Nat)
    (hit : a.eval it = .pointer (some ⟨r, 0, none⟩)) (hm : MapAt SpotD.val PlaceD.val w b l) (hi : IterAt w b r l.length seen)
    (hDone : (∀ i, i < l.length → seen.contains i = true) → wpList P ops Q rest (a.put o.dst (.tuple #[.bool false])) w)
    (hMore : ∀ (i : Nat) (sw ss sr sc pc ps pi : Int) (w' : World), l[i]? = some (⟨sw, ss, sr, sc⟩, ⟨pc, ps, pi⟩) → seen.contains i = false → MapAt SpotD.val PlaceD.val w' b l → IterAt w' b r l.length (seen.push i) → w.grownBy w' (some r) → w'.heap.size = w.heap.size →
      (Instr.entry (.pointer (some ⟨r, 0, none⟩))).run P w' = .ok (.tuple #[.agg #[.int .i64 sw, .int .i64 ss, .int .i64 sr, .int .i64 sc], .agg #[.int .i64 pc, .int .i64 ps, .int .i64 pi]]) w' →
      wpList P ops Q rest (a.put o.dst (.tuple #[.bool true, .agg #[.int .i64 sw, .int .i64 ss, .int .i64 sr, .int .i64 sc], .agg #[.int .i64 pc, .int .i64 ps, .int .i64 pi]])) w') :
    wpList P ops Q (o :: rest) a w :=
  wpList_next_iter w hg it hop b r l seen hit hm hi hDone fun i x w' hx hs h1 h2 h3 h4 h5 => hMore i x.1.web x.1.side x.1.row x.1.col x.2.copy x.2.sec x.2.idx w' hx hs h1 h2 h3 h4 h5

def okAt (r : RunD) (product : List (List Int)) (x : SpotD × PlaceD) : Bool := decide ((plateAt r.webs x.1).page = pageOf product x.2) && !(decide ((plateAt r.webs x.1).page ≠ 0) && (plateAt r.webs x.1).up)
def rightB (r : RunD) (product : List (List Int)) : Bool := (placesD r).all (okAt r product)
def rightV (r : RunD) (product : List (List Int)) : Value := if checkE r ≠ 0 then .tuple #[.bool false, .int .i64 (checkE r)] else if hasPagesB product = false then .tuple #[.bool false, .int .i64 6] else if hasSizesB r product = false then .tuple #[.bool false, .int .i64 0] else .tuple #[.bool (rightB r product), .int .i64 0]
theorem ret_eq {a b : Value} (h : b = a) : Ending.returned a = Ending.returned b := by rw [h]

set_option maxRecDepth 100000 in
set_option maxHeartbeats 4000000 in
theorem Right_any (v pv : Value) (r : RunD) (product : List (List Int)) (w : World) (h : RRun w.heap.size w v r) (hp : RIntss w.heap.size w pv product) :
    Calls Try.prog 31 #[v, pv] w fun e w' => e = .returned (rightV r product) ∧ Below w.heap.size w w' := by
  have hrun := Lib.hid h
  obtain ⟨A1, c1, A2, c2, A3, c3, rfl⟩ := h.shape
  have Hp := Lib.hid hp
  obtain ⟨Ap, cp, rfl, hlp, hAp⟩ := RAll.open_ hp
  have HAp := Lib.hid hAp
  clear h hp hAp
  have F0 : ∃ W0, (w.alloc (.cells #[.slice A1 r.webs.length c1, .slice A2 r.ribs.length c2, .slice A3 r.stacks.length c3, .bool r.coll] 36)).alloc (.cells #[.slice A1 r.webs.length c1, .slice A2 r.ribs.length c2, .slice A3 r.stacks.length c3, .bool r.coll] 111) = W0 ∧
      W0.heap.size = w.heap.size + 2 ∧ Below w.heap.size w W0 ∧ Blk W0 (w.heap.size + 1) 111 #[.slice A1 r.webs.length c1, .slice A2 r.ribs.length c2, .slice A3 r.stacks.length c3, .bool r.coll] := by
    refine ⟨_, rfl, by simp, ((Below.refl _ _).alloc (Nat.le_refl _) _).alloc (by simp) _, ?_⟩
    have := Blk.new (w.alloc (.cells #[.slice A1 r.webs.length c1, .slice A2 r.ribs.length c2, .slice A3 r.stacks.length c3, .bool r.coll] 36)) 111 #[.slice A1 r.webs.length c1, .slice A2 r.ribs.length c2, .slice A3 r.stacks.length c3, .bool r.coll]
    rw [World.size_alloc] at this
    exact this
  obtain ⟨W0, e0, z0, B0, V0⟩ := F0
  have E0 := Lib.hid e0
  have Z0 := Lib.hid z0
  clear e0 z0
  go_enter Try.func31, Try.ntmps31
  go_wp2_with fail
  rw [E0.out]
  refine (check_any _ r _ ((hrun.out.below B0).more B0.size)).mono ?_
  rintro e w3 ⟨rfl, hb3⟩
  have V3 := V0.below hb3 (by rw [Z0.out]; omega)
  have B3 : Below w.heap.size w w3 := B0.trans (hb3.mono B0.size)
  clear V0 B0 E0 hb3
  by_cases hck : checkE r = 0
  case neg =>
    have hck' : (checkE r != 0) = true := by simpa using hck
    have HR : Hid (rightV r product = .tuple #[.bool false, .int .i64 (checkE r)]) := by show rightV r product = _; unfold rightV; rw [if_pos hck]
    clear V3
    go_wp2
    refine bodyPost_ret (v := .tuple #[.bool false, .int .i64 (checkE r)]) (by simp [results, Try.results31, go_sem]) rfl ⟨ret_eq HR.out, B3⟩
  have Hok := Lib.hid hck
  rw [hck]
  clear hck
  have C1 := Lib.hid (hasPages_any _ product w3 ((Hp.out.below B3).more B3.size))
  cases hpg : hasPagesB product
  · rw [hpg] at C1
    have HR : Hid (rightV r product = .tuple #[.bool false, .int .i64 6]) := by show rightV r product = _; unfold rightV; rw [if_neg (by rw [Hok.out]; simp), if_pos hpg]
    clear V3 hpg
    go_wp2_with fail
    refine C1.out.mono ?_
    rintro e w' ⟨rfl, rfl⟩
    go_wp2
    refine bodyPost_ret (v := .tuple #[.bool false, .int .i64 6]) (by simp [results, Try.results31, go_sem]) rfl ⟨ret_eq HR.out, B3⟩
  rw [hpg] at C1
  have Hpg := Lib.hid hpg
  clear hpg
  have v0 := cellOf V3 0 (x := .slice A1 r.webs.length c1) rfl
  have v1 := cellOf V3 1 (x := .slice A2 r.ribs.length c2) rfl
  have v2 := cellOf V3 2 (x := .slice A3 r.stacks.length c3) rfl
  have v3 := cellOf V3 3 (x := .bool r.coll) rfl
  go_wp2_with fail
  refine C1.out.mono ?_
  rintro e w' ⟨rfl, rfl⟩
  have C2 := Lib.hid (hasSizes_any _ _ r product _ ((hrun.out.below B3).more B3.size) Hok.out ((Hp.out.below B3).more B3.size))
  cases hsz : hasSizesB r product
  · rw [hsz] at C2
    have HR : Hid (rightV r product = .tuple #[.bool false, .int .i64 0]) := by show rightV r product = _; unfold rightV; rw [if_neg (by rw [Hok.out]; simp), if_neg (by rw [Hpg.out]; simp), if_pos hsz]
    clear V3 hsz
    go_wp2_with fail
    refine C2.out.mono ?_
    rintro e w4 ⟨rfl, hb4⟩
    have B4 := B3.trans (hb4.mono B3.size)
    go_wp2
    refine bodyPost_ret (v := .tuple #[.bool false, .int .i64 0]) (by simp [results, Try.results31, go_sem]) rfl ⟨ret_eq HR.out, B4⟩
  rw [hsz] at C2
  have HR : Hid (rightV r product = .tuple #[.bool (rightB r product), .int .i64 0]) := by show rightV r product = _; unfold rightV; rw [if_neg (by rw [Hok.out]; simp), if_neg (by rw [Hpg.out]; simp), if_neg (by rw [hsz]; simp)]
  have Hsz := Lib.hid hsz
  clear hsz
  go_wp2_with fail
  refine C2.out.mono ?_
  rintro e w4 ⟨rfl, hb4⟩
  have V4 := V3.below hb4 V3.lt
  have B4 := B3.trans (hb4.mono B3.size)
  clear v0 v1 v2 v3 V3 C1 C2 hb4
  have v0 := cellOf V4 0 (x := .slice A1 r.webs.length c1) rfl
  have v1 := cellOf V4 1 (x := .slice A2 r.ribs.length c2) rfl
  have v2 := cellOf V4 2 (x := .slice A3 r.stacks.length c3) rfl
  have v3 := cellOf V4 3 (x := .bool r.coll) rfl
  go_wp2_with fail
  refine (places_any _ r w4 ((hrun.out.below B4).more B4.size) Hok.out (hnd_ok Hok.out)).mono ?_
  rintro e w5 ⟨b, rfl, hM5, hb, hb5⟩
  have V5 := V4.below hb5 V4.lt
  have B5 := B4.trans (hb5.mono B4.size)
  clear V4 v0 v1 v2 v3 hb5
  go_wp2_with (first | (at_range; refine wpList_range_iter _ rfl _ 129 rfl _ _ mapType b (placesD r) rfl hM5 ?_; intro w6 hM6 hI6 hg6 hs6) | go_in)
  go_frame
  have hB6 : Below w5.heap.size w5 w6 := (Below.refl _ _).grown hg6 (Nat.le_refl _) fun j hj => by cases hj
  clear hM6 hg6 hs6 Hpg hb
  go_loopw [28] (fun _ wr => ∃ seen : Array Nat, IterAt wr b w5.heap.size (placesD r).length seen ∧ Hid (∀ k x, seen.contains k = true → (placesD r)[k]? = some x → okAt r product x = true) ∧ Below w5.heap.size w5 wr) (fun _ wr => iterLeft (placesD r).length wr w5.heap.size)
  case atStart => exact ⟨_, hI6, fun k x hk => by simp at hk, hB6⟩
  case round =>
    clear hI6 hB6
    obtain ⟨seen, hI, hall, hB⟩ := hrel
    have hM := hM5.below hB
    have HI := Lib.hid hI
    go_wp2_with (first | (at_next; refine wpList_next_spot _ rfl _ rfl b w5.heap.size (placesD r) seen rfl hM hI ?_ ?_) | go_in)
    · intro hdone
      have HB : Hid (rightB r product = true) := by
        show rightB r product = true
        unfold rightB
        rw [List.all_eq_true]
        intro x hx
        obtain ⟨k, hk, rfl⟩ := List.getElem_of_mem hx
        exact hall.out k _ (by simpa using hdone k hk) (List.getElem?_eq_getElem hk)
      have BF := B5.trans (hB.mono B5.size)
      clear hdone hM
      go_wp2
      refine bodyPost_ret (v := .tuple #[.bool true, .int .i64 0]) (by simp [results, Try.results31, go_sem]) rfl ⟨ret_eq (by rw [HR.out, HB.out]), BF⟩
    · intro i sw ss sr sc pc ps pi w7 hx hs hM7 hI7 hg7 hsz7 hen
      have hmem := List.mem_of_getElem? hx
      obtain ⟨m, xw, hso⟩ := spot_ok Hok.out (place_all hmem)
      obtain ⟨c, k, i2, sec, page, hpe, hsec, hpage, hpo⟩ := place_in Hok.out Hsz.out hmem
      obtain ⟨g, o, u, rfl, hgb, hc1, hp2⟩ := HAp.out k sec hsec
      obtain ⟨A6, c6, rfl, hA6, hA7⟩ := RInts.open_ hp2
      have hi2 := (List.getElem?_eq_some_iff.1 hpage).1
      obtain ⟨g2, o2, y, rfl, hgb2, hc2, hy⟩ := hA7 i2 hi2
      have hyp : y = page := by
        have h1 := hy.out
        rw [List.getD_eq_getElem?_getD, hpage] at h1
        simpa using h1.symm
      subst hyp
      have HX := Lib.hid hx
      have HSO := Lib.hid hso
      have HPO := Lib.hid hpo
      simp only [PlaceD.mk.injEq] at hpe
      obtain ⟨rfl, rfl, rfl⟩ := hpe
      have k1 : (k : Int) < (product.length : Int) := by have := (List.getElem?_eq_some_iff.1 hsec).1; omega
      have k2 : (i2 : Int) < (sec.length : Int) := by omega
      have B7 : Below w5.heap.size w5 w7 := hB.grown hg7 hB.size fun j hj => by cases hj; exact Nat.le_refl _
      have B70 := B5.trans (B7.mono B5.size)
      have V7 := V5.below B7 V5.lt
      have hd1 := (B70.cell (p := ⟨g, o + k, none⟩) hgb).trans hc1
      have hd2 := (B70.cell (p := ⟨g2, o2 + i2, none⟩) hgb2).trans hc2
      obtain ⟨pg, up, hpl⟩ : ∃ pg up, plateAt r.webs ⟨sw, ss, sr, sc⟩ = ⟨pg, up⟩ := ⟨_, _, rfl⟩
      have hcall : ∀ X, Below w7.heap.size w7 X → Calls Try.prog 56 #[.agg #[.slice A1 r.webs.length c1, .slice A2 r.ribs.length c2, .slice A3 r.stacks.length c3, .bool r.coll], .agg #[.int .i64 sw, .int .i64 ss, .int .i64 sr, .int .i64 sc]] X fun e w' => e = .returned (.agg #[.int .i64 pg, .bool up]) ∧ Below X.heap.size X w' :=
        fun X hX => by
          have := plate_any2 _ r ⟨sw, ss, sr, sc⟩ m xw X ((hrun.out.below (B70.trans (hX.mono B70.size))).more (Nat.le_trans B70.size hX.size)) HSO.out
          rw [hpl] at this
          exact this
      have HOK : Hid (okAt r product (⟨sw, ss, sr, sc⟩, ⟨c, k, i2⟩) = (decide (pg = y) && !(decide (pg ≠ 0) && up))) := by
        show okAt r product (⟨sw, ss, sr, sc⟩, ⟨c, k, i2⟩) = _
        unfold okAt
        rw [hpl, HPO.out]
      have HC := Lib.hid hcall
      have F8 : ∃ W8, (w7.alloc (.cells #[.int .i64 sw, .int .i64 ss, .int .i64 sr, .int .i64 sc] 53)).alloc (.cells #[.int .i64 c, .int .i64 k, .int .i64 i2] 56) = W8 ∧ W8.heap.size = w7.heap.size + 2 ∧ Below w7.heap.size w7 W8 ∧
          Blk W8 w7.heap.size 53 #[.int .i64 sw, .int .i64 ss, .int .i64 sr, .int .i64 sc] ∧ Blk W8 (w7.heap.size + 1) 56 #[.int .i64 c, .int .i64 k, .int .i64 i2] := by
        refine ⟨_, rfl, by simp, ((Below.refl _ _).alloc (Nat.le_refl _) _).alloc (by simp) _, (Blk.new _ _ _).alloc _, ?_⟩
        have := Blk.new (w7.alloc (.cells #[.int .i64 sw, .int .i64 ss, .int .i64 sr, .int .i64 sc] 53)) 56 #[.int .i64 c, .int .i64 k, .int .i64 i2]
        rw [World.size_alloc] at this
        exact this
      obtain ⟨W8, e8, z8, B8, S8, P8⟩ := F8
      have E8 := Lib.hid e8
      have V8 := V7.below B8 V7.lt
      have v0 := cellOf V8 0 (x := .slice A1 r.webs.length c1) rfl
      have v1 := cellOf V8 1 (x := .slice A2 r.ribs.length c2) rfl
      have v2 := cellOf V8 2 (x := .slice A3 r.stacks.length c3) rfl
      have v3 := cellOf V8 3 (x := .bool r.coll) rfl
      have q0 := cellOf S8 0 (x := .int .i64 sw) rfl
      have q1 := cellOf S8 1 (x := .int .i64 ss) rfl
      have q2 := cellOf S8 2 (x := .int .i64 sr) rfl
      have q3 := cellOf S8 3 (x := .int .i64 sc) rfl
      clear hsz7 hx hso hpo hmem hc1 hc2 hp2 hA7 hA6 hcall hM hI hg7 hB V7 hy hsec hpage hi2 HAp e8 V8
      go_upto_region 12 with fail
      rw [E8.out]
      go_wp2_with fail
      refine (HC.out W8 B8).mono ?_
      rintro e w9 ⟨rfl, hb9⟩
      have B79 := B8.trans (hb9.mono (by omega))
      have P9 := P8.below hb9 P8.lt
      have j1 := cellOf P9 1 (x := .int .i64 k) rfl
      have j2 := cellOf P9 2 (x := .int .i64 i2) rfl
      have n2 : g < w7.heap.size := Nat.lt_of_lt_of_le hgb B70.size
      have n3 : g2 < w7.heap.size := Nat.lt_of_lt_of_le hgb2 B70.size
      have hd1 := (B79.cell (p := ⟨g, o + k, none⟩) n2).trans hd1
      have hd2 := (B79.cell (p := ⟨g2, o2 + i2, none⟩) n3).trans hd2
      clear v0 v1 v2 v3 q0 q1 q2 q3 P8 S8 hb9
      have hbad : okAt r product (⟨sw, ss, sr, sc⟩, ⟨c, k, i2⟩) = false → rightB r product = false := fun h => by
        unfold rightB
        exact all_not HX.out h
      have HBad := Lib.hid hbad
      have B9 : Below w.heap.size w w9 := B70.trans (B79.mono B70.size)
      have n4 : w7.heap.size + 1 < w9.heap.size := P9.lt
      have n5 : g < w9.heap.size := Nat.lt_of_lt_of_le n2 B79.size
      have n6 : g2 < w9.heap.size := Nat.lt_of_lt_of_le n3 B79.size
      clear hbad hpl
      have B10 := Lib.hid (B9.alloc B9.size (.cells #[.int .i64 pg, .bool up] 89))
      have hten : ∀ nq, IterAt ((w9.alloc (.cells #[.int .i64 pg, .bool up] 89)).drewN nq) b w5.heap.size (placesD r).length (seen.push i) ∧ Below w5.heap.size w5 ((w9.alloc (.cells #[.int .i64 pg, .bool up] 89)).drewN nq) ∧
          iterLeft (placesD r).length ((w9.alloc (.cells #[.int .i64 pg, .bool up] 89)).drewN nq) w5.heap.size < iterLeft (placesD r).length wr w5.heap.size := fun nq => by
        have hb10 := below_drewN (B79.alloc B79.size (.cells #[.int .i64 pg, .bool up] 89)) nq
        have h10 := hI7.below hb10
        exact ⟨h10, B7.trans (hb10.mono B7.size), iterLeft_lt HI.out h10 (List.getElem?_eq_some_iff.1 HX.out).1 (by simpa using hs)⟩
      have HTen := Lib.hid hten
      have hnext : okAt r product (⟨sw, ss, sr, sc⟩, ⟨c, k, i2⟩) = true → ∀ k' x, (seen.push i).contains k' = true → (placesD r)[k']? = some x → okAt r product x = true := fun h k' x hk' hx' => by
        rw [contains_push, Bool.or_eq_true] at hk'
        rcases hk' with hk' | hk'
        · exact hall.out k' x hk' hx'
        · rw [beq_iff_eq] at hk'
          subst hk'
          have := HX.out.symm.trans hx'
          injection this with this
          rw [← this]; exact h
      have HNext := Lib.hid hnext
      clear hten hnext hI7 B7 B70 hM7 B79
      by_cases e1 : pg = y
      case neg =>
        have e1' : (pg != y) = true := by simpa using e1
        have HN := Lib.hid (HBad.out (by rw [HOK.out, decide_eq_false e1]; rfl))
        have HV : Hid (rightV r product = .tuple #[.bool false, .int .i64 0]) := by show rightV r product = _; rw [HR.out, HN.out]
        clear e1
        go_upto_region 13 with fail
        go_quiet (fail)
        go_wp2
        refine bodyPost_ret (v := .tuple #[.bool false, .int .i64 0]) (by simp [results, Try.results31, go_sem]) rfl ⟨ret_eq HV.out, ?_⟩
        exact below_drewN B10.out _
      have e1' : (pg != y) = false := by simpa using e1
      by_cases e2 : pg = 0
      · have e2' : (pg != 0) = false := by simpa using e2
        have HN := Lib.hid (HNext.out (by rw [HOK.out, decide_eq_true e1, decide_eq_false (fun h => h e2)]; rfl))
        clear e1 e2
        go_upto_region 13 with fail
        go_quiet (fail)
        have h10 := HTen.out nq
        go_wp2
        go_roundw
        case rel => exact ⟨_, h10.1, HN.out, h10.2.1⟩
        case measure => exact h10.2.2
      have e2' : (pg != 0) = true := by simpa using e2
      cases up
      · have HN := Lib.hid (HNext.out (by rw [HOK.out, decide_eq_true e1, Bool.and_false]; rfl))
        clear e1 e2
        go_upto_region 13 with fail
        go_quiet (fail)
        have h10 := HTen.out nq
        go_wp2
        go_roundw
        case rel => exact ⟨_, h10.1, HN.out, h10.2.1⟩
        case measure => exact h10.2.2
      · have HN := Lib.hid (HBad.out (by rw [HOK.out, decide_eq_true e2, Bool.and_true, Bool.not_true, Bool.and_false]))
        have HV : Hid (rightV r product = .tuple #[.bool false, .int .i64 0]) := by show rightV r product = _; rw [HR.out, HN.out]
        clear e1 e2
        go_upto_region 13 with fail
        go_quiet (fail)
        go_wp2
        refine bodyPost_ret (v := .tuple #[.bool false, .int .i64 0]) (by simp [results, Try.results31, go_sem]) rfl ⟨ret_eq HV.out, ?_⟩
        exact below_drewN B10.out _
end Go.Proofs.Ytdbfhdncjblleaa
namespace Go.Proofs.Ytdbfhdncjblleaa
open Go.RowKit

/-- Webs alike but for what their plates print. -/
def SameShape (l l' : List WebD) : Prop := l'.length = l.length ∧ ∀ (i : Nat) (x : WebD), l[i]? = some x → ∃ x', l'[i]? = some x' ∧ x'.cols = x.cols ∧ x'.rows = x.rows ∧ x'.plates.length = x.plates.length
theorem SameShape.refl (l : List WebD) : SameShape l l := ⟨rfl, fun _ x h => ⟨x, h, rfl, rfl, rfl⟩⟩
def putPlate (l : List WebD) (m k : Nat) (q : PlateD) : List WebD := l.set m ⟨(l.getD m default).cols, (l.getD m default).rows, (l.getD m default).plates.set k q⟩
theorem SameShape.put {l l' : List WebD} (h : SameShape l l') (m k : Nat) (q : PlateD) : SameShape l (putPlate l' m k q) := by
  refine ⟨by unfold putPlate; rw [List.length_set]; exact h.1, fun i x hx => ?_⟩
  obtain ⟨x', h1, h2, h3, h4⟩ := h.2 i x hx
  unfold putPlate
  by_cases e : m = i
  · subst e
    rw [getD_of h1, List.getElem?_set_self (by exact (List.getElem?_eq_some_iff.1 h1).1)]
    exact ⟨_, rfl, h2, h3, by simpa using h4⟩
  · rw [List.getElem?_set_ne e]
    exact ⟨x', h1, h2, h3, h4⟩
theorem plateAt_in {r : RunD} {ws : List WebD} {s : SpotD} {m : Nat} {x x' : WebD} (hs : SpotOk r s m x) (hx' : ws[m]? = some x') (h1 : x'.cols = x.cols) (h2 : x'.rows = x.rows) : plateAt ws s = x'.plates.getD (plateI x s) default := by
  unfold plateAt plateI
  rw [hs.web, Int.toNat_natCast, getD_of hx', h1, h2]
theorem put_same {r : RunD} {ws : List WebD} (h : SameShape r.webs ws) {s : SpotD} {m : Nat} {x : WebD} (hs : SpotOk r s m x) (q : PlateD) : plateAt (putPlate ws m (plateI x s) q) s = q := by
  obtain ⟨x', h1, h2, h3, h4⟩ := h.2 m x hs.there
  have hl := (List.getElem?_eq_some_iff.1 h1).1
  have hi := hs.idx.1
  unfold putPlate
  rw [getD_of h1]
  rw [plateAt_in (x' := ⟨x'.cols, x'.rows, x'.plates.set (plateI x s) q⟩) hs (List.getElem?_set_self hl) h2 h3]
  simp only
  rw [List.getD_eq_getElem?_getD, List.getElem?_set_self (by omega)]
  rfl
theorem put_other {r : RunD} {ws : List WebD} (h : SameShape r.webs ws) {s s' : SpotD} {m m' : Nat} {x x2 : WebD} (hs : SpotOk r s m x) (hs' : SpotOk r s' m' x2) (hne : s' ≠ s) (q : PlateD) : plateAt (putPlate ws m (plateI x s) q) s' = plateAt ws s' := by
  obtain ⟨x', h1, h2, h3, h4⟩ := h.2 m x hs.there
  obtain ⟨x3, k1, k2, k3, k4⟩ := h.2 m' x2 hs'.there
  have hl := (List.getElem?_eq_some_iff.1 h1).1
  unfold putPlate
  rw [getD_of h1]
  by_cases e : m = m'
  · subst e
    have e2 := hs.there.symm.trans hs'.there
    injection e2 with e2
    subst e2
    rw [h1] at k1
    injection k1 with k1
    subst k1
    rw [plateAt_in (x' := ⟨x'.cols, x'.rows, x'.plates.set (plateI x s) q⟩) hs' (List.getElem?_set_self hl) h2 h3, plateAt_in hs' h1 h2 h3]
    simp only
    rw [List.getD_eq_getElem?_getD, List.getD_eq_getElem?_getD, List.getElem?_set_ne]
    intro e3
    exact hne (hs.inj hs' e3).symm
  · rw [plateAt_in hs' (by rw [List.getElem?_set_ne e]; exact k1) k2 k3, plateAt_in hs' k1 k2 k3]

/-- A run is filled: each place's plate prints its page. -/
def Filled (r : RunD) (product : List (List Int)) (r' : RunD) : Prop :=
  r'.ribs = r.ribs ∧ r'.stacks = r.stacks ∧ r'.coll = r.coll ∧ SameShape r.webs r'.webs ∧ ∀ x ∈ placesD r, plateAt r'.webs x.1 = ⟨pageOf product x.2, false⟩
def FilledTo (r : RunD) (product : List (List Int)) (seen : Array Nat) (ws : List WebD) : Prop :=
  SameShape r.webs ws ∧ ∀ k x, seen.contains k = true → (placesD r)[k]? = some x → plateAt ws x.1 = ⟨pageOf product x.2, false⟩
theorem place_key {r : RunD} (h : checkE r = 0) {i k : Nat} {s : SpotD} {p q : PlaceD} (h1 : (placesD r)[i]? = some (s, p)) (h2 : (placesD r)[k]? = some (s, q)) : i = k := by
  have hn := hnd_ok h
  have hi := (List.getElem?_eq_some_iff.1 h1).1
  have hk := (List.getElem?_eq_some_iff.1 h2).1
  refine (List.getElem_inj (h₀ := by rw [List.length_map]; exact hi) (h₁ := by rw [List.length_map]; exact hk) hn).1 ?_
  rw [List.getElem_map, List.getElem_map]
  rw [List.getElem?_eq_getElem hi] at h1
  rw [List.getElem?_eq_getElem hk] at h2
  injection h1 with h1
  injection h2 with h2
  rw [h1, h2]
theorem FilledTo.step {r : RunD} (h : checkE r = 0) {product : List (List Int)} {seen : Array Nat} {ws : List WebD} (hf : FilledTo r product seen ws) {i : Nat} {s : SpotD} {p : PlaceD} (hi : (placesD r)[i]? = some (s, p)) {m : Nat} {x : WebD} (hs : SpotOk r s m x) :
    FilledTo r product (seen.push i) (putPlate ws m (plateI x s) ⟨pageOf product p, false⟩) := by
  refine ⟨hf.1.put _ _ _, fun k y hk hy => ?_⟩
  obtain ⟨s', p'⟩ := y
  by_cases e : s' = s
  · subst e
    have e2 := place_key h hi hy
    subst e2
    have e3 := hi.symm.trans hy
    simp only [Option.some.injEq, Prod.mk.injEq, true_and] at e3
    subst e3
    exact put_same hf.1 hs _
  · obtain ⟨m', x2, hs'⟩ := spot_ok h (place_all (List.mem_of_getElem? hy))
    rw [put_other hf.1 hs hs' e]
    rw [contains_push, Bool.or_eq_true] at hk
    rcases hk with hk | hk
    · exact hf.2 k _ hk hy
    · rw [beq_iff_eq] at hk
      subst hk
      have e3 := hi.symm.trans hy
      simp only [Option.some.injEq, Prod.mk.injEq] at e3
      exact absurd e3.1.symm e
theorem FilledTo.start (r : RunD) (product : List (List Int)) : FilledTo r product #[] r.webs := ⟨SameShape.refl _, fun k x hk => by simp at hk⟩
theorem FilledTo.done {r : RunD} {product : List (List Int)} {seen : Array Nat} {ws : List WebD} (hf : FilledTo r product seen ws) (hall : ∀ i, i < (placesD r).length → seen.contains i = true) : Filled r product { r with webs := ws } := by
  refine ⟨rfl, rfl, rfl, hf.1, fun x hx => ?_⟩
  obtain ⟨k, hk, rfl⟩ := List.getElem_of_mem hx
  exact hf.2 k _ (hall k hk) (List.getElem?_eq_getElem hk)

/-! ### In memory -/
theorem plate_set : ∀ (l : List PlateD) (i : Nat) (pg : Int) (up : Bool), i < l.length → ((l.flatMap PlateD.cells).set (i * 2) (.int .i64 pg)).set (i * 2 + 1) (.bool up) = (l.set i ⟨pg, up⟩).flatMap PlateD.cells
  | [], i, _, _, h => by simp at h
  | y :: l, 0, pg, up, _ => by simp [List.flatMap_cons, PlateD.cells]
  | y :: l, i + 1, pg, up, h => by
    have h2 : i < l.length := by simpa using h
    rw [List.set_cons_succ, List.flatMap_cons, List.flatMap_cons, ← plate_set l i pg up h2]
    rw [List.set_append_right (h := by simp [PlateD.cells]; omega), List.set_append_right (h := by simp [PlateD.cells]; omega)]
    congr 2
    · simp [PlateD.cells]; congr 1; omega
    · simp [PlateD.cells]; omega
theorem ownsRow_far {base k n g : Nat} {w : World} {e : TypeId} {v : Value} {xs : List Value} (h : w.ownsRow base e k v n xs) (hne : v.ownBlock ≠ some g) (o : Nat) (u : Value) : (w.setCell ⟨g, o, none⟩ u).ownsRow base e k v n xs := by
  obtain ⟨h1, h2⟩ := h
  refine ⟨h1, ?_⟩
  rcases h2 with h2 | ⟨g', cap, cur, rfl, hb, hh, h3⟩
  · exact .inl h2
  · refine .inr ⟨g', cap, cur, rfl, hb, ?_, h3⟩
    have hgg : g' ≠ g := fun e1 => hne (by rw [e1]; rfl)
    exact (Below.heap_setCell w ⟨g, o, none⟩ u g' hgg).trans hh
theorem OPlates.set {base : Nat} {w : World} {l : List PlateD} {g n c : Nat} (h : OPlates base w (.slice (some ⟨g, 0, none⟩) n c) l) {i : Nat} (hi : i < l.length) (pg : Int) (up : Bool) :
    OPlates base ((w.setCell ⟨g, i * 2, none⟩ (.int .i64 pg)).setCell ⟨g, i * 2 + 1, none⟩ (.bool up)) (.slice (some ⟨g, 0, none⟩) n c) (l.set i ⟨pg, up⟩) ∧ ∃ cs, Blk w g 89 cs := by
  unfold OPlates at h ⊢
  obtain ⟨h1, h2⟩ := h
  rcases h2 with ⟨h2, -⟩ | ⟨g', cap, cur, he, hb, hh, hn, hm, hs, ht⟩
  · cases h2
  · cases he
    have hk : Blk w g 89 cur := hh
    refine ⟨⟨?_, .inr ⟨g, c, _, by simp, hb, (hk.put (i * 2) (.int .i64 pg)).put (i * 2 + 1) (.bool up), by simpa using hn, hm, by simpa using hs, ?_⟩⟩, cur, hk⟩
    · rw [← plate_set l i pg up hi, List.length_set, List.length_set, List.length_set]; exact h1
    · rw [List.length_set, ← plate_set l i pg up hi, ← ht, Array.toList_setIfInBounds, Array.toList_setIfInBounds, List.take_set, List.take_set]
theorem webFlat_put (l : List WebD) : ∀ (vs : List Value) (m k : Nat) (q : PlateD), m < l.length → webFlat (putPlate l m k q) vs = webFlat l vs := by
  unfold putPlate
  induction l with
  | nil => intro vs m k q h; simp at h
  | cons y l ih =>
    intro vs m k q h
    cases vs with
    | nil => simp [webFlat]
    | cons v vs =>
      cases m with
      | zero => simp [webFlat, webCells]
      | succ m =>
        have := ih vs m k q (by simpa using h)
        simp only [webFlat, List.getD_cons_succ, List.set_cons_succ, List.zip_cons_cons, List.flatMap_cons] at this ⊢
        rw [this]
/-- A plate is stored into a web of one's own. -/
theorem OWebs.put {base : Nat} {w : World} {v : Value} {vs : List Value} {l : List WebD} (h : OWebs base w v vs l) {m k g n c : Nat} {x : WebD} (hu : vs[m]? = some (.slice (some ⟨g, 0, none⟩) n c)) (hx : l[m]? = some x) (hk : k < x.plates.length) (pg : Int) (up : Bool) :
    OWebs base ((w.setCell ⟨g, k * 2, none⟩ (.int .i64 pg)).setCell ⟨g, k * 2 + 1, none⟩ (.bool up)) v vs (putPlate l m k ⟨pg, up⟩) ∧ Grew 89 w ((w.setCell ⟨g, k * 2, none⟩ (.int .i64 pg)).setCell ⟨g, k * 2 + 1, none⟩ (.bool up)) ∧ base ≤ g ∧ g < w.heap.size := by
  obtain ⟨h1, h2, h3, h4⟩ := h
  have hm := (List.getElem?_eq_some_iff.1 hx).1
  obtain ⟨hset, cs, hcs⟩ := OPlates.set (h3 m _ x hu hx) hk pg up
  have hgr := (Grew.set hcs (k * 2) (.int .i64 pg)).trans (Grew.set (hcs.put (k * 2) (.int .i64 pg)) (k * 2 + 1) (.bool up))
  have hlt := (h3 m _ x hu hx).lt g rfl
  refine ⟨⟨?_, ?_, fun i u y hi hy => ?_, h4⟩, hgr, hlt.1, hlt.2⟩
  · rw [webFlat_put l vs m k _ hm]
    have : (putPlate l m k ⟨pg, up⟩).length = l.length := by unfold putPlate; rw [List.length_set]
    rw [this]
    exact ownsRow_grew h1 hgr (by decide)
  · unfold putPlate; rw [List.length_set]; exact h2
  · unfold putPlate at hy
    rw [getD_of hx] at hy
    by_cases e : m = i
    · subst e
      rw [List.getElem?_set_self hm] at hy
      injection hy with hy
      rw [hu] at hi
      injection hi with hi
      rw [← hy, ← hi]
      exact hset
    · rw [List.getElem?_set_ne e] at hy
      have ho := h3 i u y hi hy
      have hne : u.ownBlock ≠ some g := fun e1 => e (h4 m i _ u g hu hi rfl e1)
      exact ownsRow_far (ownsRow_far ho hne _ _) hne _ _
end Go.Proofs.Ytdbfhdncjblleaa
namespace Go.Proofs.Ytdbfhdncjblleaa
open Go.RowKit

theorem Grew.of_grown {e : TypeId} {w w' : World} {rr : Nat} {m : Option Nat} {s c : Nat} {seen : Array Nat} (h : w.grownBy w' (some rr)) (hr : w.heap[rr]? = some (.mapIter m s seen c)) : Grew e w w' := fun g cs t fr hg _ => by
  refine h.block g (Array.getElem?_eq_some_iff.1 hg).1 fun e1 => ?_
  cases e1
  rw [hr] at hg
  cases hg
theorem Grew.of_iter {e : TypeId} {w w' : World} {b rr n : Nat} {seen : Array Nat} (h : w.grownBy w' (some rr)) (hr : IterAt w b rr n seen) : Grew e w w' := by
  obtain ⟨c0, -, hr⟩ := hr
  exact Grew.of_grown h hr
theorem IterAt.ne_blk {w : World} {b rr n g : Nat} {seen : Array Nat} {t : TypeId} {cs : Array Value} (hr : IterAt w b rr n seen) (h : Blk w g t cs) : g ≠ rr := by
  obtain ⟨c0, -, hr⟩ := hr
  rintro rfl
  unfold Blk at h
  rw [hr] at h; cases h
theorem MapAt.ne_blk {α β : Type} {kv : α → Value} {vv : β → Value} {w : World} {b g : Nat} {l : List (α × β)} {t : TypeId} {cs : Array Value} (hm : MapAt kv vv w b l) (h : Blk w g t cs) : g ≠ b := by
  rintro rfl
  unfold MapAt at hm
  unfold Blk at h
  rw [hm] at h; cases h
theorem OPlates.blk {base : Nat} {w : World} {l : List PlateD} {g n c : Nat} (h : OPlates base w (.slice (some ⟨g, 0, none⟩) n c) l) : ∃ cs, Blk w g 89 cs := by
  rcases h.2 with ⟨h2, -⟩ | ⟨g', cap, cur, he, hb, hh, -⟩
  · cases h2
  · cases he
    exact ⟨cur, hh⟩
theorem add0 (g j : Nat) : (⟨g, 0, none⟩ : Addr).add j = ⟨g, j, none⟩ := by unfold Addr.add; split <;> simp_all
theorem OPlates.at {base : Nat} {w : World} {l : List PlateD} {g n c : Nat} (h : OPlates base w (.slice (some ⟨g, 0, none⟩) n c) l) {k : Nat} {p : PlateD} (hp : l[k]? = some p) : w.cell? ⟨g, k * 2, none⟩ = some (.int .i64 p.page) ∧ w.cell? ⟨g, k * 2 + 1, none⟩ = some (.bool p.up) := by
  have hf := fun j hj => flat_at PlateD.cells 2 (fun _ => rfl) _ k j _ hp hj
  have h0 := h.cells (g := g) rfl (k * 2) _ (hf 0 (by omega))
  have h1 := h.cells (g := g) rfl (k * 2 + 1) _ (hf 1 (by omega))
  rw [add0] at h0 h1
  exact ⟨h0, h1⟩
theorem OWebs.at {base : Nat} {w : World} {vs : List Value} {l : List WebD} {g n c : Nat} (h : OWebs base w (.slice (some ⟨g, 0, none⟩) n c) vs l) {m : Nat} {x : WebD} (hx : l[m]? = some x) :
    ∃ u, vs[m]? = some u ∧ OPlates base w u x.plates ∧ w.cell? ⟨g, m * 3, none⟩ = some (.int .i64 x.cols) ∧ w.cell? ⟨g, m * 3 + 1, none⟩ = some (.int .i64 x.rows) ∧ w.cell? ⟨g, m * 3 + 2, none⟩ = some u := by
  obtain ⟨h1, h2, h3, h4⟩ := h
  have hm := (List.getElem?_eq_some_iff.1 hx).1
  have hv : vs[m]? = some (vs[m]'(by omega)) := List.getElem?_eq_getElem (by omega)
  have hz : (l.zip vs)[m]? = some (x, vs[m]'(by omega)) := by rw [List.getElem?_zip_eq_some]; exact ⟨hx, hv⟩
  have hf := fun j hj => flat_at (fun x : WebD × Value => webCells x.1 x.2) 3 (fun _ => rfl) _ m j _ hz hj
  have k0 := h1.cells (g := g) rfl (m * 3) _ (hf 0 (by omega))
  have k1 := h1.cells (g := g) rfl (m * 3 + 1) _ (hf 1 (by omega))
  have k2 := h1.cells (g := g) rfl (m * 3 + 2) _ (hf 2 (by omega))
  rw [add0] at k0 k1 k2
  exact ⟨_, hv, h3 m _ x hv hx, k0, k1, k2⟩

/-- What stands in memory while plates are stored: the iterator's and the map's blocks, the run of one's own. -/
def FillSt (w : World) (r : RunD) (product : List (List Int)) (b rr B8 : Nat) (u1 : Value) (vs : List Value) (u2 u3 : Value) (si : Array Nat) (ws : List WebD) (wr : World) : Prop :=
  IterAt wr b rr (placesD r).length si ∧ MapAt SpotD.val PlaceD.val wr b (placesD r) ∧ OWebs w.heap.size wr u1 vs ws ∧ ORibs w.heap.size wr u2 r.ribs ∧ OIntss w.heap.size wr u3 r.stacks ∧ Below w.heap.size w wr ∧
    Blk wr B8 36 #[u1, u2, u3, .bool r.coll] ∧ Blk wr (w.heap.size + 1) 36 #[.slice none 0 0, .slice none 0 0, .slice none 0 0, .bool false]
section
variable {w wr w' : World} {r : RunD} {product : List (List Int)} {b rr B8 : Nat} {u1 : Value} {vs : List Value} {u2 u3 : Value} {si : Array Nat} {ws : List WebD}
theorem FillSt.below (h : FillSt w r product b rr B8 u1 vs u2 u3 si ws wr) (hb : Below wr.heap.size wr w') : FillSt w r product b rr B8 u1 vs u2 u3 si ws w' := by
  obtain ⟨h1, h2, h3, h4, h5, h6, h7, h8⟩ := h
  exact ⟨h1.below hb, h2.below hb, h3.below hb, ownsRow_below h4 hb, h5.below hb, h6.trans (hb.mono h6.size), h7.below hb h7.lt, h8.below hb h8.lt⟩
theorem FillSt.next (h : FillSt w r product b rr B8 u1 vs u2 u3 si ws wr) {i : Nat} (hg : wr.grownBy w' (some rr)) (hi : IterAt w' b rr (placesD r).length (si.push i)) (hm : MapAt SpotD.val PlaceD.val w' b (placesD r)) (hrr : w.heap.size ≤ rr) :
    FillSt w r product b rr B8 u1 vs u2 u3 (si.push i) ws w' := by
  obtain ⟨h1, h2, h3, h4, h5, h6, h7, h8⟩ := h
  have g : Grew 4 wr w' := Grew.of_iter hg h1
  exact ⟨hi, hm, h3.grew g (by decide) (by decide), ownsRow_grew h4 g (by decide), h5.grew g (by decide) (by decide), h6.grown hg h6.size (fun j hj => by cases hj; exact hrr), h7.grew g (by decide), h8.grew g (by decide)⟩
theorem FillSt.put (h : FillSt w r product b rr B8 u1 vs u2 u3 si ws wr) {m k g n c : Nat} {x : WebD} (hu : vs[m]? = some (.slice (some ⟨g, 0, none⟩) n c)) (hx : ws[m]? = some x) (hk : k < x.plates.length) (pg : Int) (up : Bool) :
    FillSt w r product b rr B8 u1 vs u2 u3 si (putPlate ws m k ⟨pg, up⟩) ((wr.setCell ⟨g, k * 2, none⟩ (.int .i64 pg)).setCell ⟨g, k * 2 + 1, none⟩ (.bool up)) := by
  obtain ⟨h1, h2, h3, h4, h5, h6, h7, h8⟩ := h
  obtain ⟨p1, p2, p3, p4⟩ := h3.put hu hx hk pg up
  obtain ⟨cs, hcs⟩ := (h3.2.2.1 m _ x hu hx).blk
  have n1 := h1.ne_blk hcs
  have n2 := h2.ne_blk hcs
  exact ⟨(h1.setCell (p := ⟨g, k * 2, none⟩) n1 _).setCell (p := ⟨g, k * 2 + 1, none⟩) n1 _, (h2.setCell (p := ⟨g, k * 2, none⟩) n2 _).setCell (p := ⟨g, k * 2 + 1, none⟩) n2 _, p1, ownsRow_grew h4 p2 (by decide), h5.grew p2 (by decide) (by decide),
    (h6.setCell (p := ⟨g, k * 2, none⟩) p3 _).setCell (p := ⟨g, k * 2 + 1, none⟩) p3 _, h7.grew p2 (by decide), h8.grew p2 (by decide)⟩
theorem FillSt.drew (h : FillSt w r product b rr B8 u1 vs u2 u3 si ws wr) : FillSt w r product b rr B8 u1 vs u2 u3 si ws wr.drew := h.below ((Below.refl _ _).drew)
/-- The run as it is handed back. -/
theorem FillSt.final (h : FillSt w r product b rr B8 u1 vs u2 u3 si ws wr) :
    ORun w.heap.size ((((wr.setCell ⟨w.heap.size + 1, 0, none⟩ u1).setCell ⟨w.heap.size + 1, 1, none⟩ u2).setCell ⟨w.heap.size + 1, 2, none⟩ u3).setCell ⟨w.heap.size + 1, 3, none⟩ (.bool r.coll)) (.agg #[u1, u2, u3, .bool r.coll]) { r with webs := ws } ∧
    Below w.heap.size w ((((wr.setCell ⟨w.heap.size + 1, 0, none⟩ u1).setCell ⟨w.heap.size + 1, 1, none⟩ u2).setCell ⟨w.heap.size + 1, 2, none⟩ u3).setCell ⟨w.heap.size + 1, 3, none⟩ (.bool r.coll)) := by
  obtain ⟨h1, h2, h3, h4, h5, h6, h7, h8⟩ := h
  have k1 := h8.put 0 u1
  have k2 := k1.put 1 u2
  have k3 := k2.put 2 u3
  have gr := (((Grew.set h8 0 u1).trans (Grew.set k1 1 u2)).trans (Grew.set k2 2 u3)).trans (Grew.set k3 3 (.bool r.coll))
  exact ⟨⟨u1, vs, u2, u3, rfl, h3.grew gr (by decide) (by decide), ownsRow_grew h4 gr (by decide), h5.grew gr (by decide) (by decide)⟩, below_set4 h6 (by omega) _ _ _ _⟩
end

/-- What Fill gives. -/
def FillRet (r : RunD) (product : List (List Int)) (w : World) (e : Ending) (w' : World) : Prop :=
  ∃ u, e = .returned (.tuple #[u, .int .i64 (fillE r product)]) ∧ (fillE r product = 0 → ∃ r', Filled r product r' ∧ ORun w.heap.size w' u r') ∧ (fillE r product ≠ 0 → u = runRet0) ∧ Below w.heap.size w w'

set_option maxRecDepth 100000 in
set_option maxHeartbeats 4000000 in
theorem Fill_any (v pv : Value) (r : RunD) (product : List (List Int)) (w : World) (h : RRun w.heap.size w v r) (hp : RIntss w.heap.size w pv product) :
    Calls Try.prog 33 #[v, pv] w (FillRet r product w) := by
  have hrun := Lib.hid h
  obtain ⟨A1, c1, A2, c2, A3, c3, rfl⟩ := h.shape
  have Hp := Lib.hid hp
  obtain ⟨Ap, cp, rfl, hlp, hAp⟩ := RAll.open_ hp
  have HAp := Lib.hid hAp
  clear h hp hAp
  have F0 : ∃ W0, ((w.alloc (.cells #[.slice A1 r.webs.length c1, .slice A2 r.ribs.length c2, .slice A3 r.stacks.length c3, .bool r.coll] 36)).alloc (.cells #[.slice none 0 0, .slice none 0 0, .slice none 0 0, .bool false] 36)).alloc (.cells #[.slice A1 r.webs.length c1, .slice A2 r.ribs.length c2, .slice A3 r.stacks.length c3, .bool r.coll] 111) = W0 ∧
      W0.heap.size = w.heap.size + 3 ∧ Below w.heap.size w W0 ∧ Blk W0 w.heap.size 36 #[.slice A1 r.webs.length c1, .slice A2 r.ribs.length c2, .slice A3 r.stacks.length c3, .bool r.coll] ∧
      Blk W0 (w.heap.size + 1) 36 #[.slice none 0 0, .slice none 0 0, .slice none 0 0, .bool false] ∧
      Blk W0 (w.heap.size + 1 + 1) 111 #[.slice A1 r.webs.length c1, .slice A2 r.ribs.length c2, .slice A3 r.stacks.length c3, .bool r.coll] := by
    refine ⟨_, rfl, by simp, (((Below.refl _ _).alloc (Nat.le_refl _) _).alloc (by simp) _).alloc (by simp; omega) _, ((Blk.new w _ _).alloc _).alloc _, ?_, ?_⟩
    · have := Blk.new (w.alloc (.cells #[.slice A1 r.webs.length c1, .slice A2 r.ribs.length c2, .slice A3 r.stacks.length c3, .bool r.coll] 36)) 36 #[.slice none 0 0, .slice none 0 0, .slice none 0 0, .bool false]
      rw [World.size_alloc] at this
      exact this.alloc _
    · have := Blk.new ((w.alloc (.cells #[.slice A1 r.webs.length c1, .slice A2 r.ribs.length c2, .slice A3 r.stacks.length c3, .bool r.coll] 36)).alloc (.cells #[.slice none 0 0, .slice none 0 0, .slice none 0 0, .bool false] 36)) 111 #[.slice A1 r.webs.length c1, .slice A2 r.ribs.length c2, .slice A3 r.stacks.length c3, .bool r.coll]
      rw [World.size_alloc, World.size_alloc] at this
      exact this
  obtain ⟨W0, e0, z0, B0, V0, R0, U0⟩ := F0
  have E0 := Lib.hid e0
  have Z0 := Lib.hid z0
  clear e0 z0
  go_enter Try.func33, Try.ntmps33
  go_wp2_with fail
  rw [E0.out]
  refine (check_any _ r _ ((hrun.out.below B0).more B0.size)).mono ?_
  rintro e w3 ⟨rfl, hb3⟩
  have V3 := V0.below hb3 (by rw [Z0.out]; omega)
  have R3 := R0.below hb3 (by rw [Z0.out]; omega)
  have U3 := U0.below hb3 (by rw [Z0.out]; omega)
  have B3 : Below w.heap.size w w3 := B0.trans (hb3.mono B0.size)
  clear V0 R0 U0 B0 E0 hb3
  have d0 := cellOf R3 0 (x := .slice none 0 0) rfl
  have d1 := cellOf R3 1 (x := .slice none 0 0) rfl
  have d2 := cellOf R3 2 (x := .slice none 0 0) rfl
  have d3 := cellOf R3 3 (x := .bool false) rfl
  have f0 := R3.frozen 0
  have f1 := R3.frozen 1
  have f2 := R3.frozen 2
  have f3 := R3.frozen 3
  by_cases hck : checkE r = 0
  case neg =>
    have hck' : (checkE r != 0) = true := by simpa using hck
    have hE : fillE r product = checkE r := by unfold fillE; rw [if_pos hck]
    have HR : ∀ w', Below w.heap.size w w' → FillRet r product w (.returned (.tuple #[runRet0, .int .i64 (checkE r)])) w' := fun w' hb => ⟨_, by rw [hE], fun h => absurd (hE ▸ h) hck, fun _ => rfl, hb⟩
    have HR' := Lib.hid HR
    have HB := Lib.hid (below_set4 B3 (Nat.le_succ w.heap.size) (.slice none 0 0) (.slice none 0 0) (.slice none 0 0) (.bool false))
    clear hck hE HR V3 R3 U3
    generalize checkE r = ck at *
    go_wp2
    refine bodyPost_ret (v := .tuple #[runRet0, .int .i64 ck]) (by simp [results, Try.results33, go_sem, d0, d1, d2, d3, runRet0]) rfl (HR'.out _ HB.out)
  have Hok := Lib.hid hck
  rw [hck]
  clear hck
  have v0 := cellOf U3 0 (x := .slice A1 r.webs.length c1) rfl
  have v1 := cellOf U3 1 (x := .slice A2 r.ribs.length c2) rfl
  have v2 := cellOf U3 2 (x := .slice A3 r.stacks.length c3) rfl
  have v3 := cellOf U3 3 (x := .bool r.coll) rfl
  have C2 := Lib.hid (hasSizes_any _ _ r product w3 ((hrun.out.below B3).more B3.size) Hok.out ((Hp.out.below B3).more B3.size))
  have HV3 := Lib.hid V3
  have HR3 := Lib.hid R3
  have HU3 := Lib.hid U3
  clear V3 R3 U3
  cases hsz : hasSizesB r product
  · rw [hsz] at C2
    have hE : fillE r product = 21 := by unfold fillE; rw [if_neg (by rw [Hok.out]; simp), if_pos hsz]
    have HR : ∀ w', Below w.heap.size w w' → FillRet r product w (.returned (.tuple #[runRet0, .int .i64 21])) w' := fun w' hb => ⟨_, by rw [hE], fun h => absurd (hE ▸ h) (by decide), fun _ => rfl, hb⟩
    have HR' := Lib.hid HR
    clear hsz hE HR d0 d1 d2 d3 f0 f1 f2 f3
    go_wp2_with fail
    refine C2.out.mono ?_
    rintro e w4 ⟨rfl, hb4⟩
    have R4 := HR3.out.below hb4 HR3.out.lt
    have B4 := B3.trans (hb4.mono B3.size)
    have d0 := cellOf R4 0 (x := .slice none 0 0) rfl
    have d1 := cellOf R4 1 (x := .slice none 0 0) rfl
    have d2 := cellOf R4 2 (x := .slice none 0 0) rfl
    have d3 := cellOf R4 3 (x := .bool false) rfl
    have f0 := R4.frozen 0
    have f1 := R4.frozen 1
    have f2 := R4.frozen 2
    have f3 := R4.frozen 3
    have HB := Lib.hid (below_set4 B4 (Nat.le_succ w.heap.size) (.slice none 0 0) (.slice none 0 0) (.slice none 0 0) (.bool false))
    clear v0 v1 v2 v3 R4 hb4
    go_wp2
    refine bodyPost_ret (v := .tuple #[runRet0, .int .i64 21]) (by simp [results, Try.results33, go_sem, d0, d1, d2, d3, runRet0]) rfl (HR'.out _ HB.out)
  rw [hsz] at C2
  have Hsz := Lib.hid hsz
  clear hsz d0 d1 d2 d3 f0 f1 f2 f3
  go_wp2_with fail
  refine C2.out.mono ?_
  rintro e w4 ⟨rfl, hb4⟩
  have R4 := HR3.out.below hb4 HR3.out.lt
  have V4 := HV3.out.below hb4 HV3.out.lt
  have U4 := HU3.out.below hb4 HU3.out.lt
  have B4 := B3.trans (hb4.mono B3.size)
  have C1 := Lib.hid (hasPages_any _ product w4 ((Hp.out.below B4).more B4.size))
  clear v0 v1 v2 v3 hb4 C2
  cases hpg : hasPagesB product
  · rw [hpg] at C1
    have hE : fillE r product = 6 := by unfold fillE; rw [if_neg (by rw [Hok.out]; simp), if_neg (by rw [Hsz.out]; simp), if_pos hpg]
    have HR : ∀ w', Below w.heap.size w w' → FillRet r product w (.returned (.tuple #[runRet0, .int .i64 6])) w' := fun w' hb => ⟨_, by rw [hE], fun h => absurd (hE ▸ h) (by decide), fun _ => rfl, hb⟩
    have HR' := Lib.hid HR
    have d0 := cellOf R4 0 (x := .slice none 0 0) rfl
    have d1 := cellOf R4 1 (x := .slice none 0 0) rfl
    have d2 := cellOf R4 2 (x := .slice none 0 0) rfl
    have d3 := cellOf R4 3 (x := .bool false) rfl
    have f0 := R4.frozen 0
    have f1 := R4.frozen 1
    have f2 := R4.frozen 2
    have f3 := R4.frozen 3
    have HB := Lib.hid (below_set4 B4 (Nat.le_succ w.heap.size) (.slice none 0 0) (.slice none 0 0) (.slice none 0 0) (.bool false))
    clear hpg hE HR R4 V4 U4
    go_wp2_with fail
    refine C1.out.mono ?_
    rintro e w' ⟨rfl, rfl⟩
    go_wp2
    refine bodyPost_ret (v := .tuple #[runRet0, .int .i64 6]) (by simp [results, Try.results33, go_sem, d0, d1, d2, d3, runRet0]) rfl (HR'.out _ HB.out)
  rw [hpg] at C1
  have HE : Hid (fillE r product = 0) := by show fillE r product = 0; unfold fillE; rw [if_neg (by rw [Hok.out]; simp), if_neg (by rw [Hsz.out]; simp), if_neg (by rw [hpg]; simp)]
  clear hpg
  have v0 := cellOf V4 0 (x := .slice A1 r.webs.length c1) rfl
  have v1 := cellOf V4 1 (x := .slice A2 r.ribs.length c2) rfl
  have v2 := cellOf V4 2 (x := .slice A3 r.stacks.length c3) rfl
  have v3 := cellOf V4 3 (x := .bool r.coll) rfl
  have CC := Lib.hid (clone_any _ r w4 ((hrun.out.below B4).more B4.size) (small_ok Hok.out))
  go_wp2_with fail
  refine C1.out.mono ?_
  rintro e w' ⟨rfl, rfl⟩
  go_wp2_with fail
  refine CC.out.mono ?_
  rintro e w5 ⟨u, rfl, hu, hb5⟩
  have B5 := B4.trans (hb5.mono B4.size)
  obtain ⟨u1, vs, u2, u3, rfl, ow, orb, os⟩ := hu.base_ B4.size
  obtain ⟨D1, m1, rfl⟩ := ownsRow_form ow.1
  obtain ⟨D2, m2, rfl⟩ := ownsRow_form orb
  obtain ⟨D3, m3, rfl⟩ : ∃ A c, u3 = .slice A r.stacks.length c := by
    obtain ⟨ws, hws⟩ := os
    exact ownsRow_form hws.1
  obtain ⟨gw, rfl, hg0, hg1⟩ := ownsRow_block ow.1 (by have := (numbers_ok (parts_ok Hok.out 0 (by omega))).1; omega)
  have R5 := R4.below hb5 R4.lt
  have U5 := U4.below hb5 U4.lt
  clear v0 v1 v2 v3 R4 V4 U4 C1 CC hb5 HV3 HR3 HU3 hu
  have F6 : ∃ w6, w5.alloc (.cells #[.slice (some ⟨gw, 0, none⟩) r.webs.length m1, .slice D2 r.ribs.length m2, .slice D3 r.stacks.length m3, .bool r.coll] 36) = w6 ∧ Below w5.heap.size w5 w6 ∧ w6.heap.size = w5.heap.size + 1 ∧
      Blk w6 w5.heap.size 36 #[.slice (some ⟨gw, 0, none⟩) r.webs.length m1, .slice D2 r.ribs.length m2, .slice D3 r.stacks.length m3, .bool r.coll] :=
    ⟨_, rfl, (Below.refl _ _).alloc (Nat.le_refl _) _, by simp, Blk.new _ _ _⟩
  obtain ⟨w6, e6, hb6, z6, O6⟩ := F6
  have E6 := Lib.hid e6
  have U6 := U5.below hb6 U5.lt
  have R6 := R5.below hb6 R5.lt
  have B6 := B5.trans (hb6.mono B5.size)
  have v0 := cellOf U6 0 (x := .slice A1 r.webs.length c1) rfl
  have v1 := cellOf U6 1 (x := .slice A2 r.ribs.length c2) rfl
  have v2 := cellOf U6 2 (x := .slice A3 r.stacks.length c3) rfl
  have v3 := cellOf U6 3 (x := .bool r.coll) rfl
  have ow6 := ow.below hb6
  have or6 := ownsRow_below orb hb6
  have os6 := os.below hb6
  clear ow orb os U5 R5 e6
  generalize eB8 : w5.heap.size = B8 at *
  go_upto_region 10 with fail
  rw [E6.out]
  go_wp2_with fail
  refine (places_any _ r w6 ((hrun.out.below B6).more B6.size) Hok.out (hnd_ok Hok.out)).mono ?_
  rintro e w7 ⟨b, rfl, hM7, hb, hb7⟩
  have B7 := B6.trans (hb7.mono B6.size)
  go_wp2_with (first | (at_range; refine wpList_range_iter _ rfl _ 129 rfl _ _ mapType b (placesD r) rfl hM7 ?_; intro w8 hM8 hI8 hg8 hs8) | go_in)
  go_frame
  have hb8 : Below w7.heap.size w7 w8 := (Below.refl _ _).grown hg8 (Nat.le_refl _) fun j hj => by cases hj
  have hst : FillSt w r product b w7.heap.size B8 (.slice (some ⟨gw, 0, none⟩) r.webs.length m1) vs (.slice D2 r.ribs.length m2) (.slice D3 r.stacks.length m3) #[] r.webs w8 :=
    ⟨hI8, hM8, (ow6.below hb7).below hb8, ownsRow_below (ownsRow_below or6 hb7) hb8, (os6.below hb7).below hb8, B7.trans (hb8.mono B7.size), (O6.below hb7 O6.lt).below hb8 (Nat.lt_of_lt_of_le O6.lt hb7.size), (R6.below hb7 R6.lt).below hb8 (Nat.lt_of_lt_of_le R6.lt hb7.size)⟩
  have hrr : w.heap.size ≤ w7.heap.size := B7.size
  have hB8 : w.heap.size ≤ B8 := by rw [← eB8]; exact B5.size
  have HSt := Lib.hid hst
  clear hst hI8 hM8 hg8 hs8 hb8 hM7 hb7 hb B7 ow6 or6 os6 O6 R6 U6 v0 v1 v2 v3 B6 hb6 z6 E6 eB8 hg1
  generalize w7.heap.size = rr at *
  go_loopw [34] (fun _ wr => ∃ (seen : Array Nat) (ws : List WebD), FilledTo r product seen ws ∧ FillSt w r product b rr B8 (.slice (some ⟨gw, 0, none⟩) r.webs.length m1) vs (.slice D2 r.ribs.length m2) (.slice D3 r.stacks.length m3) seen ws wr) (fun _ wr => iterLeft (placesD r).length wr rr)
  case atStart => exact ⟨_, _, FilledTo.start r product, HSt.out⟩
  case round =>
    clear HSt
    obtain ⟨seen, ws, hft, hst⟩ := hrel
    have HFT := Lib.hid hft
    have HST := Lib.hid hst
    clear hft
    go_wp2_with (first | (at_next; refine wpList_next_spot _ rfl _ rfl b rr (placesD r) seen rfl hst.2.1 hst.1 ?_ ?_) | go_in)
    · intro hdone
      have HD := Lib.hid (HFT.out.done fun i hi => by simpa using hdone i hi)
      have O9 := hst.2.2.2.2.2.2.1
      have R9 := hst.2.2.2.2.2.2.2
      have d0 := cellOf R9 0 (x := .slice none 0 0) rfl
      have d1 := cellOf R9 1 (x := .slice none 0 0) rfl
      have d2 := cellOf R9 2 (x := .slice none 0 0) rfl
      have d3 := cellOf R9 3 (x := .bool false) rfl
      have f0 := R9.frozen 0
      have f1 := R9.frozen 1
      have f2 := R9.frozen 2
      have f3 := R9.frozen 3
      have v0 := cellOf O9 0 (x := .slice (some ⟨gw, 0, none⟩) r.webs.length m1) rfl
      have v1 := cellOf O9 1 (x := .slice D2 r.ribs.length m2) rfl
      have v2 := cellOf O9 2 (x := .slice D3 r.stacks.length m3) rfl
      have v3 := cellOf O9 3 (x := .bool r.coll) rfl
      have hfin := Lib.hid hst.final
      clear hdone hst O9 R9
      go_wp2
      refine bodyPost_ret (v := .tuple #[.agg #[.slice (some ⟨gw, 0, none⟩) r.webs.length m1, .slice D2 r.ribs.length m2, .slice D3 r.stacks.length m3, .bool r.coll], .int .i64 0]) (by simp [results, Try.results33, go_sem, d0, d1, d2, d3]) rfl ⟨_, by rw [HE.out], fun _ => ⟨_, HD.out, hfin.out.1⟩, fun h => absurd HE.out h, hfin.out.2⟩
    · intro i sw ss sr sc pc ps pi w9 hx hs hM9 hI9 hg9 hsz9 hen
      have hmem := List.mem_of_getElem? hx
      obtain ⟨m, xw, hso⟩ := spot_ok Hok.out (place_all hmem)
      obtain ⟨c, k, i2, sec, page, hpe, hsec, hpage, hpo⟩ := place_in Hok.out Hsz.out hmem
      obtain ⟨g, o, u, rfl, hgb, hc1, hp2⟩ := HAp.out k sec hsec
      obtain ⟨A6, c6, rfl, hA6, hA7⟩ := RInts.open_ hp2
      have hi2 := (List.getElem?_eq_some_iff.1 hpage).1
      obtain ⟨g2, o2, y, rfl, hgb2, hc2, hy⟩ := hA7 i2 hi2
      have hyp : y = page := by
        have h1 := hy.out
        rw [List.getD_eq_getElem?_getD, hpage] at h1
        simpa using h1.symm
      subst hyp
      simp only [PlaceD.mk.injEq] at hpe
      obtain ⟨rfl, rfl, rfl⟩ := hpe
      obtain rfl : sw = (m : Int) := hso.web
      have HX := Lib.hid hx
      have HSO := Lib.hid hso
      have HPO := Lib.hid hpo
      obtain ⟨⟨xc, xr, xp⟩, hx', hxc, hxr, hxp⟩ := HFT.out.1.2 m xw hso.there
      dsimp only at hxc hxr hxp
      obtain ⟨kk, hkk⟩ : ∃ kk, plateI xw ⟨m, ss, sr, sc⟩ = kk := ⟨_, rfl⟩
      have hidx := hso.idx
      rw [hkk, ← hxp] at hidx
      obtain ⟨hidx1, hidx2⟩ := hidx
      dsimp only at hidx2
      have hpl := plate_lt hso.side hso.rows hso.row hso.cols hso.col
      have hrw := hso.row
      have hrs := hso.rows
      dsimp only at hpl hrw
      rw [← hxc, ← hxr] at hidx2 hpl
      have k1 : (k : Int) < (product.length : Int) := by have := (List.getElem?_eq_some_iff.1 hsec).1; omega
      have k2 : (i2 : Int) < (sec.length : Int) := by omega
      have k3 : (m : Int) < (r.webs.length : Int) := by have := (List.getElem?_eq_some_iff.1 hso.there).1; omega
      have k4 : (kk : Int) < (xp.length : Int) := by omega
      have st9 := hst.next (i := i) hg9 hI9 hM9 hrr
      have F10 : ∃ W10, (w9.alloc (.cells #[.int .i64 m, .int .i64 ss, .int .i64 sr, .int .i64 sc] 53)).alloc (.cells #[.int .i64 c, .int .i64 k, .int .i64 i2] 56) = W10 ∧ W10.heap.size = w9.heap.size + 2 ∧ Below w9.heap.size w9 W10 ∧
          Blk W10 w9.heap.size 53 #[.int .i64 m, .int .i64 ss, .int .i64 sr, .int .i64 sc] ∧ Blk W10 (w9.heap.size + 1) 56 #[.int .i64 c, .int .i64 k, .int .i64 i2] := by
        refine ⟨_, rfl, by simp, ((Below.refl _ _).alloc (Nat.le_refl _) _).alloc (by simp) _, (Blk.new _ _ _).alloc _, ?_⟩
        have := Blk.new (w9.alloc (.cells #[.int .i64 m, .int .i64 ss, .int .i64 sr, .int .i64 sc] 53)) 56 #[.int .i64 c, .int .i64 k, .int .i64 i2]
        rw [World.size_alloc] at this
        exact this
      obtain ⟨W10, e10, z10, B10, S10, P10⟩ := F10
      have E10 := Lib.hid e10
      have st10 := st9.below B10
      have O10 := st10.2.2.2.2.2.2.1
      obtain ⟨u, hu, hop, j0, j1, j2⟩ := st10.2.2.1.at hx'
      dsimp only at j0 j1 j2 hop
      obtain ⟨A5, c5, rfl⟩ := ownsRow_form hop
      obtain ⟨g5, rfl, hg50, hg51⟩ := ownsRow_block hop (by omega)
      have hold : ∃ q, xp[kk]? = some q := ⟨_, List.getElem?_eq_getElem hidx1⟩
      obtain ⟨⟨opg, oup⟩, hold⟩ := hold
      obtain ⟨y0, y1⟩ := hop.at hold
      obtain ⟨csP, hcsP⟩ := hop.blk
      have w0 := cellOf O10 0 (x := .slice (some ⟨gw, 0, none⟩) r.webs.length m1) rfl
      have s0 := cellOf S10 0 (x := .int .i64 m) rfl
      have hst9z : rr < w9.heap.size := hI9.lt
      have hgs5 : g5 < w9.heap.size := by
        obtain ⟨csQ, hcsQ⟩ := (st9.2.2.1.2.2.1 m _ _ hu hx').blk
        exact hcsQ.lt
      have F11 : ∃ W11, W10.alloc (.cells #[.int .i64 xc, .int .i64 xr, .slice (some ⟨g5, 0, none⟩) xp.length c5] 87) = W11 ∧ W11.heap.size = W10.heap.size + 1 ∧ Below W10.heap.size W10 W11 ∧ Blk W11 W10.heap.size 87 #[.int .i64 xc, .int .i64 xr, .slice (some ⟨g5, 0, none⟩) xp.length c5] :=
        ⟨_, rfl, by simp, (Below.refl _ _).alloc (Nat.le_refl _) _, Blk.new _ _ _⟩
      obtain ⟨W11, e11, z11, B11, X11⟩ := F11
      have E11 := Lib.hid e11
      have S11 := S10.below B11 S10.lt
      have P11 := P10.below B11 P10.lt
      have st11 := st10.below B11
      have BW := st11.2.2.2.2.2.1
      have y0 := (B11.cell (p := ⟨g5, kk * 2, none⟩) hg51).trans y0
      have y1 := (B11.cell (p := ⟨g5, kk * 2 + 1, none⟩) hg51).trans y1
      have Q11 := hcsP.below B11 hcsP.lt
      dsimp only at y0 y1
      have bg : g < w.heap.size := hgb
      have bg2 : g2 < w.heap.size := hgb2
      have bw9 : w.heap.size ≤ w9.heap.size := st9.2.2.2.2.2.1.size
      have hd1 := (BW.cell (p := ⟨g, o + k, none⟩) hgb).trans hc1
      have hd2 := (BW.cell (p := ⟨g2, o2 + i2, none⟩) hgb2).trans hc2
      have hfacts : ∀ X, Below W11.heap.size W11 X → X.cell? ⟨W10.heap.size, 0, none⟩ = some (.int .i64 xc) ∧ X.cell? ⟨W10.heap.size, 1, none⟩ = some (.int .i64 xr) ∧ X.cell? ⟨W10.heap.size, 2, none⟩ = some (.slice (some ⟨g5, 0, none⟩) xp.length c5) ∧
          X.cell? ⟨w9.heap.size, 0, none⟩ = some (.int .i64 m) ∧ X.cell? ⟨w9.heap.size, 1, none⟩ = some (.int .i64 ss) ∧ X.cell? ⟨w9.heap.size, 2, none⟩ = some (.int .i64 sr) ∧ X.cell? ⟨w9.heap.size, 3, none⟩ = some (.int .i64 sc) ∧
          X.cell? ⟨w9.heap.size + 1, 1, none⟩ = some (.int .i64 k) ∧ X.cell? ⟨w9.heap.size + 1, 2, none⟩ = some (.int .i64 i2) ∧
          X.cell? ⟨g, o + k, none⟩ = some (.slice (some ⟨g2, o2, none⟩) sec.length c6) ∧ X.cell? ⟨g2, o2 + i2, none⟩ = some (.int .i64 y) := fun X hX => by
        have t1 := X11.below hX X11.lt
        have t2 := S11.below hX S11.lt
        have t3 := P11.below hX P11.lt
        exact ⟨cellOf t1 0 rfl, cellOf t1 1 rfl, cellOf t1 2 rfl, cellOf t2 0 rfl, cellOf t2 1 rfl, cellOf t2 2 rfl, cellOf t2 3 rfl, cellOf t3 1 rfl, cellOf t3 2 rfl, (hX.cell (p := ⟨g, o + k, none⟩) (by show g < W11.heap.size; omega)).trans hd1, (hX.cell (p := ⟨g2, o2 + i2, none⟩) (by show g2 < W11.heap.size; omega)).trans hd2⟩
      have HF := Lib.hid hfacts
      have hcall : ∀ X, Below W11.heap.size W11 X → Calls Try.prog 59 #[.agg #[.int .i64 xc, .int .i64 xr, .slice (some ⟨g5, 0, none⟩) xp.length c5], .agg #[.int .i64 m, .int .i64 ss, .int .i64 sr, .int .i64 sc]] X fun e w' => e = .returned (.int .i64 kk) ∧ Below W11.heap.size W11 w' :=
        fun X hX => (plateIndex_any xc xr m ss sr sc _ X ⟨by omega, by omega⟩ ⟨by omega, by omega⟩ ⟨by omega, by omega⟩ ⟨by omega, by omega⟩).mono fun e w' he => ⟨by rw [he.1, hidx2], hX.trans (he.2.mono hX.size)⟩
      have HC := Lib.hid hcall
      have hnew : ∀ X, Below W11.heap.size W11 X → X.cell? ⟨g5, kk * 2, none⟩ = some (.int .i64 opg) ∧ X.cell? ⟨g5, kk * 2 + 1, none⟩ = some (.bool oup) ∧ X.frozen? ⟨g5, kk * 2, none⟩ = false ∧ X.frozen? ⟨g5, kk * 2 + 1, none⟩ = false := fun X hX => by
        have t := Q11.below hX Q11.lt
        exact ⟨(hX.cell (p := ⟨g5, kk * 2, none⟩) (by show g5 < W11.heap.size; omega)).trans y0, (hX.cell (p := ⟨g5, kk * 2 + 1, none⟩) (by show g5 < W11.heap.size; omega)).trans y1, t.frozen _, t.frozen _⟩
      have HN := Lib.hid hnew
      have hput : ∀ X, Below W11.heap.size W11 X → ∃ ws2, FilledTo r product (seen.push i) ws2 ∧ FillSt w r product b rr B8 (.slice (some ⟨gw, 0, none⟩) r.webs.length m1) vs (.slice D2 r.ribs.length m2) (.slice D3 r.stacks.length m3) (seen.push i) ws2 ((X.setCell ⟨g5, kk * 2, none⟩ (.int .i64 y)).setCell ⟨g5, kk * 2 + 1, none⟩ (.bool false)) := fun X hX => by
        refine ⟨_, HFT.out.step Hok.out HX.out HSO.out, ?_⟩
        rw [HPO.out, hkk]
        exact (st11.below hX).put hu hx' hidx1 y false
      have HP := Lib.hid hput
      obtain ⟨t0, t1, t2, t3, t4, t5, t6, t7, t8, t9, t10⟩ := HF.out W11 (Below.refl _ _)
      have x1 : g5 ≠ W10.heap.size := by omega
      have x2 : g5 ≠ w9.heap.size := by omega
      have x3 : g5 ≠ w9.heap.size + 1 := by omega
      have x4 : g5 ≠ g := by omega
      have x5 : g5 ≠ g2 := by omega
      have HI9 := Lib.hid hI9
      have x6 : g5 < W11.heap.size := by omega
      clear z10 z11 hx hso hpo hmem hc1 hc2 hp2 hA7 hA6 hcall hg9 hy hsec hpage hi2 HAp e10 e11 st9 st10 st11 hst hM9 hsz9 hu hx' hxc hxr hxp hidx1 hidx2 hpl hrw hrs hkk hop hold hcsP hnew hput hfacts hd1 hd2 S10 P10 S11 P11 O10 X11 Q11 BW y0 y1 hI9
      go_upto_region 13 with fail
      rw [E10.out]
      go_upto_region 14 with fail
      rw [E11.out]
      clear w0 s0 j0 j1 j2
      go_region_held3 (fun X => X.cell? ⟨W10.heap.size, 0, none⟩ = some (.int .i64 xc) ∧ X.cell? ⟨W10.heap.size, 1, none⟩ = some (.int .i64 xr) ∧ X.cell? ⟨W10.heap.size, 2, none⟩ = some (.slice (some ⟨g5, 0, none⟩) xp.length c5) ∧
          X.cell? ⟨w9.heap.size, 0, none⟩ = some (.int .i64 m) ∧ X.cell? ⟨w9.heap.size, 1, none⟩ = some (.int .i64 ss) ∧ X.cell? ⟨w9.heap.size, 2, none⟩ = some (.int .i64 sr) ∧ X.cell? ⟨w9.heap.size, 3, none⟩ = some (.int .i64 sc) ∧
          X.cell? ⟨w9.heap.size + 1, 1, none⟩ = some (.int .i64 k) ∧ X.cell? ⟨w9.heap.size + 1, 2, none⟩ = some (.int .i64 i2) ∧
          X.cell? ⟨g, o + k, none⟩ = some (.slice (some ⟨g2, o2, none⟩) sec.length c6) ∧ X.cell? ⟨g2, o2 + i2, none⟩ = some (.int .i64 y))
        (first | exact HF.out _ (by assumption) | exact HF.out _ (Below.refl _ _) | exact HF.out _ (Below.refl _ _).drew | go_keep)
        (first | (go_at_call 59; refine (HC.out _ ?_).mono ?_; (first | assumption | exact Below.refl _ _ | exact (Below.refl _ _).drew); rintro e w12 ⟨rfl, h12⟩; have r5 := (HN.out _ h12).1; have s5 := (HN.out _ h12).2.1; have t5 := (HN.out _ h12).2.2.1; have u5 := (HN.out _ h12).2.2.2))
      obtain ⟨ws2, hf2, hs2⟩ := HP.out w12 (by assumption)
      have hlt : iterLeft (placesD r).length ((w12.setCell ⟨g5, kk * 2, none⟩ (.int .i64 y)).setCell ⟨g5, kk * 2 + 1, none⟩ (.bool false)) rr < iterLeft (placesD r).length wr rr :=
        iterLeft_lt HST.out.1 hs2.1 (List.getElem?_eq_some_iff.1 HX.out).1 (by simpa using hs)
      clear r5 s5 t5 u5 t0 t1 t2 t3 t4 t6 t7 t8 t9 t10
      go_wp2
      go_roundw
      case rel => exact ⟨_, _, hf2, hs2⟩
      case measure => exact hlt
end Go.Proofs.Ytdbfhdncjblleaa
