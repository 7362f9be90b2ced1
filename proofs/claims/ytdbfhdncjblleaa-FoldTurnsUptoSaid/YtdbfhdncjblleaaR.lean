/-
  places: the place that each spot prints.
-/
import Derived.Test.YtdbfhdncjblleaaQ
namespace Go.Proofs.Ytdbfhdncjblleaa
open Go.RowKit

def row1 (c s : Nat) (l : List SpotD) : List (SpotD × PlaceD) := l.zipIdx.map fun x => (x.1, ⟨c, s, x.2⟩)
def row2 (c : Nat) (l : List (List SpotD)) : List (SpotD × PlaceD) := l.zipIdx.flatMap fun x => row1 c x.2 x.1
def row3 (l : List (List (List SpotD))) : List (SpotD × PlaceD) := l.zipIdx.flatMap fun x => row2 x.2 x.1
def placesD (r : RunD) : List (SpotD × PlaceD) := row3 (layoutD r)

theorem zip_take {α : Type} (l : List α) (k : Nat) : (l.take k).zipIdx <+: l.zipIdx := by
  have h : l.zipIdx = (l.take k ++ l.drop k).zipIdx := by rw [List.take_append_drop]
  rw [h, List.zipIdx_append]
  exact List.prefix_append _ _
theorem zip_next {α : Type} {l : List α} {k : Nat} {x : α} (h : l[k]? = some x) : (l.take (k + 1)).zipIdx = (l.take k).zipIdx ++ [(x, k)] := by
  obtain ⟨hk, rfl⟩ := List.getElem?_eq_some_iff.1 h
  rw [List.take_succ_eq_append_getElem hk, List.zipIdx_append, List.length_take]
  simp
  omega
theorem row1_next {c s : Nat} {l : List SpotD} {k : Nat} {x : SpotD} (h : l[k]? = some x) : row1 c s (l.take (k + 1)) = row1 c s (l.take k) ++ [(x, ⟨c, s, k⟩)] := by
  unfold row1
  rw [zip_next h, List.map_append]; rfl
theorem row2_next {c : Nat} {l : List (List SpotD)} {k : Nat} {x : List SpotD} (h : l[k]? = some x) : row2 c (l.take (k + 1)) = row2 c (l.take k) ++ row1 c k x := by
  unfold row2
  rw [zip_next h, List.flatMap_append]; simp
theorem row3_next {l : List (List (List SpotD))} {k : Nat} {x : List (List SpotD)} (h : l[k]? = some x) : row3 (l.take (k + 1)) = row3 (l.take k) ++ row2 k x := by
  unfold row3
  rw [zip_next h, List.flatMap_append]; simp
theorem flat_pre {α β : Type} (f : α → List β) {a b : List α} (h : a <+: b) : a.flatMap f <+: b.flatMap f := by
  obtain ⟨t, rfl⟩ := h
  rw [List.flatMap_append]; exact List.prefix_append _ _
theorem row1_pre {c s : Nat} (l : List SpotD) (k : Nat) : row1 c s (l.take k) <+: row1 c s l := by
  unfold row1; exact (zip_take l k).map _
theorem row2_pre {c : Nat} (l : List (List SpotD)) (k : Nat) : row2 c (l.take k) <+: row2 c l := by
  unfold row2; exact flat_pre _ (zip_take l k)
theorem row3_pre (l : List (List (List SpotD))) (k : Nat) : row3 (l.take k) <+: row3 l := by
  unfold row3; exact flat_pre _ (zip_take l k)
/-- What is in the map after so many copies, sections, spots; and one more. -/
theorem done_pre {L : List (List (List SpotD))} {c s i : Nat} {S : List (List SpotD)} {l : List SpotD} {x : SpotD} (hS : L[c]? = some S) (hl : S[s]? = some l) (hx : l[i]? = some x) :
    (row3 (L.take c) ++ (row2 c (S.take s) ++ row1 c s (l.take i))) ++ [(x, ⟨c, s, i⟩)] <+: row3 L := by
  have h1 : row3 (L.take c) ++ row2 c S <+: row3 L := by rw [← row3_next hS]; exact row3_pre _ _
  refine List.IsPrefix.trans ?_ h1
  rw [List.append_assoc]
  refine List.prefix_append_right_inj _ |>.2 ?_
  have h2 : row2 c (S.take s) ++ row1 c s l <+: row2 c S := by rw [← row2_next hl]; exact row2_pre _ _
  refine List.IsPrefix.trans ?_ h2
  rw [List.append_assoc]
  refine List.prefix_append_right_inj _ |>.2 ?_
  rw [← row1_next hx]; exact row1_pre _ _
theorem done_new {L : List (List (List SpotD))} {d : List (SpotD × PlaceD)} {x : SpotD} {p : PlaceD} (h : d ++ [(x, p)] <+: row3 L) (hn : ((row3 L).map (·.1)).Nodup) : ∀ y ∈ d, y.1 ≠ x := by
  obtain ⟨t, ht⟩ := h
  rw [← ht, List.map_append, List.map_append] at hn
  have h1 := (List.nodup_append.1 (List.nodup_append.1 hn).1).2.2
  intro y hy e
  exact h1 _ (List.mem_map_of_mem hy) _ (by simp) e

/-- All cells read as they read. -/
def CellsKept (W W' : World) : Prop := ∀ p u, W.cell? p = some u → W'.cell? p = some u
theorem CellsKept.refl (W : World) : CellsKept W W := fun _ _ h => h
theorem CellsKept.alloc {W W' : World} (h : CellsKept W W') (o : Obj) : CellsKept W (W'.alloc o) := fun p u hp => by
  have := h p u hp
  rw [World.cell?_alloc_lt W' o p (World.block_lt_of_cell? W' p this)]
  exact this
theorem CellsKept.putObj {W W' : World} (h : CellsKept W W') {b : Nat} {o : Obj} (o' : Obj) (hb : W'.heap[b]? = some o) (ho : o.isCells = false) : CellsKept W (W'.putObj b o') := fun p u hp => by
  have h1 := h p u hp
  have hne : p.block ≠ b := by
    rintro rfl
    simp only [World.cell?, hb] at h1
    cases o <;> simp_all [Obj.isCells]
  rw [World.cell?_of_block (w := W') (World.putObj_heap_other hne)]
  exact h1
theorem CellsKept.below {W W' W'' : World} (h : CellsKept W W') (hb : Below W'.heap.size W' W'') : CellsKept W W'' := fun p u hp => by
  have := h p u hp
  rw [hb.cell (World.block_lt_of_cell? W' p this)]; exact this
theorem MapAt.lt {α β : Type} {kv : α → Value} {vv : β → Value} {w : World} {b : Nat} {l : List (α × β)} (h : MapAt kv vv w b l) : b < w.heap.size := (Array.getElem?_eq_some_iff.1 h).1
theorem MapAt.alloc {α β : Type} {kv : α → Value} {vv : β → Value} {w : World} {b : Nat} {l : List (α × β)} (h : MapAt kv vv w b l) (o : Obj) : MapAt kv vv (w.alloc o) b l := (Below.heap_alloc w o b h.lt).trans h
theorem MapAt.below {α β : Type} {kv : α → Value} {vv : β → Value} {w w' : World} {b : Nat} {l : List (α × β)} (h : MapAt kv vv w b l) (hb : Below w.heap.size w w') : MapAt kv vv w' b l := (hb.block b h.lt).trans h
theorem MapAt.put {α β : Type} {kv : α → Value} {vv : β → Value} {w : World} {b : Nat} {l : List (α × β)} (h : MapAt kv vv w b l) (l' : List (α × β)) {n : Nat} (hn : n = l'.length) : MapAt kv vv (w.putObj b (.map (entsFrom kv vv 0 l').toArray n)) b l' := by
  subst hn
  exact World.putObj_heap_same h.lt

theorem mapType : Try.prog.underlying 129 = some (.map 53 56) := by kernel_rfl

set_option maxRecDepth 100000 in
set_option maxHeartbeats 2000000 in
theorem places_any (v : Value) (r : RunD) (w : World) (h : RRun w.heap.size w v r) (hok : checkE r = 0) (hnd : ((placesD r).map (·.1)).Nodup) :
    Calls Try.prog 50 #[v] w fun e w' => ∃ b, e = .returned (.map (some b)) ∧ MapAt SpotD.val PlaceD.val w' b (placesD r) ∧ w.heap.size ≤ b ∧ Below w.heap.size w w' := by
  have hrun := Lib.hid h
  have Hok := Lib.hid hok
  have Hnd := Lib.hid hnd
  obtain ⟨v1, v2, v3, rfl, -, -, -⟩ := h
  have hmm := @run_makeMap Try.prog
  have b0 : ∀ o o', Below w.heap.size w ((w.alloc o).alloc o') := fun o o' => ((Below.refl _ _).alloc (Nat.le_refl _) _).alloc (by simp) _
  have hr : ∀ o o', RRun ((w.alloc o).alloc o').heap.size ((w.alloc o).alloc o') (.agg #[v1, v2, v3, .bool r.coll]) r := fun o o' => (hrun.out.below (b0 o o')).more (by simp; omega)
  have z0 : ∀ o o', ((w.alloc o).alloc o').heap.size = w.heap.size + 2 := fun o o' => by simp
  have m0 : ∀ o, MapAt SpotD.val PlaceD.val ((w.alloc o).alloc (.map #[] 0)) (w.heap.size + 1) [] := fun o => by
    have := World.alloc_heap_new (w.alloc o) (.map #[] 0)
    rw [World.size_alloc] at this
    exact this
  have B0 := Lib.hid b0
  have HR := Lib.hid hr
  have Z0 := Lib.hid z0
  have M0 := Lib.hid m0
  clear hok b0 hr z0 m0 hnd
  go_enter Try.func50, Try.ntmps50
  go_wp2_with fail
  refine (layout_any _ r _ (HR.out _ _) Hok.out).mono ?_
  rintro e w3 ⟨u, rfl, hu, hb3⟩
  have hB3 := (B0.out _ _).trans (hb3.mono (by rw [Z0.out]; omega))
  have hM3 := (M0.out _).below hb3
  have z3 : w.heap.size + 2 ≤ w3.heap.size := by have := hb3.size; rw [Z0.out] at this; exact this
  obtain ⟨A, c, rfl, hA1, hA⟩ := RAll.open_ hu.reads
  have HA := Lib.hid hA
  clear hA hu hb3
  generalize eb : w.heap.size + 1 = b at *
  have hbw : w.heap.size ≤ b := by omega
  clear eb
  go_wp2
  go_loopw [14] (fun i wr => ∃ c : Nat, c ≤ (layoutD r).length ∧ i = .int .i64 c ∧ MapAt SpotD.val PlaceD.val wr b (row3 ((layoutD r).take c)) ∧ Below w.heap.size w wr ∧ CellsKept w3 wr) (fun i _ => (layoutD r).length - (intOf i).toNat)
  case atStart => exact ⟨0, Nat.zero_le _, rfl, hM3, hB3, CellsKept.refl _⟩
  case round =>
    clear hM3 hB3
    obtain ⟨c, hc, rfl, hM, hB, hK⟩ := hrel
    by_cases hlt : c < (layoutD r).length
    · obtain ⟨S, hS⟩ : ∃ S, (layoutD r)[c]? = some S := ⟨_, List.getElem?_eq_getElem hlt⟩
      obtain ⟨g, o, u2, rfl, hb, hc1, hp⟩ := HA.out c S hS
      obtain ⟨A2, c2, rfl, hA2, hA3⟩ := RAll.open_ hp
      have hc2 := hK _ _ hc1
      have HA3 := Lib.hid hA3
      have HS := Lib.hid hS
      have hM' : MapAt SpotD.val PlaceD.val wr b (row3 ((layoutD r).take c) ++ row2 c (S.take 0)) := by simpa [row2] using hM
      clear hc1 hp hA3 hS hM
      go_wp2
      clear hc2
      go_loopw [21] (fun i wr => ∃ s : Nat, s ≤ S.length ∧ i = .int .i64 s ∧ MapAt SpotD.val PlaceD.val wr b (row3 ((layoutD r).take c) ++ row2 c (S.take s)) ∧ Below w.heap.size w wr ∧ CellsKept w3 wr) (fun i _ => S.length - (intOf i).toNat)
      case atStart => exact ⟨0, Nat.zero_le _, rfl, hM', hB, hK⟩
      case round =>
        clear hM' hB hK
        obtain ⟨s, hs, rfl, hM, hB, hK⟩ := hrel
        by_cases hlt2 : s < S.length
        · obtain ⟨l, hl⟩ : ∃ l, S[s]? = some l := ⟨_, List.getElem?_eq_getElem hlt2⟩
          obtain ⟨g2, o2, u4, rfl, hb2, hc1, hp⟩ := HA3.out s l hl
          obtain ⟨A4, c4, rfl, hA4, hA5⟩ := RSpots.open_ hp
          have hc2 := hK _ _ hc1
          have HA5 := Lib.hid hA5
          have Hl := Lib.hid hl
          have hM' : MapAt SpotD.val PlaceD.val wr b (row3 ((layoutD r).take c) ++ (row2 c (S.take s) ++ row1 c s (l.take 0))) := by simpa [row1] using hM
          clear hc1 hp hA5 hl hM
          go_wp2
          clear hc2
          go_loopw [28] (fun i wr => ∃ k : Nat, k ≤ l.length ∧ i = .int .i64 k ∧ MapAt SpotD.val PlaceD.val wr b (row3 ((layoutD r).take c) ++ (row2 c (S.take s) ++ row1 c s (l.take k))) ∧ Below w.heap.size w wr ∧ CellsKept w3 wr) (fun i _ => l.length - (intOf i).toNat)
          case atStart => exact ⟨0, Nat.zero_le _, rfl, hM', hB, hK⟩
          case round =>
            clear hM' hB hK
            obtain ⟨k, hk, rfl, hM, hB, hK⟩ := hrel
            by_cases hlt3 : k < l.length
            · obtain ⟨x, hx⟩ : ∃ x, l[k]? = some x := ⟨_, List.getElem?_eq_getElem hlt3⟩
              obtain ⟨g3, o3, rfl, hb3, hc1, hc2, hc3, hc4⟩ := HA5.out k x hx
              have hd1 := hK _ _ hc1
              have hd2 := hK _ _ hc2
              have hd3 := hK _ _ hc3
              have hd4 := hK _ _ hc4
              have hpre := done_pre HS.out Hl.out hx
              have hnew := done_new hpre Hnd.out
              have hrow : row3 ((layoutD r).take c) ++ (row2 c (S.take s) ++ row1 c s (l.take (k + 1))) = (row3 ((layoutD r).take c) ++ (row2 c (S.take s) ++ row1 c s (l.take k))) ++ [(x, ⟨c, s, k⟩)] := by
                rw [row1_next hx]; simp [List.append_assoc]
              obtain ⟨w5, hu1, hM2, hB2, hK2⟩ : ∃ w5, (Instr.mapUpdate 129 (.map (some b)) (.agg #[.int .i64 x.web, .int .i64 x.side, .int .i64 x.row, .int .i64 x.col]) (.agg #[.int .i64 c, .int .i64 s, .int .i64 k])).run Try.prog (wr.alloc (.cells #[.int .i64 x.web, .int .i64 x.side, .int .i64 x.row, .int .i64 x.col] 53)) = .ok () w5 ∧
                  MapAt SpotD.val PlaceD.val w5 b (row3 ((layoutD r).take c) ++ (row2 c (S.take s) ++ row1 c s (l.take (k + 1)))) ∧ Below w.heap.size w w5 ∧ CellsKept w3 w5 := by
                refine ⟨_, run_update_new PlaceD.val spotKey mapType (hM.alloc _) x ⟨c, s, k⟩ hnew, ?_, ?_, (hK.alloc _).putObj _ (hM.alloc _) rfl⟩
                · rw [hrow]; exact (hM.alloc _).put _ (by simp only [List.length_append, List.length_cons, List.length_nil])
                · exact (hB.alloc hB.size _).grown (grownBy_putObj' _ b _) (by have := hB.size; simp; omega) fun j e => by cases e; exact hbw
              have HU := Lib.hid hu1
              clear hc1 hc2 hc3 hc4 hpre hnew hrow hx hu1
              go_wp2_with (at_mapUpdate; refine wpList_mapUpdate_run rfl _ _ _ 129 rfl HU.out ?_)
              go_roundw
              case rel => exact ⟨k + 1, by omega, by go_num, hM2, hB2, hK2⟩
              case measure => simp [intOf]; omega
            · have hM2 : MapAt SpotD.val PlaceD.val wr b (row3 ((layoutD r).take c) ++ row2 c (S.take (s + 1))) := by
                rw [row2_next Hl.out, show l = l.take k from (List.take_of_length_le (by omega)).symm]; exact hM
              go_wp2
              go_roundw
              case rel => exact ⟨s + 1, by omega, by go_num, hM2, hB, hK⟩
              case measure => simp [intOf]; omega
        · have hM2 : MapAt SpotD.val PlaceD.val wr b (row3 ((layoutD r).take (c + 1))) := by
            rw [row3_next HS.out, show S = S.take s from (List.take_of_length_le (by omega)).symm]; exact hM
          go_wp2
          go_roundw
          case rel => exact ⟨c + 1, by omega, by go_num, hM2, hB, hK⟩
          case measure => simp [intOf]; omega
    · have hM2 : MapAt SpotD.val PlaceD.val wr b (placesD r) := by
        unfold placesD
        rw [show layoutD r = (layoutD r).take c from (List.take_of_length_le (by omega)).symm]; exact hM
      go_wp2
      go_ret
      exact ⟨b, rfl, hM2, hbw, hB⟩
end Go.Proofs.Ytdbfhdncjblleaa
