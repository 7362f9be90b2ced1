/-
  The reference's wrong and Right.
-/
import Derived.Test.YtdbfhdncjblleaaRp
namespace Go.Proofs.Ytdbfhdncjblleaa
open Go.RowKit

set_option maxRecDepth 100000 in
set_option maxHeartbeats 1000000 in
theorem wrong_any (v : Value) (l : List (List Int)) (w : World) (h : RIntss w.heap.size w v l) :
    Calls Try.prog 57 #[v] w fun e w' => e = .returned (.bool (!hasPagesB l)) ∧ w = w' := by
  obtain ⟨A, c, rfl, hA1, hA⟩ := h.open_
  go_enter Try.func57, Try.ntmps57
  go_wp2
  go_loop [3] (fun i => ∃ k : Nat, k ≤ l.length ∧ i = .int .i64 k ∧ Hid ((l.take k).all (fun x => x.all isPageB) = true)) (fun i => l.length - (intOf i).toNat)
  case atStart => exact ⟨0, Nat.zero_le _, rfl, rfl⟩
  case round =>
    obtain ⟨k, hk, rfl, ht⟩ := hrel
    by_cases hlt : k < l.length
    · obtain ⟨x, hx⟩ : ∃ x, l[k]? = some x := ⟨_, List.getElem?_eq_getElem hlt⟩
      obtain ⟨g, o, u, rfl, hb, hc1, hp⟩ := hA k x hx
      obtain ⟨A5, c5, rfl, hA5, hA6⟩ := RInts.open_ hp
      have Hx := Lib.hid hx
      have hki : (k : Int) < (l.length : Int) := by omega
      clear hx
      go_wp2
      go_loop [4] (fun i => ∃ m : Nat, m ≤ x.length ∧ i = .int .i64 m ∧ Hid ((x.take m).all isPageB = true)) (fun i => x.length - (intOf i).toNat)
      case atStart => exact ⟨0, Nat.zero_le _, rfl, rfl⟩
      case round =>
        obtain ⟨m, hm, rfl, hs⟩ := hrel
        by_cases hmt : m < x.length
        · obtain ⟨g2, o2, y, rfl, hb2, hc2, hy⟩ := hA6 m hmt
          have Hy : Hid (x[m]? = some y) := by
            show x[m]? = some y
            have := hy.out
            simpa [List.getD_eq_getElem?_getD, List.getElem?_eq_getElem hmt] using this
          have hmi : (m : Int) < (x.length : Int) := by omega
          clear hA hA6
          by_cases h1 : y < 0
          · have HN : Hid (!hasPagesB l) = Hid true := by
              rw [show hasPagesB l = false from all_not Hx.out (all_not Hy.out (by unfold isPageB; rw [decide_eq_false (by omega)]; rfl))]; rfl
            have HQ : Hid ((!hasPagesB l) = true) := by
              show (!hasPagesB l) = true
              rw [show hasPagesB l = false from all_not Hx.out (all_not Hy.out (by unfold isPageB; rw [decide_eq_false (by omega)]; rfl))]; rfl
            clear HN
            go_wp2
            go_ret
            exact ⟨rb HQ.out, rfl⟩
          by_cases h2 : 128 < y
          · have HQ : Hid ((!hasPagesB l) = true) := by
              show (!hasPagesB l) = true
              rw [show hasPagesB l = false from all_not Hx.out (all_not Hy.out (by unfold isPageB; rw [decide_eq_false (show ¬ y ≤ 128 by omega), Bool.and_false]))]; rfl
            go_wp2
            go_ret
            exact ⟨rb HQ.out, rfl⟩
          have HN := all_next hs Hy.out (by unfold isPageB; rw [decide_eq_true (show 0 ≤ y by omega), decide_eq_true (show y ≤ 128 by omega)]; rfl)
          go_wp2
          go_round
          case rel => exact ⟨m + 1, by omega, by go_num, HN⟩
          case measure => simp [intOf]; omega
        · have Hs := all_end hs (by omega)
          go_wp2
          go_round
          case rel => exact ⟨k + 1, by omega, by go_num, all_next ht Hx.out Hs.out⟩
          case measure => simp [intOf]; omega
    · have Ht := all_end ht (by omega)
      have HQ : Hid ((!hasPagesB l) = false) := by
        show (!hasPagesB l) = false
        rw [show hasPagesB l = true from Ht.out]; rfl
      go_wp2
      go_ret
      exact ⟨rb HQ.out, rfl⟩

def okP (p : PlateD) (page : Int) : Bool := decide (p.page = page) && !(decide (p.page ≠ 0) && p.up)
def ok1 (l : List PlateD) (sec : List Int) (n : Nat) : Prop := ∀ (i : Nat) p page, i < n → l[i]? = some p → sec[i]? = some page → okP p page = true
def ok2 (S : List (List PlateD)) (product : List (List Int)) (n : Nat) : Prop := ∀ (k : Nat) l sec, k < n → S[k]? = some l → product[k]? = some sec → l.length = sec.length ∧ ok1 l sec l.length
def ok3 (C : List (List (List PlateD))) (product : List (List Int)) (n : Nat) : Prop := ∀ (c : Nat) S, c < n → C[c]? = some S → S.length = product.length ∧ ok2 S product S.length
theorem ok1_next {l : List PlateD} {sec : List Int} {n : Nat} {p : PlateD} {page : Int} (h : Hid (ok1 l sec n)) (hp : l[n]? = some p) (hg : sec[n]? = some page) (ho : okP p page = true) : Hid (ok1 l sec (n + 1)) := fun i q g hi hq hg' => by
  rcases Nat.lt_or_ge i n with h1 | h1
  · exact h.out i q g h1 hq hg'
  · obtain rfl : i = n := by omega
    rw [hp] at hq
    rw [hg] at hg'
    cases hq
    cases hg'
    exact ho
theorem ok2_next {S : List (List PlateD)} {product : List (List Int)} {n : Nat} {l : List PlateD} {sec : List Int} (h : Hid (ok2 S product n)) (hl : S[n]? = some l) (hs : product[n]? = some sec) (he : l.length = sec.length) (ho : ok1 l sec l.length) : Hid (ok2 S product (n + 1)) := fun i q g hi hq hg => by
  rcases Nat.lt_or_ge i n with h1 | h1
  · exact h.out i q g h1 hq hg
  · obtain rfl : i = n := by omega
    rw [hl] at hq
    rw [hs] at hg
    cases hq
    cases hg
    exact ⟨he, ho⟩
theorem ok3_next {C : List (List (List PlateD))} {product : List (List Int)} {n : Nat} {S : List (List PlateD)} (h : Hid (ok3 C product n)) (hS : C[n]? = some S) (he : S.length = product.length) (ho : ok2 S product S.length) : Hid (ok3 C product (n + 1)) := fun i q hi hq => by
  rcases Nat.lt_or_ge i n with h1 | h1
  · exact h.out i q h1 hq
  · obtain rfl : i = n := by omega
    rw [hS] at hq
    cases hq
    exact ⟨he, ho⟩
theorem copies_at {r : RunD} {c : Nat} {S' : List (List PlateD)} (h : (copiesD r)[c]? = some S') : ∃ S, (layoutD r)[c]? = some S ∧ S' = S.map fun l => l.map (plateAt r.webs) := by
  unfold copiesD at h
  rw [List.getElem?_map] at h
  obtain ⟨S, h1, h2⟩ := Option.map_eq_some_iff.1 h
  exact ⟨S, h1, h2.symm⟩
theorem sec_at {r : RunD} {S : List (List SpotD)} {k : Nat} {l' : List PlateD} (h : (S.map fun l => l.map (plateAt r.webs))[k]? = some l') : ∃ l, S[k]? = some l ∧ l' = l.map (plateAt r.webs) := by
  rw [List.getElem?_map] at h
  obtain ⟨l, h1, h2⟩ := Option.map_eq_some_iff.1 h
  exact ⟨l, h1, h2.symm⟩
theorem leaf_at {r : RunD} {l : List SpotD} {i : Nat} {p : PlateD} (h : (l.map (plateAt r.webs))[i]? = some p) : ∃ s, l[i]? = some s ∧ plateAt r.webs s = p := by
  rw [List.getElem?_map] at h
  obtain ⟨s, h1, h2⟩ := Option.map_eq_some_iff.1 h
  exact ⟨s, h1, h2⟩
theorem page_pos {r : RunD} (h : checkE r = 0) {c k i : Nat} {S : List (List PlateD)} {l : List PlateD} {p : PlateD} (hS : (copiesD r)[c]? = some S) (hl : S[k]? = some l) (hp : l[i]? = some p) : 0 ≤ p.page := by
  obtain ⟨S0, h1, rfl⟩ := copies_at hS
  obtain ⟨l0, h2, rfl⟩ := sec_at hl
  obtain ⟨s, h3, h4⟩ := leaf_at hp
  obtain ⟨m, x, hok⟩ := layout_spot h h1 h2 h3
  obtain ⟨kk, q, hq, -, -, e, -⟩ := plate_spot hok
  rw [h4] at e
  subst e
  have hw := List.all_eq_true.1 (show websB r = true by
    have h1 : partE r 1 = 0 := parts_ok h 1 (by omega)
    have h2 : websE r = 0 := h1
    unfold websE at h2
    cases hb : websB r with
    | true => rfl
    | false => rw [hb] at h2; simp at h2) x (List.mem_of_getElem? hok.there)
  unfold webB at hw
  simp only [Bool.and_eq_true] at hw
  have := List.all_eq_true.1 hw.2 p (List.mem_of_getElem? hq)
  unfold isPageB at this
  simp only [Bool.and_eq_true, decide_eq_true_eq] at this
  exact this.1
theorem right_bad {r : RunD} {product : List (List Int)} (h : checkE r ≠ 0) : rightV r product = .tuple #[.bool false, .int .i64 (checkE r)] := by unfold rightV; rw [if_pos h]
theorem right_pages {r : RunD} {product : List (List Int)} (h : checkE r = 0) (hp : hasPagesB product = false) : rightV r product = .tuple #[.bool false, .int .i64 6] := by unfold rightV; rw [if_neg (by rw [h]; simp), if_pos hp]
theorem right_sizes {r : RunD} {product : List (List Int)} (h : checkE r = 0) (hp : hasPagesB product = true) (hs : hasSizesB r product = false) : rightV r product = .tuple #[.bool false, .int .i64 0] := by unfold rightV; rw [if_neg (by rw [h]; simp), if_neg (by rw [hp]; simp), if_pos hs]
theorem sizes_not {r : RunD} (h : checkE r = 0) {product : List (List Int)} {c : Nat} {S : List (List PlateD)} (hS : (copiesD r)[c]? = some S) (hn : (S.map fun l => (l.length : Int)) ≠ lensD product) : hasSizesB r product = false := by
  obtain ⟨S0, h1, rfl⟩ := copies_at hS
  have := alike h h1
  refine decide_eq_false fun e => hn ?_
  rw [← e, ← this]
  simp
theorem right_len {r : RunD} {product : List (List Int)} (h : checkE r = 0) (hp : hasPagesB product = true) {c : Nat} {S : List (List PlateD)} (hS : (copiesD r)[c]? = some S) (hn : S.length ≠ product.length) : rightV r product = .tuple #[.bool false, .int .i64 0] :=
  right_sizes h hp (sizes_not h hS fun e => hn (by have := congrArg List.length e; simpa [lensD] using this))
theorem right_sec {r : RunD} {product : List (List Int)} (h : checkE r = 0) (hp : hasPagesB product = true) {c k : Nat} {S : List (List PlateD)} {l : List PlateD} {sec : List Int} (hS : (copiesD r)[c]? = some S) (hl : S[k]? = some l) (hx : product[k]? = some sec) (hn : l.length ≠ sec.length) : rightV r product = .tuple #[.bool false, .int .i64 0] :=
  right_sizes h hp (sizes_not h hS fun e => hn (by
    have := congrArg (fun z => z[k]?) e
    simp only [lensD, List.getElem?_map, hl, hx, Option.map_some, Option.some.injEq] at this
    omega))
theorem right_at {r : RunD} {product : List (List Int)} (h : checkE r = 0) (hp : hasPagesB product = true) {c k i : Nat} {S : List (List PlateD)} {l : List PlateD} {sec : List Int} {p : PlateD} {page : Int} (hS : (copiesD r)[c]? = some S) (hl : S[k]? = some l) (hi : l[i]? = some p) (hx : product[k]? = some sec) (hg : sec[i]? = some page) (hn : okP p page = false) : rightV r product = .tuple #[.bool false, .int .i64 0] := by
  cases hs : hasSizesB r product with
  | false => exact right_sizes h hp hs
  | true =>
    obtain ⟨S0, h1, rfl⟩ := copies_at hS
    obtain ⟨l0, h2, rfl⟩ := sec_at hl
    obtain ⟨s, h3, h4⟩ := leaf_at hi
    have hb : rightB r product = false := by
      cases hb : rightB r product with
      | false => rfl
      | true =>
        have := List.all_eq_true.1 hb (s, ⟨c, k, i⟩) (place_mem.2 ⟨c, k, i, S0, l0, rfl, h1, h2, h3⟩)
        unfold okAt at this
        simp only [h4] at this
        have e : pageOf product ⟨c, k, i⟩ = page := by unfold pageOf; simp only [Int.toNat_natCast]; rw [getD_of hx, getD_of hg]
        rw [e] at this
        unfold okP at hn
        rw [hn] at this
        cases this
    unfold rightV
    rw [if_neg (by rw [h]; simp), if_neg (by rw [hp]; simp), if_neg (by rw [hs]; simp), hb]
theorem right_all {r : RunD} {product : List (List Int)} (h : checkE r = 0) (hp : hasPagesB product = true) (hall : ok3 (copiesD r) product (copiesD r).length) : rightV r product = .tuple #[.bool true, .int .i64 0] := by
  have hget : ∀ (c : Nat) (S : List (List SpotD)), (layoutD r)[c]? = some S → (copiesD r)[c]? = some (S.map fun l => l.map (plateAt r.webs)) := fun c S hS => by unfold copiesD; rw [List.getElem?_map, hS]; rfl
  have hok : ∀ (c : Nat) (S : List (List SpotD)), (layoutD r)[c]? = some S → S.length = product.length ∧ ∀ (k : Nat) l sec, S[k]? = some l → product[k]? = some sec → l.length = sec.length ∧ ∀ (i : Nat) s page, l[i]? = some s → sec[i]? = some page → okP (plateAt r.webs s) page = true := fun c S hS => by
    have h1 := hget c S hS
    obtain ⟨e, h2⟩ := hall c _ (List.getElem?_eq_some_iff.1 h1).1 h1
    rw [List.length_map] at e
    refine ⟨e, fun k l sec hl hx => ?_⟩
    obtain ⟨e2, h3⟩ := h2 k (l.map (plateAt r.webs)) sec (by rw [List.length_map]; exact (List.getElem?_eq_some_iff.1 hl).1) (by rw [List.getElem?_map, hl]; rfl) hx
    rw [List.length_map] at e2
    refine ⟨e2, fun i s page hs hg => ?_⟩
    exact h3 i (plateAt r.webs s) page (by rw [List.length_map]; exact (List.getElem?_eq_some_iff.1 hs).1) (by rw [List.getElem?_map, hs]; rfl) hg
  have hs : hasSizesB r product = true := by
    obtain ⟨S, hS⟩ := layout_pos h
    obtain ⟨e, h2⟩ := hok 0 S hS
    refine decide_eq_true ?_
    rw [← alike h hS]
    unfold lensD
    refine List.ext_getElem? fun k => ?_
    rw [List.getElem?_map, List.getElem?_map]
    rcases Nat.lt_or_ge k S.length with hk | hk
    · have h3 := List.getElem?_eq_getElem hk
      have h4 := List.getElem?_eq_getElem (l := product) (i := k) (by omega)
      have := (h2 k _ _ h3 h4).1
      rw [h3, h4]
      simp only [Option.map_some, Option.some.injEq]
      omega
    · rw [List.getElem?_eq_none hk, List.getElem?_eq_none (l := product) (by omega)]
      rfl
  have hb : rightB r product = true := by
    refine List.all_eq_true.2 fun x hx => ?_
    obtain ⟨s, p⟩ := x
    obtain ⟨c, k, i, S, l, rfl, hS, hl, hi⟩ := place_mem.1 hx
    obtain ⟨e, h2⟩ := hok c S hS
    have h4 := List.getElem?_eq_getElem (l := product) (i := k) (by have := (List.getElem?_eq_some_iff.1 hl).1; omega)
    obtain ⟨e2, h3⟩ := h2 k l _ hl h4
    have h5 := List.getElem?_eq_getElem (l := product[k]'(by have := (List.getElem?_eq_some_iff.1 hl).1; omega)) (i := i) (by have := (List.getElem?_eq_some_iff.1 hi).1; omega)
    have h6 := h3 i s _ hi h5
    unfold okAt
    have e3 : pageOf product ⟨c, k, i⟩ = (product[k]'(by have := (List.getElem?_eq_some_iff.1 hl).1; omega))[i]'(by have := (List.getElem?_eq_some_iff.1 hi).1; omega) := by unfold pageOf; simp only [Int.toNat_natCast]; rw [getD_of h4, getD_of h5]
    simp only [e3]
    exact h6
  unfold rightV
  rw [if_neg (by rw [h]; simp), if_neg (by rw [hp]; simp), if_neg (by rw [hs]; simp), hb]
end Go.Proofs.Ytdbfhdncjblleaa
