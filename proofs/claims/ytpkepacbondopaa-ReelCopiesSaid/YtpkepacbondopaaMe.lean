/-
  slices.Repeat of one number (from the register's texts).
-/
import Derived.Laws.CopyOwn
import Derived.Deep.RegionLaw
import Derived.Test.YtpkepacbondopaaLa
namespace Go.Proofs.Ytpkepacbondopaa
open Go.RowKit

theorem u64_and (k : Int) (h0 : 0 ≤ k) (h1 : k ≤ 1000) : bits .and .u64 k 4294967295 = k := by
  have hm : (BitVec.ofInt 64 4294967295).toNat = 2 ^ 32 - 1 := by decide
  have key : (BitVec.ofInt 64 k &&& BitVec.ofInt 64 4294967295).toNat = (k % ((2 ^ 64 : Nat) : Int)).toNat % 2 ^ 32 := by
    rw [BitVec.toNat_and, BitVec.toNat_ofInt, hm, Nat.and_two_pow_sub_one_eq_mod]
  show IntKind.u64.wrap ((BitVec.ofInt 64 k &&& BitVec.ofInt 64 4294967295).toNat : Nat) = k
  rw [key]
  simp [IntKind.wrap, IntKind.bits, IntKind.signed]
  omega
theorem u64_in (k : Int) (h0 : 0 ≤ k) (h1 : k ≤ 1000) : IntKind.u64.wrap k = k := by
  simp [IntKind.wrap, IntKind.bits, IntKind.signed]
  omega

set_option maxRecDepth 100000 in
set_option maxHeartbeats 1000000 in
theorem mul64_any (k : Int) (h0 : 0 ≤ k) (h1 : k ≤ 1000) (w : World) : Calls Try.prog 174 #[.int .u64 1, .int .u64 k] w fun e w' => e = .returned (.tuple #[.int .u64 0, .int .u64 k]) ∧ w = w' := by
  have a0 : bits .and .u64 0 4294967295 = 0 := u64_and 0 (by omega) (by omega)
  have a1 : bits .and .u64 1 4294967295 = 1 := u64_and 1 (by omega) (by omega)
  have a2 := u64_and k h0 h1
  have a3 := u64_in k h0 h1
  have a4 : IntKind.u64.wrap 0 = 0 := u64_in 0 (by omega) (by omega)
  have a5 : k / 4294967296 = 0 := by omega
  go_enter Try.func174, Try.ntmps174
  go_wp2
  go_ret2
  exact ⟨rfl, rfl⟩
set_option maxRecDepth 100000 in
set_option maxHeartbeats 1000000 in
theorem mul_any (k : Int) (h0 : 0 ≤ k) (h1 : k ≤ 1000) (w : World) : Calls Try.prog 153 #[.int .u64 1, .int .u64 k] w fun e w' => e = .returned (.tuple #[.int .u64 0, .int .u64 k]) ∧ w = w' := by
  go_enter Try.func153, Try.ntmps153
  go_wp2_with fail
  refine (mul64_any k h0 h1 _).mono ?_
  rintro e w' ⟨rfl, rfl⟩
  go_wp2
  go_ret2
  exact ⟨rfl, rfl⟩

theorem makeInts (k : Nat) (hk : k ≤ 1000000) (u : World) : (Instr.makeSlice 30 (.int .i64 k) (.int .i64 k)).run Try.prog u =
      .ok (.slice (some ⟨u.heap.size, 0, none⟩) k k) (u.alloc (.cells (Array.replicate k (.int .i64 0)) 3)) := by
  obtain ⟨i0, hi, hz0, hz1, hz2⟩ := info_parts infoInt0
  have h := run_make (P := Try.prog) u 30 3 i0 (.int .i64 0) Try.underlying30 hi hz0 .i64 .i64 (k : Int) (k : Int) (by omega) (Int.le_refl _) (by rw [hz2]; omega) (by omega)
  rw [Int.toNat_natCast] at h
  have e : madeCells (Value.cells (.int .i64 0)) (k * i0.size) = Array.replicate k (.int .i64 0) := by
    rw [hz1, Nat.mul_one]
    apply Array.ext
    · simp [madeCells]
    · intro i h1 h2
      simp [madeCells, Value.cells, Nat.mod_one]
  rw [e] at h
  exact h

/-- A row whose first m cells hold x. -/
def RepSt (w0 w : World) (G : Nat) (x : Int) (k m : Nat) : Prop := Blk w G 3 (List.replicate m (Value.int .i64 x) ++ List.replicate (k - m) (Value.int .i64 0)).toArray ∧ w0.heap.size ≤ G ∧ Below w0.heap.size w0 w
theorem rep_splice (x : Int) (k m c : Nat) (h : m + c ≤ k) : splice (List.replicate m (Value.int .i64 x) ++ List.replicate (k - m) (Value.int .i64 0)) m (List.replicate c (Value.int .i64 x)) = List.replicate (m + c) (Value.int .i64 x) ++ List.replicate (k - (m + c)) (Value.int .i64 0) := by
  unfold splice
  rw [List.length_replicate, List.take_left' (by simp), List.drop_append, List.drop_of_length_le (by simp), List.nil_append, List.drop_replicate, List.length_replicate, ← List.append_assoc, List.replicate_append_replicate]
  congr 2
  omega
theorem RepSt.done {w0 w : World} {G : Nat} {x : Int} {k : Nat} (h : RepSt w0 w G x k k) (hk : k ≤ maxLen) : OInts w0.heap.size w (.slice (some ⟨G, 0, none⟩) k k) (List.replicate k x) := by
  obtain ⟨hB, hG, -⟩ := h
  unfold OInts
  rw [List.length_replicate]
  refine ⟨by simp, .inr ⟨G, k, _, rfl, hG, hB, Nat.le_refl _, hk, by simp, ?_⟩⟩
  simp

set_option maxRecDepth 100000 in
set_option maxHeartbeats 2000000 in
theorem Repeat_any (x : Int) (k : Nat) (h1 : 1 ≤ k) (h2 : k ≤ 1000) (v : Value) (w : World) (h : RInts w.heap.size w v [x]) :
    Calls Try.prog 122 #[v, .int .i64 k] w fun e w' => ∃ u, e = .returned u ∧ OInts w.heap.size w' u (List.replicate k x) ∧ Below w.heap.size w w' := by
  obtain ⟨A, c, rfl, -, hr⟩ := h.open_
  obtain ⟨g, o, y, rfl, hg, hc, hy⟩ := hr 0 (by simp)
  obtain rfl : x = y := hy.out
  have hmk := makeInts k (by omega)
  have CM := Lib.hid (mul_any k (by omega) (by omega))
  have u1 : IntKind.u64.wrap k = k := u64_in _ (by omega) (by omega)
  have F : ∃ w1, w.alloc (.cells (Array.replicate k (.int .i64 0)) 3) = w1 ∧ Below w.heap.size w w1 ∧ Blk w1 w.heap.size 3 (List.replicate k (Value.int .i64 0)).toArray := ⟨_, rfl, below_alloc _ _, by have := Blk.new w 3 (Array.replicate k (Value.int .i64 0)); rwa [show (List.replicate k (Value.int .i64 0)).toArray = Array.replicate k (.int .i64 0) by simp]⟩
  obtain ⟨w1, e1, B1, V1⟩ := F
  have E1 := Lib.hid e1
  have hc1 := (B1.cell (p := ⟨g, o + 0, none⟩) hg).trans hc
  rw [Nat.add_zero] at hc1
  obtain ⟨G, hG⟩ : ∃ G, w.heap.size = G := ⟨_, rfl⟩
  have HV := Lib.hid V1
  have HB := Lib.hid B1
  clear e1 h hr hc V1 B1 hy
  simp only [List.length_singleton]
  go_enter Try.func122, Try.ntmps122
  go_wp2_with fail
  refine (CM.out _).mono ?_
  rintro e w' ⟨rfl, rfl⟩
  go_upto_region 7 with fail
  rw [E1.out]
  clear hmk u1 CM
  rw [hG] at HV
  have hbase : w.heap.size ≤ G := by omega
  have hcs : ∀ j u, [Value.int .i64 x][j]? = some u → w1.cell? ((⟨g, o, none⟩ : Addr).add j) = some u := fun j u hu => by
    have hj := (List.getElem?_eq_some_iff.1 hu).1
    obtain rfl : j = 0 := by simpa using hj
    obtain rfl : Value.int .i64 x = u := by simpa using hu
    rw [Addr.add_lit, Nat.add_zero]
    exact hc1
  have HCs := Lib.hid hcs
  have hsz : (Try.prog.info? 3).map (·.size) = some 1 := by kernel_rfl
  have HSz := Lib.hid hsz
  have HBase := Lib.hid hbase
  clear hcs hsz hc1 hG hbase
  go_wp2_with (refine wpList_copy_splice (o := ⟨some 33, _, _, _, _, _⟩) rfl (.tmp 31) (.tmp 32) 30 30 rfl 3 sliceInts HSz.out (some ⟨G, 0, none⟩) (some ⟨g, o, none⟩) k k 1 c rfl rfl G 0 (List.replicate k (Value.int .i64 0)) 3 HV.out [.int .i64 x] (Nat.min_eq_left h1).symm (fun _ => ⟨rfl, ⟨g, o, none⟩, rfl, HCs.out⟩) (by simp; omega) (by simp [Value.oneCell']) w.heap.size w HB.out HBase.out ?_; intro w2 hg2 hb2)
  have HS : Hid (RepSt w w2 G x k 1) := ⟨by
    have h3 := rep_splice x k 0 1 (by omega)
    have h4 := hg2.out
    simp only [List.replicate_zero, List.nil_append, Nat.sub_zero, Nat.zero_add] at h3
    rw [← h3]
    exact h4, HBase.out, hb2⟩
  clear HV HB hg2 hb2 HCs
  go_wp2
  go_loopw [8] (fun n wr => ∃ m : Nat, 1 ≤ m ∧ m ≤ k ∧ n = .int .i64 m ∧ RepSt w wr G x k m) (fun n _ => k - (intOf n).toNat)
  case atStart => exact ⟨1, by omega, h1, rfl, HS.out⟩
  case round =>
    obtain ⟨m, hm1, hm2, rfl, hst⟩ := hrel
    by_cases hlt : m < k
    · obtain ⟨q, hq⟩ : ∃ q, Nat.min m (k - m) = q := ⟨_, rfl⟩
      have hq1 : 1 ≤ q ∧ q ≤ m ∧ m + q ≤ k := by
        have : min m (k - m) = q := hq
        omega
      have hN : ∀ X : World, Hid (X.heap[G]? = some (.cells (splice (List.replicate m (Value.int .i64 x) ++ List.replicate (k - m) (Value.int .i64 0)) m (List.replicate q (Value.int .i64 x))).toArray 3 (0, 0))) → Below w.heap.size w X → RepSt w X G x k (m + q) := fun X h3 h4 => by
        have h5 := h3.out
        rw [rep_splice x k m q hq1.2.2] at h5
        exact ⟨h5, HBase.out, h4⟩
      have hcs : ∀ X : World, X.heap = wr.heap → ∀ j u, (List.replicate q (Value.int .i64 x))[j]? = some u → X.cell? ((⟨G, 0, none⟩ : Addr).add j) = some u := fun X hX j u hu => by
        have hj := (List.getElem?_eq_some_iff.1 hu).1
        rw [List.length_replicate] at hj
        rw [List.getElem?_replicate, if_pos hj] at hu
        cases hu
        have hB : Blk X G 3 (List.replicate m (Value.int .i64 x) ++ List.replicate (k - m) (Value.int .i64 0)).toArray := by unfold Blk; rw [hX]; exact hst.1
        rw [Addr.add_lit, Nat.zero_add, hB.cell]
        rw [List.getElem?_toArray, List.getElem?_append_left (by rw [List.length_replicate]; omega), List.getElem?_replicate, if_pos (by omega)]
      have HCs := Lib.hid hcs
      have HN := Lib.hid hN
      have HSt := Lib.hid hst
      have hqm : m + q ≤ k := hq1.2.2
      have kw : IntKind.i64.wrap ((m : Int) + (q : Int)) = (m : Int) + (q : Int) := IntWalk.i64_in _ ⟨by omega, by omega⟩
      have ik : (m : Int) < (k : Int) := by omega
      have ik0 : (0 : Int) ≤ (m : Int) := by omega
      have ik2 : (m : Int) ≤ (k : Int) := by omega
      have Hq := Lib.hid hq
      obtain ⟨hq1, hq2, -⟩ := hq1
      clear hN hcs hst hq
      go_upto_region 9 with fail
      have hrun : ∃ w3, (Builtin.copy_ #[30, 30] 3 #[.slice (some ⟨G, m, none⟩) (k - m) (k - m), .slice (some ⟨G, 0, none⟩) m k]).run Try.prog wr.drew = .ok (.int .i64 q) w3 ∧ RepSt w w3 G x k (m + q) := by
        have hr := run_copy_row (P := Try.prog) (w := wr.drew) 30 30 3 3 G m (k - m) (k - m) ⟨G, 0, none⟩ m k (List.replicate m (Value.int .i64 x) ++ List.replicate (k - m) (Value.int .i64 0)).toArray 3 (List.replicate q (Value.int .i64 x)) sliceInts HSz.out HSt.out.1 (by rw [List.length_replicate]; exact Hq.out.symm) (HCs.out _ rfl) (by simp; omega) (by simp [Value.oneCell'])
        rw [List.length_replicate, List.append_assoc] at hr
        refine ⟨_, hr, HN.out _ ?_ ?_⟩
        · have h5 := setRow_heap wr.drew G _ ((List.replicate m (Value.int .i64 x) ++ List.replicate (k - m) (Value.int .i64 0)).take m ++ (List.replicate q (Value.int .i64 x) ++ (List.replicate m (Value.int .i64 x) ++ List.replicate (k - m) (Value.int .i64 0)).drop (m + q))).toArray 3 _ HSt.out.1
          show _ = _
          unfold splice
          rw [List.length_replicate]
          exact h5
        · exact below_setRow HSt.out.2.2.drew HBase.out _
      obtain ⟨w3, hrun, hst3⟩ := hrun
      have HSt3 := Lib.hid hst3
      clear hst3
      go_region
      all_goals
        clear hrun kw
        go_wp2
        go_roundw
        case rel => exact ⟨m + q, by omega, by omega, by go_num, HSt3.out⟩
        case measure => simp [intOf]; omega
    · have hk' : m = k := by omega
      subst hk'
      have HR := Lib.hid (hst.done (by simp only [maxLen]; omega))
      have HB := Lib.hid hst.2.2
      clear hst
      go_wp2
      go_ret
      exact ⟨_, rfl, HR.out, HB.out⟩
end Go.Proofs.Ytpkepacbondopaa
