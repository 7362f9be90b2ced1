/-
  hasSizes.
-/
import Derived.Test.YtdbfhdncjblleaaU
import Derived.Test.YtdbfhdncjblleaaZP
namespace Go.Proofs.Ytdbfhdncjblleaa
open Go.RowKit

def hasSizesB (r : RunD) (product : List (List Int)) : Bool := decide (sizesD r = lensD product)

set_option maxRecDepth 100000 in
set_option maxHeartbeats 1000000 in
theorem hasSizes_any (v pv : Value) (r : RunD) (product : List (List Int)) (w : World) (h : RRun w.heap.size w v r) (hok : checkE r = 0) (hp : RIntss w.heap.size w pv product) :
    Calls Try.prog 55 #[v, pv] w fun e w' => e = .returned (.bool (hasSizesB r product)) ∧ Below w.heap.size w w' := by
  have hrun := Lib.hid h
  have Hok := Lib.hid hok
  have Hp := Lib.hid hp
  obtain ⟨A1, c1, A2, c2, A3, c3, rfl⟩ := h.shape
  obtain ⟨Ap, cp, rfl, -⟩ := RAll.open_ hp
  have hsm := Lib.hid (layout_small hok)
  clear h hok hp
  have F0 : ∃ W0, w.alloc (.cells #[.slice A1 r.webs.length c1, .slice A2 r.ribs.length c2, .slice A3 r.stacks.length c3, .bool r.coll] 111) = W0 ∧ Below w.heap.size w W0 ∧ Blk W0 w.heap.size 111 #[.slice A1 r.webs.length c1, .slice A2 r.ribs.length c2, .slice A3 r.stacks.length c3, .bool r.coll] :=
    ⟨_, rfl, (Below.refl _ _).alloc (Nat.le_refl _) _, Blk.new _ _ _⟩
  obtain ⟨W0, e0, B0, V0⟩ := F0
  have E0 := Lib.hid e0
  clear e0
  go_enter Try.func55, Try.ntmps55
  go_wp2_with fail
  rw [E0.out]
  refine (sizes_any _ r _ ((hrun.out.below B0).more B0.size) Hok.out hsm.out).mono ?_
  rintro e w3 ⟨u, rfl, hu, hb3⟩
  have B3 : Below w.heap.size w w3 := B0.trans (hb3.mono B0.size)
  have hi : RInts w3.heap.size w3 u (sizesD r) := Rd.own (by simpa using hu) (own_le hu)
  have hq : RIntss w3.heap.size w3 (.slice Ap product.length cp) product := (Hp.out.below B3).more B3.size
  have C := Lib.hid (equalFunc_any _ _ _ _ w3 hi hq)
  clear hu hb3 V0 hi hq
  go_wp2_with fail
  refine C.out.mono ?_
  rintro e w4 ⟨rfl, rfl⟩
  go_wp2
  go_ret
  exact ⟨rfl, B3⟩
end Go.Proofs.Ytdbfhdncjblleaa
