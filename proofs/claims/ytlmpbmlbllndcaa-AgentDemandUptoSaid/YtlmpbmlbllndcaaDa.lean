/-
  Accounts: the closure that adds a line.
-/
import Derived.Deep.RegionLawGrows
import Derived.Test.YtlmpbmlbllndcaaBf
namespace Go.Proofs.Ytlmpbmlbllndcaa
open Go.RowKit
attribute [local go_sem] Oper.semAt_some

structure LineD where
  what : Int
  cop : Int
  amt : Int
def LineD.cells (x : LineD) : List Value := [.int .i64 x.what, .int .i64 x.cop, .int .i64 x.amt]
theorem sliceLine : Try.prog.underlying 78 = some (.slice 84) := by kernel_rfl
theorem infoLine : (Try.prog.info? 84).map (fun i => (i.zero, i.size, i.bytes)) = some (some (.agg #[.int .i64 0, .int .i64 0, .int .i64 0]), 3, 24) := by kernel_rfl
def OLines (base : Nat) (w : World) (v : Value) (l : List LineD) : Prop := w.ownsRow base 84 3 v l.length (l.flatMap LineD.cells)
/-- An account in the making: block Ab has its lines and their sum; a pointer to it lies in block Pb. -/
structure AcSt (base Ab Pb : Nat) (l : List LineD) (s : Int) (v : Value) (X : World) : Prop where
  acc : Blk X Ab 80 #[v, .int .i64 s]
  ptr : Blk X Pb 228 #[.pointer (some ⟨Ab, 0, none⟩)]
  row : OLines base X v l
theorem AcSt.below {base Ab Pb : Nat} {l : List LineD} {s : Int} {v : Value} {X Y : World} (h : AcSt base Ab Pb l s v X) (hb : Below X.heap.size X Y) : AcSt base Ab Pb l s v Y := ⟨h.acc.below hb h.acc.lt, h.ptr.below hb h.ptr.lt, ownsRow_below h.row hb⟩
end Go.Proofs.Ytlmpbmlbllndcaa
