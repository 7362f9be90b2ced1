/-
  No cell of these rows narrows 'for every input' (looked for: loops, veiled, ifaces, maps, wideKeys, modest, calm, conditions, laid).
  DERIVED. THE GIVEN ROWS OF THIS SEAT. 7 by the template 'for every input the law returns true; each argument reads behind the call as it read before'; 0 by the template 'total and deterministic' (their statements: YtdbfhdncjblleaaTotals.lean).
  GIVEN WITH THE SEED: the statements are not yours to turn. If you find one false, say at which input.
  Laid BY PROGRAM, IN A SANDBOX (cutbox-rows.mjs): the forced cells as the released guide's own fill.sh prints them over the translation 852ef0911ebdb33d… (all of the seat's roots in one cut). By AI agents, Wed Nov 11 2026. No macro, syntax, notation, axiom, sorry.
-/
import Derived.Test.YtdbfhdncjblleaaChecked
import GoSem.Claim
import GoSem.ClaimJoined
import GoSem.ClaimMapViews
import Derived.JoinedTies
import Derived.KernelRfl
namespace Go.Proofs.Ytdbfhdncjblleaa
/- THE CELL 'sum', in the pinned program and in every row, IS THE sha256 OF THE DUMP (.gsa) THAT YtdbfhdncjblleaaProg.lean LOADS. Nothing in Lean hashes anything: it is a label: what it is worth is what the hold of that sum in a sandbox is worth. -/
noncomputable def Try.pinned : Pinned := { name := "ytdbfhdncjblleaa", sum := "852ef0911ebdb33d47c2de1abda559ebd85e2a83e9ed5a34c839dab47a5beb85", checked := Try.checked }
namespace Rows
def none {H : Type} : Left H := { results := [], args := [] }

/-- 'foldhouselaw01.FoldReads': WHATEVER THE INPUT: true; the input reads as it did. -/
def foldReadsSpec : ChangeSpec := { name := "foldReads", fn := fun _ => fun
  | [d1, d2, d3, d4] => { results := [.lit (.bool true)], args := [d1, d2, d3, d4] }
  | _ => none }
def foldReadsRow : OpenClaim := { program := "ytdbfhdncjblleaa", sum := "852ef0911ebdb33d47c2de1abda559ebd85e2a83e9ed5a34c839dab47a5beb85", func := "foldhouse/foldhouselaw01.FoldReads", spec := "foldReads", unfollowed := true, recurses := true, plainKeys := false, apart := false }
def FoldReadsSaid : Prop := foldReadsRow.holds Try.pinned (OpenSpec.ofChange foldReadsSpec)

/-- ITS FALSE NEIGHBOUR: 'it returns false'. Refute it at one input. -/
def foldReadsWrong : ChangeSpec := { name := "foldReads", fn := fun _ => fun
  | [d1, d2, d3, d4] => { results := [.lit (.bool false)], args := [d1, d2, d3, d4] }
  | _ => none }
def FoldReadsWrongFalsely : Prop := foldReadsRow.holds Try.pinned (OpenSpec.ofChange foldReadsWrong)

/-- 'foldhouselaw01.FoldFills': WHATEVER THE INPUT: true; the input reads as it did. -/
def foldFillsSpec : ChangeSpec := { name := "foldFills", fn := fun _ => fun
  | [d1, d2, d3] => { results := [.lit (.bool true)], args := [d1, d2, d3] }
  | _ => none }
def foldFillsRow : OpenClaim := { program := "ytdbfhdncjblleaa", sum := "852ef0911ebdb33d47c2de1abda559ebd85e2a83e9ed5a34c839dab47a5beb85", func := "foldhouse/foldhouselaw01.FoldFills", spec := "foldFills", unfollowed := true, recurses := true, plainKeys := false, apart := false }
def FoldFillsSaid : Prop := foldFillsRow.holds Try.pinned (OpenSpec.ofChange foldFillsSpec)

/-- ITS FALSE NEIGHBOUR: 'it returns false'. Refute it at one input. -/
def foldFillsWrong : ChangeSpec := { name := "foldFills", fn := fun _ => fun
  | [d1, d2, d3] => { results := [.lit (.bool false)], args := [d1, d2, d3] }
  | _ => none }
def FoldFillsWrongFalsely : Prop := foldFillsRow.holds Try.pinned (OpenSpec.ofChange foldFillsWrong)

/-- 'foldhouselaw01.FoldSmall': WHATEVER THE INPUT: true; the input reads as it did. -/
def foldSmallSpec : ChangeSpec := { name := "foldSmall", fn := fun _ => fun
  | [] => { results := [.lit (.bool true)], args := [] }
  | _ => none }
def foldSmallRow : OpenClaim := { program := "ytdbfhdncjblleaa", sum := "852ef0911ebdb33d47c2de1abda559ebd85e2a83e9ed5a34c839dab47a5beb85", func := "foldhouse/foldhouselaw01.FoldSmall", spec := "foldSmall", unfollowed := true, recurses := true, plainKeys := false, apart := false }
def FoldSmallSaid : Prop := foldSmallRow.holds Try.pinned (OpenSpec.ofChange foldSmallSpec)

/-- ITS FALSE NEIGHBOUR: 'it returns false'. Refute it at one input. -/
def foldSmallWrong : ChangeSpec := { name := "foldSmall", fn := fun _ => fun
  | [] => { results := [.lit (.bool false)], args := [] }
  | _ => none }
def FoldSmallWrongFalsely : Prop := foldSmallRow.holds Try.pinned (OpenSpec.ofChange foldSmallWrong)

/-- 'foldhouselaw01.FoldBoth': WHATEVER THE INPUT: true; the input reads as it did. -/
def foldBothSpec : ChangeSpec := { name := "foldBoth", fn := fun _ => fun
  | [d] => { results := [.lit (.bool true)], args := [d] }
  | _ => none }
def foldBothRow : OpenClaim := { program := "ytdbfhdncjblleaa", sum := "852ef0911ebdb33d47c2de1abda559ebd85e2a83e9ed5a34c839dab47a5beb85", func := "foldhouse/foldhouselaw01.FoldBoth", spec := "foldBoth", unfollowed := true, recurses := true, plainKeys := false, apart := false }
def FoldBothSaid : Prop := foldBothRow.holds Try.pinned (OpenSpec.ofChange foldBothSpec)

/-- ITS FALSE NEIGHBOUR: 'it returns false'. Refute it at one input. -/
def foldBothWrong : ChangeSpec := { name := "foldBoth", fn := fun _ => fun
  | [d] => { results := [.lit (.bool false)], args := [d] }
  | _ => none }
def FoldBothWrongFalsely : Prop := foldBothRow.holds Try.pinned (OpenSpec.ofChange foldBothWrong)

/-- 'foldhouselaw01.FoldRight': WHATEVER THE INPUT: true; the input reads as it did. -/
def foldRightSpec : ChangeSpec := { name := "foldRight", fn := fun _ => fun
  | [d1, d2, d3, d4, d5] => { results := [.lit (.bool true)], args := [d1, d2, d3, d4, d5] }
  | _ => none }
def foldRightRow : OpenClaim := { program := "ytdbfhdncjblleaa", sum := "852ef0911ebdb33d47c2de1abda559ebd85e2a83e9ed5a34c839dab47a5beb85", func := "foldhouse/foldhouselaw01.FoldRight", spec := "foldRight", unfollowed := true, recurses := true, plainKeys := false, apart := false }
def FoldRightSaid : Prop := foldRightRow.holds Try.pinned (OpenSpec.ofChange foldRightSpec)

/-- ITS FALSE NEIGHBOUR: 'it returns false'. Refute it at one input. -/
def foldRightWrong : ChangeSpec := { name := "foldRight", fn := fun _ => fun
  | [d1, d2, d3, d4, d5] => { results := [.lit (.bool false)], args := [d1, d2, d3, d4, d5] }
  | _ => none }
def FoldRightWrongFalsely : Prop := foldRightRow.holds Try.pinned (OpenSpec.ofChange foldRightWrong)

/-- 'foldhouselaw01.FoldTurns': WHATEVER THE INPUT: true; the input reads as it did. -/
def foldTurnsSpec : ChangeSpec := { name := "foldTurns", fn := fun _ => fun
  | [d1, d2] => { results := [.lit (.bool true)], args := [d1, d2] }
  | _ => none }
def foldTurnsRow : OpenClaim := { program := "ytdbfhdncjblleaa", sum := "852ef0911ebdb33d47c2de1abda559ebd85e2a83e9ed5a34c839dab47a5beb85", func := "foldhouse/foldhouselaw01.FoldTurns", spec := "foldTurns", unfollowed := true, recurses := true, plainKeys := false, apart := false }
def FoldTurnsSaid : Prop := foldTurnsRow.holds Try.pinned (OpenSpec.ofChange foldTurnsSpec)

/-- ITS FALSE NEIGHBOUR: 'it returns false'. Refute it at one input. -/
def foldTurnsWrong : ChangeSpec := { name := "foldTurns", fn := fun _ => fun
  | [d1, d2] => { results := [.lit (.bool false)], args := [d1, d2] }
  | _ => none }
def FoldTurnsWrongFalsely : Prop := foldTurnsRow.holds Try.pinned (OpenSpec.ofChange foldTurnsWrong)

/-- 'foldhouselaw01.FoldFaces': WHATEVER THE INPUT: true; the input reads as it did. -/
def foldFacesSpec : ChangeSpec := { name := "foldFaces", fn := fun _ => fun
  | [d] => { results := [.lit (.bool true)], args := [d] }
  | _ => none }
def foldFacesRow : OpenClaim := { program := "ytdbfhdncjblleaa", sum := "852ef0911ebdb33d47c2de1abda559ebd85e2a83e9ed5a34c839dab47a5beb85", func := "foldhouse/foldhouselaw01.FoldFaces", spec := "foldFaces", unfollowed := true, recurses := true, plainKeys := false, apart := false }
def FoldFacesSaid : Prop := foldFacesRow.holds Try.pinned (OpenSpec.ofChange foldFacesSpec)

/-- ITS FALSE NEIGHBOUR: 'it returns false'. Refute it at one input. -/
def foldFacesWrong : ChangeSpec := { name := "foldFaces", fn := fun _ => fun
  | [d] => { results := [.lit (.bool false)], args := [d] }
  | _ => none }
def FoldFacesWrongFalsely : Prop := foldFacesRow.holds Try.pinned (OpenSpec.ofChange foldFacesWrong)

/- THE SECOND FORM. 'bulk': how many values and letters a reading holds, each counted each time it is reached (what is shared counts as often as it is met; a slice's spare places count too). A statement '..UptoSaid' is the law's where the arguments, and the package variables that the reading takes, are together of bulk at most 1048576: NARROWER than '..Said'. Prove '..Said' where nothing that the law and all that it calls make is longer than what came in: it says more and counts as full. Else prove '..UptoSaid'. A law counts once. -/
mutual
def uptoBulk {H : Type} : DataW H → Nat
  | .lit (.string bytes) => bytes.length + 1
  | .lit _ => 1
  | .nil => 1
  | .ptr d => uptoBulk d + 1
  | .slice elems spare => uptoBulkAll elems + uptoBulkAll spare + 1
  | .agg parts => uptoBulkAll parts + 1
  | .iface _ d => uptoBulk d + 1
  | .map entries => uptoBulkEntries entries + 1
  | .held _ => 1
def uptoBulkAll {H : Type} : List (DataW H) → Nat
  | [] => 0
  | d :: r => uptoBulk d + uptoBulkAll r
def uptoBulkEntries {H : Type} : List (Lit × DataW H) → Nat
  | [] => 0
  | x :: r => uptoBulkEntry x + uptoBulkEntries r
def uptoBulkEntry {H : Type} : Lit × DataW H → Nat
  | (.string bytes, d) => bytes.length + uptoBulk d + 1
  | (_, d) => uptoBulk d + 1
 end
def uptoSmall : (H : Type) → List (DataW H) → Bool := fun _ ds => decide (uptoBulkAll ds ≤ 1048576)
def OpenSpec.upto (s : _root_.Go.ChangeSpec) : _root_.Go.OpenSpec := { _root_.Go.OpenSpec.ofChange s with cond := some uptoSmall }

/-- 'foldhouselaw01.FoldReads', WHERE WHAT IT READS IS OF BULK AT MOST 1048576: true; the input reads as it did. -/
def foldReadsUptoRow : OpenClaim := { program := "ytdbfhdncjblleaa", sum := "852ef0911ebdb33d47c2de1abda559ebd85e2a83e9ed5a34c839dab47a5beb85", func := "foldhouse/foldhouselaw01.FoldReads", spec := "foldReads", unfollowed := true, recurses := true, plainKeys := false, apart := false, narrowed := true }
def FoldReadsUptoSaid : Prop := foldReadsUptoRow.holds Try.pinned (OpenSpec.upto foldReadsSpec)

/-- 'foldhouselaw01.FoldFills', WHERE WHAT IT READS IS OF BULK AT MOST 1048576: true; the input reads as it did. -/
def foldFillsUptoRow : OpenClaim := { program := "ytdbfhdncjblleaa", sum := "852ef0911ebdb33d47c2de1abda559ebd85e2a83e9ed5a34c839dab47a5beb85", func := "foldhouse/foldhouselaw01.FoldFills", spec := "foldFills", unfollowed := true, recurses := true, plainKeys := false, apart := false, narrowed := true }
def FoldFillsUptoSaid : Prop := foldFillsUptoRow.holds Try.pinned (OpenSpec.upto foldFillsSpec)

/-- 'foldhouselaw01.FoldSmall', WHERE WHAT IT READS IS OF BULK AT MOST 1048576: true; the input reads as it did. -/
def foldSmallUptoRow : OpenClaim := { program := "ytdbfhdncjblleaa", sum := "852ef0911ebdb33d47c2de1abda559ebd85e2a83e9ed5a34c839dab47a5beb85", func := "foldhouse/foldhouselaw01.FoldSmall", spec := "foldSmall", unfollowed := true, recurses := true, plainKeys := false, apart := false, narrowed := true }
def FoldSmallUptoSaid : Prop := foldSmallUptoRow.holds Try.pinned (OpenSpec.upto foldSmallSpec)

/-- 'foldhouselaw01.FoldBoth', WHERE WHAT IT READS IS OF BULK AT MOST 1048576: true; the input reads as it did. -/
def foldBothUptoRow : OpenClaim := { program := "ytdbfhdncjblleaa", sum := "852ef0911ebdb33d47c2de1abda559ebd85e2a83e9ed5a34c839dab47a5beb85", func := "foldhouse/foldhouselaw01.FoldBoth", spec := "foldBoth", unfollowed := true, recurses := true, plainKeys := false, apart := false, narrowed := true }
def FoldBothUptoSaid : Prop := foldBothUptoRow.holds Try.pinned (OpenSpec.upto foldBothSpec)

/-- 'foldhouselaw01.FoldRight', WHERE WHAT IT READS IS OF BULK AT MOST 1048576: true; the input reads as it did. -/
def foldRightUptoRow : OpenClaim := { program := "ytdbfhdncjblleaa", sum := "852ef0911ebdb33d47c2de1abda559ebd85e2a83e9ed5a34c839dab47a5beb85", func := "foldhouse/foldhouselaw01.FoldRight", spec := "foldRight", unfollowed := true, recurses := true, plainKeys := false, apart := false, narrowed := true }
def FoldRightUptoSaid : Prop := foldRightUptoRow.holds Try.pinned (OpenSpec.upto foldRightSpec)

/-- 'foldhouselaw01.FoldTurns', WHERE WHAT IT READS IS OF BULK AT MOST 1048576: true; the input reads as it did. -/
def foldTurnsUptoRow : OpenClaim := { program := "ytdbfhdncjblleaa", sum := "852ef0911ebdb33d47c2de1abda559ebd85e2a83e9ed5a34c839dab47a5beb85", func := "foldhouse/foldhouselaw01.FoldTurns", spec := "foldTurns", unfollowed := true, recurses := true, plainKeys := false, apart := false, narrowed := true }
def FoldTurnsUptoSaid : Prop := foldTurnsUptoRow.holds Try.pinned (OpenSpec.upto foldTurnsSpec)

/-- 'foldhouselaw01.FoldFaces', WHERE WHAT IT READS IS OF BULK AT MOST 1048576: true; the input reads as it did. -/
def foldFacesUptoRow : OpenClaim := { program := "ytdbfhdncjblleaa", sum := "852ef0911ebdb33d47c2de1abda559ebd85e2a83e9ed5a34c839dab47a5beb85", func := "foldhouse/foldhouselaw01.FoldFaces", spec := "foldFaces", unfollowed := true, recurses := true, plainKeys := false, apart := false, narrowed := true }
def FoldFacesUptoSaid : Prop := foldFacesUptoRow.holds Try.pinned (OpenSpec.upto foldFacesSpec)

end Rows
end Go.Proofs.Ytdbfhdncjblleaa
