/-
  No cell of these rows narrows 'for every input' (looked for: loops, veiled, ifaces, maps, wideKeys, modest, calm, conditions, laid).
  DERIVED. THE GIVEN ROWS OF THIS SEAT. 10 by the template 'for every input the law returns true; each argument reads behind the call as it read before'; 0 by the template 'total and deterministic' (their statements: YtoappopbjnlbdabTotals.lean).
  GIVEN WITH THE SEED: the statements are not yours to turn. If you find one false, say at which input.
  Laid BY PROGRAM, IN A SANDBOX (cutbox-rows.mjs): the forced cells as the released guide's own fill.sh prints them over the translation b7e82f4066afb1f0… (all of the seat's roots in one cut). By AI agents, Wed Nov 11 2026. No macro, syntax, notation, axiom, sorry.
-/
import Derived.Test.YtoappopbjnlbdabChecked
import GoSem.Claim
import GoSem.ClaimJoined
import GoSem.ClaimMapViews
import Derived.JoinedTies
import Derived.KernelRfl
namespace Go.Proofs.Ytoappopbjnlbdab
/- THE CELL 'sum', in the pinned program and in every row, IS THE sha256 OF THE DUMP (.gsa) THAT YtoappopbjnlbdabProg.lean LOADS. Nothing in Lean hashes anything: it is a label: what it is worth is what the hold of that sum in a sandbox is worth. -/
noncomputable def Try.pinned : Pinned := { name := "ytoappopbjnlbdab", sum := "b7e82f4066afb1f07674357f30e72f8a6c594bc6501f118c96ffb5491a352cc7", checked := Try.checked }
namespace Rows
def none {H : Type} : Left H := { results := [], args := [] }

/-- 'laws.FnValidTree': WHATEVER THE INPUT: true; the input reads as it did. -/
def fnValidTreeSpec : ChangeSpec := { name := "fnValidTree", fn := fun _ => fun
  | [d] => { results := [.lit (.bool true)], args := [d] }
  | _ => none }
def fnValidTreeRow : OpenClaim := { program := "ytoappopbjnlbdab", sum := "b7e82f4066afb1f07674357f30e72f8a6c594bc6501f118c96ffb5491a352cc7", func := "loop.example/helpersinreach/laws.FnValidTree", spec := "fnValidTree", apart := false }
def FnValidTreeSaid : Prop := fnValidTreeRow.holds Try.pinned (OpenSpec.ofChange fnValidTreeSpec)

/-- ITS FALSE NEIGHBOUR: 'it returns false'. Refute it at one input. -/
def fnValidTreeWrong : ChangeSpec := { name := "fnValidTree", fn := fun _ => fun
  | [d] => { results := [.lit (.bool false)], args := [d] }
  | _ => none }
def FnValidTreeWrongFalsely : Prop := fnValidTreeRow.holds Try.pinned (OpenSpec.ofChange fnValidTreeWrong)

/-- 'laws.FnTreeSum': WHATEVER THE INPUT: true; the input reads as it did. -/
def fnTreeSumSpec : ChangeSpec := { name := "fnTreeSum", fn := fun _ => fun
  | [d] => { results := [.lit (.bool true)], args := [d] }
  | _ => none }
def fnTreeSumRow : OpenClaim := { program := "ytoappopbjnlbdab", sum := "b7e82f4066afb1f07674357f30e72f8a6c594bc6501f118c96ffb5491a352cc7", func := "loop.example/helpersinreach/laws.FnTreeSum", spec := "fnTreeSum", unfollowed := true, recurses := true, apart := false }
def FnTreeSumSaid : Prop := fnTreeSumRow.holds Try.pinned (OpenSpec.ofChange fnTreeSumSpec)

/-- ITS FALSE NEIGHBOUR: 'it returns false'. Refute it at one input. -/
def fnTreeSumWrong : ChangeSpec := { name := "fnTreeSum", fn := fun _ => fun
  | [d] => { results := [.lit (.bool false)], args := [d] }
  | _ => none }
def FnTreeSumWrongFalsely : Prop := fnTreeSumRow.holds Try.pinned (OpenSpec.ofChange fnTreeSumWrong)

/-- 'laws.FnTreeMiddle': WHATEVER THE INPUT: true; the input reads as it did. -/
def fnTreeMiddleSpec : ChangeSpec := { name := "fnTreeMiddle", fn := fun _ => fun
  | [d] => { results := [.lit (.bool true)], args := [d] }
  | _ => none }
def fnTreeMiddleRow : OpenClaim := { program := "ytoappopbjnlbdab", sum := "b7e82f4066afb1f07674357f30e72f8a6c594bc6501f118c96ffb5491a352cc7", func := "loop.example/helpersinreach/laws.FnTreeMiddle", spec := "fnTreeMiddle", unfollowed := true, recurses := true, apart := false }
def FnTreeMiddleSaid : Prop := fnTreeMiddleRow.holds Try.pinned (OpenSpec.ofChange fnTreeMiddleSpec)

/-- ITS FALSE NEIGHBOUR: 'it returns false'. Refute it at one input. -/
def fnTreeMiddleWrong : ChangeSpec := { name := "fnTreeMiddle", fn := fun _ => fun
  | [d] => { results := [.lit (.bool false)], args := [d] }
  | _ => none }
def FnTreeMiddleWrongFalsely : Prop := fnTreeMiddleRow.holds Try.pinned (OpenSpec.ofChange fnTreeMiddleWrong)

/-- 'laws.FnLinesAreTrees': WHATEVER THE INPUT: true; the input reads as it did. -/
def fnLinesAreTreesSpec : ChangeSpec := { name := "fnLinesAreTrees", fn := fun _ => fun
  | [d] => { results := [.lit (.bool true)], args := [d] }
  | _ => none }
def fnLinesAreTreesRow : OpenClaim := { program := "ytoappopbjnlbdab", sum := "b7e82f4066afb1f07674357f30e72f8a6c594bc6501f118c96ffb5491a352cc7", func := "loop.example/helpersinreach/laws.FnLinesAreTrees", spec := "fnLinesAreTrees", unfollowed := true, recurses := true, apart := false }
def FnLinesAreTreesSaid : Prop := fnLinesAreTreesRow.holds Try.pinned (OpenSpec.ofChange fnLinesAreTreesSpec)

/-- ITS FALSE NEIGHBOUR: 'it returns false'. Refute it at one input. -/
def fnLinesAreTreesWrong : ChangeSpec := { name := "fnLinesAreTrees", fn := fun _ => fun
  | [d] => { results := [.lit (.bool false)], args := [d] }
  | _ => none }
def FnLinesAreTreesWrongFalsely : Prop := fnLinesAreTreesRow.holds Try.pinned (OpenSpec.ofChange fnLinesAreTreesWrong)

/-- 'laws.FnExactValidTree': WHATEVER THE INPUT: true; the input reads as it did. -/
def fnExactValidTreeSpec : ChangeSpec := { name := "fnExactValidTree", fn := fun _ => fun
  | [d] => { results := [.lit (.bool true)], args := [d] }
  | _ => none }
def fnExactValidTreeRow : OpenClaim := { program := "ytoappopbjnlbdab", sum := "b7e82f4066afb1f07674357f30e72f8a6c594bc6501f118c96ffb5491a352cc7", func := "loop.example/helpersinreach/laws.FnExactValidTree", spec := "fnExactValidTree", apart := false }
def FnExactValidTreeSaid : Prop := fnExactValidTreeRow.holds Try.pinned (OpenSpec.ofChange fnExactValidTreeSpec)

/-- ITS FALSE NEIGHBOUR: 'it returns false'. Refute it at one input. -/
def fnExactValidTreeWrong : ChangeSpec := { name := "fnExactValidTree", fn := fun _ => fun
  | [d] => { results := [.lit (.bool false)], args := [d] }
  | _ => none }
def FnExactValidTreeWrongFalsely : Prop := fnExactValidTreeRow.holds Try.pinned (OpenSpec.ofChange fnExactValidTreeWrong)

/-- 'laws.FnExactTreeTable': WHATEVER THE INPUT: true; the input reads as it did. -/
def fnExactTreeTableSpec : ChangeSpec := { name := "fnExactTreeTable", fn := fun _ => fun
  | [d] => { results := [.lit (.bool true)], args := [d] }
  | _ => none }
def fnExactTreeTableRow : OpenClaim := { program := "ytoappopbjnlbdab", sum := "b7e82f4066afb1f07674357f30e72f8a6c594bc6501f118c96ffb5491a352cc7", func := "loop.example/helpersinreach/laws.FnExactTreeTable", spec := "fnExactTreeTable", unfollowed := true, recurses := true, apart := false }
def FnExactTreeTableSaid : Prop := fnExactTreeTableRow.holds Try.pinned (OpenSpec.ofChange fnExactTreeTableSpec)

/-- ITS FALSE NEIGHBOUR: 'it returns false'. Refute it at one input. -/
def fnExactTreeTableWrong : ChangeSpec := { name := "fnExactTreeTable", fn := fun _ => fun
  | [d] => { results := [.lit (.bool false)], args := [d] }
  | _ => none }
def FnExactTreeTableWrongFalsely : Prop := fnExactTreeTableRow.holds Try.pinned (OpenSpec.ofChange fnExactTreeTableWrong)

/-- 'laws.FnExactTreeSum': WHATEVER THE INPUT: true; the input reads as it did. -/
def fnExactTreeSumSpec : ChangeSpec := { name := "fnExactTreeSum", fn := fun _ => fun
  | [d1, d2, d3] => { results := [.lit (.bool true)], args := [d1, d2, d3] }
  | _ => none }
def fnExactTreeSumRow : OpenClaim := { program := "ytoappopbjnlbdab", sum := "b7e82f4066afb1f07674357f30e72f8a6c594bc6501f118c96ffb5491a352cc7", func := "loop.example/helpersinreach/laws.FnExactTreeSum", spec := "fnExactTreeSum", unfollowed := true, recurses := true, apart := false }
def FnExactTreeSumSaid : Prop := fnExactTreeSumRow.holds Try.pinned (OpenSpec.ofChange fnExactTreeSumSpec)

/-- ITS FALSE NEIGHBOUR: 'it returns false'. Refute it at one input. -/
def fnExactTreeSumWrong : ChangeSpec := { name := "fnExactTreeSum", fn := fun _ => fun
  | [d1, d2, d3] => { results := [.lit (.bool false)], args := [d1, d2, d3] }
  | _ => none }
def FnExactTreeSumWrongFalsely : Prop := fnExactTreeSumRow.holds Try.pinned (OpenSpec.ofChange fnExactTreeSumWrong)

/-- 'laws.FnExactTreeMiddle': WHATEVER THE INPUT: true; the input reads as it did. -/
def fnExactTreeMiddleSpec : ChangeSpec := { name := "fnExactTreeMiddle", fn := fun _ => fun
  | [d1, d2] => { results := [.lit (.bool true)], args := [d1, d2] }
  | _ => none }
def fnExactTreeMiddleRow : OpenClaim := { program := "ytoappopbjnlbdab", sum := "b7e82f4066afb1f07674357f30e72f8a6c594bc6501f118c96ffb5491a352cc7", func := "loop.example/helpersinreach/laws.FnExactTreeMiddle", spec := "fnExactTreeMiddle", unfollowed := true, recurses := true, apart := false }
def FnExactTreeMiddleSaid : Prop := fnExactTreeMiddleRow.holds Try.pinned (OpenSpec.ofChange fnExactTreeMiddleSpec)

/-- ITS FALSE NEIGHBOUR: 'it returns false'. Refute it at one input. -/
def fnExactTreeMiddleWrong : ChangeSpec := { name := "fnExactTreeMiddle", fn := fun _ => fun
  | [d1, d2] => { results := [.lit (.bool false)], args := [d1, d2] }
  | _ => none }
def FnExactTreeMiddleWrongFalsely : Prop := fnExactTreeMiddleRow.holds Try.pinned (OpenSpec.ofChange fnExactTreeMiddleWrong)

/-- 'laws.FnExactTreeCover': WHATEVER THE INPUT: true; the input reads as it did. -/
def fnExactTreeCoverSpec : ChangeSpec := { name := "fnExactTreeCover", fn := fun _ => fun
  | [d1, d2] => { results := [.lit (.bool true)], args := [d1, d2] }
  | _ => none }
def fnExactTreeCoverRow : OpenClaim := { program := "ytoappopbjnlbdab", sum := "b7e82f4066afb1f07674357f30e72f8a6c594bc6501f118c96ffb5491a352cc7", func := "loop.example/helpersinreach/laws.FnExactTreeCover", spec := "fnExactTreeCover", unfollowed := true, recurses := true, apart := false }
def FnExactTreeCoverSaid : Prop := fnExactTreeCoverRow.holds Try.pinned (OpenSpec.ofChange fnExactTreeCoverSpec)

/-- ITS FALSE NEIGHBOUR: 'it returns false'. Refute it at one input. -/
def fnExactTreeCoverWrong : ChangeSpec := { name := "fnExactTreeCover", fn := fun _ => fun
  | [d1, d2] => { results := [.lit (.bool false)], args := [d1, d2] }
  | _ => none }
def FnExactTreeCoverWrongFalsely : Prop := fnExactTreeCoverRow.holds Try.pinned (OpenSpec.ofChange fnExactTreeCoverWrong)

/-- 'laws.FnExactTreeApart': WHATEVER THE INPUT: true; the input reads as it did. -/
def fnExactTreeApartSpec : ChangeSpec := { name := "fnExactTreeApart", fn := fun _ => fun
  | [d1, d2] => { results := [.lit (.bool true)], args := [d1, d2] }
  | _ => none }
def fnExactTreeApartRow : OpenClaim := { program := "ytoappopbjnlbdab", sum := "b7e82f4066afb1f07674357f30e72f8a6c594bc6501f118c96ffb5491a352cc7", func := "loop.example/helpersinreach/laws.FnExactTreeApart", spec := "fnExactTreeApart", unfollowed := true, recurses := true, apart := false }
def FnExactTreeApartSaid : Prop := fnExactTreeApartRow.holds Try.pinned (OpenSpec.ofChange fnExactTreeApartSpec)

/-- ITS FALSE NEIGHBOUR: 'it returns false'. Refute it at one input. -/
def fnExactTreeApartWrong : ChangeSpec := { name := "fnExactTreeApart", fn := fun _ => fun
  | [d1, d2] => { results := [.lit (.bool false)], args := [d1, d2] }
  | _ => none }
def FnExactTreeApartWrongFalsely : Prop := fnExactTreeApartRow.holds Try.pinned (OpenSpec.ofChange fnExactTreeApartWrong)

/- THE SECOND FORM. 'bulk': how many values and letters a reading holds, each counted each time it is reached (what is shared counts as often as it is met; a slice's spare places count too). A statement '..UptoSaid' is the law's where the arguments, and the package variables that the reading takes, are together of bulk at most 1048576: NARROWER than '..Said'. Prove '..Said' where nothing that the law and all that it calls make is longer than what came in: it says more and counts as full. Else prove '..UptoSaid'. A law counts once. -/
mutual
def uptoBulk {H : Type} : DataW H → Nat
  | .lit (.string bytes) => bytes.length + 1
  | .lit _ => 1
  | .nil => 1
  | .ptr d => uptoBulk d + 1
  | .slice elems spare => uptoBulkAll elems + uptoBulkAll spare + 1
  | .agg parts => uptoBulkAll parts + 1
  | .iface _ d => uptoBulk d + 1
  | .map entries => uptoBulkEntries entries + 1
  | .held _ => 1
def uptoBulkAll {H : Type} : List (DataW H) → Nat
  | [] => 0
  | d :: r => uptoBulk d + uptoBulkAll r
def uptoBulkEntries {H : Type} : List (Lit × DataW H) → Nat
  | [] => 0
  | x :: r => uptoBulkEntry x + uptoBulkEntries r
def uptoBulkEntry {H : Type} : Lit × DataW H → Nat
  | (.string bytes, d) => bytes.length + uptoBulk d + 1
  | (_, d) => uptoBulk d + 1
 end
def uptoSmall : (H : Type) → List (DataW H) → Bool := fun _ ds => decide (uptoBulkAll ds ≤ 1048576)
def OpenSpec.upto (s : _root_.Go.ChangeSpec) : _root_.Go.OpenSpec := { _root_.Go.OpenSpec.ofChange s with cond := some uptoSmall }

/-- 'laws.FnValidTree', WHERE WHAT IT READS IS OF BULK AT MOST 1048576: true; the input reads as it did. -/
def fnValidTreeUptoRow : OpenClaim := { program := "ytoappopbjnlbdab", sum := "b7e82f4066afb1f07674357f30e72f8a6c594bc6501f118c96ffb5491a352cc7", func := "loop.example/helpersinreach/laws.FnValidTree", spec := "fnValidTree", apart := false, narrowed := true }
def FnValidTreeUptoSaid : Prop := fnValidTreeUptoRow.holds Try.pinned (OpenSpec.upto fnValidTreeSpec)

/-- 'laws.FnTreeSum', WHERE WHAT IT READS IS OF BULK AT MOST 1048576: true; the input reads as it did. -/
def fnTreeSumUptoRow : OpenClaim := { program := "ytoappopbjnlbdab", sum := "b7e82f4066afb1f07674357f30e72f8a6c594bc6501f118c96ffb5491a352cc7", func := "loop.example/helpersinreach/laws.FnTreeSum", spec := "fnTreeSum", unfollowed := true, recurses := true, apart := false, narrowed := true }
def FnTreeSumUptoSaid : Prop := fnTreeSumUptoRow.holds Try.pinned (OpenSpec.upto fnTreeSumSpec)

/-- 'laws.FnTreeMiddle', WHERE WHAT IT READS IS OF BULK AT MOST 1048576: true; the input reads as it did. -/
def fnTreeMiddleUptoRow : OpenClaim := { program := "ytoappopbjnlbdab", sum := "b7e82f4066afb1f07674357f30e72f8a6c594bc6501f118c96ffb5491a352cc7", func := "loop.example/helpersinreach/laws.FnTreeMiddle", spec := "fnTreeMiddle", unfollowed := true, recurses := true, apart := false, narrowed := true }
def FnTreeMiddleUptoSaid : Prop := fnTreeMiddleUptoRow.holds Try.pinned (OpenSpec.upto fnTreeMiddleSpec)

/-- 'laws.FnLinesAreTrees', WHERE WHAT IT READS IS OF BULK AT MOST 1048576: true; the input reads as it did. -/
def fnLinesAreTreesUptoRow : OpenClaim := { program := "ytoappopbjnlbdab", sum := "b7e82f4066afb1f07674357f30e72f8a6c594bc6501f118c96ffb5491a352cc7", func := "loop.example/helpersinreach/laws.FnLinesAreTrees", spec := "fnLinesAreTrees", unfollowed := true, recurses := true, apart := false, narrowed := true }
def FnLinesAreTreesUptoSaid : Prop := fnLinesAreTreesUptoRow.holds Try.pinned (OpenSpec.upto fnLinesAreTreesSpec)

/-- 'laws.FnExactValidTree', WHERE WHAT IT READS IS OF BULK AT MOST 1048576: true; the input reads as it did. -/
def fnExactValidTreeUptoRow : OpenClaim := { program := "ytoappopbjnlbdab", sum := "b7e82f4066afb1f07674357f30e72f8a6c594bc6501f118c96ffb5491a352cc7", func := "loop.example/helpersinreach/laws.FnExactValidTree", spec := "fnExactValidTree", apart := false, narrowed := true }
def FnExactValidTreeUptoSaid : Prop := fnExactValidTreeUptoRow.holds Try.pinned (OpenSpec.upto fnExactValidTreeSpec)

/-- 'laws.FnExactTreeTable', WHERE WHAT IT READS IS OF BULK AT MOST 1048576: true; the input reads as it did. -/
def fnExactTreeTableUptoRow : OpenClaim := { program := "ytoappopbjnlbdab", sum := "b7e82f4066afb1f07674357f30e72f8a6c594bc6501f118c96ffb5491a352cc7", func := "loop.example/helpersinreach/laws.FnExactTreeTable", spec := "fnExactTreeTable", unfollowed := true, recurses := true, apart := false, narrowed := true }
def FnExactTreeTableUptoSaid : Prop := fnExactTreeTableUptoRow.holds Try.pinned (OpenSpec.upto fnExactTreeTableSpec)

/-- 'laws.FnExactTreeSum', WHERE WHAT IT READS IS OF BULK AT MOST 1048576: true; the input reads as it did. -/
def fnExactTreeSumUptoRow : OpenClaim := { program := "ytoappopbjnlbdab", sum := "b7e82f4066afb1f07674357f30e72f8a6c594bc6501f118c96ffb5491a352cc7", func := "loop.example/helpersinreach/laws.FnExactTreeSum", spec := "fnExactTreeSum", unfollowed := true, recurses := true, apart := false, narrowed := true }
def FnExactTreeSumUptoSaid : Prop := fnExactTreeSumUptoRow.holds Try.pinned (OpenSpec.upto fnExactTreeSumSpec)

/-- 'laws.FnExactTreeMiddle', WHERE WHAT IT READS IS OF BULK AT MOST 1048576: true; the input reads as it did. -/
def fnExactTreeMiddleUptoRow : OpenClaim := { program := "ytoappopbjnlbdab", sum := "b7e82f4066afb1f07674357f30e72f8a6c594bc6501f118c96ffb5491a352cc7", func := "loop.example/helpersinreach/laws.FnExactTreeMiddle", spec := "fnExactTreeMiddle", unfollowed := true, recurses := true, apart := false, narrowed := true }
def FnExactTreeMiddleUptoSaid : Prop := fnExactTreeMiddleUptoRow.holds Try.pinned (OpenSpec.upto fnExactTreeMiddleSpec)

/-- 'laws.FnExactTreeCover', WHERE WHAT IT READS IS OF BULK AT MOST 1048576: true; the input reads as it did. -/
def fnExactTreeCoverUptoRow : OpenClaim := { program := "ytoappopbjnlbdab", sum := "b7e82f4066afb1f07674357f30e72f8a6c594bc6501f118c96ffb5491a352cc7", func := "loop.example/helpersinreach/laws.FnExactTreeCover", spec := "fnExactTreeCover", unfollowed := true, recurses := true, apart := false, narrowed := true }
def FnExactTreeCoverUptoSaid : Prop := fnExactTreeCoverUptoRow.holds Try.pinned (OpenSpec.upto fnExactTreeCoverSpec)

/-- 'laws.FnExactTreeApart', WHERE WHAT IT READS IS OF BULK AT MOST 1048576: true; the input reads as it did. -/
def fnExactTreeApartUptoRow : OpenClaim := { program := "ytoappopbjnlbdab", sum := "b7e82f4066afb1f07674357f30e72f8a6c594bc6501f118c96ffb5491a352cc7", func := "loop.example/helpersinreach/laws.FnExactTreeApart", spec := "fnExactTreeApart", unfollowed := true, recurses := true, apart := false, narrowed := true }
def FnExactTreeApartUptoSaid : Prop := fnExactTreeApartUptoRow.holds Try.pinned (OpenSpec.upto fnExactTreeApartSpec)

end Rows
end Go.Proofs.Ytoappopbjnlbdab
