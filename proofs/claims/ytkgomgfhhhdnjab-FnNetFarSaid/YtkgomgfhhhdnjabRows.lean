/-
  No cell of these rows narrows 'for every input' (looked for: loops, veiled, ifaces, maps, wideKeys, modest, calm, conditions, laid).
  DERIVED. THE GIVEN ROWS OF THIS SEAT. 13 by the template 'for every input the law returns true; each argument reads behind the call as it read before'; 0 by the template 'total and deterministic' (their statements: YtkgomgfhhhdnjabTotals.lean).
  GIVEN WITH THE SEED: the statements are not yours to turn. If you find one false, say at which input.
  Laid BY PROGRAM, IN A SANDBOX (cutbox-rows.mjs): the forced cells as the released guide's own fill.sh prints them over the translation c242c4449661a1be… (all of the seat's roots in one cut). By AI agents, Wed Nov 11 2026. No macro, syntax, notation, axiom, sorry.
-/
import Derived.Test.YtkgomgfhhhdnjabChecked
import GoSem.Claim
import GoSem.ClaimJoined
import GoSem.ClaimMapViews
import Derived.JoinedTies
import Derived.KernelRfl
namespace Go.Proofs.Ytkgomgfhhhdnjab
/- THE CELL 'sum', in the pinned program and in every row, IS THE sha256 OF THE DUMP (.gsa) THAT YtkgomgfhhhdnjabProg.lean LOADS. Nothing in Lean hashes anything: it is a label: what it is worth is what the hold of that sum in a sandbox is worth. -/
noncomputable def Try.pinned : Pinned := { name := "ytkgomgfhhhdnjab", sum := "c242c4449661a1be168847e36f36f8e95dc0214be661df6bec5770e90e8f4310", checked := Try.checked }
namespace Rows
def none {H : Type} : Left H := { results := [], args := [] }

/-- 'laws.FnValidTree': WHATEVER THE INPUT: true; the input reads as it did. -/
def fnValidTreeSpec : ChangeSpec := { name := "fnValidTree", fn := fun _ => fun
  | [d] => { results := [.lit (.bool true)], args := [d] }
  | _ => none }
def fnValidTreeRow : OpenClaim := { program := "ytkgomgfhhhdnjab", sum := "c242c4449661a1be168847e36f36f8e95dc0214be661df6bec5770e90e8f4310", func := "loop.example/helpersinreach/laws.FnValidTree", spec := "fnValidTree", apart := false }
def FnValidTreeSaid : Prop := fnValidTreeRow.holds Try.pinned (OpenSpec.ofChange fnValidTreeSpec)

/-- ITS FALSE NEIGHBOUR: 'it returns false'. Refute it at one input. -/
def fnValidTreeWrong : ChangeSpec := { name := "fnValidTree", fn := fun _ => fun
  | [d] => { results := [.lit (.bool false)], args := [d] }
  | _ => none }
def FnValidTreeWrongFalsely : Prop := fnValidTreeRow.holds Try.pinned (OpenSpec.ofChange fnValidTreeWrong)

/-- 'laws.FnTreeTable': WHATEVER THE INPUT: true; the input reads as it did. -/
def fnTreeTableSpec : ChangeSpec := { name := "fnTreeTable", fn := fun _ => fun
  | [d] => { results := [.lit (.bool true)], args := [d] }
  | _ => none }
def fnTreeTableRow : OpenClaim := { program := "ytkgomgfhhhdnjab", sum := "c242c4449661a1be168847e36f36f8e95dc0214be661df6bec5770e90e8f4310", func := "loop.example/helpersinreach/laws.FnTreeTable", spec := "fnTreeTable", unfollowed := true, recurses := true, apart := false }
def FnTreeTableSaid : Prop := fnTreeTableRow.holds Try.pinned (OpenSpec.ofChange fnTreeTableSpec)

/-- ITS FALSE NEIGHBOUR: 'it returns false'. Refute it at one input. -/
def fnTreeTableWrong : ChangeSpec := { name := "fnTreeTable", fn := fun _ => fun
  | [d] => { results := [.lit (.bool false)], args := [d] }
  | _ => none }
def FnTreeTableWrongFalsely : Prop := fnTreeTableRow.holds Try.pinned (OpenSpec.ofChange fnTreeTableWrong)

/-- 'laws.FnTreeSum': WHATEVER THE INPUT: true; the input reads as it did. -/
def fnTreeSumSpec : ChangeSpec := { name := "fnTreeSum", fn := fun _ => fun
  | [d] => { results := [.lit (.bool true)], args := [d] }
  | _ => none }
def fnTreeSumRow : OpenClaim := { program := "ytkgomgfhhhdnjab", sum := "c242c4449661a1be168847e36f36f8e95dc0214be661df6bec5770e90e8f4310", func := "loop.example/helpersinreach/laws.FnTreeSum", spec := "fnTreeSum", unfollowed := true, recurses := true, apart := false }
def FnTreeSumSaid : Prop := fnTreeSumRow.holds Try.pinned (OpenSpec.ofChange fnTreeSumSpec)

/-- ITS FALSE NEIGHBOUR: 'it returns false'. Refute it at one input. -/
def fnTreeSumWrong : ChangeSpec := { name := "fnTreeSum", fn := fun _ => fun
  | [d] => { results := [.lit (.bool false)], args := [d] }
  | _ => none }
def FnTreeSumWrongFalsely : Prop := fnTreeSumRow.holds Try.pinned (OpenSpec.ofChange fnTreeSumWrong)

/-- 'laws.FnTreeCover': WHATEVER THE INPUT: true; the input reads as it did. -/
def fnTreeCoverSpec : ChangeSpec := { name := "fnTreeCover", fn := fun _ => fun
  | [d] => { results := [.lit (.bool true)], args := [d] }
  | _ => none }
def fnTreeCoverRow : OpenClaim := { program := "ytkgomgfhhhdnjab", sum := "c242c4449661a1be168847e36f36f8e95dc0214be661df6bec5770e90e8f4310", func := "loop.example/helpersinreach/laws.FnTreeCover", spec := "fnTreeCover", unfollowed := true, recurses := true, apart := false }
def FnTreeCoverSaid : Prop := fnTreeCoverRow.holds Try.pinned (OpenSpec.ofChange fnTreeCoverSpec)

/-- ITS FALSE NEIGHBOUR: 'it returns false'. Refute it at one input. -/
def fnTreeCoverWrong : ChangeSpec := { name := "fnTreeCover", fn := fun _ => fun
  | [d] => { results := [.lit (.bool false)], args := [d] }
  | _ => none }
def FnTreeCoverWrongFalsely : Prop := fnTreeCoverRow.holds Try.pinned (OpenSpec.ofChange fnTreeCoverWrong)

/-- 'laws.FnNetCover': WHATEVER THE INPUT: true; the input reads as it did. -/
def fnNetCoverSpec : ChangeSpec := { name := "fnNetCover", fn := fun _ => fun
  | [d] => { results := [.lit (.bool true)], args := [d] }
  | _ => none }
def fnNetCoverRow : OpenClaim := { program := "ytkgomgfhhhdnjab", sum := "c242c4449661a1be168847e36f36f8e95dc0214be661df6bec5770e90e8f4310", func := "loop.example/helpersinreach/laws.FnNetCover", spec := "fnNetCover", unfollowed := true, recurses := true, apart := false }
def FnNetCoverSaid : Prop := fnNetCoverRow.holds Try.pinned (OpenSpec.ofChange fnNetCoverSpec)

/-- ITS FALSE NEIGHBOUR: 'it returns false'. Refute it at one input. -/
def fnNetCoverWrong : ChangeSpec := { name := "fnNetCover", fn := fun _ => fun
  | [d] => { results := [.lit (.bool false)], args := [d] }
  | _ => none }
def FnNetCoverWrongFalsely : Prop := fnNetCoverRow.holds Try.pinned (OpenSpec.ofChange fnNetCoverWrong)

/-- 'laws.FnNetApart': WHATEVER THE INPUT: true; the input reads as it did. -/
def fnNetApartSpec : ChangeSpec := { name := "fnNetApart", fn := fun _ => fun
  | [d] => { results := [.lit (.bool true)], args := [d] }
  | _ => none }
def fnNetApartRow : OpenClaim := { program := "ytkgomgfhhhdnjab", sum := "c242c4449661a1be168847e36f36f8e95dc0214be661df6bec5770e90e8f4310", func := "loop.example/helpersinreach/laws.FnNetApart", spec := "fnNetApart", unfollowed := true, recurses := true, apart := false }
def FnNetApartSaid : Prop := fnNetApartRow.holds Try.pinned (OpenSpec.ofChange fnNetApartSpec)

/-- ITS FALSE NEIGHBOUR: 'it returns false'. Refute it at one input. -/
def fnNetApartWrong : ChangeSpec := { name := "fnNetApart", fn := fun _ => fun
  | [d] => { results := [.lit (.bool false)], args := [d] }
  | _ => none }
def FnNetApartWrongFalsely : Prop := fnNetApartRow.holds Try.pinned (OpenSpec.ofChange fnNetApartWrong)

/-- 'laws.FnNetFar': WHATEVER THE INPUT: true; the input reads as it did. -/
def fnNetFarSpec : ChangeSpec := { name := "fnNetFar", fn := fun _ => fun
  | [d] => { results := [.lit (.bool true)], args := [d] }
  | _ => none }
def fnNetFarRow : OpenClaim := { program := "ytkgomgfhhhdnjab", sum := "c242c4449661a1be168847e36f36f8e95dc0214be661df6bec5770e90e8f4310", func := "loop.example/helpersinreach/laws.FnNetFar", spec := "fnNetFar", unfollowed := true, recurses := true, apart := false }
def FnNetFarSaid : Prop := fnNetFarRow.holds Try.pinned (OpenSpec.ofChange fnNetFarSpec)

/-- ITS FALSE NEIGHBOUR: 'it returns false'. Refute it at one input. -/
def fnNetFarWrong : ChangeSpec := { name := "fnNetFar", fn := fun _ => fun
  | [d] => { results := [.lit (.bool false)], args := [d] }
  | _ => none }
def FnNetFarWrongFalsely : Prop := fnNetFarRow.holds Try.pinned (OpenSpec.ofChange fnNetFarWrong)

/-- 'laws.FnExactValidTree': WHATEVER THE INPUT: true; the input reads as it did. -/
def fnExactValidTreeSpec : ChangeSpec := { name := "fnExactValidTree", fn := fun _ => fun
  | [d] => { results := [.lit (.bool true)], args := [d] }
  | _ => none }
def fnExactValidTreeRow : OpenClaim := { program := "ytkgomgfhhhdnjab", sum := "c242c4449661a1be168847e36f36f8e95dc0214be661df6bec5770e90e8f4310", func := "loop.example/helpersinreach/laws.FnExactValidTree", spec := "fnExactValidTree", apart := false }
def FnExactValidTreeSaid : Prop := fnExactValidTreeRow.holds Try.pinned (OpenSpec.ofChange fnExactValidTreeSpec)

/-- ITS FALSE NEIGHBOUR: 'it returns false'. Refute it at one input. -/
def fnExactValidTreeWrong : ChangeSpec := { name := "fnExactValidTree", fn := fun _ => fun
  | [d] => { results := [.lit (.bool false)], args := [d] }
  | _ => none }
def FnExactValidTreeWrongFalsely : Prop := fnExactValidTreeRow.holds Try.pinned (OpenSpec.ofChange fnExactValidTreeWrong)

/-- 'laws.FnExactTreeTable': WHATEVER THE INPUT: true; the input reads as it did. -/
def fnExactTreeTableSpec : ChangeSpec := { name := "fnExactTreeTable", fn := fun _ => fun
  | [d] => { results := [.lit (.bool true)], args := [d] }
  | _ => none }
def fnExactTreeTableRow : OpenClaim := { program := "ytkgomgfhhhdnjab", sum := "c242c4449661a1be168847e36f36f8e95dc0214be661df6bec5770e90e8f4310", func := "loop.example/helpersinreach/laws.FnExactTreeTable", spec := "fnExactTreeTable", unfollowed := true, recurses := true, apart := false }
def FnExactTreeTableSaid : Prop := fnExactTreeTableRow.holds Try.pinned (OpenSpec.ofChange fnExactTreeTableSpec)

/-- ITS FALSE NEIGHBOUR: 'it returns false'. Refute it at one input. -/
def fnExactTreeTableWrong : ChangeSpec := { name := "fnExactTreeTable", fn := fun _ => fun
  | [d] => { results := [.lit (.bool false)], args := [d] }
  | _ => none }
def FnExactTreeTableWrongFalsely : Prop := fnExactTreeTableRow.holds Try.pinned (OpenSpec.ofChange fnExactTreeTableWrong)

/-- 'laws.FnExactTreeCover': WHATEVER THE INPUT: true; the input reads as it did. -/
def fnExactTreeCoverSpec : ChangeSpec := { name := "fnExactTreeCover", fn := fun _ => fun
  | [d1, d2] => { results := [.lit (.bool true)], args := [d1, d2] }
  | _ => none }
def fnExactTreeCoverRow : OpenClaim := { program := "ytkgomgfhhhdnjab", sum := "c242c4449661a1be168847e36f36f8e95dc0214be661df6bec5770e90e8f4310", func := "loop.example/helpersinreach/laws.FnExactTreeCover", spec := "fnExactTreeCover", unfollowed := true, recurses := true, apart := false }
def FnExactTreeCoverSaid : Prop := fnExactTreeCoverRow.holds Try.pinned (OpenSpec.ofChange fnExactTreeCoverSpec)

/-- ITS FALSE NEIGHBOUR: 'it returns false'. Refute it at one input. -/
def fnExactTreeCoverWrong : ChangeSpec := { name := "fnExactTreeCover", fn := fun _ => fun
  | [d1, d2] => { results := [.lit (.bool false)], args := [d1, d2] }
  | _ => none }
def FnExactTreeCoverWrongFalsely : Prop := fnExactTreeCoverRow.holds Try.pinned (OpenSpec.ofChange fnExactTreeCoverWrong)

/-- 'laws.FnExactTreeApart': WHATEVER THE INPUT: true; the input reads as it did. -/
def fnExactTreeApartSpec : ChangeSpec := { name := "fnExactTreeApart", fn := fun _ => fun
  | [d1, d2] => { results := [.lit (.bool true)], args := [d1, d2] }
  | _ => none }
def fnExactTreeApartRow : OpenClaim := { program := "ytkgomgfhhhdnjab", sum := "c242c4449661a1be168847e36f36f8e95dc0214be661df6bec5770e90e8f4310", func := "loop.example/helpersinreach/laws.FnExactTreeApart", spec := "fnExactTreeApart", unfollowed := true, recurses := true, apart := false }
def FnExactTreeApartSaid : Prop := fnExactTreeApartRow.holds Try.pinned (OpenSpec.ofChange fnExactTreeApartSpec)

/-- ITS FALSE NEIGHBOUR: 'it returns false'. Refute it at one input. -/
def fnExactTreeApartWrong : ChangeSpec := { name := "fnExactTreeApart", fn := fun _ => fun
  | [d1, d2] => { results := [.lit (.bool false)], args := [d1, d2] }
  | _ => none }
def FnExactTreeApartWrongFalsely : Prop := fnExactTreeApartRow.holds Try.pinned (OpenSpec.ofChange fnExactTreeApartWrong)

/-- 'laws.FnExactNetTable': WHATEVER THE INPUT: true; the input reads as it did. -/
def fnExactNetTableSpec : ChangeSpec := { name := "fnExactNetTable", fn := fun _ => fun
  | [d1, d2] => { results := [.lit (.bool true)], args := [d1, d2] }
  | _ => none }
def fnExactNetTableRow : OpenClaim := { program := "ytkgomgfhhhdnjab", sum := "c242c4449661a1be168847e36f36f8e95dc0214be661df6bec5770e90e8f4310", func := "loop.example/helpersinreach/laws.FnExactNetTable", spec := "fnExactNetTable", unfollowed := true, recurses := true, apart := false }
def FnExactNetTableSaid : Prop := fnExactNetTableRow.holds Try.pinned (OpenSpec.ofChange fnExactNetTableSpec)

/-- ITS FALSE NEIGHBOUR: 'it returns false'. Refute it at one input. -/
def fnExactNetTableWrong : ChangeSpec := { name := "fnExactNetTable", fn := fun _ => fun
  | [d1, d2] => { results := [.lit (.bool false)], args := [d1, d2] }
  | _ => none }
def FnExactNetTableWrongFalsely : Prop := fnExactNetTableRow.holds Try.pinned (OpenSpec.ofChange fnExactNetTableWrong)

/-- 'laws.FnExactNetCover': WHATEVER THE INPUT: true; the input reads as it did. -/
def fnExactNetCoverSpec : ChangeSpec := { name := "fnExactNetCover", fn := fun _ => fun
  | [d1, d2, d3] => { results := [.lit (.bool true)], args := [d1, d2, d3] }
  | _ => none }
def fnExactNetCoverRow : OpenClaim := { program := "ytkgomgfhhhdnjab", sum := "c242c4449661a1be168847e36f36f8e95dc0214be661df6bec5770e90e8f4310", func := "loop.example/helpersinreach/laws.FnExactNetCover", spec := "fnExactNetCover", unfollowed := true, recurses := true, apart := false }
def FnExactNetCoverSaid : Prop := fnExactNetCoverRow.holds Try.pinned (OpenSpec.ofChange fnExactNetCoverSpec)

/-- ITS FALSE NEIGHBOUR: 'it returns false'. Refute it at one input. -/
def fnExactNetCoverWrong : ChangeSpec := { name := "fnExactNetCover", fn := fun _ => fun
  | [d1, d2, d3] => { results := [.lit (.bool false)], args := [d1, d2, d3] }
  | _ => none }
def FnExactNetCoverWrongFalsely : Prop := fnExactNetCoverRow.holds Try.pinned (OpenSpec.ofChange fnExactNetCoverWrong)

/- THE SECOND FORM. 'bulk': how many values and letters a reading holds, each counted each time it is reached (what is shared counts as often as it is met; a slice's spare places count too). A statement '..UptoSaid' is the law's where the arguments, and the package variables that the reading takes, are together of bulk at most 1048576: NARROWER than '..Said'. Prove '..Said' where nothing that the law and all that it calls make is longer than what came in: it says more and counts as full. Else prove '..UptoSaid'. A law counts once. -/
mutual
def uptoBulk {H : Type} : DataW H → Nat
  | .lit (.string bytes) => bytes.length + 1
  | .lit _ => 1
  | .nil => 1
  | .ptr d => uptoBulk d + 1
  | .slice elems spare => uptoBulkAll elems + uptoBulkAll spare + 1
  | .agg parts => uptoBulkAll parts + 1
  | .iface _ d => uptoBulk d + 1
  | .map entries => uptoBulkEntries entries + 1
  | .held _ => 1
def uptoBulkAll {H : Type} : List (DataW H) → Nat
  | [] => 0
  | d :: r => uptoBulk d + uptoBulkAll r
def uptoBulkEntries {H : Type} : List (Lit × DataW H) → Nat
  | [] => 0
  | x :: r => uptoBulkEntry x + uptoBulkEntries r
def uptoBulkEntry {H : Type} : Lit × DataW H → Nat
  | (.string bytes, d) => bytes.length + uptoBulk d + 1
  | (_, d) => uptoBulk d + 1
 end
def uptoSmall : (H : Type) → List (DataW H) → Bool := fun _ ds => decide (uptoBulkAll ds ≤ 1048576)
def OpenSpec.upto (s : _root_.Go.ChangeSpec) : _root_.Go.OpenSpec := { _root_.Go.OpenSpec.ofChange s with cond := some uptoSmall }

/-- 'laws.FnValidTree', WHERE WHAT IT READS IS OF BULK AT MOST 1048576: true; the input reads as it did. -/
def fnValidTreeUptoRow : OpenClaim := { program := "ytkgomgfhhhdnjab", sum := "c242c4449661a1be168847e36f36f8e95dc0214be661df6bec5770e90e8f4310", func := "loop.example/helpersinreach/laws.FnValidTree", spec := "fnValidTree", apart := false, narrowed := true }
def FnValidTreeUptoSaid : Prop := fnValidTreeUptoRow.holds Try.pinned (OpenSpec.upto fnValidTreeSpec)

/-- 'laws.FnTreeTable', WHERE WHAT IT READS IS OF BULK AT MOST 1048576: true; the input reads as it did. -/
def fnTreeTableUptoRow : OpenClaim := { program := "ytkgomgfhhhdnjab", sum := "c242c4449661a1be168847e36f36f8e95dc0214be661df6bec5770e90e8f4310", func := "loop.example/helpersinreach/laws.FnTreeTable", spec := "fnTreeTable", unfollowed := true, recurses := true, apart := false, narrowed := true }
def FnTreeTableUptoSaid : Prop := fnTreeTableUptoRow.holds Try.pinned (OpenSpec.upto fnTreeTableSpec)

/-- 'laws.FnTreeSum', WHERE WHAT IT READS IS OF BULK AT MOST 1048576: true; the input reads as it did. -/
def fnTreeSumUptoRow : OpenClaim := { program := "ytkgomgfhhhdnjab", sum := "c242c4449661a1be168847e36f36f8e95dc0214be661df6bec5770e90e8f4310", func := "loop.example/helpersinreach/laws.FnTreeSum", spec := "fnTreeSum", unfollowed := true, recurses := true, apart := false, narrowed := true }
def FnTreeSumUptoSaid : Prop := fnTreeSumUptoRow.holds Try.pinned (OpenSpec.upto fnTreeSumSpec)

/-- 'laws.FnTreeCover', WHERE WHAT IT READS IS OF BULK AT MOST 1048576: true; the input reads as it did. -/
def fnTreeCoverUptoRow : OpenClaim := { program := "ytkgomgfhhhdnjab", sum := "c242c4449661a1be168847e36f36f8e95dc0214be661df6bec5770e90e8f4310", func := "loop.example/helpersinreach/laws.FnTreeCover", spec := "fnTreeCover", unfollowed := true, recurses := true, apart := false, narrowed := true }
def FnTreeCoverUptoSaid : Prop := fnTreeCoverUptoRow.holds Try.pinned (OpenSpec.upto fnTreeCoverSpec)

/-- 'laws.FnNetCover', WHERE WHAT IT READS IS OF BULK AT MOST 1048576: true; the input reads as it did. -/
def fnNetCoverUptoRow : OpenClaim := { program := "ytkgomgfhhhdnjab", sum := "c242c4449661a1be168847e36f36f8e95dc0214be661df6bec5770e90e8f4310", func := "loop.example/helpersinreach/laws.FnNetCover", spec := "fnNetCover", unfollowed := true, recurses := true, apart := false, narrowed := true }
def FnNetCoverUptoSaid : Prop := fnNetCoverUptoRow.holds Try.pinned (OpenSpec.upto fnNetCoverSpec)

/-- 'laws.FnNetApart', WHERE WHAT IT READS IS OF BULK AT MOST 1048576: true; the input reads as it did. -/
def fnNetApartUptoRow : OpenClaim := { program := "ytkgomgfhhhdnjab", sum := "c242c4449661a1be168847e36f36f8e95dc0214be661df6bec5770e90e8f4310", func := "loop.example/helpersinreach/laws.FnNetApart", spec := "fnNetApart", unfollowed := true, recurses := true, apart := false, narrowed := true }
def FnNetApartUptoSaid : Prop := fnNetApartUptoRow.holds Try.pinned (OpenSpec.upto fnNetApartSpec)

/-- 'laws.FnNetFar', WHERE WHAT IT READS IS OF BULK AT MOST 1048576: true; the input reads as it did. -/
def fnNetFarUptoRow : OpenClaim := { program := "ytkgomgfhhhdnjab", sum := "c242c4449661a1be168847e36f36f8e95dc0214be661df6bec5770e90e8f4310", func := "loop.example/helpersinreach/laws.FnNetFar", spec := "fnNetFar", unfollowed := true, recurses := true, apart := false, narrowed := true }
def FnNetFarUptoSaid : Prop := fnNetFarUptoRow.holds Try.pinned (OpenSpec.upto fnNetFarSpec)

/-- 'laws.FnExactValidTree', WHERE WHAT IT READS IS OF BULK AT MOST 1048576: true; the input reads as it did. -/
def fnExactValidTreeUptoRow : OpenClaim := { program := "ytkgomgfhhhdnjab", sum := "c242c4449661a1be168847e36f36f8e95dc0214be661df6bec5770e90e8f4310", func := "loop.example/helpersinreach/laws.FnExactValidTree", spec := "fnExactValidTree", apart := false, narrowed := true }
def FnExactValidTreeUptoSaid : Prop := fnExactValidTreeUptoRow.holds Try.pinned (OpenSpec.upto fnExactValidTreeSpec)

/-- 'laws.FnExactTreeTable', WHERE WHAT IT READS IS OF BULK AT MOST 1048576: true; the input reads as it did. -/
def fnExactTreeTableUptoRow : OpenClaim := { program := "ytkgomgfhhhdnjab", sum := "c242c4449661a1be168847e36f36f8e95dc0214be661df6bec5770e90e8f4310", func := "loop.example/helpersinreach/laws.FnExactTreeTable", spec := "fnExactTreeTable", unfollowed := true, recurses := true, apart := false, narrowed := true }
def FnExactTreeTableUptoSaid : Prop := fnExactTreeTableUptoRow.holds Try.pinned (OpenSpec.upto fnExactTreeTableSpec)

/-- 'laws.FnExactTreeCover', WHERE WHAT IT READS IS OF BULK AT MOST 1048576: true; the input reads as it did. -/
def fnExactTreeCoverUptoRow : OpenClaim := { program := "ytkgomgfhhhdnjab", sum := "c242c4449661a1be168847e36f36f8e95dc0214be661df6bec5770e90e8f4310", func := "loop.example/helpersinreach/laws.FnExactTreeCover", spec := "fnExactTreeCover", unfollowed := true, recurses := true, apart := false, narrowed := true }
def FnExactTreeCoverUptoSaid : Prop := fnExactTreeCoverUptoRow.holds Try.pinned (OpenSpec.upto fnExactTreeCoverSpec)

/-- 'laws.FnExactTreeApart', WHERE WHAT IT READS IS OF BULK AT MOST 1048576: true; the input reads as it did. -/
def fnExactTreeApartUptoRow : OpenClaim := { program := "ytkgomgfhhhdnjab", sum := "c242c4449661a1be168847e36f36f8e95dc0214be661df6bec5770e90e8f4310", func := "loop.example/helpersinreach/laws.FnExactTreeApart", spec := "fnExactTreeApart", unfollowed := true, recurses := true, apart := false, narrowed := true }
def FnExactTreeApartUptoSaid : Prop := fnExactTreeApartUptoRow.holds Try.pinned (OpenSpec.upto fnExactTreeApartSpec)

/-- 'laws.FnExactNetTable', WHERE WHAT IT READS IS OF BULK AT MOST 1048576: true; the input reads as it did. -/
def fnExactNetTableUptoRow : OpenClaim := { program := "ytkgomgfhhhdnjab", sum := "c242c4449661a1be168847e36f36f8e95dc0214be661df6bec5770e90e8f4310", func := "loop.example/helpersinreach/laws.FnExactNetTable", spec := "fnExactNetTable", unfollowed := true, recurses := true, apart := false, narrowed := true }
def FnExactNetTableUptoSaid : Prop := fnExactNetTableUptoRow.holds Try.pinned (OpenSpec.upto fnExactNetTableSpec)

/-- 'laws.FnExactNetCover', WHERE WHAT IT READS IS OF BULK AT MOST 1048576: true; the input reads as it did. -/
def fnExactNetCoverUptoRow : OpenClaim := { program := "ytkgomgfhhhdnjab", sum := "c242c4449661a1be168847e36f36f8e95dc0214be661df6bec5770e90e8f4310", func := "loop.example/helpersinreach/laws.FnExactNetCover", spec := "fnExactNetCover", unfollowed := true, recurses := true, apart := false, narrowed := true }
def FnExactNetCoverUptoSaid : Prop := fnExactNetCoverUptoRow.holds Try.pinned (OpenSpec.upto fnExactNetCoverSpec)

end Rows
end Go.Proofs.Ytkgomgfhhhdnjab
