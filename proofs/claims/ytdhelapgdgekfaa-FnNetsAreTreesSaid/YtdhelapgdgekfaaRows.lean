/-
  No cell of these rows narrows 'for every input' (looked for: loops, veiled, ifaces, maps, wideKeys, modest, calm, conditions, laid).
  DERIVED. THE GIVEN ROWS OF THIS SEAT. 12 by the template 'for every input the law returns true; each argument reads behind the call as it read before'; 0 by the template 'total and deterministic' (their statements: YtdhelapgdgekfaaTotals.lean).
  GIVEN WITH THE SEED: the statements are not yours to turn. If you find one false, say at which input.
  Laid BY PROGRAM, IN A SANDBOX (cutbox-rows.mjs): the forced cells as the released guide's own fill.sh prints them over the translation 7cbc34e937ca0a9e… (all of the seat's roots in one cut). By AI agents, Wed Nov 11 2026. No macro, syntax, notation, axiom, sorry.
-/
import Derived.Test.YtdhelapgdgekfaaChecked
import GoSem.Claim
import GoSem.ClaimJoined
import GoSem.ClaimMapViews
import Derived.JoinedTies
import Derived.KernelRfl
namespace Go.Proofs.Ytdhelapgdgekfaa
/- THE CELL 'sum', in the pinned program and in every row, IS THE sha256 OF THE DUMP (.gsa) THAT YtdhelapgdgekfaaProg.lean LOADS. Nothing in Lean hashes anything: it is a label: what it is worth is what the hold of that sum in a sandbox is worth. -/
noncomputable def Try.pinned : Pinned := { name := "ytdhelapgdgekfaa", sum := "7cbc34e937ca0a9e3c60fec54dd35974e787f0f95efaf725eff62ed2d2bb7c2a", checked := Try.checked }
namespace Rows
def none {H : Type} : Left H := { results := [], args := [] }

/-- 'laws.FnTreeTable': WHATEVER THE INPUT: true; the input reads as it did. -/
def fnTreeTableSpec : ChangeSpec := { name := "fnTreeTable", fn := fun _ => fun
  | [d] => { results := [.lit (.bool true)], args := [d] }
  | _ => none }
def fnTreeTableRow : OpenClaim := { program := "ytdhelapgdgekfaa", sum := "7cbc34e937ca0a9e3c60fec54dd35974e787f0f95efaf725eff62ed2d2bb7c2a", func := "loop.example/helpersinreach/laws.FnTreeTable", spec := "fnTreeTable", unfollowed := true, recurses := true, apart := false }
def FnTreeTableSaid : Prop := fnTreeTableRow.holds Try.pinned (OpenSpec.ofChange fnTreeTableSpec)

/-- ITS FALSE NEIGHBOUR: 'it returns false'. Refute it at one input. -/
def fnTreeTableWrong : ChangeSpec := { name := "fnTreeTable", fn := fun _ => fun
  | [d] => { results := [.lit (.bool false)], args := [d] }
  | _ => none }
def FnTreeTableWrongFalsely : Prop := fnTreeTableRow.holds Try.pinned (OpenSpec.ofChange fnTreeTableWrong)

/-- 'laws.FnTreeCover': WHATEVER THE INPUT: true; the input reads as it did. -/
def fnTreeCoverSpec : ChangeSpec := { name := "fnTreeCover", fn := fun _ => fun
  | [d] => { results := [.lit (.bool true)], args := [d] }
  | _ => none }
def fnTreeCoverRow : OpenClaim := { program := "ytdhelapgdgekfaa", sum := "7cbc34e937ca0a9e3c60fec54dd35974e787f0f95efaf725eff62ed2d2bb7c2a", func := "loop.example/helpersinreach/laws.FnTreeCover", spec := "fnTreeCover", unfollowed := true, recurses := true, apart := false }
def FnTreeCoverSaid : Prop := fnTreeCoverRow.holds Try.pinned (OpenSpec.ofChange fnTreeCoverSpec)

/-- ITS FALSE NEIGHBOUR: 'it returns false'. Refute it at one input. -/
def fnTreeCoverWrong : ChangeSpec := { name := "fnTreeCover", fn := fun _ => fun
  | [d] => { results := [.lit (.bool false)], args := [d] }
  | _ => none }
def FnTreeCoverWrongFalsely : Prop := fnTreeCoverRow.holds Try.pinned (OpenSpec.ofChange fnTreeCoverWrong)

/-- 'laws.FnTreeApart': WHATEVER THE INPUT: true; the input reads as it did. -/
def fnTreeApartSpec : ChangeSpec := { name := "fnTreeApart", fn := fun _ => fun
  | [d] => { results := [.lit (.bool true)], args := [d] }
  | _ => none }
def fnTreeApartRow : OpenClaim := { program := "ytdhelapgdgekfaa", sum := "7cbc34e937ca0a9e3c60fec54dd35974e787f0f95efaf725eff62ed2d2bb7c2a", func := "loop.example/helpersinreach/laws.FnTreeApart", spec := "fnTreeApart", unfollowed := true, recurses := true, apart := false }
def FnTreeApartSaid : Prop := fnTreeApartRow.holds Try.pinned (OpenSpec.ofChange fnTreeApartSpec)

/-- ITS FALSE NEIGHBOUR: 'it returns false'. Refute it at one input. -/
def fnTreeApartWrong : ChangeSpec := { name := "fnTreeApart", fn := fun _ => fun
  | [d] => { results := [.lit (.bool false)], args := [d] }
  | _ => none }
def FnTreeApartWrongFalsely : Prop := fnTreeApartRow.holds Try.pinned (OpenSpec.ofChange fnTreeApartWrong)

/-- 'laws.FnNetsAreTrees': WHATEVER THE INPUT: true; the input reads as it did. -/
def fnNetsAreTreesSpec : ChangeSpec := { name := "fnNetsAreTrees", fn := fun _ => fun
  | [d] => { results := [.lit (.bool true)], args := [d] }
  | _ => none }
def fnNetsAreTreesRow : OpenClaim := { program := "ytdhelapgdgekfaa", sum := "7cbc34e937ca0a9e3c60fec54dd35974e787f0f95efaf725eff62ed2d2bb7c2a", func := "loop.example/helpersinreach/laws.FnNetsAreTrees", spec := "fnNetsAreTrees", unfollowed := true, recurses := true, apart := false }
def FnNetsAreTreesSaid : Prop := fnNetsAreTreesRow.holds Try.pinned (OpenSpec.ofChange fnNetsAreTreesSpec)

/-- ITS FALSE NEIGHBOUR: 'it returns false'. Refute it at one input. -/
def fnNetsAreTreesWrong : ChangeSpec := { name := "fnNetsAreTrees", fn := fun _ => fun
  | [d] => { results := [.lit (.bool false)], args := [d] }
  | _ => none }
def FnNetsAreTreesWrongFalsely : Prop := fnNetsAreTreesRow.holds Try.pinned (OpenSpec.ofChange fnNetsAreTreesWrong)

/-- 'laws.FnValidTree': WHATEVER THE INPUT: true; the input reads as it did. -/
def fnValidTreeSpec : ChangeSpec := { name := "fnValidTree", fn := fun _ => fun
  | [d] => { results := [.lit (.bool true)], args := [d] }
  | _ => none }
def fnValidTreeRow : OpenClaim := { program := "ytdhelapgdgekfaa", sum := "7cbc34e937ca0a9e3c60fec54dd35974e787f0f95efaf725eff62ed2d2bb7c2a", func := "loop.example/helpersinreach/laws.FnValidTree", spec := "fnValidTree", apart := false }
def FnValidTreeSaid : Prop := fnValidTreeRow.holds Try.pinned (OpenSpec.ofChange fnValidTreeSpec)

/-- ITS FALSE NEIGHBOUR: 'it returns false'. Refute it at one input. -/
def fnValidTreeWrong : ChangeSpec := { name := "fnValidTree", fn := fun _ => fun
  | [d] => { results := [.lit (.bool false)], args := [d] }
  | _ => none }
def FnValidTreeWrongFalsely : Prop := fnValidTreeRow.holds Try.pinned (OpenSpec.ofChange fnValidTreeWrong)

/-- 'laws.FnTreeSum': WHATEVER THE INPUT: true; the input reads as it did. -/
def fnTreeSumSpec : ChangeSpec := { name := "fnTreeSum", fn := fun _ => fun
  | [d] => { results := [.lit (.bool true)], args := [d] }
  | _ => none }
def fnTreeSumRow : OpenClaim := { program := "ytdhelapgdgekfaa", sum := "7cbc34e937ca0a9e3c60fec54dd35974e787f0f95efaf725eff62ed2d2bb7c2a", func := "loop.example/helpersinreach/laws.FnTreeSum", spec := "fnTreeSum", unfollowed := true, recurses := true, apart := false }
def FnTreeSumSaid : Prop := fnTreeSumRow.holds Try.pinned (OpenSpec.ofChange fnTreeSumSpec)

/-- ITS FALSE NEIGHBOUR: 'it returns false'. Refute it at one input. -/
def fnTreeSumWrong : ChangeSpec := { name := "fnTreeSum", fn := fun _ => fun
  | [d] => { results := [.lit (.bool false)], args := [d] }
  | _ => none }
def FnTreeSumWrongFalsely : Prop := fnTreeSumRow.holds Try.pinned (OpenSpec.ofChange fnTreeSumWrong)

/-- 'laws.FnExactValidTree': WHATEVER THE INPUT: true; the input reads as it did. -/
def fnExactValidTreeSpec : ChangeSpec := { name := "fnExactValidTree", fn := fun _ => fun
  | [d] => { results := [.lit (.bool true)], args := [d] }
  | _ => none }
def fnExactValidTreeRow : OpenClaim := { program := "ytdhelapgdgekfaa", sum := "7cbc34e937ca0a9e3c60fec54dd35974e787f0f95efaf725eff62ed2d2bb7c2a", func := "loop.example/helpersinreach/laws.FnExactValidTree", spec := "fnExactValidTree", apart := false }
def FnExactValidTreeSaid : Prop := fnExactValidTreeRow.holds Try.pinned (OpenSpec.ofChange fnExactValidTreeSpec)

/-- ITS FALSE NEIGHBOUR: 'it returns false'. Refute it at one input. -/
def fnExactValidTreeWrong : ChangeSpec := { name := "fnExactValidTree", fn := fun _ => fun
  | [d] => { results := [.lit (.bool false)], args := [d] }
  | _ => none }
def FnExactValidTreeWrongFalsely : Prop := fnExactValidTreeRow.holds Try.pinned (OpenSpec.ofChange fnExactValidTreeWrong)

/-- 'laws.FnExactTreeTable': WHATEVER THE INPUT: true; the input reads as it did. -/
def fnExactTreeTableSpec : ChangeSpec := { name := "fnExactTreeTable", fn := fun _ => fun
  | [d] => { results := [.lit (.bool true)], args := [d] }
  | _ => none }
def fnExactTreeTableRow : OpenClaim := { program := "ytdhelapgdgekfaa", sum := "7cbc34e937ca0a9e3c60fec54dd35974e787f0f95efaf725eff62ed2d2bb7c2a", func := "loop.example/helpersinreach/laws.FnExactTreeTable", spec := "fnExactTreeTable", unfollowed := true, recurses := true, apart := false }
def FnExactTreeTableSaid : Prop := fnExactTreeTableRow.holds Try.pinned (OpenSpec.ofChange fnExactTreeTableSpec)

/-- ITS FALSE NEIGHBOUR: 'it returns false'. Refute it at one input. -/
def fnExactTreeTableWrong : ChangeSpec := { name := "fnExactTreeTable", fn := fun _ => fun
  | [d] => { results := [.lit (.bool false)], args := [d] }
  | _ => none }
def FnExactTreeTableWrongFalsely : Prop := fnExactTreeTableRow.holds Try.pinned (OpenSpec.ofChange fnExactTreeTableWrong)

/-- 'laws.FnExactTreeApart': WHATEVER THE INPUT: true; the input reads as it did. -/
def fnExactTreeApartSpec : ChangeSpec := { name := "fnExactTreeApart", fn := fun _ => fun
  | [d1, d2] => { results := [.lit (.bool true)], args := [d1, d2] }
  | _ => none }
def fnExactTreeApartRow : OpenClaim := { program := "ytdhelapgdgekfaa", sum := "7cbc34e937ca0a9e3c60fec54dd35974e787f0f95efaf725eff62ed2d2bb7c2a", func := "loop.example/helpersinreach/laws.FnExactTreeApart", spec := "fnExactTreeApart", unfollowed := true, recurses := true, apart := false }
def FnExactTreeApartSaid : Prop := fnExactTreeApartRow.holds Try.pinned (OpenSpec.ofChange fnExactTreeApartSpec)

/-- ITS FALSE NEIGHBOUR: 'it returns false'. Refute it at one input. -/
def fnExactTreeApartWrong : ChangeSpec := { name := "fnExactTreeApart", fn := fun _ => fun
  | [d1, d2] => { results := [.lit (.bool false)], args := [d1, d2] }
  | _ => none }
def FnExactTreeApartWrongFalsely : Prop := fnExactTreeApartRow.holds Try.pinned (OpenSpec.ofChange fnExactTreeApartWrong)

/-- 'laws.FnExactTreeCover': WHATEVER THE INPUT: true; the input reads as it did. -/
def fnExactTreeCoverSpec : ChangeSpec := { name := "fnExactTreeCover", fn := fun _ => fun
  | [d1, d2] => { results := [.lit (.bool true)], args := [d1, d2] }
  | _ => none }
def fnExactTreeCoverRow : OpenClaim := { program := "ytdhelapgdgekfaa", sum := "7cbc34e937ca0a9e3c60fec54dd35974e787f0f95efaf725eff62ed2d2bb7c2a", func := "loop.example/helpersinreach/laws.FnExactTreeCover", spec := "fnExactTreeCover", unfollowed := true, recurses := true, apart := false }
def FnExactTreeCoverSaid : Prop := fnExactTreeCoverRow.holds Try.pinned (OpenSpec.ofChange fnExactTreeCoverSpec)

/-- ITS FALSE NEIGHBOUR: 'it returns false'. Refute it at one input. -/
def fnExactTreeCoverWrong : ChangeSpec := { name := "fnExactTreeCover", fn := fun _ => fun
  | [d1, d2] => { results := [.lit (.bool false)], args := [d1, d2] }
  | _ => none }
def FnExactTreeCoverWrongFalsely : Prop := fnExactTreeCoverRow.holds Try.pinned (OpenSpec.ofChange fnExactTreeCoverWrong)

/-- 'laws.FnExactNetTable': WHATEVER THE INPUT: true; the input reads as it did. -/
def fnExactNetTableSpec : ChangeSpec := { name := "fnExactNetTable", fn := fun _ => fun
  | [d1, d2] => { results := [.lit (.bool true)], args := [d1, d2] }
  | _ => none }
def fnExactNetTableRow : OpenClaim := { program := "ytdhelapgdgekfaa", sum := "7cbc34e937ca0a9e3c60fec54dd35974e787f0f95efaf725eff62ed2d2bb7c2a", func := "loop.example/helpersinreach/laws.FnExactNetTable", spec := "fnExactNetTable", unfollowed := true, recurses := true, apart := false }
def FnExactNetTableSaid : Prop := fnExactNetTableRow.holds Try.pinned (OpenSpec.ofChange fnExactNetTableSpec)

/-- ITS FALSE NEIGHBOUR: 'it returns false'. Refute it at one input. -/
def fnExactNetTableWrong : ChangeSpec := { name := "fnExactNetTable", fn := fun _ => fun
  | [d1, d2] => { results := [.lit (.bool false)], args := [d1, d2] }
  | _ => none }
def FnExactNetTableWrongFalsely : Prop := fnExactNetTableRow.holds Try.pinned (OpenSpec.ofChange fnExactNetTableWrong)

/-- 'laws.FnLinesAreTrees': WHATEVER THE INPUT: true; the input reads as it did. -/
def fnLinesAreTreesSpec : ChangeSpec := { name := "fnLinesAreTrees", fn := fun _ => fun
  | [d] => { results := [.lit (.bool true)], args := [d] }
  | _ => none }
def fnLinesAreTreesRow : OpenClaim := { program := "ytdhelapgdgekfaa", sum := "7cbc34e937ca0a9e3c60fec54dd35974e787f0f95efaf725eff62ed2d2bb7c2a", func := "loop.example/helpersinreach/laws.FnLinesAreTrees", spec := "fnLinesAreTrees", unfollowed := true, recurses := true, apart := false }
def FnLinesAreTreesSaid : Prop := fnLinesAreTreesRow.holds Try.pinned (OpenSpec.ofChange fnLinesAreTreesSpec)

/-- ITS FALSE NEIGHBOUR: 'it returns false'. Refute it at one input. -/
def fnLinesAreTreesWrong : ChangeSpec := { name := "fnLinesAreTrees", fn := fun _ => fun
  | [d] => { results := [.lit (.bool false)], args := [d] }
  | _ => none }
def FnLinesAreTreesWrongFalsely : Prop := fnLinesAreTreesRow.holds Try.pinned (OpenSpec.ofChange fnLinesAreTreesWrong)

/- THE SECOND FORM. 'bulk': how many values and letters a reading holds, each counted each time it is reached (what is shared counts as often as it is met; a slice's spare places count too). A statement '..UptoSaid' is the law's where the arguments, and the package variables that the reading takes, are together of bulk at most 1048576: NARROWER than '..Said'. Prove '..Said' where nothing that the law and all that it calls make is longer than what came in: it says more and counts as full. Else prove '..UptoSaid'. A law counts once. -/
mutual
def uptoBulk {H : Type} : DataW H → Nat
  | .lit (.string bytes) => bytes.length + 1
  | .lit _ => 1
  | .nil => 1
  | .ptr d => uptoBulk d + 1
  | .slice elems spare => uptoBulkAll elems + uptoBulkAll spare + 1
  | .agg parts => uptoBulkAll parts + 1
  | .iface _ d => uptoBulk d + 1
  | .map entries => uptoBulkEntries entries + 1
  | .held _ => 1
def uptoBulkAll {H : Type} : List (DataW H) → Nat
  | [] => 0
  | d :: r => uptoBulk d + uptoBulkAll r
def uptoBulkEntries {H : Type} : List (Lit × DataW H) → Nat
  | [] => 0
  | x :: r => uptoBulkEntry x + uptoBulkEntries r
def uptoBulkEntry {H : Type} : Lit × DataW H → Nat
  | (.string bytes, d) => bytes.length + uptoBulk d + 1
  | (_, d) => uptoBulk d + 1
 end
def uptoSmall : (H : Type) → List (DataW H) → Bool := fun _ ds => decide (uptoBulkAll ds ≤ 1048576)
def OpenSpec.upto (s : _root_.Go.ChangeSpec) : _root_.Go.OpenSpec := { _root_.Go.OpenSpec.ofChange s with cond := some uptoSmall }

/-- 'laws.FnTreeTable', WHERE WHAT IT READS IS OF BULK AT MOST 1048576: true; the input reads as it did. -/
def fnTreeTableUptoRow : OpenClaim := { program := "ytdhelapgdgekfaa", sum := "7cbc34e937ca0a9e3c60fec54dd35974e787f0f95efaf725eff62ed2d2bb7c2a", func := "loop.example/helpersinreach/laws.FnTreeTable", spec := "fnTreeTable", unfollowed := true, recurses := true, apart := false, narrowed := true }
def FnTreeTableUptoSaid : Prop := fnTreeTableUptoRow.holds Try.pinned (OpenSpec.upto fnTreeTableSpec)

/-- 'laws.FnTreeCover', WHERE WHAT IT READS IS OF BULK AT MOST 1048576: true; the input reads as it did. -/
def fnTreeCoverUptoRow : OpenClaim := { program := "ytdhelapgdgekfaa", sum := "7cbc34e937ca0a9e3c60fec54dd35974e787f0f95efaf725eff62ed2d2bb7c2a", func := "loop.example/helpersinreach/laws.FnTreeCover", spec := "fnTreeCover", unfollowed := true, recurses := true, apart := false, narrowed := true }
def FnTreeCoverUptoSaid : Prop := fnTreeCoverUptoRow.holds Try.pinned (OpenSpec.upto fnTreeCoverSpec)

/-- 'laws.FnTreeApart', WHERE WHAT IT READS IS OF BULK AT MOST 1048576: true; the input reads as it did. -/
def fnTreeApartUptoRow : OpenClaim := { program := "ytdhelapgdgekfaa", sum := "7cbc34e937ca0a9e3c60fec54dd35974e787f0f95efaf725eff62ed2d2bb7c2a", func := "loop.example/helpersinreach/laws.FnTreeApart", spec := "fnTreeApart", unfollowed := true, recurses := true, apart := false, narrowed := true }
def FnTreeApartUptoSaid : Prop := fnTreeApartUptoRow.holds Try.pinned (OpenSpec.upto fnTreeApartSpec)

/-- 'laws.FnNetsAreTrees', WHERE WHAT IT READS IS OF BULK AT MOST 1048576: true; the input reads as it did. -/
def fnNetsAreTreesUptoRow : OpenClaim := { program := "ytdhelapgdgekfaa", sum := "7cbc34e937ca0a9e3c60fec54dd35974e787f0f95efaf725eff62ed2d2bb7c2a", func := "loop.example/helpersinreach/laws.FnNetsAreTrees", spec := "fnNetsAreTrees", unfollowed := true, recurses := true, apart := false, narrowed := true }
def FnNetsAreTreesUptoSaid : Prop := fnNetsAreTreesUptoRow.holds Try.pinned (OpenSpec.upto fnNetsAreTreesSpec)

/-- 'laws.FnValidTree', WHERE WHAT IT READS IS OF BULK AT MOST 1048576: true; the input reads as it did. -/
def fnValidTreeUptoRow : OpenClaim := { program := "ytdhelapgdgekfaa", sum := "7cbc34e937ca0a9e3c60fec54dd35974e787f0f95efaf725eff62ed2d2bb7c2a", func := "loop.example/helpersinreach/laws.FnValidTree", spec := "fnValidTree", apart := false, narrowed := true }
def FnValidTreeUptoSaid : Prop := fnValidTreeUptoRow.holds Try.pinned (OpenSpec.upto fnValidTreeSpec)

/-- 'laws.FnTreeSum', WHERE WHAT IT READS IS OF BULK AT MOST 1048576: true; the input reads as it did. -/
def fnTreeSumUptoRow : OpenClaim := { program := "ytdhelapgdgekfaa", sum := "7cbc34e937ca0a9e3c60fec54dd35974e787f0f95efaf725eff62ed2d2bb7c2a", func := "loop.example/helpersinreach/laws.FnTreeSum", spec := "fnTreeSum", unfollowed := true, recurses := true, apart := false, narrowed := true }
def FnTreeSumUptoSaid : Prop := fnTreeSumUptoRow.holds Try.pinned (OpenSpec.upto fnTreeSumSpec)

/-- 'laws.FnExactValidTree', WHERE WHAT IT READS IS OF BULK AT MOST 1048576: true; the input reads as it did. -/
def fnExactValidTreeUptoRow : OpenClaim := { program := "ytdhelapgdgekfaa", sum := "7cbc34e937ca0a9e3c60fec54dd35974e787f0f95efaf725eff62ed2d2bb7c2a", func := "loop.example/helpersinreach/laws.FnExactValidTree", spec := "fnExactValidTree", apart := false, narrowed := true }
def FnExactValidTreeUptoSaid : Prop := fnExactValidTreeUptoRow.holds Try.pinned (OpenSpec.upto fnExactValidTreeSpec)

/-- 'laws.FnExactTreeTable', WHERE WHAT IT READS IS OF BULK AT MOST 1048576: true; the input reads as it did. -/
def fnExactTreeTableUptoRow : OpenClaim := { program := "ytdhelapgdgekfaa", sum := "7cbc34e937ca0a9e3c60fec54dd35974e787f0f95efaf725eff62ed2d2bb7c2a", func := "loop.example/helpersinreach/laws.FnExactTreeTable", spec := "fnExactTreeTable", unfollowed := true, recurses := true, apart := false, narrowed := true }
def FnExactTreeTableUptoSaid : Prop := fnExactTreeTableUptoRow.holds Try.pinned (OpenSpec.upto fnExactTreeTableSpec)

/-- 'laws.FnExactTreeApart', WHERE WHAT IT READS IS OF BULK AT MOST 1048576: true; the input reads as it did. -/
def fnExactTreeApartUptoRow : OpenClaim := { program := "ytdhelapgdgekfaa", sum := "7cbc34e937ca0a9e3c60fec54dd35974e787f0f95efaf725eff62ed2d2bb7c2a", func := "loop.example/helpersinreach/laws.FnExactTreeApart", spec := "fnExactTreeApart", unfollowed := true, recurses := true, apart := false, narrowed := true }
def FnExactTreeApartUptoSaid : Prop := fnExactTreeApartUptoRow.holds Try.pinned (OpenSpec.upto fnExactTreeApartSpec)

/-- 'laws.FnExactTreeCover', WHERE WHAT IT READS IS OF BULK AT MOST 1048576: true; the input reads as it did. -/
def fnExactTreeCoverUptoRow : OpenClaim := { program := "ytdhelapgdgekfaa", sum := "7cbc34e937ca0a9e3c60fec54dd35974e787f0f95efaf725eff62ed2d2bb7c2a", func := "loop.example/helpersinreach/laws.FnExactTreeCover", spec := "fnExactTreeCover", unfollowed := true, recurses := true, apart := false, narrowed := true }
def FnExactTreeCoverUptoSaid : Prop := fnExactTreeCoverUptoRow.holds Try.pinned (OpenSpec.upto fnExactTreeCoverSpec)

/-- 'laws.FnExactNetTable', WHERE WHAT IT READS IS OF BULK AT MOST 1048576: true; the input reads as it did. -/
def fnExactNetTableUptoRow : OpenClaim := { program := "ytdhelapgdgekfaa", sum := "7cbc34e937ca0a9e3c60fec54dd35974e787f0f95efaf725eff62ed2d2bb7c2a", func := "loop.example/helpersinreach/laws.FnExactNetTable", spec := "fnExactNetTable", unfollowed := true, recurses := true, apart := false, narrowed := true }
def FnExactNetTableUptoSaid : Prop := fnExactNetTableUptoRow.holds Try.pinned (OpenSpec.upto fnExactNetTableSpec)

/-- 'laws.FnLinesAreTrees', WHERE WHAT IT READS IS OF BULK AT MOST 1048576: true; the input reads as it did. -/
def fnLinesAreTreesUptoRow : OpenClaim := { program := "ytdhelapgdgekfaa", sum := "7cbc34e937ca0a9e3c60fec54dd35974e787f0f95efaf725eff62ed2d2bb7c2a", func := "loop.example/helpersinreach/laws.FnLinesAreTrees", spec := "fnLinesAreTrees", unfollowed := true, recurses := true, apart := false, narrowed := true }
def FnLinesAreTreesUptoSaid : Prop := fnLinesAreTreesUptoRow.holds Try.pinned (OpenSpec.upto fnLinesAreTreesSpec)

end Rows
end Go.Proofs.Ytdhelapgdgekfaa
