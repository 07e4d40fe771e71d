/-
  No cell of these rows narrows 'for every input' (looked for: loops, veiled, ifaces, maps, wideKeys, modest, calm, conditions, laid).
  DERIVED. THE GIVEN ROWS OF THIS SEAT. 7 by the template 'for every input the law returns true; each argument reads behind the call as it read before'; 0 by the template 'total and deterministic' (their statements: YtoohfipicmdohacTotals.lean).
  GIVEN WITH THE SEED: the statements are not yours to turn. If you find one false, say at which input.
  Laid BY PROGRAM, IN A SANDBOX (cutbox-rows.mjs): the forced cells as the released guide's own fill.sh prints them over the translation 4ac3c7a5581c55d5… (all of the seat's roots in one cut). By AI agents, Wed Nov 11 2026. No macro, syntax, notation, axiom, sorry.
-/
import Derived.Test.YtoohfipicmdohacChecked
import GoSem.Claim
import GoSem.ClaimJoined
import GoSem.ClaimMapViews
import Derived.JoinedTies
import Derived.KernelRfl
namespace Go.Proofs.Ytoohfipicmdohac
/- THE CELL 'sum', in the pinned program and in every row, IS THE sha256 OF THE DUMP (.gsa) THAT YtoohfipicmdohacProg.lean LOADS. Nothing in Lean hashes anything: it is a label: what it is worth is what the hold of that sum in a sandbox is worth. -/
noncomputable def Try.pinned : Pinned := { name := "ytoohfipicmdohac", sum := "4ac3c7a5581c55d5da02c9194479973d734d42616f10e35eb6b9a1b25d4613a1", checked := Try.checked }
namespace Rows
def none {H : Type} : Left H := { results := [], args := [] }

/-- 'laws.FnValidHomes': WHATEVER THE INPUT: true; the input reads as it did. -/
def fnValidHomesSpec : ChangeSpec := { name := "fnValidHomes", fn := fun _ => fun
  | [d] => { results := [.lit (.bool true)], args := [d] }
  | _ => none }
def fnValidHomesRow : OpenClaim := { program := "ytoohfipicmdohac", sum := "4ac3c7a5581c55d5da02c9194479973d734d42616f10e35eb6b9a1b25d4613a1", func := "loop.example/helpersinreach/laws.FnValidHomes", spec := "fnValidHomes", apart := false }
def FnValidHomesSaid : Prop := fnValidHomesRow.holds Try.pinned (OpenSpec.ofChange fnValidHomesSpec)

/-- ITS FALSE NEIGHBOUR: 'it returns false'. Refute it at one input. -/
def fnValidHomesWrong : ChangeSpec := { name := "fnValidHomes", fn := fun _ => fun
  | [d] => { results := [.lit (.bool false)], args := [d] }
  | _ => none }
def FnValidHomesWrongFalsely : Prop := fnValidHomesRow.holds Try.pinned (OpenSpec.ofChange fnValidHomesWrong)

/-- 'laws.FnExactValidHomes': WHATEVER THE INPUT: true; the input reads as it did. -/
def fnExactValidHomesSpec : ChangeSpec := { name := "fnExactValidHomes", fn := fun _ => fun
  | [d] => { results := [.lit (.bool true)], args := [d] }
  | _ => none }
def fnExactValidHomesRow : OpenClaim := { program := "ytoohfipicmdohac", sum := "4ac3c7a5581c55d5da02c9194479973d734d42616f10e35eb6b9a1b25d4613a1", func := "loop.example/helpersinreach/laws.FnExactValidHomes", spec := "fnExactValidHomes", apart := false }
def FnExactValidHomesSaid : Prop := fnExactValidHomesRow.holds Try.pinned (OpenSpec.ofChange fnExactValidHomesSpec)

/-- ITS FALSE NEIGHBOUR: 'it returns false'. Refute it at one input. -/
def fnExactValidHomesWrong : ChangeSpec := { name := "fnExactValidHomes", fn := fun _ => fun
  | [d] => { results := [.lit (.bool false)], args := [d] }
  | _ => none }
def FnExactValidHomesWrongFalsely : Prop := fnExactValidHomesRow.holds Try.pinned (OpenSpec.ofChange fnExactValidHomesWrong)

/-- 'laws.FnLinesAreTrees': WHATEVER THE INPUT: true; the input reads as it did. -/
def fnLinesAreTreesSpec : ChangeSpec := { name := "fnLinesAreTrees", fn := fun _ => fun
  | [d] => { results := [.lit (.bool true)], args := [d] }
  | _ => none }
def fnLinesAreTreesRow : OpenClaim := { program := "ytoohfipicmdohac", sum := "4ac3c7a5581c55d5da02c9194479973d734d42616f10e35eb6b9a1b25d4613a1", func := "loop.example/helpersinreach/laws.FnLinesAreTrees", spec := "fnLinesAreTrees", unfollowed := true, recurses := true, apart := false }
def FnLinesAreTreesSaid : Prop := fnLinesAreTreesRow.holds Try.pinned (OpenSpec.ofChange fnLinesAreTreesSpec)

/-- ITS FALSE NEIGHBOUR: 'it returns false'. Refute it at one input. -/
def fnLinesAreTreesWrong : ChangeSpec := { name := "fnLinesAreTrees", fn := fun _ => fun
  | [d] => { results := [.lit (.bool false)], args := [d] }
  | _ => none }
def FnLinesAreTreesWrongFalsely : Prop := fnLinesAreTreesRow.holds Try.pinned (OpenSpec.ofChange fnLinesAreTreesWrong)

/-- 'laws.FnTreeSum': WHATEVER THE INPUT: true; the input reads as it did. -/
def fnTreeSumSpec : ChangeSpec := { name := "fnTreeSum", fn := fun _ => fun
  | [d] => { results := [.lit (.bool true)], args := [d] }
  | _ => none }
def fnTreeSumRow : OpenClaim := { program := "ytoohfipicmdohac", sum := "4ac3c7a5581c55d5da02c9194479973d734d42616f10e35eb6b9a1b25d4613a1", func := "loop.example/helpersinreach/laws.FnTreeSum", spec := "fnTreeSum", unfollowed := true, recurses := true, apart := false }
def FnTreeSumSaid : Prop := fnTreeSumRow.holds Try.pinned (OpenSpec.ofChange fnTreeSumSpec)

/-- ITS FALSE NEIGHBOUR: 'it returns false'. Refute it at one input. -/
def fnTreeSumWrong : ChangeSpec := { name := "fnTreeSum", fn := fun _ => fun
  | [d] => { results := [.lit (.bool false)], args := [d] }
  | _ => none }
def FnTreeSumWrongFalsely : Prop := fnTreeSumRow.holds Try.pinned (OpenSpec.ofChange fnTreeSumWrong)

/-- 'laws.FnExactValidTree': WHATEVER THE INPUT: true; the input reads as it did. -/
def fnExactValidTreeSpec : ChangeSpec := { name := "fnExactValidTree", fn := fun _ => fun
  | [d] => { results := [.lit (.bool true)], args := [d] }
  | _ => none }
def fnExactValidTreeRow : OpenClaim := { program := "ytoohfipicmdohac", sum := "4ac3c7a5581c55d5da02c9194479973d734d42616f10e35eb6b9a1b25d4613a1", func := "loop.example/helpersinreach/laws.FnExactValidTree", spec := "fnExactValidTree", apart := false }
def FnExactValidTreeSaid : Prop := fnExactValidTreeRow.holds Try.pinned (OpenSpec.ofChange fnExactValidTreeSpec)

/-- ITS FALSE NEIGHBOUR: 'it returns false'. Refute it at one input. -/
def fnExactValidTreeWrong : ChangeSpec := { name := "fnExactValidTree", fn := fun _ => fun
  | [d] => { results := [.lit (.bool false)], args := [d] }
  | _ => none }
def FnExactValidTreeWrongFalsely : Prop := fnExactValidTreeRow.holds Try.pinned (OpenSpec.ofChange fnExactValidTreeWrong)

/-- 'laws.FnExactTreeTable': WHATEVER THE INPUT: true; the input reads as it did. -/
def fnExactTreeTableSpec : ChangeSpec := { name := "fnExactTreeTable", fn := fun _ => fun
  | [d] => { results := [.lit (.bool true)], args := [d] }
  | _ => none }
def fnExactTreeTableRow : OpenClaim := { program := "ytoohfipicmdohac", sum := "4ac3c7a5581c55d5da02c9194479973d734d42616f10e35eb6b9a1b25d4613a1", func := "loop.example/helpersinreach/laws.FnExactTreeTable", spec := "fnExactTreeTable", unfollowed := true, recurses := true, apart := false }
def FnExactTreeTableSaid : Prop := fnExactTreeTableRow.holds Try.pinned (OpenSpec.ofChange fnExactTreeTableSpec)

/-- ITS FALSE NEIGHBOUR: 'it returns false'. Refute it at one input. -/
def fnExactTreeTableWrong : ChangeSpec := { name := "fnExactTreeTable", fn := fun _ => fun
  | [d] => { results := [.lit (.bool false)], args := [d] }
  | _ => none }
def FnExactTreeTableWrongFalsely : Prop := fnExactTreeTableRow.holds Try.pinned (OpenSpec.ofChange fnExactTreeTableWrong)

/-- 'laws.FnExactTreeApart': WHATEVER THE INPUT: true; the input reads as it did. -/
def fnExactTreeApartSpec : ChangeSpec := { name := "fnExactTreeApart", fn := fun _ => fun
  | [d1, d2] => { results := [.lit (.bool true)], args := [d1, d2] }
  | _ => none }
def fnExactTreeApartRow : OpenClaim := { program := "ytoohfipicmdohac", sum := "4ac3c7a5581c55d5da02c9194479973d734d42616f10e35eb6b9a1b25d4613a1", func := "loop.example/helpersinreach/laws.FnExactTreeApart", spec := "fnExactTreeApart", unfollowed := true, recurses := true, apart := false }
def FnExactTreeApartSaid : Prop := fnExactTreeApartRow.holds Try.pinned (OpenSpec.ofChange fnExactTreeApartSpec)

/-- ITS FALSE NEIGHBOUR: 'it returns false'. Refute it at one input. -/
def fnExactTreeApartWrong : ChangeSpec := { name := "fnExactTreeApart", fn := fun _ => fun
  | [d1, d2] => { results := [.lit (.bool false)], args := [d1, d2] }
  | _ => none }
def FnExactTreeApartWrongFalsely : Prop := fnExactTreeApartRow.holds Try.pinned (OpenSpec.ofChange fnExactTreeApartWrong)

/- THE SECOND FORM. 'bulk': how many values and letters a reading holds, each counted each time it is reached (what is shared counts as often as it is met; a slice's spare places count too). A statement '..UptoSaid' is the law's where the arguments, and the package variables that the reading takes, are together of bulk at most 1048576: NARROWER than '..Said'. Prove '..Said' where nothing that the law and all that it calls make is longer than what came in: it says more and counts as full. Else prove '..UptoSaid'. A law counts once. -/
mutual
def uptoBulk {H : Type} : DataW H → Nat
  | .lit (.string bytes) => bytes.length + 1
  | .lit _ => 1
  | .nil => 1
  | .ptr d => uptoBulk d + 1
  | .slice elems spare => uptoBulkAll elems + uptoBulkAll spare + 1
  | .agg parts => uptoBulkAll parts + 1
  | .iface _ d => uptoBulk d + 1
  | .map entries => uptoBulkEntries entries + 1
  | .held _ => 1
def uptoBulkAll {H : Type} : List (DataW H) → Nat
  | [] => 0
  | d :: r => uptoBulk d + uptoBulkAll r
def uptoBulkEntries {H : Type} : List (Lit × DataW H) → Nat
  | [] => 0
  | x :: r => uptoBulkEntry x + uptoBulkEntries r
def uptoBulkEntry {H : Type} : Lit × DataW H → Nat
  | (.string bytes, d) => bytes.length + uptoBulk d + 1
  | (_, d) => uptoBulk d + 1
 end
def uptoSmall : (H : Type) → List (DataW H) → Bool := fun _ ds => decide (uptoBulkAll ds ≤ 1048576)
def OpenSpec.upto (s : _root_.Go.ChangeSpec) : _root_.Go.OpenSpec := { _root_.Go.OpenSpec.ofChange s with cond := some uptoSmall }

/-- 'laws.FnValidHomes', WHERE WHAT IT READS IS OF BULK AT MOST 1048576: true; the input reads as it did. -/
def fnValidHomesUptoRow : OpenClaim := { program := "ytoohfipicmdohac", sum := "4ac3c7a5581c55d5da02c9194479973d734d42616f10e35eb6b9a1b25d4613a1", func := "loop.example/helpersinreach/laws.FnValidHomes", spec := "fnValidHomes", apart := false, narrowed := true }
def FnValidHomesUptoSaid : Prop := fnValidHomesUptoRow.holds Try.pinned (OpenSpec.upto fnValidHomesSpec)

/-- 'laws.FnExactValidHomes', WHERE WHAT IT READS IS OF BULK AT MOST 1048576: true; the input reads as it did. -/
def fnExactValidHomesUptoRow : OpenClaim := { program := "ytoohfipicmdohac", sum := "4ac3c7a5581c55d5da02c9194479973d734d42616f10e35eb6b9a1b25d4613a1", func := "loop.example/helpersinreach/laws.FnExactValidHomes", spec := "fnExactValidHomes", apart := false, narrowed := true }
def FnExactValidHomesUptoSaid : Prop := fnExactValidHomesUptoRow.holds Try.pinned (OpenSpec.upto fnExactValidHomesSpec)

/-- 'laws.FnLinesAreTrees', WHERE WHAT IT READS IS OF BULK AT MOST 1048576: true; the input reads as it did. -/
def fnLinesAreTreesUptoRow : OpenClaim := { program := "ytoohfipicmdohac", sum := "4ac3c7a5581c55d5da02c9194479973d734d42616f10e35eb6b9a1b25d4613a1", func := "loop.example/helpersinreach/laws.FnLinesAreTrees", spec := "fnLinesAreTrees", unfollowed := true, recurses := true, apart := false, narrowed := true }
def FnLinesAreTreesUptoSaid : Prop := fnLinesAreTreesUptoRow.holds Try.pinned (OpenSpec.upto fnLinesAreTreesSpec)

/-- 'laws.FnTreeSum', WHERE WHAT IT READS IS OF BULK AT MOST 1048576: true; the input reads as it did. -/
def fnTreeSumUptoRow : OpenClaim := { program := "ytoohfipicmdohac", sum := "4ac3c7a5581c55d5da02c9194479973d734d42616f10e35eb6b9a1b25d4613a1", func := "loop.example/helpersinreach/laws.FnTreeSum", spec := "fnTreeSum", unfollowed := true, recurses := true, apart := false, narrowed := true }
def FnTreeSumUptoSaid : Prop := fnTreeSumUptoRow.holds Try.pinned (OpenSpec.upto fnTreeSumSpec)

/-- 'laws.FnExactValidTree', WHERE WHAT IT READS IS OF BULK AT MOST 1048576: true; the input reads as it did. -/
def fnExactValidTreeUptoRow : OpenClaim := { program := "ytoohfipicmdohac", sum := "4ac3c7a5581c55d5da02c9194479973d734d42616f10e35eb6b9a1b25d4613a1", func := "loop.example/helpersinreach/laws.FnExactValidTree", spec := "fnExactValidTree", apart := false, narrowed := true }
def FnExactValidTreeUptoSaid : Prop := fnExactValidTreeUptoRow.holds Try.pinned (OpenSpec.upto fnExactValidTreeSpec)

/-- 'laws.FnExactTreeTable', WHERE WHAT IT READS IS OF BULK AT MOST 1048576: true; the input reads as it did. -/
def fnExactTreeTableUptoRow : OpenClaim := { program := "ytoohfipicmdohac", sum := "4ac3c7a5581c55d5da02c9194479973d734d42616f10e35eb6b9a1b25d4613a1", func := "loop.example/helpersinreach/laws.FnExactTreeTable", spec := "fnExactTreeTable", unfollowed := true, recurses := true, apart := false, narrowed := true }
def FnExactTreeTableUptoSaid : Prop := fnExactTreeTableUptoRow.holds Try.pinned (OpenSpec.upto fnExactTreeTableSpec)

/-- 'laws.FnExactTreeApart', WHERE WHAT IT READS IS OF BULK AT MOST 1048576: true; the input reads as it did. -/
def fnExactTreeApartUptoRow : OpenClaim := { program := "ytoohfipicmdohac", sum := "4ac3c7a5581c55d5da02c9194479973d734d42616f10e35eb6b9a1b25d4613a1", func := "loop.example/helpersinreach/laws.FnExactTreeApart", spec := "fnExactTreeApart", unfollowed := true, recurses := true, apart := false, narrowed := true }
def FnExactTreeApartUptoSaid : Prop := fnExactTreeApartUptoRow.holds Try.pinned (OpenSpec.upto fnExactTreeApartSpec)

end Rows
end Go.Proofs.Ytoohfipicmdohac
