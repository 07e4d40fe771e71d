/-
  No cell of these rows narrows 'for every input' (looked for: loops, veiled, ifaces, maps, wideKeys, modest, calm, conditions, laid).
  DERIVED. THE GIVEN ROWS OF THIS SEAT. 10 by the template 'for every input the law returns true; each argument reads behind the call as it read before'; 0 by the template 'total and deterministic' (their statements: YthphboeboiallabTotals.lean).
  GIVEN WITH THE SEED: the statements are not yours to turn. If you find one false, say at which input.
  Laid BY PROGRAM, IN A SANDBOX (cutbox-rows.mjs): the forced cells as the released guide's own fill.sh prints them over the translation 1e44214e1433301b… (all of the seat's roots in one cut). By AI agents, Wed Nov 11 2026. No macro, syntax, notation, axiom, sorry.
-/
import Derived.Test.YthphboeboiallabChecked
import GoSem.Claim
import GoSem.ClaimJoined
import GoSem.ClaimMapViews
import Derived.JoinedTies
import Derived.KernelRfl
namespace Go.Proofs.Ythphboeboiallab
/- THE CELL 'sum', in the pinned program and in every row, IS THE sha256 OF THE DUMP (.gsa) THAT YthphboeboiallabProg.lean LOADS. Nothing in Lean hashes anything: it is a label: what it is worth is what the hold of that sum in a sandbox is worth. -/
noncomputable def Try.pinned : Pinned := { name := "ythphboeboiallab", sum := "1e44214e1433301b434a80bebb01b43d409b450dc7a1fa5c91132c5b3826f68c", checked := Try.checked }
namespace Rows
def none {H : Type} : Left H := { results := [], args := [] }

/-- 'laws.FnBacksOf': WHATEVER THE INPUT: true; the input reads as it did. -/
def fnBacksOfSpec : ChangeSpec := { name := "fnBacksOf", fn := fun _ => fun
  | [d] => { results := [.lit (.bool true)], args := [d] }
  | _ => none }
def fnBacksOfRow : OpenClaim := { program := "ythphboeboiallab", sum := "1e44214e1433301b434a80bebb01b43d409b450dc7a1fa5c91132c5b3826f68c", func := "loop.example/helpersinreach/laws.FnBacksOf", spec := "fnBacksOf", apart := false }
def FnBacksOfSaid : Prop := fnBacksOfRow.holds Try.pinned (OpenSpec.ofChange fnBacksOfSpec)

/-- ITS FALSE NEIGHBOUR: 'it returns false'. Refute it at one input. -/
def fnBacksOfWrong : ChangeSpec := { name := "fnBacksOf", fn := fun _ => fun
  | [d] => { results := [.lit (.bool false)], args := [d] }
  | _ => none }
def FnBacksOfWrongFalsely : Prop := fnBacksOfRow.holds Try.pinned (OpenSpec.ofChange fnBacksOfWrong)

/-- 'laws.FnMeanReached': WHATEVER THE INPUT: true; the input reads as it did. -/
def fnMeanReachedSpec : ChangeSpec := { name := "fnMeanReached", fn := fun _ => fun
  | [d] => { results := [.lit (.bool true)], args := [d] }
  | _ => none }
def fnMeanReachedRow : OpenClaim := { program := "ythphboeboiallab", sum := "1e44214e1433301b434a80bebb01b43d409b450dc7a1fa5c91132c5b3826f68c", func := "loop.example/helpersinreach/laws.FnMeanReached", spec := "fnMeanReached", unfollowed := true, recurses := true, apart := false }
def FnMeanReachedSaid : Prop := fnMeanReachedRow.holds Try.pinned (OpenSpec.ofChange fnMeanReachedSpec)

/-- ITS FALSE NEIGHBOUR: 'it returns false'. Refute it at one input. -/
def fnMeanReachedWrong : ChangeSpec := { name := "fnMeanReached", fn := fun _ => fun
  | [d] => { results := [.lit (.bool false)], args := [d] }
  | _ => none }
def FnMeanReachedWrongFalsely : Prop := fnMeanReachedRow.holds Try.pinned (OpenSpec.ofChange fnMeanReachedWrong)

/-- 'laws.FnBestSpread': WHATEVER THE INPUT: true; the input reads as it did. -/
def fnBestSpreadSpec : ChangeSpec := { name := "fnBestSpread", fn := fun _ => fun
  | [d] => { results := [.lit (.bool true)], args := [d] }
  | _ => none }
def fnBestSpreadRow : OpenClaim := { program := "ythphboeboiallab", sum := "1e44214e1433301b434a80bebb01b43d409b450dc7a1fa5c91132c5b3826f68c", func := "loop.example/helpersinreach/laws.FnBestSpread", spec := "fnBestSpread", unfollowed := true, recurses := true, apart := false }
def FnBestSpreadSaid : Prop := fnBestSpreadRow.holds Try.pinned (OpenSpec.ofChange fnBestSpreadSpec)

/-- ITS FALSE NEIGHBOUR: 'it returns false'. Refute it at one input. -/
def fnBestSpreadWrong : ChangeSpec := { name := "fnBestSpread", fn := fun _ => fun
  | [d] => { results := [.lit (.bool false)], args := [d] }
  | _ => none }
def FnBestSpreadWrongFalsely : Prop := fnBestSpreadRow.holds Try.pinned (OpenSpec.ofChange fnBestSpreadWrong)

/-- 'laws.FnGreedySpread': WHATEVER THE INPUT: true; the input reads as it did. -/
def fnGreedySpreadSpec : ChangeSpec := { name := "fnGreedySpread", fn := fun _ => fun
  | [d] => { results := [.lit (.bool true)], args := [d] }
  | _ => none }
def fnGreedySpreadRow : OpenClaim := { program := "ythphboeboiallab", sum := "1e44214e1433301b434a80bebb01b43d409b450dc7a1fa5c91132c5b3826f68c", func := "loop.example/helpersinreach/laws.FnGreedySpread", spec := "fnGreedySpread", unfollowed := true, recurses := true, apart := false }
def FnGreedySpreadSaid : Prop := fnGreedySpreadRow.holds Try.pinned (OpenSpec.ofChange fnGreedySpreadSpec)

/-- ITS FALSE NEIGHBOUR: 'it returns false'. Refute it at one input. -/
def fnGreedySpreadWrong : ChangeSpec := { name := "fnGreedySpread", fn := fun _ => fun
  | [d] => { results := [.lit (.bool false)], args := [d] }
  | _ => none }
def FnGreedySpreadWrongFalsely : Prop := fnGreedySpreadRow.holds Try.pinned (OpenSpec.ofChange fnGreedySpreadWrong)

/-- 'laws.FnBusyAlways': WHATEVER THE INPUT: true; the input reads as it did. -/
def fnBusyAlwaysSpec : ChangeSpec := { name := "fnBusyAlways", fn := fun _ => fun
  | [d] => { results := [.lit (.bool true)], args := [d] }
  | _ => none }
def fnBusyAlwaysRow : OpenClaim := { program := "ythphboeboiallab", sum := "1e44214e1433301b434a80bebb01b43d409b450dc7a1fa5c91132c5b3826f68c", func := "loop.example/helpersinreach/laws.FnBusyAlways", spec := "fnBusyAlways", unfollowed := true, recurses := true, apart := false }
def FnBusyAlwaysSaid : Prop := fnBusyAlwaysRow.holds Try.pinned (OpenSpec.ofChange fnBusyAlwaysSpec)

/-- ITS FALSE NEIGHBOUR: 'it returns false'. Refute it at one input. -/
def fnBusyAlwaysWrong : ChangeSpec := { name := "fnBusyAlways", fn := fun _ => fun
  | [d] => { results := [.lit (.bool false)], args := [d] }
  | _ => none }
def FnBusyAlwaysWrongFalsely : Prop := fnBusyAlwaysRow.holds Try.pinned (OpenSpec.ofChange fnBusyAlwaysWrong)

/-- 'laws.FnSpreadGrows': WHATEVER THE INPUT: true; the input reads as it did. -/
def fnSpreadGrowsSpec : ChangeSpec := { name := "fnSpreadGrows", fn := fun _ => fun
  | [d] => { results := [.lit (.bool true)], args := [d] }
  | _ => none }
def fnSpreadGrowsRow : OpenClaim := { program := "ythphboeboiallab", sum := "1e44214e1433301b434a80bebb01b43d409b450dc7a1fa5c91132c5b3826f68c", func := "loop.example/helpersinreach/laws.FnSpreadGrows", spec := "fnSpreadGrows", unfollowed := true, recurses := true, apart := false }
def FnSpreadGrowsSaid : Prop := fnSpreadGrowsRow.holds Try.pinned (OpenSpec.ofChange fnSpreadGrowsSpec)

/-- ITS FALSE NEIGHBOUR: 'it returns false'. Refute it at one input. -/
def fnSpreadGrowsWrong : ChangeSpec := { name := "fnSpreadGrows", fn := fun _ => fun
  | [d] => { results := [.lit (.bool false)], args := [d] }
  | _ => none }
def FnSpreadGrowsWrongFalsely : Prop := fnSpreadGrowsRow.holds Try.pinned (OpenSpec.ofChange fnSpreadGrowsWrong)

/-- 'laws.FnExactBacksOf': WHATEVER THE INPUT: true; the input reads as it did. -/
def fnExactBacksOfSpec : ChangeSpec := { name := "fnExactBacksOf", fn := fun _ => fun
  | [d1, d2, d3] => { results := [.lit (.bool true)], args := [d1, d2, d3] }
  | _ => none }
def fnExactBacksOfRow : OpenClaim := { program := "ythphboeboiallab", sum := "1e44214e1433301b434a80bebb01b43d409b450dc7a1fa5c91132c5b3826f68c", func := "loop.example/helpersinreach/laws.FnExactBacksOf", spec := "fnExactBacksOf", apart := false }
def FnExactBacksOfSaid : Prop := fnExactBacksOfRow.holds Try.pinned (OpenSpec.ofChange fnExactBacksOfSpec)

/-- ITS FALSE NEIGHBOUR: 'it returns false'. Refute it at one input. -/
def fnExactBacksOfWrong : ChangeSpec := { name := "fnExactBacksOf", fn := fun _ => fun
  | [d1, d2, d3] => { results := [.lit (.bool false)], args := [d1, d2, d3] }
  | _ => none }
def FnExactBacksOfWrongFalsely : Prop := fnExactBacksOfRow.holds Try.pinned (OpenSpec.ofChange fnExactBacksOfWrong)

/-- 'laws.FnExactMeanReached': WHATEVER THE INPUT: true; the input reads as it did. -/
def fnExactMeanReachedSpec : ChangeSpec := { name := "fnExactMeanReached", fn := fun _ => fun
  | [d1, d2, d3, d4] => { results := [.lit (.bool true)], args := [d1, d2, d3, d4] }
  | _ => none }
def fnExactMeanReachedRow : OpenClaim := { program := "ythphboeboiallab", sum := "1e44214e1433301b434a80bebb01b43d409b450dc7a1fa5c91132c5b3826f68c", func := "loop.example/helpersinreach/laws.FnExactMeanReached", spec := "fnExactMeanReached", unfollowed := true, recurses := true, apart := false }
def FnExactMeanReachedSaid : Prop := fnExactMeanReachedRow.holds Try.pinned (OpenSpec.ofChange fnExactMeanReachedSpec)

/-- ITS FALSE NEIGHBOUR: 'it returns false'. Refute it at one input. -/
def fnExactMeanReachedWrong : ChangeSpec := { name := "fnExactMeanReached", fn := fun _ => fun
  | [d1, d2, d3, d4] => { results := [.lit (.bool false)], args := [d1, d2, d3, d4] }
  | _ => none }
def FnExactMeanReachedWrongFalsely : Prop := fnExactMeanReachedRow.holds Try.pinned (OpenSpec.ofChange fnExactMeanReachedWrong)

/-- 'laws.FnExactBestSpread': WHATEVER THE INPUT: true; the input reads as it did. -/
def fnExactBestSpreadSpec : ChangeSpec := { name := "fnExactBestSpread", fn := fun _ => fun
  | [d1, d2, d3, d4] => { results := [.lit (.bool true)], args := [d1, d2, d3, d4] }
  | _ => none }
def fnExactBestSpreadRow : OpenClaim := { program := "ythphboeboiallab", sum := "1e44214e1433301b434a80bebb01b43d409b450dc7a1fa5c91132c5b3826f68c", func := "loop.example/helpersinreach/laws.FnExactBestSpread", spec := "fnExactBestSpread", unfollowed := true, recurses := true, apart := false }
def FnExactBestSpreadSaid : Prop := fnExactBestSpreadRow.holds Try.pinned (OpenSpec.ofChange fnExactBestSpreadSpec)

/-- ITS FALSE NEIGHBOUR: 'it returns false'. Refute it at one input. -/
def fnExactBestSpreadWrong : ChangeSpec := { name := "fnExactBestSpread", fn := fun _ => fun
  | [d1, d2, d3, d4] => { results := [.lit (.bool false)], args := [d1, d2, d3, d4] }
  | _ => none }
def FnExactBestSpreadWrongFalsely : Prop := fnExactBestSpreadRow.holds Try.pinned (OpenSpec.ofChange fnExactBestSpreadWrong)

/-- 'laws.FnExactGreedySpread': WHATEVER THE INPUT: true; the input reads as it did. -/
def fnExactGreedySpreadSpec : ChangeSpec := { name := "fnExactGreedySpread", fn := fun _ => fun
  | [d1, d2, d3, d4] => { results := [.lit (.bool true)], args := [d1, d2, d3, d4] }
  | _ => none }
def fnExactGreedySpreadRow : OpenClaim := { program := "ythphboeboiallab", sum := "1e44214e1433301b434a80bebb01b43d409b450dc7a1fa5c91132c5b3826f68c", func := "loop.example/helpersinreach/laws.FnExactGreedySpread", spec := "fnExactGreedySpread", unfollowed := true, recurses := true, apart := false }
def FnExactGreedySpreadSaid : Prop := fnExactGreedySpreadRow.holds Try.pinned (OpenSpec.ofChange fnExactGreedySpreadSpec)

/-- ITS FALSE NEIGHBOUR: 'it returns false'. Refute it at one input. -/
def fnExactGreedySpreadWrong : ChangeSpec := { name := "fnExactGreedySpread", fn := fun _ => fun
  | [d1, d2, d3, d4] => { results := [.lit (.bool false)], args := [d1, d2, d3, d4] }
  | _ => none }
def FnExactGreedySpreadWrongFalsely : Prop := fnExactGreedySpreadRow.holds Try.pinned (OpenSpec.ofChange fnExactGreedySpreadWrong)

/- THE SECOND FORM. 'bulk': how many values and letters a reading holds, each counted each time it is reached (what is shared counts as often as it is met; a slice's spare places count too). A statement '..UptoSaid' is the law's where the arguments, and the package variables that the reading takes, are together of bulk at most 1048576: NARROWER than '..Said'. Prove '..Said' where nothing that the law and all that it calls make is longer than what came in: it says more and counts as full. Else prove '..UptoSaid'. A law counts once. -/
mutual
def uptoBulk {H : Type} : DataW H → Nat
  | .lit (.string bytes) => bytes.length + 1
  | .lit _ => 1
  | .nil => 1
  | .ptr d => uptoBulk d + 1
  | .slice elems spare => uptoBulkAll elems + uptoBulkAll spare + 1
  | .agg parts => uptoBulkAll parts + 1
  | .iface _ d => uptoBulk d + 1
  | .map entries => uptoBulkEntries entries + 1
  | .held _ => 1
def uptoBulkAll {H : Type} : List (DataW H) → Nat
  | [] => 0
  | d :: r => uptoBulk d + uptoBulkAll r
def uptoBulkEntries {H : Type} : List (Lit × DataW H) → Nat
  | [] => 0
  | x :: r => uptoBulkEntry x + uptoBulkEntries r
def uptoBulkEntry {H : Type} : Lit × DataW H → Nat
  | (.string bytes, d) => bytes.length + uptoBulk d + 1
  | (_, d) => uptoBulk d + 1
 end
def uptoSmall : (H : Type) → List (DataW H) → Bool := fun _ ds => decide (uptoBulkAll ds ≤ 1048576)
def OpenSpec.upto (s : _root_.Go.ChangeSpec) : _root_.Go.OpenSpec := { _root_.Go.OpenSpec.ofChange s with cond := some uptoSmall }

/-- 'laws.FnBacksOf', WHERE WHAT IT READS IS OF BULK AT MOST 1048576: true; the input reads as it did. -/
def fnBacksOfUptoRow : OpenClaim := { program := "ythphboeboiallab", sum := "1e44214e1433301b434a80bebb01b43d409b450dc7a1fa5c91132c5b3826f68c", func := "loop.example/helpersinreach/laws.FnBacksOf", spec := "fnBacksOf", apart := false, narrowed := true }
def FnBacksOfUptoSaid : Prop := fnBacksOfUptoRow.holds Try.pinned (OpenSpec.upto fnBacksOfSpec)

/-- 'laws.FnMeanReached', WHERE WHAT IT READS IS OF BULK AT MOST 1048576: true; the input reads as it did. -/
def fnMeanReachedUptoRow : OpenClaim := { program := "ythphboeboiallab", sum := "1e44214e1433301b434a80bebb01b43d409b450dc7a1fa5c91132c5b3826f68c", func := "loop.example/helpersinreach/laws.FnMeanReached", spec := "fnMeanReached", unfollowed := true, recurses := true, apart := false, narrowed := true }
def FnMeanReachedUptoSaid : Prop := fnMeanReachedUptoRow.holds Try.pinned (OpenSpec.upto fnMeanReachedSpec)

/-- 'laws.FnBestSpread', WHERE WHAT IT READS IS OF BULK AT MOST 1048576: true; the input reads as it did. -/
def fnBestSpreadUptoRow : OpenClaim := { program := "ythphboeboiallab", sum := "1e44214e1433301b434a80bebb01b43d409b450dc7a1fa5c91132c5b3826f68c", func := "loop.example/helpersinreach/laws.FnBestSpread", spec := "fnBestSpread", unfollowed := true, recurses := true, apart := false, narrowed := true }
def FnBestSpreadUptoSaid : Prop := fnBestSpreadUptoRow.holds Try.pinned (OpenSpec.upto fnBestSpreadSpec)

/-- 'laws.FnGreedySpread', WHERE WHAT IT READS IS OF BULK AT MOST 1048576: true; the input reads as it did. -/
def fnGreedySpreadUptoRow : OpenClaim := { program := "ythphboeboiallab", sum := "1e44214e1433301b434a80bebb01b43d409b450dc7a1fa5c91132c5b3826f68c", func := "loop.example/helpersinreach/laws.FnGreedySpread", spec := "fnGreedySpread", unfollowed := true, recurses := true, apart := false, narrowed := true }
def FnGreedySpreadUptoSaid : Prop := fnGreedySpreadUptoRow.holds Try.pinned (OpenSpec.upto fnGreedySpreadSpec)

/-- 'laws.FnBusyAlways', WHERE WHAT IT READS IS OF BULK AT MOST 1048576: true; the input reads as it did. -/
def fnBusyAlwaysUptoRow : OpenClaim := { program := "ythphboeboiallab", sum := "1e44214e1433301b434a80bebb01b43d409b450dc7a1fa5c91132c5b3826f68c", func := "loop.example/helpersinreach/laws.FnBusyAlways", spec := "fnBusyAlways", unfollowed := true, recurses := true, apart := false, narrowed := true }
def FnBusyAlwaysUptoSaid : Prop := fnBusyAlwaysUptoRow.holds Try.pinned (OpenSpec.upto fnBusyAlwaysSpec)

/-- 'laws.FnSpreadGrows', WHERE WHAT IT READS IS OF BULK AT MOST 1048576: true; the input reads as it did. -/
def fnSpreadGrowsUptoRow : OpenClaim := { program := "ythphboeboiallab", sum := "1e44214e1433301b434a80bebb01b43d409b450dc7a1fa5c91132c5b3826f68c", func := "loop.example/helpersinreach/laws.FnSpreadGrows", spec := "fnSpreadGrows", unfollowed := true, recurses := true, apart := false, narrowed := true }
def FnSpreadGrowsUptoSaid : Prop := fnSpreadGrowsUptoRow.holds Try.pinned (OpenSpec.upto fnSpreadGrowsSpec)

/-- 'laws.FnExactBacksOf', WHERE WHAT IT READS IS OF BULK AT MOST 1048576: true; the input reads as it did. -/
def fnExactBacksOfUptoRow : OpenClaim := { program := "ythphboeboiallab", sum := "1e44214e1433301b434a80bebb01b43d409b450dc7a1fa5c91132c5b3826f68c", func := "loop.example/helpersinreach/laws.FnExactBacksOf", spec := "fnExactBacksOf", apart := false, narrowed := true }
def FnExactBacksOfUptoSaid : Prop := fnExactBacksOfUptoRow.holds Try.pinned (OpenSpec.upto fnExactBacksOfSpec)

/-- 'laws.FnExactMeanReached', WHERE WHAT IT READS IS OF BULK AT MOST 1048576: true; the input reads as it did. -/
def fnExactMeanReachedUptoRow : OpenClaim := { program := "ythphboeboiallab", sum := "1e44214e1433301b434a80bebb01b43d409b450dc7a1fa5c91132c5b3826f68c", func := "loop.example/helpersinreach/laws.FnExactMeanReached", spec := "fnExactMeanReached", unfollowed := true, recurses := true, apart := false, narrowed := true }
def FnExactMeanReachedUptoSaid : Prop := fnExactMeanReachedUptoRow.holds Try.pinned (OpenSpec.upto fnExactMeanReachedSpec)

/-- 'laws.FnExactBestSpread', WHERE WHAT IT READS IS OF BULK AT MOST 1048576: true; the input reads as it did. -/
def fnExactBestSpreadUptoRow : OpenClaim := { program := "ythphboeboiallab", sum := "1e44214e1433301b434a80bebb01b43d409b450dc7a1fa5c91132c5b3826f68c", func := "loop.example/helpersinreach/laws.FnExactBestSpread", spec := "fnExactBestSpread", unfollowed := true, recurses := true, apart := false, narrowed := true }
def FnExactBestSpreadUptoSaid : Prop := fnExactBestSpreadUptoRow.holds Try.pinned (OpenSpec.upto fnExactBestSpreadSpec)

/-- 'laws.FnExactGreedySpread', WHERE WHAT IT READS IS OF BULK AT MOST 1048576: true; the input reads as it did. -/
def fnExactGreedySpreadUptoRow : OpenClaim := { program := "ythphboeboiallab", sum := "1e44214e1433301b434a80bebb01b43d409b450dc7a1fa5c91132c5b3826f68c", func := "loop.example/helpersinreach/laws.FnExactGreedySpread", spec := "fnExactGreedySpread", unfollowed := true, recurses := true, apart := false, narrowed := true }
def FnExactGreedySpreadUptoSaid : Prop := fnExactGreedySpreadUptoRow.holds Try.pinned (OpenSpec.upto fnExactGreedySpreadSpec)

end Rows
end Go.Proofs.Ythphboeboiallab
