/-
  No cell of these rows narrows 'for every input' (looked for: loops, veiled, ifaces, maps, wideKeys, modest, calm, conditions, laid).
  DERIVED. THE GIVEN ROWS OF THIS SEAT. 14 by the template 'for every input the law returns true; each argument reads behind the call as it read before'; 0 by the template 'total and deterministic' (their statements: YthgllpiclaihjaaTotals.lean).
  GIVEN WITH THE SEED: the statements are not yours to turn. If you find one false, say at which input.
  Laid BY PROGRAM, IN A SANDBOX (cutbox-rows.mjs): the forced cells as the released guide's own fill.sh prints them over the translation f618812699b55d39… (all of the seat's roots in one cut). By AI agents, Wed Nov 11 2026. No macro, syntax, notation, axiom, sorry.
-/
import Derived.Test.YthgllpiclaihjaaChecked
import GoSem.Claim
import GoSem.ClaimJoined
import GoSem.ClaimMapViews
import Derived.JoinedTies
import Derived.KernelRfl
namespace Go.Proofs.Ythgllpiclaihjaa
/- THE CELL 'sum', in the pinned program and in every row, IS THE sha256 OF THE DUMP (.gsa) THAT YthgllpiclaihjaaProg.lean LOADS. Nothing in Lean hashes anything: it is a label: what it is worth is what the hold of that sum in a sandbox is worth. -/
noncomputable def Try.pinned : Pinned := { name := "ythgllpiclaihjaa", sum := "f618812699b55d39ff2c622ccadb46df4fda75b5d8a9f98620edbeaacbe906ca", checked := Try.checked }
namespace Rows
def none {H : Type} : Left H := { results := [], args := [] }

/-- 'laws.FnValidCalls': WHATEVER THE INPUT: true; the input reads as it did. -/
def fnValidCallsSpec : ChangeSpec := { name := "fnValidCalls", fn := fun _ => fun
  | [d] => { results := [.lit (.bool true)], args := [d] }
  | _ => none }
def fnValidCallsRow : OpenClaim := { program := "ythgllpiclaihjaa", sum := "f618812699b55d39ff2c622ccadb46df4fda75b5d8a9f98620edbeaacbe906ca", func := "loop.example/helpersinreach/laws.FnValidCalls", spec := "fnValidCalls", unfollowed := true, recurses := true, apart := false }
def FnValidCallsSaid : Prop := fnValidCallsRow.holds Try.pinned (OpenSpec.ofChange fnValidCallsSpec)

/-- ITS FALSE NEIGHBOUR: 'it returns false'. Refute it at one input. -/
def fnValidCallsWrong : ChangeSpec := { name := "fnValidCalls", fn := fun _ => fun
  | [d] => { results := [.lit (.bool false)], args := [d] }
  | _ => none }
def FnValidCallsWrongFalsely : Prop := fnValidCallsRow.holds Try.pinned (OpenSpec.ofChange fnValidCallsWrong)

/-- 'laws.FnWayAhead': WHATEVER THE INPUT: true; the input reads as it did. -/
def fnWayAheadSpec : ChangeSpec := { name := "fnWayAhead", fn := fun _ => fun
  | [d] => { results := [.lit (.bool true)], args := [d] }
  | _ => none }
def fnWayAheadRow : OpenClaim := { program := "ythgllpiclaihjaa", sum := "f618812699b55d39ff2c622ccadb46df4fda75b5d8a9f98620edbeaacbe906ca", func := "loop.example/helpersinreach/laws.FnWayAhead", spec := "fnWayAhead", unfollowed := true, recurses := true, apart := false }
def FnWayAheadSaid : Prop := fnWayAheadRow.holds Try.pinned (OpenSpec.ofChange fnWayAheadSpec)

/-- ITS FALSE NEIGHBOUR: 'it returns false'. Refute it at one input. -/
def fnWayAheadWrong : ChangeSpec := { name := "fnWayAhead", fn := fun _ => fun
  | [d] => { results := [.lit (.bool false)], args := [d] }
  | _ => none }
def FnWayAheadWrongFalsely : Prop := fnWayAheadRow.holds Try.pinned (OpenSpec.ofChange fnWayAheadWrong)

/-- 'laws.FnWayGreedy': WHATEVER THE INPUT: true; the input reads as it did. -/
def fnWayGreedySpec : ChangeSpec := { name := "fnWayGreedy", fn := fun _ => fun
  | [d] => { results := [.lit (.bool true)], args := [d] }
  | _ => none }
def fnWayGreedyRow : OpenClaim := { program := "ythgllpiclaihjaa", sum := "f618812699b55d39ff2c622ccadb46df4fda75b5d8a9f98620edbeaacbe906ca", func := "loop.example/helpersinreach/laws.FnWayGreedy", spec := "fnWayGreedy", unfollowed := true, recurses := true, apart := false }
def FnWayGreedySaid : Prop := fnWayGreedyRow.holds Try.pinned (OpenSpec.ofChange fnWayGreedySpec)

/-- ITS FALSE NEIGHBOUR: 'it returns false'. Refute it at one input. -/
def fnWayGreedyWrong : ChangeSpec := { name := "fnWayGreedy", fn := fun _ => fun
  | [d] => { results := [.lit (.bool false)], args := [d] }
  | _ => none }
def FnWayGreedyWrongFalsely : Prop := fnWayGreedyRow.holds Try.pinned (OpenSpec.ofChange fnWayGreedyWrong)

/-- 'laws.FnWayBoth': WHATEVER THE INPUT: true; the input reads as it did. -/
def fnWayBothSpec : ChangeSpec := { name := "fnWayBoth", fn := fun _ => fun
  | [d] => { results := [.lit (.bool true)], args := [d] }
  | _ => none }
def fnWayBothRow : OpenClaim := { program := "ythgllpiclaihjaa", sum := "f618812699b55d39ff2c622ccadb46df4fda75b5d8a9f98620edbeaacbe906ca", func := "loop.example/helpersinreach/laws.FnWayBoth", spec := "fnWayBoth", unfollowed := true, recurses := true, apart := false }
def FnWayBothSaid : Prop := fnWayBothRow.holds Try.pinned (OpenSpec.ofChange fnWayBothSpec)

/-- ITS FALSE NEIGHBOUR: 'it returns false'. Refute it at one input. -/
def fnWayBothWrong : ChangeSpec := { name := "fnWayBoth", fn := fun _ => fun
  | [d] => { results := [.lit (.bool false)], args := [d] }
  | _ => none }
def FnWayBothWrongFalsely : Prop := fnWayBothRow.holds Try.pinned (OpenSpec.ofChange fnWayBothWrong)

/-- 'laws.FnStandBoth': WHATEVER THE INPUT: true; the input reads as it did. -/
def fnStandBothSpec : ChangeSpec := { name := "fnStandBoth", fn := fun _ => fun
  | [d] => { results := [.lit (.bool true)], args := [d] }
  | _ => none }
def fnStandBothRow : OpenClaim := { program := "ythgllpiclaihjaa", sum := "f618812699b55d39ff2c622ccadb46df4fda75b5d8a9f98620edbeaacbe906ca", func := "loop.example/helpersinreach/laws.FnStandBoth", spec := "fnStandBoth", unfollowed := true, recurses := true, apart := false }
def FnStandBothSaid : Prop := fnStandBothRow.holds Try.pinned (OpenSpec.ofChange fnStandBothSpec)

/-- ITS FALSE NEIGHBOUR: 'it returns false'. Refute it at one input. -/
def fnStandBothWrong : ChangeSpec := { name := "fnStandBoth", fn := fun _ => fun
  | [d] => { results := [.lit (.bool false)], args := [d] }
  | _ => none }
def FnStandBothWrongFalsely : Prop := fnStandBothRow.holds Try.pinned (OpenSpec.ofChange fnStandBothWrong)

/-- 'laws.FnWorkOf': WHATEVER THE INPUT: true; the input reads as it did. -/
def fnWorkOfSpec : ChangeSpec := { name := "fnWorkOf", fn := fun _ => fun
  | [d] => { results := [.lit (.bool true)], args := [d] }
  | _ => none }
def fnWorkOfRow : OpenClaim := { program := "ythgllpiclaihjaa", sum := "f618812699b55d39ff2c622ccadb46df4fda75b5d8a9f98620edbeaacbe906ca", func := "loop.example/helpersinreach/laws.FnWorkOf", spec := "fnWorkOf", unfollowed := true, recurses := true, apart := false }
def FnWorkOfSaid : Prop := fnWorkOfRow.holds Try.pinned (OpenSpec.ofChange fnWorkOfSpec)

/-- ITS FALSE NEIGHBOUR: 'it returns false'. Refute it at one input. -/
def fnWorkOfWrong : ChangeSpec := { name := "fnWorkOf", fn := fun _ => fun
  | [d] => { results := [.lit (.bool false)], args := [d] }
  | _ => none }
def FnWorkOfWrongFalsely : Prop := fnWorkOfRow.holds Try.pinned (OpenSpec.ofChange fnWorkOfWrong)

/-- 'laws.FnCallsMirrored': WHATEVER THE INPUT: true; the input reads as it did. -/
def fnCallsMirroredSpec : ChangeSpec := { name := "fnCallsMirrored", fn := fun _ => fun
  | [d] => { results := [.lit (.bool true)], args := [d] }
  | _ => none }
def fnCallsMirroredRow : OpenClaim := { program := "ythgllpiclaihjaa", sum := "f618812699b55d39ff2c622ccadb46df4fda75b5d8a9f98620edbeaacbe906ca", func := "loop.example/helpersinreach/laws.FnCallsMirrored", spec := "fnCallsMirrored", unfollowed := true, recurses := true, apart := false }
def FnCallsMirroredSaid : Prop := fnCallsMirroredRow.holds Try.pinned (OpenSpec.ofChange fnCallsMirroredSpec)

/-- ITS FALSE NEIGHBOUR: 'it returns false'. Refute it at one input. -/
def fnCallsMirroredWrong : ChangeSpec := { name := "fnCallsMirrored", fn := fun _ => fun
  | [d] => { results := [.lit (.bool false)], args := [d] }
  | _ => none }
def FnCallsMirroredWrongFalsely : Prop := fnCallsMirroredRow.holds Try.pinned (OpenSpec.ofChange fnCallsMirroredWrong)

/-- 'laws.FnWorkIsLeast': WHATEVER THE INPUT: true; the input reads as it did. -/
def fnWorkIsLeastSpec : ChangeSpec := { name := "fnWorkIsLeast", fn := fun _ => fun
  | [d] => { results := [.lit (.bool true)], args := [d] }
  | _ => none }
def fnWorkIsLeastRow : OpenClaim := { program := "ythgllpiclaihjaa", sum := "f618812699b55d39ff2c622ccadb46df4fda75b5d8a9f98620edbeaacbe906ca", func := "loop.example/helpersinreach/laws.FnWorkIsLeast", spec := "fnWorkIsLeast", unfollowed := true, recurses := true, apart := false }
def FnWorkIsLeastSaid : Prop := fnWorkIsLeastRow.holds Try.pinned (OpenSpec.ofChange fnWorkIsLeastSpec)

/-- ITS FALSE NEIGHBOUR: 'it returns false'. Refute it at one input. -/
def fnWorkIsLeastWrong : ChangeSpec := { name := "fnWorkIsLeast", fn := fun _ => fun
  | [d] => { results := [.lit (.bool false)], args := [d] }
  | _ => none }
def FnWorkIsLeastWrongFalsely : Prop := fnWorkIsLeastRow.holds Try.pinned (OpenSpec.ofChange fnWorkIsLeastWrong)

/-- 'laws.FnExactValidCalls': WHATEVER THE INPUT: true; the input reads as it did. -/
def fnExactValidCallsSpec : ChangeSpec := { name := "fnExactValidCalls", fn := fun _ => fun
  | [d1, d2, d3] => { results := [.lit (.bool true)], args := [d1, d2, d3] }
  | _ => none }
def fnExactValidCallsRow : OpenClaim := { program := "ythgllpiclaihjaa", sum := "f618812699b55d39ff2c622ccadb46df4fda75b5d8a9f98620edbeaacbe906ca", func := "loop.example/helpersinreach/laws.FnExactValidCalls", spec := "fnExactValidCalls", unfollowed := true, recurses := true, apart := false }
def FnExactValidCallsSaid : Prop := fnExactValidCallsRow.holds Try.pinned (OpenSpec.ofChange fnExactValidCallsSpec)

/-- ITS FALSE NEIGHBOUR: 'it returns false'. Refute it at one input. -/
def fnExactValidCallsWrong : ChangeSpec := { name := "fnExactValidCalls", fn := fun _ => fun
  | [d1, d2, d3] => { results := [.lit (.bool false)], args := [d1, d2, d3] }
  | _ => none }
def FnExactValidCallsWrongFalsely : Prop := fnExactValidCallsRow.holds Try.pinned (OpenSpec.ofChange fnExactValidCallsWrong)

/-- 'laws.FnExactWayAhead': WHATEVER THE INPUT: true; the input reads as it did. -/
def fnExactWayAheadSpec : ChangeSpec := { name := "fnExactWayAhead", fn := fun _ => fun
  | [d1, d2, d3] => { results := [.lit (.bool true)], args := [d1, d2, d3] }
  | _ => none }
def fnExactWayAheadRow : OpenClaim := { program := "ythgllpiclaihjaa", sum := "f618812699b55d39ff2c622ccadb46df4fda75b5d8a9f98620edbeaacbe906ca", func := "loop.example/helpersinreach/laws.FnExactWayAhead", spec := "fnExactWayAhead", unfollowed := true, recurses := true, apart := false }
def FnExactWayAheadSaid : Prop := fnExactWayAheadRow.holds Try.pinned (OpenSpec.ofChange fnExactWayAheadSpec)

/-- ITS FALSE NEIGHBOUR: 'it returns false'. Refute it at one input. -/
def fnExactWayAheadWrong : ChangeSpec := { name := "fnExactWayAhead", fn := fun _ => fun
  | [d1, d2, d3] => { results := [.lit (.bool false)], args := [d1, d2, d3] }
  | _ => none }
def FnExactWayAheadWrongFalsely : Prop := fnExactWayAheadRow.holds Try.pinned (OpenSpec.ofChange fnExactWayAheadWrong)

/-- 'laws.FnExactWayGreedy': WHATEVER THE INPUT: true; the input reads as it did. -/
def fnExactWayGreedySpec : ChangeSpec := { name := "fnExactWayGreedy", fn := fun _ => fun
  | [d1, d2, d3] => { results := [.lit (.bool true)], args := [d1, d2, d3] }
  | _ => none }
def fnExactWayGreedyRow : OpenClaim := { program := "ythgllpiclaihjaa", sum := "f618812699b55d39ff2c622ccadb46df4fda75b5d8a9f98620edbeaacbe906ca", func := "loop.example/helpersinreach/laws.FnExactWayGreedy", spec := "fnExactWayGreedy", unfollowed := true, recurses := true, apart := false }
def FnExactWayGreedySaid : Prop := fnExactWayGreedyRow.holds Try.pinned (OpenSpec.ofChange fnExactWayGreedySpec)

/-- ITS FALSE NEIGHBOUR: 'it returns false'. Refute it at one input. -/
def fnExactWayGreedyWrong : ChangeSpec := { name := "fnExactWayGreedy", fn := fun _ => fun
  | [d1, d2, d3] => { results := [.lit (.bool false)], args := [d1, d2, d3] }
  | _ => none }
def FnExactWayGreedyWrongFalsely : Prop := fnExactWayGreedyRow.holds Try.pinned (OpenSpec.ofChange fnExactWayGreedyWrong)

/-- 'laws.FnExactWayBoth': WHATEVER THE INPUT: true; the input reads as it did. -/
def fnExactWayBothSpec : ChangeSpec := { name := "fnExactWayBoth", fn := fun _ => fun
  | [d1, d2, d3] => { results := [.lit (.bool true)], args := [d1, d2, d3] }
  | _ => none }
def fnExactWayBothRow : OpenClaim := { program := "ythgllpiclaihjaa", sum := "f618812699b55d39ff2c622ccadb46df4fda75b5d8a9f98620edbeaacbe906ca", func := "loop.example/helpersinreach/laws.FnExactWayBoth", spec := "fnExactWayBoth", unfollowed := true, recurses := true, apart := false }
def FnExactWayBothSaid : Prop := fnExactWayBothRow.holds Try.pinned (OpenSpec.ofChange fnExactWayBothSpec)

/-- ITS FALSE NEIGHBOUR: 'it returns false'. Refute it at one input. -/
def fnExactWayBothWrong : ChangeSpec := { name := "fnExactWayBoth", fn := fun _ => fun
  | [d1, d2, d3] => { results := [.lit (.bool false)], args := [d1, d2, d3] }
  | _ => none }
def FnExactWayBothWrongFalsely : Prop := fnExactWayBothRow.holds Try.pinned (OpenSpec.ofChange fnExactWayBothWrong)

/-- 'laws.FnExactStandBoth': WHATEVER THE INPUT: true; the input reads as it did. -/
def fnExactStandBothSpec : ChangeSpec := { name := "fnExactStandBoth", fn := fun _ => fun
  | [d1, d2, d3] => { results := [.lit (.bool true)], args := [d1, d2, d3] }
  | _ => none }
def fnExactStandBothRow : OpenClaim := { program := "ythgllpiclaihjaa", sum := "f618812699b55d39ff2c622ccadb46df4fda75b5d8a9f98620edbeaacbe906ca", func := "loop.example/helpersinreach/laws.FnExactStandBoth", spec := "fnExactStandBoth", unfollowed := true, recurses := true, apart := false }
def FnExactStandBothSaid : Prop := fnExactStandBothRow.holds Try.pinned (OpenSpec.ofChange fnExactStandBothSpec)

/-- ITS FALSE NEIGHBOUR: 'it returns false'. Refute it at one input. -/
def fnExactStandBothWrong : ChangeSpec := { name := "fnExactStandBoth", fn := fun _ => fun
  | [d1, d2, d3] => { results := [.lit (.bool false)], args := [d1, d2, d3] }
  | _ => none }
def FnExactStandBothWrongFalsely : Prop := fnExactStandBothRow.holds Try.pinned (OpenSpec.ofChange fnExactStandBothWrong)

/-- 'laws.FnExactWorkOf': WHATEVER THE INPUT: true; the input reads as it did. -/
def fnExactWorkOfSpec : ChangeSpec := { name := "fnExactWorkOf", fn := fun _ => fun
  | [d1, d2, d3, d4, d5] => { results := [.lit (.bool true)], args := [d1, d2, d3, d4, d5] }
  | _ => none }
def fnExactWorkOfRow : OpenClaim := { program := "ythgllpiclaihjaa", sum := "f618812699b55d39ff2c622ccadb46df4fda75b5d8a9f98620edbeaacbe906ca", func := "loop.example/helpersinreach/laws.FnExactWorkOf", spec := "fnExactWorkOf", unfollowed := true, recurses := true, apart := false }
def FnExactWorkOfSaid : Prop := fnExactWorkOfRow.holds Try.pinned (OpenSpec.ofChange fnExactWorkOfSpec)

/-- ITS FALSE NEIGHBOUR: 'it returns false'. Refute it at one input. -/
def fnExactWorkOfWrong : ChangeSpec := { name := "fnExactWorkOf", fn := fun _ => fun
  | [d1, d2, d3, d4, d5] => { results := [.lit (.bool false)], args := [d1, d2, d3, d4, d5] }
  | _ => none }
def FnExactWorkOfWrongFalsely : Prop := fnExactWorkOfRow.holds Try.pinned (OpenSpec.ofChange fnExactWorkOfWrong)

/- THE SECOND FORM. 'bulk': how many values and letters a reading holds, each counted each time it is reached (what is shared counts as often as it is met; a slice's spare places count too). A statement '..UptoSaid' is the law's where the arguments, and the package variables that the reading takes, are together of bulk at most 1048576: NARROWER than '..Said'. Prove '..Said' where nothing that the law and all that it calls make is longer than what came in: it says more and counts as full. Else prove '..UptoSaid'. A law counts once. -/
mutual
def uptoBulk {H : Type} : DataW H → Nat
  | .lit (.string bytes) => bytes.length + 1
  | .lit _ => 1
  | .nil => 1
  | .ptr d => uptoBulk d + 1
  | .slice elems spare => uptoBulkAll elems + uptoBulkAll spare + 1
  | .agg parts => uptoBulkAll parts + 1
  | .iface _ d => uptoBulk d + 1
  | .map entries => uptoBulkEntries entries + 1
  | .held _ => 1
def uptoBulkAll {H : Type} : List (DataW H) → Nat
  | [] => 0
  | d :: r => uptoBulk d + uptoBulkAll r
def uptoBulkEntries {H : Type} : List (Lit × DataW H) → Nat
  | [] => 0
  | x :: r => uptoBulkEntry x + uptoBulkEntries r
def uptoBulkEntry {H : Type} : Lit × DataW H → Nat
  | (.string bytes, d) => bytes.length + uptoBulk d + 1
  | (_, d) => uptoBulk d + 1
 end
def uptoSmall : (H : Type) → List (DataW H) → Bool := fun _ ds => decide (uptoBulkAll ds ≤ 1048576)
def OpenSpec.upto (s : _root_.Go.ChangeSpec) : _root_.Go.OpenSpec := { _root_.Go.OpenSpec.ofChange s with cond := some uptoSmall }

/-- 'laws.FnValidCalls', WHERE WHAT IT READS IS OF BULK AT MOST 1048576: true; the input reads as it did. -/
def fnValidCallsUptoRow : OpenClaim := { program := "ythgllpiclaihjaa", sum := "f618812699b55d39ff2c622ccadb46df4fda75b5d8a9f98620edbeaacbe906ca", func := "loop.example/helpersinreach/laws.FnValidCalls", spec := "fnValidCalls", unfollowed := true, recurses := true, apart := false, narrowed := true }
def FnValidCallsUptoSaid : Prop := fnValidCallsUptoRow.holds Try.pinned (OpenSpec.upto fnValidCallsSpec)

/-- 'laws.FnWayAhead', WHERE WHAT IT READS IS OF BULK AT MOST 1048576: true; the input reads as it did. -/
def fnWayAheadUptoRow : OpenClaim := { program := "ythgllpiclaihjaa", sum := "f618812699b55d39ff2c622ccadb46df4fda75b5d8a9f98620edbeaacbe906ca", func := "loop.example/helpersinreach/laws.FnWayAhead", spec := "fnWayAhead", unfollowed := true, recurses := true, apart := false, narrowed := true }
def FnWayAheadUptoSaid : Prop := fnWayAheadUptoRow.holds Try.pinned (OpenSpec.upto fnWayAheadSpec)

/-- 'laws.FnWayGreedy', WHERE WHAT IT READS IS OF BULK AT MOST 1048576: true; the input reads as it did. -/
def fnWayGreedyUptoRow : OpenClaim := { program := "ythgllpiclaihjaa", sum := "f618812699b55d39ff2c622ccadb46df4fda75b5d8a9f98620edbeaacbe906ca", func := "loop.example/helpersinreach/laws.FnWayGreedy", spec := "fnWayGreedy", unfollowed := true, recurses := true, apart := false, narrowed := true }
def FnWayGreedyUptoSaid : Prop := fnWayGreedyUptoRow.holds Try.pinned (OpenSpec.upto fnWayGreedySpec)

/-- 'laws.FnWayBoth', WHERE WHAT IT READS IS OF BULK AT MOST 1048576: true; the input reads as it did. -/
def fnWayBothUptoRow : OpenClaim := { program := "ythgllpiclaihjaa", sum := "f618812699b55d39ff2c622ccadb46df4fda75b5d8a9f98620edbeaacbe906ca", func := "loop.example/helpersinreach/laws.FnWayBoth", spec := "fnWayBoth", unfollowed := true, recurses := true, apart := false, narrowed := true }
def FnWayBothUptoSaid : Prop := fnWayBothUptoRow.holds Try.pinned (OpenSpec.upto fnWayBothSpec)

/-- 'laws.FnStandBoth', WHERE WHAT IT READS IS OF BULK AT MOST 1048576: true; the input reads as it did. -/
def fnStandBothUptoRow : OpenClaim := { program := "ythgllpiclaihjaa", sum := "f618812699b55d39ff2c622ccadb46df4fda75b5d8a9f98620edbeaacbe906ca", func := "loop.example/helpersinreach/laws.FnStandBoth", spec := "fnStandBoth", unfollowed := true, recurses := true, apart := false, narrowed := true }
def FnStandBothUptoSaid : Prop := fnStandBothUptoRow.holds Try.pinned (OpenSpec.upto fnStandBothSpec)

/-- 'laws.FnWorkOf', WHERE WHAT IT READS IS OF BULK AT MOST 1048576: true; the input reads as it did. -/
def fnWorkOfUptoRow : OpenClaim := { program := "ythgllpiclaihjaa", sum := "f618812699b55d39ff2c622ccadb46df4fda75b5d8a9f98620edbeaacbe906ca", func := "loop.example/helpersinreach/laws.FnWorkOf", spec := "fnWorkOf", unfollowed := true, recurses := true, apart := false, narrowed := true }
def FnWorkOfUptoSaid : Prop := fnWorkOfUptoRow.holds Try.pinned (OpenSpec.upto fnWorkOfSpec)

/-- 'laws.FnCallsMirrored', WHERE WHAT IT READS IS OF BULK AT MOST 1048576: true; the input reads as it did. -/
def fnCallsMirroredUptoRow : OpenClaim := { program := "ythgllpiclaihjaa", sum := "f618812699b55d39ff2c622ccadb46df4fda75b5d8a9f98620edbeaacbe906ca", func := "loop.example/helpersinreach/laws.FnCallsMirrored", spec := "fnCallsMirrored", unfollowed := true, recurses := true, apart := false, narrowed := true }
def FnCallsMirroredUptoSaid : Prop := fnCallsMirroredUptoRow.holds Try.pinned (OpenSpec.upto fnCallsMirroredSpec)

/-- 'laws.FnWorkIsLeast', WHERE WHAT IT READS IS OF BULK AT MOST 1048576: true; the input reads as it did. -/
def fnWorkIsLeastUptoRow : OpenClaim := { program := "ythgllpiclaihjaa", sum := "f618812699b55d39ff2c622ccadb46df4fda75b5d8a9f98620edbeaacbe906ca", func := "loop.example/helpersinreach/laws.FnWorkIsLeast", spec := "fnWorkIsLeast", unfollowed := true, recurses := true, apart := false, narrowed := true }
def FnWorkIsLeastUptoSaid : Prop := fnWorkIsLeastUptoRow.holds Try.pinned (OpenSpec.upto fnWorkIsLeastSpec)

/-- 'laws.FnExactValidCalls', WHERE WHAT IT READS IS OF BULK AT MOST 1048576: true; the input reads as it did. -/
def fnExactValidCallsUptoRow : OpenClaim := { program := "ythgllpiclaihjaa", sum := "f618812699b55d39ff2c622ccadb46df4fda75b5d8a9f98620edbeaacbe906ca", func := "loop.example/helpersinreach/laws.FnExactValidCalls", spec := "fnExactValidCalls", unfollowed := true, recurses := true, apart := false, narrowed := true }
def FnExactValidCallsUptoSaid : Prop := fnExactValidCallsUptoRow.holds Try.pinned (OpenSpec.upto fnExactValidCallsSpec)

/-- 'laws.FnExactWayAhead', WHERE WHAT IT READS IS OF BULK AT MOST 1048576: true; the input reads as it did. -/
def fnExactWayAheadUptoRow : OpenClaim := { program := "ythgllpiclaihjaa", sum := "f618812699b55d39ff2c622ccadb46df4fda75b5d8a9f98620edbeaacbe906ca", func := "loop.example/helpersinreach/laws.FnExactWayAhead", spec := "fnExactWayAhead", unfollowed := true, recurses := true, apart := false, narrowed := true }
def FnExactWayAheadUptoSaid : Prop := fnExactWayAheadUptoRow.holds Try.pinned (OpenSpec.upto fnExactWayAheadSpec)

/-- 'laws.FnExactWayGreedy', WHERE WHAT IT READS IS OF BULK AT MOST 1048576: true; the input reads as it did. -/
def fnExactWayGreedyUptoRow : OpenClaim := { program := "ythgllpiclaihjaa", sum := "f618812699b55d39ff2c622ccadb46df4fda75b5d8a9f98620edbeaacbe906ca", func := "loop.example/helpersinreach/laws.FnExactWayGreedy", spec := "fnExactWayGreedy", unfollowed := true, recurses := true, apart := false, narrowed := true }
def FnExactWayGreedyUptoSaid : Prop := fnExactWayGreedyUptoRow.holds Try.pinned (OpenSpec.upto fnExactWayGreedySpec)

/-- 'laws.FnExactWayBoth', WHERE WHAT IT READS IS OF BULK AT MOST 1048576: true; the input reads as it did. -/
def fnExactWayBothUptoRow : OpenClaim := { program := "ythgllpiclaihjaa", sum := "f618812699b55d39ff2c622ccadb46df4fda75b5d8a9f98620edbeaacbe906ca", func := "loop.example/helpersinreach/laws.FnExactWayBoth", spec := "fnExactWayBoth", unfollowed := true, recurses := true, apart := false, narrowed := true }
def FnExactWayBothUptoSaid : Prop := fnExactWayBothUptoRow.holds Try.pinned (OpenSpec.upto fnExactWayBothSpec)

/-- 'laws.FnExactStandBoth', WHERE WHAT IT READS IS OF BULK AT MOST 1048576: true; the input reads as it did. -/
def fnExactStandBothUptoRow : OpenClaim := { program := "ythgllpiclaihjaa", sum := "f618812699b55d39ff2c622ccadb46df4fda75b5d8a9f98620edbeaacbe906ca", func := "loop.example/helpersinreach/laws.FnExactStandBoth", spec := "fnExactStandBoth", unfollowed := true, recurses := true, apart := false, narrowed := true }
def FnExactStandBothUptoSaid : Prop := fnExactStandBothUptoRow.holds Try.pinned (OpenSpec.upto fnExactStandBothSpec)

/-- 'laws.FnExactWorkOf', WHERE WHAT IT READS IS OF BULK AT MOST 1048576: true; the input reads as it did. -/
def fnExactWorkOfUptoRow : OpenClaim := { program := "ythgllpiclaihjaa", sum := "f618812699b55d39ff2c622ccadb46df4fda75b5d8a9f98620edbeaacbe906ca", func := "loop.example/helpersinreach/laws.FnExactWorkOf", spec := "fnExactWorkOf", unfollowed := true, recurses := true, apart := false, narrowed := true }
def FnExactWorkOfUptoSaid : Prop := fnExactWorkOfUptoRow.holds Try.pinned (OpenSpec.upto fnExactWorkOfSpec)

end Rows
end Go.Proofs.Ythgllpiclaihjaa
