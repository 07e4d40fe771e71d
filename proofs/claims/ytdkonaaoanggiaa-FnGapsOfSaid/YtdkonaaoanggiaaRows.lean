/-
  No cell of these rows narrows 'for every input' (looked for: loops, veiled, ifaces, maps, wideKeys, modest, calm, conditions, laid).
  DERIVED. THE GIVEN ROWS OF THIS SEAT. 14 by the template 'for every input the law returns true; each argument reads behind the call as it read before'; 0 by the template 'total and deterministic' (their statements: YtdkonaaoanggiaaTotals.lean).
  GIVEN WITH THE SEED: the statements are not yours to turn. If you find one false, say at which input.
  Laid BY PROGRAM, IN A SANDBOX (cutbox-rows.mjs): the forced cells as the released guide's own fill.sh prints them over the translation e1e79fdca6565948… (all of the seat's roots in one cut). By AI agents, Wed Nov 11 2026. No macro, syntax, notation, axiom, sorry.
-/
import Derived.Test.YtdkonaaoanggiaaChecked
import GoSem.Claim
import GoSem.ClaimJoined
import GoSem.ClaimMapViews
import Derived.JoinedTies
import Derived.KernelRfl
namespace Go.Proofs.Ytdkonaaoanggiaa
/- THE CELL 'sum', in the pinned program and in every row, IS THE sha256 OF THE DUMP (.gsa) THAT YtdkonaaoanggiaaProg.lean LOADS. Nothing in Lean hashes anything: it is a label: what it is worth is what the hold of that sum in a sandbox is worth. -/
noncomputable def Try.pinned : Pinned := { name := "ytdkonaaoanggiaa", sum := "e1e79fdca65659489cb7c727f4c79fb2957aa8148f7b80965b1595af7f4bb2b9", checked := Try.checked }
namespace Rows
def none {H : Type} : Left H := { results := [], args := [] }

/-- 'laws.FnValidRound': WHATEVER THE INPUT: true; the input reads as it did. -/
def fnValidRoundSpec : ChangeSpec := { name := "fnValidRound", fn := fun _ => fun
  | [d] => { results := [.lit (.bool true)], args := [d] }
  | _ => none }
def fnValidRoundRow : OpenClaim := { program := "ytdkonaaoanggiaa", sum := "e1e79fdca65659489cb7c727f4c79fb2957aa8148f7b80965b1595af7f4bb2b9", func := "loop.example/helpersinreach/laws.FnValidRound", spec := "fnValidRound", apart := false }
def FnValidRoundSaid : Prop := fnValidRoundRow.holds Try.pinned (OpenSpec.ofChange fnValidRoundSpec)

/-- ITS FALSE NEIGHBOUR: 'it returns false'. Refute it at one input. -/
def fnValidRoundWrong : ChangeSpec := { name := "fnValidRound", fn := fun _ => fun
  | [d] => { results := [.lit (.bool false)], args := [d] }
  | _ => none }
def FnValidRoundWrongFalsely : Prop := fnValidRoundRow.holds Try.pinned (OpenSpec.ofChange fnValidRoundWrong)

/-- 'laws.FnVisitsOf': WHATEVER THE INPUT: true; the input reads as it did. -/
def fnVisitsOfSpec : ChangeSpec := { name := "fnVisitsOf", fn := fun _ => fun
  | [d] => { results := [.lit (.bool true)], args := [d] }
  | _ => none }
def fnVisitsOfRow : OpenClaim := { program := "ytdkonaaoanggiaa", sum := "e1e79fdca65659489cb7c727f4c79fb2957aa8148f7b80965b1595af7f4bb2b9", func := "loop.example/helpersinreach/laws.FnVisitsOf", spec := "fnVisitsOf", apart := false }
def FnVisitsOfSaid : Prop := fnVisitsOfRow.holds Try.pinned (OpenSpec.ofChange fnVisitsOfSpec)

/-- ITS FALSE NEIGHBOUR: 'it returns false'. Refute it at one input. -/
def fnVisitsOfWrong : ChangeSpec := { name := "fnVisitsOf", fn := fun _ => fun
  | [d] => { results := [.lit (.bool false)], args := [d] }
  | _ => none }
def FnVisitsOfWrongFalsely : Prop := fnVisitsOfRow.holds Try.pinned (OpenSpec.ofChange fnVisitsOfWrong)

/-- 'laws.FnGapsOf': WHATEVER THE INPUT: true; the input reads as it did. -/
def fnGapsOfSpec : ChangeSpec := { name := "fnGapsOf", fn := fun _ => fun
  | [d] => { results := [.lit (.bool true)], args := [d] }
  | _ => none }
def fnGapsOfRow : OpenClaim := { program := "ytdkonaaoanggiaa", sum := "e1e79fdca65659489cb7c727f4c79fb2957aa8148f7b80965b1595af7f4bb2b9", func := "loop.example/helpersinreach/laws.FnGapsOf", spec := "fnGapsOf", apart := false }
def FnGapsOfSaid : Prop := fnGapsOfRow.holds Try.pinned (OpenSpec.ofChange fnGapsOfSpec)

/-- ITS FALSE NEIGHBOUR: 'it returns false'. Refute it at one input. -/
def fnGapsOfWrong : ChangeSpec := { name := "fnGapsOf", fn := fun _ => fun
  | [d] => { results := [.lit (.bool false)], args := [d] }
  | _ => none }
def FnGapsOfWrongFalsely : Prop := fnGapsOfRow.holds Try.pinned (OpenSpec.ofChange fnGapsOfWrong)

/-- 'laws.FnWorstGap': WHATEVER THE INPUT: true; the input reads as it did. -/
def fnWorstGapSpec : ChangeSpec := { name := "fnWorstGap", fn := fun _ => fun
  | [d] => { results := [.lit (.bool true)], args := [d] }
  | _ => none }
def fnWorstGapRow : OpenClaim := { program := "ytdkonaaoanggiaa", sum := "e1e79fdca65659489cb7c727f4c79fb2957aa8148f7b80965b1595af7f4bb2b9", func := "loop.example/helpersinreach/laws.FnWorstGap", spec := "fnWorstGap", apart := false }
def FnWorstGapSaid : Prop := fnWorstGapRow.holds Try.pinned (OpenSpec.ofChange fnWorstGapSpec)

/-- ITS FALSE NEIGHBOUR: 'it returns false'. Refute it at one input. -/
def fnWorstGapWrong : ChangeSpec := { name := "fnWorstGap", fn := fun _ => fun
  | [d] => { results := [.lit (.bool false)], args := [d] }
  | _ => none }
def FnWorstGapWrongFalsely : Prop := fnWorstGapRow.holds Try.pinned (OpenSpec.ofChange fnWorstGapWrong)

/-- 'laws.FnSweepRound': WHATEVER THE INPUT: true; the input reads as it did. -/
def fnSweepRoundSpec : ChangeSpec := { name := "fnSweepRound", fn := fun _ => fun
  | [d] => { results := [.lit (.bool true)], args := [d] }
  | _ => none }
def fnSweepRoundRow : OpenClaim := { program := "ytdkonaaoanggiaa", sum := "e1e79fdca65659489cb7c727f4c79fb2957aa8148f7b80965b1595af7f4bb2b9", func := "loop.example/helpersinreach/laws.FnSweepRound", spec := "fnSweepRound", apart := false }
def FnSweepRoundSaid : Prop := fnSweepRoundRow.holds Try.pinned (OpenSpec.ofChange fnSweepRoundSpec)

/-- ITS FALSE NEIGHBOUR: 'it returns false'. Refute it at one input. -/
def fnSweepRoundWrong : ChangeSpec := { name := "fnSweepRound", fn := fun _ => fun
  | [d] => { results := [.lit (.bool false)], args := [d] }
  | _ => none }
def FnSweepRoundWrongFalsely : Prop := fnSweepRoundRow.holds Try.pinned (OpenSpec.ofChange fnSweepRoundWrong)

/-- 'laws.FnTwoGap': WHATEVER THE INPUT: true; the input reads as it did. -/
def fnTwoGapSpec : ChangeSpec := { name := "fnTwoGap", fn := fun _ => fun
  | [d] => { results := [.lit (.bool true)], args := [d] }
  | _ => none }
def fnTwoGapRow : OpenClaim := { program := "ytdkonaaoanggiaa", sum := "e1e79fdca65659489cb7c727f4c79fb2957aa8148f7b80965b1595af7f4bb2b9", func := "loop.example/helpersinreach/laws.FnTwoGap", spec := "fnTwoGap", apart := false }
def FnTwoGapSaid : Prop := fnTwoGapRow.holds Try.pinned (OpenSpec.ofChange fnTwoGapSpec)

/-- ITS FALSE NEIGHBOUR: 'it returns false'. Refute it at one input. -/
def fnTwoGapWrong : ChangeSpec := { name := "fnTwoGap", fn := fun _ => fun
  | [d] => { results := [.lit (.bool false)], args := [d] }
  | _ => none }
def FnTwoGapWrongFalsely : Prop := fnTwoGapRow.holds Try.pinned (OpenSpec.ofChange fnTwoGapWrong)

/-- 'laws.FnSweepsShared': WHATEVER THE INPUT: true; the input reads as it did. -/
def fnSweepsSharedSpec : ChangeSpec := { name := "fnSweepsShared", fn := fun _ => fun
  | [d] => { results := [.lit (.bool true)], args := [d] }
  | _ => none }
def fnSweepsSharedRow : OpenClaim := { program := "ytdkonaaoanggiaa", sum := "e1e79fdca65659489cb7c727f4c79fb2957aa8148f7b80965b1595af7f4bb2b9", func := "loop.example/helpersinreach/laws.FnSweepsShared", spec := "fnSweepsShared", apart := false }
def FnSweepsSharedSaid : Prop := fnSweepsSharedRow.holds Try.pinned (OpenSpec.ofChange fnSweepsSharedSpec)

/-- ITS FALSE NEIGHBOUR: 'it returns false'. Refute it at one input. -/
def fnSweepsSharedWrong : ChangeSpec := { name := "fnSweepsShared", fn := fun _ => fun
  | [d] => { results := [.lit (.bool false)], args := [d] }
  | _ => none }
def FnSweepsSharedWrongFalsely : Prop := fnSweepsSharedRow.holds Try.pinned (OpenSpec.ofChange fnSweepsSharedWrong)

/-- 'laws.FnRoundsTwice': WHATEVER THE INPUT: true; the input reads as it did. -/
def fnRoundsTwiceSpec : ChangeSpec := { name := "fnRoundsTwice", fn := fun _ => fun
  | [d] => { results := [.lit (.bool true)], args := [d] }
  | _ => none }
def fnRoundsTwiceRow : OpenClaim := { program := "ytdkonaaoanggiaa", sum := "e1e79fdca65659489cb7c727f4c79fb2957aa8148f7b80965b1595af7f4bb2b9", func := "loop.example/helpersinreach/laws.FnRoundsTwice", spec := "fnRoundsTwice", apart := false }
def FnRoundsTwiceSaid : Prop := fnRoundsTwiceRow.holds Try.pinned (OpenSpec.ofChange fnRoundsTwiceSpec)

/-- ITS FALSE NEIGHBOUR: 'it returns false'. Refute it at one input. -/
def fnRoundsTwiceWrong : ChangeSpec := { name := "fnRoundsTwice", fn := fun _ => fun
  | [d] => { results := [.lit (.bool false)], args := [d] }
  | _ => none }
def FnRoundsTwiceWrongFalsely : Prop := fnRoundsTwiceRow.holds Try.pinned (OpenSpec.ofChange fnRoundsTwiceWrong)

/-- 'laws.FnExactValidRound': WHATEVER THE INPUT: true; the input reads as it did. -/
def fnExactValidRoundSpec : ChangeSpec := { name := "fnExactValidRound", fn := fun _ => fun
  | [d1, d2] => { results := [.lit (.bool true)], args := [d1, d2] }
  | _ => none }
def fnExactValidRoundRow : OpenClaim := { program := "ytdkonaaoanggiaa", sum := "e1e79fdca65659489cb7c727f4c79fb2957aa8148f7b80965b1595af7f4bb2b9", func := "loop.example/helpersinreach/laws.FnExactValidRound", spec := "fnExactValidRound", apart := false }
def FnExactValidRoundSaid : Prop := fnExactValidRoundRow.holds Try.pinned (OpenSpec.ofChange fnExactValidRoundSpec)

/-- ITS FALSE NEIGHBOUR: 'it returns false'. Refute it at one input. -/
def fnExactValidRoundWrong : ChangeSpec := { name := "fnExactValidRound", fn := fun _ => fun
  | [d1, d2] => { results := [.lit (.bool false)], args := [d1, d2] }
  | _ => none }
def FnExactValidRoundWrongFalsely : Prop := fnExactValidRoundRow.holds Try.pinned (OpenSpec.ofChange fnExactValidRoundWrong)

/-- 'laws.FnExactVisitsOf': WHATEVER THE INPUT: true; the input reads as it did. -/
def fnExactVisitsOfSpec : ChangeSpec := { name := "fnExactVisitsOf", fn := fun _ => fun
  | [d1, d2] => { results := [.lit (.bool true)], args := [d1, d2] }
  | _ => none }
def fnExactVisitsOfRow : OpenClaim := { program := "ytdkonaaoanggiaa", sum := "e1e79fdca65659489cb7c727f4c79fb2957aa8148f7b80965b1595af7f4bb2b9", func := "loop.example/helpersinreach/laws.FnExactVisitsOf", spec := "fnExactVisitsOf", apart := false }
def FnExactVisitsOfSaid : Prop := fnExactVisitsOfRow.holds Try.pinned (OpenSpec.ofChange fnExactVisitsOfSpec)

/-- ITS FALSE NEIGHBOUR: 'it returns false'. Refute it at one input. -/
def fnExactVisitsOfWrong : ChangeSpec := { name := "fnExactVisitsOf", fn := fun _ => fun
  | [d1, d2] => { results := [.lit (.bool false)], args := [d1, d2] }
  | _ => none }
def FnExactVisitsOfWrongFalsely : Prop := fnExactVisitsOfRow.holds Try.pinned (OpenSpec.ofChange fnExactVisitsOfWrong)

/-- 'laws.FnExactGapsOf': WHATEVER THE INPUT: true; the input reads as it did. -/
def fnExactGapsOfSpec : ChangeSpec := { name := "fnExactGapsOf", fn := fun _ => fun
  | [d1, d2] => { results := [.lit (.bool true)], args := [d1, d2] }
  | _ => none }
def fnExactGapsOfRow : OpenClaim := { program := "ytdkonaaoanggiaa", sum := "e1e79fdca65659489cb7c727f4c79fb2957aa8148f7b80965b1595af7f4bb2b9", func := "loop.example/helpersinreach/laws.FnExactGapsOf", spec := "fnExactGapsOf", apart := false }
def FnExactGapsOfSaid : Prop := fnExactGapsOfRow.holds Try.pinned (OpenSpec.ofChange fnExactGapsOfSpec)

/-- ITS FALSE NEIGHBOUR: 'it returns false'. Refute it at one input. -/
def fnExactGapsOfWrong : ChangeSpec := { name := "fnExactGapsOf", fn := fun _ => fun
  | [d1, d2] => { results := [.lit (.bool false)], args := [d1, d2] }
  | _ => none }
def FnExactGapsOfWrongFalsely : Prop := fnExactGapsOfRow.holds Try.pinned (OpenSpec.ofChange fnExactGapsOfWrong)

/-- 'laws.FnExactWorstGap': WHATEVER THE INPUT: true; the input reads as it did. -/
def fnExactWorstGapSpec : ChangeSpec := { name := "fnExactWorstGap", fn := fun _ => fun
  | [d1, d2] => { results := [.lit (.bool true)], args := [d1, d2] }
  | _ => none }
def fnExactWorstGapRow : OpenClaim := { program := "ytdkonaaoanggiaa", sum := "e1e79fdca65659489cb7c727f4c79fb2957aa8148f7b80965b1595af7f4bb2b9", func := "loop.example/helpersinreach/laws.FnExactWorstGap", spec := "fnExactWorstGap", apart := false }
def FnExactWorstGapSaid : Prop := fnExactWorstGapRow.holds Try.pinned (OpenSpec.ofChange fnExactWorstGapSpec)

/-- ITS FALSE NEIGHBOUR: 'it returns false'. Refute it at one input. -/
def fnExactWorstGapWrong : ChangeSpec := { name := "fnExactWorstGap", fn := fun _ => fun
  | [d1, d2] => { results := [.lit (.bool false)], args := [d1, d2] }
  | _ => none }
def FnExactWorstGapWrongFalsely : Prop := fnExactWorstGapRow.holds Try.pinned (OpenSpec.ofChange fnExactWorstGapWrong)

/-- 'laws.FnExactSweepRound': WHATEVER THE INPUT: true; the input reads as it did. -/
def fnExactSweepRoundSpec : ChangeSpec := { name := "fnExactSweepRound", fn := fun _ => fun
  | [d] => { results := [.lit (.bool true)], args := [d] }
  | _ => none }
def fnExactSweepRoundRow : OpenClaim := { program := "ytdkonaaoanggiaa", sum := "e1e79fdca65659489cb7c727f4c79fb2957aa8148f7b80965b1595af7f4bb2b9", func := "loop.example/helpersinreach/laws.FnExactSweepRound", spec := "fnExactSweepRound", apart := false }
def FnExactSweepRoundSaid : Prop := fnExactSweepRoundRow.holds Try.pinned (OpenSpec.ofChange fnExactSweepRoundSpec)

/-- ITS FALSE NEIGHBOUR: 'it returns false'. Refute it at one input. -/
def fnExactSweepRoundWrong : ChangeSpec := { name := "fnExactSweepRound", fn := fun _ => fun
  | [d] => { results := [.lit (.bool false)], args := [d] }
  | _ => none }
def FnExactSweepRoundWrongFalsely : Prop := fnExactSweepRoundRow.holds Try.pinned (OpenSpec.ofChange fnExactSweepRoundWrong)

/-- 'laws.FnExactTwoGap': WHATEVER THE INPUT: true; the input reads as it did. -/
def fnExactTwoGapSpec : ChangeSpec := { name := "fnExactTwoGap", fn := fun _ => fun
  | [d1, d2, d3] => { results := [.lit (.bool true)], args := [d1, d2, d3] }
  | _ => none }
def fnExactTwoGapRow : OpenClaim := { program := "ytdkonaaoanggiaa", sum := "e1e79fdca65659489cb7c727f4c79fb2957aa8148f7b80965b1595af7f4bb2b9", func := "loop.example/helpersinreach/laws.FnExactTwoGap", spec := "fnExactTwoGap", apart := false }
def FnExactTwoGapSaid : Prop := fnExactTwoGapRow.holds Try.pinned (OpenSpec.ofChange fnExactTwoGapSpec)

/-- ITS FALSE NEIGHBOUR: 'it returns false'. Refute it at one input. -/
def fnExactTwoGapWrong : ChangeSpec := { name := "fnExactTwoGap", fn := fun _ => fun
  | [d1, d2, d3] => { results := [.lit (.bool false)], args := [d1, d2, d3] }
  | _ => none }
def FnExactTwoGapWrongFalsely : Prop := fnExactTwoGapRow.holds Try.pinned (OpenSpec.ofChange fnExactTwoGapWrong)

/- THE SECOND FORM. 'bulk': how many values and letters a reading holds, each counted each time it is reached (what is shared counts as often as it is met; a slice's spare places count too). A statement '..UptoSaid' is the law's where the arguments, and the package variables that the reading takes, are together of bulk at most 1048576: NARROWER than '..Said'. Prove '..Said' where nothing that the law and all that it calls make is longer than what came in: it says more and counts as full. Else prove '..UptoSaid'. A law counts once. -/
mutual
def uptoBulk {H : Type} : DataW H → Nat
  | .lit (.string bytes) => bytes.length + 1
  | .lit _ => 1
  | .nil => 1
  | .ptr d => uptoBulk d + 1
  | .slice elems spare => uptoBulkAll elems + uptoBulkAll spare + 1
  | .agg parts => uptoBulkAll parts + 1
  | .iface _ d => uptoBulk d + 1
  | .map entries => uptoBulkEntries entries + 1
  | .held _ => 1
def uptoBulkAll {H : Type} : List (DataW H) → Nat
  | [] => 0
  | d :: r => uptoBulk d + uptoBulkAll r
def uptoBulkEntries {H : Type} : List (Lit × DataW H) → Nat
  | [] => 0
  | x :: r => uptoBulkEntry x + uptoBulkEntries r
def uptoBulkEntry {H : Type} : Lit × DataW H → Nat
  | (.string bytes, d) => bytes.length + uptoBulk d + 1
  | (_, d) => uptoBulk d + 1
 end
def uptoSmall : (H : Type) → List (DataW H) → Bool := fun _ ds => decide (uptoBulkAll ds ≤ 1048576)
def OpenSpec.upto (s : _root_.Go.ChangeSpec) : _root_.Go.OpenSpec := { _root_.Go.OpenSpec.ofChange s with cond := some uptoSmall }

/-- 'laws.FnValidRound', WHERE WHAT IT READS IS OF BULK AT MOST 1048576: true; the input reads as it did. -/
def fnValidRoundUptoRow : OpenClaim := { program := "ytdkonaaoanggiaa", sum := "e1e79fdca65659489cb7c727f4c79fb2957aa8148f7b80965b1595af7f4bb2b9", func := "loop.example/helpersinreach/laws.FnValidRound", spec := "fnValidRound", apart := false, narrowed := true }
def FnValidRoundUptoSaid : Prop := fnValidRoundUptoRow.holds Try.pinned (OpenSpec.upto fnValidRoundSpec)

/-- 'laws.FnVisitsOf', WHERE WHAT IT READS IS OF BULK AT MOST 1048576: true; the input reads as it did. -/
def fnVisitsOfUptoRow : OpenClaim := { program := "ytdkonaaoanggiaa", sum := "e1e79fdca65659489cb7c727f4c79fb2957aa8148f7b80965b1595af7f4bb2b9", func := "loop.example/helpersinreach/laws.FnVisitsOf", spec := "fnVisitsOf", apart := false, narrowed := true }
def FnVisitsOfUptoSaid : Prop := fnVisitsOfUptoRow.holds Try.pinned (OpenSpec.upto fnVisitsOfSpec)

/-- 'laws.FnGapsOf', WHERE WHAT IT READS IS OF BULK AT MOST 1048576: true; the input reads as it did. -/
def fnGapsOfUptoRow : OpenClaim := { program := "ytdkonaaoanggiaa", sum := "e1e79fdca65659489cb7c727f4c79fb2957aa8148f7b80965b1595af7f4bb2b9", func := "loop.example/helpersinreach/laws.FnGapsOf", spec := "fnGapsOf", apart := false, narrowed := true }
def FnGapsOfUptoSaid : Prop := fnGapsOfUptoRow.holds Try.pinned (OpenSpec.upto fnGapsOfSpec)

/-- 'laws.FnWorstGap', WHERE WHAT IT READS IS OF BULK AT MOST 1048576: true; the input reads as it did. -/
def fnWorstGapUptoRow : OpenClaim := { program := "ytdkonaaoanggiaa", sum := "e1e79fdca65659489cb7c727f4c79fb2957aa8148f7b80965b1595af7f4bb2b9", func := "loop.example/helpersinreach/laws.FnWorstGap", spec := "fnWorstGap", apart := false, narrowed := true }
def FnWorstGapUptoSaid : Prop := fnWorstGapUptoRow.holds Try.pinned (OpenSpec.upto fnWorstGapSpec)

/-- 'laws.FnSweepRound', WHERE WHAT IT READS IS OF BULK AT MOST 1048576: true; the input reads as it did. -/
def fnSweepRoundUptoRow : OpenClaim := { program := "ytdkonaaoanggiaa", sum := "e1e79fdca65659489cb7c727f4c79fb2957aa8148f7b80965b1595af7f4bb2b9", func := "loop.example/helpersinreach/laws.FnSweepRound", spec := "fnSweepRound", apart := false, narrowed := true }
def FnSweepRoundUptoSaid : Prop := fnSweepRoundUptoRow.holds Try.pinned (OpenSpec.upto fnSweepRoundSpec)

/-- 'laws.FnTwoGap', WHERE WHAT IT READS IS OF BULK AT MOST 1048576: true; the input reads as it did. -/
def fnTwoGapUptoRow : OpenClaim := { program := "ytdkonaaoanggiaa", sum := "e1e79fdca65659489cb7c727f4c79fb2957aa8148f7b80965b1595af7f4bb2b9", func := "loop.example/helpersinreach/laws.FnTwoGap", spec := "fnTwoGap", apart := false, narrowed := true }
def FnTwoGapUptoSaid : Prop := fnTwoGapUptoRow.holds Try.pinned (OpenSpec.upto fnTwoGapSpec)

/-- 'laws.FnSweepsShared', WHERE WHAT IT READS IS OF BULK AT MOST 1048576: true; the input reads as it did. -/
def fnSweepsSharedUptoRow : OpenClaim := { program := "ytdkonaaoanggiaa", sum := "e1e79fdca65659489cb7c727f4c79fb2957aa8148f7b80965b1595af7f4bb2b9", func := "loop.example/helpersinreach/laws.FnSweepsShared", spec := "fnSweepsShared", apart := false, narrowed := true }
def FnSweepsSharedUptoSaid : Prop := fnSweepsSharedUptoRow.holds Try.pinned (OpenSpec.upto fnSweepsSharedSpec)

/-- 'laws.FnRoundsTwice', WHERE WHAT IT READS IS OF BULK AT MOST 1048576: true; the input reads as it did. -/
def fnRoundsTwiceUptoRow : OpenClaim := { program := "ytdkonaaoanggiaa", sum := "e1e79fdca65659489cb7c727f4c79fb2957aa8148f7b80965b1595af7f4bb2b9", func := "loop.example/helpersinreach/laws.FnRoundsTwice", spec := "fnRoundsTwice", apart := false, narrowed := true }
def FnRoundsTwiceUptoSaid : Prop := fnRoundsTwiceUptoRow.holds Try.pinned (OpenSpec.upto fnRoundsTwiceSpec)

/-- 'laws.FnExactValidRound', WHERE WHAT IT READS IS OF BULK AT MOST 1048576: true; the input reads as it did. -/
def fnExactValidRoundUptoRow : OpenClaim := { program := "ytdkonaaoanggiaa", sum := "e1e79fdca65659489cb7c727f4c79fb2957aa8148f7b80965b1595af7f4bb2b9", func := "loop.example/helpersinreach/laws.FnExactValidRound", spec := "fnExactValidRound", apart := false, narrowed := true }
def FnExactValidRoundUptoSaid : Prop := fnExactValidRoundUptoRow.holds Try.pinned (OpenSpec.upto fnExactValidRoundSpec)

/-- 'laws.FnExactVisitsOf', WHERE WHAT IT READS IS OF BULK AT MOST 1048576: true; the input reads as it did. -/
def fnExactVisitsOfUptoRow : OpenClaim := { program := "ytdkonaaoanggiaa", sum := "e1e79fdca65659489cb7c727f4c79fb2957aa8148f7b80965b1595af7f4bb2b9", func := "loop.example/helpersinreach/laws.FnExactVisitsOf", spec := "fnExactVisitsOf", apart := false, narrowed := true }
def FnExactVisitsOfUptoSaid : Prop := fnExactVisitsOfUptoRow.holds Try.pinned (OpenSpec.upto fnExactVisitsOfSpec)

/-- 'laws.FnExactGapsOf', WHERE WHAT IT READS IS OF BULK AT MOST 1048576: true; the input reads as it did. -/
def fnExactGapsOfUptoRow : OpenClaim := { program := "ytdkonaaoanggiaa", sum := "e1e79fdca65659489cb7c727f4c79fb2957aa8148f7b80965b1595af7f4bb2b9", func := "loop.example/helpersinreach/laws.FnExactGapsOf", spec := "fnExactGapsOf", apart := false, narrowed := true }
def FnExactGapsOfUptoSaid : Prop := fnExactGapsOfUptoRow.holds Try.pinned (OpenSpec.upto fnExactGapsOfSpec)

/-- 'laws.FnExactWorstGap', WHERE WHAT IT READS IS OF BULK AT MOST 1048576: true; the input reads as it did. -/
def fnExactWorstGapUptoRow : OpenClaim := { program := "ytdkonaaoanggiaa", sum := "e1e79fdca65659489cb7c727f4c79fb2957aa8148f7b80965b1595af7f4bb2b9", func := "loop.example/helpersinreach/laws.FnExactWorstGap", spec := "fnExactWorstGap", apart := false, narrowed := true }
def FnExactWorstGapUptoSaid : Prop := fnExactWorstGapUptoRow.holds Try.pinned (OpenSpec.upto fnExactWorstGapSpec)

/-- 'laws.FnExactSweepRound', WHERE WHAT IT READS IS OF BULK AT MOST 1048576: true; the input reads as it did. -/
def fnExactSweepRoundUptoRow : OpenClaim := { program := "ytdkonaaoanggiaa", sum := "e1e79fdca65659489cb7c727f4c79fb2957aa8148f7b80965b1595af7f4bb2b9", func := "loop.example/helpersinreach/laws.FnExactSweepRound", spec := "fnExactSweepRound", apart := false, narrowed := true }
def FnExactSweepRoundUptoSaid : Prop := fnExactSweepRoundUptoRow.holds Try.pinned (OpenSpec.upto fnExactSweepRoundSpec)

/-- 'laws.FnExactTwoGap', WHERE WHAT IT READS IS OF BULK AT MOST 1048576: true; the input reads as it did. -/
def fnExactTwoGapUptoRow : OpenClaim := { program := "ytdkonaaoanggiaa", sum := "e1e79fdca65659489cb7c727f4c79fb2957aa8148f7b80965b1595af7f4bb2b9", func := "loop.example/helpersinreach/laws.FnExactTwoGap", spec := "fnExactTwoGap", apart := false, narrowed := true }
def FnExactTwoGapUptoSaid : Prop := fnExactTwoGapUptoRow.holds Try.pinned (OpenSpec.upto fnExactTwoGapSpec)

end Rows
end Go.Proofs.Ytdkonaaoanggiaa
