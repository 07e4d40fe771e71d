/-
  No cell of these rows narrows 'for every input' (looked for: loops, veiled, ifaces, maps, wideKeys, modest, calm, conditions, laid).
  DERIVED. THE GIVEN ROWS OF THIS SEAT. 9 by the template 'for every input the law returns true; each argument reads behind the call as it read before'; 0 by the template 'total and deterministic' (their statements: YtbbmjfnjpmefpaaTotals.lean).
  GIVEN WITH THE SEED: the statements are not yours to turn. If you find one false, say at which input.
  Laid BY PROGRAM, IN A SANDBOX (cutbox-rows.mjs): the forced cells as the released guide's own fill.sh prints them over the translation 12060113bf3ae060… (all of the seat's roots in one cut). By AI agents, Wed Nov 11 2026. No macro, syntax, notation, axiom, sorry.
-/
import Derived.Test.YtbbmjfnjpmefpaaChecked
import GoSem.Claim
import GoSem.ClaimJoined
import GoSem.ClaimMapViews
import Derived.JoinedTies
import Derived.KernelRfl
namespace Go.Proofs.Ytbbmjfnjpmefpaa
/- THE CELL 'sum', in the pinned program and in every row, IS THE sha256 OF THE DUMP (.gsa) THAT YtbbmjfnjpmefpaaProg.lean LOADS. Nothing in Lean hashes anything: it is a label: what it is worth is what the hold of that sum in a sandbox is worth. -/
noncomputable def Try.pinned : Pinned := { name := "ytbbmjfnjpmefpaa", sum := "12060113bf3ae060bd749a73c57a9174b81472e9455a6de4629db889d2043ba8", checked := Try.checked }
namespace Rows
def none {H : Type} : Left H := { results := [], args := [] }

/-- 'laws.FnBusyShare': WHATEVER THE INPUT: true; the input reads as it did. -/
def fnBusyShareSpec : ChangeSpec := { name := "fnBusyShare", fn := fun _ => fun
  | [d] => { results := [.lit (.bool true)], args := [d] }
  | _ => none }
def fnBusyShareRow : OpenClaim := { program := "ytbbmjfnjpmefpaa", sum := "12060113bf3ae060bd749a73c57a9174b81472e9455a6de4629db889d2043ba8", func := "loop.example/helpersinreach/laws.FnBusyShare", spec := "fnBusyShare", unfollowed := true, recurses := true, apart := false }
def FnBusyShareSaid : Prop := fnBusyShareRow.holds Try.pinned (OpenSpec.ofChange fnBusyShareSpec)

/-- ITS FALSE NEIGHBOUR: 'it returns false'. Refute it at one input. -/
def fnBusyShareWrong : ChangeSpec := { name := "fnBusyShare", fn := fun _ => fun
  | [d] => { results := [.lit (.bool false)], args := [d] }
  | _ => none }
def FnBusyShareWrongFalsely : Prop := fnBusyShareRow.holds Try.pinned (OpenSpec.ofChange fnBusyShareWrong)

/-- 'laws.FnLostStep': WHATEVER THE INPUT: true; the input reads as it did. -/
def fnLostStepSpec : ChangeSpec := { name := "fnLostStep", fn := fun _ => fun
  | [d] => { results := [.lit (.bool true)], args := [d] }
  | _ => none }
def fnLostStepRow : OpenClaim := { program := "ytbbmjfnjpmefpaa", sum := "12060113bf3ae060bd749a73c57a9174b81472e9455a6de4629db889d2043ba8", func := "loop.example/helpersinreach/laws.FnLostStep", spec := "fnLostStep", unfollowed := true, recurses := true, apart := false }
def FnLostStepSaid : Prop := fnLostStepRow.holds Try.pinned (OpenSpec.ofChange fnLostStepSpec)

/-- ITS FALSE NEIGHBOUR: 'it returns false'. Refute it at one input. -/
def fnLostStepWrong : ChangeSpec := { name := "fnLostStep", fn := fun _ => fun
  | [d] => { results := [.lit (.bool false)], args := [d] }
  | _ => none }
def FnLostStepWrongFalsely : Prop := fnLostStepRow.holds Try.pinned (OpenSpec.ofChange fnLostStepWrong)

/-- 'laws.FnMeanBusy': WHATEVER THE INPUT: true; the input reads as it did. -/
def fnMeanBusySpec : ChangeSpec := { name := "fnMeanBusy", fn := fun _ => fun
  | [d] => { results := [.lit (.bool true)], args := [d] }
  | _ => none }
def fnMeanBusyRow : OpenClaim := { program := "ytbbmjfnjpmefpaa", sum := "12060113bf3ae060bd749a73c57a9174b81472e9455a6de4629db889d2043ba8", func := "loop.example/helpersinreach/laws.FnMeanBusy", spec := "fnMeanBusy", unfollowed := true, recurses := true, apart := false }
def FnMeanBusySaid : Prop := fnMeanBusyRow.holds Try.pinned (OpenSpec.ofChange fnMeanBusySpec)

/-- ITS FALSE NEIGHBOUR: 'it returns false'. Refute it at one input. -/
def fnMeanBusyWrong : ChangeSpec := { name := "fnMeanBusy", fn := fun _ => fun
  | [d] => { results := [.lit (.bool false)], args := [d] }
  | _ => none }
def FnMeanBusyWrongFalsely : Prop := fnMeanBusyRow.holds Try.pinned (OpenSpec.ofChange fnMeanBusyWrong)

/-- 'laws.FnHelpersFor': WHATEVER THE INPUT: true; the input reads as it did. -/
def fnHelpersForSpec : ChangeSpec := { name := "fnHelpersFor", fn := fun _ => fun
  | [d] => { results := [.lit (.bool true)], args := [d] }
  | _ => none }
def fnHelpersForRow : OpenClaim := { program := "ytbbmjfnjpmefpaa", sum := "12060113bf3ae060bd749a73c57a9174b81472e9455a6de4629db889d2043ba8", func := "loop.example/helpersinreach/laws.FnHelpersFor", spec := "fnHelpersFor", apart := false }
def FnHelpersForSaid : Prop := fnHelpersForRow.holds Try.pinned (OpenSpec.ofChange fnHelpersForSpec)

/-- ITS FALSE NEIGHBOUR: 'it returns false'. Refute it at one input. -/
def fnHelpersForWrong : ChangeSpec := { name := "fnHelpersFor", fn := fun _ => fun
  | [d] => { results := [.lit (.bool false)], args := [d] }
  | _ => none }
def FnHelpersForWrongFalsely : Prop := fnHelpersForRow.holds Try.pinned (OpenSpec.ofChange fnHelpersForWrong)

/-- 'laws.FnTwiceTheLoad': WHATEVER THE INPUT: true; the input reads as it did. -/
def fnTwiceTheLoadSpec : ChangeSpec := { name := "fnTwiceTheLoad", fn := fun _ => fun
  | [d] => { results := [.lit (.bool true)], args := [d] }
  | _ => none }
def fnTwiceTheLoadRow : OpenClaim := { program := "ytbbmjfnjpmefpaa", sum := "12060113bf3ae060bd749a73c57a9174b81472e9455a6de4629db889d2043ba8", func := "loop.example/helpersinreach/laws.FnTwiceTheLoad", spec := "fnTwiceTheLoad", apart := false }
def FnTwiceTheLoadSaid : Prop := fnTwiceTheLoadRow.holds Try.pinned (OpenSpec.ofChange fnTwiceTheLoadSpec)

/-- ITS FALSE NEIGHBOUR: 'it returns false'. Refute it at one input. -/
def fnTwiceTheLoadWrong : ChangeSpec := { name := "fnTwiceTheLoad", fn := fun _ => fun
  | [d] => { results := [.lit (.bool false)], args := [d] }
  | _ => none }
def FnTwiceTheLoadWrongFalsely : Prop := fnTwiceTheLoadRow.holds Try.pinned (OpenSpec.ofChange fnTwiceTheLoadWrong)

/-- 'laws.FnExactBusyShare': WHATEVER THE INPUT: true; the input reads as it did. -/
def fnExactBusyShareSpec : ChangeSpec := { name := "fnExactBusyShare", fn := fun _ => fun
  | [d1, d2, d3, d4] => { results := [.lit (.bool true)], args := [d1, d2, d3, d4] }
  | _ => none }
def fnExactBusyShareRow : OpenClaim := { program := "ytbbmjfnjpmefpaa", sum := "12060113bf3ae060bd749a73c57a9174b81472e9455a6de4629db889d2043ba8", func := "loop.example/helpersinreach/laws.FnExactBusyShare", spec := "fnExactBusyShare", unfollowed := true, recurses := true, apart := false }
def FnExactBusyShareSaid : Prop := fnExactBusyShareRow.holds Try.pinned (OpenSpec.ofChange fnExactBusyShareSpec)

/-- ITS FALSE NEIGHBOUR: 'it returns false'. Refute it at one input. -/
def fnExactBusyShareWrong : ChangeSpec := { name := "fnExactBusyShare", fn := fun _ => fun
  | [d1, d2, d3, d4] => { results := [.lit (.bool false)], args := [d1, d2, d3, d4] }
  | _ => none }
def FnExactBusyShareWrongFalsely : Prop := fnExactBusyShareRow.holds Try.pinned (OpenSpec.ofChange fnExactBusyShareWrong)

/-- 'laws.FnExactLostStep': WHATEVER THE INPUT: true; the input reads as it did. -/
def fnExactLostStepSpec : ChangeSpec := { name := "fnExactLostStep", fn := fun _ => fun
  | [d1, d2, d3] => { results := [.lit (.bool true)], args := [d1, d2, d3] }
  | _ => none }
def fnExactLostStepRow : OpenClaim := { program := "ytbbmjfnjpmefpaa", sum := "12060113bf3ae060bd749a73c57a9174b81472e9455a6de4629db889d2043ba8", func := "loop.example/helpersinreach/laws.FnExactLostStep", spec := "fnExactLostStep", apart := false }
def FnExactLostStepSaid : Prop := fnExactLostStepRow.holds Try.pinned (OpenSpec.ofChange fnExactLostStepSpec)

/-- ITS FALSE NEIGHBOUR: 'it returns false'. Refute it at one input. -/
def fnExactLostStepWrong : ChangeSpec := { name := "fnExactLostStep", fn := fun _ => fun
  | [d1, d2, d3] => { results := [.lit (.bool false)], args := [d1, d2, d3] }
  | _ => none }
def FnExactLostStepWrongFalsely : Prop := fnExactLostStepRow.holds Try.pinned (OpenSpec.ofChange fnExactLostStepWrong)

/-- 'laws.FnExactMeanBusy': WHATEVER THE INPUT: true; the input reads as it did. -/
def fnExactMeanBusySpec : ChangeSpec := { name := "fnExactMeanBusy", fn := fun _ => fun
  | [d1, d2, d3] => { results := [.lit (.bool true)], args := [d1, d2, d3] }
  | _ => none }
def fnExactMeanBusyRow : OpenClaim := { program := "ytbbmjfnjpmefpaa", sum := "12060113bf3ae060bd749a73c57a9174b81472e9455a6de4629db889d2043ba8", func := "loop.example/helpersinreach/laws.FnExactMeanBusy", spec := "fnExactMeanBusy", unfollowed := true, recurses := true, apart := false }
def FnExactMeanBusySaid : Prop := fnExactMeanBusyRow.holds Try.pinned (OpenSpec.ofChange fnExactMeanBusySpec)

/-- ITS FALSE NEIGHBOUR: 'it returns false'. Refute it at one input. -/
def fnExactMeanBusyWrong : ChangeSpec := { name := "fnExactMeanBusy", fn := fun _ => fun
  | [d1, d2, d3] => { results := [.lit (.bool false)], args := [d1, d2, d3] }
  | _ => none }
def FnExactMeanBusyWrongFalsely : Prop := fnExactMeanBusyRow.holds Try.pinned (OpenSpec.ofChange fnExactMeanBusyWrong)

/-- 'laws.FnExactHelpersFor': WHATEVER THE INPUT: true; the input reads as it did. -/
def fnExactHelpersForSpec : ChangeSpec := { name := "fnExactHelpersFor", fn := fun _ => fun
  | [d1, d2, d3] => { results := [.lit (.bool true)], args := [d1, d2, d3] }
  | _ => none }
def fnExactHelpersForRow : OpenClaim := { program := "ytbbmjfnjpmefpaa", sum := "12060113bf3ae060bd749a73c57a9174b81472e9455a6de4629db889d2043ba8", func := "loop.example/helpersinreach/laws.FnExactHelpersFor", spec := "fnExactHelpersFor", apart := false }
def FnExactHelpersForSaid : Prop := fnExactHelpersForRow.holds Try.pinned (OpenSpec.ofChange fnExactHelpersForSpec)

/-- ITS FALSE NEIGHBOUR: 'it returns false'. Refute it at one input. -/
def fnExactHelpersForWrong : ChangeSpec := { name := "fnExactHelpersFor", fn := fun _ => fun
  | [d1, d2, d3] => { results := [.lit (.bool false)], args := [d1, d2, d3] }
  | _ => none }
def FnExactHelpersForWrongFalsely : Prop := fnExactHelpersForRow.holds Try.pinned (OpenSpec.ofChange fnExactHelpersForWrong)

/- THE SECOND FORM. 'bulk': how many values and letters a reading holds, each counted each time it is reached (what is shared counts as often as it is met; a slice's spare places count too). A statement '..UptoSaid' is the law's where the arguments, and the package variables that the reading takes, are together of bulk at most 1048576: NARROWER than '..Said'. Prove '..Said' where nothing that the law and all that it calls make is longer than what came in: it says more and counts as full. Else prove '..UptoSaid'. A law counts once. -/
mutual
def uptoBulk {H : Type} : DataW H → Nat
  | .lit (.string bytes) => bytes.length + 1
  | .lit _ => 1
  | .nil => 1
  | .ptr d => uptoBulk d + 1
  | .slice elems spare => uptoBulkAll elems + uptoBulkAll spare + 1
  | .agg parts => uptoBulkAll parts + 1
  | .iface _ d => uptoBulk d + 1
  | .map entries => uptoBulkEntries entries + 1
  | .held _ => 1
def uptoBulkAll {H : Type} : List (DataW H) → Nat
  | [] => 0
  | d :: r => uptoBulk d + uptoBulkAll r
def uptoBulkEntries {H : Type} : List (Lit × DataW H) → Nat
  | [] => 0
  | x :: r => uptoBulkEntry x + uptoBulkEntries r
def uptoBulkEntry {H : Type} : Lit × DataW H → Nat
  | (.string bytes, d) => bytes.length + uptoBulk d + 1
  | (_, d) => uptoBulk d + 1
 end
def uptoSmall : (H : Type) → List (DataW H) → Bool := fun _ ds => decide (uptoBulkAll ds ≤ 1048576)
def OpenSpec.upto (s : _root_.Go.ChangeSpec) : _root_.Go.OpenSpec := { _root_.Go.OpenSpec.ofChange s with cond := some uptoSmall }

/-- 'laws.FnBusyShare', WHERE WHAT IT READS IS OF BULK AT MOST 1048576: true; the input reads as it did. -/
def fnBusyShareUptoRow : OpenClaim := { program := "ytbbmjfnjpmefpaa", sum := "12060113bf3ae060bd749a73c57a9174b81472e9455a6de4629db889d2043ba8", func := "loop.example/helpersinreach/laws.FnBusyShare", spec := "fnBusyShare", unfollowed := true, recurses := true, apart := false, narrowed := true }
def FnBusyShareUptoSaid : Prop := fnBusyShareUptoRow.holds Try.pinned (OpenSpec.upto fnBusyShareSpec)

/-- 'laws.FnLostStep', WHERE WHAT IT READS IS OF BULK AT MOST 1048576: true; the input reads as it did. -/
def fnLostStepUptoRow : OpenClaim := { program := "ytbbmjfnjpmefpaa", sum := "12060113bf3ae060bd749a73c57a9174b81472e9455a6de4629db889d2043ba8", func := "loop.example/helpersinreach/laws.FnLostStep", spec := "fnLostStep", unfollowed := true, recurses := true, apart := false, narrowed := true }
def FnLostStepUptoSaid : Prop := fnLostStepUptoRow.holds Try.pinned (OpenSpec.upto fnLostStepSpec)

/-- 'laws.FnMeanBusy', WHERE WHAT IT READS IS OF BULK AT MOST 1048576: true; the input reads as it did. -/
def fnMeanBusyUptoRow : OpenClaim := { program := "ytbbmjfnjpmefpaa", sum := "12060113bf3ae060bd749a73c57a9174b81472e9455a6de4629db889d2043ba8", func := "loop.example/helpersinreach/laws.FnMeanBusy", spec := "fnMeanBusy", unfollowed := true, recurses := true, apart := false, narrowed := true }
def FnMeanBusyUptoSaid : Prop := fnMeanBusyUptoRow.holds Try.pinned (OpenSpec.upto fnMeanBusySpec)

/-- 'laws.FnHelpersFor', WHERE WHAT IT READS IS OF BULK AT MOST 1048576: true; the input reads as it did. -/
def fnHelpersForUptoRow : OpenClaim := { program := "ytbbmjfnjpmefpaa", sum := "12060113bf3ae060bd749a73c57a9174b81472e9455a6de4629db889d2043ba8", func := "loop.example/helpersinreach/laws.FnHelpersFor", spec := "fnHelpersFor", apart := false, narrowed := true }
def FnHelpersForUptoSaid : Prop := fnHelpersForUptoRow.holds Try.pinned (OpenSpec.upto fnHelpersForSpec)

/-- 'laws.FnTwiceTheLoad', WHERE WHAT IT READS IS OF BULK AT MOST 1048576: true; the input reads as it did. -/
def fnTwiceTheLoadUptoRow : OpenClaim := { program := "ytbbmjfnjpmefpaa", sum := "12060113bf3ae060bd749a73c57a9174b81472e9455a6de4629db889d2043ba8", func := "loop.example/helpersinreach/laws.FnTwiceTheLoad", spec := "fnTwiceTheLoad", apart := false, narrowed := true }
def FnTwiceTheLoadUptoSaid : Prop := fnTwiceTheLoadUptoRow.holds Try.pinned (OpenSpec.upto fnTwiceTheLoadSpec)

/-- 'laws.FnExactBusyShare', WHERE WHAT IT READS IS OF BULK AT MOST 1048576: true; the input reads as it did. -/
def fnExactBusyShareUptoRow : OpenClaim := { program := "ytbbmjfnjpmefpaa", sum := "12060113bf3ae060bd749a73c57a9174b81472e9455a6de4629db889d2043ba8", func := "loop.example/helpersinreach/laws.FnExactBusyShare", spec := "fnExactBusyShare", unfollowed := true, recurses := true, apart := false, narrowed := true }
def FnExactBusyShareUptoSaid : Prop := fnExactBusyShareUptoRow.holds Try.pinned (OpenSpec.upto fnExactBusyShareSpec)

/-- 'laws.FnExactLostStep', WHERE WHAT IT READS IS OF BULK AT MOST 1048576: true; the input reads as it did. -/
def fnExactLostStepUptoRow : OpenClaim := { program := "ytbbmjfnjpmefpaa", sum := "12060113bf3ae060bd749a73c57a9174b81472e9455a6de4629db889d2043ba8", func := "loop.example/helpersinreach/laws.FnExactLostStep", spec := "fnExactLostStep", apart := false, narrowed := true }
def FnExactLostStepUptoSaid : Prop := fnExactLostStepUptoRow.holds Try.pinned (OpenSpec.upto fnExactLostStepSpec)

/-- 'laws.FnExactMeanBusy', WHERE WHAT IT READS IS OF BULK AT MOST 1048576: true; the input reads as it did. -/
def fnExactMeanBusyUptoRow : OpenClaim := { program := "ytbbmjfnjpmefpaa", sum := "12060113bf3ae060bd749a73c57a9174b81472e9455a6de4629db889d2043ba8", func := "loop.example/helpersinreach/laws.FnExactMeanBusy", spec := "fnExactMeanBusy", unfollowed := true, recurses := true, apart := false, narrowed := true }
def FnExactMeanBusyUptoSaid : Prop := fnExactMeanBusyUptoRow.holds Try.pinned (OpenSpec.upto fnExactMeanBusySpec)

/-- 'laws.FnExactHelpersFor', WHERE WHAT IT READS IS OF BULK AT MOST 1048576: true; the input reads as it did. -/
def fnExactHelpersForUptoRow : OpenClaim := { program := "ytbbmjfnjpmefpaa", sum := "12060113bf3ae060bd749a73c57a9174b81472e9455a6de4629db889d2043ba8", func := "loop.example/helpersinreach/laws.FnExactHelpersFor", spec := "fnExactHelpersFor", apart := false, narrowed := true }
def FnExactHelpersForUptoSaid : Prop := fnExactHelpersForUptoRow.holds Try.pinned (OpenSpec.upto fnExactHelpersForSpec)

end Rows
end Go.Proofs.Ytbbmjfnjpmefpaa
