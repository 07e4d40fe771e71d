/-
  No cell of these rows narrows 'for every input' (looked for: loops, veiled, ifaces, maps, wideKeys, modest, calm, conditions, laid).
  DERIVED. THE GIVEN ROWS OF THIS SEAT. 12 by the template 'for every input the law returns true; each argument reads behind the call as it read before'; 0 by the template 'total and deterministic' (their statements: YtoohfipicmdohabTotals.lean).
  GIVEN WITH THE SEED: the statements are not yours to turn. If you find one false, say at which input.
  Laid BY PROGRAM, IN A SANDBOX (cutbox-rows.mjs): the forced cells as the released guide's own fill.sh prints them over the translation 1b79623a6a7bb473… (all of the seat's roots in one cut). By AI agents, Wed Nov 11 2026. No macro, syntax, notation, axiom, sorry.
-/
import Derived.Test.YtoohfipicmdohabChecked
import GoSem.Claim
import GoSem.ClaimJoined
import GoSem.ClaimMapViews
import Derived.JoinedTies
import Derived.KernelRfl
namespace Go.Proofs.Ytoohfipicmdohab
/- THE CELL 'sum', in the pinned program and in every row, IS THE sha256 OF THE DUMP (.gsa) THAT YtoohfipicmdohabProg.lean LOADS. Nothing in Lean hashes anything: it is a label: what it is worth is what the hold of that sum in a sandbox is worth. -/
noncomputable def Try.pinned : Pinned := { name := "ytoohfipicmdohab", sum := "1b79623a6a7bb473f8cd5e72e10a756552e6cac8ebb41752789515e69408fbbb", checked := Try.checked }
namespace Rows
def none {H : Type} : Left H := { results := [], args := [] }

/-- 'laws.FnLeastSum': WHATEVER THE INPUT: true; the input reads as it did. -/
def fnLeastSumSpec : ChangeSpec := { name := "fnLeastSum", fn := fun _ => fun
  | [d] => { results := [.lit (.bool true)], args := [d] }
  | _ => none }
def fnLeastSumRow : OpenClaim := { program := "ytoohfipicmdohab", sum := "1b79623a6a7bb473f8cd5e72e10a756552e6cac8ebb41752789515e69408fbbb", func := "loop.example/helpersinreach/laws.FnLeastSum", spec := "fnLeastSum", recurses := true, plainKeys := false, apart := false }
def FnLeastSumSaid : Prop := fnLeastSumRow.holds Try.pinned (OpenSpec.ofChange fnLeastSumSpec)

/-- ITS FALSE NEIGHBOUR: 'it returns false'. Refute it at one input. -/
def fnLeastSumWrong : ChangeSpec := { name := "fnLeastSum", fn := fun _ => fun
  | [d] => { results := [.lit (.bool false)], args := [d] }
  | _ => none }
def FnLeastSumWrongFalsely : Prop := fnLeastSumRow.holds Try.pinned (OpenSpec.ofChange fnLeastSumWrong)

/-- 'laws.FnSumTried': WHATEVER THE INPUT: true; the input reads as it did. -/
def fnSumTriedSpec : ChangeSpec := { name := "fnSumTried", fn := fun _ => fun
  | [d] => { results := [.lit (.bool true)], args := [d] }
  | _ => none }
def fnSumTriedRow : OpenClaim := { program := "ytoohfipicmdohab", sum := "1b79623a6a7bb473f8cd5e72e10a756552e6cac8ebb41752789515e69408fbbb", func := "loop.example/helpersinreach/laws.FnSumTried", spec := "fnSumTried", recurses := true, plainKeys := false, apart := false }
def FnSumTriedSaid : Prop := fnSumTriedRow.holds Try.pinned (OpenSpec.ofChange fnSumTriedSpec)

/-- ITS FALSE NEIGHBOUR: 'it returns false'. Refute it at one input. -/
def fnSumTriedWrong : ChangeSpec := { name := "fnSumTried", fn := fun _ => fun
  | [d] => { results := [.lit (.bool false)], args := [d] }
  | _ => none }
def FnSumTriedWrongFalsely : Prop := fnSumTriedRow.holds Try.pinned (OpenSpec.ofChange fnSumTriedWrong)

/-- 'laws.FnFewestNear': WHATEVER THE INPUT: true; the input reads as it did. -/
def fnFewestNearSpec : ChangeSpec := { name := "fnFewestNear", fn := fun _ => fun
  | [d] => { results := [.lit (.bool true)], args := [d] }
  | _ => none }
def fnFewestNearRow : OpenClaim := { program := "ytoohfipicmdohab", sum := "1b79623a6a7bb473f8cd5e72e10a756552e6cac8ebb41752789515e69408fbbb", func := "loop.example/helpersinreach/laws.FnFewestNear", spec := "fnFewestNear", plainKeys := false, apart := false }
def FnFewestNearSaid : Prop := fnFewestNearRow.holds Try.pinned (OpenSpec.ofChange fnFewestNearSpec)

/-- ITS FALSE NEIGHBOUR: 'it returns false'. Refute it at one input. -/
def fnFewestNearWrong : ChangeSpec := { name := "fnFewestNear", fn := fun _ => fun
  | [d] => { results := [.lit (.bool false)], args := [d] }
  | _ => none }
def FnFewestNearWrongFalsely : Prop := fnFewestNearRow.holds Try.pinned (OpenSpec.ofChange fnFewestNearWrong)

/-- 'laws.FnMostApart': WHATEVER THE INPUT: true; the input reads as it did. -/
def fnMostApartSpec : ChangeSpec := { name := "fnMostApart", fn := fun _ => fun
  | [d] => { results := [.lit (.bool true)], args := [d] }
  | _ => none }
def fnMostApartRow : OpenClaim := { program := "ytoohfipicmdohab", sum := "1b79623a6a7bb473f8cd5e72e10a756552e6cac8ebb41752789515e69408fbbb", func := "loop.example/helpersinreach/laws.FnMostApart", spec := "fnMostApart", plainKeys := false, apart := false }
def FnMostApartSaid : Prop := fnMostApartRow.holds Try.pinned (OpenSpec.ofChange fnMostApartSpec)

/-- ITS FALSE NEIGHBOUR: 'it returns false'. Refute it at one input. -/
def fnMostApartWrong : ChangeSpec := { name := "fnMostApart", fn := fun _ => fun
  | [d] => { results := [.lit (.bool false)], args := [d] }
  | _ => none }
def FnMostApartWrongFalsely : Prop := fnMostApartRow.holds Try.pinned (OpenSpec.ofChange fnMostApartWrong)

/-- 'laws.FnLeastFar': WHATEVER THE INPUT: true; the input reads as it did. -/
def fnLeastFarSpec : ChangeSpec := { name := "fnLeastFar", fn := fun _ => fun
  | [d] => { results := [.lit (.bool true)], args := [d] }
  | _ => none }
def fnLeastFarRow : OpenClaim := { program := "ytoohfipicmdohab", sum := "1b79623a6a7bb473f8cd5e72e10a756552e6cac8ebb41752789515e69408fbbb", func := "loop.example/helpersinreach/laws.FnLeastFar", spec := "fnLeastFar", plainKeys := false, apart := false }
def FnLeastFarSaid : Prop := fnLeastFarRow.holds Try.pinned (OpenSpec.ofChange fnLeastFarSpec)

/-- ITS FALSE NEIGHBOUR: 'it returns false'. Refute it at one input. -/
def fnLeastFarWrong : ChangeSpec := { name := "fnLeastFar", fn := fun _ => fun
  | [d] => { results := [.lit (.bool false)], args := [d] }
  | _ => none }
def FnLeastFarWrongFalsely : Prop := fnLeastFarRow.holds Try.pinned (OpenSpec.ofChange fnLeastFarWrong)

/-- 'laws.FnNearIsFar': WHATEVER THE INPUT: true; the input reads as it did. -/
def fnNearIsFarSpec : ChangeSpec := { name := "fnNearIsFar", fn := fun _ => fun
  | [d] => { results := [.lit (.bool true)], args := [d] }
  | _ => none }
def fnNearIsFarRow : OpenClaim := { program := "ytoohfipicmdohab", sum := "1b79623a6a7bb473f8cd5e72e10a756552e6cac8ebb41752789515e69408fbbb", func := "loop.example/helpersinreach/laws.FnNearIsFar", spec := "fnNearIsFar", plainKeys := false, apart := false }
def FnNearIsFarSaid : Prop := fnNearIsFarRow.holds Try.pinned (OpenSpec.ofChange fnNearIsFarSpec)

/-- ITS FALSE NEIGHBOUR: 'it returns false'. Refute it at one input. -/
def fnNearIsFarWrong : ChangeSpec := { name := "fnNearIsFar", fn := fun _ => fun
  | [d] => { results := [.lit (.bool false)], args := [d] }
  | _ => none }
def FnNearIsFarWrongFalsely : Prop := fnNearIsFarRow.holds Try.pinned (OpenSpec.ofChange fnNearIsFarWrong)

/-- 'laws.FnSumsAreEnds': WHATEVER THE INPUT: true; the input reads as it did. -/
def fnSumsAreEndsSpec : ChangeSpec := { name := "fnSumsAreEnds", fn := fun _ => fun
  | [d] => { results := [.lit (.bool true)], args := [d] }
  | _ => none }
def fnSumsAreEndsRow : OpenClaim := { program := "ytoohfipicmdohab", sum := "1b79623a6a7bb473f8cd5e72e10a756552e6cac8ebb41752789515e69408fbbb", func := "loop.example/helpersinreach/laws.FnSumsAreEnds", spec := "fnSumsAreEnds", recurses := true, plainKeys := false, apart := false }
def FnSumsAreEndsSaid : Prop := fnSumsAreEndsRow.holds Try.pinned (OpenSpec.ofChange fnSumsAreEndsSpec)

/-- ITS FALSE NEIGHBOUR: 'it returns false'. Refute it at one input. -/
def fnSumsAreEndsWrong : ChangeSpec := { name := "fnSumsAreEnds", fn := fun _ => fun
  | [d] => { results := [.lit (.bool false)], args := [d] }
  | _ => none }
def FnSumsAreEndsWrongFalsely : Prop := fnSumsAreEndsRow.holds Try.pinned (OpenSpec.ofChange fnSumsAreEndsWrong)

/-- 'laws.FnExactLeastSum': WHATEVER THE INPUT: true; the input reads as it did. -/
def fnExactLeastSumSpec : ChangeSpec := { name := "fnExactLeastSum", fn := fun _ => fun
  | [d1, d2] => { results := [.lit (.bool true)], args := [d1, d2] }
  | _ => none }
def fnExactLeastSumRow : OpenClaim := { program := "ytoohfipicmdohab", sum := "1b79623a6a7bb473f8cd5e72e10a756552e6cac8ebb41752789515e69408fbbb", func := "loop.example/helpersinreach/laws.FnExactLeastSum", spec := "fnExactLeastSum", recurses := true, plainKeys := false, apart := false }
def FnExactLeastSumSaid : Prop := fnExactLeastSumRow.holds Try.pinned (OpenSpec.ofChange fnExactLeastSumSpec)

/-- ITS FALSE NEIGHBOUR: 'it returns false'. Refute it at one input. -/
def fnExactLeastSumWrong : ChangeSpec := { name := "fnExactLeastSum", fn := fun _ => fun
  | [d1, d2] => { results := [.lit (.bool false)], args := [d1, d2] }
  | _ => none }
def FnExactLeastSumWrongFalsely : Prop := fnExactLeastSumRow.holds Try.pinned (OpenSpec.ofChange fnExactLeastSumWrong)

/-- 'laws.FnExactSumTried': WHATEVER THE INPUT: true; the input reads as it did. -/
def fnExactSumTriedSpec : ChangeSpec := { name := "fnExactSumTried", fn := fun _ => fun
  | [d1, d2] => { results := [.lit (.bool true)], args := [d1, d2] }
  | _ => none }
def fnExactSumTriedRow : OpenClaim := { program := "ytoohfipicmdohab", sum := "1b79623a6a7bb473f8cd5e72e10a756552e6cac8ebb41752789515e69408fbbb", func := "loop.example/helpersinreach/laws.FnExactSumTried", spec := "fnExactSumTried", recurses := true, plainKeys := false, apart := false }
def FnExactSumTriedSaid : Prop := fnExactSumTriedRow.holds Try.pinned (OpenSpec.ofChange fnExactSumTriedSpec)

/-- ITS FALSE NEIGHBOUR: 'it returns false'. Refute it at one input. -/
def fnExactSumTriedWrong : ChangeSpec := { name := "fnExactSumTried", fn := fun _ => fun
  | [d1, d2] => { results := [.lit (.bool false)], args := [d1, d2] }
  | _ => none }
def FnExactSumTriedWrongFalsely : Prop := fnExactSumTriedRow.holds Try.pinned (OpenSpec.ofChange fnExactSumTriedWrong)

/-- 'laws.FnExactFewestNear': WHATEVER THE INPUT: true; the input reads as it did. -/
def fnExactFewestNearSpec : ChangeSpec := { name := "fnExactFewestNear", fn := fun _ => fun
  | [d1, d2] => { results := [.lit (.bool true)], args := [d1, d2] }
  | _ => none }
def fnExactFewestNearRow : OpenClaim := { program := "ytoohfipicmdohab", sum := "1b79623a6a7bb473f8cd5e72e10a756552e6cac8ebb41752789515e69408fbbb", func := "loop.example/helpersinreach/laws.FnExactFewestNear", spec := "fnExactFewestNear", plainKeys := false, apart := false }
def FnExactFewestNearSaid : Prop := fnExactFewestNearRow.holds Try.pinned (OpenSpec.ofChange fnExactFewestNearSpec)

/-- ITS FALSE NEIGHBOUR: 'it returns false'. Refute it at one input. -/
def fnExactFewestNearWrong : ChangeSpec := { name := "fnExactFewestNear", fn := fun _ => fun
  | [d1, d2] => { results := [.lit (.bool false)], args := [d1, d2] }
  | _ => none }
def FnExactFewestNearWrongFalsely : Prop := fnExactFewestNearRow.holds Try.pinned (OpenSpec.ofChange fnExactFewestNearWrong)

/-- 'laws.FnExactMostApart': WHATEVER THE INPUT: true; the input reads as it did. -/
def fnExactMostApartSpec : ChangeSpec := { name := "fnExactMostApart", fn := fun _ => fun
  | [d1, d2] => { results := [.lit (.bool true)], args := [d1, d2] }
  | _ => none }
def fnExactMostApartRow : OpenClaim := { program := "ytoohfipicmdohab", sum := "1b79623a6a7bb473f8cd5e72e10a756552e6cac8ebb41752789515e69408fbbb", func := "loop.example/helpersinreach/laws.FnExactMostApart", spec := "fnExactMostApart", plainKeys := false, apart := false }
def FnExactMostApartSaid : Prop := fnExactMostApartRow.holds Try.pinned (OpenSpec.ofChange fnExactMostApartSpec)

/-- ITS FALSE NEIGHBOUR: 'it returns false'. Refute it at one input. -/
def fnExactMostApartWrong : ChangeSpec := { name := "fnExactMostApart", fn := fun _ => fun
  | [d1, d2] => { results := [.lit (.bool false)], args := [d1, d2] }
  | _ => none }
def FnExactMostApartWrongFalsely : Prop := fnExactMostApartRow.holds Try.pinned (OpenSpec.ofChange fnExactMostApartWrong)

/-- 'laws.FnExactLeastFar': WHATEVER THE INPUT: true; the input reads as it did. -/
def fnExactLeastFarSpec : ChangeSpec := { name := "fnExactLeastFar", fn := fun _ => fun
  | [d1, d2] => { results := [.lit (.bool true)], args := [d1, d2] }
  | _ => none }
def fnExactLeastFarRow : OpenClaim := { program := "ytoohfipicmdohab", sum := "1b79623a6a7bb473f8cd5e72e10a756552e6cac8ebb41752789515e69408fbbb", func := "loop.example/helpersinreach/laws.FnExactLeastFar", spec := "fnExactLeastFar", plainKeys := false, apart := false }
def FnExactLeastFarSaid : Prop := fnExactLeastFarRow.holds Try.pinned (OpenSpec.ofChange fnExactLeastFarSpec)

/-- ITS FALSE NEIGHBOUR: 'it returns false'. Refute it at one input. -/
def fnExactLeastFarWrong : ChangeSpec := { name := "fnExactLeastFar", fn := fun _ => fun
  | [d1, d2] => { results := [.lit (.bool false)], args := [d1, d2] }
  | _ => none }
def FnExactLeastFarWrongFalsely : Prop := fnExactLeastFarRow.holds Try.pinned (OpenSpec.ofChange fnExactLeastFarWrong)

/- THE SECOND FORM. 'bulk': how many values and letters a reading holds, each counted each time it is reached (what is shared counts as often as it is met; a slice's spare places count too). A statement '..UptoSaid' is the law's where the arguments, and the package variables that the reading takes, are together of bulk at most 1048576: NARROWER than '..Said'. Prove '..Said' where nothing that the law and all that it calls make is longer than what came in: it says more and counts as full. Else prove '..UptoSaid'. A law counts once. -/
mutual
def uptoBulk {H : Type} : DataW H → Nat
  | .lit (.string bytes) => bytes.length + 1
  | .lit _ => 1
  | .nil => 1
  | .ptr d => uptoBulk d + 1
  | .slice elems spare => uptoBulkAll elems + uptoBulkAll spare + 1
  | .agg parts => uptoBulkAll parts + 1
  | .iface _ d => uptoBulk d + 1
  | .map entries => uptoBulkEntries entries + 1
  | .held _ => 1
def uptoBulkAll {H : Type} : List (DataW H) → Nat
  | [] => 0
  | d :: r => uptoBulk d + uptoBulkAll r
def uptoBulkEntries {H : Type} : List (Lit × DataW H) → Nat
  | [] => 0
  | x :: r => uptoBulkEntry x + uptoBulkEntries r
def uptoBulkEntry {H : Type} : Lit × DataW H → Nat
  | (.string bytes, d) => bytes.length + uptoBulk d + 1
  | (_, d) => uptoBulk d + 1
 end
def uptoSmall : (H : Type) → List (DataW H) → Bool := fun _ ds => decide (uptoBulkAll ds ≤ 1048576)
def OpenSpec.upto (s : _root_.Go.ChangeSpec) : _root_.Go.OpenSpec := { _root_.Go.OpenSpec.ofChange s with cond := some uptoSmall }

/-- 'laws.FnLeastSum', WHERE WHAT IT READS IS OF BULK AT MOST 1048576: true; the input reads as it did. -/
def fnLeastSumUptoRow : OpenClaim := { program := "ytoohfipicmdohab", sum := "1b79623a6a7bb473f8cd5e72e10a756552e6cac8ebb41752789515e69408fbbb", func := "loop.example/helpersinreach/laws.FnLeastSum", spec := "fnLeastSum", recurses := true, plainKeys := false, apart := false, narrowed := true }
def FnLeastSumUptoSaid : Prop := fnLeastSumUptoRow.holds Try.pinned (OpenSpec.upto fnLeastSumSpec)

/-- 'laws.FnSumTried', WHERE WHAT IT READS IS OF BULK AT MOST 1048576: true; the input reads as it did. -/
def fnSumTriedUptoRow : OpenClaim := { program := "ytoohfipicmdohab", sum := "1b79623a6a7bb473f8cd5e72e10a756552e6cac8ebb41752789515e69408fbbb", func := "loop.example/helpersinreach/laws.FnSumTried", spec := "fnSumTried", recurses := true, plainKeys := false, apart := false, narrowed := true }
def FnSumTriedUptoSaid : Prop := fnSumTriedUptoRow.holds Try.pinned (OpenSpec.upto fnSumTriedSpec)

/-- 'laws.FnFewestNear', WHERE WHAT IT READS IS OF BULK AT MOST 1048576: true; the input reads as it did. -/
def fnFewestNearUptoRow : OpenClaim := { program := "ytoohfipicmdohab", sum := "1b79623a6a7bb473f8cd5e72e10a756552e6cac8ebb41752789515e69408fbbb", func := "loop.example/helpersinreach/laws.FnFewestNear", spec := "fnFewestNear", plainKeys := false, apart := false, narrowed := true }
def FnFewestNearUptoSaid : Prop := fnFewestNearUptoRow.holds Try.pinned (OpenSpec.upto fnFewestNearSpec)

/-- 'laws.FnMostApart', WHERE WHAT IT READS IS OF BULK AT MOST 1048576: true; the input reads as it did. -/
def fnMostApartUptoRow : OpenClaim := { program := "ytoohfipicmdohab", sum := "1b79623a6a7bb473f8cd5e72e10a756552e6cac8ebb41752789515e69408fbbb", func := "loop.example/helpersinreach/laws.FnMostApart", spec := "fnMostApart", plainKeys := false, apart := false, narrowed := true }
def FnMostApartUptoSaid : Prop := fnMostApartUptoRow.holds Try.pinned (OpenSpec.upto fnMostApartSpec)

/-- 'laws.FnLeastFar', WHERE WHAT IT READS IS OF BULK AT MOST 1048576: true; the input reads as it did. -/
def fnLeastFarUptoRow : OpenClaim := { program := "ytoohfipicmdohab", sum := "1b79623a6a7bb473f8cd5e72e10a756552e6cac8ebb41752789515e69408fbbb", func := "loop.example/helpersinreach/laws.FnLeastFar", spec := "fnLeastFar", plainKeys := false, apart := false, narrowed := true }
def FnLeastFarUptoSaid : Prop := fnLeastFarUptoRow.holds Try.pinned (OpenSpec.upto fnLeastFarSpec)

/-- 'laws.FnNearIsFar', WHERE WHAT IT READS IS OF BULK AT MOST 1048576: true; the input reads as it did. -/
def fnNearIsFarUptoRow : OpenClaim := { program := "ytoohfipicmdohab", sum := "1b79623a6a7bb473f8cd5e72e10a756552e6cac8ebb41752789515e69408fbbb", func := "loop.example/helpersinreach/laws.FnNearIsFar", spec := "fnNearIsFar", plainKeys := false, apart := false, narrowed := true }
def FnNearIsFarUptoSaid : Prop := fnNearIsFarUptoRow.holds Try.pinned (OpenSpec.upto fnNearIsFarSpec)

/-- 'laws.FnSumsAreEnds', WHERE WHAT IT READS IS OF BULK AT MOST 1048576: true; the input reads as it did. -/
def fnSumsAreEndsUptoRow : OpenClaim := { program := "ytoohfipicmdohab", sum := "1b79623a6a7bb473f8cd5e72e10a756552e6cac8ebb41752789515e69408fbbb", func := "loop.example/helpersinreach/laws.FnSumsAreEnds", spec := "fnSumsAreEnds", recurses := true, plainKeys := false, apart := false, narrowed := true }
def FnSumsAreEndsUptoSaid : Prop := fnSumsAreEndsUptoRow.holds Try.pinned (OpenSpec.upto fnSumsAreEndsSpec)

/-- 'laws.FnExactLeastSum', WHERE WHAT IT READS IS OF BULK AT MOST 1048576: true; the input reads as it did. -/
def fnExactLeastSumUptoRow : OpenClaim := { program := "ytoohfipicmdohab", sum := "1b79623a6a7bb473f8cd5e72e10a756552e6cac8ebb41752789515e69408fbbb", func := "loop.example/helpersinreach/laws.FnExactLeastSum", spec := "fnExactLeastSum", recurses := true, plainKeys := false, apart := false, narrowed := true }
def FnExactLeastSumUptoSaid : Prop := fnExactLeastSumUptoRow.holds Try.pinned (OpenSpec.upto fnExactLeastSumSpec)

/-- 'laws.FnExactSumTried', WHERE WHAT IT READS IS OF BULK AT MOST 1048576: true; the input reads as it did. -/
def fnExactSumTriedUptoRow : OpenClaim := { program := "ytoohfipicmdohab", sum := "1b79623a6a7bb473f8cd5e72e10a756552e6cac8ebb41752789515e69408fbbb", func := "loop.example/helpersinreach/laws.FnExactSumTried", spec := "fnExactSumTried", recurses := true, plainKeys := false, apart := false, narrowed := true }
def FnExactSumTriedUptoSaid : Prop := fnExactSumTriedUptoRow.holds Try.pinned (OpenSpec.upto fnExactSumTriedSpec)

/-- 'laws.FnExactFewestNear', WHERE WHAT IT READS IS OF BULK AT MOST 1048576: true; the input reads as it did. -/
def fnExactFewestNearUptoRow : OpenClaim := { program := "ytoohfipicmdohab", sum := "1b79623a6a7bb473f8cd5e72e10a756552e6cac8ebb41752789515e69408fbbb", func := "loop.example/helpersinreach/laws.FnExactFewestNear", spec := "fnExactFewestNear", plainKeys := false, apart := false, narrowed := true }
def FnExactFewestNearUptoSaid : Prop := fnExactFewestNearUptoRow.holds Try.pinned (OpenSpec.upto fnExactFewestNearSpec)

/-- 'laws.FnExactMostApart', WHERE WHAT IT READS IS OF BULK AT MOST 1048576: true; the input reads as it did. -/
def fnExactMostApartUptoRow : OpenClaim := { program := "ytoohfipicmdohab", sum := "1b79623a6a7bb473f8cd5e72e10a756552e6cac8ebb41752789515e69408fbbb", func := "loop.example/helpersinreach/laws.FnExactMostApart", spec := "fnExactMostApart", plainKeys := false, apart := false, narrowed := true }
def FnExactMostApartUptoSaid : Prop := fnExactMostApartUptoRow.holds Try.pinned (OpenSpec.upto fnExactMostApartSpec)

/-- 'laws.FnExactLeastFar', WHERE WHAT IT READS IS OF BULK AT MOST 1048576: true; the input reads as it did. -/
def fnExactLeastFarUptoRow : OpenClaim := { program := "ytoohfipicmdohab", sum := "1b79623a6a7bb473f8cd5e72e10a756552e6cac8ebb41752789515e69408fbbb", func := "loop.example/helpersinreach/laws.FnExactLeastFar", spec := "fnExactLeastFar", plainKeys := false, apart := false, narrowed := true }
def FnExactLeastFarUptoSaid : Prop := fnExactLeastFarUptoRow.holds Try.pinned (OpenSpec.upto fnExactLeastFarSpec)

end Rows
end Go.Proofs.Ytoohfipicmdohab
