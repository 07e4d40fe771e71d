/-
  No cell of these rows narrows 'for every input' (looked for: loops, veiled, ifaces, maps, wideKeys, modest, calm, conditions, laid).
  DERIVED. THE GIVEN ROWS OF THIS SEAT. 13 by the template 'for every input the law returns true; each argument reads behind the call as it read before'; 0 by the template 'total and deterministic' (their statements: YtoappopbjnlbdaaTotals.lean).
  GIVEN WITH THE SEED: the statements are not yours to turn. If you find one false, say at which input.
  Laid BY PROGRAM, IN A SANDBOX (cutbox-rows.mjs): the forced cells as the released guide's own fill.sh prints them over the translation 0b9a96f1c4a882f8… (all of the seat's roots in one cut). By AI agents, Wed Nov 11 2026. No macro, syntax, notation, axiom, sorry.
-/
import Derived.Test.YtoappopbjnlbdaaChecked
import GoSem.Claim
import GoSem.ClaimJoined
import GoSem.ClaimMapViews
import Derived.JoinedTies
import Derived.KernelRfl
namespace Go.Proofs.Ytoappopbjnlbdaa
/- THE CELL 'sum', in the pinned program and in every row, IS THE sha256 OF THE DUMP (.gsa) THAT YtoappopbjnlbdaaProg.lean LOADS. Nothing in Lean hashes anything: it is a label: what it is worth is what the hold of that sum in a sandbox is worth. -/
noncomputable def Try.pinned : Pinned := { name := "ytoappopbjnlbdaa", sum := "0b9a96f1c4a882f8c74be7f5c9ab545d1bdcc75dff74aec99413c5f6d8fb4c8f", checked := Try.checked }
namespace Rows
def none {H : Type} : Left H := { results := [], args := [] }

/-- 'laws.FnValidWards': WHATEVER THE INPUT: true; the input reads as it did. -/
def fnValidWardsSpec : ChangeSpec := { name := "fnValidWards", fn := fun _ => fun
  | [d] => { results := [.lit (.bool true)], args := [d] }
  | _ => none }
def fnValidWardsRow : OpenClaim := { program := "ytoappopbjnlbdaa", sum := "0b9a96f1c4a882f8c74be7f5c9ab545d1bdcc75dff74aec99413c5f6d8fb4c8f", func := "loop.example/helpersinreach/laws.FnValidWards", spec := "fnValidWards", unfollowed := true, recurses := true, apart := false }
def FnValidWardsSaid : Prop := fnValidWardsRow.holds Try.pinned (OpenSpec.ofChange fnValidWardsSpec)

/-- ITS FALSE NEIGHBOUR: 'it returns false'. Refute it at one input. -/
def fnValidWardsWrong : ChangeSpec := { name := "fnValidWards", fn := fun _ => fun
  | [d] => { results := [.lit (.bool false)], args := [d] }
  | _ => none }
def FnValidWardsWrongFalsely : Prop := fnValidWardsRow.holds Try.pinned (OpenSpec.ofChange fnValidWardsWrong)

/-- 'laws.FnFewestWards': WHATEVER THE INPUT: true; the input reads as it did. -/
def fnFewestWardsSpec : ChangeSpec := { name := "fnFewestWards", fn := fun _ => fun
  | [d] => { results := [.lit (.bool true)], args := [d] }
  | _ => none }
def fnFewestWardsRow : OpenClaim := { program := "ytoappopbjnlbdaa", sum := "0b9a96f1c4a882f8c74be7f5c9ab545d1bdcc75dff74aec99413c5f6d8fb4c8f", func := "loop.example/helpersinreach/laws.FnFewestWards", spec := "fnFewestWards", unfollowed := true, recurses := true, apart := false }
def FnFewestWardsSaid : Prop := fnFewestWardsRow.holds Try.pinned (OpenSpec.ofChange fnFewestWardsSpec)

/-- ITS FALSE NEIGHBOUR: 'it returns false'. Refute it at one input. -/
def fnFewestWardsWrong : ChangeSpec := { name := "fnFewestWards", fn := fun _ => fun
  | [d] => { results := [.lit (.bool false)], args := [d] }
  | _ => none }
def FnFewestWardsWrongFalsely : Prop := fnFewestWardsRow.holds Try.pinned (OpenSpec.ofChange fnFewestWardsWrong)

/-- 'laws.FnLeastGreatest': WHATEVER THE INPUT: true; the input reads as it did. -/
def fnLeastGreatestSpec : ChangeSpec := { name := "fnLeastGreatest", fn := fun _ => fun
  | [d] => { results := [.lit (.bool true)], args := [d] }
  | _ => none }
def fnLeastGreatestRow : OpenClaim := { program := "ytoappopbjnlbdaa", sum := "0b9a96f1c4a882f8c74be7f5c9ab545d1bdcc75dff74aec99413c5f6d8fb4c8f", func := "loop.example/helpersinreach/laws.FnLeastGreatest", spec := "fnLeastGreatest", unfollowed := true, recurses := true, apart := false }
def FnLeastGreatestSaid : Prop := fnLeastGreatestRow.holds Try.pinned (OpenSpec.ofChange fnLeastGreatestSpec)

/-- ITS FALSE NEIGHBOUR: 'it returns false'. Refute it at one input. -/
def fnLeastGreatestWrong : ChangeSpec := { name := "fnLeastGreatest", fn := fun _ => fun
  | [d] => { results := [.lit (.bool false)], args := [d] }
  | _ => none }
def FnLeastGreatestWrongFalsely : Prop := fnLeastGreatestRow.holds Try.pinned (OpenSpec.ofChange fnLeastGreatestWrong)

/-- 'laws.FnGreatestByParts': WHATEVER THE INPUT: true; the input reads as it did. -/
def fnGreatestByPartsSpec : ChangeSpec := { name := "fnGreatestByParts", fn := fun _ => fun
  | [d] => { results := [.lit (.bool true)], args := [d] }
  | _ => none }
def fnGreatestByPartsRow : OpenClaim := { program := "ytoappopbjnlbdaa", sum := "0b9a96f1c4a882f8c74be7f5c9ab545d1bdcc75dff74aec99413c5f6d8fb4c8f", func := "loop.example/helpersinreach/laws.FnGreatestByParts", spec := "fnGreatestByParts", unfollowed := true, recurses := true, apart := false }
def FnGreatestByPartsSaid : Prop := fnGreatestByPartsRow.holds Try.pinned (OpenSpec.ofChange fnGreatestByPartsSpec)

/-- ITS FALSE NEIGHBOUR: 'it returns false'. Refute it at one input. -/
def fnGreatestByPartsWrong : ChangeSpec := { name := "fnGreatestByParts", fn := fun _ => fun
  | [d] => { results := [.lit (.bool false)], args := [d] }
  | _ => none }
def FnGreatestByPartsWrongFalsely : Prop := fnGreatestByPartsRow.holds Try.pinned (OpenSpec.ofChange fnGreatestByPartsWrong)

/-- 'laws.FnGreatestLeast': WHATEVER THE INPUT: true; the input reads as it did. -/
def fnGreatestLeastSpec : ChangeSpec := { name := "fnGreatestLeast", fn := fun _ => fun
  | [d] => { results := [.lit (.bool true)], args := [d] }
  | _ => none }
def fnGreatestLeastRow : OpenClaim := { program := "ytoappopbjnlbdaa", sum := "0b9a96f1c4a882f8c74be7f5c9ab545d1bdcc75dff74aec99413c5f6d8fb4c8f", func := "loop.example/helpersinreach/laws.FnGreatestLeast", spec := "fnGreatestLeast", unfollowed := true, recurses := true, apart := false }
def FnGreatestLeastSaid : Prop := fnGreatestLeastRow.holds Try.pinned (OpenSpec.ofChange fnGreatestLeastSpec)

/-- ITS FALSE NEIGHBOUR: 'it returns false'. Refute it at one input. -/
def fnGreatestLeastWrong : ChangeSpec := { name := "fnGreatestLeast", fn := fun _ => fun
  | [d] => { results := [.lit (.bool false)], args := [d] }
  | _ => none }
def FnGreatestLeastWrongFalsely : Prop := fnGreatestLeastRow.holds Try.pinned (OpenSpec.ofChange fnGreatestLeastWrong)

/-- 'laws.FnFirstCuts': WHATEVER THE INPUT: true; the input reads as it did. -/
def fnFirstCutsSpec : ChangeSpec := { name := "fnFirstCuts", fn := fun _ => fun
  | [d] => { results := [.lit (.bool true)], args := [d] }
  | _ => none }
def fnFirstCutsRow : OpenClaim := { program := "ytoappopbjnlbdaa", sum := "0b9a96f1c4a882f8c74be7f5c9ab545d1bdcc75dff74aec99413c5f6d8fb4c8f", func := "loop.example/helpersinreach/laws.FnFirstCuts", spec := "fnFirstCuts", unfollowed := true, recurses := true, apart := false }
def FnFirstCutsSaid : Prop := fnFirstCutsRow.holds Try.pinned (OpenSpec.ofChange fnFirstCutsSpec)

/-- ITS FALSE NEIGHBOUR: 'it returns false'. Refute it at one input. -/
def fnFirstCutsWrong : ChangeSpec := { name := "fnFirstCuts", fn := fun _ => fun
  | [d] => { results := [.lit (.bool false)], args := [d] }
  | _ => none }
def FnFirstCutsWrongFalsely : Prop := fnFirstCutsRow.holds Try.pinned (OpenSpec.ofChange fnFirstCutsWrong)

/-- 'laws.FnWardsOfOne': WHATEVER THE INPUT: true; the input reads as it did. -/
def fnWardsOfOneSpec : ChangeSpec := { name := "fnWardsOfOne", fn := fun _ => fun
  | [d] => { results := [.lit (.bool true)], args := [d] }
  | _ => none }
def fnWardsOfOneRow : OpenClaim := { program := "ytoappopbjnlbdaa", sum := "0b9a96f1c4a882f8c74be7f5c9ab545d1bdcc75dff74aec99413c5f6d8fb4c8f", func := "loop.example/helpersinreach/laws.FnWardsOfOne", spec := "fnWardsOfOne", unfollowed := true, recurses := true, apart := false }
def FnWardsOfOneSaid : Prop := fnWardsOfOneRow.holds Try.pinned (OpenSpec.ofChange fnWardsOfOneSpec)

/-- ITS FALSE NEIGHBOUR: 'it returns false'. Refute it at one input. -/
def fnWardsOfOneWrong : ChangeSpec := { name := "fnWardsOfOne", fn := fun _ => fun
  | [d] => { results := [.lit (.bool false)], args := [d] }
  | _ => none }
def FnWardsOfOneWrongFalsely : Prop := fnWardsOfOneRow.holds Try.pinned (OpenSpec.ofChange fnWardsOfOneWrong)

/-- 'laws.FnExactValidWards': WHATEVER THE INPUT: true; the input reads as it did. -/
def fnExactValidWardsSpec : ChangeSpec := { name := "fnExactValidWards", fn := fun _ => fun
  | [d] => { results := [.lit (.bool true)], args := [d] }
  | _ => none }
def fnExactValidWardsRow : OpenClaim := { program := "ytoappopbjnlbdaa", sum := "0b9a96f1c4a882f8c74be7f5c9ab545d1bdcc75dff74aec99413c5f6d8fb4c8f", func := "loop.example/helpersinreach/laws.FnExactValidWards", spec := "fnExactValidWards", unfollowed := true, recurses := true, apart := false }
def FnExactValidWardsSaid : Prop := fnExactValidWardsRow.holds Try.pinned (OpenSpec.ofChange fnExactValidWardsSpec)

/-- ITS FALSE NEIGHBOUR: 'it returns false'. Refute it at one input. -/
def fnExactValidWardsWrong : ChangeSpec := { name := "fnExactValidWards", fn := fun _ => fun
  | [d] => { results := [.lit (.bool false)], args := [d] }
  | _ => none }
def FnExactValidWardsWrongFalsely : Prop := fnExactValidWardsRow.holds Try.pinned (OpenSpec.ofChange fnExactValidWardsWrong)

/-- 'laws.FnExactFewestWards': WHATEVER THE INPUT: true; the input reads as it did. -/
def fnExactFewestWardsSpec : ChangeSpec := { name := "fnExactFewestWards", fn := fun _ => fun
  | [d1, d2] => { results := [.lit (.bool true)], args := [d1, d2] }
  | _ => none }
def fnExactFewestWardsRow : OpenClaim := { program := "ytoappopbjnlbdaa", sum := "0b9a96f1c4a882f8c74be7f5c9ab545d1bdcc75dff74aec99413c5f6d8fb4c8f", func := "loop.example/helpersinreach/laws.FnExactFewestWards", spec := "fnExactFewestWards", unfollowed := true, recurses := true, apart := false }
def FnExactFewestWardsSaid : Prop := fnExactFewestWardsRow.holds Try.pinned (OpenSpec.ofChange fnExactFewestWardsSpec)

/-- ITS FALSE NEIGHBOUR: 'it returns false'. Refute it at one input. -/
def fnExactFewestWardsWrong : ChangeSpec := { name := "fnExactFewestWards", fn := fun _ => fun
  | [d1, d2] => { results := [.lit (.bool false)], args := [d1, d2] }
  | _ => none }
def FnExactFewestWardsWrongFalsely : Prop := fnExactFewestWardsRow.holds Try.pinned (OpenSpec.ofChange fnExactFewestWardsWrong)

/-- 'laws.FnExactLeastGreatest': WHATEVER THE INPUT: true; the input reads as it did. -/
def fnExactLeastGreatestSpec : ChangeSpec := { name := "fnExactLeastGreatest", fn := fun _ => fun
  | [d1, d2] => { results := [.lit (.bool true)], args := [d1, d2] }
  | _ => none }
def fnExactLeastGreatestRow : OpenClaim := { program := "ytoappopbjnlbdaa", sum := "0b9a96f1c4a882f8c74be7f5c9ab545d1bdcc75dff74aec99413c5f6d8fb4c8f", func := "loop.example/helpersinreach/laws.FnExactLeastGreatest", spec := "fnExactLeastGreatest", unfollowed := true, recurses := true, apart := false }
def FnExactLeastGreatestSaid : Prop := fnExactLeastGreatestRow.holds Try.pinned (OpenSpec.ofChange fnExactLeastGreatestSpec)

/-- ITS FALSE NEIGHBOUR: 'it returns false'. Refute it at one input. -/
def fnExactLeastGreatestWrong : ChangeSpec := { name := "fnExactLeastGreatest", fn := fun _ => fun
  | [d1, d2] => { results := [.lit (.bool false)], args := [d1, d2] }
  | _ => none }
def FnExactLeastGreatestWrongFalsely : Prop := fnExactLeastGreatestRow.holds Try.pinned (OpenSpec.ofChange fnExactLeastGreatestWrong)

/-- 'laws.FnExactGreatestByParts': WHATEVER THE INPUT: true; the input reads as it did. -/
def fnExactGreatestByPartsSpec : ChangeSpec := { name := "fnExactGreatestByParts", fn := fun _ => fun
  | [d1, d2] => { results := [.lit (.bool true)], args := [d1, d2] }
  | _ => none }
def fnExactGreatestByPartsRow : OpenClaim := { program := "ytoappopbjnlbdaa", sum := "0b9a96f1c4a882f8c74be7f5c9ab545d1bdcc75dff74aec99413c5f6d8fb4c8f", func := "loop.example/helpersinreach/laws.FnExactGreatestByParts", spec := "fnExactGreatestByParts", unfollowed := true, recurses := true, apart := false }
def FnExactGreatestByPartsSaid : Prop := fnExactGreatestByPartsRow.holds Try.pinned (OpenSpec.ofChange fnExactGreatestByPartsSpec)

/-- ITS FALSE NEIGHBOUR: 'it returns false'. Refute it at one input. -/
def fnExactGreatestByPartsWrong : ChangeSpec := { name := "fnExactGreatestByParts", fn := fun _ => fun
  | [d1, d2] => { results := [.lit (.bool false)], args := [d1, d2] }
  | _ => none }
def FnExactGreatestByPartsWrongFalsely : Prop := fnExactGreatestByPartsRow.holds Try.pinned (OpenSpec.ofChange fnExactGreatestByPartsWrong)

/-- 'laws.FnExactGreatestLeast': WHATEVER THE INPUT: true; the input reads as it did. -/
def fnExactGreatestLeastSpec : ChangeSpec := { name := "fnExactGreatestLeast", fn := fun _ => fun
  | [d1, d2] => { results := [.lit (.bool true)], args := [d1, d2] }
  | _ => none }
def fnExactGreatestLeastRow : OpenClaim := { program := "ytoappopbjnlbdaa", sum := "0b9a96f1c4a882f8c74be7f5c9ab545d1bdcc75dff74aec99413c5f6d8fb4c8f", func := "loop.example/helpersinreach/laws.FnExactGreatestLeast", spec := "fnExactGreatestLeast", unfollowed := true, recurses := true, apart := false }
def FnExactGreatestLeastSaid : Prop := fnExactGreatestLeastRow.holds Try.pinned (OpenSpec.ofChange fnExactGreatestLeastSpec)

/-- ITS FALSE NEIGHBOUR: 'it returns false'. Refute it at one input. -/
def fnExactGreatestLeastWrong : ChangeSpec := { name := "fnExactGreatestLeast", fn := fun _ => fun
  | [d1, d2] => { results := [.lit (.bool false)], args := [d1, d2] }
  | _ => none }
def FnExactGreatestLeastWrongFalsely : Prop := fnExactGreatestLeastRow.holds Try.pinned (OpenSpec.ofChange fnExactGreatestLeastWrong)

/-- 'laws.FnExactFirstCuts': WHATEVER THE INPUT: true; the input reads as it did. -/
def fnExactFirstCutsSpec : ChangeSpec := { name := "fnExactFirstCuts", fn := fun _ => fun
  | [d1, d2] => { results := [.lit (.bool true)], args := [d1, d2] }
  | _ => none }
def fnExactFirstCutsRow : OpenClaim := { program := "ytoappopbjnlbdaa", sum := "0b9a96f1c4a882f8c74be7f5c9ab545d1bdcc75dff74aec99413c5f6d8fb4c8f", func := "loop.example/helpersinreach/laws.FnExactFirstCuts", spec := "fnExactFirstCuts", unfollowed := true, recurses := true, apart := false }
def FnExactFirstCutsSaid : Prop := fnExactFirstCutsRow.holds Try.pinned (OpenSpec.ofChange fnExactFirstCutsSpec)

/-- ITS FALSE NEIGHBOUR: 'it returns false'. Refute it at one input. -/
def fnExactFirstCutsWrong : ChangeSpec := { name := "fnExactFirstCuts", fn := fun _ => fun
  | [d1, d2] => { results := [.lit (.bool false)], args := [d1, d2] }
  | _ => none }
def FnExactFirstCutsWrongFalsely : Prop := fnExactFirstCutsRow.holds Try.pinned (OpenSpec.ofChange fnExactFirstCutsWrong)

/- THE SECOND FORM. 'bulk': how many values and letters a reading holds, each counted each time it is reached (what is shared counts as often as it is met; a slice's spare places count too). A statement '..UptoSaid' is the law's where the arguments, and the package variables that the reading takes, are together of bulk at most 1048576: NARROWER than '..Said'. Prove '..Said' where nothing that the law and all that it calls make is longer than what came in: it says more and counts as full. Else prove '..UptoSaid'. A law counts once. -/
mutual
def uptoBulk {H : Type} : DataW H → Nat
  | .lit (.string bytes) => bytes.length + 1
  | .lit _ => 1
  | .nil => 1
  | .ptr d => uptoBulk d + 1
  | .slice elems spare => uptoBulkAll elems + uptoBulkAll spare + 1
  | .agg parts => uptoBulkAll parts + 1
  | .iface _ d => uptoBulk d + 1
  | .map entries => uptoBulkEntries entries + 1
  | .held _ => 1
def uptoBulkAll {H : Type} : List (DataW H) → Nat
  | [] => 0
  | d :: r => uptoBulk d + uptoBulkAll r
def uptoBulkEntries {H : Type} : List (Lit × DataW H) → Nat
  | [] => 0
  | x :: r => uptoBulkEntry x + uptoBulkEntries r
def uptoBulkEntry {H : Type} : Lit × DataW H → Nat
  | (.string bytes, d) => bytes.length + uptoBulk d + 1
  | (_, d) => uptoBulk d + 1
 end
def uptoSmall : (H : Type) → List (DataW H) → Bool := fun _ ds => decide (uptoBulkAll ds ≤ 1048576)
def OpenSpec.upto (s : _root_.Go.ChangeSpec) : _root_.Go.OpenSpec := { _root_.Go.OpenSpec.ofChange s with cond := some uptoSmall }

/-- 'laws.FnValidWards', WHERE WHAT IT READS IS OF BULK AT MOST 1048576: true; the input reads as it did. -/
def fnValidWardsUptoRow : OpenClaim := { program := "ytoappopbjnlbdaa", sum := "0b9a96f1c4a882f8c74be7f5c9ab545d1bdcc75dff74aec99413c5f6d8fb4c8f", func := "loop.example/helpersinreach/laws.FnValidWards", spec := "fnValidWards", unfollowed := true, recurses := true, apart := false, narrowed := true }
def FnValidWardsUptoSaid : Prop := fnValidWardsUptoRow.holds Try.pinned (OpenSpec.upto fnValidWardsSpec)

/-- 'laws.FnFewestWards', WHERE WHAT IT READS IS OF BULK AT MOST 1048576: true; the input reads as it did. -/
def fnFewestWardsUptoRow : OpenClaim := { program := "ytoappopbjnlbdaa", sum := "0b9a96f1c4a882f8c74be7f5c9ab545d1bdcc75dff74aec99413c5f6d8fb4c8f", func := "loop.example/helpersinreach/laws.FnFewestWards", spec := "fnFewestWards", unfollowed := true, recurses := true, apart := false, narrowed := true }
def FnFewestWardsUptoSaid : Prop := fnFewestWardsUptoRow.holds Try.pinned (OpenSpec.upto fnFewestWardsSpec)

/-- 'laws.FnLeastGreatest', WHERE WHAT IT READS IS OF BULK AT MOST 1048576: true; the input reads as it did. -/
def fnLeastGreatestUptoRow : OpenClaim := { program := "ytoappopbjnlbdaa", sum := "0b9a96f1c4a882f8c74be7f5c9ab545d1bdcc75dff74aec99413c5f6d8fb4c8f", func := "loop.example/helpersinreach/laws.FnLeastGreatest", spec := "fnLeastGreatest", unfollowed := true, recurses := true, apart := false, narrowed := true }
def FnLeastGreatestUptoSaid : Prop := fnLeastGreatestUptoRow.holds Try.pinned (OpenSpec.upto fnLeastGreatestSpec)

/-- 'laws.FnGreatestByParts', WHERE WHAT IT READS IS OF BULK AT MOST 1048576: true; the input reads as it did. -/
def fnGreatestByPartsUptoRow : OpenClaim := { program := "ytoappopbjnlbdaa", sum := "0b9a96f1c4a882f8c74be7f5c9ab545d1bdcc75dff74aec99413c5f6d8fb4c8f", func := "loop.example/helpersinreach/laws.FnGreatestByParts", spec := "fnGreatestByParts", unfollowed := true, recurses := true, apart := false, narrowed := true }
def FnGreatestByPartsUptoSaid : Prop := fnGreatestByPartsUptoRow.holds Try.pinned (OpenSpec.upto fnGreatestByPartsSpec)

/-- 'laws.FnGreatestLeast', WHERE WHAT IT READS IS OF BULK AT MOST 1048576: true; the input reads as it did. -/
def fnGreatestLeastUptoRow : OpenClaim := { program := "ytoappopbjnlbdaa", sum := "0b9a96f1c4a882f8c74be7f5c9ab545d1bdcc75dff74aec99413c5f6d8fb4c8f", func := "loop.example/helpersinreach/laws.FnGreatestLeast", spec := "fnGreatestLeast", unfollowed := true, recurses := true, apart := false, narrowed := true }
def FnGreatestLeastUptoSaid : Prop := fnGreatestLeastUptoRow.holds Try.pinned (OpenSpec.upto fnGreatestLeastSpec)

/-- 'laws.FnFirstCuts', WHERE WHAT IT READS IS OF BULK AT MOST 1048576: true; the input reads as it did. -/
def fnFirstCutsUptoRow : OpenClaim := { program := "ytoappopbjnlbdaa", sum := "0b9a96f1c4a882f8c74be7f5c9ab545d1bdcc75dff74aec99413c5f6d8fb4c8f", func := "loop.example/helpersinreach/laws.FnFirstCuts", spec := "fnFirstCuts", unfollowed := true, recurses := true, apart := false, narrowed := true }
def FnFirstCutsUptoSaid : Prop := fnFirstCutsUptoRow.holds Try.pinned (OpenSpec.upto fnFirstCutsSpec)

/-- 'laws.FnWardsOfOne', WHERE WHAT IT READS IS OF BULK AT MOST 1048576: true; the input reads as it did. -/
def fnWardsOfOneUptoRow : OpenClaim := { program := "ytoappopbjnlbdaa", sum := "0b9a96f1c4a882f8c74be7f5c9ab545d1bdcc75dff74aec99413c5f6d8fb4c8f", func := "loop.example/helpersinreach/laws.FnWardsOfOne", spec := "fnWardsOfOne", unfollowed := true, recurses := true, apart := false, narrowed := true }
def FnWardsOfOneUptoSaid : Prop := fnWardsOfOneUptoRow.holds Try.pinned (OpenSpec.upto fnWardsOfOneSpec)

/-- 'laws.FnExactValidWards', WHERE WHAT IT READS IS OF BULK AT MOST 1048576: true; the input reads as it did. -/
def fnExactValidWardsUptoRow : OpenClaim := { program := "ytoappopbjnlbdaa", sum := "0b9a96f1c4a882f8c74be7f5c9ab545d1bdcc75dff74aec99413c5f6d8fb4c8f", func := "loop.example/helpersinreach/laws.FnExactValidWards", spec := "fnExactValidWards", unfollowed := true, recurses := true, apart := false, narrowed := true }
def FnExactValidWardsUptoSaid : Prop := fnExactValidWardsUptoRow.holds Try.pinned (OpenSpec.upto fnExactValidWardsSpec)

/-- 'laws.FnExactFewestWards', WHERE WHAT IT READS IS OF BULK AT MOST 1048576: true; the input reads as it did. -/
def fnExactFewestWardsUptoRow : OpenClaim := { program := "ytoappopbjnlbdaa", sum := "0b9a96f1c4a882f8c74be7f5c9ab545d1bdcc75dff74aec99413c5f6d8fb4c8f", func := "loop.example/helpersinreach/laws.FnExactFewestWards", spec := "fnExactFewestWards", unfollowed := true, recurses := true, apart := false, narrowed := true }
def FnExactFewestWardsUptoSaid : Prop := fnExactFewestWardsUptoRow.holds Try.pinned (OpenSpec.upto fnExactFewestWardsSpec)

/-- 'laws.FnExactLeastGreatest', WHERE WHAT IT READS IS OF BULK AT MOST 1048576: true; the input reads as it did. -/
def fnExactLeastGreatestUptoRow : OpenClaim := { program := "ytoappopbjnlbdaa", sum := "0b9a96f1c4a882f8c74be7f5c9ab545d1bdcc75dff74aec99413c5f6d8fb4c8f", func := "loop.example/helpersinreach/laws.FnExactLeastGreatest", spec := "fnExactLeastGreatest", unfollowed := true, recurses := true, apart := false, narrowed := true }
def FnExactLeastGreatestUptoSaid : Prop := fnExactLeastGreatestUptoRow.holds Try.pinned (OpenSpec.upto fnExactLeastGreatestSpec)

/-- 'laws.FnExactGreatestByParts', WHERE WHAT IT READS IS OF BULK AT MOST 1048576: true; the input reads as it did. -/
def fnExactGreatestByPartsUptoRow : OpenClaim := { program := "ytoappopbjnlbdaa", sum := "0b9a96f1c4a882f8c74be7f5c9ab545d1bdcc75dff74aec99413c5f6d8fb4c8f", func := "loop.example/helpersinreach/laws.FnExactGreatestByParts", spec := "fnExactGreatestByParts", unfollowed := true, recurses := true, apart := false, narrowed := true }
def FnExactGreatestByPartsUptoSaid : Prop := fnExactGreatestByPartsUptoRow.holds Try.pinned (OpenSpec.upto fnExactGreatestByPartsSpec)

/-- 'laws.FnExactGreatestLeast', WHERE WHAT IT READS IS OF BULK AT MOST 1048576: true; the input reads as it did. -/
def fnExactGreatestLeastUptoRow : OpenClaim := { program := "ytoappopbjnlbdaa", sum := "0b9a96f1c4a882f8c74be7f5c9ab545d1bdcc75dff74aec99413c5f6d8fb4c8f", func := "loop.example/helpersinreach/laws.FnExactGreatestLeast", spec := "fnExactGreatestLeast", unfollowed := true, recurses := true, apart := false, narrowed := true }
def FnExactGreatestLeastUptoSaid : Prop := fnExactGreatestLeastUptoRow.holds Try.pinned (OpenSpec.upto fnExactGreatestLeastSpec)

/-- 'laws.FnExactFirstCuts', WHERE WHAT IT READS IS OF BULK AT MOST 1048576: true; the input reads as it did. -/
def fnExactFirstCutsUptoRow : OpenClaim := { program := "ytoappopbjnlbdaa", sum := "0b9a96f1c4a882f8c74be7f5c9ab545d1bdcc75dff74aec99413c5f6d8fb4c8f", func := "loop.example/helpersinreach/laws.FnExactFirstCuts", spec := "fnExactFirstCuts", unfollowed := true, recurses := true, apart := false, narrowed := true }
def FnExactFirstCutsUptoSaid : Prop := fnExactFirstCutsUptoRow.holds Try.pinned (OpenSpec.upto fnExactFirstCutsSpec)

end Rows
end Go.Proofs.Ytoappopbjnlbdaa
