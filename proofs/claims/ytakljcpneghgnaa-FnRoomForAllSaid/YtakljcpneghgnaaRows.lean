/-
  No cell of these rows narrows 'for every input' (looked for: loops, veiled, ifaces, maps, wideKeys, modest, calm, conditions, laid).
  DERIVED. THE GIVEN ROWS OF THIS SEAT. 14 by the template 'for every input the law returns true; each argument reads behind the call as it read before'; 0 by the template 'total and deterministic' (their statements: YtakljcpneghgnaaTotals.lean).
  GIVEN WITH THE SEED: the statements are not yours to turn. If you find one false, say at which input.
  Laid BY PROGRAM, IN A SANDBOX (cutbox-rows.mjs): the forced cells as the released guide's own fill.sh prints them over the translation e93333c475052488… (all of the seat's roots in one cut). By AI agents, Wed Nov 11 2026. No macro, syntax, notation, axiom, sorry.
-/
import Derived.Test.YtakljcpneghgnaaChecked
import GoSem.Claim
import GoSem.ClaimJoined
import GoSem.ClaimMapViews
import Derived.JoinedTies
import Derived.KernelRfl
namespace Go.Proofs.Ytakljcpneghgnaa
/- THE CELL 'sum', in the pinned program and in every row, IS THE sha256 OF THE DUMP (.gsa) THAT YtakljcpneghgnaaProg.lean LOADS. Nothing in Lean hashes anything: it is a label: what it is worth is what the hold of that sum in a sandbox is worth. -/
noncomputable def Try.pinned : Pinned := { name := "ytakljcpneghgnaa", sum := "e93333c4750524888a9b692cc02cf7d4ff852df33d8cfa735f08070cb7f1064b", checked := Try.checked }
namespace Rows
def none {H : Type} : Left H := { results := [], args := [] }

/-- 'laws.FnValidRoom': WHATEVER THE INPUT: true; the input reads as it did. -/
def fnValidRoomSpec : ChangeSpec := { name := "fnValidRoom", fn := fun _ => fun
  | [d] => { results := [.lit (.bool true)], args := [d] }
  | _ => none }
def fnValidRoomRow : OpenClaim := { program := "ytakljcpneghgnaa", sum := "e93333c4750524888a9b692cc02cf7d4ff852df33d8cfa735f08070cb7f1064b", func := "loop.example/helpersinreach/laws.FnValidRoom", spec := "fnValidRoom", unfollowed := true, recurses := true, plainKeys := false, apart := false }
def FnValidRoomSaid : Prop := fnValidRoomRow.holds Try.pinned (OpenSpec.ofChange fnValidRoomSpec)

/-- ITS FALSE NEIGHBOUR: 'it returns false'. Refute it at one input. -/
def fnValidRoomWrong : ChangeSpec := { name := "fnValidRoom", fn := fun _ => fun
  | [d] => { results := [.lit (.bool false)], args := [d] }
  | _ => none }
def FnValidRoomWrongFalsely : Prop := fnValidRoomRow.holds Try.pinned (OpenSpec.ofChange fnValidRoomWrong)

/-- 'laws.FnMostTaken': WHATEVER THE INPUT: true; the input reads as it did. -/
def fnMostTakenSpec : ChangeSpec := { name := "fnMostTaken", fn := fun _ => fun
  | [d] => { results := [.lit (.bool true)], args := [d] }
  | _ => none }
def fnMostTakenRow : OpenClaim := { program := "ytakljcpneghgnaa", sum := "e93333c4750524888a9b692cc02cf7d4ff852df33d8cfa735f08070cb7f1064b", func := "loop.example/helpersinreach/laws.FnMostTaken", spec := "fnMostTaken", unfollowed := true, recurses := true, plainKeys := false, apart := false }
def FnMostTakenSaid : Prop := fnMostTakenRow.holds Try.pinned (OpenSpec.ofChange fnMostTakenSpec)

/-- ITS FALSE NEIGHBOUR: 'it returns false'. Refute it at one input. -/
def fnMostTakenWrong : ChangeSpec := { name := "fnMostTaken", fn := fun _ => fun
  | [d] => { results := [.lit (.bool false)], args := [d] }
  | _ => none }
def FnMostTakenWrongFalsely : Prop := fnMostTakenRow.holds Try.pinned (OpenSpec.ofChange fnMostTakenWrong)

/-- 'laws.FnLeastBlock': WHATEVER THE INPUT: true; the input reads as it did. -/
def fnLeastBlockSpec : ChangeSpec := { name := "fnLeastBlock", fn := fun _ => fun
  | [d] => { results := [.lit (.bool true)], args := [d] }
  | _ => none }
def fnLeastBlockRow : OpenClaim := { program := "ytakljcpneghgnaa", sum := "e93333c4750524888a9b692cc02cf7d4ff852df33d8cfa735f08070cb7f1064b", func := "loop.example/helpersinreach/laws.FnLeastBlock", spec := "fnLeastBlock", unfollowed := true, recurses := true, plainKeys := false, apart := false }
def FnLeastBlockSaid : Prop := fnLeastBlockRow.holds Try.pinned (OpenSpec.ofChange fnLeastBlockSpec)

/-- ITS FALSE NEIGHBOUR: 'it returns false'. Refute it at one input. -/
def fnLeastBlockWrong : ChangeSpec := { name := "fnLeastBlock", fn := fun _ => fun
  | [d] => { results := [.lit (.bool false)], args := [d] }
  | _ => none }
def FnLeastBlockWrongFalsely : Prop := fnLeastBlockRow.holds Try.pinned (OpenSpec.ofChange fnLeastBlockWrong)

/-- 'laws.FnValidCosts': WHATEVER THE INPUT: true; the input reads as it did. -/
def fnValidCostsSpec : ChangeSpec := { name := "fnValidCosts", fn := fun _ => fun
  | [d] => { results := [.lit (.bool true)], args := [d] }
  | _ => none }
def fnValidCostsRow : OpenClaim := { program := "ytakljcpneghgnaa", sum := "e93333c4750524888a9b692cc02cf7d4ff852df33d8cfa735f08070cb7f1064b", func := "loop.example/helpersinreach/laws.FnValidCosts", spec := "fnValidCosts", unfollowed := true, recurses := true, plainKeys := false, apart := false }
def FnValidCostsSaid : Prop := fnValidCostsRow.holds Try.pinned (OpenSpec.ofChange fnValidCostsSpec)

/-- ITS FALSE NEIGHBOUR: 'it returns false'. Refute it at one input. -/
def fnValidCostsWrong : ChangeSpec := { name := "fnValidCosts", fn := fun _ => fun
  | [d] => { results := [.lit (.bool false)], args := [d] }
  | _ => none }
def FnValidCostsWrongFalsely : Prop := fnValidCostsRow.holds Try.pinned (OpenSpec.ofChange fnValidCostsWrong)

/-- 'laws.FnLeastCost': WHATEVER THE INPUT: true; the input reads as it did. -/
def fnLeastCostSpec : ChangeSpec := { name := "fnLeastCost", fn := fun _ => fun
  | [d] => { results := [.lit (.bool true)], args := [d] }
  | _ => none }
def fnLeastCostRow : OpenClaim := { program := "ytakljcpneghgnaa", sum := "e93333c4750524888a9b692cc02cf7d4ff852df33d8cfa735f08070cb7f1064b", func := "loop.example/helpersinreach/laws.FnLeastCost", spec := "fnLeastCost", unfollowed := true, recurses := true, plainKeys := false, apart := false }
def FnLeastCostSaid : Prop := fnLeastCostRow.holds Try.pinned (OpenSpec.ofChange fnLeastCostSpec)

/-- ITS FALSE NEIGHBOUR: 'it returns false'. Refute it at one input. -/
def fnLeastCostWrong : ChangeSpec := { name := "fnLeastCost", fn := fun _ => fun
  | [d] => { results := [.lit (.bool false)], args := [d] }
  | _ => none }
def FnLeastCostWrongFalsely : Prop := fnLeastCostRow.holds Try.pinned (OpenSpec.ofChange fnLeastCostWrong)

/-- 'laws.FnCostTried': WHATEVER THE INPUT: true; the input reads as it did. -/
def fnCostTriedSpec : ChangeSpec := { name := "fnCostTried", fn := fun _ => fun
  | [d] => { results := [.lit (.bool true)], args := [d] }
  | _ => none }
def fnCostTriedRow : OpenClaim := { program := "ytakljcpneghgnaa", sum := "e93333c4750524888a9b692cc02cf7d4ff852df33d8cfa735f08070cb7f1064b", func := "loop.example/helpersinreach/laws.FnCostTried", spec := "fnCostTried", unfollowed := true, recurses := true, plainKeys := false, apart := false }
def FnCostTriedSaid : Prop := fnCostTriedRow.holds Try.pinned (OpenSpec.ofChange fnCostTriedSpec)

/-- ITS FALSE NEIGHBOUR: 'it returns false'. Refute it at one input. -/
def fnCostTriedWrong : ChangeSpec := { name := "fnCostTried", fn := fun _ => fun
  | [d] => { results := [.lit (.bool false)], args := [d] }
  | _ => none }
def FnCostTriedWrongFalsely : Prop := fnCostTriedRow.holds Try.pinned (OpenSpec.ofChange fnCostTriedWrong)

/-- 'laws.FnRoomForAll': WHATEVER THE INPUT: true; the input reads as it did. -/
def fnRoomForAllSpec : ChangeSpec := { name := "fnRoomForAll", fn := fun _ => fun
  | [d] => { results := [.lit (.bool true)], args := [d] }
  | _ => none }
def fnRoomForAllRow : OpenClaim := { program := "ytakljcpneghgnaa", sum := "e93333c4750524888a9b692cc02cf7d4ff852df33d8cfa735f08070cb7f1064b", func := "loop.example/helpersinreach/laws.FnRoomForAll", spec := "fnRoomForAll", unfollowed := true, recurses := true, plainKeys := false, apart := false }
def FnRoomForAllSaid : Prop := fnRoomForAllRow.holds Try.pinned (OpenSpec.ofChange fnRoomForAllSpec)

/-- ITS FALSE NEIGHBOUR: 'it returns false'. Refute it at one input. -/
def fnRoomForAllWrong : ChangeSpec := { name := "fnRoomForAll", fn := fun _ => fun
  | [d] => { results := [.lit (.bool false)], args := [d] }
  | _ => none }
def FnRoomForAllWrongFalsely : Prop := fnRoomForAllRow.holds Try.pinned (OpenSpec.ofChange fnRoomForAllWrong)

/-- 'laws.FnCostsMore': WHATEVER THE INPUT: true; the input reads as it did. -/
def fnCostsMoreSpec : ChangeSpec := { name := "fnCostsMore", fn := fun _ => fun
  | [d] => { results := [.lit (.bool true)], args := [d] }
  | _ => none }
def fnCostsMoreRow : OpenClaim := { program := "ytakljcpneghgnaa", sum := "e93333c4750524888a9b692cc02cf7d4ff852df33d8cfa735f08070cb7f1064b", func := "loop.example/helpersinreach/laws.FnCostsMore", spec := "fnCostsMore", unfollowed := true, recurses := true, plainKeys := false, apart := false }
def FnCostsMoreSaid : Prop := fnCostsMoreRow.holds Try.pinned (OpenSpec.ofChange fnCostsMoreSpec)

/-- ITS FALSE NEIGHBOUR: 'it returns false'. Refute it at one input. -/
def fnCostsMoreWrong : ChangeSpec := { name := "fnCostsMore", fn := fun _ => fun
  | [d] => { results := [.lit (.bool false)], args := [d] }
  | _ => none }
def FnCostsMoreWrongFalsely : Prop := fnCostsMoreRow.holds Try.pinned (OpenSpec.ofChange fnCostsMoreWrong)

/-- 'laws.FnExactValidRoom': WHATEVER THE INPUT: true; the input reads as it did. -/
def fnExactValidRoomSpec : ChangeSpec := { name := "fnExactValidRoom", fn := fun _ => fun
  | [d1, d2] => { results := [.lit (.bool true)], args := [d1, d2] }
  | _ => none }
def fnExactValidRoomRow : OpenClaim := { program := "ytakljcpneghgnaa", sum := "e93333c4750524888a9b692cc02cf7d4ff852df33d8cfa735f08070cb7f1064b", func := "loop.example/helpersinreach/laws.FnExactValidRoom", spec := "fnExactValidRoom", unfollowed := true, recurses := true, plainKeys := false, apart := false }
def FnExactValidRoomSaid : Prop := fnExactValidRoomRow.holds Try.pinned (OpenSpec.ofChange fnExactValidRoomSpec)

/-- ITS FALSE NEIGHBOUR: 'it returns false'. Refute it at one input. -/
def fnExactValidRoomWrong : ChangeSpec := { name := "fnExactValidRoom", fn := fun _ => fun
  | [d1, d2] => { results := [.lit (.bool false)], args := [d1, d2] }
  | _ => none }
def FnExactValidRoomWrongFalsely : Prop := fnExactValidRoomRow.holds Try.pinned (OpenSpec.ofChange fnExactValidRoomWrong)

/-- 'laws.FnExactMostTaken': WHATEVER THE INPUT: true; the input reads as it did. -/
def fnExactMostTakenSpec : ChangeSpec := { name := "fnExactMostTaken", fn := fun _ => fun
  | [d1, d2] => { results := [.lit (.bool true)], args := [d1, d2] }
  | _ => none }
def fnExactMostTakenRow : OpenClaim := { program := "ytakljcpneghgnaa", sum := "e93333c4750524888a9b692cc02cf7d4ff852df33d8cfa735f08070cb7f1064b", func := "loop.example/helpersinreach/laws.FnExactMostTaken", spec := "fnExactMostTaken", unfollowed := true, recurses := true, plainKeys := false, apart := false }
def FnExactMostTakenSaid : Prop := fnExactMostTakenRow.holds Try.pinned (OpenSpec.ofChange fnExactMostTakenSpec)

/-- ITS FALSE NEIGHBOUR: 'it returns false'. Refute it at one input. -/
def fnExactMostTakenWrong : ChangeSpec := { name := "fnExactMostTaken", fn := fun _ => fun
  | [d1, d2] => { results := [.lit (.bool false)], args := [d1, d2] }
  | _ => none }
def FnExactMostTakenWrongFalsely : Prop := fnExactMostTakenRow.holds Try.pinned (OpenSpec.ofChange fnExactMostTakenWrong)

/-- 'laws.FnExactLeastBlock': WHATEVER THE INPUT: true; the input reads as it did. -/
def fnExactLeastBlockSpec : ChangeSpec := { name := "fnExactLeastBlock", fn := fun _ => fun
  | [d1, d2] => { results := [.lit (.bool true)], args := [d1, d2] }
  | _ => none }
def fnExactLeastBlockRow : OpenClaim := { program := "ytakljcpneghgnaa", sum := "e93333c4750524888a9b692cc02cf7d4ff852df33d8cfa735f08070cb7f1064b", func := "loop.example/helpersinreach/laws.FnExactLeastBlock", spec := "fnExactLeastBlock", unfollowed := true, recurses := true, plainKeys := false, apart := false }
def FnExactLeastBlockSaid : Prop := fnExactLeastBlockRow.holds Try.pinned (OpenSpec.ofChange fnExactLeastBlockSpec)

/-- ITS FALSE NEIGHBOUR: 'it returns false'. Refute it at one input. -/
def fnExactLeastBlockWrong : ChangeSpec := { name := "fnExactLeastBlock", fn := fun _ => fun
  | [d1, d2] => { results := [.lit (.bool false)], args := [d1, d2] }
  | _ => none }
def FnExactLeastBlockWrongFalsely : Prop := fnExactLeastBlockRow.holds Try.pinned (OpenSpec.ofChange fnExactLeastBlockWrong)

/-- 'laws.FnExactValidCosts': WHATEVER THE INPUT: true; the input reads as it did. -/
def fnExactValidCostsSpec : ChangeSpec := { name := "fnExactValidCosts", fn := fun _ => fun
  | [d] => { results := [.lit (.bool true)], args := [d] }
  | _ => none }
def fnExactValidCostsRow : OpenClaim := { program := "ytakljcpneghgnaa", sum := "e93333c4750524888a9b692cc02cf7d4ff852df33d8cfa735f08070cb7f1064b", func := "loop.example/helpersinreach/laws.FnExactValidCosts", spec := "fnExactValidCosts", unfollowed := true, recurses := true, plainKeys := false, apart := false }
def FnExactValidCostsSaid : Prop := fnExactValidCostsRow.holds Try.pinned (OpenSpec.ofChange fnExactValidCostsSpec)

/-- ITS FALSE NEIGHBOUR: 'it returns false'. Refute it at one input. -/
def fnExactValidCostsWrong : ChangeSpec := { name := "fnExactValidCosts", fn := fun _ => fun
  | [d] => { results := [.lit (.bool false)], args := [d] }
  | _ => none }
def FnExactValidCostsWrongFalsely : Prop := fnExactValidCostsRow.holds Try.pinned (OpenSpec.ofChange fnExactValidCostsWrong)

/-- 'laws.FnExactLeastCost': WHATEVER THE INPUT: true; the input reads as it did. -/
def fnExactLeastCostSpec : ChangeSpec := { name := "fnExactLeastCost", fn := fun _ => fun
  | [d] => { results := [.lit (.bool true)], args := [d] }
  | _ => none }
def fnExactLeastCostRow : OpenClaim := { program := "ytakljcpneghgnaa", sum := "e93333c4750524888a9b692cc02cf7d4ff852df33d8cfa735f08070cb7f1064b", func := "loop.example/helpersinreach/laws.FnExactLeastCost", spec := "fnExactLeastCost", unfollowed := true, recurses := true, plainKeys := false, apart := false }
def FnExactLeastCostSaid : Prop := fnExactLeastCostRow.holds Try.pinned (OpenSpec.ofChange fnExactLeastCostSpec)

/-- ITS FALSE NEIGHBOUR: 'it returns false'. Refute it at one input. -/
def fnExactLeastCostWrong : ChangeSpec := { name := "fnExactLeastCost", fn := fun _ => fun
  | [d] => { results := [.lit (.bool false)], args := [d] }
  | _ => none }
def FnExactLeastCostWrongFalsely : Prop := fnExactLeastCostRow.holds Try.pinned (OpenSpec.ofChange fnExactLeastCostWrong)

/-- 'laws.FnExactCostTried': WHATEVER THE INPUT: true; the input reads as it did. -/
def fnExactCostTriedSpec : ChangeSpec := { name := "fnExactCostTried", fn := fun _ => fun
  | [d] => { results := [.lit (.bool true)], args := [d] }
  | _ => none }
def fnExactCostTriedRow : OpenClaim := { program := "ytakljcpneghgnaa", sum := "e93333c4750524888a9b692cc02cf7d4ff852df33d8cfa735f08070cb7f1064b", func := "loop.example/helpersinreach/laws.FnExactCostTried", spec := "fnExactCostTried", unfollowed := true, recurses := true, plainKeys := false, apart := false }
def FnExactCostTriedSaid : Prop := fnExactCostTriedRow.holds Try.pinned (OpenSpec.ofChange fnExactCostTriedSpec)

/-- ITS FALSE NEIGHBOUR: 'it returns false'. Refute it at one input. -/
def fnExactCostTriedWrong : ChangeSpec := { name := "fnExactCostTried", fn := fun _ => fun
  | [d] => { results := [.lit (.bool false)], args := [d] }
  | _ => none }
def FnExactCostTriedWrongFalsely : Prop := fnExactCostTriedRow.holds Try.pinned (OpenSpec.ofChange fnExactCostTriedWrong)

/- THE SECOND FORM. 'bulk': how many values and letters a reading holds, each counted each time it is reached (what is shared counts as often as it is met; a slice's spare places count too). A statement '..UptoSaid' is the law's where the arguments, and the package variables that the reading takes, are together of bulk at most 1048576: NARROWER than '..Said'. Prove '..Said' where nothing that the law and all that it calls make is longer than what came in: it says more and counts as full. Else prove '..UptoSaid'. A law counts once. -/
mutual
def uptoBulk {H : Type} : DataW H → Nat
  | .lit (.string bytes) => bytes.length + 1
  | .lit _ => 1
  | .nil => 1
  | .ptr d => uptoBulk d + 1
  | .slice elems spare => uptoBulkAll elems + uptoBulkAll spare + 1
  | .agg parts => uptoBulkAll parts + 1
  | .iface _ d => uptoBulk d + 1
  | .map entries => uptoBulkEntries entries + 1
  | .held _ => 1
def uptoBulkAll {H : Type} : List (DataW H) → Nat
  | [] => 0
  | d :: r => uptoBulk d + uptoBulkAll r
def uptoBulkEntries {H : Type} : List (Lit × DataW H) → Nat
  | [] => 0
  | x :: r => uptoBulkEntry x + uptoBulkEntries r
def uptoBulkEntry {H : Type} : Lit × DataW H → Nat
  | (.string bytes, d) => bytes.length + uptoBulk d + 1
  | (_, d) => uptoBulk d + 1
 end
def uptoSmall : (H : Type) → List (DataW H) → Bool := fun _ ds => decide (uptoBulkAll ds ≤ 1048576)
def OpenSpec.upto (s : _root_.Go.ChangeSpec) : _root_.Go.OpenSpec := { _root_.Go.OpenSpec.ofChange s with cond := some uptoSmall }

/-- 'laws.FnValidRoom', WHERE WHAT IT READS IS OF BULK AT MOST 1048576: true; the input reads as it did. -/
def fnValidRoomUptoRow : OpenClaim := { program := "ytakljcpneghgnaa", sum := "e93333c4750524888a9b692cc02cf7d4ff852df33d8cfa735f08070cb7f1064b", func := "loop.example/helpersinreach/laws.FnValidRoom", spec := "fnValidRoom", unfollowed := true, recurses := true, plainKeys := false, apart := false, narrowed := true }
def FnValidRoomUptoSaid : Prop := fnValidRoomUptoRow.holds Try.pinned (OpenSpec.upto fnValidRoomSpec)

/-- 'laws.FnMostTaken', WHERE WHAT IT READS IS OF BULK AT MOST 1048576: true; the input reads as it did. -/
def fnMostTakenUptoRow : OpenClaim := { program := "ytakljcpneghgnaa", sum := "e93333c4750524888a9b692cc02cf7d4ff852df33d8cfa735f08070cb7f1064b", func := "loop.example/helpersinreach/laws.FnMostTaken", spec := "fnMostTaken", unfollowed := true, recurses := true, plainKeys := false, apart := false, narrowed := true }
def FnMostTakenUptoSaid : Prop := fnMostTakenUptoRow.holds Try.pinned (OpenSpec.upto fnMostTakenSpec)

/-- 'laws.FnLeastBlock', WHERE WHAT IT READS IS OF BULK AT MOST 1048576: true; the input reads as it did. -/
def fnLeastBlockUptoRow : OpenClaim := { program := "ytakljcpneghgnaa", sum := "e93333c4750524888a9b692cc02cf7d4ff852df33d8cfa735f08070cb7f1064b", func := "loop.example/helpersinreach/laws.FnLeastBlock", spec := "fnLeastBlock", unfollowed := true, recurses := true, plainKeys := false, apart := false, narrowed := true }
def FnLeastBlockUptoSaid : Prop := fnLeastBlockUptoRow.holds Try.pinned (OpenSpec.upto fnLeastBlockSpec)

/-- 'laws.FnValidCosts', WHERE WHAT IT READS IS OF BULK AT MOST 1048576: true; the input reads as it did. -/
def fnValidCostsUptoRow : OpenClaim := { program := "ytakljcpneghgnaa", sum := "e93333c4750524888a9b692cc02cf7d4ff852df33d8cfa735f08070cb7f1064b", func := "loop.example/helpersinreach/laws.FnValidCosts", spec := "fnValidCosts", unfollowed := true, recurses := true, plainKeys := false, apart := false, narrowed := true }
def FnValidCostsUptoSaid : Prop := fnValidCostsUptoRow.holds Try.pinned (OpenSpec.upto fnValidCostsSpec)

/-- 'laws.FnLeastCost', WHERE WHAT IT READS IS OF BULK AT MOST 1048576: true; the input reads as it did. -/
def fnLeastCostUptoRow : OpenClaim := { program := "ytakljcpneghgnaa", sum := "e93333c4750524888a9b692cc02cf7d4ff852df33d8cfa735f08070cb7f1064b", func := "loop.example/helpersinreach/laws.FnLeastCost", spec := "fnLeastCost", unfollowed := true, recurses := true, plainKeys := false, apart := false, narrowed := true }
def FnLeastCostUptoSaid : Prop := fnLeastCostUptoRow.holds Try.pinned (OpenSpec.upto fnLeastCostSpec)

/-- 'laws.FnCostTried', WHERE WHAT IT READS IS OF BULK AT MOST 1048576: true; the input reads as it did. -/
def fnCostTriedUptoRow : OpenClaim := { program := "ytakljcpneghgnaa", sum := "e93333c4750524888a9b692cc02cf7d4ff852df33d8cfa735f08070cb7f1064b", func := "loop.example/helpersinreach/laws.FnCostTried", spec := "fnCostTried", unfollowed := true, recurses := true, plainKeys := false, apart := false, narrowed := true }
def FnCostTriedUptoSaid : Prop := fnCostTriedUptoRow.holds Try.pinned (OpenSpec.upto fnCostTriedSpec)

/-- 'laws.FnRoomForAll', WHERE WHAT IT READS IS OF BULK AT MOST 1048576: true; the input reads as it did. -/
def fnRoomForAllUptoRow : OpenClaim := { program := "ytakljcpneghgnaa", sum := "e93333c4750524888a9b692cc02cf7d4ff852df33d8cfa735f08070cb7f1064b", func := "loop.example/helpersinreach/laws.FnRoomForAll", spec := "fnRoomForAll", unfollowed := true, recurses := true, plainKeys := false, apart := false, narrowed := true }
def FnRoomForAllUptoSaid : Prop := fnRoomForAllUptoRow.holds Try.pinned (OpenSpec.upto fnRoomForAllSpec)

/-- 'laws.FnCostsMore', WHERE WHAT IT READS IS OF BULK AT MOST 1048576: true; the input reads as it did. -/
def fnCostsMoreUptoRow : OpenClaim := { program := "ytakljcpneghgnaa", sum := "e93333c4750524888a9b692cc02cf7d4ff852df33d8cfa735f08070cb7f1064b", func := "loop.example/helpersinreach/laws.FnCostsMore", spec := "fnCostsMore", unfollowed := true, recurses := true, plainKeys := false, apart := false, narrowed := true }
def FnCostsMoreUptoSaid : Prop := fnCostsMoreUptoRow.holds Try.pinned (OpenSpec.upto fnCostsMoreSpec)

/-- 'laws.FnExactValidRoom', WHERE WHAT IT READS IS OF BULK AT MOST 1048576: true; the input reads as it did. -/
def fnExactValidRoomUptoRow : OpenClaim := { program := "ytakljcpneghgnaa", sum := "e93333c4750524888a9b692cc02cf7d4ff852df33d8cfa735f08070cb7f1064b", func := "loop.example/helpersinreach/laws.FnExactValidRoom", spec := "fnExactValidRoom", unfollowed := true, recurses := true, plainKeys := false, apart := false, narrowed := true }
def FnExactValidRoomUptoSaid : Prop := fnExactValidRoomUptoRow.holds Try.pinned (OpenSpec.upto fnExactValidRoomSpec)

/-- 'laws.FnExactMostTaken', WHERE WHAT IT READS IS OF BULK AT MOST 1048576: true; the input reads as it did. -/
def fnExactMostTakenUptoRow : OpenClaim := { program := "ytakljcpneghgnaa", sum := "e93333c4750524888a9b692cc02cf7d4ff852df33d8cfa735f08070cb7f1064b", func := "loop.example/helpersinreach/laws.FnExactMostTaken", spec := "fnExactMostTaken", unfollowed := true, recurses := true, plainKeys := false, apart := false, narrowed := true }
def FnExactMostTakenUptoSaid : Prop := fnExactMostTakenUptoRow.holds Try.pinned (OpenSpec.upto fnExactMostTakenSpec)

/-- 'laws.FnExactLeastBlock', WHERE WHAT IT READS IS OF BULK AT MOST 1048576: true; the input reads as it did. -/
def fnExactLeastBlockUptoRow : OpenClaim := { program := "ytakljcpneghgnaa", sum := "e93333c4750524888a9b692cc02cf7d4ff852df33d8cfa735f08070cb7f1064b", func := "loop.example/helpersinreach/laws.FnExactLeastBlock", spec := "fnExactLeastBlock", unfollowed := true, recurses := true, plainKeys := false, apart := false, narrowed := true }
def FnExactLeastBlockUptoSaid : Prop := fnExactLeastBlockUptoRow.holds Try.pinned (OpenSpec.upto fnExactLeastBlockSpec)

/-- 'laws.FnExactValidCosts', WHERE WHAT IT READS IS OF BULK AT MOST 1048576: true; the input reads as it did. -/
def fnExactValidCostsUptoRow : OpenClaim := { program := "ytakljcpneghgnaa", sum := "e93333c4750524888a9b692cc02cf7d4ff852df33d8cfa735f08070cb7f1064b", func := "loop.example/helpersinreach/laws.FnExactValidCosts", spec := "fnExactValidCosts", unfollowed := true, recurses := true, plainKeys := false, apart := false, narrowed := true }
def FnExactValidCostsUptoSaid : Prop := fnExactValidCostsUptoRow.holds Try.pinned (OpenSpec.upto fnExactValidCostsSpec)

/-- 'laws.FnExactLeastCost', WHERE WHAT IT READS IS OF BULK AT MOST 1048576: true; the input reads as it did. -/
def fnExactLeastCostUptoRow : OpenClaim := { program := "ytakljcpneghgnaa", sum := "e93333c4750524888a9b692cc02cf7d4ff852df33d8cfa735f08070cb7f1064b", func := "loop.example/helpersinreach/laws.FnExactLeastCost", spec := "fnExactLeastCost", unfollowed := true, recurses := true, plainKeys := false, apart := false, narrowed := true }
def FnExactLeastCostUptoSaid : Prop := fnExactLeastCostUptoRow.holds Try.pinned (OpenSpec.upto fnExactLeastCostSpec)

/-- 'laws.FnExactCostTried', WHERE WHAT IT READS IS OF BULK AT MOST 1048576: true; the input reads as it did. -/
def fnExactCostTriedUptoRow : OpenClaim := { program := "ytakljcpneghgnaa", sum := "e93333c4750524888a9b692cc02cf7d4ff852df33d8cfa735f08070cb7f1064b", func := "loop.example/helpersinreach/laws.FnExactCostTried", spec := "fnExactCostTried", unfollowed := true, recurses := true, plainKeys := false, apart := false, narrowed := true }
def FnExactCostTriedUptoSaid : Prop := fnExactCostTriedUptoRow.holds Try.pinned (OpenSpec.upto fnExactCostTriedSpec)

end Rows
end Go.Proofs.Ytakljcpneghgnaa
