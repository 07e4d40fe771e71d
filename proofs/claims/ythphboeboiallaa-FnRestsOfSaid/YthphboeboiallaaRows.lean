/-
  No cell of these rows narrows 'for every input' (looked for: loops, veiled, ifaces, maps, wideKeys, modest, calm, conditions, laid).
  DERIVED. THE GIVEN ROWS OF THIS SEAT. 12 by the template 'for every input the law returns true; each argument reads behind the call as it read before'; 0 by the template 'total and deterministic' (their statements: YthphboeboiallaaTotals.lean).
  GIVEN WITH THE SEED: the statements are not yours to turn. If you find one false, say at which input.
  Laid BY PROGRAM, IN A SANDBOX (cutbox-rows.mjs): the forced cells as the released guide's own fill.sh prints them over the translation 0547ad65480ecee1… (all of the seat's roots in one cut). By AI agents, Wed Nov 11 2026. No macro, syntax, notation, axiom, sorry.
-/
import Derived.Test.YthphboeboiallaaChecked
import GoSem.Claim
import GoSem.ClaimJoined
import GoSem.ClaimMapViews
import Derived.JoinedTies
import Derived.KernelRfl
namespace Go.Proofs.Ythphboeboiallaa
/- THE CELL 'sum', in the pinned program and in every row, IS THE sha256 OF THE DUMP (.gsa) THAT YthphboeboiallaaProg.lean LOADS. Nothing in Lean hashes anything: it is a label: what it is worth is what the hold of that sum in a sandbox is worth. -/
noncomputable def Try.pinned : Pinned := { name := "ythphboeboiallaa", sum := "0547ad65480ecee15b2e5df3e937f822af7e7b0020e1daaa16569291b36633bc", checked := Try.checked }
namespace Rows
def none {H : Type} : Left H := { results := [], args := [] }

/-- 'laws.FnValidShops': WHATEVER THE INPUT: true; the input reads as it did. -/
def fnValidShopsSpec : ChangeSpec := { name := "fnValidShops", fn := fun _ => fun
  | [d] => { results := [.lit (.bool true)], args := [d] }
  | _ => none }
def fnValidShopsRow : OpenClaim := { program := "ythphboeboiallaa", sum := "0547ad65480ecee15b2e5df3e937f822af7e7b0020e1daaa16569291b36633bc", func := "loop.example/helpersinreach/laws.FnValidShops", spec := "fnValidShops", apart := false }
def FnValidShopsSaid : Prop := fnValidShopsRow.holds Try.pinned (OpenSpec.ofChange fnValidShopsSpec)

/-- ITS FALSE NEIGHBOUR: 'it returns false'. Refute it at one input. -/
def fnValidShopsWrong : ChangeSpec := { name := "fnValidShops", fn := fun _ => fun
  | [d] => { results := [.lit (.bool false)], args := [d] }
  | _ => none }
def FnValidShopsWrongFalsely : Prop := fnValidShopsRow.holds Try.pinned (OpenSpec.ofChange fnValidShopsWrong)

/-- 'laws.FnSharesOf': WHATEVER THE INPUT: true; the input reads as it did. -/
def fnSharesOfSpec : ChangeSpec := { name := "fnSharesOf", fn := fun _ => fun
  | [d] => { results := [.lit (.bool true)], args := [d] }
  | _ => none }
def fnSharesOfRow : OpenClaim := { program := "ythphboeboiallaa", sum := "0547ad65480ecee15b2e5df3e937f822af7e7b0020e1daaa16569291b36633bc", func := "loop.example/helpersinreach/laws.FnSharesOf", spec := "fnSharesOf", apart := false }
def FnSharesOfSaid : Prop := fnSharesOfRow.holds Try.pinned (OpenSpec.ofChange fnSharesOfSpec)

/-- ITS FALSE NEIGHBOUR: 'it returns false'. Refute it at one input. -/
def fnSharesOfWrong : ChangeSpec := { name := "fnSharesOf", fn := fun _ => fun
  | [d] => { results := [.lit (.bool false)], args := [d] }
  | _ => none }
def FnSharesOfWrongFalsely : Prop := fnSharesOfRow.holds Try.pinned (OpenSpec.ofChange fnSharesOfWrong)

/-- 'laws.FnBestPlace': WHATEVER THE INPUT: true; the input reads as it did. -/
def fnBestPlaceSpec : ChangeSpec := { name := "fnBestPlace", fn := fun _ => fun
  | [d] => { results := [.lit (.bool true)], args := [d] }
  | _ => none }
def fnBestPlaceRow : OpenClaim := { program := "ythphboeboiallaa", sum := "0547ad65480ecee15b2e5df3e937f822af7e7b0020e1daaa16569291b36633bc", func := "loop.example/helpersinreach/laws.FnBestPlace", spec := "fnBestPlace", inPlace := ["slices.overlaps[int]"], apart := false }
def FnBestPlaceSaid : Prop := fnBestPlaceRow.holds Try.pinned (OpenSpec.ofChange fnBestPlaceSpec)

/-- ITS FALSE NEIGHBOUR: 'it returns false'. Refute it at one input. -/
def fnBestPlaceWrong : ChangeSpec := { name := "fnBestPlace", fn := fun _ => fun
  | [d] => { results := [.lit (.bool false)], args := [d] }
  | _ => none }
def FnBestPlaceWrongFalsely : Prop := fnBestPlaceRow.holds Try.pinned (OpenSpec.ofChange fnBestPlaceWrong)

/-- 'laws.FnIsRest': WHATEVER THE INPUT: true; the input reads as it did. -/
def fnIsRestSpec : ChangeSpec := { name := "fnIsRest", fn := fun _ => fun
  | [d] => { results := [.lit (.bool true)], args := [d] }
  | _ => none }
def fnIsRestRow : OpenClaim := { program := "ythphboeboiallaa", sum := "0547ad65480ecee15b2e5df3e937f822af7e7b0020e1daaa16569291b36633bc", func := "loop.example/helpersinreach/laws.FnIsRest", spec := "fnIsRest", inPlace := ["slices.overlaps[int]"], apart := false }
def FnIsRestSaid : Prop := fnIsRestRow.holds Try.pinned (OpenSpec.ofChange fnIsRestSpec)

/-- ITS FALSE NEIGHBOUR: 'it returns false'. Refute it at one input. -/
def fnIsRestWrong : ChangeSpec := { name := "fnIsRest", fn := fun _ => fun
  | [d] => { results := [.lit (.bool false)], args := [d] }
  | _ => none }
def FnIsRestWrongFalsely : Prop := fnIsRestRow.holds Try.pinned (OpenSpec.ofChange fnIsRestWrong)

/-- 'laws.FnRestsOf': WHATEVER THE INPUT: true; the input reads as it did. -/
def fnRestsOfSpec : ChangeSpec := { name := "fnRestsOf", fn := fun _ => fun
  | [d] => { results := [.lit (.bool true)], args := [d] }
  | _ => none }
def fnRestsOfRow : OpenClaim := { program := "ythphboeboiallaa", sum := "0547ad65480ecee15b2e5df3e937f822af7e7b0020e1daaa16569291b36633bc", func := "loop.example/helpersinreach/laws.FnRestsOf", spec := "fnRestsOf", inPlace := ["slices.overlaps[int]"], unfollowed := true, recurses := true, apart := false }
def FnRestsOfSaid : Prop := fnRestsOfRow.holds Try.pinned (OpenSpec.ofChange fnRestsOfSpec)

/-- ITS FALSE NEIGHBOUR: 'it returns false'. Refute it at one input. -/
def fnRestsOfWrong : ChangeSpec := { name := "fnRestsOf", fn := fun _ => fun
  | [d] => { results := [.lit (.bool false)], args := [d] }
  | _ => none }
def FnRestsOfWrongFalsely : Prop := fnRestsOfRow.holds Try.pinned (OpenSpec.ofChange fnRestsOfWrong)

/-- 'laws.FnShopsAlone': WHATEVER THE INPUT: true; the input reads as it did. -/
def fnShopsAloneSpec : ChangeSpec := { name := "fnShopsAlone", fn := fun _ => fun
  | [d] => { results := [.lit (.bool true)], args := [d] }
  | _ => none }
def fnShopsAloneRow : OpenClaim := { program := "ythphboeboiallaa", sum := "0547ad65480ecee15b2e5df3e937f822af7e7b0020e1daaa16569291b36633bc", func := "loop.example/helpersinreach/laws.FnShopsAlone", spec := "fnShopsAlone", apart := false }
def FnShopsAloneSaid : Prop := fnShopsAloneRow.holds Try.pinned (OpenSpec.ofChange fnShopsAloneSpec)

/-- ITS FALSE NEIGHBOUR: 'it returns false'. Refute it at one input. -/
def fnShopsAloneWrong : ChangeSpec := { name := "fnShopsAlone", fn := fun _ => fun
  | [d] => { results := [.lit (.bool false)], args := [d] }
  | _ => none }
def FnShopsAloneWrongFalsely : Prop := fnShopsAloneRow.holds Try.pinned (OpenSpec.ofChange fnShopsAloneWrong)

/-- 'laws.FnShopsThree': WHATEVER THE INPUT: true; the input reads as it did. -/
def fnShopsThreeSpec : ChangeSpec := { name := "fnShopsThree", fn := fun _ => fun
  | [d] => { results := [.lit (.bool true)], args := [d] }
  | _ => none }
def fnShopsThreeRow : OpenClaim := { program := "ythphboeboiallaa", sum := "0547ad65480ecee15b2e5df3e937f822af7e7b0020e1daaa16569291b36633bc", func := "loop.example/helpersinreach/laws.FnShopsThree", spec := "fnShopsThree", inPlace := ["slices.overlaps[int]"], unfollowed := true, recurses := true, apart := false }
def FnShopsThreeSaid : Prop := fnShopsThreeRow.holds Try.pinned (OpenSpec.ofChange fnShopsThreeSpec)

/-- ITS FALSE NEIGHBOUR: 'it returns false'. Refute it at one input. -/
def fnShopsThreeWrong : ChangeSpec := { name := "fnShopsThree", fn := fun _ => fun
  | [d] => { results := [.lit (.bool false)], args := [d] }
  | _ => none }
def FnShopsThreeWrongFalsely : Prop := fnShopsThreeRow.holds Try.pinned (OpenSpec.ofChange fnShopsThreeWrong)

/-- 'laws.FnExactValidShops': WHATEVER THE INPUT: true; the input reads as it did. -/
def fnExactValidShopsSpec : ChangeSpec := { name := "fnExactValidShops", fn := fun _ => fun
  | [d1, d2] => { results := [.lit (.bool true)], args := [d1, d2] }
  | _ => none }
def fnExactValidShopsRow : OpenClaim := { program := "ythphboeboiallaa", sum := "0547ad65480ecee15b2e5df3e937f822af7e7b0020e1daaa16569291b36633bc", func := "loop.example/helpersinreach/laws.FnExactValidShops", spec := "fnExactValidShops", apart := false }
def FnExactValidShopsSaid : Prop := fnExactValidShopsRow.holds Try.pinned (OpenSpec.ofChange fnExactValidShopsSpec)

/-- ITS FALSE NEIGHBOUR: 'it returns false'. Refute it at one input. -/
def fnExactValidShopsWrong : ChangeSpec := { name := "fnExactValidShops", fn := fun _ => fun
  | [d1, d2] => { results := [.lit (.bool false)], args := [d1, d2] }
  | _ => none }
def FnExactValidShopsWrongFalsely : Prop := fnExactValidShopsRow.holds Try.pinned (OpenSpec.ofChange fnExactValidShopsWrong)

/-- 'laws.FnExactSharesOf': WHATEVER THE INPUT: true; the input reads as it did. -/
def fnExactSharesOfSpec : ChangeSpec := { name := "fnExactSharesOf", fn := fun _ => fun
  | [d1, d2] => { results := [.lit (.bool true)], args := [d1, d2] }
  | _ => none }
def fnExactSharesOfRow : OpenClaim := { program := "ythphboeboiallaa", sum := "0547ad65480ecee15b2e5df3e937f822af7e7b0020e1daaa16569291b36633bc", func := "loop.example/helpersinreach/laws.FnExactSharesOf", spec := "fnExactSharesOf", apart := false }
def FnExactSharesOfSaid : Prop := fnExactSharesOfRow.holds Try.pinned (OpenSpec.ofChange fnExactSharesOfSpec)

/-- ITS FALSE NEIGHBOUR: 'it returns false'. Refute it at one input. -/
def fnExactSharesOfWrong : ChangeSpec := { name := "fnExactSharesOf", fn := fun _ => fun
  | [d1, d2] => { results := [.lit (.bool false)], args := [d1, d2] }
  | _ => none }
def FnExactSharesOfWrongFalsely : Prop := fnExactSharesOfRow.holds Try.pinned (OpenSpec.ofChange fnExactSharesOfWrong)

/-- 'laws.FnExactBestPlace': WHATEVER THE INPUT: true; the input reads as it did. -/
def fnExactBestPlaceSpec : ChangeSpec := { name := "fnExactBestPlace", fn := fun _ => fun
  | [d1, d2] => { results := [.lit (.bool true)], args := [d1, d2] }
  | _ => none }
def fnExactBestPlaceRow : OpenClaim := { program := "ythphboeboiallaa", sum := "0547ad65480ecee15b2e5df3e937f822af7e7b0020e1daaa16569291b36633bc", func := "loop.example/helpersinreach/laws.FnExactBestPlace", spec := "fnExactBestPlace", inPlace := ["slices.overlaps[int]"], apart := false }
def FnExactBestPlaceSaid : Prop := fnExactBestPlaceRow.holds Try.pinned (OpenSpec.ofChange fnExactBestPlaceSpec)

/-- ITS FALSE NEIGHBOUR: 'it returns false'. Refute it at one input. -/
def fnExactBestPlaceWrong : ChangeSpec := { name := "fnExactBestPlace", fn := fun _ => fun
  | [d1, d2] => { results := [.lit (.bool false)], args := [d1, d2] }
  | _ => none }
def FnExactBestPlaceWrongFalsely : Prop := fnExactBestPlaceRow.holds Try.pinned (OpenSpec.ofChange fnExactBestPlaceWrong)

/-- 'laws.FnExactIsRest': WHATEVER THE INPUT: true; the input reads as it did. -/
def fnExactIsRestSpec : ChangeSpec := { name := "fnExactIsRest", fn := fun _ => fun
  | [d1, d2] => { results := [.lit (.bool true)], args := [d1, d2] }
  | _ => none }
def fnExactIsRestRow : OpenClaim := { program := "ythphboeboiallaa", sum := "0547ad65480ecee15b2e5df3e937f822af7e7b0020e1daaa16569291b36633bc", func := "loop.example/helpersinreach/laws.FnExactIsRest", spec := "fnExactIsRest", inPlace := ["slices.overlaps[int]"], apart := false }
def FnExactIsRestSaid : Prop := fnExactIsRestRow.holds Try.pinned (OpenSpec.ofChange fnExactIsRestSpec)

/-- ITS FALSE NEIGHBOUR: 'it returns false'. Refute it at one input. -/
def fnExactIsRestWrong : ChangeSpec := { name := "fnExactIsRest", fn := fun _ => fun
  | [d1, d2] => { results := [.lit (.bool false)], args := [d1, d2] }
  | _ => none }
def FnExactIsRestWrongFalsely : Prop := fnExactIsRestRow.holds Try.pinned (OpenSpec.ofChange fnExactIsRestWrong)

/-- 'laws.FnExactRestsOf': WHATEVER THE INPUT: true; the input reads as it did. -/
def fnExactRestsOfSpec : ChangeSpec := { name := "fnExactRestsOf", fn := fun _ => fun
  | [d1, d2] => { results := [.lit (.bool true)], args := [d1, d2] }
  | _ => none }
def fnExactRestsOfRow : OpenClaim := { program := "ythphboeboiallaa", sum := "0547ad65480ecee15b2e5df3e937f822af7e7b0020e1daaa16569291b36633bc", func := "loop.example/helpersinreach/laws.FnExactRestsOf", spec := "fnExactRestsOf", inPlace := ["slices.overlaps[int]"], unfollowed := true, recurses := true, apart := false }
def FnExactRestsOfSaid : Prop := fnExactRestsOfRow.holds Try.pinned (OpenSpec.ofChange fnExactRestsOfSpec)

/-- ITS FALSE NEIGHBOUR: 'it returns false'. Refute it at one input. -/
def fnExactRestsOfWrong : ChangeSpec := { name := "fnExactRestsOf", fn := fun _ => fun
  | [d1, d2] => { results := [.lit (.bool false)], args := [d1, d2] }
  | _ => none }
def FnExactRestsOfWrongFalsely : Prop := fnExactRestsOfRow.holds Try.pinned (OpenSpec.ofChange fnExactRestsOfWrong)

/- THE SECOND FORM. 'bulk': how many values and letters a reading holds, each counted each time it is reached (what is shared counts as often as it is met; a slice's spare places count too). A statement '..UptoSaid' is the law's where the arguments, and the package variables that the reading takes, are together of bulk at most 1048576: NARROWER than '..Said'. Prove '..Said' where nothing that the law and all that it calls make is longer than what came in: it says more and counts as full. Else prove '..UptoSaid'. A law counts once. -/
mutual
def uptoBulk {H : Type} : DataW H → Nat
  | .lit (.string bytes) => bytes.length + 1
  | .lit _ => 1
  | .nil => 1
  | .ptr d => uptoBulk d + 1
  | .slice elems spare => uptoBulkAll elems + uptoBulkAll spare + 1
  | .agg parts => uptoBulkAll parts + 1
  | .iface _ d => uptoBulk d + 1
  | .map entries => uptoBulkEntries entries + 1
  | .held _ => 1
def uptoBulkAll {H : Type} : List (DataW H) → Nat
  | [] => 0
  | d :: r => uptoBulk d + uptoBulkAll r
def uptoBulkEntries {H : Type} : List (Lit × DataW H) → Nat
  | [] => 0
  | x :: r => uptoBulkEntry x + uptoBulkEntries r
def uptoBulkEntry {H : Type} : Lit × DataW H → Nat
  | (.string bytes, d) => bytes.length + uptoBulk d + 1
  | (_, d) => uptoBulk d + 1
 end
def uptoSmall : (H : Type) → List (DataW H) → Bool := fun _ ds => decide (uptoBulkAll ds ≤ 1048576)
def OpenSpec.upto (s : _root_.Go.ChangeSpec) : _root_.Go.OpenSpec := { _root_.Go.OpenSpec.ofChange s with cond := some uptoSmall }

/-- 'laws.FnValidShops', WHERE WHAT IT READS IS OF BULK AT MOST 1048576: true; the input reads as it did. -/
def fnValidShopsUptoRow : OpenClaim := { program := "ythphboeboiallaa", sum := "0547ad65480ecee15b2e5df3e937f822af7e7b0020e1daaa16569291b36633bc", func := "loop.example/helpersinreach/laws.FnValidShops", spec := "fnValidShops", apart := false, narrowed := true }
def FnValidShopsUptoSaid : Prop := fnValidShopsUptoRow.holds Try.pinned (OpenSpec.upto fnValidShopsSpec)

/-- 'laws.FnSharesOf', WHERE WHAT IT READS IS OF BULK AT MOST 1048576: true; the input reads as it did. -/
def fnSharesOfUptoRow : OpenClaim := { program := "ythphboeboiallaa", sum := "0547ad65480ecee15b2e5df3e937f822af7e7b0020e1daaa16569291b36633bc", func := "loop.example/helpersinreach/laws.FnSharesOf", spec := "fnSharesOf", apart := false, narrowed := true }
def FnSharesOfUptoSaid : Prop := fnSharesOfUptoRow.holds Try.pinned (OpenSpec.upto fnSharesOfSpec)

/-- 'laws.FnBestPlace', WHERE WHAT IT READS IS OF BULK AT MOST 1048576: true; the input reads as it did. -/
def fnBestPlaceUptoRow : OpenClaim := { program := "ythphboeboiallaa", sum := "0547ad65480ecee15b2e5df3e937f822af7e7b0020e1daaa16569291b36633bc", func := "loop.example/helpersinreach/laws.FnBestPlace", spec := "fnBestPlace", inPlace := ["slices.overlaps[int]"], apart := false, narrowed := true }
def FnBestPlaceUptoSaid : Prop := fnBestPlaceUptoRow.holds Try.pinned (OpenSpec.upto fnBestPlaceSpec)

/-- 'laws.FnIsRest', WHERE WHAT IT READS IS OF BULK AT MOST 1048576: true; the input reads as it did. -/
def fnIsRestUptoRow : OpenClaim := { program := "ythphboeboiallaa", sum := "0547ad65480ecee15b2e5df3e937f822af7e7b0020e1daaa16569291b36633bc", func := "loop.example/helpersinreach/laws.FnIsRest", spec := "fnIsRest", inPlace := ["slices.overlaps[int]"], apart := false, narrowed := true }
def FnIsRestUptoSaid : Prop := fnIsRestUptoRow.holds Try.pinned (OpenSpec.upto fnIsRestSpec)

/-- 'laws.FnRestsOf', WHERE WHAT IT READS IS OF BULK AT MOST 1048576: true; the input reads as it did. -/
def fnRestsOfUptoRow : OpenClaim := { program := "ythphboeboiallaa", sum := "0547ad65480ecee15b2e5df3e937f822af7e7b0020e1daaa16569291b36633bc", func := "loop.example/helpersinreach/laws.FnRestsOf", spec := "fnRestsOf", inPlace := ["slices.overlaps[int]"], unfollowed := true, recurses := true, apart := false, narrowed := true }
def FnRestsOfUptoSaid : Prop := fnRestsOfUptoRow.holds Try.pinned (OpenSpec.upto fnRestsOfSpec)

/-- 'laws.FnShopsAlone', WHERE WHAT IT READS IS OF BULK AT MOST 1048576: true; the input reads as it did. -/
def fnShopsAloneUptoRow : OpenClaim := { program := "ythphboeboiallaa", sum := "0547ad65480ecee15b2e5df3e937f822af7e7b0020e1daaa16569291b36633bc", func := "loop.example/helpersinreach/laws.FnShopsAlone", spec := "fnShopsAlone", apart := false, narrowed := true }
def FnShopsAloneUptoSaid : Prop := fnShopsAloneUptoRow.holds Try.pinned (OpenSpec.upto fnShopsAloneSpec)

/-- 'laws.FnShopsThree', WHERE WHAT IT READS IS OF BULK AT MOST 1048576: true; the input reads as it did. -/
def fnShopsThreeUptoRow : OpenClaim := { program := "ythphboeboiallaa", sum := "0547ad65480ecee15b2e5df3e937f822af7e7b0020e1daaa16569291b36633bc", func := "loop.example/helpersinreach/laws.FnShopsThree", spec := "fnShopsThree", inPlace := ["slices.overlaps[int]"], unfollowed := true, recurses := true, apart := false, narrowed := true }
def FnShopsThreeUptoSaid : Prop := fnShopsThreeUptoRow.holds Try.pinned (OpenSpec.upto fnShopsThreeSpec)

/-- 'laws.FnExactValidShops', WHERE WHAT IT READS IS OF BULK AT MOST 1048576: true; the input reads as it did. -/
def fnExactValidShopsUptoRow : OpenClaim := { program := "ythphboeboiallaa", sum := "0547ad65480ecee15b2e5df3e937f822af7e7b0020e1daaa16569291b36633bc", func := "loop.example/helpersinreach/laws.FnExactValidShops", spec := "fnExactValidShops", apart := false, narrowed := true }
def FnExactValidShopsUptoSaid : Prop := fnExactValidShopsUptoRow.holds Try.pinned (OpenSpec.upto fnExactValidShopsSpec)

/-- 'laws.FnExactSharesOf', WHERE WHAT IT READS IS OF BULK AT MOST 1048576: true; the input reads as it did. -/
def fnExactSharesOfUptoRow : OpenClaim := { program := "ythphboeboiallaa", sum := "0547ad65480ecee15b2e5df3e937f822af7e7b0020e1daaa16569291b36633bc", func := "loop.example/helpersinreach/laws.FnExactSharesOf", spec := "fnExactSharesOf", apart := false, narrowed := true }
def FnExactSharesOfUptoSaid : Prop := fnExactSharesOfUptoRow.holds Try.pinned (OpenSpec.upto fnExactSharesOfSpec)

/-- 'laws.FnExactBestPlace', WHERE WHAT IT READS IS OF BULK AT MOST 1048576: true; the input reads as it did. -/
def fnExactBestPlaceUptoRow : OpenClaim := { program := "ythphboeboiallaa", sum := "0547ad65480ecee15b2e5df3e937f822af7e7b0020e1daaa16569291b36633bc", func := "loop.example/helpersinreach/laws.FnExactBestPlace", spec := "fnExactBestPlace", inPlace := ["slices.overlaps[int]"], apart := false, narrowed := true }
def FnExactBestPlaceUptoSaid : Prop := fnExactBestPlaceUptoRow.holds Try.pinned (OpenSpec.upto fnExactBestPlaceSpec)

/-- 'laws.FnExactIsRest', WHERE WHAT IT READS IS OF BULK AT MOST 1048576: true; the input reads as it did. -/
def fnExactIsRestUptoRow : OpenClaim := { program := "ythphboeboiallaa", sum := "0547ad65480ecee15b2e5df3e937f822af7e7b0020e1daaa16569291b36633bc", func := "loop.example/helpersinreach/laws.FnExactIsRest", spec := "fnExactIsRest", inPlace := ["slices.overlaps[int]"], apart := false, narrowed := true }
def FnExactIsRestUptoSaid : Prop := fnExactIsRestUptoRow.holds Try.pinned (OpenSpec.upto fnExactIsRestSpec)

/-- 'laws.FnExactRestsOf', WHERE WHAT IT READS IS OF BULK AT MOST 1048576: true; the input reads as it did. -/
def fnExactRestsOfUptoRow : OpenClaim := { program := "ythphboeboiallaa", sum := "0547ad65480ecee15b2e5df3e937f822af7e7b0020e1daaa16569291b36633bc", func := "loop.example/helpersinreach/laws.FnExactRestsOf", spec := "fnExactRestsOf", inPlace := ["slices.overlaps[int]"], unfollowed := true, recurses := true, apart := false, narrowed := true }
def FnExactRestsOfUptoSaid : Prop := fnExactRestsOfUptoRow.holds Try.pinned (OpenSpec.upto fnExactRestsOfSpec)

end Rows
end Go.Proofs.Ythphboeboiallaa
