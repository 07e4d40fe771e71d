/-
  No cell of these rows narrows 'for every input' (looked for: loops, veiled, ifaces, maps, wideKeys, modest, calm, conditions, laid).
  DERIVED. THE GIVEN ROWS OF THIS SEAT. 13 by the template 'for every input the law returns true; each argument reads behind the call as it read before'; 0 by the template 'total and deterministic' (their statements: YtkgomgfhhhdnjaaTotals.lean).
  GIVEN WITH THE SEED: the statements are not yours to turn. If you find one false, say at which input.
  Laid BY PROGRAM, IN A SANDBOX (cutbox-rows.mjs): the forced cells as the released guide's own fill.sh prints them over the translation 6a5373512fa7a0b8… (all of the seat's roots in one cut). By AI agents, Wed Nov 11 2026. No macro, syntax, notation, axiom, sorry.
-/
import Derived.Test.YtkgomgfhhhdnjaaChecked
import GoSem.Claim
import GoSem.ClaimJoined
import GoSem.ClaimMapViews
import Derived.JoinedTies
import Derived.KernelRfl
namespace Go.Proofs.Ytkgomgfhhhdnjaa
/- THE CELL 'sum', in the pinned program and in every row, IS THE sha256 OF THE DUMP (.gsa) THAT YtkgomgfhhhdnjaaProg.lean LOADS. Nothing in Lean hashes anything: it is a label: what it is worth is what the hold of that sum in a sandbox is worth. -/
noncomputable def Try.pinned : Pinned := { name := "ytkgomgfhhhdnjaa", sum := "6a5373512fa7a0b85fe98dfb2336d55ad21c1263ecc87a85a070bfc4d23798e7", checked := Try.checked }
namespace Rows
def none {H : Type} : Left H := { results := [], args := [] }

/-- 'laws.FnBallOf': WHATEVER THE INPUT: true; the input reads as it did. -/
def fnBallOfSpec : ChangeSpec := { name := "fnBallOf", fn := fun _ => fun
  | [d] => { results := [.lit (.bool true)], args := [d] }
  | _ => none }
def fnBallOfRow : OpenClaim := { program := "ytkgomgfhhhdnjaa", sum := "6a5373512fa7a0b85fe98dfb2336d55ad21c1263ecc87a85a070bfc4d23798e7", func := "loop.example/helpersinreach/laws.FnBallOf", spec := "fnBallOf", unfollowed := true, recurses := true, apart := false }
def FnBallOfSaid : Prop := fnBallOfRow.holds Try.pinned (OpenSpec.ofChange fnBallOfSpec)

/-- ITS FALSE NEIGHBOUR: 'it returns false'. Refute it at one input. -/
def fnBallOfWrong : ChangeSpec := { name := "fnBallOf", fn := fun _ => fun
  | [d] => { results := [.lit (.bool false)], args := [d] }
  | _ => none }
def FnBallOfWrongFalsely : Prop := fnBallOfRow.holds Try.pinned (OpenSpec.ofChange fnBallOfWrong)

/-- 'laws.FnGridCover': WHATEVER THE INPUT: true; the input reads as it did. -/
def fnGridCoverSpec : ChangeSpec := { name := "fnGridCover", fn := fun _ => fun
  | [d] => { results := [.lit (.bool true)], args := [d] }
  | _ => none }
def fnGridCoverRow : OpenClaim := { program := "ytkgomgfhhhdnjaa", sum := "6a5373512fa7a0b85fe98dfb2336d55ad21c1263ecc87a85a070bfc4d23798e7", func := "loop.example/helpersinreach/laws.FnGridCover", spec := "fnGridCover", unfollowed := true, recurses := true, apart := false }
def FnGridCoverSaid : Prop := fnGridCoverRow.holds Try.pinned (OpenSpec.ofChange fnGridCoverSpec)

/-- ITS FALSE NEIGHBOUR: 'it returns false'. Refute it at one input. -/
def fnGridCoverWrong : ChangeSpec := { name := "fnGridCover", fn := fun _ => fun
  | [d] => { results := [.lit (.bool false)], args := [d] }
  | _ => none }
def FnGridCoverWrongFalsely : Prop := fnGridCoverRow.holds Try.pinned (OpenSpec.ofChange fnGridCoverWrong)

/-- 'laws.FnGridApart': WHATEVER THE INPUT: true; the input reads as it did. -/
def fnGridApartSpec : ChangeSpec := { name := "fnGridApart", fn := fun _ => fun
  | [d] => { results := [.lit (.bool true)], args := [d] }
  | _ => none }
def fnGridApartRow : OpenClaim := { program := "ytkgomgfhhhdnjaa", sum := "6a5373512fa7a0b85fe98dfb2336d55ad21c1263ecc87a85a070bfc4d23798e7", func := "loop.example/helpersinreach/laws.FnGridApart", spec := "fnGridApart", unfollowed := true, recurses := true, apart := false }
def FnGridApartSaid : Prop := fnGridApartRow.holds Try.pinned (OpenSpec.ofChange fnGridApartSpec)

/-- ITS FALSE NEIGHBOUR: 'it returns false'. Refute it at one input. -/
def fnGridApartWrong : ChangeSpec := { name := "fnGridApart", fn := fun _ => fun
  | [d] => { results := [.lit (.bool false)], args := [d] }
  | _ => none }
def FnGridApartWrongFalsely : Prop := fnGridApartRow.holds Try.pinned (OpenSpec.ofChange fnGridApartWrong)

/-- 'laws.FnIsPerfect': WHATEVER THE INPUT: true; the input reads as it did. -/
def fnIsPerfectSpec : ChangeSpec := { name := "fnIsPerfect", fn := fun _ => fun
  | [d] => { results := [.lit (.bool true)], args := [d] }
  | _ => none }
def fnIsPerfectRow : OpenClaim := { program := "ytkgomgfhhhdnjaa", sum := "6a5373512fa7a0b85fe98dfb2336d55ad21c1263ecc87a85a070bfc4d23798e7", func := "loop.example/helpersinreach/laws.FnIsPerfect", spec := "fnIsPerfect", unfollowed := true, recurses := true, apart := false }
def FnIsPerfectSaid : Prop := fnIsPerfectRow.holds Try.pinned (OpenSpec.ofChange fnIsPerfectSpec)

/-- ITS FALSE NEIGHBOUR: 'it returns false'. Refute it at one input. -/
def fnIsPerfectWrong : ChangeSpec := { name := "fnIsPerfect", fn := fun _ => fun
  | [d] => { results := [.lit (.bool false)], args := [d] }
  | _ => none }
def FnIsPerfectWrongFalsely : Prop := fnIsPerfectRow.holds Try.pinned (OpenSpec.ofChange fnIsPerfectWrong)

/-- 'laws.FnSlantCells': WHATEVER THE INPUT: true; the input reads as it did. -/
def fnSlantCellsSpec : ChangeSpec := { name := "fnSlantCells", fn := fun _ => fun
  | [d] => { results := [.lit (.bool true)], args := [d] }
  | _ => none }
def fnSlantCellsRow : OpenClaim := { program := "ytkgomgfhhhdnjaa", sum := "6a5373512fa7a0b85fe98dfb2336d55ad21c1263ecc87a85a070bfc4d23798e7", func := "loop.example/helpersinreach/laws.FnSlantCells", spec := "fnSlantCells", unfollowed := true, recurses := true, apart := false }
def FnSlantCellsSaid : Prop := fnSlantCellsRow.holds Try.pinned (OpenSpec.ofChange fnSlantCellsSpec)

/-- ITS FALSE NEIGHBOUR: 'it returns false'. Refute it at one input. -/
def fnSlantCellsWrong : ChangeSpec := { name := "fnSlantCells", fn := fun _ => fun
  | [d] => { results := [.lit (.bool false)], args := [d] }
  | _ => none }
def FnSlantCellsWrongFalsely : Prop := fnSlantCellsRow.holds Try.pinned (OpenSpec.ofChange fnSlantCellsWrong)

/-- 'laws.FnGridsAreNets': WHATEVER THE INPUT: true; the input reads as it did. -/
def fnGridsAreNetsSpec : ChangeSpec := { name := "fnGridsAreNets", fn := fun _ => fun
  | [d] => { results := [.lit (.bool true)], args := [d] }
  | _ => none }
def fnGridsAreNetsRow : OpenClaim := { program := "ytkgomgfhhhdnjaa", sum := "6a5373512fa7a0b85fe98dfb2336d55ad21c1263ecc87a85a070bfc4d23798e7", func := "loop.example/helpersinreach/laws.FnGridsAreNets", spec := "fnGridsAreNets", unfollowed := true, recurses := true, apart := false }
def FnGridsAreNetsSaid : Prop := fnGridsAreNetsRow.holds Try.pinned (OpenSpec.ofChange fnGridsAreNetsSpec)

/-- ITS FALSE NEIGHBOUR: 'it returns false'. Refute it at one input. -/
def fnGridsAreNetsWrong : ChangeSpec := { name := "fnGridsAreNets", fn := fun _ => fun
  | [d] => { results := [.lit (.bool false)], args := [d] }
  | _ => none }
def FnGridsAreNetsWrongFalsely : Prop := fnGridsAreNetsRow.holds Try.pinned (OpenSpec.ofChange fnGridsAreNetsWrong)

/-- 'laws.FnRowsOfGrids': WHATEVER THE INPUT: true; the input reads as it did. -/
def fnRowsOfGridsSpec : ChangeSpec := { name := "fnRowsOfGrids", fn := fun _ => fun
  | [d] => { results := [.lit (.bool true)], args := [d] }
  | _ => none }
def fnRowsOfGridsRow : OpenClaim := { program := "ytkgomgfhhhdnjaa", sum := "6a5373512fa7a0b85fe98dfb2336d55ad21c1263ecc87a85a070bfc4d23798e7", func := "loop.example/helpersinreach/laws.FnRowsOfGrids", spec := "fnRowsOfGrids", unfollowed := true, recurses := true, apart := false }
def FnRowsOfGridsSaid : Prop := fnRowsOfGridsRow.holds Try.pinned (OpenSpec.ofChange fnRowsOfGridsSpec)

/-- ITS FALSE NEIGHBOUR: 'it returns false'. Refute it at one input. -/
def fnRowsOfGridsWrong : ChangeSpec := { name := "fnRowsOfGrids", fn := fun _ => fun
  | [d] => { results := [.lit (.bool false)], args := [d] }
  | _ => none }
def FnRowsOfGridsWrongFalsely : Prop := fnRowsOfGridsRow.holds Try.pinned (OpenSpec.ofChange fnRowsOfGridsWrong)

/-- 'laws.FnPerfectMoved': WHATEVER THE INPUT: true; the input reads as it did. -/
def fnPerfectMovedSpec : ChangeSpec := { name := "fnPerfectMoved", fn := fun _ => fun
  | [d] => { results := [.lit (.bool true)], args := [d] }
  | _ => none }
def fnPerfectMovedRow : OpenClaim := { program := "ytkgomgfhhhdnjaa", sum := "6a5373512fa7a0b85fe98dfb2336d55ad21c1263ecc87a85a070bfc4d23798e7", func := "loop.example/helpersinreach/laws.FnPerfectMoved", spec := "fnPerfectMoved", unfollowed := true, recurses := true, apart := false }
def FnPerfectMovedSaid : Prop := fnPerfectMovedRow.holds Try.pinned (OpenSpec.ofChange fnPerfectMovedSpec)

/-- ITS FALSE NEIGHBOUR: 'it returns false'. Refute it at one input. -/
def fnPerfectMovedWrong : ChangeSpec := { name := "fnPerfectMoved", fn := fun _ => fun
  | [d] => { results := [.lit (.bool false)], args := [d] }
  | _ => none }
def FnPerfectMovedWrongFalsely : Prop := fnPerfectMovedRow.holds Try.pinned (OpenSpec.ofChange fnPerfectMovedWrong)

/-- 'laws.FnExactBallOf': WHATEVER THE INPUT: true; the input reads as it did. -/
def fnExactBallOfSpec : ChangeSpec := { name := "fnExactBallOf", fn := fun _ => fun
  | [d1, d2, d3, d4] => { results := [.lit (.bool true)], args := [d1, d2, d3, d4] }
  | _ => none }
def fnExactBallOfRow : OpenClaim := { program := "ytkgomgfhhhdnjaa", sum := "6a5373512fa7a0b85fe98dfb2336d55ad21c1263ecc87a85a070bfc4d23798e7", func := "loop.example/helpersinreach/laws.FnExactBallOf", spec := "fnExactBallOf", unfollowed := true, recurses := true, apart := false }
def FnExactBallOfSaid : Prop := fnExactBallOfRow.holds Try.pinned (OpenSpec.ofChange fnExactBallOfSpec)

/-- ITS FALSE NEIGHBOUR: 'it returns false'. Refute it at one input. -/
def fnExactBallOfWrong : ChangeSpec := { name := "fnExactBallOf", fn := fun _ => fun
  | [d1, d2, d3, d4] => { results := [.lit (.bool false)], args := [d1, d2, d3, d4] }
  | _ => none }
def FnExactBallOfWrongFalsely : Prop := fnExactBallOfRow.holds Try.pinned (OpenSpec.ofChange fnExactBallOfWrong)

/-- 'laws.FnExactGridCover': WHATEVER THE INPUT: true; the input reads as it did. -/
def fnExactGridCoverSpec : ChangeSpec := { name := "fnExactGridCover", fn := fun _ => fun
  | [d1, d2, d3] => { results := [.lit (.bool true)], args := [d1, d2, d3] }
  | _ => none }
def fnExactGridCoverRow : OpenClaim := { program := "ytkgomgfhhhdnjaa", sum := "6a5373512fa7a0b85fe98dfb2336d55ad21c1263ecc87a85a070bfc4d23798e7", func := "loop.example/helpersinreach/laws.FnExactGridCover", spec := "fnExactGridCover", unfollowed := true, recurses := true, apart := false }
def FnExactGridCoverSaid : Prop := fnExactGridCoverRow.holds Try.pinned (OpenSpec.ofChange fnExactGridCoverSpec)

/-- ITS FALSE NEIGHBOUR: 'it returns false'. Refute it at one input. -/
def fnExactGridCoverWrong : ChangeSpec := { name := "fnExactGridCover", fn := fun _ => fun
  | [d1, d2, d3] => { results := [.lit (.bool false)], args := [d1, d2, d3] }
  | _ => none }
def FnExactGridCoverWrongFalsely : Prop := fnExactGridCoverRow.holds Try.pinned (OpenSpec.ofChange fnExactGridCoverWrong)

/-- 'laws.FnExactGridApart': WHATEVER THE INPUT: true; the input reads as it did. -/
def fnExactGridApartSpec : ChangeSpec := { name := "fnExactGridApart", fn := fun _ => fun
  | [d1, d2, d3] => { results := [.lit (.bool true)], args := [d1, d2, d3] }
  | _ => none }
def fnExactGridApartRow : OpenClaim := { program := "ytkgomgfhhhdnjaa", sum := "6a5373512fa7a0b85fe98dfb2336d55ad21c1263ecc87a85a070bfc4d23798e7", func := "loop.example/helpersinreach/laws.FnExactGridApart", spec := "fnExactGridApart", unfollowed := true, recurses := true, apart := false }
def FnExactGridApartSaid : Prop := fnExactGridApartRow.holds Try.pinned (OpenSpec.ofChange fnExactGridApartSpec)

/-- ITS FALSE NEIGHBOUR: 'it returns false'. Refute it at one input. -/
def fnExactGridApartWrong : ChangeSpec := { name := "fnExactGridApart", fn := fun _ => fun
  | [d1, d2, d3] => { results := [.lit (.bool false)], args := [d1, d2, d3] }
  | _ => none }
def FnExactGridApartWrongFalsely : Prop := fnExactGridApartRow.holds Try.pinned (OpenSpec.ofChange fnExactGridApartWrong)

/-- 'laws.FnExactIsPerfect': WHATEVER THE INPUT: true; the input reads as it did. -/
def fnExactIsPerfectSpec : ChangeSpec := { name := "fnExactIsPerfect", fn := fun _ => fun
  | [d1, d2, d3, d4] => { results := [.lit (.bool true)], args := [d1, d2, d3, d4] }
  | _ => none }
def fnExactIsPerfectRow : OpenClaim := { program := "ytkgomgfhhhdnjaa", sum := "6a5373512fa7a0b85fe98dfb2336d55ad21c1263ecc87a85a070bfc4d23798e7", func := "loop.example/helpersinreach/laws.FnExactIsPerfect", spec := "fnExactIsPerfect", unfollowed := true, recurses := true, apart := false }
def FnExactIsPerfectSaid : Prop := fnExactIsPerfectRow.holds Try.pinned (OpenSpec.ofChange fnExactIsPerfectSpec)

/-- ITS FALSE NEIGHBOUR: 'it returns false'. Refute it at one input. -/
def fnExactIsPerfectWrong : ChangeSpec := { name := "fnExactIsPerfect", fn := fun _ => fun
  | [d1, d2, d3, d4] => { results := [.lit (.bool false)], args := [d1, d2, d3, d4] }
  | _ => none }
def FnExactIsPerfectWrongFalsely : Prop := fnExactIsPerfectRow.holds Try.pinned (OpenSpec.ofChange fnExactIsPerfectWrong)

/-- 'laws.FnExactSlantCells': WHATEVER THE INPUT: true; the input reads as it did. -/
def fnExactSlantCellsSpec : ChangeSpec := { name := "fnExactSlantCells", fn := fun _ => fun
  | [d1, d2, d3] => { results := [.lit (.bool true)], args := [d1, d2, d3] }
  | _ => none }
def fnExactSlantCellsRow : OpenClaim := { program := "ytkgomgfhhhdnjaa", sum := "6a5373512fa7a0b85fe98dfb2336d55ad21c1263ecc87a85a070bfc4d23798e7", func := "loop.example/helpersinreach/laws.FnExactSlantCells", spec := "fnExactSlantCells", unfollowed := true, recurses := true, apart := false }
def FnExactSlantCellsSaid : Prop := fnExactSlantCellsRow.holds Try.pinned (OpenSpec.ofChange fnExactSlantCellsSpec)

/-- ITS FALSE NEIGHBOUR: 'it returns false'. Refute it at one input. -/
def fnExactSlantCellsWrong : ChangeSpec := { name := "fnExactSlantCells", fn := fun _ => fun
  | [d1, d2, d3] => { results := [.lit (.bool false)], args := [d1, d2, d3] }
  | _ => none }
def FnExactSlantCellsWrongFalsely : Prop := fnExactSlantCellsRow.holds Try.pinned (OpenSpec.ofChange fnExactSlantCellsWrong)

/- THE SECOND FORM. 'bulk': how many values and letters a reading holds, each counted each time it is reached (what is shared counts as often as it is met; a slice's spare places count too). A statement '..UptoSaid' is the law's where the arguments, and the package variables that the reading takes, are together of bulk at most 1048576: NARROWER than '..Said'. Prove '..Said' where nothing that the law and all that it calls make is longer than what came in: it says more and counts as full. Else prove '..UptoSaid'. A law counts once. -/
mutual
def uptoBulk {H : Type} : DataW H → Nat
  | .lit (.string bytes) => bytes.length + 1
  | .lit _ => 1
  | .nil => 1
  | .ptr d => uptoBulk d + 1
  | .slice elems spare => uptoBulkAll elems + uptoBulkAll spare + 1
  | .agg parts => uptoBulkAll parts + 1
  | .iface _ d => uptoBulk d + 1
  | .map entries => uptoBulkEntries entries + 1
  | .held _ => 1
def uptoBulkAll {H : Type} : List (DataW H) → Nat
  | [] => 0
  | d :: r => uptoBulk d + uptoBulkAll r
def uptoBulkEntries {H : Type} : List (Lit × DataW H) → Nat
  | [] => 0
  | x :: r => uptoBulkEntry x + uptoBulkEntries r
def uptoBulkEntry {H : Type} : Lit × DataW H → Nat
  | (.string bytes, d) => bytes.length + uptoBulk d + 1
  | (_, d) => uptoBulk d + 1
 end
def uptoSmall : (H : Type) → List (DataW H) → Bool := fun _ ds => decide (uptoBulkAll ds ≤ 1048576)
def OpenSpec.upto (s : _root_.Go.ChangeSpec) : _root_.Go.OpenSpec := { _root_.Go.OpenSpec.ofChange s with cond := some uptoSmall }

/-- 'laws.FnBallOf', WHERE WHAT IT READS IS OF BULK AT MOST 1048576: true; the input reads as it did. -/
def fnBallOfUptoRow : OpenClaim := { program := "ytkgomgfhhhdnjaa", sum := "6a5373512fa7a0b85fe98dfb2336d55ad21c1263ecc87a85a070bfc4d23798e7", func := "loop.example/helpersinreach/laws.FnBallOf", spec := "fnBallOf", unfollowed := true, recurses := true, apart := false, narrowed := true }
def FnBallOfUptoSaid : Prop := fnBallOfUptoRow.holds Try.pinned (OpenSpec.upto fnBallOfSpec)

/-- 'laws.FnGridCover', WHERE WHAT IT READS IS OF BULK AT MOST 1048576: true; the input reads as it did. -/
def fnGridCoverUptoRow : OpenClaim := { program := "ytkgomgfhhhdnjaa", sum := "6a5373512fa7a0b85fe98dfb2336d55ad21c1263ecc87a85a070bfc4d23798e7", func := "loop.example/helpersinreach/laws.FnGridCover", spec := "fnGridCover", unfollowed := true, recurses := true, apart := false, narrowed := true }
def FnGridCoverUptoSaid : Prop := fnGridCoverUptoRow.holds Try.pinned (OpenSpec.upto fnGridCoverSpec)

/-- 'laws.FnGridApart', WHERE WHAT IT READS IS OF BULK AT MOST 1048576: true; the input reads as it did. -/
def fnGridApartUptoRow : OpenClaim := { program := "ytkgomgfhhhdnjaa", sum := "6a5373512fa7a0b85fe98dfb2336d55ad21c1263ecc87a85a070bfc4d23798e7", func := "loop.example/helpersinreach/laws.FnGridApart", spec := "fnGridApart", unfollowed := true, recurses := true, apart := false, narrowed := true }
def FnGridApartUptoSaid : Prop := fnGridApartUptoRow.holds Try.pinned (OpenSpec.upto fnGridApartSpec)

/-- 'laws.FnIsPerfect', WHERE WHAT IT READS IS OF BULK AT MOST 1048576: true; the input reads as it did. -/
def fnIsPerfectUptoRow : OpenClaim := { program := "ytkgomgfhhhdnjaa", sum := "6a5373512fa7a0b85fe98dfb2336d55ad21c1263ecc87a85a070bfc4d23798e7", func := "loop.example/helpersinreach/laws.FnIsPerfect", spec := "fnIsPerfect", unfollowed := true, recurses := true, apart := false, narrowed := true }
def FnIsPerfectUptoSaid : Prop := fnIsPerfectUptoRow.holds Try.pinned (OpenSpec.upto fnIsPerfectSpec)

/-- 'laws.FnSlantCells', WHERE WHAT IT READS IS OF BULK AT MOST 1048576: true; the input reads as it did. -/
def fnSlantCellsUptoRow : OpenClaim := { program := "ytkgomgfhhhdnjaa", sum := "6a5373512fa7a0b85fe98dfb2336d55ad21c1263ecc87a85a070bfc4d23798e7", func := "loop.example/helpersinreach/laws.FnSlantCells", spec := "fnSlantCells", unfollowed := true, recurses := true, apart := false, narrowed := true }
def FnSlantCellsUptoSaid : Prop := fnSlantCellsUptoRow.holds Try.pinned (OpenSpec.upto fnSlantCellsSpec)

/-- 'laws.FnGridsAreNets', WHERE WHAT IT READS IS OF BULK AT MOST 1048576: true; the input reads as it did. -/
def fnGridsAreNetsUptoRow : OpenClaim := { program := "ytkgomgfhhhdnjaa", sum := "6a5373512fa7a0b85fe98dfb2336d55ad21c1263ecc87a85a070bfc4d23798e7", func := "loop.example/helpersinreach/laws.FnGridsAreNets", spec := "fnGridsAreNets", unfollowed := true, recurses := true, apart := false, narrowed := true }
def FnGridsAreNetsUptoSaid : Prop := fnGridsAreNetsUptoRow.holds Try.pinned (OpenSpec.upto fnGridsAreNetsSpec)

/-- 'laws.FnRowsOfGrids', WHERE WHAT IT READS IS OF BULK AT MOST 1048576: true; the input reads as it did. -/
def fnRowsOfGridsUptoRow : OpenClaim := { program := "ytkgomgfhhhdnjaa", sum := "6a5373512fa7a0b85fe98dfb2336d55ad21c1263ecc87a85a070bfc4d23798e7", func := "loop.example/helpersinreach/laws.FnRowsOfGrids", spec := "fnRowsOfGrids", unfollowed := true, recurses := true, apart := false, narrowed := true }
def FnRowsOfGridsUptoSaid : Prop := fnRowsOfGridsUptoRow.holds Try.pinned (OpenSpec.upto fnRowsOfGridsSpec)

/-- 'laws.FnPerfectMoved', WHERE WHAT IT READS IS OF BULK AT MOST 1048576: true; the input reads as it did. -/
def fnPerfectMovedUptoRow : OpenClaim := { program := "ytkgomgfhhhdnjaa", sum := "6a5373512fa7a0b85fe98dfb2336d55ad21c1263ecc87a85a070bfc4d23798e7", func := "loop.example/helpersinreach/laws.FnPerfectMoved", spec := "fnPerfectMoved", unfollowed := true, recurses := true, apart := false, narrowed := true }
def FnPerfectMovedUptoSaid : Prop := fnPerfectMovedUptoRow.holds Try.pinned (OpenSpec.upto fnPerfectMovedSpec)

/-- 'laws.FnExactBallOf', WHERE WHAT IT READS IS OF BULK AT MOST 1048576: true; the input reads as it did. -/
def fnExactBallOfUptoRow : OpenClaim := { program := "ytkgomgfhhhdnjaa", sum := "6a5373512fa7a0b85fe98dfb2336d55ad21c1263ecc87a85a070bfc4d23798e7", func := "loop.example/helpersinreach/laws.FnExactBallOf", spec := "fnExactBallOf", unfollowed := true, recurses := true, apart := false, narrowed := true }
def FnExactBallOfUptoSaid : Prop := fnExactBallOfUptoRow.holds Try.pinned (OpenSpec.upto fnExactBallOfSpec)

/-- 'laws.FnExactGridCover', WHERE WHAT IT READS IS OF BULK AT MOST 1048576: true; the input reads as it did. -/
def fnExactGridCoverUptoRow : OpenClaim := { program := "ytkgomgfhhhdnjaa", sum := "6a5373512fa7a0b85fe98dfb2336d55ad21c1263ecc87a85a070bfc4d23798e7", func := "loop.example/helpersinreach/laws.FnExactGridCover", spec := "fnExactGridCover", unfollowed := true, recurses := true, apart := false, narrowed := true }
def FnExactGridCoverUptoSaid : Prop := fnExactGridCoverUptoRow.holds Try.pinned (OpenSpec.upto fnExactGridCoverSpec)

/-- 'laws.FnExactGridApart', WHERE WHAT IT READS IS OF BULK AT MOST 1048576: true; the input reads as it did. -/
def fnExactGridApartUptoRow : OpenClaim := { program := "ytkgomgfhhhdnjaa", sum := "6a5373512fa7a0b85fe98dfb2336d55ad21c1263ecc87a85a070bfc4d23798e7", func := "loop.example/helpersinreach/laws.FnExactGridApart", spec := "fnExactGridApart", unfollowed := true, recurses := true, apart := false, narrowed := true }
def FnExactGridApartUptoSaid : Prop := fnExactGridApartUptoRow.holds Try.pinned (OpenSpec.upto fnExactGridApartSpec)

/-- 'laws.FnExactIsPerfect', WHERE WHAT IT READS IS OF BULK AT MOST 1048576: true; the input reads as it did. -/
def fnExactIsPerfectUptoRow : OpenClaim := { program := "ytkgomgfhhhdnjaa", sum := "6a5373512fa7a0b85fe98dfb2336d55ad21c1263ecc87a85a070bfc4d23798e7", func := "loop.example/helpersinreach/laws.FnExactIsPerfect", spec := "fnExactIsPerfect", unfollowed := true, recurses := true, apart := false, narrowed := true }
def FnExactIsPerfectUptoSaid : Prop := fnExactIsPerfectUptoRow.holds Try.pinned (OpenSpec.upto fnExactIsPerfectSpec)

/-- 'laws.FnExactSlantCells', WHERE WHAT IT READS IS OF BULK AT MOST 1048576: true; the input reads as it did. -/
def fnExactSlantCellsUptoRow : OpenClaim := { program := "ytkgomgfhhhdnjaa", sum := "6a5373512fa7a0b85fe98dfb2336d55ad21c1263ecc87a85a070bfc4d23798e7", func := "loop.example/helpersinreach/laws.FnExactSlantCells", spec := "fnExactSlantCells", unfollowed := true, recurses := true, apart := false, narrowed := true }
def FnExactSlantCellsUptoSaid : Prop := fnExactSlantCellsUptoRow.holds Try.pinned (OpenSpec.upto fnExactSlantCellsSpec)

end Rows
end Go.Proofs.Ytkgomgfhhhdnjaa
