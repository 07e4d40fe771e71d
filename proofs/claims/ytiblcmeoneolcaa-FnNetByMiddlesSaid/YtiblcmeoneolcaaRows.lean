/-
  No cell of these rows narrows 'for every input' (looked for: loops, veiled, ifaces, maps, wideKeys, modest, calm, conditions, laid).
  DERIVED. THE GIVEN ROWS OF THIS SEAT. 15 by the template 'for every input the law returns true; each argument reads behind the call as it read before'; 0 by the template 'total and deterministic' (their statements: YtiblcmeoneolcaaTotals.lean).
  GIVEN WITH THE SEED: the statements are not yours to turn. If you find one false, say at which input.
  Laid BY PROGRAM, IN A SANDBOX (cutbox-rows.mjs): the forced cells as the released guide's own fill.sh prints them over the translation f2f89774fdbb3730… (all of the seat's roots in one cut). By AI agents, Wed Nov 11 2026. No macro, syntax, notation, axiom, sorry.
-/
import Derived.Test.YtiblcmeoneolcaaChecked
import GoSem.Claim
import GoSem.ClaimJoined
import GoSem.ClaimMapViews
import Derived.JoinedTies
import Derived.KernelRfl
namespace Go.Proofs.Ytiblcmeoneolcaa
/- THE CELL 'sum', in the pinned program and in every row, IS THE sha256 OF THE DUMP (.gsa) THAT YtiblcmeoneolcaaProg.lean LOADS. Nothing in Lean hashes anything: it is a label: what it is worth is what the hold of that sum in a sandbox is worth. -/
noncomputable def Try.pinned : Pinned := { name := "ytiblcmeoneolcaa", sum := "f2f89774fdbb373031cc7e2365d17bb2f9f01aef00365e2059f83bf50b328a50", checked := Try.checked }
namespace Rows
def none {H : Type} : Left H := { results := [], args := [] }

/-- 'laws.FnExactValidNet': WHATEVER THE INPUT: true; the input reads as it did. -/
def fnExactValidNetSpec : ChangeSpec := { name := "fnExactValidNet", fn := fun _ => fun
  | [d1, d2] => { results := [.lit (.bool true)], args := [d1, d2] }
  | _ => none }
def fnExactValidNetRow : OpenClaim := { program := "ytiblcmeoneolcaa", sum := "f2f89774fdbb373031cc7e2365d17bb2f9f01aef00365e2059f83bf50b328a50", func := "loop.example/helpersinreach/laws.FnExactValidNet", spec := "fnExactValidNet", unfollowed := true, recurses := true, apart := false }
def FnExactValidNetSaid : Prop := fnExactValidNetRow.holds Try.pinned (OpenSpec.ofChange fnExactValidNetSpec)

/-- ITS FALSE NEIGHBOUR: 'it returns false'. Refute it at one input. -/
def fnExactValidNetWrong : ChangeSpec := { name := "fnExactValidNet", fn := fun _ => fun
  | [d1, d2] => { results := [.lit (.bool false)], args := [d1, d2] }
  | _ => none }
def FnExactValidNetWrongFalsely : Prop := fnExactValidNetRow.holds Try.pinned (OpenSpec.ofChange fnExactValidNetWrong)

/-- 'laws.FnExactNetTable': WHATEVER THE INPUT: true; the input reads as it did. -/
def fnExactNetTableSpec : ChangeSpec := { name := "fnExactNetTable", fn := fun _ => fun
  | [d1, d2] => { results := [.lit (.bool true)], args := [d1, d2] }
  | _ => none }
def fnExactNetTableRow : OpenClaim := { program := "ytiblcmeoneolcaa", sum := "f2f89774fdbb373031cc7e2365d17bb2f9f01aef00365e2059f83bf50b328a50", func := "loop.example/helpersinreach/laws.FnExactNetTable", spec := "fnExactNetTable", unfollowed := true, recurses := true, apart := false }
def FnExactNetTableSaid : Prop := fnExactNetTableRow.holds Try.pinned (OpenSpec.ofChange fnExactNetTableSpec)

/-- ITS FALSE NEIGHBOUR: 'it returns false'. Refute it at one input. -/
def fnExactNetTableWrong : ChangeSpec := { name := "fnExactNetTable", fn := fun _ => fun
  | [d1, d2] => { results := [.lit (.bool false)], args := [d1, d2] }
  | _ => none }
def FnExactNetTableWrongFalsely : Prop := fnExactNetTableRow.holds Try.pinned (OpenSpec.ofChange fnExactNetTableWrong)

/-- 'laws.FnExactNetByMiddles': WHATEVER THE INPUT: true; the input reads as it did. -/
def fnExactNetByMiddlesSpec : ChangeSpec := { name := "fnExactNetByMiddles", fn := fun _ => fun
  | [d1, d2] => { results := [.lit (.bool true)], args := [d1, d2] }
  | _ => none }
def fnExactNetByMiddlesRow : OpenClaim := { program := "ytiblcmeoneolcaa", sum := "f2f89774fdbb373031cc7e2365d17bb2f9f01aef00365e2059f83bf50b328a50", func := "loop.example/helpersinreach/laws.FnExactNetByMiddles", spec := "fnExactNetByMiddles", unfollowed := true, recurses := true, apart := false }
def FnExactNetByMiddlesSaid : Prop := fnExactNetByMiddlesRow.holds Try.pinned (OpenSpec.ofChange fnExactNetByMiddlesSpec)

/-- ITS FALSE NEIGHBOUR: 'it returns false'. Refute it at one input. -/
def fnExactNetByMiddlesWrong : ChangeSpec := { name := "fnExactNetByMiddles", fn := fun _ => fun
  | [d1, d2] => { results := [.lit (.bool false)], args := [d1, d2] }
  | _ => none }
def FnExactNetByMiddlesWrongFalsely : Prop := fnExactNetByMiddlesRow.holds Try.pinned (OpenSpec.ofChange fnExactNetByMiddlesWrong)

/-- 'laws.FnExactNetCover': WHATEVER THE INPUT: true; the input reads as it did. -/
def fnExactNetCoverSpec : ChangeSpec := { name := "fnExactNetCover", fn := fun _ => fun
  | [d1, d2, d3] => { results := [.lit (.bool true)], args := [d1, d2, d3] }
  | _ => none }
def fnExactNetCoverRow : OpenClaim := { program := "ytiblcmeoneolcaa", sum := "f2f89774fdbb373031cc7e2365d17bb2f9f01aef00365e2059f83bf50b328a50", func := "loop.example/helpersinreach/laws.FnExactNetCover", spec := "fnExactNetCover", unfollowed := true, recurses := true, apart := false }
def FnExactNetCoverSaid : Prop := fnExactNetCoverRow.holds Try.pinned (OpenSpec.ofChange fnExactNetCoverSpec)

/-- ITS FALSE NEIGHBOUR: 'it returns false'. Refute it at one input. -/
def fnExactNetCoverWrong : ChangeSpec := { name := "fnExactNetCover", fn := fun _ => fun
  | [d1, d2, d3] => { results := [.lit (.bool false)], args := [d1, d2, d3] }
  | _ => none }
def FnExactNetCoverWrongFalsely : Prop := fnExactNetCoverRow.holds Try.pinned (OpenSpec.ofChange fnExactNetCoverWrong)

/-- 'laws.FnExactNetApart': WHATEVER THE INPUT: true; the input reads as it did. -/
def fnExactNetApartSpec : ChangeSpec := { name := "fnExactNetApart", fn := fun _ => fun
  | [d1, d2, d3] => { results := [.lit (.bool true)], args := [d1, d2, d3] }
  | _ => none }
def fnExactNetApartRow : OpenClaim := { program := "ytiblcmeoneolcaa", sum := "f2f89774fdbb373031cc7e2365d17bb2f9f01aef00365e2059f83bf50b328a50", func := "loop.example/helpersinreach/laws.FnExactNetApart", spec := "fnExactNetApart", unfollowed := true, recurses := true, apart := false }
def FnExactNetApartSaid : Prop := fnExactNetApartRow.holds Try.pinned (OpenSpec.ofChange fnExactNetApartSpec)

/-- ITS FALSE NEIGHBOUR: 'it returns false'. Refute it at one input. -/
def fnExactNetApartWrong : ChangeSpec := { name := "fnExactNetApart", fn := fun _ => fun
  | [d1, d2, d3] => { results := [.lit (.bool false)], args := [d1, d2, d3] }
  | _ => none }
def FnExactNetApartWrongFalsely : Prop := fnExactNetApartRow.holds Try.pinned (OpenSpec.ofChange fnExactNetApartWrong)

/-- 'laws.FnExactNetFar': WHATEVER THE INPUT: true; the input reads as it did. -/
def fnExactNetFarSpec : ChangeSpec := { name := "fnExactNetFar", fn := fun _ => fun
  | [d1, d2, d3] => { results := [.lit (.bool true)], args := [d1, d2, d3] }
  | _ => none }
def fnExactNetFarRow : OpenClaim := { program := "ytiblcmeoneolcaa", sum := "f2f89774fdbb373031cc7e2365d17bb2f9f01aef00365e2059f83bf50b328a50", func := "loop.example/helpersinreach/laws.FnExactNetFar", spec := "fnExactNetFar", unfollowed := true, recurses := true, apart := false }
def FnExactNetFarSaid : Prop := fnExactNetFarRow.holds Try.pinned (OpenSpec.ofChange fnExactNetFarSpec)

/-- ITS FALSE NEIGHBOUR: 'it returns false'. Refute it at one input. -/
def fnExactNetFarWrong : ChangeSpec := { name := "fnExactNetFar", fn := fun _ => fun
  | [d1, d2, d3] => { results := [.lit (.bool false)], args := [d1, d2, d3] }
  | _ => none }
def FnExactNetFarWrongFalsely : Prop := fnExactNetFarRow.holds Try.pinned (OpenSpec.ofChange fnExactNetFarWrong)

/-- 'laws.FnExactFarthestFirst': WHATEVER THE INPUT: true; the input reads as it did. -/
def fnExactFarthestFirstSpec : ChangeSpec := { name := "fnExactFarthestFirst", fn := fun _ => fun
  | [d1, d2, d3] => { results := [.lit (.bool true)], args := [d1, d2, d3] }
  | _ => none }
def fnExactFarthestFirstRow : OpenClaim := { program := "ytiblcmeoneolcaa", sum := "f2f89774fdbb373031cc7e2365d17bb2f9f01aef00365e2059f83bf50b328a50", func := "loop.example/helpersinreach/laws.FnExactFarthestFirst", spec := "fnExactFarthestFirst", unfollowed := true, recurses := true, apart := false }
def FnExactFarthestFirstSaid : Prop := fnExactFarthestFirstRow.holds Try.pinned (OpenSpec.ofChange fnExactFarthestFirstSpec)

/-- ITS FALSE NEIGHBOUR: 'it returns false'. Refute it at one input. -/
def fnExactFarthestFirstWrong : ChangeSpec := { name := "fnExactFarthestFirst", fn := fun _ => fun
  | [d1, d2, d3] => { results := [.lit (.bool false)], args := [d1, d2, d3] }
  | _ => none }
def FnExactFarthestFirstWrongFalsely : Prop := fnExactFarthestFirstRow.holds Try.pinned (OpenSpec.ofChange fnExactFarthestFirstWrong)

/-- 'laws.FnValidNet': WHATEVER THE INPUT: true; the input reads as it did. -/
def fnValidNetSpec : ChangeSpec := { name := "fnValidNet", fn := fun _ => fun
  | [d] => { results := [.lit (.bool true)], args := [d] }
  | _ => none }
def fnValidNetRow : OpenClaim := { program := "ytiblcmeoneolcaa", sum := "f2f89774fdbb373031cc7e2365d17bb2f9f01aef00365e2059f83bf50b328a50", func := "loop.example/helpersinreach/laws.FnValidNet", spec := "fnValidNet", unfollowed := true, recurses := true, apart := false }
def FnValidNetSaid : Prop := fnValidNetRow.holds Try.pinned (OpenSpec.ofChange fnValidNetSpec)

/-- ITS FALSE NEIGHBOUR: 'it returns false'. Refute it at one input. -/
def fnValidNetWrong : ChangeSpec := { name := "fnValidNet", fn := fun _ => fun
  | [d] => { results := [.lit (.bool false)], args := [d] }
  | _ => none }
def FnValidNetWrongFalsely : Prop := fnValidNetRow.holds Try.pinned (OpenSpec.ofChange fnValidNetWrong)

/-- 'laws.FnNetTable': WHATEVER THE INPUT: true; the input reads as it did. -/
def fnNetTableSpec : ChangeSpec := { name := "fnNetTable", fn := fun _ => fun
  | [d] => { results := [.lit (.bool true)], args := [d] }
  | _ => none }
def fnNetTableRow : OpenClaim := { program := "ytiblcmeoneolcaa", sum := "f2f89774fdbb373031cc7e2365d17bb2f9f01aef00365e2059f83bf50b328a50", func := "loop.example/helpersinreach/laws.FnNetTable", spec := "fnNetTable", unfollowed := true, recurses := true, apart := false }
def FnNetTableSaid : Prop := fnNetTableRow.holds Try.pinned (OpenSpec.ofChange fnNetTableSpec)

/-- ITS FALSE NEIGHBOUR: 'it returns false'. Refute it at one input. -/
def fnNetTableWrong : ChangeSpec := { name := "fnNetTable", fn := fun _ => fun
  | [d] => { results := [.lit (.bool false)], args := [d] }
  | _ => none }
def FnNetTableWrongFalsely : Prop := fnNetTableRow.holds Try.pinned (OpenSpec.ofChange fnNetTableWrong)

/-- 'laws.FnNetByMiddles': WHATEVER THE INPUT: true; the input reads as it did. -/
def fnNetByMiddlesSpec : ChangeSpec := { name := "fnNetByMiddles", fn := fun _ => fun
  | [d] => { results := [.lit (.bool true)], args := [d] }
  | _ => none }
def fnNetByMiddlesRow : OpenClaim := { program := "ytiblcmeoneolcaa", sum := "f2f89774fdbb373031cc7e2365d17bb2f9f01aef00365e2059f83bf50b328a50", func := "loop.example/helpersinreach/laws.FnNetByMiddles", spec := "fnNetByMiddles", unfollowed := true, recurses := true, apart := false }
def FnNetByMiddlesSaid : Prop := fnNetByMiddlesRow.holds Try.pinned (OpenSpec.ofChange fnNetByMiddlesSpec)

/-- ITS FALSE NEIGHBOUR: 'it returns false'. Refute it at one input. -/
def fnNetByMiddlesWrong : ChangeSpec := { name := "fnNetByMiddles", fn := fun _ => fun
  | [d] => { results := [.lit (.bool false)], args := [d] }
  | _ => none }
def FnNetByMiddlesWrongFalsely : Prop := fnNetByMiddlesRow.holds Try.pinned (OpenSpec.ofChange fnNetByMiddlesWrong)

/-- 'laws.FnNetCover': WHATEVER THE INPUT: true; the input reads as it did. -/
def fnNetCoverSpec : ChangeSpec := { name := "fnNetCover", fn := fun _ => fun
  | [d] => { results := [.lit (.bool true)], args := [d] }
  | _ => none }
def fnNetCoverRow : OpenClaim := { program := "ytiblcmeoneolcaa", sum := "f2f89774fdbb373031cc7e2365d17bb2f9f01aef00365e2059f83bf50b328a50", func := "loop.example/helpersinreach/laws.FnNetCover", spec := "fnNetCover", unfollowed := true, recurses := true, apart := false }
def FnNetCoverSaid : Prop := fnNetCoverRow.holds Try.pinned (OpenSpec.ofChange fnNetCoverSpec)

/-- ITS FALSE NEIGHBOUR: 'it returns false'. Refute it at one input. -/
def fnNetCoverWrong : ChangeSpec := { name := "fnNetCover", fn := fun _ => fun
  | [d] => { results := [.lit (.bool false)], args := [d] }
  | _ => none }
def FnNetCoverWrongFalsely : Prop := fnNetCoverRow.holds Try.pinned (OpenSpec.ofChange fnNetCoverWrong)

/-- 'laws.FnNetApart': WHATEVER THE INPUT: true; the input reads as it did. -/
def fnNetApartSpec : ChangeSpec := { name := "fnNetApart", fn := fun _ => fun
  | [d] => { results := [.lit (.bool true)], args := [d] }
  | _ => none }
def fnNetApartRow : OpenClaim := { program := "ytiblcmeoneolcaa", sum := "f2f89774fdbb373031cc7e2365d17bb2f9f01aef00365e2059f83bf50b328a50", func := "loop.example/helpersinreach/laws.FnNetApart", spec := "fnNetApart", unfollowed := true, recurses := true, apart := false }
def FnNetApartSaid : Prop := fnNetApartRow.holds Try.pinned (OpenSpec.ofChange fnNetApartSpec)

/-- ITS FALSE NEIGHBOUR: 'it returns false'. Refute it at one input. -/
def fnNetApartWrong : ChangeSpec := { name := "fnNetApart", fn := fun _ => fun
  | [d] => { results := [.lit (.bool false)], args := [d] }
  | _ => none }
def FnNetApartWrongFalsely : Prop := fnNetApartRow.holds Try.pinned (OpenSpec.ofChange fnNetApartWrong)

/-- 'laws.FnNetFar': WHATEVER THE INPUT: true; the input reads as it did. -/
def fnNetFarSpec : ChangeSpec := { name := "fnNetFar", fn := fun _ => fun
  | [d] => { results := [.lit (.bool true)], args := [d] }
  | _ => none }
def fnNetFarRow : OpenClaim := { program := "ytiblcmeoneolcaa", sum := "f2f89774fdbb373031cc7e2365d17bb2f9f01aef00365e2059f83bf50b328a50", func := "loop.example/helpersinreach/laws.FnNetFar", spec := "fnNetFar", unfollowed := true, recurses := true, apart := false }
def FnNetFarSaid : Prop := fnNetFarRow.holds Try.pinned (OpenSpec.ofChange fnNetFarSpec)

/-- ITS FALSE NEIGHBOUR: 'it returns false'. Refute it at one input. -/
def fnNetFarWrong : ChangeSpec := { name := "fnNetFar", fn := fun _ => fun
  | [d] => { results := [.lit (.bool false)], args := [d] }
  | _ => none }
def FnNetFarWrongFalsely : Prop := fnNetFarRow.holds Try.pinned (OpenSpec.ofChange fnNetFarWrong)

/-- 'laws.FnFarthestFirst': WHATEVER THE INPUT: true; the input reads as it did. -/
def fnFarthestFirstSpec : ChangeSpec := { name := "fnFarthestFirst", fn := fun _ => fun
  | [d] => { results := [.lit (.bool true)], args := [d] }
  | _ => none }
def fnFarthestFirstRow : OpenClaim := { program := "ytiblcmeoneolcaa", sum := "f2f89774fdbb373031cc7e2365d17bb2f9f01aef00365e2059f83bf50b328a50", func := "loop.example/helpersinreach/laws.FnFarthestFirst", spec := "fnFarthestFirst", unfollowed := true, recurses := true, apart := false }
def FnFarthestFirstSaid : Prop := fnFarthestFirstRow.holds Try.pinned (OpenSpec.ofChange fnFarthestFirstSpec)

/-- ITS FALSE NEIGHBOUR: 'it returns false'. Refute it at one input. -/
def fnFarthestFirstWrong : ChangeSpec := { name := "fnFarthestFirst", fn := fun _ => fun
  | [d] => { results := [.lit (.bool false)], args := [d] }
  | _ => none }
def FnFarthestFirstWrongFalsely : Prop := fnFarthestFirstRow.holds Try.pinned (OpenSpec.ofChange fnFarthestFirstWrong)

/-- 'laws.FnFarthestIsFirst': WHATEVER THE INPUT: true; the input reads as it did. -/
def fnFarthestIsFirstSpec : ChangeSpec := { name := "fnFarthestIsFirst", fn := fun _ => fun
  | [d] => { results := [.lit (.bool true)], args := [d] }
  | _ => none }
def fnFarthestIsFirstRow : OpenClaim := { program := "ytiblcmeoneolcaa", sum := "f2f89774fdbb373031cc7e2365d17bb2f9f01aef00365e2059f83bf50b328a50", func := "loop.example/helpersinreach/laws.FnFarthestIsFirst", spec := "fnFarthestIsFirst", unfollowed := true, recurses := true, apart := false }
def FnFarthestIsFirstSaid : Prop := fnFarthestIsFirstRow.holds Try.pinned (OpenSpec.ofChange fnFarthestIsFirstSpec)

/-- ITS FALSE NEIGHBOUR: 'it returns false'. Refute it at one input. -/
def fnFarthestIsFirstWrong : ChangeSpec := { name := "fnFarthestIsFirst", fn := fun _ => fun
  | [d] => { results := [.lit (.bool false)], args := [d] }
  | _ => none }
def FnFarthestIsFirstWrongFalsely : Prop := fnFarthestIsFirstRow.holds Try.pinned (OpenSpec.ofChange fnFarthestIsFirstWrong)

/- THE SECOND FORM. 'bulk': how many values and letters a reading holds, each counted each time it is reached (what is shared counts as often as it is met; a slice's spare places count too). A statement '..UptoSaid' is the law's where the arguments, and the package variables that the reading takes, are together of bulk at most 1048576: NARROWER than '..Said'. Prove '..Said' where nothing that the law and all that it calls make is longer than what came in: it says more and counts as full. Else prove '..UptoSaid'. A law counts once. -/
mutual
def uptoBulk {H : Type} : DataW H → Nat
  | .lit (.string bytes) => bytes.length + 1
  | .lit _ => 1
  | .nil => 1
  | .ptr d => uptoBulk d + 1
  | .slice elems spare => uptoBulkAll elems + uptoBulkAll spare + 1
  | .agg parts => uptoBulkAll parts + 1
  | .iface _ d => uptoBulk d + 1
  | .map entries => uptoBulkEntries entries + 1
  | .held _ => 1
def uptoBulkAll {H : Type} : List (DataW H) → Nat
  | [] => 0
  | d :: r => uptoBulk d + uptoBulkAll r
def uptoBulkEntries {H : Type} : List (Lit × DataW H) → Nat
  | [] => 0
  | x :: r => uptoBulkEntry x + uptoBulkEntries r
def uptoBulkEntry {H : Type} : Lit × DataW H → Nat
  | (.string bytes, d) => bytes.length + uptoBulk d + 1
  | (_, d) => uptoBulk d + 1
 end
def uptoSmall : (H : Type) → List (DataW H) → Bool := fun _ ds => decide (uptoBulkAll ds ≤ 1048576)
def OpenSpec.upto (s : _root_.Go.ChangeSpec) : _root_.Go.OpenSpec := { _root_.Go.OpenSpec.ofChange s with cond := some uptoSmall }

/-- 'laws.FnExactValidNet', WHERE WHAT IT READS IS OF BULK AT MOST 1048576: true; the input reads as it did. -/
def fnExactValidNetUptoRow : OpenClaim := { program := "ytiblcmeoneolcaa", sum := "f2f89774fdbb373031cc7e2365d17bb2f9f01aef00365e2059f83bf50b328a50", func := "loop.example/helpersinreach/laws.FnExactValidNet", spec := "fnExactValidNet", unfollowed := true, recurses := true, apart := false, narrowed := true }
def FnExactValidNetUptoSaid : Prop := fnExactValidNetUptoRow.holds Try.pinned (OpenSpec.upto fnExactValidNetSpec)

/-- 'laws.FnExactNetTable', WHERE WHAT IT READS IS OF BULK AT MOST 1048576: true; the input reads as it did. -/
def fnExactNetTableUptoRow : OpenClaim := { program := "ytiblcmeoneolcaa", sum := "f2f89774fdbb373031cc7e2365d17bb2f9f01aef00365e2059f83bf50b328a50", func := "loop.example/helpersinreach/laws.FnExactNetTable", spec := "fnExactNetTable", unfollowed := true, recurses := true, apart := false, narrowed := true }
def FnExactNetTableUptoSaid : Prop := fnExactNetTableUptoRow.holds Try.pinned (OpenSpec.upto fnExactNetTableSpec)

/-- 'laws.FnExactNetByMiddles', WHERE WHAT IT READS IS OF BULK AT MOST 1048576: true; the input reads as it did. -/
def fnExactNetByMiddlesUptoRow : OpenClaim := { program := "ytiblcmeoneolcaa", sum := "f2f89774fdbb373031cc7e2365d17bb2f9f01aef00365e2059f83bf50b328a50", func := "loop.example/helpersinreach/laws.FnExactNetByMiddles", spec := "fnExactNetByMiddles", unfollowed := true, recurses := true, apart := false, narrowed := true }
def FnExactNetByMiddlesUptoSaid : Prop := fnExactNetByMiddlesUptoRow.holds Try.pinned (OpenSpec.upto fnExactNetByMiddlesSpec)

/-- 'laws.FnExactNetCover', WHERE WHAT IT READS IS OF BULK AT MOST 1048576: true; the input reads as it did. -/
def fnExactNetCoverUptoRow : OpenClaim := { program := "ytiblcmeoneolcaa", sum := "f2f89774fdbb373031cc7e2365d17bb2f9f01aef00365e2059f83bf50b328a50", func := "loop.example/helpersinreach/laws.FnExactNetCover", spec := "fnExactNetCover", unfollowed := true, recurses := true, apart := false, narrowed := true }
def FnExactNetCoverUptoSaid : Prop := fnExactNetCoverUptoRow.holds Try.pinned (OpenSpec.upto fnExactNetCoverSpec)

/-- 'laws.FnExactNetApart', WHERE WHAT IT READS IS OF BULK AT MOST 1048576: true; the input reads as it did. -/
def fnExactNetApartUptoRow : OpenClaim := { program := "ytiblcmeoneolcaa", sum := "f2f89774fdbb373031cc7e2365d17bb2f9f01aef00365e2059f83bf50b328a50", func := "loop.example/helpersinreach/laws.FnExactNetApart", spec := "fnExactNetApart", unfollowed := true, recurses := true, apart := false, narrowed := true }
def FnExactNetApartUptoSaid : Prop := fnExactNetApartUptoRow.holds Try.pinned (OpenSpec.upto fnExactNetApartSpec)

/-- 'laws.FnExactNetFar', WHERE WHAT IT READS IS OF BULK AT MOST 1048576: true; the input reads as it did. -/
def fnExactNetFarUptoRow : OpenClaim := { program := "ytiblcmeoneolcaa", sum := "f2f89774fdbb373031cc7e2365d17bb2f9f01aef00365e2059f83bf50b328a50", func := "loop.example/helpersinreach/laws.FnExactNetFar", spec := "fnExactNetFar", unfollowed := true, recurses := true, apart := false, narrowed := true }
def FnExactNetFarUptoSaid : Prop := fnExactNetFarUptoRow.holds Try.pinned (OpenSpec.upto fnExactNetFarSpec)

/-- 'laws.FnExactFarthestFirst', WHERE WHAT IT READS IS OF BULK AT MOST 1048576: true; the input reads as it did. -/
def fnExactFarthestFirstUptoRow : OpenClaim := { program := "ytiblcmeoneolcaa", sum := "f2f89774fdbb373031cc7e2365d17bb2f9f01aef00365e2059f83bf50b328a50", func := "loop.example/helpersinreach/laws.FnExactFarthestFirst", spec := "fnExactFarthestFirst", unfollowed := true, recurses := true, apart := false, narrowed := true }
def FnExactFarthestFirstUptoSaid : Prop := fnExactFarthestFirstUptoRow.holds Try.pinned (OpenSpec.upto fnExactFarthestFirstSpec)

/-- 'laws.FnValidNet', WHERE WHAT IT READS IS OF BULK AT MOST 1048576: true; the input reads as it did. -/
def fnValidNetUptoRow : OpenClaim := { program := "ytiblcmeoneolcaa", sum := "f2f89774fdbb373031cc7e2365d17bb2f9f01aef00365e2059f83bf50b328a50", func := "loop.example/helpersinreach/laws.FnValidNet", spec := "fnValidNet", unfollowed := true, recurses := true, apart := false, narrowed := true }
def FnValidNetUptoSaid : Prop := fnValidNetUptoRow.holds Try.pinned (OpenSpec.upto fnValidNetSpec)

/-- 'laws.FnNetTable', WHERE WHAT IT READS IS OF BULK AT MOST 1048576: true; the input reads as it did. -/
def fnNetTableUptoRow : OpenClaim := { program := "ytiblcmeoneolcaa", sum := "f2f89774fdbb373031cc7e2365d17bb2f9f01aef00365e2059f83bf50b328a50", func := "loop.example/helpersinreach/laws.FnNetTable", spec := "fnNetTable", unfollowed := true, recurses := true, apart := false, narrowed := true }
def FnNetTableUptoSaid : Prop := fnNetTableUptoRow.holds Try.pinned (OpenSpec.upto fnNetTableSpec)

/-- 'laws.FnNetByMiddles', WHERE WHAT IT READS IS OF BULK AT MOST 1048576: true; the input reads as it did. -/
def fnNetByMiddlesUptoRow : OpenClaim := { program := "ytiblcmeoneolcaa", sum := "f2f89774fdbb373031cc7e2365d17bb2f9f01aef00365e2059f83bf50b328a50", func := "loop.example/helpersinreach/laws.FnNetByMiddles", spec := "fnNetByMiddles", unfollowed := true, recurses := true, apart := false, narrowed := true }
def FnNetByMiddlesUptoSaid : Prop := fnNetByMiddlesUptoRow.holds Try.pinned (OpenSpec.upto fnNetByMiddlesSpec)

/-- 'laws.FnNetCover', WHERE WHAT IT READS IS OF BULK AT MOST 1048576: true; the input reads as it did. -/
def fnNetCoverUptoRow : OpenClaim := { program := "ytiblcmeoneolcaa", sum := "f2f89774fdbb373031cc7e2365d17bb2f9f01aef00365e2059f83bf50b328a50", func := "loop.example/helpersinreach/laws.FnNetCover", spec := "fnNetCover", unfollowed := true, recurses := true, apart := false, narrowed := true }
def FnNetCoverUptoSaid : Prop := fnNetCoverUptoRow.holds Try.pinned (OpenSpec.upto fnNetCoverSpec)

/-- 'laws.FnNetApart', WHERE WHAT IT READS IS OF BULK AT MOST 1048576: true; the input reads as it did. -/
def fnNetApartUptoRow : OpenClaim := { program := "ytiblcmeoneolcaa", sum := "f2f89774fdbb373031cc7e2365d17bb2f9f01aef00365e2059f83bf50b328a50", func := "loop.example/helpersinreach/laws.FnNetApart", spec := "fnNetApart", unfollowed := true, recurses := true, apart := false, narrowed := true }
def FnNetApartUptoSaid : Prop := fnNetApartUptoRow.holds Try.pinned (OpenSpec.upto fnNetApartSpec)

/-- 'laws.FnNetFar', WHERE WHAT IT READS IS OF BULK AT MOST 1048576: true; the input reads as it did. -/
def fnNetFarUptoRow : OpenClaim := { program := "ytiblcmeoneolcaa", sum := "f2f89774fdbb373031cc7e2365d17bb2f9f01aef00365e2059f83bf50b328a50", func := "loop.example/helpersinreach/laws.FnNetFar", spec := "fnNetFar", unfollowed := true, recurses := true, apart := false, narrowed := true }
def FnNetFarUptoSaid : Prop := fnNetFarUptoRow.holds Try.pinned (OpenSpec.upto fnNetFarSpec)

/-- 'laws.FnFarthestFirst', WHERE WHAT IT READS IS OF BULK AT MOST 1048576: true; the input reads as it did. -/
def fnFarthestFirstUptoRow : OpenClaim := { program := "ytiblcmeoneolcaa", sum := "f2f89774fdbb373031cc7e2365d17bb2f9f01aef00365e2059f83bf50b328a50", func := "loop.example/helpersinreach/laws.FnFarthestFirst", spec := "fnFarthestFirst", unfollowed := true, recurses := true, apart := false, narrowed := true }
def FnFarthestFirstUptoSaid : Prop := fnFarthestFirstUptoRow.holds Try.pinned (OpenSpec.upto fnFarthestFirstSpec)

/-- 'laws.FnFarthestIsFirst', WHERE WHAT IT READS IS OF BULK AT MOST 1048576: true; the input reads as it did. -/
def fnFarthestIsFirstUptoRow : OpenClaim := { program := "ytiblcmeoneolcaa", sum := "f2f89774fdbb373031cc7e2365d17bb2f9f01aef00365e2059f83bf50b328a50", func := "loop.example/helpersinreach/laws.FnFarthestIsFirst", spec := "fnFarthestIsFirst", unfollowed := true, recurses := true, apart := false, narrowed := true }
def FnFarthestIsFirstUptoSaid : Prop := fnFarthestIsFirstUptoRow.holds Try.pinned (OpenSpec.upto fnFarthestIsFirstSpec)

end Rows
end Go.Proofs.Ytiblcmeoneolcaa
