/-
  OnesCount of a set of at most seven homes.
  Conditions: the set is below 128.
-/
import Derived.Test.YtoohfipicmdohabU2
namespace Go.Proofs.Ytoohfipicmdohab
open Go.ChangeShapes Go.WideShapes Go.ChangeAt Go.RowKit
set_option linter.unusedVariables false

def oc1 (x : Int) : Int := IntKind.u64.wrap (bits BinOp.and IntKind.u64 (x / 2) 6148914691236517205 + bits BinOp.and IntKind.u64 x 6148914691236517205)
def oc2 (x : Int) : Int := IntKind.u64.wrap (bits BinOp.and IntKind.u64 (x / 4) 3689348814741910323 + bits BinOp.and IntKind.u64 x 3689348814741910323)
def oc3 (x : Int) : Int := bits BinOp.and IntKind.u64 (IntKind.u64.wrap (x / 16 + x)) 1085102592571150095
def oc4 (x : Int) : Int := IntKind.u64.wrap (x + x / 256)
def oc5 (x : Int) : Int := IntKind.u64.wrap (x + x / 65536)
def oc6 (x : Int) : Int := IntKind.u64.wrap (x + x / 4294967296)
def oc (x : Int) : Int := bits BinOp.and IntKind.i64 (wrap64 (oc6 (oc5 (oc4 (oc3 (oc2 (oc1 x))))))) 127
/-- The homes of a set, in order. -/
def bitsOf (s : Nat) : List Nat := (List.range 7).filter (fun i => s.testBit i)
theorem oc_all : ∀ s : Fin 128, oc (s.val : Int) = ((bitsOf s.val).length : Int) := by decide +kernel
theorem oc_small {s : Nat} (h : s < 128) : oc (s : Int) = ((bitsOf s).length : Int) := oc_all ⟨s, h⟩

set_option maxHeartbeats 1000000 in
theorem ones64_small (s : Nat) (hs : s < 128) (w : World) :
    Calls Try.prog 60 #[.int .u64 s] w fun e w' => e = .returned (.int .i64 ((bitsOf s).length : Int)) ∧ w = w' := by
  have H := Lib.hid (oc_small hs)
  go_enter Try.func60, Try.ntmps60
  go_wp2
  go_ret
  refine ⟨?_, rfl⟩
  rw [← H.out]
  rfl
theorem ones_small (s : Nat) (hs : s < 128) (w : World) :
    Calls Try.prog 45 #[.int .u64 s] w fun e w' => e = .returned (.int .i64 ((bitsOf s).length : Int)) ∧ w = w' := by
  have H := Lib.hid (ones64_small s hs w)
  go_enter Try.func45, Try.ntmps45
  go_wp2_with fail
  refine H.out.mono ?_
  rintro e w' ⟨rfl, rfl⟩
  go_wp2
  go_ret
  exact ⟨rfl, rfl⟩
end Go.Proofs.Ytoohfipicmdohab
