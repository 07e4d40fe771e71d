/-
  slices.Insert and slices.Clone at a list of places: one more shop put in.
  Conditions: at most a hundred places.
-/
import Derived.Test.Ythphboeboiallaa0K
import Derived.Test.Ythphboeboiallaa0NC
import Derived.Shelf.Spec.SlicesInsertGrow
namespace Go.Proofs.Ythphboeboiallaa
open Go.ChangeShapes Go.WideShapes Go.ChangeAt Go.RowKit
set_option linter.unusedVariables false
set_option maxRecDepth 4000

def renQ : Go.Shelf.Ren := ⟨fun | 21 => 71 | 27 => 77 | 28 => 78 | 35 => 80 | 39 => 81 | n => n, fun | 0 => 0 | 3 => 3 | 4 => 4 | 22 => 23 | n => n, fun n => n⟩
theorem laysQ : Lays2.n21 Try.prog renQ := {
  mixed := by kernel_rfl
  f21 := by kernel_rfl
  f27 := by kernel_rfl
  f28 := by kernel_rfl
  f35 := by kernel_rfl
  f39 := by kernel_rfl
  t0 := Try.underlying0
  a0 := Try.isAgg0
  z0 := Try.sizeOf0
  v0 := Try.zeroValue0
  t3 := Try.underlying3
  a3 := Try.isAgg3
  z3 := Try.sizeOf3
  v3 := Try.zeroValue3
  t4 := Try.underlying4
  a4 := Try.isAgg4
  z4 := Try.sizeOf4
  v4 := Try.zeroValue4
  t22 := Try.underlying23
  a22 := Try.isAgg23
  z22 := Try.sizeOf23
  v22 := Try.zeroValue23
  i3 := by kernel_rfl }
end Go.Proofs.Ythphboeboiallaa
