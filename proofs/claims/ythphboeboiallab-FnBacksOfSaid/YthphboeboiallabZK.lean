/-
  Closed facts of this seat's program, each a theorem of its own.
  Conditions: none.
-/
import Derived.Test.YthphboeboiallabU
namespace Go.Proofs.Ythphboeboiallab
open Go.ChangeShapes Go.WideShapes Go.ChangeAt Go.RowKit
set_option linter.unusedVariables false

theorem seat_lift0 : (Rows.fnBacksOfRow.lifted == Try.pinned.checked.prog.liftsFinal) = true := by kernel_rfl
theorem seat_enter : Try.pinned.checked.prog.mayEnter = true := by kernel_rfl
theorem seat_make0 : (Try.pinned.checked.prog.make == some Rows.fnBacksOfRow.make) = true := by kernel_rfl
theorem seat_lift : Try.pinned.checked.prog.liftsFinal = Rows.fnBacksOfRow.lifted := (eq_of_beq seat_lift0).symm
theorem seat_make : Try.pinned.checked.prog.make = some Rows.fnBacksOfRow.make := eq_of_beq seat_make0
end Go.Proofs.Ythphboeboiallab
