/-
  There are at most seven lists of shops at rest.
  Conditions: as the theorem states.
-/
import Derived.Test.Ythphboeboiallaa0A
namespace Go.Proofs.Ythphboeboiallaa
open Go.ChangeShapes Go.WideShapes Go.ChangeAt Go.RowKit
set_option linter.unusedVariables false
set_option maxRecDepth 4000

theorem few_all : ((List.range 9).all fun n => (List.range 3).all fun k => decide ((rsS (n + 1) (k + 2)).length ≤ 7)) = true := by decide +kernel
theorem rsS_few {n k : Nat} (h1 : 1 ≤ n) (h9 : n ≤ 9) (h2 : 2 ≤ k) (h4 : k ≤ 4) : (rsS n k).length ≤ 7 := by
  have h := few_all
  simp only [List.all_eq_true, List.mem_range, decide_eq_true_eq] at h
  have := h (n - 1) (by omega) (k - 2) (by omega)
  rwa [show n - 1 + 1 = n by omega, show k - 2 + 2 = k by omega] at this
end Go.Proofs.Ythphboeboiallaa
