/-
  How far two places are from each other: the program's distance, the model's gap.
  Conditions: places in -1000..1000.
-/
import Derived.Test.YthphboeboiallabU2
namespace Go.Proofs.Ythphboeboiallab
open Go.ChangeShapes Go.WideShapes Go.ChangeAt Go.RowKit
set_option linter.unusedVariables false

def gapI (a b : Int) : Int := if a - b < b - a then b - a else a - b
theorem gapI_nonneg (a b : Int) : 0 ≤ gapI a b := by unfold gapI; split <;> omega
theorem gapI_le {a b : Int} {M : Int} (h1 : -M ≤ a) (h2 : a ≤ M) (h3 : -M ≤ b) (h4 : b ≤ M) : gapI a b ≤ 2 * M := by unfold gapI; split <;> omega
theorem distance_any (a b : Int) (w : World) (h1 : -1000 ≤ a) (h2 : a ≤ 1000) (h3 : -1000 ≤ b) (h4 : b ≤ 1000) :
    Calls Try.prog 39 #[.int .i64 a, .int .i64 b] w fun e w' => e = .returned (.int .i64 (gapI a b)) ∧ w = w' := by
  go_enter Try.func39, Try.ntmps39
  go_wp2
  all_goals
    go_ret
    exact ⟨ret_int (by unfold gapI; split <;> omega), rfl⟩
theorem gap_any (a b : Int) (w : World) (h1 : -1000 ≤ a) (h2 : a ≤ 1000) (h3 : -1000 ≤ b) (h4 : b ≤ 1000) :
    Calls Try.prog 66 #[.int .i64 a, .int .i64 b] w fun e w' => e = .returned (.int .i64 (gapI a b)) ∧ w = w' := by
  go_enter Try.func66, Try.ntmps66
  go_wp2
  all_goals
    go_ret
    exact ⟨ret_int (by unfold gapI; split <;> omega), rfl⟩
end Go.Proofs.Ythphboeboiallab
