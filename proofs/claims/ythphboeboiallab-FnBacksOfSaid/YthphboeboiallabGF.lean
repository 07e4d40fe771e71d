/-
  How far drawn.
  Conditions: none beyond what each theorem states.
-/
import Derived.Test.YthphboeboiallabGL
namespace Go.Proofs.Ythphboeboiallab
open Go.ChangeShapes Go.WideShapes Go.ChangeAt Go.RowKit
set_option linter.unusedVariables false
set_option maxRecDepth 4000

set_option maxHeartbeats 400000 in
theorem aFar_any (R B k : Nat) (w : World) (hg : GR w B R k) (hk : k ≤ 90000) :
    Calls Try.prog 37 #[.pointer (some ⟨R, 0, none⟩)] w (OnePost B R k (-1) 51 w) := by
  go_enter Try.func37, Try.ntmps37
  go_wp2_with fail
  refine (oneLit R B k [2, 3, 1, 5, 0, 4, 8, 12, 50, 51, -1] 11 (-1) 51 w _ hg (by omega) rfl (by omega) (by omega) rfl (by decide)).mono ?_
  rintro e w2 ⟨m, rfl, hm2, hm3, hg2, hgr2⟩
  go_wp2
  go_ret
  exact ⟨m, rfl, hm2, hm3, hg2, hgr2⟩
end Go.Proofs.Ythphboeboiallab
