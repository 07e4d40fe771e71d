/-
  Helpers drawn.
  Conditions: none beyond what each theorem states.
-/
import Derived.Test.YtoohfipicmdohabGL
namespace Go.Proofs.Ytoohfipicmdohab
open Go.ChangeShapes Go.WideShapes Go.ChangeAt Go.RowKit
set_option linter.unusedVariables false

set_option maxHeartbeats 400000 in
theorem helpers_any (R B k : Nat) (w : World) (hg : GR w B R k) (hk : k ≤ 90000) :
    Calls Try.prog 36 #[.pointer (some ⟨R, 0, none⟩)] w (OnePost B R k 0 5 w) := by
  go_enter Try.func36, Try.ntmps36
  go_wp2_with fail
  refine (oneLit R B k [2, 3, 1, 4, 2, 3, 0, 5, 1, 2] 10 0 5 w _ hg (by omega) rfl (by omega) (by omega) rfl (by decide)).mono ?_
  rintro e w2 ⟨m, rfl, hm2, hm3, hg2, hgr2⟩
  go_wp2
  go_ret
  exact ⟨m, rfl, hm2, hm3, hg2, hgr2⟩
end Go.Proofs.Ytoohfipicmdohab
