/-
  The law FnExactValidHomes: the program's answer is the model's, and the argument stays.
  Conditions: none.
-/
import Derived.Test.YteljokinfflafaaL2
import Derived.Test.YteljokinfflafaaE0
namespace Go.Proofs.Yteljokinfflafaa
open Go.ChangeShapes Go.WideShapes Go.ChangeAt Go.RowKit
set_option linter.unusedVariables false

theorem sValidHomes_any (A : Option Addr) (c n : Nat) (zs : List Int) (w : World) (B : Nat) (hr : RdI w B A zs) (hn : zs.length = n) (hb : n ≤ 1152921504606846976) :
    Calls Try.prog 17 #[.slice A n c] w fun e w' => e = .returned (.bool (vh zs)) ∧ ∃ q, w' = w.drewN q := by
  go_enter Try.func17, Try.ntmps17
  go_wp2_with fail
  refine (sValid_any A c n zs w B hr hn hb).mono ?_
  rintro e w' ⟨rfl, q, rfl⟩
  go_wp2
  go_ret
  exact ⟨rfl, _, rfl⟩

theorem exValidHomes_walk (A : Option Addr) (c : Nat) (zs : List Int) (w : World) (hr : RdI w w.heap.size A zs) (hm : zs.length ≤ maxLen) :
    Calls Try.prog 11 #[.slice A zs.length c] w fun e w' => e = .returned (.bool true) ∧ Below w.heap.size w w' := by
  unfold maxLen at hm
  by_cases hb : 1048576 < zs.length
  · go_enter Try.func11, Try.ntmps11
    go_wp2
    go_ret
    exact ⟨rfl, Below.refl _ _⟩
  · go_enter Try.func11, Try.ntmps11
    go_wp2_with fail
    refine (toInt_any A c _ zs w hr rfl (by omega)).mono ?_
    rintro e w1 ⟨b1, rfl, hb1, hr1, hnx1, -⟩
    go_wp2_with fail
    refine (sValidHomes_any _ _ _ zs w1 _ hr1 rfl (by omega)).mono ?_
    rintro e w' ⟨rfl, q1, rfl⟩
    go_wp2_with fail
    have hra := (hr.below hnx1).more hnx1.size
    refine (toInt_any A c _ zs (w1.drewN q1) hra rfl (by omega)).mono ?_
    rintro e w2 ⟨b2, rfl, hb2, hr2, hnx2', -⟩
    have hnx2 := below_from hnx2'
    go_wp2_with fail
    refine (iValid_any _ _ _ zs w2 _ hr2 rfl (by omega)).mono ?_
    rintro e w' ⟨rfl, rfl⟩
    go_wp2_with fail
    have hrb := (hra.below hnx2).more hnx2.size
    refine (toInt_any A c _ zs w2 hrb rfl (by omega)).mono ?_
    rintro e w3 ⟨b3, rfl, hb3, hr3, hnx3, -⟩
    go_wp2_with fail
    refine (eqInt_same _ _ _ _ _ _ zs w3 _ _ (hr2.below hnx3) rfl hr3 rfl (by omega)).mono ?_
    rintro e w' ⟨rfl, q2, rfl⟩
    go_wp2
    go_ret
    exact ⟨rfl, below_drewN ((hnx1.trans ((hnx2.mono hnx1.size).trans (hnx3.mono (Nat.le_trans hnx1.size hnx2.size)))) ) _⟩
end Go.Proofs.Yteljokinfflafaa
