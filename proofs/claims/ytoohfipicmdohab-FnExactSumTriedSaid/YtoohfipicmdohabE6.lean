/-
  The law FnExactSumTried: the program's answer is the model's, and the argument stays.
  Conditions: none.
-/
import Derived.Test.YtoohfipicmdohabUT
import Derived.Test.YtoohfipicmdohabS9
import Derived.Test.YtoohfipicmdohabE0
namespace Go.Proofs.Ytoohfipicmdohab
open Go.ChangeShapes Go.WideShapes Go.ChangeAt Go.RowKit
set_option linter.unusedVariables false

theorem exSumTried_walk (A : Option Addr) (c : Nat) (zs : List Int) (k : Int) (w : World) (hr : RdI w w.heap.size A zs) (hm : zs.length ≤ maxLen) (hk : (Lit.int .i64 k).wf = true) :
    Calls Try.prog 11 #[.slice A zs.length c, .int .i64 k] w fun e w' => e = .returned (.bool true) ∧ Below w.heap.size w w' := by
  unfold maxLen at hm
  have Hk := Lib.hid hk
  clear hk
  by_cases hb : 1048576 < zs.length
  · go_enter Try.func11, Try.ntmps11
    go_wp2
    go_ret
    exact ⟨rfl, Below.refl _ _⟩
  · go_enter Try.func11, Try.ntmps11
    go_wp2_with fail
    refine (toInt_any A c _ zs w hr rfl (by omega)).mono ?_
    rintro e w1 ⟨b1, rfl, hb1, hr1, hnx1, -⟩
    go_wp2_with fail
    refine (sSumTried_b _ _ _ zs k w1 _ hr1 rfl (by omega) (Nat.le_refl _)).mono ?_
    rintro e w2 ⟨rfl, hq1⟩
    have hnx2 := hnx1.trans (hq1.mono hnx1.size)
    clear hq1
    go_wp2_with fail
    have hra := (hr.below hnx2).more hnx2.size
    refine (toInt_any A c _ zs w2 hra rfl (by omega)).mono ?_
    rintro e w3 ⟨b3, rfl, hb3, hr3, hnx3', -⟩
    have hnx3 := hnx2.trans (hnx3'.mono hnx2.size)
    go_wp2_with fail
    refine (iSumTried_b _ _ _ zs k w3 _ hr3 rfl (by omega) (Nat.le_refl _)).mono ?_
    rintro e w4 ⟨rfl, hq4⟩
    have hnx4 := hnx3.trans (hq4.mono hnx3.size)
    go_wp2_with fail
    have hrb := (hr.below hnx4).more hnx4.size
    refine (toInt_any A c _ zs w4 hrb rfl (by omega)).mono ?_
    rintro e w5 ⟨b5, rfl, hb5, hr5, hnx5', -⟩
    have hnx5 := hnx4.trans (hnx5'.mono hnx4.size)
    go_wp2_with fail
    refine (eqInt_same _ _ _ _ _ _ zs w5 _ _ (((hr3.below hq4).more hq4.size).below hnx5') rfl hr5 rfl (by omega)).mono ?_
    rintro e w' ⟨rfl, q2, rfl⟩
    go_wp2
    go_ret
    exact ⟨rfl, below_drewN hnx5 _⟩
end Go.Proofs.Ytoohfipicmdohab
