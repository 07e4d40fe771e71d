/-
  The law FnExactValidTree: the program's answer is the model's, and the argument stays.
  Conditions: none.
-/
import Derived.Test.YtoappopbjnlbdabR3
import Derived.Test.YtoappopbjnlbdabE0
namespace Go.Proofs.Ytoappopbjnlbdab
open Go.ChangeShapes Go.WideShapes Go.ChangeAt Go.RowKit
set_option linter.unusedVariables false

theorem eqR_same (A A' : Option Addr) (c c' n n' : Nat) (ts : List (Int × Int)) (w : World) (B B' : Nat) (hr : RdR w B A ts) (hn : ts.length = n) (hr' : RdR w B' A' ts) (hn' : ts.length = n') (hb : n ≤ 1048576) (hB : B ≤ w.heap.size) (hB' : B' ≤ w.heap.size) :
    Calls Try.prog 30 #[.slice A n c, .slice A' n' c'] w fun e w' => e = .returned (.bool true) ∧ Below w.heap.size w w' :=
  (eqR_any A A' c c' n n' ts ts w B B' hr hn hr' hn' hb hB hB').mono fun _ _ ⟨he, hw⟩ => ⟨by rw [he]; simp, hw⟩
theorem szR_big (A : Option Addr) (c n : Nat) (w : World) (hn : n ≤ 9223372036854775807) (h : 1048576 < n) :
    Calls Try.prog 28 #[.slice A n c, .int .i64 1048576] w fun e w' => e = .returned (.int .i64 (-1)) ∧ w = w' :=
  (szR_any A c n 1048576 w hn (by omega)).mono fun _ _ ⟨he, hw⟩ => ⟨by rw [he, if_pos (by omega)], hw⟩
theorem szR_fits (A : Option Addr) (c n : Nat) (w : World) (h : n ≤ 1048576) :
    Calls Try.prog 28 #[.slice A n c, .int .i64 1048576] w fun e w' => ∃ q : Int, 0 ≤ q ∧ e = .returned (.int .i64 q) ∧ w = w' :=
  (szR_any A c n 1048576 w (by omega) (by omega)).mono fun _ _ ⟨he, hw⟩ => ⟨1048576 - n, by omega, by rw [he, if_neg (by omega)], hw⟩

theorem exValidTree_walk (A : Option Addr) (c : Nat) (ts : List (Int × Int)) (w : World) (hr : RdR w w.heap.size A ts) (hm : ts.length ≤ maxLen) :
    Calls Try.prog 7 #[.slice A ts.length c] w fun e w' => e = .returned (.bool true) ∧ Below w.heap.size w w' := by
  by_cases hb : 1048576 < ts.length
  · go_enter Try.func7, Try.ntmps7
    go_wp2_with fail
    refine (szR_big A c _ w (by unfold maxLen at hm; omega) hb).mono ?_
    rintro e w' ⟨rfl, rfl⟩
    go_wp2
    go_ret
    exact ⟨rfl, Below.refl _ _⟩
  · go_enter Try.func7, Try.ntmps7
    go_wp2_with fail
    refine (szR_fits A c _ w (by omega)).mono ?_
    rintro e w' ⟨q, hq, rfl, rfl⟩
    go_wp2_with fail
    refine (toR_any A c _ ts w hr rfl (by omega)).mono ?_
    rintro e w1 ⟨b1, rfl, hb1, hr1, hnx1, -⟩
    go_wp2_with fail
    refine (sValidTree_any _ _ _ ts w1 _ hr1 rfl (by omega)).mono ?_
    rintro e w' ⟨rfl, rfl⟩
    go_wp2_with fail
    have hra := (hr.below hnx1).more hnx1.size
    refine (toR_any A c _ ts w1 hra rfl (by omega)).mono ?_
    rintro e w2 ⟨b2, rfl, hb2, hr2, hnx2, -⟩
    go_wp2_with fail
    refine (iValidTree_any _ _ _ ts w2 _ hr2 rfl (Nat.le_refl _) (by omega) (Nat.le_refl _)).mono ?_
    rintro e w3 ⟨rfl, hnx3⟩
    go_wp2_with fail
    have hrb := ((hra.below hnx2).more hnx2.size |>.below hnx3).more hnx3.size
    refine (toR_any A c _ ts w3 hrb rfl (by omega)).mono ?_
    rintro e w4 ⟨b4, rfl, hb4, hr4, hnx4, -⟩
    go_wp2_with fail
    refine (eqR_same _ _ _ _ _ _ ts w4 _ _ ((hr2.below hnx3).below (hnx4.mono hnx3.size)) rfl hr4 rfl (by omega) (Nat.le_trans hnx3.size hnx4.size) (Nat.le_refl _)).mono ?_
    rintro e w5 ⟨rfl, hnx5⟩
    have h12 := hnx1.trans (hnx2.mono hnx1.size)
    have h13 := h12.trans (hnx3.mono h12.size)
    have h14 := h13.trans (hnx4.mono h13.size)
    have h15 := h14.trans (hnx5.mono h14.size)
    go_wp2
    go_ret
    exact ⟨rfl, h15⟩
end Go.Proofs.Ytoappopbjnlbdab
