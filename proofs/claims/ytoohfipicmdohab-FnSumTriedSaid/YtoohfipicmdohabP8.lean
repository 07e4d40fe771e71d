/-
  The law FnSumTried: what is tried is by groups.
  Conditions: none.
-/
import Derived.Test.YtoohfipicmdohabS12
import Derived.Test.YtoohfipicmdohabS9
import Derived.Test.YtoohfipicmdohabD1
namespace Go.Proofs.Ytoohfipicmdohab
open Go.ChangeShapes Go.WideShapes Go.ChangeAt Go.RowKit
set_option linter.unusedVariables false

set_option maxHeartbeats 800000 in
theorem lawSumTried_walk (A : Option Addr) (c : Nat) (bs : List Int) (w : World) (hr : RdB w w.heap.size A bs) (hcap : bs.length ≤ c) (hm : c ≤ maxLen) :
    Calls Try.prog 4 #[.slice A bs.length c] w fun e w' => e = .returned (.bool true) ∧ Below w.heap.size w w' := by
  unfold maxLen at hm
  by_cases hb : 1048576 < bs.length
  · go_enter Try.func4, Try.ntmps4
    go_wp2
    go_ret
    exact ⟨rfl, Below.refl _ _⟩
  · have H := Lib.hid (drawSumTried_any A c bs.length bs w hr rfl hcap hm)
    go_enter Try.func4, Try.ntmps4
    go_wp2_with fail
    refine H.out.mono ?_
    rintro e w1 ⟨A', c', xs, k, rfl, hk1, hk2, hl, hc1, hc2, hrd, hnx⟩
    have hor := stri_or (zs := xs) (k := k)
    obtain ⟨o, Ho⟩ : ∃ o, Hid (stri xs k = o) := ⟨_, rfl⟩
    rw [Ho.out] at hor
    go_wp2_with fail
    refine (iSumTried_any A' c' xs.length xs k w1 _ hrd rfl (by omega)).mono ?_
    rintro e w' ⟨rfl, rfl⟩
    rw [Ho.out]
    go_wp2_with fail
    refine (sSumTried_b A' c' xs.length xs k w1 _ hrd rfl (by omega) (Nat.le_refl _)).mono ?_
    rintro e w2 ⟨rfl, hnx2⟩
    rw [Ho.out]
    have hnx3 := hnx.trans (hnx2.mono hnx.size)
    have hrd2 := (hrd.below hnx2).more hnx2.size
    clear hnx2
    rcases hor with ho | ⟨ho, hol⟩
    · go_wp2_with fail
      refine (sSumTried_b A' c' xs.length xs k w2 _ hrd2 rfl (by omega) (Nat.le_refl _)).mono ?_
      rintro e w3 ⟨rfl, hnx4⟩
      rw [Ho.out]
      go_wp2
      go_ret
      exact ⟨rfl, hnx3.trans (hnx4.mono hnx3.size)⟩
    · have Hol := Lib.hid hol
      clear hol
      go_wp2_with fail
      refine (iLeastSum_b A' c' xs.length xs k w2 _ hrd2 rfl (by omega) (Nat.le_refl _) hc1 hc2).mono ?_
      rintro e w3 ⟨rfl, hnx4⟩
      rw [← Hol.out]
      go_wp2
      go_ret
      exact ⟨rfl, hnx3.trans (hnx4.mono hnx3.size)⟩
end Go.Proofs.Ytoohfipicmdohab
