/-
  FnSumTried and FnLeastSum, walked (one text, since a claim has at most 60 files).
  Conditions: as each theorem states.
-/
import Derived.Test.YtoohfipicmdohabS12
import Derived.Test.YtoohfipicmdohabS9
import Derived.Test.YtoohfipicmdohabD1
import Derived.Test.YtoohfipicmdohabG4
namespace Go.Proofs.Ytoohfipicmdohab
open Go.ChangeShapes Go.WideShapes Go.ChangeAt Go.RowKit
set_option linter.unusedVariables false

set_option maxHeartbeats 800000 in
theorem lawSumTried_walk (A : Option Addr) (c : Nat) (bs : List Int) (w : World) (hr : RdB w w.heap.size A bs) (hcap : bs.length ≤ c) (hm : c ≤ maxLen) :
    Calls Try.prog 4 #[.slice A bs.length c] w fun e w' => e = .returned (.bool true) ∧ Below w.heap.size w w' := by
  unfold maxLen at hm
  by_cases hb : 1048576 < bs.length
  · go_enter Try.func4, Try.ntmps4
    go_wp2
    go_ret
    exact ⟨rfl, Below.refl _ _⟩
  · have H := Lib.hid (drawSumTried_any A c bs.length bs w hr rfl hcap hm)
    go_enter Try.func4, Try.ntmps4
    go_wp2_with fail
    refine H.out.mono ?_
    rintro e w1 ⟨A', c', xs, k, rfl, hk1, hk2, hl, hc1, hc2, hrd, hnx⟩
    have hor := stri_or (zs := xs) (k := k)
    obtain ⟨o, Ho⟩ : ∃ o, Hid (stri xs k = o) := ⟨_, rfl⟩
    rw [Ho.out] at hor
    go_wp2_with fail
    refine (iSumTried_any A' c' xs.length xs k w1 _ hrd rfl (by omega)).mono ?_
    rintro e w' ⟨rfl, rfl⟩
    rw [Ho.out]
    go_wp2_with fail
    refine (sSumTried_b A' c' xs.length xs k w1 _ hrd rfl (by omega) (Nat.le_refl _)).mono ?_
    rintro e w2 ⟨rfl, hnx2⟩
    rw [Ho.out]
    have hnx3 := hnx.trans (hnx2.mono hnx.size)
    have hrd2 := (hrd.below hnx2).more hnx2.size
    clear hnx2
    rcases hor with ho | ⟨ho, hol⟩
    · go_wp2_with fail
      refine (sSumTried_b A' c' xs.length xs k w2 _ hrd2 rfl (by omega) (Nat.le_refl _)).mono ?_
      rintro e w3 ⟨rfl, hnx4⟩
      rw [Ho.out]
      go_wp2
      go_ret
      exact ⟨rfl, hnx3.trans (hnx4.mono hnx3.size)⟩
    · have Hol := Lib.hid hol
      clear hol
      go_wp2_with fail
      refine (iLeastSum_b A' c' xs.length xs k w2 _ hrd2 rfl (by omega) (Nat.le_refl _) hc1 hc2).mono ?_
      rintro e w3 ⟨rfl, hnx4⟩
      rw [← Hol.out]
      go_wp2
      go_ret
      exact ⟨rfl, hnx3.trans (hnx4.mono hnx3.size)⟩
end Go.Proofs.Ytoohfipicmdohab
namespace Go.Proofs.Ytoohfipicmdohab
open Go.ChangeShapes Go.WideShapes Go.ChangeAt Go.RowKit
set_option linter.unusedVariables false

theorem lsum_neg {zs : List Int} {k : Int} (h : ¬ (vh zs = true ∧ vk k = true)) : lsum zs k = -1 := lsum_no h

set_option maxHeartbeats 1600000 in
theorem lawLeastSum_walk (A : Option Addr) (c : Nat) (bs : List Int) (w : World) (hr : RdB w w.heap.size A bs) (hcap : bs.length ≤ c) (hm : c ≤ maxLen) :
    Calls Try.prog 3 #[.slice A bs.length c] w fun e w' => e = .returned (.bool true) ∧ Below w.heap.size w w' := by
  unfold maxLen at hm
  by_cases hb : 1048576 < bs.length
  · go_enter Try.func3, Try.ntmps3
    go_wp2
    go_ret
    exact ⟨rfl, Below.refl _ _⟩
  · have H := Lib.hid (drawLeastSum_any A c bs.length bs w hr rfl hcap hm)
    go_enter Try.func3, Try.ntmps3
    go_wp2_with fail
    refine H.out.mono ?_
    rintro e w1 ⟨A', c', xs, k, rfl, hk1, hk2, hl, hc1, hc2, hrd, hnx⟩
    obtain ⟨o, Ho⟩ : ∃ o, Hid (lsum xs k = o) := ⟨_, rfl⟩
    by_cases hv : vh xs = true ∧ vk k = true
    · have Hbd : Hid (∀ x ∈ xs, -100 ≤ x ∧ x ≤ 100) := fun x hx => by have := (vh_iff.1 hv.1).2.2 x hx; omega
      have ho := lsum_nonneg hv.1 hv.2
      have hmo := lsum_more hv.1 hv.2
      have hto := stri_or (zs := xs) (k := k)
      have Hm := Lib.hid (lsum_mirr hv.1 hv.2)
      obtain ⟨m, Hmo⟩ : ∃ m, Hid (lsum xs (k + 1) = m) := ⟨_, rfl⟩
      obtain ⟨t, Hto⟩ : ∃ t, Hid (stri xs k = t) := ⟨_, rfl⟩
      rw [Ho.out] at ho hmo hto
      rw [Hmo.out] at hmo
      rw [Hto.out] at hto
      clear hv
      go_wp2_with fail
      refine (iLeastSum_b A' c' xs.length xs k w1 _ hrd rfl (by omega) (Nat.le_refl _) hc1 hc2).mono ?_
      rintro e w2 ⟨rfl, hnx2⟩
      rw [Ho.out]
      have hnx3 := hnx.trans (hnx2.mono hnx.size)
      have hrd2 := (hrd.below hnx2).more hnx2.size
      clear hnx2 hrd hnx
      go_wp2_with fail
      refine (sLeastSum_b A' c' xs.length xs k w2 _ hrd2 rfl (by omega) (Nat.le_refl _) hc1 hc2).mono ?_
      rintro e w3 ⟨rfl, hnx4⟩
      rw [Ho.out]
      have hnx5 := hnx3.trans (hnx4.mono hnx3.size)
      have hrd3 := (hrd2.below hnx4).more hnx4.size
      clear hnx4 hrd2 hnx3
      go_wp2_with fail
      refine (iSumTried_any A' c' xs.length xs k w3 _ hrd3 rfl (by omega)).mono ?_
      rintro e w' ⟨rfl, rfl⟩
      rw [Hto.out]
      go_wp2_with fail
      refine (iLeastSum_b A' c' xs.length xs (k + 1) w3 _ hrd3 rfl (by omega) (Nat.le_refl _) hc1 hc2).mono ?_
      rintro e w4 ⟨rfl, hnx6⟩
      rw [Hmo.out]
      have hnx7 := hnx5.trans (hnx6.mono hnx5.size)
      have hrd4 := (hrd3.below hnx6).more hnx6.size
      clear hnx6 hrd3 hnx5
      rcases hto with hto | ⟨hto, rfl⟩ <;> rcases hmo with hmo | ⟨hmo, hmo2⟩
      all_goals
        go_wp2_with fail
        refine (mirrored_any A' c' xs.length xs w4 hrd4 rfl (by omega) Hbd.out).mono ?_
        rintro e w5 ⟨A4, c4, rfl, hc41, hc42, hrd5, hnx8⟩
        go_wp2_with fail
        refine (iLeastSum_b A4 c4 xs.length (mirr xs) k w5 _ hrd5 (mirr_length xs) (by omega) (Nat.le_refl _) hc41 hc42).mono ?_
        rintro e w6 ⟨rfl, hnx9⟩
        rw [Hm.out, Ho.out]
        go_wp2
        go_ret
        have hnx10 := hnx7.trans (hnx8.mono hnx7.size)
        exact ⟨rfl, hnx10.trans (hnx9.mono hnx10.size)⟩
    · have ho : o = -1 := by rw [← Ho.out]; exact lsum_neg hv
      subst ho
      clear hv
      go_wp2_with fail
      refine (iLeastSum_b A' c' xs.length xs k w1 _ hrd rfl (by omega) (Nat.le_refl _) hc1 hc2).mono ?_
      rintro e w2 ⟨rfl, hnx2⟩
      rw [Ho.out]
      have hnx3 := hnx.trans (hnx2.mono hnx.size)
      have hrd2 := (hrd.below hnx2).more hnx2.size
      go_wp2_with fail
      refine (sLeastSum_b A' c' xs.length xs k w2 _ hrd2 rfl (by omega) (Nat.le_refl _) hc1 hc2).mono ?_
      rintro e w3 ⟨rfl, hnx4⟩
      rw [Ho.out]
      have hnx5 := hnx3.trans (hnx4.mono hnx3.size)
      have hrd3 := (hrd2.below hnx4).more hnx4.size
      go_wp2_with fail
      refine (sLeastSum_b A' c' xs.length xs k w3 _ hrd3 rfl (by omega) (Nat.le_refl _) hc1 hc2).mono ?_
      rintro e w4 ⟨rfl, hnx6⟩
      rw [Ho.out]
      go_wp2
      go_ret
      exact ⟨rfl, hnx5.trans (hnx6.mono hnx5.size)⟩
end Go.Proofs.Ytoohfipicmdohab
