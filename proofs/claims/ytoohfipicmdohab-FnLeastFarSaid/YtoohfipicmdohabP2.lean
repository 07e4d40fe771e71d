/-
  The law FnFewestNear: fewest helpers are most homes apart, farther no greater, and from the other end the same.
  Conditions: none.
-/
import Derived.Test.YtoohfipicmdohabM3
import Derived.Test.YtoohfipicmdohabD1
import Derived.Test.YtoohfipicmdohabG4
import Derived.Test.YtoohfipicmdohabL8
namespace Go.Proofs.Ytoohfipicmdohab
open Go.ChangeShapes Go.WideShapes Go.ChangeAt Go.RowKit
set_option linter.unusedVariables false

theorem fewest_neg {zs : List Int} {far : Int} (h : ¬ (vh zs = true ∧ vfar far = true)) : fewest zs far = -1 := by simp [fewest, h]
theorem vh_bd {zs : List Int} (h : vh zs = true) : ∀ x ∈ zs, -100 ≤ x ∧ x ≤ 100 := fun x hx => by have := (vh_iff.1 h).2.2 x hx; omega
theorem fewest_ge {zs : List Int} {far : Int} (h : vh zs = true) (h' : vfar far = true) : 0 ≤ fewest zs far := by rw [fewest_yes h h']; exact few_nonneg
theorem fewest_more {zs : List Int} {far : Int} (h : vh zs = true) (h' : vfar far = true) : fewest zs (far + 1) < 0 ∨ (0 ≤ fewest zs (far + 1) ∧ fewest zs (far + 1) ≤ fewest zs far) := by
  unfold vfar at h'
  simp at h'
  by_cases h50 : far + 1 ≤ 50
  · exact .inr ⟨fewest_ge h (vfar_yes (by omega) h50), fewest_mono h h'.1 h50⟩
  · refine .inl ?_
    rw [fewest_no' (vfar_no (by omega))]
    decide

set_option maxHeartbeats 800000 in
theorem lawFewestNear_walk (A : Option Addr) (c : Nat) (bs : List Int) (w : World) (hr : RdB w w.heap.size A bs) (hcap : bs.length ≤ c) (hm : c ≤ maxLen) :
    Calls Try.prog 5 #[.slice A bs.length c] w fun e w' => e = .returned (.bool true) ∧ Below w.heap.size w w' := by
  unfold maxLen at hm
  by_cases hb : 1048576 < bs.length
  · go_enter Try.func5, Try.ntmps5
    go_wp2
    go_ret
    exact ⟨rfl, Below.refl _ _⟩
  · have H := Lib.hid (drawFewestNear_any A c bs.length bs w hr rfl hcap hm)
    go_enter Try.func5, Try.ntmps5
    go_wp2_with fail
    refine H.out.mono ?_
    rintro e w1 ⟨A', c', xs, far, rfl, hk1, hk2, hl, hc1, hc2, hrd, hnx⟩
    by_cases hv : vh xs = true ∧ vfar far = true
    · have Hbd := Lib.hid (vh_bd hv.1)
      have ho := fewest_ge hv.1 hv.2
      have hmo := fewest_more hv.1 hv.2
      obtain ⟨o, Ho⟩ : ∃ o, Hid (fewest xs far = o) := ⟨_, rfl⟩
      have Hm := Lib.hid (fewest_mirr (far := far) hv.1)
      obtain ⟨m, Hmo⟩ : ∃ m, Hid (fewest xs (far + 1) = m) := ⟨_, rfl⟩
      rw [Ho.out] at ho hmo
      rw [Hmo.out] at hmo
      clear hv
      go_wp2_with fail
      refine (iFewest_any A' c' xs.length xs far w1 _ hrd rfl (by omega)).mono ?_
      rintro e w' ⟨rfl, rfl⟩
      rw [Ho.out]
      go_wp2_with fail
      refine (sFewest_any A' c' xs.length xs far w1 _ hrd rfl (by omega)).mono ?_
      rintro e w' ⟨rfl, q, rfl⟩
      rw [Ho.out]
      go_wp2_with fail
      refine (iFewest_any A' c' xs.length xs (far + 1) (w1.drewN q) _ hrd rfl (by omega)).mono ?_
      rintro e w' ⟨rfl, rfl⟩
      rw [Hmo.out]
      go_wp2_with fail
      refine (iMost_any A' c' xs.length xs far (w1.drewN q) _ hrd (Nat.le_refl _) rfl hc1 hc2 (by omega)).mono ?_
      rintro e w2 ⟨rfl, hnx2⟩
      rw [mapart_fewest, Ho.out]
      have hnx2' := below_from hnx2
      have hnx3 := hnx.trans (hnx2'.mono hnx.size)
      have hrd2 := (hrd.below hnx2').more hnx2'.size
      clear hnx2
      rcases hmo with hmo | ⟨hmo, hmo2⟩
      all_goals
        go_wp2_with fail
        refine (mirrored_any A' c' xs.length xs w2 hrd2 rfl (by omega) Hbd.out).mono ?_
        rintro e w3 ⟨A4, c4, rfl, hc41, hc42, hrd4, hnx4⟩
        go_wp2_with fail
        refine (iFewest_any A4 c4 xs.length (mirr xs) far w3 _ hrd4 (mirr_length xs) (by omega)).mono ?_
        rintro e w' ⟨rfl, rfl⟩
        rw [Hm.out, Ho.out]
        go_wp2
        go_ret
        exact ⟨rfl, hnx3.trans (hnx4.mono hnx3.size)⟩
    · have Ho := Lib.hid (fewest_neg hv)
      clear hv
      go_wp2_with fail
      refine (iFewest_any A' c' xs.length xs far w1 _ hrd rfl (by omega)).mono ?_
      rintro e w' ⟨rfl, rfl⟩
      rw [Ho.out]
      go_wp2_with fail
      refine (sFewest_any A' c' xs.length xs far w1 _ hrd rfl (by omega)).mono ?_
      rintro e w' ⟨rfl, q, rfl⟩
      rw [Ho.out]
      go_wp2_with fail
      refine (sFewest_any A' c' xs.length xs far (w1.drewN q) _ hrd rfl (by omega)).mono ?_
      rintro e w' ⟨rfl, q2, rfl⟩
      rw [Ho.out]
      go_wp2
      go_ret
      exact ⟨rfl, below_drewN hnx _⟩
end Go.Proofs.Ytoohfipicmdohab
