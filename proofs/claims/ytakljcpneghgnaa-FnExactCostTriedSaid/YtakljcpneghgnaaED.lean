/-
  The exact laws of the functions on costs, from their contracts.
  Conditions: none (the laws ask nothing of rows too many or too long).
-/
import Derived.Test.YtakljcpneghgnaaCF
import Derived.Test.YtakljcpneghgnaaWC
namespace Go.Proofs.Ytakljcpneghgnaa
open Go.ChangeShapes Go.WideShapes Go.ChangeAt Go.RowKit
set_option linter.unusedVariables false
set_option maxRecDepth 4000

set_option maxHeartbeats 1600000 in
theorem exCostTried_of (HI : CNum 34 ctv) (A : Option Addr) (c : Nat) (cost : List (List Int)) (w : World) (hw : RdV w w.heap.size A cost) (hmw : cost.length ≤ maxLen) :
    Calls Try.prog 16 #[.slice A cost.length c] w fun e w' => e = .returned (.bool true) ∧ Below w.heap.size w w' := by
  unfold maxLen at hmw
  obtain ⟨n, Hn⟩ : ∃ n, Hid (cost.length = n) := ⟨_, rfl⟩
  rw [Hn.out] at hmw ⊢
  have HI' := Lib.hid HI
  have Hz := Lib.hid (szV_any A c n cost w hw Hn.out hmw)
  have HW := Lib.hid hw
  clear HI hw
  go_enter Try.func16, Try.ntmps16
  go_wp2_with fail
  refine Hz.out.mono ?_
  rintro e w' ⟨q, rfl, rfl, hsm⟩
  by_cases hq : q < 0
  · clear hsm
    go_wp2
    go_ret
    exact ⟨rfl, Below.refl _ _⟩
  have Hsm := Lib.hid (hsm (by omega))
  have hq0 : 0 ≤ q := by omega
  have hn20 : n ≤ 1048576 := by rw [← Hn.out]; exact Hsm.out.1
  clear hsm
  go_wp2_with fail
  refine (toV_any A c n cost w HW.out Hn.out Hsm.out).mono ?_
  rintro e w2 ⟨b2, rfl, hb2, hr2, h12⟩
  rw [Hn.out]
  go_wp2_with fail
  refine (sCostTried_ok _ _ _ cost w2 ⟨hr2, Hn.out, ⟨Nat.le_refl _, by omega⟩, Hsm.out⟩).mono ?_
  rintro e w3 ⟨rfl, hnx3⟩
  obtain ⟨a, Ha⟩ : ∃ a, Hid (ctv cost = a) := ⟨_, rfl⟩
  rw [Ha.out]
  have h13 := h12.trans (hnx3.mono h12.size)
  clear hr2
  go_wp2_with fail
  refine (toV_any A c n cost w3 ((HW.out.below h13).more h13.size) Hn.out Hsm.out).mono ?_
  rintro e w5 ⟨b5, rfl, hb5, hr5, hnx5⟩
  rw [Hn.out]
  have h15 := h13.trans (hnx5.mono h13.size)
  go_wp2_with fail
  refine (HI'.out _ _ _ cost w5 ⟨hr5, Hn.out, ⟨Nat.le_refl _, by omega⟩, Hsm.out⟩).mono ?_
  rintro e w6 ⟨rfl, hnx6⟩
  rw [Ha.out]
  have h16 := h15.trans (hnx6.mono h15.size)
  have hr56 := (hr5.below hnx6).more hnx6.size
  have hbn : ∀ x : Int, (x != x) = false := fun x => by simp
  clear hr5
  go_wp2_with fail
  refine (toV_any A c n cost w6 ((HW.out.below h16).more h16.size) Hn.out Hsm.out).mono ?_
  rintro e w9 ⟨b9, rfl, hb9, hr9, hnx9⟩
  rw [Hn.out]
  have h19 := h16.trans (hnx9.mono h16.size)
  have hr59 := (hr56.below hnx9).more hnx9.size
  go_wp2_with fail
  refine (eqV_same _ _ _ _ _ _ cost w9 _ _ hr59 Hn.out hr9 Hn.out Hsm.out).mono ?_
  rintro e w10 ⟨rfl, q10, rfl⟩
  go_wp2
  go_ret
  exact ⟨rfl, below_drewN h19 q10⟩
end Go.Proofs.Ytakljcpneghgnaa
