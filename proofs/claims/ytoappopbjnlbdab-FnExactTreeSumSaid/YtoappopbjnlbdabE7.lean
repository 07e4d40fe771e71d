/-
  The law FnExactTreeSum: the program's answer is the model's, and the arguments stay.
  Conditions: none.
-/
import Derived.Test.YtoappopbjnlbdabUT
import Derived.Test.YtoappopbjnlbdabF3
import Derived.Test.YtoappopbjnlbdabR4
namespace Go.Proofs.Ytoappopbjnlbdab
open Go.ChangeShapes Go.WideShapes Go.ChangeAt Go.RowKit
set_option linter.unusedVariables false
set_option maxRecDepth 4000

theorem exTreeSum_walk (A : Option Addr) (c : Nat) (ts : List (Int × Int)) (Af : Option Addr) (cf : Nat) (fs : List Int) (a : Int) (w : World) (hr : RdR w w.heap.size A ts) (hm : ts.length ≤ maxLen) (hrf : RdI w w.heap.size Af fs) (hmf : fs.length ≤ maxLen) (hwa : (Lit.int .i64 a).wf = true) :
    Calls Try.prog 9 #[.slice A ts.length c, .slice Af fs.length cf, .int .i64 a] w fun e w' => e = .returned (.bool true) ∧ Below w.heap.size w w' := by
  unfold maxLen at hm hmf
  by_cases hbf : 1048576 < fs.length
  · go_enter Try.func9, Try.ntmps9
    go_wp2
    go_ret
    exact ⟨rfl, Below.refl _ _⟩
  by_cases hb : 1048576 < ts.length
  · go_enter Try.func9, Try.ntmps9
    go_wp2_with fail
    refine (szR_big A c _ w hm hb).mono ?_
    rintro e w' ⟨rfl, rfl⟩
    go_wp2
    go_ret
    exact ⟨rfl, Below.refl _ _⟩
  · have Hwa := Lib.hid hwa
    clear hwa
    go_enter Try.func9, Try.ntmps9
    go_wp2_with fail
    refine (szR_fits A c _ w (by omega)).mono ?_
    rintro e w' ⟨q, hq, rfl, rfl⟩
    go_wp2_with fail
    refine (toR_any A c _ ts w hr rfl (by omega)).mono ?_
    rintro e w1 ⟨b1, rfl, hb1, hr1, hnx1, -⟩
    have hra1 := (hr.below hnx1).more hnx1.size
    have hfa1 := (hrf.below hnx1).more hnx1.size
    go_wp2_with fail
    refine (toInt_any Af cf _ fs w1 hfa1 rfl (by omega)).mono ?_
    rintro e w2 ⟨b2, rfl, hb2, hf2, hnx2, -⟩
    have h12 := hnx1.trans (hnx2.mono hnx1.size)
    have hr2 := (hr1.below hnx2).more hnx2.size
    have hra2 := (hra1.below hnx2).more hnx2.size
    have hfa2 := (hfa1.below hnx2).more hnx2.size
    go_wp2_with fail
    refine (sTreeSum_any _ _ _ _ _ _ ts fs a w2 hr2 rfl (by omega) hf2 rfl (by omega) Hwa.out).mono ?_
    rintro e w3 ⟨rfl, hnx3⟩
    have h13 := h12.trans (hnx3.mono h12.size)
    have hra3 := (hra2.below hnx3).more hnx3.size
    have hfa3 := (hfa2.below hnx3).more hnx3.size
    go_wp2_with fail
    refine (toR_any A c _ ts w3 hra3 rfl (by omega)).mono ?_
    rintro e w4 ⟨b4, rfl, hb4, hr4, hnx4, -⟩
    have h14 := h13.trans (hnx4.mono h13.size)
    have hra4 := (hra3.below hnx4).more hnx4.size
    have hfa4 := (hfa3.below hnx4).more hnx4.size
    go_wp2_with fail
    refine (toInt_any Af cf _ fs w4 hfa4 rfl (by omega)).mono ?_
    rintro e w5 ⟨b5, rfl, hb5, hf5, hnx5, -⟩
    have h15 := h14.trans (hnx5.mono h14.size)
    have hr5 := (hr4.below hnx5).more hnx5.size
    have hra5 := (hra4.below hnx5).more hnx5.size
    have hfa5 := (hfa4.below hnx5).more hnx5.size
    go_wp2_with fail
    refine (iTreeSum_any _ _ _ _ _ _ ts fs a w5 hr5 rfl (Nat.le_refl _) (by omega) hf5 rfl (by omega) Hwa.out).mono ?_
    rintro e w6 ⟨rfl, hnx6⟩
    have h16 := h15.trans (hnx6.mono h15.size)
    have hr6 := (hr5.below hnx6).more hnx6.size
    have hf6 := (hf5.below hnx6).more hnx6.size
    have hra6 := (hra5.below hnx6).more hnx6.size
    have hfa6 := (hfa5.below hnx6).more hnx6.size
    have hbn : ∀ x : Int, (x != x) = false := fun x => by simp
    go_wp2_with fail
    refine (toR_any A c _ ts w6 hra6 rfl (by omega)).mono ?_
    rintro e w7 ⟨b7, rfl, hb7, hr7, hnx7, -⟩
    have h17 := h16.trans (hnx7.mono h16.size)
    have hf7 := (hf6.below hnx7).more hnx7.size
    have hfa7 := (hfa6.below hnx7).more hnx7.size
    go_wp2_with fail
    refine (eqR_same _ _ _ _ _ _ ts w7 _ _ ((hr6.below hnx7).more hnx7.size) rfl hr7 rfl (by omega) (Nat.le_refl _) (Nat.le_refl _)).mono ?_
    rintro e w8 ⟨rfl, hnx8⟩
    have h18 := h17.trans (hnx8.mono h17.size)
    have hf8 := (hf7.below hnx8).more hnx8.size
    have hfa8 := (hfa7.below hnx8).more hnx8.size
    go_wp2_with fail
    refine (toInt_any Af cf _ fs w8 hfa8 rfl (by omega)).mono ?_
    rintro e w9 ⟨b9, rfl, hb9, hf9, hnx9, -⟩
    have h19 := h18.trans (hnx9.mono h18.size)
    go_wp2_with fail
    refine (eqInt_same _ _ _ _ _ _ fs w9 _ _ (hf8.below hnx9) rfl hf9 rfl (by omega)).mono ?_
    rintro e w' ⟨rfl, q2, rfl⟩
    go_wp2
    go_ret
    exact ⟨rfl, below_drewN h19 _⟩
end Go.Proofs.Ytoappopbjnlbdab
