/-
  What chapter 4's functions on helpers with room must answer, as propositions; the exact laws of ValidRoom, MostTaken and LeastBlock follow from them.
  Conditions: fewer than 2^20 helpers, calls and helpers of a call in each function's contract.
-/
import Derived.Test.YtakljcpneghgnaaWC
import Derived.Test.YtakljcpneghgnaaVA
namespace Go.Proofs.Ytakljcpneghgnaa
open Go.ChangeShapes Go.WideShapes Go.ChangeAt Go.RowKit
set_option linter.unusedVariables false
set_option maxRecDepth 4000

/-- Lists of helpers with room as a function is given them. -/
structure RoomIn (w : World) (A A' : Option Addr) (c c' H n : Nat) (room : List Int) (wish : List (List Int)) : Prop where
  rd : RdI w w.heap.size A room
  len : room.length = H
  cap : H ≤ c ∧ c ≤ 9223372036854775807
  most : H ≤ 1048576
  rdw : RdV w w.heap.size A' wish
  lenw : wish.length = n
  capw : n ≤ c' ∧ c' ≤ 9223372036854775807
  small : Small wish
theorem RoomIn.mostw {w : World} {A A' : Option Addr} {c c' H n : Nat} {room : List Int} {wish : List (List Int)} (h : RoomIn w A A' c c' H n room wish) : n ≤ 1048576 := by rw [← h.lenw]; exact h.small.1
theorem RoomIn.later {w w' : World} {A A' : Option Addr} {c c' H n : Nat} {room : List Int} {wish : List (List Int)} (h : RoomIn w A A' c c' H n room wish) (hb : Below w.heap.size w w') : RoomIn w' A A' c c' H n room wish :=
  ⟨(h.rd.below hb).more hb.size, h.len, h.cap, h.most, (h.rdw.below hb).more hb.size, h.lenw, h.capw, h.small⟩
def RNum (F : Nat) (ans : List Int → List (List Int) → Int) : Prop := ∀ (A A' : Option Addr) (c c' H n : Nat) (room : List Int) (wish : List (List Int)) (w : World), RoomIn w A A' c c' H n room wish →
  Calls Try.prog F #[.slice A H c, .slice A' n c'] w fun e w' => e = .returned (.int .i64 (ans room wish)) ∧ Below w.heap.size w w'
def RBool (F : Nat) : Prop := ∀ (A A' : Option Addr) (c c' H n : Nat) (room : List Int) (wish : List (List Int)) (w : World), RoomIn w A A' c c' H n room wish →
  Calls Try.prog F #[.slice A H c, .slice A' n c'] w fun e w' => e = .returned (.bool (vroom room wish)) ∧ Below w.heap.size w w'
theorem sValidRoom_ok : RBool 19 := by
  intro A A' c c' H n room wish w h
  have H1 := Lib.hid (sRoom_in A A' c c' H n room wish w _ h.rd h.len h.rdw h.lenw (by have := h.most; omega) (by have := h.mostw; omega))
  clear h
  go_enter Try.func19, Try.ntmps19
  go_wp2_with fail
  refine H1.out.mono ?_
  rintro e w1 ⟨rfl, q, rfl⟩
  go_wp2
  go_ret
  exact ⟨rfl, below_drewN (Below.refl _ _) q⟩
theorem sLeastBlock_ok : RNum 25 blv := fun A A' c c' H n room wish w h =>
  calls_drawn (sLeastBlock_any A A' c c' H n room wish w _ h.rd h.len h.rdw h.lenw (by have := h.most; omega) (by have := h.mostw; omega))
theorem sMostTaken_ok : RNum 22 blv := fun A A' c c' H n room wish w h =>
  sMostTaken_any A A' c c' H n room wish w h.rd h.len h.rdw h.lenw (by have := h.most; omega) (by have := h.mostw; omega)

set_option maxHeartbeats 1600000 in
theorem exMostTaken_of (HI : RNum 21 blv) (A : Option Addr) (c : Nat) (room : List Int) (A' : Option Addr) (c' : Nat) (wish : List (List Int)) (w : World) (hr : RdI w w.heap.size A room) (hm : room.length ≤ maxLen) (hw : RdV w w.heap.size A' wish) (hmw : wish.length ≤ maxLen) :
    Calls Try.prog 12 #[.slice A room.length c, .slice A' wish.length c'] w fun e w' => e = .returned (.bool true) ∧ Below w.heap.size w w' := by
  unfold maxLen at hm hmw
  obtain ⟨H, HH⟩ : ∃ H, Hid (room.length = H) := ⟨_, rfl⟩
  obtain ⟨n, Hn⟩ : ∃ n, Hid (wish.length = n) := ⟨_, rfl⟩
  rw [HH.out] at hm ⊢
  rw [Hn.out] at hmw ⊢
  by_cases hb : 1048576 < H
  · clear hr hw
    go_enter Try.func12, Try.ntmps12
    go_wp2
    go_ret
    exact ⟨rfl, Below.refl _ _⟩
  · have HI' := Lib.hid HI
    have Hz := Lib.hid (szV_any A' c' n wish w hw Hn.out hmw)
    have HR := Lib.hid hr
    have HW := Lib.hid hw
    clear HI hr hw
    go_enter Try.func12, Try.ntmps12
    go_wp2_with fail
    refine Hz.out.mono ?_
    rintro e w' ⟨q, rfl, rfl, hsm⟩
    by_cases hq : q < 0
    · clear hsm
      go_wp2
      go_ret
      exact ⟨rfl, Below.refl _ _⟩
    have Hsm := Lib.hid (hsm (by omega))
    have hq0 : 0 ≤ q := by omega
    have hn20 : n ≤ 1048576 := by rw [← Hn.out]; exact Hsm.out.1
    clear hsm
    go_wp2_with fail
    refine (toInt_any A c H room w HR.out HH.out (by omega)).mono ?_
    rintro e w1 ⟨b1, rfl, hb1, hr1, hnx1, -⟩
    rw [HH.out]
    go_wp2_with fail
    refine (toV_any A' c' n wish w1 ((HW.out.below hnx1).more hnx1.size) Hn.out Hsm.out).mono ?_
    rintro e w2 ⟨b2, rfl, hb2, hr2, hnx2⟩
    rw [Hn.out]
    have h12 := hnx1.trans (hnx2.mono hnx1.size)
    have hr12 := (hr1.below hnx2).more hnx2.size
    go_wp2_with fail
    refine (sMostTaken_ok _ _ _ _ _ _ room wish w2 ⟨hr12, HH.out, ⟨Nat.le_refl _, by omega⟩, by omega, hr2, Hn.out, ⟨Nat.le_refl _, by omega⟩, Hsm.out⟩).mono ?_
    rintro e w3 ⟨rfl, hnx3⟩
    obtain ⟨a, Ha⟩ : ∃ a, Hid (blv room wish = a) := ⟨_, rfl⟩
    rw [Ha.out]
    have h13 := h12.trans (hnx3.mono h12.size)
    clear hr1 hr12 hr2
    go_wp2_with fail
    refine (toInt_any A c H room w3 ((HR.out.below h13).more h13.size) HH.out (by omega)).mono ?_
    rintro e w4 ⟨b4, rfl, hb4, hr4, hnx4, -⟩
    rw [HH.out]
    have h14 := h13.trans (hnx4.mono h13.size)
    go_wp2_with fail
    refine (toV_any A' c' n wish w4 ((HW.out.below h14).more h14.size) Hn.out Hsm.out).mono ?_
    rintro e w5 ⟨b5, rfl, hb5, hr5, hnx5⟩
    rw [Hn.out]
    have h15 := h14.trans (hnx5.mono h14.size)
    have hr45 := (hr4.below hnx5).more hnx5.size
    go_wp2_with fail
    refine (HI'.out _ _ _ _ _ _ room wish w5 ⟨hr45, HH.out, ⟨Nat.le_refl _, by omega⟩, by omega, hr5, Hn.out, ⟨Nat.le_refl _, by omega⟩, Hsm.out⟩).mono ?_
    rintro e w6 ⟨rfl, hnx6⟩
    rw [Ha.out]
    have h16 := h15.trans (hnx6.mono h15.size)
    have hr46 := (hr45.below hnx6).more hnx6.size
    have hr56 := (hr5.below hnx6).more hnx6.size
    have hbn : ∀ x : Int, (x != x) = false := fun x => by simp
    clear hr4 hr45 hr5
    go_wp2_with fail
    refine (toInt_any A c H room w6 ((HR.out.below h16).more h16.size) HH.out (by omega)).mono ?_
    rintro e w7 ⟨b7, rfl, hb7, hr7, hnx7, -⟩
    rw [HH.out]
    have h17 := h16.trans (hnx7.mono h16.size)
    go_wp2_with fail
    refine (eqInt_same _ _ _ _ _ _ room w7 _ _ ((hr46.below hnx7).more hnx7.size) HH.out hr7 HH.out (by omega)).mono ?_
    rintro e w8 ⟨rfl, q8, rfl⟩
    have h18 := below_drewN h17 q8
    have hr58 := (((hr56.below hnx7).more hnx7.size).drewN q8)
    go_wp2_with fail
    refine (toV_any A' c' n wish (w7.drewN q8) ((HW.out.below h18).more h18.size) Hn.out Hsm.out).mono ?_
    rintro e w9 ⟨b9, rfl, hb9, hr9, hnx9⟩
    rw [Hn.out]
    have h19 := h18.trans (hnx9.mono h18.size)
    have hr59 := (hr58.below hnx9).more hnx9.size
    go_wp2_with fail
    refine (eqV_same _ _ _ _ _ _ wish w9 _ _ hr59 Hn.out hr9 Hn.out Hsm.out).mono ?_
    rintro e w10 ⟨rfl, q10, rfl⟩
    go_wp2
    go_ret
    exact ⟨rfl, below_drewN h19 q10⟩

set_option maxHeartbeats 1600000 in
theorem exLeastBlock_of (HI : RNum 23 blv) (A : Option Addr) (c : Nat) (room : List Int) (A' : Option Addr) (c' : Nat) (wish : List (List Int)) (w : World) (hr : RdI w w.heap.size A room) (hm : room.length ≤ maxLen) (hw : RdV w w.heap.size A' wish) (hmw : wish.length ≤ maxLen) :
    Calls Try.prog 13 #[.slice A room.length c, .slice A' wish.length c'] w fun e w' => e = .returned (.bool true) ∧ Below w.heap.size w w' := by
  unfold maxLen at hm hmw
  obtain ⟨H, HH⟩ : ∃ H, Hid (room.length = H) := ⟨_, rfl⟩
  obtain ⟨n, Hn⟩ : ∃ n, Hid (wish.length = n) := ⟨_, rfl⟩
  rw [HH.out] at hm ⊢
  rw [Hn.out] at hmw ⊢
  by_cases hb : 1048576 < H
  · clear hr hw
    go_enter Try.func13, Try.ntmps13
    go_wp2
    go_ret
    exact ⟨rfl, Below.refl _ _⟩
  · have HI' := Lib.hid HI
    have Hz := Lib.hid (szV_any A' c' n wish w hw Hn.out hmw)
    have HR := Lib.hid hr
    have HW := Lib.hid hw
    clear HI hr hw
    go_enter Try.func13, Try.ntmps13
    go_wp2_with fail
    refine Hz.out.mono ?_
    rintro e w' ⟨q, rfl, rfl, hsm⟩
    by_cases hq : q < 0
    · clear hsm
      go_wp2
      go_ret
      exact ⟨rfl, Below.refl _ _⟩
    have Hsm := Lib.hid (hsm (by omega))
    have hq0 : 0 ≤ q := by omega
    have hn20 : n ≤ 1048576 := by rw [← Hn.out]; exact Hsm.out.1
    clear hsm
    go_wp2_with fail
    refine (toInt_any A c H room w HR.out HH.out (by omega)).mono ?_
    rintro e w1 ⟨b1, rfl, hb1, hr1, hnx1, -⟩
    rw [HH.out]
    go_wp2_with fail
    refine (toV_any A' c' n wish w1 ((HW.out.below hnx1).more hnx1.size) Hn.out Hsm.out).mono ?_
    rintro e w2 ⟨b2, rfl, hb2, hr2, hnx2⟩
    rw [Hn.out]
    have h12 := hnx1.trans (hnx2.mono hnx1.size)
    have hr12 := (hr1.below hnx2).more hnx2.size
    go_wp2_with fail
    refine (sLeastBlock_ok _ _ _ _ _ _ room wish w2 ⟨hr12, HH.out, ⟨Nat.le_refl _, by omega⟩, by omega, hr2, Hn.out, ⟨Nat.le_refl _, by omega⟩, Hsm.out⟩).mono ?_
    rintro e w3 ⟨rfl, hnx3⟩
    obtain ⟨a, Ha⟩ : ∃ a, Hid (blv room wish = a) := ⟨_, rfl⟩
    rw [Ha.out]
    have h13 := h12.trans (hnx3.mono h12.size)
    clear hr1 hr12 hr2
    go_wp2_with fail
    refine (toInt_any A c H room w3 ((HR.out.below h13).more h13.size) HH.out (by omega)).mono ?_
    rintro e w4 ⟨b4, rfl, hb4, hr4, hnx4, -⟩
    rw [HH.out]
    have h14 := h13.trans (hnx4.mono h13.size)
    go_wp2_with fail
    refine (toV_any A' c' n wish w4 ((HW.out.below h14).more h14.size) Hn.out Hsm.out).mono ?_
    rintro e w5 ⟨b5, rfl, hb5, hr5, hnx5⟩
    rw [Hn.out]
    have h15 := h14.trans (hnx5.mono h14.size)
    have hr45 := (hr4.below hnx5).more hnx5.size
    go_wp2_with fail
    refine (HI'.out _ _ _ _ _ _ room wish w5 ⟨hr45, HH.out, ⟨Nat.le_refl _, by omega⟩, by omega, hr5, Hn.out, ⟨Nat.le_refl _, by omega⟩, Hsm.out⟩).mono ?_
    rintro e w6 ⟨rfl, hnx6⟩
    rw [Ha.out]
    have h16 := h15.trans (hnx6.mono h15.size)
    have hr46 := (hr45.below hnx6).more hnx6.size
    have hr56 := (hr5.below hnx6).more hnx6.size
    have hbn : ∀ x : Int, (x != x) = false := fun x => by simp
    clear hr4 hr45 hr5
    go_wp2_with fail
    refine (toInt_any A c H room w6 ((HR.out.below h16).more h16.size) HH.out (by omega)).mono ?_
    rintro e w7 ⟨b7, rfl, hb7, hr7, hnx7, -⟩
    rw [HH.out]
    have h17 := h16.trans (hnx7.mono h16.size)
    go_wp2_with fail
    refine (eqInt_same _ _ _ _ _ _ room w7 _ _ ((hr46.below hnx7).more hnx7.size) HH.out hr7 HH.out (by omega)).mono ?_
    rintro e w8 ⟨rfl, q8, rfl⟩
    have h18 := below_drewN h17 q8
    have hr58 := (((hr56.below hnx7).more hnx7.size).drewN q8)
    go_wp2_with fail
    refine (toV_any A' c' n wish (w7.drewN q8) ((HW.out.below h18).more h18.size) Hn.out Hsm.out).mono ?_
    rintro e w9 ⟨b9, rfl, hb9, hr9, hnx9⟩
    rw [Hn.out]
    have h19 := h18.trans (hnx9.mono h18.size)
    have hr59 := (hr58.below hnx9).more hnx9.size
    go_wp2_with fail
    refine (eqV_same _ _ _ _ _ _ wish w9 _ _ hr59 Hn.out hr9 Hn.out Hsm.out).mono ?_
    rintro e w10 ⟨rfl, q10, rfl⟩
    go_wp2
    go_ret
    exact ⟨rfl, below_drewN h19 q10⟩

set_option maxHeartbeats 1600000 in
theorem exValidRoom_of (HI : RBool 18) (A : Option Addr) (c : Nat) (room : List Int) (A' : Option Addr) (c' : Nat) (wish : List (List Int)) (w : World) (hr : RdI w w.heap.size A room) (hm : room.length ≤ maxLen) (hw : RdV w w.heap.size A' wish) (hmw : wish.length ≤ maxLen) :
    Calls Try.prog 11 #[.slice A room.length c, .slice A' wish.length c'] w fun e w' => e = .returned (.bool true) ∧ Below w.heap.size w w' := by
  unfold maxLen at hm hmw
  obtain ⟨H, HH⟩ : ∃ H, Hid (room.length = H) := ⟨_, rfl⟩
  obtain ⟨n, Hn⟩ : ∃ n, Hid (wish.length = n) := ⟨_, rfl⟩
  rw [HH.out] at hm ⊢
  rw [Hn.out] at hmw ⊢
  by_cases hb : 1048576 < H
  · clear hr hw
    go_enter Try.func11, Try.ntmps11
    go_wp2
    go_ret
    exact ⟨rfl, Below.refl _ _⟩
  · have HI' := Lib.hid HI
    have Hz := Lib.hid (szV_any A' c' n wish w hw Hn.out hmw)
    have HR := Lib.hid hr
    have HW := Lib.hid hw
    clear HI hr hw
    go_enter Try.func11, Try.ntmps11
    go_wp2_with fail
    refine Hz.out.mono ?_
    rintro e w' ⟨q, rfl, rfl, hsm⟩
    by_cases hq : q < 0
    · clear hsm
      go_wp2
      go_ret
      exact ⟨rfl, Below.refl _ _⟩
    have Hsm := Lib.hid (hsm (by omega))
    have hq0 : 0 ≤ q := by omega
    have hn20 : n ≤ 1048576 := by rw [← Hn.out]; exact Hsm.out.1
    clear hsm
    go_wp2_with fail
    refine (toInt_any A c H room w HR.out HH.out (by omega)).mono ?_
    rintro e w1 ⟨b1, rfl, hb1, hr1, hnx1, -⟩
    rw [HH.out]
    go_wp2_with fail
    refine (toV_any A' c' n wish w1 ((HW.out.below hnx1).more hnx1.size) Hn.out Hsm.out).mono ?_
    rintro e w2 ⟨b2, rfl, hb2, hr2, hnx2⟩
    rw [Hn.out]
    have h12 := hnx1.trans (hnx2.mono hnx1.size)
    have hr12 := (hr1.below hnx2).more hnx2.size
    go_wp2_with fail
    refine (sValidRoom_ok _ _ _ _ _ _ room wish w2 ⟨hr12, HH.out, ⟨Nat.le_refl _, by omega⟩, by omega, hr2, Hn.out, ⟨Nat.le_refl _, by omega⟩, Hsm.out⟩).mono ?_
    rintro e w3 ⟨rfl, hnx3⟩
    obtain ⟨a, Ha⟩ : ∃ a, Hid (vroom room wish = a) := ⟨_, rfl⟩
    rw [Ha.out]
    have h13 := h12.trans (hnx3.mono h12.size)
    clear hr1 hr12 hr2
    go_wp2_with fail
    refine (toInt_any A c H room w3 ((HR.out.below h13).more h13.size) HH.out (by omega)).mono ?_
    rintro e w4 ⟨b4, rfl, hb4, hr4, hnx4, -⟩
    rw [HH.out]
    have h14 := h13.trans (hnx4.mono h13.size)
    go_wp2_with fail
    refine (toV_any A' c' n wish w4 ((HW.out.below h14).more h14.size) Hn.out Hsm.out).mono ?_
    rintro e w5 ⟨b5, rfl, hb5, hr5, hnx5⟩
    rw [Hn.out]
    have h15 := h14.trans (hnx5.mono h14.size)
    have hr45 := (hr4.below hnx5).more hnx5.size
    go_wp2_with fail
    refine (HI'.out _ _ _ _ _ _ room wish w5 ⟨hr45, HH.out, ⟨Nat.le_refl _, by omega⟩, by omega, hr5, Hn.out, ⟨Nat.le_refl _, by omega⟩, Hsm.out⟩).mono ?_
    rintro e w6 ⟨rfl, hnx6⟩
    rw [Ha.out]
    have h16 := h15.trans (hnx6.mono h15.size)
    have hr46 := (hr45.below hnx6).more hnx6.size
    have hr56 := (hr5.below hnx6).more hnx6.size
    have hbn : ∀ x : Bool, (x != x) = false := fun x => by simp
    clear hr4 hr45 hr5
    go_wp2_with fail
    refine (toInt_any A c H room w6 ((HR.out.below h16).more h16.size) HH.out (by omega)).mono ?_
    rintro e w7 ⟨b7, rfl, hb7, hr7, hnx7, -⟩
    rw [HH.out]
    have h17 := h16.trans (hnx7.mono h16.size)
    go_wp2_with fail
    refine (eqInt_same _ _ _ _ _ _ room w7 _ _ ((hr46.below hnx7).more hnx7.size) HH.out hr7 HH.out (by omega)).mono ?_
    rintro e w8 ⟨rfl, q8, rfl⟩
    have h18 := below_drewN h17 q8
    have hr58 := (((hr56.below hnx7).more hnx7.size).drewN q8)
    go_wp2_with fail
    refine (toV_any A' c' n wish (w7.drewN q8) ((HW.out.below h18).more h18.size) Hn.out Hsm.out).mono ?_
    rintro e w9 ⟨b9, rfl, hb9, hr9, hnx9⟩
    rw [Hn.out]
    have h19 := h18.trans (hnx9.mono h18.size)
    have hr59 := (hr58.below hnx9).more hnx9.size
    go_wp2_with fail
    refine (eqV_same _ _ _ _ _ _ wish w9 _ _ hr59 Hn.out hr9 Hn.out Hsm.out).mono ?_
    rintro e w10 ⟨rfl, q10, rfl⟩
    go_wp2
    go_ret
    exact ⟨rfl, below_drewN h19 q10⟩
end Go.Proofs.Ytakljcpneghgnaa
