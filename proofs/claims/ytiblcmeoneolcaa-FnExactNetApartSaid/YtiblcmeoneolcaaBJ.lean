/-
  What chapter 3's functions must answer, as propositions; the exact laws of ValidNet, NetCover, NetApart and NetFar follow from them.
  Conditions: at most 2^20 streets in each function's contract.
-/
import Derived.Test.YtiblcmeoneolcaaCT
import Derived.Test.YtiblcmeoneolcaaBV
import Derived.Test.YtiblcmeoneolcaaBE
import Derived.Test.YtiblcmeoneolcaaBD
import Derived.Test.YtiblcmeoneolcaaB5
import Derived.Test.YtiblcmeoneolcaaE0
namespace Go.Proofs.Ytiblcmeoneolcaa
open Go.ChangeShapes Go.WideShapes Go.ChangeAt Go.RowKit
set_option linter.unusedVariables false
set_option maxRecDepth 4000

set_option maxHeartbeats 1600000 in
theorem exNetCover_of (HI : INum 32 ncv) (n : Int) (A : Option Addr) (c : Nat) (ss : List Str) (k : Int) (w : World) (hwn : (Lit.int .i64 n).wf = true) (hr : RdS w w.heap.size A ss) (hm : ss.length ≤ maxLen) (hwk : (Lit.int .i64 k).wf = true) :
    Calls Try.prog 6 #[.int .i64 n, .slice A ss.length c, .int .i64 k] w fun e w' => e = .returned (.bool true) ∧ Below w.heap.size w w' := by
  unfold maxLen at hm
  by_cases hb : 1048576 < ss.length
  · clear hwn hwk
    go_enter Try.func6, Try.ntmps6
    go_wp2_with fail
    refine (szS_big A c _ w hm hb).mono ?_
    rintro e w' ⟨rfl, rfl⟩
    go_wp2
    go_ret
    exact ⟨rfl, Below.refl _ _⟩
  · have Hwn := Lib.hid hwn
    have Hwk := Lib.hid hwk
    have HI' := Lib.hid HI
    obtain ⟨a, Ha⟩ : ∃ a, Hid (ncv n ss k = a) := ⟨_, rfl⟩
    clear hwn hwk HI
    go_enter Try.func6, Try.ntmps6
    go_wp2_with fail
    refine (szS_fits A c _ w (by omega)).mono ?_
    rintro e w' ⟨q, hq, rfl, rfl⟩
    go_wp2_with fail
    refine (toS_any A c _ ss w hr rfl (by omega)).mono ?_
    rintro e w1 ⟨b1, rfl, hb1, hr1, hnx1, -⟩
    have hra1 := (hr.below hnx1).more hnx1.size
    go_wp2_with fail
    refine (sNetCover_any _ _ _ n ss k w1 hr1 rfl (by omega) Hwn.out).mono ?_
    rintro e w3 ⟨rfl, hnx3⟩
    rw [Ha.out]
    have h13 := hnx1.trans (hnx3.mono hnx1.size)
    have hra3 := (hra1.below hnx3).more hnx3.size
    go_wp2_with fail
    refine (toS_any A c _ ss w3 hra3 rfl (by omega)).mono ?_
    rintro e w4 ⟨b4, rfl, hb4, hr4, hnx4, -⟩
    have h14 := h13.trans (hnx4.mono h13.size)
    have hra4 := (hra3.below hnx4).more hnx4.size
    go_wp2_with fail
    refine (HI'.out _ _ _ n ss k w4 ⟨hr4, rfl, ⟨Nat.le_refl _, by omega⟩, by omega, Hwn.out⟩ Hwk.out).mono ?_
    rintro e w6 ⟨rfl, hnx6⟩
    rw [Ha.out]
    have h16 := h14.trans (hnx6.mono h14.size)
    have hr6 := (hr4.below hnx6).more hnx6.size
    have hra6 := (hra4.below hnx6).more hnx6.size
    have hbn : ∀ x : Int, (x != x) = false := fun x => by simp
    go_wp2_with fail
    refine (toS_any A c _ ss w6 hra6 rfl (by omega)).mono ?_
    rintro e w7 ⟨b7, rfl, hb7, hr7, hnx7, -⟩
    have h17 := h16.trans (hnx7.mono h16.size)
    go_wp2_with fail
    refine (eqS_same _ _ _ _ _ _ ss w7 _ _ ((hr6.below hnx7).more hnx7.size) rfl hr7 rfl (by omega) (Nat.le_refl _) (Nat.le_refl _)).mono ?_
    rintro e w8 ⟨rfl, hnx8⟩
    have h18 := h17.trans (hnx8.mono h17.size)
    go_wp2
    go_ret
    exact ⟨rfl, h18⟩

set_option maxHeartbeats 1600000 in
theorem exNetApart_of (HI : INum 34 nap) (n : Int) (A : Option Addr) (c : Nat) (ss : List Str) (k : Int) (w : World) (hwn : (Lit.int .i64 n).wf = true) (hr : RdS w w.heap.size A ss) (hm : ss.length ≤ maxLen) (hwk : (Lit.int .i64 k).wf = true) :
    Calls Try.prog 7 #[.int .i64 n, .slice A ss.length c, .int .i64 k] w fun e w' => e = .returned (.bool true) ∧ Below w.heap.size w w' := by
  unfold maxLen at hm
  by_cases hb : 1048576 < ss.length
  · clear hwn hwk
    go_enter Try.func7, Try.ntmps7
    go_wp2_with fail
    refine (szS_big A c _ w hm hb).mono ?_
    rintro e w' ⟨rfl, rfl⟩
    go_wp2
    go_ret
    exact ⟨rfl, Below.refl _ _⟩
  · have Hwn := Lib.hid hwn
    have Hwk := Lib.hid hwk
    have HI' := Lib.hid HI
    obtain ⟨a, Ha⟩ : ∃ a, Hid (nap n ss k = a) := ⟨_, rfl⟩
    clear hwn hwk HI
    go_enter Try.func7, Try.ntmps7
    go_wp2_with fail
    refine (szS_fits A c _ w (by omega)).mono ?_
    rintro e w' ⟨q, hq, rfl, rfl⟩
    go_wp2_with fail
    refine (toS_any A c _ ss w hr rfl (by omega)).mono ?_
    rintro e w1 ⟨b1, rfl, hb1, hr1, hnx1, -⟩
    have hra1 := (hr.below hnx1).more hnx1.size
    go_wp2_with fail
    refine (sNetApart_any _ _ _ n ss k w1 hr1 rfl (by omega) Hwn.out).mono ?_
    rintro e w3 ⟨rfl, hnx3⟩
    rw [Ha.out]
    have h13 := hnx1.trans (hnx3.mono hnx1.size)
    have hra3 := (hra1.below hnx3).more hnx3.size
    go_wp2_with fail
    refine (toS_any A c _ ss w3 hra3 rfl (by omega)).mono ?_
    rintro e w4 ⟨b4, rfl, hb4, hr4, hnx4, -⟩
    have h14 := h13.trans (hnx4.mono h13.size)
    have hra4 := (hra3.below hnx4).more hnx4.size
    go_wp2_with fail
    refine (HI'.out _ _ _ n ss k w4 ⟨hr4, rfl, ⟨Nat.le_refl _, by omega⟩, by omega, Hwn.out⟩ Hwk.out).mono ?_
    rintro e w6 ⟨rfl, hnx6⟩
    rw [Ha.out]
    have h16 := h14.trans (hnx6.mono h14.size)
    have hr6 := (hr4.below hnx6).more hnx6.size
    have hra6 := (hra4.below hnx6).more hnx6.size
    have hbn : ∀ x : Int, (x != x) = false := fun x => by simp
    go_wp2_with fail
    refine (toS_any A c _ ss w6 hra6 rfl (by omega)).mono ?_
    rintro e w7 ⟨b7, rfl, hb7, hr7, hnx7, -⟩
    have h17 := h16.trans (hnx7.mono h16.size)
    go_wp2_with fail
    refine (eqS_same _ _ _ _ _ _ ss w7 _ _ ((hr6.below hnx7).more hnx7.size) rfl hr7 rfl (by omega) (Nat.le_refl _) (Nat.le_refl _)).mono ?_
    rintro e w8 ⟨rfl, hnx8⟩
    have h18 := h17.trans (hnx8.mono h17.size)
    go_wp2
    go_ret
    exact ⟨rfl, h18⟩

set_option maxHeartbeats 1600000 in
theorem exNetFar_of (HI : INum 36 nfr) (n : Int) (A : Option Addr) (c : Nat) (ss : List Str) (k : Int) (w : World) (hwn : (Lit.int .i64 n).wf = true) (hr : RdS w w.heap.size A ss) (hm : ss.length ≤ maxLen) (hwk : (Lit.int .i64 k).wf = true) :
    Calls Try.prog 8 #[.int .i64 n, .slice A ss.length c, .int .i64 k] w fun e w' => e = .returned (.bool true) ∧ Below w.heap.size w w' := by
  unfold maxLen at hm
  by_cases hb : 1048576 < ss.length
  · clear hwn hwk
    go_enter Try.func8, Try.ntmps8
    go_wp2_with fail
    refine (szS_big A c _ w hm hb).mono ?_
    rintro e w' ⟨rfl, rfl⟩
    go_wp2
    go_ret
    exact ⟨rfl, Below.refl _ _⟩
  · have Hwn := Lib.hid hwn
    have Hwk := Lib.hid hwk
    have HI' := Lib.hid HI
    obtain ⟨a, Ha⟩ : ∃ a, Hid (nfr n ss k = a) := ⟨_, rfl⟩
    clear hwn hwk HI
    go_enter Try.func8, Try.ntmps8
    go_wp2_with fail
    refine (szS_fits A c _ w (by omega)).mono ?_
    rintro e w' ⟨q, hq, rfl, rfl⟩
    go_wp2_with fail
    refine (toS_any A c _ ss w hr rfl (by omega)).mono ?_
    rintro e w1 ⟨b1, rfl, hb1, hr1, hnx1, -⟩
    have hra1 := (hr.below hnx1).more hnx1.size
    go_wp2_with fail
    refine (sNetFar_any _ _ _ n ss k w1 hr1 rfl (by omega) Hwn.out).mono ?_
    rintro e w3 ⟨rfl, hnx3⟩
    rw [Ha.out]
    have h13 := hnx1.trans (hnx3.mono hnx1.size)
    have hra3 := (hra1.below hnx3).more hnx3.size
    go_wp2_with fail
    refine (toS_any A c _ ss w3 hra3 rfl (by omega)).mono ?_
    rintro e w4 ⟨b4, rfl, hb4, hr4, hnx4, -⟩
    have h14 := h13.trans (hnx4.mono h13.size)
    have hra4 := (hra3.below hnx4).more hnx4.size
    go_wp2_with fail
    refine (HI'.out _ _ _ n ss k w4 ⟨hr4, rfl, ⟨Nat.le_refl _, by omega⟩, by omega, Hwn.out⟩ Hwk.out).mono ?_
    rintro e w6 ⟨rfl, hnx6⟩
    rw [Ha.out]
    have h16 := h14.trans (hnx6.mono h14.size)
    have hr6 := (hr4.below hnx6).more hnx6.size
    have hra6 := (hra4.below hnx6).more hnx6.size
    have hbn : ∀ x : Int, (x != x) = false := fun x => by simp
    go_wp2_with fail
    refine (toS_any A c _ ss w6 hra6 rfl (by omega)).mono ?_
    rintro e w7 ⟨b7, rfl, hb7, hr7, hnx7, -⟩
    have h17 := h16.trans (hnx7.mono h16.size)
    go_wp2_with fail
    refine (eqS_same _ _ _ _ _ _ ss w7 _ _ ((hr6.below hnx7).more hnx7.size) rfl hr7 rfl (by omega) (Nat.le_refl _) (Nat.le_refl _)).mono ?_
    rintro e w8 ⟨rfl, hnx8⟩
    have h18 := h17.trans (hnx8.mono h17.size)
    go_wp2
    go_ret
    exact ⟨rfl, h18⟩

set_option maxHeartbeats 1600000 in
theorem exValidNet_of (HI : IBool 21) (n : Int) (A : Option Addr) (c : Nat) (ss : List Str) (w : World) (hwn : (Lit.int .i64 n).wf = true) (hr : RdS w w.heap.size A ss) (hm : ss.length ≤ maxLen) :
    Calls Try.prog 3 #[.int .i64 n, .slice A ss.length c] w fun e w' => e = .returned (.bool true) ∧ Below w.heap.size w w' := by
  unfold maxLen at hm
  by_cases hb : 1048576 < ss.length
  · clear hwn
    go_enter Try.func3, Try.ntmps3
    go_wp2_with fail
    refine (szS_big A c _ w hm hb).mono ?_
    rintro e w' ⟨rfl, rfl⟩
    go_wp2
    go_ret
    exact ⟨rfl, Below.refl _ _⟩
  · have Hwn := Lib.hid hwn
    have HI' := Lib.hid HI
    obtain ⟨a, Ha⟩ : ∃ a, Hid (vnet n ss = a) := ⟨_, rfl⟩
    clear hwn HI
    go_enter Try.func3, Try.ntmps3
    go_wp2_with fail
    refine (szS_fits A c _ w (by omega)).mono ?_
    rintro e w' ⟨q, hq, rfl, rfl⟩
    go_wp2_with fail
    refine (toS_any A c _ ss w hr rfl (by omega)).mono ?_
    rintro e w1 ⟨b1, rfl, hb1, hr1, hnx1, -⟩
    have hra1 := (hr.below hnx1).more hnx1.size
    go_wp2_with fail
    refine (sValidNet_any _ _ _ n ss w1 _ hr1 rfl (by omega) Hwn.out).mono ?_
    rintro e w' ⟨rfl, rfl⟩
    rw [Ha.out]
    go_wp2_with fail
    refine (toS_any A c _ ss w1 hra1 rfl (by omega)).mono ?_
    rintro e w4 ⟨b4, rfl, hb4, hr4, hnx4, -⟩
    have h14 := hnx1.trans (hnx4.mono hnx1.size)
    have hra4 := (hra1.below hnx4).more hnx4.size
    go_wp2_with fail
    refine (HI'.out _ _ _ n ss w4 ⟨hr4, rfl, ⟨Nat.le_refl _, by omega⟩, by omega, Hwn.out⟩).mono ?_
    rintro e w6 ⟨rfl, hnx6⟩
    rw [Ha.out]
    have h16 := h14.trans (hnx6.mono h14.size)
    have hr6 := (hr4.below hnx6).more hnx6.size
    have hra6 := (hra4.below hnx6).more hnx6.size
    have hbn : ∀ x : Bool, (x != x) = false := fun x => by simp
    go_wp2_with fail
    refine (toS_any A c _ ss w6 hra6 rfl (by omega)).mono ?_
    rintro e w7 ⟨b7, rfl, hb7, hr7, hnx7, -⟩
    have h17 := h16.trans (hnx7.mono h16.size)
    go_wp2_with fail
    refine (eqS_same _ _ _ _ _ _ ss w7 _ _ ((hr6.below hnx7).more hnx7.size) rfl hr7 rfl (by omega) (Nat.le_refl _) (Nat.le_refl _)).mono ?_
    rintro e w8 ⟨rfl, hnx8⟩
    have h18 := h17.trans (hnx8.mono h17.size)
    go_wp2
    go_ret
    exact ⟨rfl, h18⟩
end Go.Proofs.Ytiblcmeoneolcaa
