/-
  The laws FnExactNetTable and FnExactNetByMiddles follow from the functions' contracts: the program's table is the model's, the argument stays, and the table owns its memory.
  Conditions: none beyond the contracts'.
-/
import Derived.Test.YtiblcmeoneolcaaCT
import Derived.Test.YtiblcmeoneolcaaBC
import Derived.Test.YtiblcmeoneolcaaH2
import Derived.Test.YtiblcmeoneolcaaHS
import Derived.Test.YtiblcmeoneolcaaB5
import Derived.Test.YtiblcmeoneolcaaE0
namespace Go.Proofs.Ytiblcmeoneolcaa
open Go.ChangeShapes Go.WideShapes Go.ChangeAt Go.RowKit
set_option linter.unusedVariables false
set_option maxRecDepth 4000

theorem eqSSn_below (w : World) (B B' m c c' : Nat) (A A' : Option Addr) (VR VR' : Nat → Value) (ls : Nat → List Int) (hO : Outer w B m (.slice A m c) VR) (hT : TT w B m VR ls) (hO' : Outer w B' m (.slice A' m c') VR') (hT' : TT w B' m VR' ls) (hm : m ≤ 7) (hl : ∀ j, j < m → (ls j).length ≤ 7) :
    Calls Try.prog 25 #[.slice A m c, .slice A' m c'] w fun e w' => e = .returned (.bool true) ∧ Below w.heap.size w w' :=
  calls_drawn (eqSS_any w B B' m c c' A A' VR VR' ls hO hT hO' hT' hm hl)

set_option maxHeartbeats 1600000 in
theorem exNetTable_of (HI : IRows 24) (n : Int) (A : Option Addr) (c : Nat) (ss : List Str) (w : World) (hwn : (Lit.int .i64 n).wf = true) (hr : RdS w w.heap.size A ss) (hm : ss.length ≤ maxLen) :
    Calls Try.prog 4 #[.int .i64 n, .slice A ss.length c] w fun e w' => e = .returned (.bool true) ∧ Below w.heap.size w w' := by
  unfold maxLen at hm
  by_cases hb : 1048576 < ss.length
  · clear hwn HI
    go_enter Try.func4, Try.ntmps4
    go_wp2_with fail
    refine (szS_big A c _ w hm hb).mono ?_
    rintro e w' ⟨rfl, rfl⟩
    go_wp2
    go_ret
    exact ⟨rfl, Below.refl _ _⟩
  · obtain ⟨hm7, hL1, hL7, hll⟩ := nm_bd n ss
    have hll7 : ∀ j, j < nm n ss → (rowX (sht n.toNat ss) n.toNat j).length ≤ 7 := fun j hj => by rw [hll j hj]; exact hL7
    have Hll := Lib.hid hll
    have Hll7 := Lib.hid hll7
    obtain ⟨m, Hm⟩ : ∃ m, Hid (nm n ss = m) := ⟨_, rfl⟩
    obtain ⟨L, HL⟩ : ∃ L, Hid (nL n ss = L) := ⟨_, rfl⟩
    rw [HL.out] at hL1 hL7
    rw [Hm.out] at hm7
    have Hr := Lib.hid hr
    have Hwn := Lib.hid hwn
    have HI' := Lib.hid HI
    clear hll hll7 hr hwn HI
    go_enter Try.func4, Try.ntmps4
    go_wp2_with fail
    refine (szS_fits A c _ w (by omega)).mono ?_
    rintro e w' ⟨q, hq, rfl, rfl⟩
    go_wp2_with fail
    refine (toS_any A c _ ss w Hr.out rfl (by omega)).mono ?_
    rintro e w1 ⟨b1, rfl, hb1, hr1, hnx1, -⟩
    have B1 := Lib.hid hnx1
    have R1 := Lib.hid hr1
    clear hnx1 hr1 hb1
    go_wp2_with fail
    refine (sNetTable_any _ _ _ n ss w1 R1.out rfl (by omega) Hwn.out).mono ?_
    rintro e w2 hans
    obtain ⟨A0, c0, VR0, rfl, hO0, hT0, hnx2⟩ := nab_uni hans
    have O0 := Lib.hid hO0
    have T0 := Lib.hid hT0
    have B2 := Lib.hid (B1.out.trans (hnx2.mono B1.out.size))
    clear hans hO0 hT0 hnx2
    go_wp2_with fail
    refine (toS_any A c _ ss w2 ((Hr.out.below B2.out).more B2.out.size) rfl (by omega)).mono ?_
    rintro e w3 ⟨b3, rfl, hb3, hr3, hnx3, hown3⟩
    have B3 := Lib.hid (B2.out.trans (hnx3.mono B2.out.size))
    have C3 := Lib.hid hnx3
    have R3 := Lib.hid hr3
    have X3 := Lib.hid hown3
    have Hb3 := Lib.hid hb3
    clear hb3 hr3 hnx3 hown3
    go_wp2_with fail
    refine (HI'.out _ _ _ n ss w3 ⟨R3.out, rfl, ⟨Nat.le_refl _, by omega⟩, by omega, Hwn.out⟩).mono ?_
    rintro e w4 hans
    obtain ⟨A1, c1, VR1, rfl, hO1, hT1, hnx4⟩ := nab_uni hans
    have O1 := Lib.hid hO1
    have T1 := Lib.hid hT1
    have D4 := Lib.hid hnx4
    have C4 := Lib.hid (C3.out.trans (hnx4.mono C3.out.size))
    have B4 := Lib.hid (B2.out.trans (C4.out.mono B2.out.size))
    clear hans hO1 hT1 hnx4
    rw [Hm.out] at O0 T0 O1 T1
    rw [Hm.out]
    go_wp2_with fail
    refine (eqSSn_below w4 _ _ m c1 c0 A1 A0 VR1 VR0 (rowX (sht n.toNat ss) n.toNat) O1.out T1.out (O0.out.below C4.out) (T0.out.below C4.out) hm7 (fun j hj => Hll7.out j (by rw [Hm.out]; exact hj))).mono ?_
    rintro e w5 ⟨rfl, hnx5⟩
    have E5 := Lib.hid hnx5
    have B5 := Lib.hid (B4.out.trans (hnx5.mono B4.out.size))
    clear hnx5
    go_wp2_with fail
    refine (toS_any A c _ ss w5 ((Hr.out.below B5.out).more B5.out.size) rfl (by omega)).mono ?_
    rintro e w6 ⟨b6, rfl, -, hr6, hnx6, -⟩
    have E6 := Lib.hid (E5.out.trans (hnx6.mono E5.out.size))
    have B6 := Lib.hid (B5.out.trans (hnx6.mono B5.out.size))
    have R6 := Lib.hid hr6
    clear hr6 hnx6
    have R36 := Lib.hid ((R3.out.below (D4.out.trans (E6.out.mono D4.out.size))).more (Nat.le_trans D4.out.size E6.out.size))
    go_wp2_with fail
    refine (eqS_same _ _ _ _ _ _ ss w6 _ _ R36.out rfl R6.out rfl (by omega) (Nat.le_refl _) (Nat.le_refl _)).mono ?_
    rintro e w7 ⟨rfl, hnx7⟩
    have E7 := Lib.hid (E6.out.trans (hnx7.mono E6.out.size))
    have B7 := Lib.hid (B6.out.trans (hnx7.mono B6.out.size))
    clear hnx7
    have X7 := Lib.hid (ownN_below X3.out (D4.out.trans (E7.out.mono D4.out.size)))
    go_wp2_with fail
    refine (markS_any w7 _ _ _ _ X7.out (by omega)).mono ?_
    rintro e w8 ⟨rfl, hg8⟩
    obtain ⟨⟨csx, hcx⟩, -, hbl⟩ := own_heap X7.out (g := b3) rfl
    have O18 := Lib.hid ((O1.out.below E7.out).keptRow hg8 hcx (by decide))
    have T18 := Lib.hid ((T1.out.below E7.out).keptBy hg8 (fun g e => by injection e with e; subst e; exact ⟨csx, _, hcx, by decide⟩))
    have C7 := Lib.hid (C4.out.trans (E7.out.mono C4.out.size))
    have C8 := Lib.hid (C7.out.grown hg8 C7.out.size (fun k e => by injection e with e; have := Hb3.out; omega))
    have B8 := Lib.hid (B2.out.trans (C8.out.mono B2.out.size))
    have D8 : Hid (w3.heap.size ≤ w8.heap.size) := Nat.le_trans D4.out.size (Nat.le_trans E7.out.size hg8.size)
    have hpos1 : ¬ (1 + ((ss.length * 3 : Nat) : Int)) < 0 := by omega
    clear hg8 hcx hbl
    go_wp2_with fail
    refine (eqSSn_below w8 _ _ m c1 c0 A1 A0 VR1 VR0 (rowX (sht n.toNat ss) n.toNat) O18.out T18.out (O0.out.below C8.out) (T0.out.below C8.out) hm7 (fun j hj => Hll7.out j (by rw [Hm.out]; exact hj))).mono ?_
    rintro e w9 ⟨rfl, hnx9⟩
    have O19 := Lib.hid (O18.out.below hnx9)
    have T19 := Lib.hid (T18.out.below hnx9)
    have C9 := Lib.hid (C8.out.trans (hnx9.mono C8.out.size))
    have B9 := Lib.hid (B8.out.trans (hnx9.mono B8.out.size))
    have D9 : Hid (w3.heap.size ≤ w9.heap.size) := Nat.le_trans D8.out hnx9.size
    clear hnx9
    go_wp2_with fail
    refine (markSS_any w9 _ m c1 L A1 VR1 (rowX (sht n.toNat ss) n.toNat) O19.out T19.out hm7 (fun j hj => by rw [Hll.out j (by rw [Hm.out]; exact hj), HL.out]) hL1 hL7).mono ?_
    rintro e w10 ⟨rfl, hO10, hT10, hnx10⟩
    have O110 := Lib.hid hO10
    have T110 := Lib.hid hT10
    have C10 := Lib.hid (C9.out.trans (hnx10.mono C3.out.size))
    have B10 := Lib.hid (B2.out.trans (C10.out.mono B2.out.size))
    have hmL : m * L ≤ 49 := Nat.mul_le_mul hm7 hL7
    have hpos2 : ¬ (1 + ((m * L : Nat) : Int)) < 0 := by omega
    have hbn : ∀ x : Int, (x != x) = false := fun x => by simp
    clear hO10 hT10 hnx10
    go_wp2_with fail
    refine (heldSS_any w10 _ m c1 L A1 VR1 O110.out T110.out hm7 hL7).mono ?_
    rintro e w' ⟨rfl, rfl⟩
    go_wp2_with fail
    refine (toS_any A c _ ss w10 ((Hr.out.below B10.out).more B10.out.size) rfl (by omega)).mono ?_
    rintro e w11 ⟨b11, rfl, -, hr11, hnx11, -⟩
    have R11 := Lib.hid hr11
    have F11 := Lib.hid hnx11
    have C11 := Lib.hid (C10.out.trans (hnx11.mono C10.out.size))
    have B11 := Lib.hid (B10.out.trans (hnx11.mono B10.out.size))
    clear hr11 hnx11
    go_wp2_with fail
    refine (HI'.out _ _ _ n ss w11 ⟨R11.out, rfl, ⟨Nat.le_refl _, by omega⟩, by omega, Hwn.out⟩).mono ?_
    rintro e w12 hans
    obtain ⟨A2, c2, VR2, rfl, hO2, hT2, hnx12⟩ := nab_uni hans
    rw [Hm.out] at hO2 hT2
    rw [Hm.out]
    have O2 := Lib.hid hO2
    have T2 := Lib.hid hT2
    have F12 := Lib.hid (F11.out.trans (hnx12.mono F11.out.size))
    have C12 := Lib.hid (C11.out.trans (hnx12.mono C11.out.size))
    have B12 := Lib.hid (B11.out.trans (hnx12.mono B11.out.size))
    clear hans hO2 hT2 hnx12
    go_wp2_with fail
    refine (eqSSn_below w12 _ _ m c2 c0 A2 A0 VR2 VR0 (rowX (sht n.toNat ss) n.toNat) O2.out T2.out (O0.out.below C12.out) (T0.out.below C12.out) hm7 (fun j hj => Hll7.out j (by rw [Hm.out]; exact hj))).mono ?_
    rintro e w13 ⟨rfl, hnx13⟩
    have F13 := Lib.hid (F12.out.trans (hnx13.mono F12.out.size))
    have B13 := Lib.hid (B12.out.trans (hnx13.mono B12.out.size))
    clear hnx13
    go_wp2_with fail
    refine (heldSS_any w13 _ m c1 L A1 VR1 (O110.out.below F13.out) (T110.out.below F13.out) hm7 hL7).mono ?_
    rintro e w' ⟨rfl, rfl⟩
    go_wp2
    go_ret
    exact ⟨rfl, B13.out⟩
set_option maxHeartbeats 1600000 in
theorem exNetByMiddles_of (HI : IRows 30) (n : Int) (A : Option Addr) (c : Nat) (ss : List Str) (w : World) (hwn : (Lit.int .i64 n).wf = true) (hr : RdS w w.heap.size A ss) (hm : ss.length ≤ maxLen) :
    Calls Try.prog 5 #[.int .i64 n, .slice A ss.length c] w fun e w' => e = .returned (.bool true) ∧ Below w.heap.size w w' := by
  unfold maxLen at hm
  by_cases hb : 1048576 < ss.length
  · clear hwn HI
    go_enter Try.func5, Try.ntmps5
    go_wp2_with fail
    refine (szS_big A c _ w hm hb).mono ?_
    rintro e w' ⟨rfl, rfl⟩
    go_wp2
    go_ret
    exact ⟨rfl, Below.refl _ _⟩
  · obtain ⟨hm7, hL1, hL7, hll⟩ := nm_bd n ss
    have hll7 : ∀ j, j < nm n ss → (rowX (sht n.toNat ss) n.toNat j).length ≤ 7 := fun j hj => by rw [hll j hj]; exact hL7
    have Hll := Lib.hid hll
    have Hll7 := Lib.hid hll7
    obtain ⟨m, Hm⟩ : ∃ m, Hid (nm n ss = m) := ⟨_, rfl⟩
    obtain ⟨L, HL⟩ : ∃ L, Hid (nL n ss = L) := ⟨_, rfl⟩
    rw [HL.out] at hL1 hL7
    rw [Hm.out] at hm7
    have Hr := Lib.hid hr
    have Hwn := Lib.hid hwn
    have HI' := Lib.hid HI
    clear hll hll7 hr hwn HI
    go_enter Try.func5, Try.ntmps5
    go_wp2_with fail
    refine (szS_fits A c _ w (by omega)).mono ?_
    rintro e w' ⟨q, hq, rfl, rfl⟩
    go_wp2_with fail
    refine (toS_any A c _ ss w Hr.out rfl (by omega)).mono ?_
    rintro e w1 ⟨b1, rfl, hb1, hr1, hnx1, -⟩
    have B1 := Lib.hid hnx1
    have R1 := Lib.hid hr1
    clear hnx1 hr1 hb1
    go_wp2_with fail
    refine (sNetByMiddles_any _ _ _ n ss w1 R1.out rfl (by omega) Hwn.out).mono ?_
    rintro e w2 hans
    obtain ⟨A0, c0, VR0, rfl, hO0, hT0, hnx2⟩ := nab_uni hans
    have O0 := Lib.hid hO0
    have T0 := Lib.hid hT0
    have B2 := Lib.hid (B1.out.trans (hnx2.mono B1.out.size))
    clear hans hO0 hT0 hnx2
    go_wp2_with fail
    refine (toS_any A c _ ss w2 ((Hr.out.below B2.out).more B2.out.size) rfl (by omega)).mono ?_
    rintro e w3 ⟨b3, rfl, hb3, hr3, hnx3, hown3⟩
    have B3 := Lib.hid (B2.out.trans (hnx3.mono B2.out.size))
    have C3 := Lib.hid hnx3
    have R3 := Lib.hid hr3
    have X3 := Lib.hid hown3
    have Hb3 := Lib.hid hb3
    clear hb3 hr3 hnx3 hown3
    go_wp2_with fail
    refine (HI'.out _ _ _ n ss w3 ⟨R3.out, rfl, ⟨Nat.le_refl _, by omega⟩, by omega, Hwn.out⟩).mono ?_
    rintro e w4 hans
    obtain ⟨A1, c1, VR1, rfl, hO1, hT1, hnx4⟩ := nab_uni hans
    have O1 := Lib.hid hO1
    have T1 := Lib.hid hT1
    have D4 := Lib.hid hnx4
    have C4 := Lib.hid (C3.out.trans (hnx4.mono C3.out.size))
    have B4 := Lib.hid (B2.out.trans (C4.out.mono B2.out.size))
    clear hans hO1 hT1 hnx4
    rw [Hm.out] at O0 T0 O1 T1
    rw [Hm.out]
    go_wp2_with fail
    refine (eqSSn_below w4 _ _ m c1 c0 A1 A0 VR1 VR0 (rowX (sht n.toNat ss) n.toNat) O1.out T1.out (O0.out.below C4.out) (T0.out.below C4.out) hm7 (fun j hj => Hll7.out j (by rw [Hm.out]; exact hj))).mono ?_
    rintro e w5 ⟨rfl, hnx5⟩
    have E5 := Lib.hid hnx5
    have B5 := Lib.hid (B4.out.trans (hnx5.mono B4.out.size))
    clear hnx5
    go_wp2_with fail
    refine (toS_any A c _ ss w5 ((Hr.out.below B5.out).more B5.out.size) rfl (by omega)).mono ?_
    rintro e w6 ⟨b6, rfl, -, hr6, hnx6, -⟩
    have E6 := Lib.hid (E5.out.trans (hnx6.mono E5.out.size))
    have B6 := Lib.hid (B5.out.trans (hnx6.mono B5.out.size))
    have R6 := Lib.hid hr6
    clear hr6 hnx6
    have R36 := Lib.hid ((R3.out.below (D4.out.trans (E6.out.mono D4.out.size))).more (Nat.le_trans D4.out.size E6.out.size))
    go_wp2_with fail
    refine (eqS_same _ _ _ _ _ _ ss w6 _ _ R36.out rfl R6.out rfl (by omega) (Nat.le_refl _) (Nat.le_refl _)).mono ?_
    rintro e w7 ⟨rfl, hnx7⟩
    have E7 := Lib.hid (E6.out.trans (hnx7.mono E6.out.size))
    have B7 := Lib.hid (B6.out.trans (hnx7.mono B6.out.size))
    clear hnx7
    have X7 := Lib.hid (ownN_below X3.out (D4.out.trans (E7.out.mono D4.out.size)))
    go_wp2_with fail
    refine (markS_any w7 _ _ _ _ X7.out (by omega)).mono ?_
    rintro e w8 ⟨rfl, hg8⟩
    obtain ⟨⟨csx, hcx⟩, -, hbl⟩ := own_heap X7.out (g := b3) rfl
    have O18 := Lib.hid ((O1.out.below E7.out).keptRow hg8 hcx (by decide))
    have T18 := Lib.hid ((T1.out.below E7.out).keptBy hg8 (fun g e => by injection e with e; subst e; exact ⟨csx, _, hcx, by decide⟩))
    have C7 := Lib.hid (C4.out.trans (E7.out.mono C4.out.size))
    have C8 := Lib.hid (C7.out.grown hg8 C7.out.size (fun k e => by injection e with e; have := Hb3.out; omega))
    have B8 := Lib.hid (B2.out.trans (C8.out.mono B2.out.size))
    have D8 : Hid (w3.heap.size ≤ w8.heap.size) := Nat.le_trans D4.out.size (Nat.le_trans E7.out.size hg8.size)
    have hpos1 : ¬ (1 + ((ss.length * 3 : Nat) : Int)) < 0 := by omega
    clear hg8 hcx hbl
    go_wp2_with fail
    refine (eqSSn_below w8 _ _ m c1 c0 A1 A0 VR1 VR0 (rowX (sht n.toNat ss) n.toNat) O18.out T18.out (O0.out.below C8.out) (T0.out.below C8.out) hm7 (fun j hj => Hll7.out j (by rw [Hm.out]; exact hj))).mono ?_
    rintro e w9 ⟨rfl, hnx9⟩
    have O19 := Lib.hid (O18.out.below hnx9)
    have T19 := Lib.hid (T18.out.below hnx9)
    have C9 := Lib.hid (C8.out.trans (hnx9.mono C8.out.size))
    have B9 := Lib.hid (B8.out.trans (hnx9.mono B8.out.size))
    have D9 : Hid (w3.heap.size ≤ w9.heap.size) := Nat.le_trans D8.out hnx9.size
    clear hnx9
    go_wp2_with fail
    refine (markSS_any w9 _ m c1 L A1 VR1 (rowX (sht n.toNat ss) n.toNat) O19.out T19.out hm7 (fun j hj => by rw [Hll.out j (by rw [Hm.out]; exact hj), HL.out]) hL1 hL7).mono ?_
    rintro e w10 ⟨rfl, hO10, hT10, hnx10⟩
    have O110 := Lib.hid hO10
    have T110 := Lib.hid hT10
    have C10 := Lib.hid (C9.out.trans (hnx10.mono C3.out.size))
    have B10 := Lib.hid (B2.out.trans (C10.out.mono B2.out.size))
    have hmL : m * L ≤ 49 := Nat.mul_le_mul hm7 hL7
    have hpos2 : ¬ (1 + ((m * L : Nat) : Int)) < 0 := by omega
    have hbn : ∀ x : Int, (x != x) = false := fun x => by simp
    clear hO10 hT10 hnx10
    go_wp2_with fail
    refine (heldSS_any w10 _ m c1 L A1 VR1 O110.out T110.out hm7 hL7).mono ?_
    rintro e w' ⟨rfl, rfl⟩
    go_wp2_with fail
    refine (toS_any A c _ ss w10 ((Hr.out.below B10.out).more B10.out.size) rfl (by omega)).mono ?_
    rintro e w11 ⟨b11, rfl, -, hr11, hnx11, -⟩
    have R11 := Lib.hid hr11
    have F11 := Lib.hid hnx11
    have C11 := Lib.hid (C10.out.trans (hnx11.mono C10.out.size))
    have B11 := Lib.hid (B10.out.trans (hnx11.mono B10.out.size))
    clear hr11 hnx11
    go_wp2_with fail
    refine (HI'.out _ _ _ n ss w11 ⟨R11.out, rfl, ⟨Nat.le_refl _, by omega⟩, by omega, Hwn.out⟩).mono ?_
    rintro e w12 hans
    obtain ⟨A2, c2, VR2, rfl, hO2, hT2, hnx12⟩ := nab_uni hans
    rw [Hm.out] at hO2 hT2
    rw [Hm.out]
    have O2 := Lib.hid hO2
    have T2 := Lib.hid hT2
    have F12 := Lib.hid (F11.out.trans (hnx12.mono F11.out.size))
    have C12 := Lib.hid (C11.out.trans (hnx12.mono C11.out.size))
    have B12 := Lib.hid (B11.out.trans (hnx12.mono B11.out.size))
    clear hans hO2 hT2 hnx12
    go_wp2_with fail
    refine (eqSSn_below w12 _ _ m c2 c0 A2 A0 VR2 VR0 (rowX (sht n.toNat ss) n.toNat) O2.out T2.out (O0.out.below C12.out) (T0.out.below C12.out) hm7 (fun j hj => Hll7.out j (by rw [Hm.out]; exact hj))).mono ?_
    rintro e w13 ⟨rfl, hnx13⟩
    have F13 := Lib.hid (F12.out.trans (hnx13.mono F12.out.size))
    have B13 := Lib.hid (B12.out.trans (hnx13.mono B12.out.size))
    clear hnx13
    go_wp2_with fail
    refine (heldSS_any w13 _ m c1 L A1 VR1 (O110.out.below F13.out) (T110.out.below F13.out) hm7 hL7).mono ?_
    rintro e w' ⟨rfl, rfl⟩
    go_wp2
    go_ret
    exact ⟨rfl, B13.out⟩
end Go.Proofs.Ytiblcmeoneolcaa
