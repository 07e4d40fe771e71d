/-
  The law FnExactFarthestFirst follows from the function's contract: the program's row is the model's, the argument stays, and the row owns its memory.
  Conditions: none beyond the contract's.
-/
import Derived.Test.YtiblcmeoneolcaaFZ
import Derived.Test.YtiblcmeoneolcaaGL
import Derived.Test.YtiblcmeoneolcaaH1
import Derived.Test.YtiblcmeoneolcaaHS
import Derived.Test.YtiblcmeoneolcaaB5
import Derived.Test.YtiblcmeoneolcaaE0
namespace Go.Proofs.Ytiblcmeoneolcaa
open Go.ChangeShapes Go.WideShapes Go.ChangeAt Go.RowKit
set_option linter.unusedVariables false
set_option maxRecDepth 4000

/-- A row of the call's own, nil or not, marked. -/
def MarkRow (B n c : Nat) (A : Option Addr) (w : World) (e : Ending) (w' : World) : Prop :=
  e = .returned (.int .i64 (1 + (n : Nat))) ∧ w'.ownsRow B 3 1 (.slice A n c) n ((mk 1 n).map (Value.int .i64)) ∧ Below B w w'
theorem markRow_any (w : World) (B n c : Nat) (A : Option Addr) (zs : List Int) (hown : w.ownsRow B 3 1 (.slice A n c) n (zs.map (Value.int .i64))) (hn : zs.length = n) (hn7 : n ≤ 1000) (hB : B ≤ w.heap.size) :
    Calls Try.prog 40 #[.slice A n c, .int .i64 1] w (MarkRow B n c A w) := by
  have h0 := hown
  rcases hown.2 with ⟨he, hx⟩ | ⟨g, cap, cur, he, hg1, hg2, _⟩
  · injection he with h1 h2 h3
    subst h1 h2 h3
    clear h0 hown
    go_enter Try.func40, Try.ntmps40
    go_wp2
    go_loopw [1, 5] (fun a i wr => i = .int .i64 0 ∧ a = .int .i64 1 ∧ wr = w) (fun _ i _ => 0)
    case atStart => exact ⟨rfl, rfl, rfl⟩
    case round =>
      obtain ⟨rfl, rfl, rfl⟩ := hrel
      go_wp2
      go_ret
      exact ⟨rfl, World.ownsRow_nil _ _ _ _, Below.refl _ _⟩
  · injection he with h1 h2 h3
    subst h1 h3
    refine (markI_any w B g n c 1 zs h0 hn hn7 (by omega) (by omega)).mono ?_
    rintro e w' ⟨rfl, ho, hgr⟩
    exact ⟨rfl, ho, (Below.refl _ _).grown hgr hB (fun k hk => by injection hk with hk; omega)⟩

set_option maxHeartbeats 1600000 in
theorem exFarthestFirst_of (HI : IRow 38) (n : Int) (A : Option Addr) (c : Nat) (ss : List Str) (k : Int) (w : World) (hwn : (Lit.int .i64 n).wf = true) (hr : RdS w w.heap.size A ss) (hm : ss.length ≤ maxLen) (hwk : (Lit.int .i64 k).wf = true) :
    Calls Try.prog 9 #[.int .i64 n, .slice A ss.length c, .int .i64 k] w fun e w' => e = .returned (.bool true) ∧ Below w.heap.size w w' := by
  unfold maxLen at hm
  by_cases hb : 1048576 < ss.length
  · clear hwn hwk HI
    go_enter Try.func9, Try.ntmps9
    go_wp2_with fail
    refine (szS_big A c _ w hm hb).mono ?_
    rintro e w' ⟨rfl, rfl⟩
    go_wp2
    go_ret
    exact ⟨rfl, Below.refl _ _⟩
  · have hz4 := ffz_len n ss k
    obtain ⟨zs, Hz⟩ : ∃ zs, Hid (ffz n ss k = zs) := ⟨_, rfl⟩
    rw [Hz.out] at hz4
    obtain ⟨m, Hm⟩ : ∃ m, Hid (zs.length = m) := ⟨_, rfl⟩
    rw [Hm.out] at hz4
    have Hr := Lib.hid hr
    have Hwn := Lib.hid hwn
    have Hwk := Lib.hid hwk
    have HI' := Lib.hid HI
    clear hr hwn hwk HI
    go_enter Try.func9, Try.ntmps9
    go_wp2_with fail
    refine (szS_fits A c _ w (by omega)).mono ?_
    rintro e w' ⟨q, hq, rfl, rfl⟩
    go_wp2_with fail
    refine (toS_any A c _ ss w Hr.out rfl (by omega)).mono ?_
    rintro e w1 ⟨b1, rfl, hb1, hr1, hnx1, -⟩
    have B1 := Lib.hid hnx1
    have R1 := Lib.hid hr1
    clear hnx1 hr1 hb1
    go_wp2_with fail
    refine (sFarthest_any _ _ _ n ss k w1 R1.out rfl (by omega) Hwn.out).mono ?_
    rintro e w2 hans
    have hans := ff_uni hans
    unfold FfUni at hans
    rw [Hz.out, Hm.out] at hans
    obtain ⟨A0, c0, rfl, -, hR0, hnx2⟩ := hans
    have R0 := Lib.hid hR0
    have B2 := Lib.hid (B1.out.trans (hnx2.mono B1.out.size))
    clear hR0 hnx2
    go_wp2_with fail
    refine (toS_any A c _ ss w2 ((Hr.out.below B2.out).more B2.out.size) rfl (by omega)).mono ?_
    rintro e w3 ⟨b3, rfl, hb3, hr3, hnx3, hown3⟩
    have B3 := Lib.hid (B2.out.trans (hnx3.mono B2.out.size))
    have C3 := Lib.hid hnx3
    have R3 := Lib.hid hr3
    have Hb3' := Lib.hid (hown3.lt b3 rfl).2
    have X3 := Lib.hid hown3
    have Hb3 := Lib.hid hb3
    clear hb3 hr3 hnx3 hown3
    go_wp2_with fail
    refine (HI'.out _ _ _ n ss k w3 ⟨R3.out, rfl, ⟨Nat.le_refl _, by omega⟩, by omega, Hwn.out⟩ Hwk.out).mono ?_
    rintro e w4 hans
    have hans := ff_uni hans
    unfold FfUni at hans
    rw [Hz.out, Hm.out] at hans
    obtain ⟨A1, c1, rfl, hO1, hR1, hnx4⟩ := hans
    have O1 := Lib.hid hO1
    have P1 := Lib.hid hR1
    have D4 := Lib.hid hnx4
    have C4 := Lib.hid (C3.out.trans (hnx4.mono C3.out.size))
    have B4 := Lib.hid (B2.out.trans (C4.out.mono B2.out.size))
    clear hO1 hR1 hnx4
    go_wp2_with fail
    refine (calls_drawn (eqInt_same _ _ _ _ _ _ zs w4 _ _ P1.out Hm.out (R0.out.below C4.out) Hm.out (by omega))).mono ?_
    rintro e w5 ⟨rfl, hnx5⟩
    have E5 := Lib.hid hnx5
    have B5 := Lib.hid (B4.out.trans (hnx5.mono B4.out.size))
    clear hnx5
    go_wp2_with fail
    refine (toS_any A c _ ss w5 ((Hr.out.below B5.out).more B5.out.size) rfl (by omega)).mono ?_
    rintro e w6 ⟨b6, rfl, -, hr6, hnx6, -⟩
    have E6 := Lib.hid (E5.out.trans (hnx6.mono E5.out.size))
    have B6 := Lib.hid (B5.out.trans (hnx6.mono B5.out.size))
    have R6 := Lib.hid hr6
    clear hr6 hnx6
    have R36 := Lib.hid ((R3.out.below (D4.out.trans (E6.out.mono D4.out.size))).more (Nat.le_trans D4.out.size E6.out.size))
    go_wp2_with fail
    refine (eqS_same _ _ _ _ _ _ ss w6 _ _ R36.out rfl R6.out rfl (by omega) (Nat.le_refl _) (Nat.le_refl _)).mono ?_
    rintro e w7 ⟨rfl, hnx7⟩
    have E7 := Lib.hid (E6.out.trans (hnx7.mono E6.out.size))
    have B7 := Lib.hid (B6.out.trans (hnx7.mono B6.out.size))
    clear hnx7
    have X7 := Lib.hid (ownN_below X3.out (D4.out.trans (E7.out.mono D4.out.size)))
    have O7 := Lib.hid (ownN_below O1.out E7.out)
    have C7 := Lib.hid (C4.out.trans (E7.out.mono C4.out.size))
    have D7 := Lib.hid (D4.out.trans (E7.out.mono D4.out.size))
    go_wp2_with fail
    refine (markS_any w7 _ _ _ _ X7.out (by omega)).mono ?_
    rintro e w8 ⟨rfl, hg8⟩
    have O8 := Lib.hid (O7.out.kept hg8 (.inr (fun e => by have := (O7.out.lt b3 e).1; have := Hb3'.out; omega)))
    obtain ⟨A1', c1', he8, -, -, hP8⟩ := own_slice O8.out Hm.out
    injection he8 with he1 he2 he3
    subst he1 he3
    have P8 := Lib.hid hP8
    have C8 := Lib.hid (C7.out.grown hg8 C7.out.size (fun k e => by injection e with e; have := Hb3.out; omega))
    have B8 := Lib.hid (B2.out.trans (C8.out.mono B2.out.size))
    have D8 : Hid (w3.heap.size ≤ w8.heap.size) := Nat.le_trans D7.out.size hg8.size
    have hpos1 : ¬ (1 + ((ss.length * 3 : Nat) : Int)) < 0 := by omega
    clear hg8 hP8 he2
    go_wp2_with fail
    refine (calls_drawn (eqInt_same _ _ _ _ _ _ zs w8 _ _ P8.out Hm.out (R0.out.below C8.out) Hm.out (by omega))).mono ?_
    rintro e w9 ⟨rfl, hnx9⟩
    have O9 := Lib.hid (ownN_below O8.out hnx9)
    have C9 := Lib.hid (C8.out.trans (hnx9.mono C8.out.size))
    have B9 := Lib.hid (B8.out.trans (hnx9.mono B8.out.size))
    have D9 : Hid (w3.heap.size ≤ w9.heap.size) := Nat.le_trans D8.out hnx9.size
    clear hnx9
    go_wp2_with fail
    refine (markRow_any w9 _ m c1 A1 zs O9.out Hm.out (by omega) D9.out).mono ?_
    rintro e w10 ⟨rfl, hO10, hnx10⟩
    obtain ⟨A1', c1', he8, -, -, hP10⟩ := own_slice hO10 (mk_len 1 m)
    injection he8 with he1 he2 he3
    subst he1 he3
    have P10 := Lib.hid hP10
    have C10 := Lib.hid (C9.out.trans (hnx10.mono C3.out.size))
    have B10 := Lib.hid (B2.out.trans (C10.out.mono B2.out.size))
    have hpos2 : ¬ (1 + ((m : Nat) : Int)) < 0 := by omega
    have hbn : ∀ x : Int, (x != x) = false := fun x => by simp
    clear hO10 hnx10 hP10 he2
    go_wp2_with fail
    refine (heldI_any w10 _ m c1 1 A1 P10.out (by omega) (by omega) (by omega)).mono ?_
    rintro e w' ⟨rfl, rfl⟩
    go_wp2_with fail
    refine (toS_any A c _ ss w10 ((Hr.out.below B10.out).more B10.out.size) rfl (by omega)).mono ?_
    rintro e w11 ⟨b11, rfl, -, hr11, hnx11, -⟩
    have R11 := Lib.hid hr11
    have F11 := Lib.hid hnx11
    have C11 := Lib.hid (C10.out.trans (hnx11.mono C10.out.size))
    have B11 := Lib.hid (B10.out.trans (hnx11.mono B10.out.size))
    clear hr11 hnx11
    go_wp2_with fail
    refine (HI'.out _ _ _ n ss k w11 ⟨R11.out, rfl, ⟨Nat.le_refl _, by omega⟩, by omega, Hwn.out⟩ Hwk.out).mono ?_
    rintro e w12 hans
    have hans := ff_uni hans
    unfold FfUni at hans
    rw [Hz.out, Hm.out] at hans
    obtain ⟨A2, c2, rfl, -, hR2, hnx12⟩ := hans
    have P2 := Lib.hid hR2
    have F12 := Lib.hid (F11.out.trans (hnx12.mono F11.out.size))
    have C12 := Lib.hid (C11.out.trans (hnx12.mono C11.out.size))
    have B12 := Lib.hid (B11.out.trans (hnx12.mono B11.out.size))
    clear hR2 hnx12
    go_wp2_with fail
    refine (calls_drawn (eqInt_same _ _ _ _ _ _ zs w12 _ _ P2.out Hm.out (R0.out.below C12.out) Hm.out (by omega))).mono ?_
    rintro e w13 ⟨rfl, hnx13⟩
    have F13 := Lib.hid (F12.out.trans (hnx13.mono F12.out.size))
    have B13 := Lib.hid (B12.out.trans (hnx13.mono B12.out.size))
    clear hnx13
    go_wp2_with fail
    refine (heldI_any w13 _ m c1 1 A1 (P10.out.below F13.out) (by omega) (by omega) (by omega)).mono ?_
    rintro e w' ⟨rfl, rfl⟩
    go_wp2
    go_ret
    exact ⟨rfl, B13.out⟩
end Go.Proofs.Ytiblcmeoneolcaa
