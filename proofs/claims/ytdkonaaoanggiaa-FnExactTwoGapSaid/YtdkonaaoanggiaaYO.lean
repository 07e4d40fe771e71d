/-
  The exact laws of chapter 7 follow from the functions' contracts: the program's answer is the model's, the arguments stay, and a row owns its memory.
  Conditions: none beyond the contracts'.
-/
import Derived.Test.YtdkonaaoanggiaaYN
import Derived.Test.YtdkonaaoanggiaaUT
import Derived.Test.YtdkonaaoanggiaaE0
import Derived.Test.YtdkonaaoanggiaaGL
import Derived.Test.YtdkonaaoanggiaaMQ
namespace Go.Proofs.Ytdkonaaoanggiaa
open Go.ChangeShapes Go.WideShapes Go.ChangeAt Go.RowKit
set_option linter.unusedVariables false
set_option maxRecDepth 4000

theorem roundIn_mk {w : World} {b n : Nat} {zs : List Int} (h : RdI w w.heap.size (some ⟨b, 0, none⟩) zs) (hn : zs.length = n) (hm : n ≤ 1048576) : RoundIn w (some ⟨b, 0, none⟩) n n zs := ⟨h, hn, ⟨Nat.le_refl _, by omega⟩, hm⟩
theorem vwY_len (n : Int) (zs : List Int) : (vwY n zs).length ≤ 8 := by
  unfold vwY
  split
  · rename_i h; have := (vrY_iff.1 h).n8; rw [vsY_len]; omega
  · simp
theorem gwY_len (n : Int) (zs : List Int) : (gwY n zs).length ≤ 8 := by
  unfold gwY
  split
  · rename_i h; have := (vrY_iff.1 h).n8; rw [gpY_len]; omega
  · simp
theorem srY_len (n : Int) : (srY n).length ≤ 16 := by
  unfold srY
  split
  · rename_i h; rw [swY_is, List.length_append, upY_len, dnY_len]; omega
  · simp

set_option maxHeartbeats 800000 in
theorem exValidRound_walk (a : Int) (A : Option Addr) (c : Nat) (zs : List Int) (w : World) (hwa : (Lit.int .i64 a).wf = true) (hr : RdI w w.heap.size A zs) (hm : zs.length ≤ maxLen) :
    Calls Try.prog 11 #[.int .i64 a, .slice A zs.length c] w fun e w' => e = .returned (.bool true) ∧ Below w.heap.size w w' := by
  unfold maxLen at hm
  clear hwa
  obtain ⟨n, Hn⟩ : ∃ n, Hid (zs.length = n) := ⟨_, rfl⟩
  rw [Hn.out] at hm ⊢
  by_cases hb : 1048576 < n
  · clear hr
    go_enter Try.func11, Try.ntmps11
    go_wp2
    go_ret
    exact ⟨rfl, Below.refl _ _⟩
  · have HI := Lib.hid iValidRound_ok
    have HS := Lib.hid sValidRound_ok
    have HR := Lib.hid hr
    obtain ⟨v, Hv⟩ : ∃ v, Hid (vrY a zs = v) := ⟨_, rfl⟩
    clear hr
    go_enter Try.func11, Try.ntmps11
    go_wp2_with fail
    refine (toInt_any A c n zs w HR.out Hn.out (by omega)).mono ?_
    rintro e w1 ⟨b1, rfl, hb1, hr1, hnx1, -⟩
    rw [Hn.out]
    go_wp2_with fail
    refine (HS.out a _ _ _ zs w1 (roundIn_mk hr1 Hn.out (by omega))).mono ?_
    rintro e w2 ⟨rfl, hq2⟩
    rw [Hv.out]
    have HB2 := Lib.hid (hnx1.trans (hq2.mono hnx1.size))
    clear hr1 hnx1 hq2
    go_wp2_with fail
    refine (toInt_any A c n zs w2 ((HR.out.below HB2.out).more HB2.out.size) Hn.out (by omega)).mono ?_
    rintro e w3 ⟨b3, rfl, hb3, hr3, hnx3, -⟩
    rw [Hn.out]
    have HB3 := Lib.hid (HB2.out.trans (hnx3.mono HB2.out.size))
    have HR3 := Lib.hid hr3
    clear hr3 hnx3
    go_wp2_with fail
    refine (HI.out a _ _ _ zs w3 (roundIn_mk HR3.out Hn.out (by omega))).mono ?_
    rintro e w4 ⟨rfl, hq4⟩
    rw [Hv.out]
    have HB4 := Lib.hid (HB3.out.trans (hq4.mono HB3.out.size))
    have HR4 := Lib.hid ((HR3.out.below hq4).more hq4.size)
    have hbn : ∀ x : Bool, (x != x) = false := fun x => by simp
    clear hq4
    go_wp2_with fail
    refine (toInt_any A c n zs w4 ((HR.out.below HB4.out).more HB4.out.size) Hn.out (by omega)).mono ?_
    rintro e w5 ⟨b5, rfl, hb5, hr5, hnx5, -⟩
    rw [Hn.out]
    have HB5 := Lib.hid (HB4.out.trans (hnx5.mono HB4.out.size))
    have HR5 := Lib.hid (HR4.out.below hnx5)
    clear hnx5
    go_wp2_with fail
    refine (eqInt_same _ _ _ _ _ _ zs w5 _ _ HR5.out Hn.out hr5 Hn.out (by omega)).mono ?_
    rintro e w6 ⟨rfl, q, rfl⟩
    go_wp2
    go_ret
    exact ⟨rfl, below_drewN HB5.out q⟩

set_option maxHeartbeats 800000 in
theorem exWorstGap_walk (a : Int) (A : Option Addr) (c : Nat) (zs : List Int) (w : World) (hwa : (Lit.int .i64 a).wf = true) (hr : RdI w w.heap.size A zs) (hm : zs.length ≤ maxLen) :
    Calls Try.prog 14 #[.int .i64 a, .slice A zs.length c] w fun e w' => e = .returned (.bool true) ∧ Below w.heap.size w w' := by
  unfold maxLen at hm
  clear hwa
  obtain ⟨n, Hn⟩ : ∃ n, Hid (zs.length = n) := ⟨_, rfl⟩
  rw [Hn.out] at hm ⊢
  by_cases hb : 1048576 < n
  · clear hr
    go_enter Try.func14, Try.ntmps14
    go_wp2
    go_ret
    exact ⟨rfl, Below.refl _ _⟩
  · have HI := Lib.hid iWorstGap_ok
    have HS := Lib.hid sWorstGap_ok
    have HR := Lib.hid hr
    obtain ⟨v, Hv⟩ : ∃ v, Hid (wgY a zs = v) := ⟨_, rfl⟩
    clear hr
    go_enter Try.func14, Try.ntmps14
    go_wp2_with fail
    refine (toInt_any A c n zs w HR.out Hn.out (by omega)).mono ?_
    rintro e w1 ⟨b1, rfl, hb1, hr1, hnx1, -⟩
    rw [Hn.out]
    go_wp2_with fail
    refine (HS.out a _ _ _ zs w1 (roundIn_mk hr1 Hn.out (by omega))).mono ?_
    rintro e w2 ⟨rfl, hq2⟩
    rw [Hv.out]
    have HB2 := Lib.hid (hnx1.trans (hq2.mono hnx1.size))
    clear hr1 hnx1 hq2
    go_wp2_with fail
    refine (toInt_any A c n zs w2 ((HR.out.below HB2.out).more HB2.out.size) Hn.out (by omega)).mono ?_
    rintro e w3 ⟨b3, rfl, hb3, hr3, hnx3, -⟩
    rw [Hn.out]
    have HB3 := Lib.hid (HB2.out.trans (hnx3.mono HB2.out.size))
    have HR3 := Lib.hid hr3
    clear hr3 hnx3
    go_wp2_with fail
    refine (HI.out a _ _ _ zs w3 (roundIn_mk HR3.out Hn.out (by omega))).mono ?_
    rintro e w4 ⟨rfl, hq4⟩
    rw [Hv.out]
    have HB4 := Lib.hid (HB3.out.trans (hq4.mono HB3.out.size))
    have HR4 := Lib.hid ((HR3.out.below hq4).more hq4.size)
    have hbn : ∀ x : Int, (x != x) = false := fun x => by simp
    clear hq4
    go_wp2_with fail
    refine (toInt_any A c n zs w4 ((HR.out.below HB4.out).more HB4.out.size) Hn.out (by omega)).mono ?_
    rintro e w5 ⟨b5, rfl, hb5, hr5, hnx5, -⟩
    rw [Hn.out]
    have HB5 := Lib.hid (HB4.out.trans (hnx5.mono HB4.out.size))
    have HR5 := Lib.hid (HR4.out.below hnx5)
    clear hnx5
    go_wp2_with fail
    refine (eqInt_same _ _ _ _ _ _ zs w5 _ _ HR5.out Hn.out hr5 Hn.out (by omega)).mono ?_
    rintro e w6 ⟨rfl, q, rfl⟩
    go_wp2
    go_ret
    exact ⟨rfl, below_drewN HB5.out q⟩

set_option maxHeartbeats 800000 in
theorem exTwoGap_walk (a : Int) (A : Option Addr) (c : Nat) (zs : List Int) (l : Int) (w : World) (hwa : (Lit.int .i64 a).wf = true) (hr : RdI w w.heap.size A zs) (hm : zs.length ≤ maxLen) (hwl : (Lit.int .i64 l).wf = true) :
    Calls Try.prog 16 #[.int .i64 a, .slice A zs.length c, .int .i64 l] w fun e w' => e = .returned (.bool true) ∧ Below w.heap.size w w' := by
  unfold maxLen at hm
  clear hwa hwl
  obtain ⟨n, Hn⟩ : ∃ n, Hid (zs.length = n) := ⟨_, rfl⟩
  rw [Hn.out] at hm ⊢
  by_cases hb : 1048576 < n
  · clear hr
    go_enter Try.func16, Try.ntmps16
    go_wp2
    go_ret
    exact ⟨rfl, Below.refl _ _⟩
  · have HI := Lib.hid iTwoGap_ok
    have HS := Lib.hid sTwoGap_ok
    have HR := Lib.hid hr
    obtain ⟨v, Hv⟩ : ∃ v, Hid (tgY a zs l = v) := ⟨_, rfl⟩
    clear hr
    go_enter Try.func16, Try.ntmps16
    go_wp2_with fail
    refine (toInt_any A c n zs w HR.out Hn.out (by omega)).mono ?_
    rintro e w1 ⟨b1, rfl, hb1, hr1, hnx1, -⟩
    rw [Hn.out]
    go_wp2_with fail
    refine (HS.out a _ _ _ zs l w1 (roundIn_mk hr1 Hn.out (by omega))).mono ?_
    rintro e w2 ⟨rfl, hq2⟩
    rw [Hv.out]
    have HB2 := Lib.hid (hnx1.trans (hq2.mono hnx1.size))
    clear hr1 hnx1 hq2
    go_wp2_with fail
    refine (toInt_any A c n zs w2 ((HR.out.below HB2.out).more HB2.out.size) Hn.out (by omega)).mono ?_
    rintro e w3 ⟨b3, rfl, hb3, hr3, hnx3, -⟩
    rw [Hn.out]
    have HB3 := Lib.hid (HB2.out.trans (hnx3.mono HB2.out.size))
    have HR3 := Lib.hid hr3
    clear hr3 hnx3
    go_wp2_with fail
    refine (HI.out a _ _ _ zs l w3 (roundIn_mk HR3.out Hn.out (by omega))).mono ?_
    rintro e w4 ⟨rfl, hq4⟩
    rw [Hv.out]
    have HB4 := Lib.hid (HB3.out.trans (hq4.mono HB3.out.size))
    have HR4 := Lib.hid ((HR3.out.below hq4).more hq4.size)
    have hbn : ∀ x : Int, (x != x) = false := fun x => by simp
    clear hq4
    go_wp2_with fail
    refine (toInt_any A c n zs w4 ((HR.out.below HB4.out).more HB4.out.size) Hn.out (by omega)).mono ?_
    rintro e w5 ⟨b5, rfl, hb5, hr5, hnx5, -⟩
    rw [Hn.out]
    have HB5 := Lib.hid (HB4.out.trans (hnx5.mono HB4.out.size))
    have HR5 := Lib.hid (HR4.out.below hnx5)
    clear hnx5
    go_wp2_with fail
    refine (eqInt_same _ _ _ _ _ _ zs w5 _ _ HR5.out Hn.out hr5 Hn.out (by omega)).mono ?_
    rintro e w6 ⟨rfl, q, rfl⟩
    go_wp2
    go_ret
    exact ⟨rfl, below_drewN HB5.out q⟩

set_option maxHeartbeats 1600000 in
theorem exVisitsOf_walk (a : Int) (A : Option Addr) (c : Nat) (zs : List Int) (w : World) (hwa : (Lit.int .i64 a).wf = true) (hr : RdI w w.heap.size A zs) (hm : zs.length ≤ maxLen) :
    Calls Try.prog 12 #[.int .i64 a, .slice A zs.length c] w fun e w' => e = .returned (.bool true) ∧ Below w.heap.size w w' := by
  unfold maxLen at hm
  clear hwa
  obtain ⟨n, Hn⟩ : ∃ n, Hid (zs.length = n) := ⟨_, rfl⟩
  rw [Hn.out] at hm ⊢
  by_cases hb : 1048576 < n
  · clear hr
    go_enter Try.func12, Try.ntmps12
    go_wp2
    go_ret
    exact ⟨rfl, Below.refl _ _⟩
  · have HI := Lib.hid iVisitsOf_ok
    have HS := Lib.hid sVisitsOf_ok
    have HR := Lib.hid hr
    have hm2 := vwY_len a zs
    obtain ⟨xs, Hx⟩ : ∃ xs, Hid (vwY a zs = xs) := ⟨_, rfl⟩
    rw [Hx.out] at hm2
    obtain ⟨m, Hm⟩ : ∃ m, Hid (xs.length = m) := ⟨_, rfl⟩
    rw [Hm.out] at hm2
    have HI2 : Hid (∀ (A : Option Addr) (c n : Nat) (w : World), RoundIn w A c n zs → Calls Try.prog 22 #[.int .i64 a, .slice A n c] w fun e w' => ∃ A' c', e = .returned (.slice A' m c') ∧ Hid (w'.ownsRow w.heap.size 3 1 (.slice A' m c') m (xs.map (Value.int .i64))) ∧ Hid (Below w.heap.size w w')) := fun A c n w h => by
      have := HI.out a A c n zs w h
      unfold RowIs at this
      rw [Hx.out, Hm.out] at this
      exact this
    have HS2 : Hid (∀ (A : Option Addr) (c n : Nat) (w : World), RoundIn w A c n zs → Calls Try.prog 24 #[.int .i64 a, .slice A n c] w fun e w' => ∃ A' c', e = .returned (.slice A' m c') ∧ Hid (w'.ownsRow w.heap.size 3 1 (.slice A' m c') m (xs.map (Value.int .i64))) ∧ Hid (Below w.heap.size w w')) := fun A c n w h => by
      have := HS.out a A c n zs w h
      unfold RowIs at this
      rw [Hx.out, Hm.out] at this
      exact this
    clear hr HI HS
    go_enter Try.func12, Try.ntmps12
    go_wp2_with fail
    refine (toInt_any A c n zs w HR.out Hn.out (by omega)).mono ?_
    rintro e w1 ⟨b1, rfl, hb1, hr1, hnx1, -⟩
    rw [Hn.out]
    have B1 := Lib.hid hnx1
    have R1 := Lib.hid hr1
    clear hnx1 hr1 hb1
    go_wp2_with fail
    refine (HS2.out _ _ _ w1 (roundIn_mk R1.out Hn.out (by omega))).mono ?_
    rintro e w2 ⟨A0, c0, rfl, ho0, hq2⟩
    obtain ⟨A0', c0', he0, -, -, hR0⟩ := own_slice ho0.out Hm.out
    injection he0 with he1 he2 he3
    subst he1 he3
    have R0 := Lib.hid hR0
    have B2 := Lib.hid (B1.out.trans (hq2.out.mono B1.out.size))
    clear hR0 hq2 he2 ho0
    go_wp2_with fail
    refine (toInt_any A c n zs w2 ((HR.out.below B2.out).more B2.out.size) Hn.out (by omega)).mono ?_
    rintro e w3 ⟨b3, rfl, hb3, hr3, hnx3, hown3⟩
    rw [Hn.out] at hown3 ⊢
    have B3 := Lib.hid (B2.out.trans (hnx3.mono B2.out.size))
    have C3 := Lib.hid hnx3
    have R3 := Lib.hid hr3
    have Hb3' := Lib.hid (hown3.lt b3 rfl).2
    have X3 := Lib.hid hown3
    have Hb3 := Lib.hid hb3
    clear hb3 hr3 hnx3 hown3
    go_wp2_with fail
    refine (HI2.out _ _ _ w3 (roundIn_mk R3.out Hn.out (by omega))).mono ?_
    rintro e w4 ⟨A1, c1, rfl, O1, D4⟩
    obtain ⟨A1', c1', he1', -, -, hR1⟩ := own_slice O1.out Hm.out
    injection he1' with he1 he2 he3
    subst he1 he3
    have P1 := Lib.hid hR1
    have C4 := Lib.hid (C3.out.trans (D4.out.mono C3.out.size))
    have B4 := Lib.hid (B2.out.trans (C4.out.mono B2.out.size))
    clear hR1 he2
    go_wp2_with fail
    refine (calls_drawn (eqInt_same _ _ _ _ _ _ xs w4 _ _ P1.out Hm.out (R0.out.below C4.out) Hm.out (by omega))).mono ?_
    rintro e w5 ⟨rfl, hnx5⟩
    have E5 := Lib.hid hnx5
    have B5 := Lib.hid (B4.out.trans (hnx5.mono B4.out.size))
    clear hnx5
    go_wp2_with fail
    refine (toInt_any A c n zs w5 ((HR.out.below B5.out).more B5.out.size) Hn.out (by omega)).mono ?_
    rintro e w6 ⟨b6, rfl, -, hr6, hnx6, -⟩
    rw [Hn.out]
    have E6 := Lib.hid (E5.out.trans (hnx6.mono E5.out.size))
    have B6 := Lib.hid (B5.out.trans (hnx6.mono B5.out.size))
    have R6 := Lib.hid hr6
    clear hr6 hnx6
    have R36 := Lib.hid ((R3.out.below (D4.out.trans (E6.out.mono D4.out.size))).more (Nat.le_trans D4.out.size E6.out.size))
    go_wp2_with fail
    refine (calls_drawn (eqInt_same _ _ _ _ _ _ zs w6 _ _ R36.out Hn.out R6.out Hn.out (by omega))).mono ?_
    rintro e w7 ⟨rfl, hnx7⟩
    have E7 := Lib.hid (E6.out.trans (hnx7.mono E6.out.size))
    have B7 := Lib.hid (B6.out.trans (hnx7.mono B6.out.size))
    clear hnx7
    have X7 := Lib.hid (ownN_below X3.out (D4.out.trans (E7.out.mono D4.out.size)))
    have O7 := Lib.hid (ownN_below O1.out E7.out)
    have C7 := Lib.hid (C4.out.trans (E7.out.mono C4.out.size))
    have D7 := Lib.hid (D4.out.trans (E7.out.mono D4.out.size))
    go_wp2_with fail
    refine (markI_any w7 _ b3 n n 1 zs X7.out Hn.out (by omega) (by omega) (by omega)).mono ?_
    rintro e w8 ⟨rfl, -, hg8⟩
    have O8 := Lib.hid (O7.out.kept hg8 (.inr (fun e => by have := (O7.out.lt b3 e).1; have := Hb3'.out; omega)))
    obtain ⟨A1', c1', he8, -, -, hP8⟩ := own_slice O8.out Hm.out
    injection he8 with he1 he2 he3
    subst he1 he3
    have P8 := Lib.hid hP8
    have C8 := Lib.hid (C7.out.grown hg8 C7.out.size (fun k e => by injection e with e; have := Hb3.out; omega))
    have B8 := Lib.hid (B2.out.trans (C8.out.mono B2.out.size))
    have D8 : Hid (w3.heap.size ≤ w8.heap.size) := Nat.le_trans D7.out.size hg8.size
    have hpos1 : ¬ (1 + (n : Int)) < 0 := by omega
    clear hg8 hP8 he2
    go_wp2_with fail
    refine (calls_drawn (eqInt_same _ _ _ _ _ _ xs w8 _ _ P8.out Hm.out (R0.out.below C8.out) Hm.out (by omega))).mono ?_
    rintro e w9 ⟨rfl, hnx9⟩
    have O9 := Lib.hid (ownN_below O8.out hnx9)
    have C9 := Lib.hid (C8.out.trans (hnx9.mono C8.out.size))
    have B9 := Lib.hid (B8.out.trans (hnx9.mono B8.out.size))
    have D9 : Hid (w3.heap.size ≤ w9.heap.size) := Nat.le_trans D8.out hnx9.size
    clear hnx9
    go_wp2_with fail
    refine (markRow_any w9 _ m c1 A1 xs O9.out Hm.out (by omega) D9.out).mono ?_
    rintro e w10 ⟨rfl, hO10, hnx10⟩
    obtain ⟨A1', c1', he8, -, -, hP10⟩ := own_slice hO10 (mk_len 1 m)
    injection he8 with he1 he2 he3
    subst he1 he3
    have P10 := Lib.hid hP10
    have C10 := Lib.hid (C9.out.trans (hnx10.mono C3.out.size))
    have B10 := Lib.hid (B2.out.trans (C10.out.mono B2.out.size))
    have hpos2 : ¬ (1 + ((m : Nat) : Int)) < 0 := by omega
    have hbn : ∀ x : Int, (x != x) = false := fun x => by simp
    clear hO10 hnx10 hP10 he2
    go_wp2_with fail
    refine (heldI_any w10 _ m c1 1 A1 P10.out (by omega) (by omega) (by omega)).mono ?_
    rintro e w' ⟨rfl, rfl⟩
    go_wp2_with fail
    refine (toInt_any A c n zs w10 ((HR.out.below B10.out).more B10.out.size) Hn.out (by omega)).mono ?_
    rintro e w11 ⟨b11, rfl, -, hr11, hnx11, -⟩
    rw [Hn.out]
    have R11 := Lib.hid hr11
    have F11 := Lib.hid hnx11
    have C11 := Lib.hid (C10.out.trans (hnx11.mono C10.out.size))
    have B11 := Lib.hid (B10.out.trans (hnx11.mono B10.out.size))
    clear hr11 hnx11
    go_wp2_with fail
    refine (HI2.out _ _ _ w11 (roundIn_mk R11.out Hn.out (by omega))).mono ?_
    rintro e w12 ⟨A2, c2, rfl, ho2, hq12⟩
    obtain ⟨A2', c2', he2', -, -, hR2⟩ := own_slice ho2.out Hm.out
    injection he2' with he1 he2 he3
    subst he1 he3
    have P2 := Lib.hid hR2
    have F12 := Lib.hid (F11.out.trans (hq12.out.mono F11.out.size))
    have C12 := Lib.hid (C11.out.trans (hq12.out.mono C11.out.size))
    have B12 := Lib.hid (B11.out.trans (hq12.out.mono B11.out.size))
    clear hR2 hq12 ho2 he2
    go_wp2_with fail
    refine (calls_drawn (eqInt_same _ _ _ _ _ _ xs w12 _ _ P2.out Hm.out (R0.out.below C12.out) Hm.out (by omega))).mono ?_
    rintro e w13 ⟨rfl, hnx13⟩
    have F13 := Lib.hid (F12.out.trans (hnx13.mono F12.out.size))
    have B13 := Lib.hid (B12.out.trans (hnx13.mono B12.out.size))
    clear hnx13
    go_wp2_with fail
    refine (heldI_any w13 _ m c1 1 A1 (P10.out.below F13.out) (by omega) (by omega) (by omega)).mono ?_
    rintro e w' ⟨rfl, rfl⟩
    go_wp2
    go_ret
    exact ⟨rfl, B13.out⟩

set_option maxHeartbeats 1600000 in
theorem exGapsOf_walk (a : Int) (A : Option Addr) (c : Nat) (zs : List Int) (w : World) (hwa : (Lit.int .i64 a).wf = true) (hr : RdI w w.heap.size A zs) (hm : zs.length ≤ maxLen) :
    Calls Try.prog 13 #[.int .i64 a, .slice A zs.length c] w fun e w' => e = .returned (.bool true) ∧ Below w.heap.size w w' := by
  unfold maxLen at hm
  clear hwa
  obtain ⟨n, Hn⟩ : ∃ n, Hid (zs.length = n) := ⟨_, rfl⟩
  rw [Hn.out] at hm ⊢
  by_cases hb : 1048576 < n
  · clear hr
    go_enter Try.func13, Try.ntmps13
    go_wp2
    go_ret
    exact ⟨rfl, Below.refl _ _⟩
  · have HI := Lib.hid iGapsOf_ok
    have HS := Lib.hid sGapsOf_ok
    have HR := Lib.hid hr
    have hm2 := gwY_len a zs
    obtain ⟨xs, Hx⟩ : ∃ xs, Hid (gwY a zs = xs) := ⟨_, rfl⟩
    rw [Hx.out] at hm2
    obtain ⟨m, Hm⟩ : ∃ m, Hid (xs.length = m) := ⟨_, rfl⟩
    rw [Hm.out] at hm2
    have HI2 : Hid (∀ (A : Option Addr) (c n : Nat) (w : World), RoundIn w A c n zs → Calls Try.prog 27 #[.int .i64 a, .slice A n c] w fun e w' => ∃ A' c', e = .returned (.slice A' m c') ∧ Hid (w'.ownsRow w.heap.size 3 1 (.slice A' m c') m (xs.map (Value.int .i64))) ∧ Hid (Below w.heap.size w w')) := fun A c n w h => by
      have := HI.out a A c n zs w h
      unfold RowIs at this
      rw [Hx.out, Hm.out] at this
      exact this
    have HS2 : Hid (∀ (A : Option Addr) (c n : Nat) (w : World), RoundIn w A c n zs → Calls Try.prog 28 #[.int .i64 a, .slice A n c] w fun e w' => ∃ A' c', e = .returned (.slice A' m c') ∧ Hid (w'.ownsRow w.heap.size 3 1 (.slice A' m c') m (xs.map (Value.int .i64))) ∧ Hid (Below w.heap.size w w')) := fun A c n w h => by
      have := HS.out a A c n zs w h
      unfold RowIs at this
      rw [Hx.out, Hm.out] at this
      exact this
    clear hr HI HS
    go_enter Try.func13, Try.ntmps13
    go_wp2_with fail
    refine (toInt_any A c n zs w HR.out Hn.out (by omega)).mono ?_
    rintro e w1 ⟨b1, rfl, hb1, hr1, hnx1, -⟩
    rw [Hn.out]
    have B1 := Lib.hid hnx1
    have R1 := Lib.hid hr1
    clear hnx1 hr1 hb1
    go_wp2_with fail
    refine (HS2.out _ _ _ w1 (roundIn_mk R1.out Hn.out (by omega))).mono ?_
    rintro e w2 ⟨A0, c0, rfl, ho0, hq2⟩
    obtain ⟨A0', c0', he0, -, -, hR0⟩ := own_slice ho0.out Hm.out
    injection he0 with he1 he2 he3
    subst he1 he3
    have R0 := Lib.hid hR0
    have B2 := Lib.hid (B1.out.trans (hq2.out.mono B1.out.size))
    clear hR0 hq2 he2 ho0
    go_wp2_with fail
    refine (toInt_any A c n zs w2 ((HR.out.below B2.out).more B2.out.size) Hn.out (by omega)).mono ?_
    rintro e w3 ⟨b3, rfl, hb3, hr3, hnx3, hown3⟩
    rw [Hn.out] at hown3 ⊢
    have B3 := Lib.hid (B2.out.trans (hnx3.mono B2.out.size))
    have C3 := Lib.hid hnx3
    have R3 := Lib.hid hr3
    have Hb3' := Lib.hid (hown3.lt b3 rfl).2
    have X3 := Lib.hid hown3
    have Hb3 := Lib.hid hb3
    clear hb3 hr3 hnx3 hown3
    go_wp2_with fail
    refine (HI2.out _ _ _ w3 (roundIn_mk R3.out Hn.out (by omega))).mono ?_
    rintro e w4 ⟨A1, c1, rfl, O1, D4⟩
    obtain ⟨A1', c1', he1', -, -, hR1⟩ := own_slice O1.out Hm.out
    injection he1' with he1 he2 he3
    subst he1 he3
    have P1 := Lib.hid hR1
    have C4 := Lib.hid (C3.out.trans (D4.out.mono C3.out.size))
    have B4 := Lib.hid (B2.out.trans (C4.out.mono B2.out.size))
    clear hR1 he2
    go_wp2_with fail
    refine (calls_drawn (eqInt_same _ _ _ _ _ _ xs w4 _ _ P1.out Hm.out (R0.out.below C4.out) Hm.out (by omega))).mono ?_
    rintro e w5 ⟨rfl, hnx5⟩
    have E5 := Lib.hid hnx5
    have B5 := Lib.hid (B4.out.trans (hnx5.mono B4.out.size))
    clear hnx5
    go_wp2_with fail
    refine (toInt_any A c n zs w5 ((HR.out.below B5.out).more B5.out.size) Hn.out (by omega)).mono ?_
    rintro e w6 ⟨b6, rfl, -, hr6, hnx6, -⟩
    rw [Hn.out]
    have E6 := Lib.hid (E5.out.trans (hnx6.mono E5.out.size))
    have B6 := Lib.hid (B5.out.trans (hnx6.mono B5.out.size))
    have R6 := Lib.hid hr6
    clear hr6 hnx6
    have R36 := Lib.hid ((R3.out.below (D4.out.trans (E6.out.mono D4.out.size))).more (Nat.le_trans D4.out.size E6.out.size))
    go_wp2_with fail
    refine (calls_drawn (eqInt_same _ _ _ _ _ _ zs w6 _ _ R36.out Hn.out R6.out Hn.out (by omega))).mono ?_
    rintro e w7 ⟨rfl, hnx7⟩
    have E7 := Lib.hid (E6.out.trans (hnx7.mono E6.out.size))
    have B7 := Lib.hid (B6.out.trans (hnx7.mono B6.out.size))
    clear hnx7
    have X7 := Lib.hid (ownN_below X3.out (D4.out.trans (E7.out.mono D4.out.size)))
    have O7 := Lib.hid (ownN_below O1.out E7.out)
    have C7 := Lib.hid (C4.out.trans (E7.out.mono C4.out.size))
    have D7 := Lib.hid (D4.out.trans (E7.out.mono D4.out.size))
    go_wp2_with fail
    refine (markI_any w7 _ b3 n n 1 zs X7.out Hn.out (by omega) (by omega) (by omega)).mono ?_
    rintro e w8 ⟨rfl, -, hg8⟩
    have O8 := Lib.hid (O7.out.kept hg8 (.inr (fun e => by have := (O7.out.lt b3 e).1; have := Hb3'.out; omega)))
    obtain ⟨A1', c1', he8, -, -, hP8⟩ := own_slice O8.out Hm.out
    injection he8 with he1 he2 he3
    subst he1 he3
    have P8 := Lib.hid hP8
    have C8 := Lib.hid (C7.out.grown hg8 C7.out.size (fun k e => by injection e with e; have := Hb3.out; omega))
    have B8 := Lib.hid (B2.out.trans (C8.out.mono B2.out.size))
    have D8 : Hid (w3.heap.size ≤ w8.heap.size) := Nat.le_trans D7.out.size hg8.size
    have hpos1 : ¬ (1 + (n : Int)) < 0 := by omega
    clear hg8 hP8 he2
    go_wp2_with fail
    refine (calls_drawn (eqInt_same _ _ _ _ _ _ xs w8 _ _ P8.out Hm.out (R0.out.below C8.out) Hm.out (by omega))).mono ?_
    rintro e w9 ⟨rfl, hnx9⟩
    have O9 := Lib.hid (ownN_below O8.out hnx9)
    have C9 := Lib.hid (C8.out.trans (hnx9.mono C8.out.size))
    have B9 := Lib.hid (B8.out.trans (hnx9.mono B8.out.size))
    have D9 : Hid (w3.heap.size ≤ w9.heap.size) := Nat.le_trans D8.out hnx9.size
    clear hnx9
    go_wp2_with fail
    refine (markRow_any w9 _ m c1 A1 xs O9.out Hm.out (by omega) D9.out).mono ?_
    rintro e w10 ⟨rfl, hO10, hnx10⟩
    obtain ⟨A1', c1', he8, -, -, hP10⟩ := own_slice hO10 (mk_len 1 m)
    injection he8 with he1 he2 he3
    subst he1 he3
    have P10 := Lib.hid hP10
    have C10 := Lib.hid (C9.out.trans (hnx10.mono C3.out.size))
    have B10 := Lib.hid (B2.out.trans (C10.out.mono B2.out.size))
    have hpos2 : ¬ (1 + ((m : Nat) : Int)) < 0 := by omega
    have hbn : ∀ x : Int, (x != x) = false := fun x => by simp
    clear hO10 hnx10 hP10 he2
    go_wp2_with fail
    refine (heldI_any w10 _ m c1 1 A1 P10.out (by omega) (by omega) (by omega)).mono ?_
    rintro e w' ⟨rfl, rfl⟩
    go_wp2_with fail
    refine (toInt_any A c n zs w10 ((HR.out.below B10.out).more B10.out.size) Hn.out (by omega)).mono ?_
    rintro e w11 ⟨b11, rfl, -, hr11, hnx11, -⟩
    rw [Hn.out]
    have R11 := Lib.hid hr11
    have F11 := Lib.hid hnx11
    have C11 := Lib.hid (C10.out.trans (hnx11.mono C10.out.size))
    have B11 := Lib.hid (B10.out.trans (hnx11.mono B10.out.size))
    clear hr11 hnx11
    go_wp2_with fail
    refine (HI2.out _ _ _ w11 (roundIn_mk R11.out Hn.out (by omega))).mono ?_
    rintro e w12 ⟨A2, c2, rfl, ho2, hq12⟩
    obtain ⟨A2', c2', he2', -, -, hR2⟩ := own_slice ho2.out Hm.out
    injection he2' with he1 he2 he3
    subst he1 he3
    have P2 := Lib.hid hR2
    have F12 := Lib.hid (F11.out.trans (hq12.out.mono F11.out.size))
    have C12 := Lib.hid (C11.out.trans (hq12.out.mono C11.out.size))
    have B12 := Lib.hid (B11.out.trans (hq12.out.mono B11.out.size))
    clear hR2 hq12 ho2 he2
    go_wp2_with fail
    refine (calls_drawn (eqInt_same _ _ _ _ _ _ xs w12 _ _ P2.out Hm.out (R0.out.below C12.out) Hm.out (by omega))).mono ?_
    rintro e w13 ⟨rfl, hnx13⟩
    have F13 := Lib.hid (F12.out.trans (hnx13.mono F12.out.size))
    have B13 := Lib.hid (B12.out.trans (hnx13.mono B12.out.size))
    clear hnx13
    go_wp2_with fail
    refine (heldI_any w13 _ m c1 1 A1 (P10.out.below F13.out) (by omega) (by omega) (by omega)).mono ?_
    rintro e w' ⟨rfl, rfl⟩
    go_wp2
    go_ret
    exact ⟨rfl, B13.out⟩

set_option maxHeartbeats 1600000 in
theorem exSweepRound_walk (a : Int) (w : World) (hwa : (Lit.int .i64 a).wf = true) :
    Calls Try.prog 15 #[.int .i64 a] w fun e w' => e = .returned (.bool true) ∧ Below w.heap.size w w' := by
  clear hwa
  have HI := Lib.hid iSweepRound_ok
  have HS := Lib.hid sSweepRound_ok
  have hm2 := srY_len a
  obtain ⟨xs, Hx⟩ : ∃ xs, Hid (srY a = xs) := ⟨_, rfl⟩
  rw [Hx.out] at hm2
  obtain ⟨m, Hm⟩ : ∃ m, Hid (xs.length = m) := ⟨_, rfl⟩
  rw [Hm.out] at hm2
  have HI2 : Hid (∀ (w : World), Calls Try.prog 35 #[.int .i64 a] w fun e w' => ∃ A' c', e = .returned (.slice A' m c') ∧ Hid (w'.ownsRow w.heap.size 3 1 (.slice A' m c') m (xs.map (Value.int .i64))) ∧ Hid (Below w.heap.size w w')) := fun w => by
    have := HI.out a w
    unfold RowIs at this
    rw [Hx.out, Hm.out] at this
    exact this
  have HS2 : Hid (∀ (w : World), Calls Try.prog 36 #[.int .i64 a] w fun e w' => ∃ A' c', e = .returned (.slice A' m c') ∧ Hid (w'.ownsRow w.heap.size 3 1 (.slice A' m c') m (xs.map (Value.int .i64))) ∧ Hid (Below w.heap.size w w')) := fun w => by
    have := HS.out a w
    unfold RowIs at this
    rw [Hx.out, Hm.out] at this
    exact this
  clear HI HS
  go_enter Try.func15, Try.ntmps15
  go_wp2_with fail
  refine (HS2.out w).mono ?_
  rintro e w2 ⟨A0, c0, rfl, ho0, hq2⟩
  obtain ⟨A0', c0', he0, -, -, hR0⟩ := own_slice ho0.out Hm.out
  injection he0 with he1 he2 he3
  subst he1 he3
  have R0 := Lib.hid hR0
  have B2 := Lib.hid hq2.out
  clear hR0 hq2 he2 ho0
  go_wp2_with fail
  refine (HI2.out w2).mono ?_
  rintro e w4 ⟨A1, c1, rfl, O1, D4⟩
  obtain ⟨A1', c1', he1', -, -, hR1⟩ := own_slice O1.out Hm.out
  injection he1' with he1 he2 he3
  subst he1 he3
  have P1 := Lib.hid hR1
  have C4 := Lib.hid D4.out
  have B4 := Lib.hid (B2.out.trans (C4.out.mono B2.out.size))
  clear hR1 he2
  go_wp2_with fail
  refine (calls_drawn (eqInt_same _ _ _ _ _ _ xs w4 _ _ P1.out Hm.out (R0.out.below C4.out) Hm.out (by omega))).mono ?_
  rintro e w5 ⟨rfl, hnx5⟩
  have O9 := Lib.hid (ownN_below O1.out hnx5)
  have C9 := Lib.hid (C4.out.trans (hnx5.mono C4.out.size))
  have B9 := Lib.hid (B4.out.trans (hnx5.mono B4.out.size))
  have D9 : Hid (w2.heap.size ≤ w5.heap.size) := C9.out.size
  clear hnx5
  go_wp2_with fail
  refine (markRow_any w5 _ m c1 A1 xs O9.out Hm.out (by omega) D9.out).mono ?_
  rintro e w10 ⟨rfl, hO10, hnx10⟩
  obtain ⟨A1', c1', he8, -, -, hP10⟩ := own_slice hO10 (mk_len 1 m)
  injection he8 with he1 he2 he3
  subst he1 he3
  have P10 := Lib.hid hP10
  have C10 := Lib.hid (C9.out.trans hnx10)
  have B10 := Lib.hid (B2.out.trans (C10.out.mono B2.out.size))
  have hpos2 : ¬ (1 + ((m : Nat) : Int)) < 0 := by omega
  have hbn : ∀ x : Int, (x != x) = false := fun x => by simp
  clear hO10 hnx10 hP10 he2
  go_wp2_with fail
  refine (heldI_any w10 _ m c1 1 A1 P10.out (by omega) (by omega) (by omega)).mono ?_
  rintro e w' ⟨rfl, rfl⟩
  go_wp2_with fail
  refine (HI2.out w10).mono ?_
  rintro e w12 ⟨A2, c2, rfl, ho2, hq12⟩
  obtain ⟨A2', c2', he2', -, -, hR2⟩ := own_slice ho2.out Hm.out
  injection he2' with he1 he2 he3
  subst he1 he3
  have P2 := Lib.hid hR2
  have F12 := Lib.hid hq12.out
  have C12 := Lib.hid (C10.out.trans (hq12.out.mono C10.out.size))
  have B12 := Lib.hid (B10.out.trans (hq12.out.mono B10.out.size))
  clear hR2 hq12 ho2 he2
  go_wp2_with fail
  refine (calls_drawn (eqInt_same _ _ _ _ _ _ xs w12 _ _ P2.out Hm.out (R0.out.below C12.out) Hm.out (by omega))).mono ?_
  rintro e w13 ⟨rfl, hnx13⟩
  have F13 := Lib.hid (F12.out.trans (hnx13.mono F12.out.size))
  have B13 := Lib.hid (B12.out.trans (hnx13.mono B12.out.size))
  clear hnx13
  go_wp2_with fail
  refine (heldI_any w13 _ m c1 1 A1 (P10.out.below F13.out) (by omega) (by omega) (by omega)).mono ?_
  rintro e w' ⟨rfl, rfl⟩
  go_wp2
  go_ret
  exact ⟨rfl, B13.out⟩
end Go.Proofs.Ytdkonaaoanggiaa
