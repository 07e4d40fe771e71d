/-
  The exact laws of chapter 10 follow from the functions' contracts: the program's answer is the model's, the arguments stay, and a row or a table owns its memory.
  Conditions: none beyond the contracts'.
-/
import Derived.Test.Ythphboeboiallaa0MD
import Derived.Test.Ythphboeboiallaa0BL
import Derived.Test.YthphboeboiallaaUT
import Derived.Test.YthphboeboiallaaE0
import Derived.Test.YthphboeboiallaaMQ
import Derived.Test.YthphboeboiallaaH2
namespace Go.Proofs.Ythphboeboiallaa
open Go.ChangeShapes Go.WideShapes Go.ChangeAt Go.RowKit
set_option linter.unusedVariables false
set_option maxRecDepth 4000

theorem pIn_mk {w : World} {b n : Nat} {zs : List Int} (h : RdI w w.heap.size (some ⟨b, 0, none⟩) zs) (hn : zs.length = n) (hm : n ≤ 1048576) : PIn w (some ⟨b, 0, none⟩) n n zs := ⟨h, hn, ⟨Nat.le_refl _, by omega⟩, hm⟩
theorem shQ_len (n : Int) (zs : List Int) : (shQ n zs).length ≤ 8 := by
  by_cases h : vsh n zs = true
  · obtain ⟨N, ss, rfl, rfl, hS⟩ := vsh_get h
    rw [shQ_yes hS, cI_length, shL_length]
    have := hS.l4
    omega
  · rw [shQ_no (by simpa using h)]; simp

set_option maxHeartbeats 800000 in
theorem exValidShops_walk (a : Int) (A : Option Addr) (c : Nat) (zs : List Int) (w : World) (hwa : (Lit.int .i64 a).wf = true) (hr : RdI w w.heap.size A zs) (hm : zs.length ≤ maxLen) :
    Calls Try.prog 10 #[.int .i64 a, .slice A zs.length c] w fun e w' => e = .returned (.bool true) ∧ Below w.heap.size w w' := by
  unfold maxLen at hm
  clear hwa
  obtain ⟨n, Hn⟩ : ∃ n, Hid (zs.length = n) := ⟨_, rfl⟩
  rw [Hn.out] at hm ⊢
  by_cases hb : 1048576 < n
  · clear hr
    go_enter Try.func10, Try.ntmps10
    go_wp2
    go_ret
    exact ⟨rfl, Below.refl _ _⟩
  · have HI := Lib.hid iValidShops_ok
    have HS := Lib.hid sValidShops_ok
    have HR := Lib.hid hr
    obtain ⟨v, Hv⟩ : ∃ v, Hid (vsh a zs = v) := ⟨_, rfl⟩
    clear hr
    go_enter Try.func10, Try.ntmps10
    go_wp2_with fail
    refine (toInt_any A c n zs w HR.out Hn.out (by omega)).mono ?_
    rintro e w1 ⟨b1, rfl, hb1, hr1, hnx1, -⟩
    rw [Hn.out]
    go_wp2_with fail
    refine (HS.out a _ _ _ zs w1 (pIn_mk hr1 Hn.out (by omega))).mono ?_
    rintro e w2 ⟨rfl, hq2⟩
    rw [Hv.out]
    have HB2 := Lib.hid (hnx1.trans (hq2.mono hnx1.size))
    clear hr1 hnx1 hq2
    go_wp2_with fail
    refine (toInt_any A c n zs w2 ((HR.out.below HB2.out).more HB2.out.size) Hn.out (by omega)).mono ?_
    rintro e w3 ⟨b3, rfl, hb3, hr3, hnx3, -⟩
    rw [Hn.out]
    have HB3 := Lib.hid (HB2.out.trans (hnx3.mono HB2.out.size))
    have HR3 := Lib.hid hr3
    clear hr3 hnx3
    go_wp2_with fail
    refine (HI.out a _ _ _ zs w3 (pIn_mk HR3.out Hn.out (by omega))).mono ?_
    rintro e w4 ⟨rfl, hq4⟩
    rw [Hv.out]
    have HB4 := Lib.hid (HB3.out.trans (hq4.mono HB3.out.size))
    have HR4 := Lib.hid ((HR3.out.below hq4).more hq4.size)
    have hbn : ∀ x : Bool, (x != x) = false := fun x => by simp
    clear hq4
    go_wp2_with fail
    refine (toInt_any A c n zs w4 ((HR.out.below HB4.out).more HB4.out.size) Hn.out (by omega)).mono ?_
    rintro e w5 ⟨b5, rfl, hb5, hr5, hnx5, -⟩
    rw [Hn.out]
    have HB5 := Lib.hid (HB4.out.trans (hnx5.mono HB4.out.size))
    have HR5 := Lib.hid (HR4.out.below hnx5)
    clear hnx5
    go_wp2_with fail
    refine (eqInt_same _ _ _ _ _ _ zs w5 _ _ HR5.out Hn.out hr5 Hn.out (by omega)).mono ?_
    rintro e w6 ⟨rfl, q, rfl⟩
    go_wp2
    go_ret
    exact ⟨rfl, below_drewN HB5.out q⟩

set_option maxHeartbeats 800000 in
theorem exIsRest_walk (a : Int) (A : Option Addr) (c : Nat) (zs : List Int) (w : World) (hwa : (Lit.int .i64 a).wf = true) (hr : RdI w w.heap.size A zs) (hm : zs.length ≤ maxLen) :
    Calls Try.prog 13 #[.int .i64 a, .slice A zs.length c] w fun e w' => e = .returned (.bool true) ∧ Below w.heap.size w w' := by
  unfold maxLen at hm
  clear hwa
  obtain ⟨n, Hn⟩ : ∃ n, Hid (zs.length = n) := ⟨_, rfl⟩
  rw [Hn.out] at hm ⊢
  by_cases hb : 1048576 < n
  · clear hr
    go_enter Try.func13, Try.ntmps13
    go_wp2
    go_ret
    exact ⟨rfl, Below.refl _ _⟩
  · have HI := Lib.hid iIsRest_ok
    have HS := Lib.hid sIsRest_ok
    have HR := Lib.hid hr
    obtain ⟨v, Hv⟩ : ∃ v, Hid (rtQ a zs = v) := ⟨_, rfl⟩
    clear hr
    go_enter Try.func13, Try.ntmps13
    go_wp2_with fail
    refine (toInt_any A c n zs w HR.out Hn.out (by omega)).mono ?_
    rintro e w1 ⟨b1, rfl, hb1, hr1, hnx1, -⟩
    rw [Hn.out]
    go_wp2_with fail
    refine (HS.out a _ _ _ zs w1 (pIn_mk hr1 Hn.out (by omega))).mono ?_
    rintro e w2 ⟨rfl, hq2⟩
    rw [Hv.out]
    have HB2 := Lib.hid (hnx1.trans (hq2.mono hnx1.size))
    clear hr1 hnx1 hq2
    go_wp2_with fail
    refine (toInt_any A c n zs w2 ((HR.out.below HB2.out).more HB2.out.size) Hn.out (by omega)).mono ?_
    rintro e w3 ⟨b3, rfl, hb3, hr3, hnx3, -⟩
    rw [Hn.out]
    have HB3 := Lib.hid (HB2.out.trans (hnx3.mono HB2.out.size))
    have HR3 := Lib.hid hr3
    clear hr3 hnx3
    go_wp2_with fail
    refine (HI.out a _ _ _ zs w3 (pIn_mk HR3.out Hn.out (by omega))).mono ?_
    rintro e w4 ⟨rfl, hq4⟩
    rw [Hv.out]
    have HB4 := Lib.hid (HB3.out.trans (hq4.mono HB3.out.size))
    have HR4 := Lib.hid ((HR3.out.below hq4).more hq4.size)
    have hbn : ∀ x : Bool, (x != x) = false := fun x => by simp
    clear hq4
    go_wp2_with fail
    refine (toInt_any A c n zs w4 ((HR.out.below HB4.out).more HB4.out.size) Hn.out (by omega)).mono ?_
    rintro e w5 ⟨b5, rfl, hb5, hr5, hnx5, -⟩
    rw [Hn.out]
    have HB5 := Lib.hid (HB4.out.trans (hnx5.mono HB4.out.size))
    have HR5 := Lib.hid (HR4.out.below hnx5)
    clear hnx5
    go_wp2_with fail
    refine (eqInt_same _ _ _ _ _ _ zs w5 _ _ HR5.out Hn.out hr5 Hn.out (by omega)).mono ?_
    rintro e w6 ⟨rfl, q, rfl⟩
    go_wp2
    go_ret
    exact ⟨rfl, below_drewN HB5.out q⟩

set_option maxHeartbeats 800000 in
theorem exBestPlace_walk (a : Int) (A : Option Addr) (c : Nat) (zs : List Int) (w : World) (hwa : (Lit.int .i64 a).wf = true) (hr : RdI w w.heap.size A zs) (hm : zs.length ≤ maxLen) :
    Calls Try.prog 12 #[.int .i64 a, .slice A zs.length c] w fun e w' => e = .returned (.bool true) ∧ Below w.heap.size w w' := by
  unfold maxLen at hm
  clear hwa
  obtain ⟨n, Hn⟩ : ∃ n, Hid (zs.length = n) := ⟨_, rfl⟩
  rw [Hn.out] at hm ⊢
  by_cases hb : 1048576 < n
  · clear hr
    go_enter Try.func12, Try.ntmps12
    go_wp2
    go_ret
    exact ⟨rfl, Below.refl _ _⟩
  · have HI := Lib.hid iBestPlace_ok
    have HS := Lib.hid sBestPlace_ok
    have HR := Lib.hid hr
    obtain ⟨v, Hv⟩ : ∃ v, Hid (bpQ a zs = v) := ⟨_, rfl⟩
    clear hr
    go_enter Try.func12, Try.ntmps12
    go_wp2_with fail
    refine (toInt_any A c n zs w HR.out Hn.out (by omega)).mono ?_
    rintro e w1 ⟨b1, rfl, hb1, hr1, hnx1, -⟩
    rw [Hn.out]
    go_wp2_with fail
    refine (HS.out a _ _ _ zs w1 (pIn_mk hr1 Hn.out (by omega))).mono ?_
    rintro e w2 ⟨rfl, hq2⟩
    rw [Hv.out]
    have HB2 := Lib.hid (hnx1.trans (hq2.mono hnx1.size))
    clear hr1 hnx1 hq2
    go_wp2_with fail
    refine (toInt_any A c n zs w2 ((HR.out.below HB2.out).more HB2.out.size) Hn.out (by omega)).mono ?_
    rintro e w3 ⟨b3, rfl, hb3, hr3, hnx3, -⟩
    rw [Hn.out]
    have HB3 := Lib.hid (HB2.out.trans (hnx3.mono HB2.out.size))
    have HR3 := Lib.hid hr3
    clear hr3 hnx3
    go_wp2_with fail
    refine (HI.out a _ _ _ zs w3 (pIn_mk HR3.out Hn.out (by omega))).mono ?_
    rintro e w4 ⟨rfl, hq4⟩
    rw [Hv.out]
    have HB4 := Lib.hid (HB3.out.trans (hq4.mono HB3.out.size))
    have HR4 := Lib.hid ((HR3.out.below hq4).more hq4.size)
    have hbn : ∀ x : Int, (x != x) = false := fun x => by simp
    clear hq4
    go_wp2_with fail
    refine (toInt_any A c n zs w4 ((HR.out.below HB4.out).more HB4.out.size) Hn.out (by omega)).mono ?_
    rintro e w5 ⟨b5, rfl, hb5, hr5, hnx5, -⟩
    rw [Hn.out]
    have HB5 := Lib.hid (HB4.out.trans (hnx5.mono HB4.out.size))
    have HR5 := Lib.hid (HR4.out.below hnx5)
    clear hnx5
    go_wp2_with fail
    refine (eqInt_same _ _ _ _ _ _ zs w5 _ _ HR5.out Hn.out hr5 Hn.out (by omega)).mono ?_
    rintro e w6 ⟨rfl, q, rfl⟩
    go_wp2
    go_ret
    exact ⟨rfl, below_drewN HB5.out q⟩

set_option maxHeartbeats 1600000 in
theorem exSharesOf_walk (a : Int) (A : Option Addr) (c : Nat) (zs : List Int) (w : World) (hwa : (Lit.int .i64 a).wf = true) (hr : RdI w w.heap.size A zs) (hm : zs.length ≤ maxLen) :
    Calls Try.prog 11 #[.int .i64 a, .slice A zs.length c] w fun e w' => e = .returned (.bool true) ∧ Below w.heap.size w w' := by
  unfold maxLen at hm
  clear hwa
  obtain ⟨n, Hn⟩ : ∃ n, Hid (zs.length = n) := ⟨_, rfl⟩
  rw [Hn.out] at hm ⊢
  by_cases hb : 1048576 < n
  · clear hr
    go_enter Try.func11, Try.ntmps11
    go_wp2
    go_ret
    exact ⟨rfl, Below.refl _ _⟩
  · have HI := Lib.hid iSharesOf_ok
    have HS := Lib.hid sSharesOf_ok
    have HR := Lib.hid hr
    have hm2 := shQ_len a zs
    obtain ⟨xs, Hx⟩ : ∃ xs, Hid (shQ a zs = xs) := ⟨_, rfl⟩
    rw [Hx.out] at hm2
    obtain ⟨m, Hm⟩ : ∃ m, Hid (xs.length = m) := ⟨_, rfl⟩
    rw [Hm.out] at hm2
    have HI2 : Hid (∀ (A : Option Addr) (c n : Nat) (w : World), PIn w A c n zs → Calls Try.prog 20 #[.int .i64 a, .slice A n c] w fun e w' => ∃ A' c', e = .returned (.slice A' m c') ∧ Hid (w'.ownsRow w.heap.size 3 1 (.slice A' m c') m (xs.map (Value.int .i64))) ∧ Hid (Below w.heap.size w w')) := fun A c n w h => by
      have := HI.out a A c n zs w h
      unfold RowQ at this
      rw [Hx.out, Hm.out] at this
      exact this
    have HS2 : Hid (∀ (A : Option Addr) (c n : Nat) (w : World), PIn w A c n zs → Calls Try.prog 22 #[.int .i64 a, .slice A n c] w fun e w' => ∃ A' c', e = .returned (.slice A' m c') ∧ Hid (w'.ownsRow w.heap.size 3 1 (.slice A' m c') m (xs.map (Value.int .i64))) ∧ Hid (Below w.heap.size w w')) := fun A c n w h => by
      have := HS.out a A c n zs w h
      unfold RowQ at this
      rw [Hx.out, Hm.out] at this
      exact this
    clear hr HI HS
    go_enter Try.func11, Try.ntmps11
    go_wp2_with fail
    refine (toInt_any A c n zs w HR.out Hn.out (by omega)).mono ?_
    rintro e w1 ⟨b1, rfl, hb1, hr1, hnx1, -⟩
    rw [Hn.out]
    have B1 := Lib.hid hnx1
    have R1 := Lib.hid hr1
    clear hnx1 hr1 hb1
    go_wp2_with fail
    refine (HS2.out _ _ _ w1 (pIn_mk R1.out Hn.out (by omega))).mono ?_
    rintro e w2 ⟨A0, c0, rfl, ho0, hq2⟩
    obtain ⟨A0', c0', he0, -, -, hR0⟩ := own_slice ho0.out Hm.out
    injection he0 with he1 he2 he3
    subst he1 he3
    have R0 := Lib.hid hR0
    have B2 := Lib.hid (B1.out.trans (hq2.out.mono B1.out.size))
    clear hR0 hq2 he2 ho0
    go_wp2_with fail
    refine (toInt_any A c n zs w2 ((HR.out.below B2.out).more B2.out.size) Hn.out (by omega)).mono ?_
    rintro e w3 ⟨b3, rfl, hb3, hr3, hnx3, hown3⟩
    rw [Hn.out] at hown3 ⊢
    have B3 := Lib.hid (B2.out.trans (hnx3.mono B2.out.size))
    have C3 := Lib.hid hnx3
    have R3 := Lib.hid hr3
    have Hb3' := Lib.hid (hown3.lt b3 rfl).2
    have X3 := Lib.hid hown3
    have Hb3 := Lib.hid hb3
    clear hb3 hr3 hnx3 hown3
    go_wp2_with fail
    refine (HI2.out _ _ _ w3 (pIn_mk R3.out Hn.out (by omega))).mono ?_
    rintro e w4 ⟨A1, c1, rfl, O1, D4⟩
    obtain ⟨A1', c1', he1', -, -, hR1⟩ := own_slice O1.out Hm.out
    injection he1' with he1 he2 he3
    subst he1 he3
    have P1 := Lib.hid hR1
    have C4 := Lib.hid (C3.out.trans (D4.out.mono C3.out.size))
    have B4 := Lib.hid (B2.out.trans (C4.out.mono B2.out.size))
    clear hR1 he2
    go_wp2_with fail
    refine (calls_drawn (eqInt_same _ _ _ _ _ _ xs w4 _ _ P1.out Hm.out (R0.out.below C4.out) Hm.out (by omega))).mono ?_
    rintro e w5 ⟨rfl, hnx5⟩
    have E5 := Lib.hid hnx5
    have B5 := Lib.hid (B4.out.trans (hnx5.mono B4.out.size))
    clear hnx5
    go_wp2_with fail
    refine (toInt_any A c n zs w5 ((HR.out.below B5.out).more B5.out.size) Hn.out (by omega)).mono ?_
    rintro e w6 ⟨b6, rfl, -, hr6, hnx6, -⟩
    rw [Hn.out]
    have E6 := Lib.hid (E5.out.trans (hnx6.mono E5.out.size))
    have B6 := Lib.hid (B5.out.trans (hnx6.mono B5.out.size))
    have R6 := Lib.hid hr6
    clear hr6 hnx6
    have R36 := Lib.hid ((R3.out.below (D4.out.trans (E6.out.mono D4.out.size))).more (Nat.le_trans D4.out.size E6.out.size))
    go_wp2_with fail
    refine (calls_drawn (eqInt_same _ _ _ _ _ _ zs w6 _ _ R36.out Hn.out R6.out Hn.out (by omega))).mono ?_
    rintro e w7 ⟨rfl, hnx7⟩
    have E7 := Lib.hid (E6.out.trans (hnx7.mono E6.out.size))
    have B7 := Lib.hid (B6.out.trans (hnx7.mono B6.out.size))
    clear hnx7
    have X7 := Lib.hid (ownN_below X3.out (D4.out.trans (E7.out.mono D4.out.size)))
    have O7 := Lib.hid (ownN_below O1.out E7.out)
    have C7 := Lib.hid (C4.out.trans (E7.out.mono C4.out.size))
    have D7 := Lib.hid (D4.out.trans (E7.out.mono D4.out.size))
    go_wp2_with fail
    refine (markI_any w7 _ b3 n n 1 zs X7.out Hn.out (by omega) (by omega) (by omega)).mono ?_
    rintro e w8 ⟨rfl, -, hg8⟩
    have O8 := Lib.hid (O7.out.kept hg8 (.inr (fun e => by have := (O7.out.lt b3 e).1; have := Hb3'.out; omega)))
    obtain ⟨A1', c1', he8, -, -, hP8⟩ := own_slice O8.out Hm.out
    injection he8 with he1 he2 he3
    subst he1 he3
    have P8 := Lib.hid hP8
    have C8 := Lib.hid (C7.out.grown hg8 C7.out.size (fun k e => by injection e with e; have := Hb3.out; omega))
    have B8 := Lib.hid (B2.out.trans (C8.out.mono B2.out.size))
    have D8 : Hid (w3.heap.size ≤ w8.heap.size) := Nat.le_trans D7.out.size hg8.size
    have hpos1 : ¬ (1 + (n : Int)) < 0 := by omega
    clear hg8 hP8 he2
    go_wp2_with fail
    refine (calls_drawn (eqInt_same _ _ _ _ _ _ xs w8 _ _ P8.out Hm.out (R0.out.below C8.out) Hm.out (by omega))).mono ?_
    rintro e w9 ⟨rfl, hnx9⟩
    have O9 := Lib.hid (ownN_below O8.out hnx9)
    have C9 := Lib.hid (C8.out.trans (hnx9.mono C8.out.size))
    have B9 := Lib.hid (B8.out.trans (hnx9.mono B8.out.size))
    have D9 : Hid (w3.heap.size ≤ w9.heap.size) := Nat.le_trans D8.out hnx9.size
    clear hnx9
    go_wp2_with fail
    refine (markRow_any w9 _ m c1 A1 xs O9.out Hm.out (by omega) D9.out).mono ?_
    rintro e w10 ⟨rfl, hO10, hnx10⟩
    obtain ⟨A1', c1', he8, -, -, hP10⟩ := own_slice hO10 (mk_len 1 m)
    injection he8 with he1 he2 he3
    subst he1 he3
    have P10 := Lib.hid hP10
    have C10 := Lib.hid (C9.out.trans (hnx10.mono C3.out.size))
    have B10 := Lib.hid (B2.out.trans (C10.out.mono B2.out.size))
    have hpos2 : ¬ (1 + ((m : Nat) : Int)) < 0 := by omega
    have hbn : ∀ x : Int, (x != x) = false := fun x => by simp
    clear hO10 hnx10 hP10 he2
    go_wp2_with fail
    refine (heldI_any w10 _ m c1 1 A1 P10.out (by omega) (by omega) (by omega)).mono ?_
    rintro e w' ⟨rfl, rfl⟩
    go_wp2_with fail
    refine (toInt_any A c n zs w10 ((HR.out.below B10.out).more B10.out.size) Hn.out (by omega)).mono ?_
    rintro e w11 ⟨b11, rfl, -, hr11, hnx11, -⟩
    rw [Hn.out]
    have R11 := Lib.hid hr11
    have F11 := Lib.hid hnx11
    have C11 := Lib.hid (C10.out.trans (hnx11.mono C10.out.size))
    have B11 := Lib.hid (B10.out.trans (hnx11.mono B10.out.size))
    clear hr11 hnx11
    go_wp2_with fail
    refine (HI2.out _ _ _ w11 (pIn_mk R11.out Hn.out (by omega))).mono ?_
    rintro e w12 ⟨A2, c2, rfl, ho2, hq12⟩
    obtain ⟨A2', c2', he2', -, -, hR2⟩ := own_slice ho2.out Hm.out
    injection he2' with he1 he2 he3
    subst he1 he3
    have P2 := Lib.hid hR2
    have F12 := Lib.hid (F11.out.trans (hq12.out.mono F11.out.size))
    have C12 := Lib.hid (C11.out.trans (hq12.out.mono C11.out.size))
    have B12 := Lib.hid (B11.out.trans (hq12.out.mono B11.out.size))
    clear hR2 hq12 ho2 he2
    go_wp2_with fail
    refine (calls_drawn (eqInt_same _ _ _ _ _ _ xs w12 _ _ P2.out Hm.out (R0.out.below C12.out) Hm.out (by omega))).mono ?_
    rintro e w13 ⟨rfl, hnx13⟩
    have F13 := Lib.hid (F12.out.trans (hnx13.mono F12.out.size))
    have B13 := Lib.hid (B12.out.trans (hnx13.mono B12.out.size))
    clear hnx13
    go_wp2_with fail
    refine (heldI_any w13 _ m c1 1 A1 (P10.out.below F13.out) (by omega) (by omega) (by omega)).mono ?_
    rintro e w' ⟨rfl, rfl⟩
    go_wp2
    go_ret
    exact ⟨rfl, B13.out⟩

/-- A table's answer, its numbers named. -/
theorem tab_uni {Ls : List (List Nat)} {m : Nat} {w : World} {e : Ending} {w' : World} (hm : Ls.length = m) (h : TabPost Ls w e w') : ∃ A c VR, e = .returned (.slice A m c) ∧ Outer w' w.heap.size m (.slice A m c) VR ∧ TT w' w.heap.size m VR (fun j => cI (Ls.getD j [])) ∧ Below w.heap.size w w' := by
  subst hm
  obtain ⟨A, c, VR, he, h1, h2, h3⟩ := h
  exact ⟨A, c, VR, he, h1.out, h2.out, h3.out⟩
theorem eqSSq_below (w : World) (B B' m c c' : Nat) (A A' : Option Addr) (VR VR' : Nat → Value) (ls : Nat → List Int) (hO : Outer w B m (.slice A m c) VR) (hT : TT w B m VR ls) (hO' : Outer w B' m (.slice A' m c') VR') (hT' : TT w B' m VR' ls) (hm : m ≤ 7) (hl : ∀ j, j < m → (ls j).length ≤ 7) :
    Calls Try.prog 41 #[.slice A m c, .slice A' m c'] w fun e w' => e = .returned (.bool true) ∧ Below w.heap.size w w' :=
  (eqSS_any w B B' m c c' A A' VR VR' ls hO hT hO' hT' hm hl).mono fun _ _ ⟨he, q, hq⟩ => ⟨he, by rw [hq]; exact below_drewN (Below.refl _ _) q⟩
theorem rsQ_bd (n k : Int) : ∃ L, 1 ≤ L ∧ L ≤ 7 ∧ (rsQ n k).length ≤ 7 ∧ ∀ j, j < (rsQ n k).length → (cI ((rsQ n k).getD j [])).length = L := by
  by_cases h : okR n k = true
  · obtain ⟨N, K, rfl, rfl, h1, h9, h2, h4⟩ := okR_get h
    rw [rsQ_yes h1 h9 h2 h4]
    refine ⟨K, by omega, by omega, rsS_few h1 h9 h2 h4, fun j hj => ?_⟩
    have hm : (rsS N K).getD j [] ∈ rsS N K := by simp [List.getD, hj]
    rw [cI_length, (rsS_mem h1 h9 h2 h4 hm).2.1]
  · rw [rsQ_no (by simpa using h)]
    exact ⟨1, by omega, by omega, by simp, fun j hj => by simp at hj⟩
set_option maxHeartbeats 1600000 in
theorem exRestsOf_walk (n k : Int) (w : World) (hwn : (Lit.int .i64 n).wf = true) (hwk : (Lit.int .i64 k).wf = true) :
    Calls Try.prog 14 #[.int .i64 n, .int .i64 k] w fun e w' => e = .returned (.bool true) ∧ Below w.heap.size w w' := by
  obtain ⟨L, hL1, hL7, hm7, hll⟩ := rsQ_bd n k
  have HI := Lib.hid (fun W => iRestsOf_ok n k W hwn hwk)
  have HS := Lib.hid (fun W => sRestsOf_ok n k W hwn hwk)
  obtain ⟨Ls, HLs⟩ : ∃ Ls, Hid (rsQ n k = Ls) := ⟨_, rfl⟩
  rw [HLs.out] at HI HS hm7 hll
  obtain ⟨m, Hm⟩ : ∃ m, Hid (Ls.length = m) := ⟨_, rfl⟩
  rw [Hm.out] at hm7 hll
  have Hll := Lib.hid hll
  have Hll7 : Hid (∀ j, j < m → (cI (Ls.getD j [])).length ≤ 7) := fun j hj => by rw [hll j hj]; exact hL7
  clear hll hwn hwk
  go_enter Try.func14, Try.ntmps14
  go_wp2_with fail
  refine (HS.out w).mono ?_
  rintro e w2 hans
  obtain ⟨A0, c0, VR0, rfl, hO0, hT0, hnx2⟩ := tab_uni Hm.out hans
  have O0 := Lib.hid hO0
  have T0 := Lib.hid hT0
  have B2 := Lib.hid hnx2
  clear hans hO0 hT0 hnx2
  go_wp2_with fail
  refine (HI.out w2).mono ?_
  rintro e w4 hans
  obtain ⟨A1, c1, VR1, rfl, hO1, hT1, hnx4⟩ := tab_uni Hm.out hans
  have O1 := Lib.hid hO1
  have T1 := Lib.hid hT1
  have C4 := Lib.hid hnx4
  have B4 := Lib.hid (B2.out.trans (C4.out.mono B2.out.size))
  clear hans hO1 hT1 hnx4
  go_wp2_with fail
  refine (eqSSq_below w4 _ _ m c1 c0 A1 A0 VR1 VR0 (fun j => cI (Ls.getD j [])) O1.out T1.out (O0.out.below C4.out) (T0.out.below C4.out) hm7 Hll7.out).mono ?_
  rintro e w9 ⟨rfl, hnx9⟩
  have O19 := Lib.hid (O1.out.below hnx9)
  have T19 := Lib.hid (T1.out.below hnx9)
  have C9 := Lib.hid (C4.out.trans (hnx9.mono C4.out.size))
  have B9 := Lib.hid (B4.out.trans (hnx9.mono B4.out.size))
  clear hnx9
  go_wp2_with fail
  refine (markSS_any w9 _ m c1 L A1 VR1 (fun j => cI (Ls.getD j [])) O19.out T19.out hm7 (fun j hj => Hll.out j hj) hL1 hL7).mono ?_
  rintro e w10 ⟨rfl, hO10, hT10, hnx10⟩
  have O110 := Lib.hid hO10
  have T110 := Lib.hid hT10
  have C10 := Lib.hid (C9.out.trans (hnx10.mono (Nat.le_refl _)))
  have B10 := Lib.hid (B2.out.trans (C10.out.mono B2.out.size))
  have hmL : m * L ≤ 49 := Nat.mul_le_mul hm7 hL7
  have hpos2 : ¬ (1 + ((m * L : Nat) : Int)) < 0 := by omega
  have hbn : ∀ x : Int, (x != x) = false := fun x => by simp
  clear hO10 hT10 hnx10
  go_wp2_with fail
  refine (heldSS_any w10 _ m c1 L A1 VR1 O110.out T110.out hm7 hL7).mono ?_
  rintro e w' ⟨rfl, rfl⟩
  go_wp2_with fail
  refine (HI.out w10).mono ?_
  rintro e w12 hans
  obtain ⟨A2, c2, VR2, rfl, hO2, hT2, hnx12⟩ := tab_uni Hm.out hans
  have O2 := Lib.hid hO2
  have T2 := Lib.hid hT2
  have F12 := Lib.hid hnx12
  have C12 := Lib.hid (C10.out.trans (hnx12.mono C10.out.size))
  have B12 := Lib.hid (B10.out.trans (hnx12.mono B10.out.size))
  clear hans hO2 hT2 hnx12
  go_wp2_with fail
  refine (eqSSq_below w12 _ _ m c2 c0 A2 A0 VR2 VR0 (fun j => cI (Ls.getD j [])) O2.out T2.out (O0.out.below C12.out) (T0.out.below C12.out) hm7 Hll7.out).mono ?_
  rintro e w13 ⟨rfl, hnx13⟩
  have F13 := Lib.hid (F12.out.trans (hnx13.mono F12.out.size))
  have B13 := Lib.hid (B12.out.trans (hnx13.mono B12.out.size))
  clear hnx13
  go_wp2_with fail
  refine (heldSS_any w13 _ m c1 L A1 VR1 (O110.out.below F13.out) (T110.out.below F13.out) hm7 hL7).mono ?_
  rintro e w' ⟨rfl, rfl⟩
  go_wp2
  go_ret
  exact ⟨rfl, B13.out⟩
end Go.Proofs.Ythphboeboiallaa
