/-
  The exact laws of chapter 5 follow from the functions' contracts: the program's answer is the model's, and the argument stays.
  Conditions: none beyond the contracts'.
-/
import Derived.Test.YthgllpiclaihjaaJK
import Derived.Test.YthgllpiclaihjaaUT
import Derived.Test.YthgllpiclaihjaaE0
namespace Go.Proofs.Ythgllpiclaihjaa
open Go.ChangeShapes Go.WideShapes Go.ChangeAt Go.RowKit
set_option linter.unusedVariables false
set_option maxRecDepth 4000

theorem callsIn_mk {w : World} {b n : Nat} {zs : List Int} (h : RdI w w.heap.size (some ⟨b, 0, none⟩) zs) (hn : zs.length = n) (hm : n ≤ 1048576) : CallsIn w (some ⟨b, 0, none⟩) n n zs := ⟨h, hn, ⟨Nat.le_refl _, by omega⟩, hm⟩

set_option maxHeartbeats 800000 in
theorem exValidCalls_walk (a b : Int) (A : Option Addr) (c : Nat) (zs : List Int) (w : World) (hwa : (Lit.int .i64 a).wf = true) (hwb : (Lit.int .i64 b).wf = true) (hr : RdI w w.heap.size A zs) (hm : zs.length ≤ maxLen) :
    Calls Try.prog 11 #[.int .i64 a, .int .i64 b, .slice A zs.length c] w fun e w' => e = .returned (.bool true) ∧ Below w.heap.size w w' := by
  unfold maxLen at hm
  clear hwa hwb
  obtain ⟨n, Hn⟩ : ∃ n, Hid (zs.length = n) := ⟨_, rfl⟩
  rw [Hn.out] at hm ⊢
  by_cases hb : 1048576 < n
  · clear hr
    go_enter Try.func11, Try.ntmps11
    go_wp2
    go_ret
    exact ⟨rfl, Below.refl _ _⟩
  · have HI := Lib.hid iValidCalls_ok
    have HS := Lib.hid sValidCalls_ok
    have HR := Lib.hid hr
    obtain ⟨v, Hv⟩ : ∃ v, Hid (vcl a b zs = v) := ⟨_, rfl⟩
    clear hr
    go_enter Try.func11, Try.ntmps11
    go_wp2_with fail
    refine (toInt_any A c n zs w HR.out Hn.out (by omega)).mono ?_
    rintro e w1 ⟨b1, rfl, hb1, hr1, hnx1, -⟩
    rw [Hn.out]
    go_wp2_with fail
    refine (HS.out a b _ _ _ zs w1 (callsIn_mk hr1 Hn.out (by omega))).mono ?_
    rintro e w2 ⟨rfl, hq2⟩
    rw [Hv.out]
    have HB2 := Lib.hid (hnx1.trans (hq2.mono hnx1.size))
    clear hr1 hnx1 hq2
    go_wp2_with fail
    refine (toInt_any A c n zs w2 ((HR.out.below HB2.out).more HB2.out.size) Hn.out (by omega)).mono ?_
    rintro e w3 ⟨b3, rfl, hb3, hr3, hnx3, -⟩
    rw [Hn.out]
    have HB3 := Lib.hid (HB2.out.trans (hnx3.mono HB2.out.size))
    have HR3 := Lib.hid hr3
    clear hr3 hnx3
    go_wp2_with fail
    refine (HI.out a b _ _ _ zs w3 (callsIn_mk HR3.out Hn.out (by omega))).mono ?_
    rintro e w4 ⟨rfl, hq4⟩
    rw [Hv.out]
    have HB4 := Lib.hid (HB3.out.trans (hq4.mono HB3.out.size))
    have HR4 := Lib.hid ((HR3.out.below hq4).more hq4.size)
    have hbn : ∀ x : Bool, (x != x) = false := fun x => by simp
    clear hq4
    go_wp2_with fail
    refine (toInt_any A c n zs w4 ((HR.out.below HB4.out).more HB4.out.size) Hn.out (by omega)).mono ?_
    rintro e w5 ⟨b5, rfl, hb5, hr5, hnx5, -⟩
    rw [Hn.out]
    have HB5 := Lib.hid (HB4.out.trans (hnx5.mono HB4.out.size))
    have HR5 := Lib.hid (HR4.out.below hnx5)
    clear hnx5
    go_wp2_with fail
    refine (eqInt_same _ _ _ _ _ _ zs w5 _ _ HR5.out Hn.out hr5 Hn.out (by omega)).mono ?_
    rintro e w6 ⟨rfl, q, rfl⟩
    go_wp2
    go_ret
    exact ⟨rfl, below_drewN HB5.out q⟩

set_option maxHeartbeats 800000 in
theorem exWayAhead_walk (a b : Int) (A : Option Addr) (c : Nat) (zs : List Int) (w : World) (hwa : (Lit.int .i64 a).wf = true) (hwb : (Lit.int .i64 b).wf = true) (hr : RdI w w.heap.size A zs) (hm : zs.length ≤ maxLen) :
    Calls Try.prog 12 #[.int .i64 a, .int .i64 b, .slice A zs.length c] w fun e w' => e = .returned (.bool true) ∧ Below w.heap.size w w' := by
  unfold maxLen at hm
  clear hwa hwb
  obtain ⟨n, Hn⟩ : ∃ n, Hid (zs.length = n) := ⟨_, rfl⟩
  rw [Hn.out] at hm ⊢
  by_cases hb : 1048576 < n
  · clear hr
    go_enter Try.func12, Try.ntmps12
    go_wp2
    go_ret
    exact ⟨rfl, Below.refl _ _⟩
  · have HI := Lib.hid iWayAhead_ok
    have HS := Lib.hid sWayAhead_ok
    have HR := Lib.hid hr
    obtain ⟨v, Hv⟩ : ∃ v, Hid (wav a b zs = v) := ⟨_, rfl⟩
    clear hr
    go_enter Try.func12, Try.ntmps12
    go_wp2_with fail
    refine (toInt_any A c n zs w HR.out Hn.out (by omega)).mono ?_
    rintro e w1 ⟨b1, rfl, hb1, hr1, hnx1, -⟩
    rw [Hn.out]
    go_wp2_with fail
    refine (HS.out a b _ _ _ zs w1 (callsIn_mk hr1 Hn.out (by omega))).mono ?_
    rintro e w2 ⟨rfl, hq2⟩
    rw [Hv.out]
    have HB2 := Lib.hid (hnx1.trans (hq2.mono hnx1.size))
    clear hr1 hnx1 hq2
    go_wp2_with fail
    refine (toInt_any A c n zs w2 ((HR.out.below HB2.out).more HB2.out.size) Hn.out (by omega)).mono ?_
    rintro e w3 ⟨b3, rfl, hb3, hr3, hnx3, -⟩
    rw [Hn.out]
    have HB3 := Lib.hid (HB2.out.trans (hnx3.mono HB2.out.size))
    have HR3 := Lib.hid hr3
    clear hr3 hnx3
    go_wp2_with fail
    refine (HI.out a b _ _ _ zs w3 (callsIn_mk HR3.out Hn.out (by omega))).mono ?_
    rintro e w4 ⟨rfl, hq4⟩
    rw [Hv.out]
    have HB4 := Lib.hid (HB3.out.trans (hq4.mono HB3.out.size))
    have HR4 := Lib.hid ((HR3.out.below hq4).more hq4.size)
    have hbn : ∀ x : Int, (x != x) = false := fun x => by simp
    clear hq4
    go_wp2_with fail
    refine (toInt_any A c n zs w4 ((HR.out.below HB4.out).more HB4.out.size) Hn.out (by omega)).mono ?_
    rintro e w5 ⟨b5, rfl, hb5, hr5, hnx5, -⟩
    rw [Hn.out]
    have HB5 := Lib.hid (HB4.out.trans (hnx5.mono HB4.out.size))
    have HR5 := Lib.hid (HR4.out.below hnx5)
    clear hnx5
    go_wp2_with fail
    refine (eqInt_same _ _ _ _ _ _ zs w5 _ _ HR5.out Hn.out hr5 Hn.out (by omega)).mono ?_
    rintro e w6 ⟨rfl, q, rfl⟩
    go_wp2
    go_ret
    exact ⟨rfl, below_drewN HB5.out q⟩

set_option maxHeartbeats 800000 in
theorem exWayGreedy_walk (a b : Int) (A : Option Addr) (c : Nat) (zs : List Int) (w : World) (hwa : (Lit.int .i64 a).wf = true) (hwb : (Lit.int .i64 b).wf = true) (hr : RdI w w.heap.size A zs) (hm : zs.length ≤ maxLen) :
    Calls Try.prog 13 #[.int .i64 a, .int .i64 b, .slice A zs.length c] w fun e w' => e = .returned (.bool true) ∧ Below w.heap.size w w' := by
  unfold maxLen at hm
  clear hwa hwb
  obtain ⟨n, Hn⟩ : ∃ n, Hid (zs.length = n) := ⟨_, rfl⟩
  rw [Hn.out] at hm ⊢
  by_cases hb : 1048576 < n
  · clear hr
    go_enter Try.func13, Try.ntmps13
    go_wp2
    go_ret
    exact ⟨rfl, Below.refl _ _⟩
  · have HI := Lib.hid iWayGreedy_ok
    have HS := Lib.hid sWayGreedy_ok
    have HR := Lib.hid hr
    obtain ⟨v, Hv⟩ : ∃ v, Hid (gwv a b zs = v) := ⟨_, rfl⟩
    clear hr
    go_enter Try.func13, Try.ntmps13
    go_wp2_with fail
    refine (toInt_any A c n zs w HR.out Hn.out (by omega)).mono ?_
    rintro e w1 ⟨b1, rfl, hb1, hr1, hnx1, -⟩
    rw [Hn.out]
    go_wp2_with fail
    refine (HS.out a b _ _ _ zs w1 (callsIn_mk hr1 Hn.out (by omega))).mono ?_
    rintro e w2 ⟨rfl, hq2⟩
    rw [Hv.out]
    have HB2 := Lib.hid (hnx1.trans (hq2.mono hnx1.size))
    clear hr1 hnx1 hq2
    go_wp2_with fail
    refine (toInt_any A c n zs w2 ((HR.out.below HB2.out).more HB2.out.size) Hn.out (by omega)).mono ?_
    rintro e w3 ⟨b3, rfl, hb3, hr3, hnx3, -⟩
    rw [Hn.out]
    have HB3 := Lib.hid (HB2.out.trans (hnx3.mono HB2.out.size))
    have HR3 := Lib.hid hr3
    clear hr3 hnx3
    go_wp2_with fail
    refine (HI.out a b _ _ _ zs w3 (callsIn_mk HR3.out Hn.out (by omega))).mono ?_
    rintro e w4 ⟨rfl, hq4⟩
    rw [Hv.out]
    have HB4 := Lib.hid (HB3.out.trans (hq4.mono HB3.out.size))
    have HR4 := Lib.hid ((HR3.out.below hq4).more hq4.size)
    have hbn : ∀ x : Int, (x != x) = false := fun x => by simp
    clear hq4
    go_wp2_with fail
    refine (toInt_any A c n zs w4 ((HR.out.below HB4.out).more HB4.out.size) Hn.out (by omega)).mono ?_
    rintro e w5 ⟨b5, rfl, hb5, hr5, hnx5, -⟩
    rw [Hn.out]
    have HB5 := Lib.hid (HB4.out.trans (hnx5.mono HB4.out.size))
    have HR5 := Lib.hid (HR4.out.below hnx5)
    clear hnx5
    go_wp2_with fail
    refine (eqInt_same _ _ _ _ _ _ zs w5 _ _ HR5.out Hn.out hr5 Hn.out (by omega)).mono ?_
    rintro e w6 ⟨rfl, q, rfl⟩
    go_wp2
    go_ret
    exact ⟨rfl, below_drewN HB5.out q⟩

set_option maxHeartbeats 800000 in
theorem exWayBoth_walk (a b : Int) (A : Option Addr) (c : Nat) (zs : List Int) (w : World) (hwa : (Lit.int .i64 a).wf = true) (hwb : (Lit.int .i64 b).wf = true) (hr : RdI w w.heap.size A zs) (hm : zs.length ≤ maxLen) :
    Calls Try.prog 14 #[.int .i64 a, .int .i64 b, .slice A zs.length c] w fun e w' => e = .returned (.bool true) ∧ Below w.heap.size w w' := by
  unfold maxLen at hm
  clear hwa hwb
  obtain ⟨n, Hn⟩ : ∃ n, Hid (zs.length = n) := ⟨_, rfl⟩
  rw [Hn.out] at hm ⊢
  by_cases hb : 1048576 < n
  · clear hr
    go_enter Try.func14, Try.ntmps14
    go_wp2
    go_ret
    exact ⟨rfl, Below.refl _ _⟩
  · have HI := Lib.hid iWayBoth_ok
    have HS := Lib.hid sWayBoth_ok
    have HR := Lib.hid hr
    obtain ⟨v, Hv⟩ : ∃ v, Hid (bwv a b zs = v) := ⟨_, rfl⟩
    clear hr
    go_enter Try.func14, Try.ntmps14
    go_wp2_with fail
    refine (toInt_any A c n zs w HR.out Hn.out (by omega)).mono ?_
    rintro e w1 ⟨b1, rfl, hb1, hr1, hnx1, -⟩
    rw [Hn.out]
    go_wp2_with fail
    refine (HS.out a b _ _ _ zs w1 (callsIn_mk hr1 Hn.out (by omega))).mono ?_
    rintro e w2 ⟨rfl, hq2⟩
    rw [Hv.out]
    have HB2 := Lib.hid (hnx1.trans (hq2.mono hnx1.size))
    clear hr1 hnx1 hq2
    go_wp2_with fail
    refine (toInt_any A c n zs w2 ((HR.out.below HB2.out).more HB2.out.size) Hn.out (by omega)).mono ?_
    rintro e w3 ⟨b3, rfl, hb3, hr3, hnx3, -⟩
    rw [Hn.out]
    have HB3 := Lib.hid (HB2.out.trans (hnx3.mono HB2.out.size))
    have HR3 := Lib.hid hr3
    clear hr3 hnx3
    go_wp2_with fail
    refine (HI.out a b _ _ _ zs w3 (callsIn_mk HR3.out Hn.out (by omega))).mono ?_
    rintro e w4 ⟨rfl, hq4⟩
    rw [Hv.out]
    have HB4 := Lib.hid (HB3.out.trans (hq4.mono HB3.out.size))
    have HR4 := Lib.hid ((HR3.out.below hq4).more hq4.size)
    have hbn : ∀ x : Int, (x != x) = false := fun x => by simp
    clear hq4
    go_wp2_with fail
    refine (toInt_any A c n zs w4 ((HR.out.below HB4.out).more HB4.out.size) Hn.out (by omega)).mono ?_
    rintro e w5 ⟨b5, rfl, hb5, hr5, hnx5, -⟩
    rw [Hn.out]
    have HB5 := Lib.hid (HB4.out.trans (hnx5.mono HB4.out.size))
    have HR5 := Lib.hid (HR4.out.below hnx5)
    clear hnx5
    go_wp2_with fail
    refine (eqInt_same _ _ _ _ _ _ zs w5 _ _ HR5.out Hn.out hr5 Hn.out (by omega)).mono ?_
    rintro e w6 ⟨rfl, q, rfl⟩
    go_wp2
    go_ret
    exact ⟨rfl, below_drewN HB5.out q⟩

set_option maxHeartbeats 800000 in
theorem exWorkOf_walk (a b : Int) (A : Option Addr) (c : Nat) (zs : List Int) (x y : Int) (w : World) (hwa : (Lit.int .i64 a).wf = true) (hwb : (Lit.int .i64 b).wf = true) (hr : RdI w w.heap.size A zs) (hm : zs.length ≤ maxLen) (hwx : (Lit.int .i64 x).wf = true) (hwy : (Lit.int .i64 y).wf = true) :
    Calls Try.prog 16 #[.int .i64 a, .int .i64 b, .slice A zs.length c, .int .i64 x, .int .i64 y] w fun e w' => e = .returned (.bool true) ∧ Below w.heap.size w w' := by
  unfold maxLen at hm
  clear hwa hwb hwx hwy
  obtain ⟨n, Hn⟩ : ∃ n, Hid (zs.length = n) := ⟨_, rfl⟩
  rw [Hn.out] at hm ⊢
  by_cases hb : 1048576 < n
  · clear hr
    go_enter Try.func16, Try.ntmps16
    go_wp2
    go_ret
    exact ⟨rfl, Below.refl _ _⟩
  · have HI := Lib.hid iWorkOf_ok
    have HS := Lib.hid sWorkOf_ok
    have HR := Lib.hid hr
    obtain ⟨v, Hv⟩ : ∃ v, Hid (wkv a b zs x y = v) := ⟨_, rfl⟩
    clear hr
    go_enter Try.func16, Try.ntmps16
    go_wp2_with fail
    refine (toInt_any A c n zs w HR.out Hn.out (by omega)).mono ?_
    rintro e w1 ⟨b1, rfl, hb1, hr1, hnx1, -⟩
    rw [Hn.out]
    go_wp2_with fail
    refine (HS.out a b x y _ _ _ zs w1 (callsIn_mk hr1 Hn.out (by omega))).mono ?_
    rintro e w2 ⟨rfl, hq2⟩
    rw [Hv.out]
    have HB2 := Lib.hid (hnx1.trans (hq2.mono hnx1.size))
    clear hr1 hnx1 hq2
    go_wp2_with fail
    refine (toInt_any A c n zs w2 ((HR.out.below HB2.out).more HB2.out.size) Hn.out (by omega)).mono ?_
    rintro e w3 ⟨b3, rfl, hb3, hr3, hnx3, -⟩
    rw [Hn.out]
    have HB3 := Lib.hid (HB2.out.trans (hnx3.mono HB2.out.size))
    have HR3 := Lib.hid hr3
    clear hr3 hnx3
    go_wp2_with fail
    refine (HI.out a b x y _ _ _ zs w3 (callsIn_mk HR3.out Hn.out (by omega))).mono ?_
    rintro e w4 ⟨rfl, hq4⟩
    rw [Hv.out]
    have HB4 := Lib.hid (HB3.out.trans (hq4.mono HB3.out.size))
    have HR4 := Lib.hid ((HR3.out.below hq4).more hq4.size)
    have hbn : ∀ x : Int, (x != x) = false := fun x => by simp
    clear hq4
    go_wp2_with fail
    refine (toInt_any A c n zs w4 ((HR.out.below HB4.out).more HB4.out.size) Hn.out (by omega)).mono ?_
    rintro e w5 ⟨b5, rfl, hb5, hr5, hnx5, -⟩
    rw [Hn.out]
    have HB5 := Lib.hid (HB4.out.trans (hnx5.mono HB4.out.size))
    have HR5 := Lib.hid (HR4.out.below hnx5)
    clear hnx5
    go_wp2_with fail
    refine (eqInt_same _ _ _ _ _ _ zs w5 _ _ HR5.out Hn.out hr5 Hn.out (by omega)).mono ?_
    rintro e w6 ⟨rfl, q, rfl⟩
    go_wp2
    go_ret
    exact ⟨rfl, below_drewN HB5.out q⟩
end Go.Proofs.Ythgllpiclaihjaa
