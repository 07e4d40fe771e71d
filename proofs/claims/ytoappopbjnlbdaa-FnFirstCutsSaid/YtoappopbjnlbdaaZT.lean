/-
  The exact laws of chapter 8 follow from the functions' contracts: the program's answer is the model's, the arguments stay, and a row owns its memory.
  Conditions: none beyond the contracts'.
-/
import Derived.Test.YtoappopbjnlbdaaZS
import Derived.Test.YtoappopbjnlbdaaUT
import Derived.Test.YtoappopbjnlbdaaE0
import Derived.Test.YtoappopbjnlbdaaGL
import Derived.Test.YtoappopbjnlbdaaMQ
namespace Go.Proofs.Ytoappopbjnlbdaa
open Go.ChangeShapes Go.WideShapes Go.ChangeAt Go.RowKit
set_option linter.unusedVariables false
set_option maxRecDepth 4000

theorem lIn_mk {w : World} {b n : Nat} {zs : List Int} (h : RdI w w.heap.size (some ⟨b, 0, none⟩) zs) (hn : zs.length = n) (hm : n ≤ 1048576) : LIn w (some ⟨b, 0, none⟩) n n zs := ⟨h, hn, ⟨Nat.le_refl _, by omega⟩, hm⟩
/-- The row that FirstCuts answers. -/
def cutRow (zs : List Int) (m : Int) : List Int := if cbc zs m = true then ctT m zs zs.length else []
theorem cutRow_len (zs : List Int) (m : Int) : (cutRow zs m).length ≤ 10 := by
  unfold cutRow
  split
  · rename_i h
    have h1 := ctT_len m zs zs.length
    have h2 := (cbc_iff.1 h).1.n10
    omega
  · simp
theorem cutsAre_row {zs xs : List Int} {l : Int} {m : Nat} {bo : Bool} {w : World} {e : Ending} {w' : World} (hx : cutRow zs l = xs) (hm : xs.length = m) (hb : cbc zs l = bo) (h : CutsAre zs l w e w') :
    ∃ A' c', e = .returned (.tuple #[.slice A' m c', .bool bo]) ∧ Hid (w'.ownsRow w.heap.size 3 1 (.slice A' m c') m (xs.map (Value.int .i64))) ∧ Hid (Below w.heap.size w w') := by
  obtain ⟨v, rfl, ho, hB⟩ := h
  have e1 : (if cbc zs l = true then ctT l zs zs.length else []) = xs := hx
  rw [e1, hm] at ho
  rw [hb]
  rcases ho.2 with ⟨rfl, h0⟩ | ⟨g, cap, cur, rfl, _⟩
  · subst h0
    exact ⟨none, 0, rfl, ho, hB⟩
  · exact ⟨_, _, rfl, ho, hB⟩

set_option maxHeartbeats 800000 in
theorem exValidWards_walk (A : Option Addr) (c : Nat) (zs : List Int) (w : World) (hr : RdI w w.heap.size A zs) (hm : zs.length ≤ maxLen) :
    Calls Try.prog 10 #[.slice A zs.length c] w fun e w' => e = .returned (.bool true) ∧ Below w.heap.size w w' := by
  unfold maxLen at hm
  obtain ⟨n, Hn⟩ : ∃ n, Hid (zs.length = n) := ⟨_, rfl⟩
  rw [Hn.out] at hm ⊢
  by_cases hb : 1048576 < n
  · clear hr
    go_enter Try.func10, Try.ntmps10
    go_wp2
    go_ret
    exact ⟨rfl, Below.refl _ _⟩
  · have HI := Lib.hid iValidWards_ok
    have HS := Lib.hid sValidWards_ok
    have HR := Lib.hid hr
    obtain ⟨v, Hv⟩ : ∃ v, Hid (vw zs = v) := ⟨_, rfl⟩
    clear hr
    go_enter Try.func10, Try.ntmps10
    go_wp2_with fail
    refine (toInt_any A c n zs w HR.out Hn.out (by omega)).mono ?_
    rintro e w1 ⟨b1, rfl, hb1, hr1, hnx1, -⟩
    rw [Hn.out]
    go_wp2_with fail
    refine (HS.out _ _ _ zs w1 (lIn_mk hr1 Hn.out (by omega))).mono ?_
    rintro e w2 ⟨rfl, hq2⟩
    rw [Hv.out]
    have HB2 := Lib.hid (hnx1.trans (hq2.mono hnx1.size))
    clear hr1 hnx1 hq2
    go_wp2_with fail
    refine (toInt_any A c n zs w2 ((HR.out.below HB2.out).more HB2.out.size) Hn.out (by omega)).mono ?_
    rintro e w3 ⟨b3, rfl, hb3, hr3, hnx3, -⟩
    rw [Hn.out]
    have HB3 := Lib.hid (HB2.out.trans (hnx3.mono HB2.out.size))
    have HR3 := Lib.hid hr3
    clear hr3 hnx3
    go_wp2_with fail
    refine (HI.out _ _ _ zs w3 (lIn_mk HR3.out Hn.out (by omega))).mono ?_
    rintro e w4 ⟨rfl, hq4⟩
    rw [Hv.out]
    have HB4 := Lib.hid (HB3.out.trans (hq4.mono HB3.out.size))
    have HR4 := Lib.hid ((HR3.out.below hq4).more hq4.size)
    have hbn : ∀ x : Bool, (x != x) = false := fun x => by simp
    clear hq4
    go_wp2_with fail
    refine (toInt_any A c n zs w4 ((HR.out.below HB4.out).more HB4.out.size) Hn.out (by omega)).mono ?_
    rintro e w5 ⟨b5, rfl, hb5, hr5, hnx5, -⟩
    rw [Hn.out]
    have HB5 := Lib.hid (HB4.out.trans (hnx5.mono HB4.out.size))
    have HR5 := Lib.hid (HR4.out.below hnx5)
    clear hnx5
    go_wp2_with fail
    refine (eqInt_same _ _ _ _ _ _ zs w5 _ _ HR5.out Hn.out hr5 Hn.out (by omega)).mono ?_
    rintro e w6 ⟨rfl, q, rfl⟩
    go_wp2
    go_ret
    exact ⟨rfl, below_drewN HB5.out q⟩

set_option maxHeartbeats 800000 in
theorem exFewestWards_walk (A : Option Addr) (c : Nat) (zs : List Int) (l : Int) (w : World) (hr : RdI w w.heap.size A zs) (hm : zs.length ≤ maxLen) (hwl : (Lit.int .i64 l).wf = true) :
    Calls Try.prog 11 #[.slice A zs.length c, .int .i64 l] w fun e w' => e = .returned (.bool true) ∧ Below w.heap.size w w' := by
  unfold maxLen at hm
  clear hwl
  obtain ⟨n, Hn⟩ : ∃ n, Hid (zs.length = n) := ⟨_, rfl⟩
  rw [Hn.out] at hm ⊢
  by_cases hb : 1048576 < n
  · clear hr
    go_enter Try.func11, Try.ntmps11
    go_wp2
    go_ret
    exact ⟨rfl, Below.refl _ _⟩
  · have HI := Lib.hid iFewestWards_ok
    have HS := Lib.hid sFewestWards_ok
    have HR := Lib.hid hr
    obtain ⟨v, Hv⟩ : ∃ v, Hid (fwA zs l = v) := ⟨_, rfl⟩
    clear hr
    go_enter Try.func11, Try.ntmps11
    go_wp2_with fail
    refine (toInt_any A c n zs w HR.out Hn.out (by omega)).mono ?_
    rintro e w1 ⟨b1, rfl, hb1, hr1, hnx1, -⟩
    rw [Hn.out]
    go_wp2_with fail
    refine (HS.out _ _ _ zs l w1 (lIn_mk hr1 Hn.out (by omega))).mono ?_
    rintro e w2 ⟨rfl, hq2⟩
    rw [Hv.out]
    have HB2 := Lib.hid (hnx1.trans (hq2.mono hnx1.size))
    clear hr1 hnx1 hq2
    go_wp2_with fail
    refine (toInt_any A c n zs w2 ((HR.out.below HB2.out).more HB2.out.size) Hn.out (by omega)).mono ?_
    rintro e w3 ⟨b3, rfl, hb3, hr3, hnx3, -⟩
    rw [Hn.out]
    have HB3 := Lib.hid (HB2.out.trans (hnx3.mono HB2.out.size))
    have HR3 := Lib.hid hr3
    clear hr3 hnx3
    go_wp2_with fail
    refine (HI.out _ _ _ zs l w3 (lIn_mk HR3.out Hn.out (by omega))).mono ?_
    rintro e w4 ⟨rfl, hq4⟩
    rw [Hv.out]
    have HB4 := Lib.hid (HB3.out.trans (hq4.mono HB3.out.size))
    have HR4 := Lib.hid ((HR3.out.below hq4).more hq4.size)
    have hbn : ∀ x : Int, (x != x) = false := fun x => by simp
    clear hq4
    go_wp2_with fail
    refine (toInt_any A c n zs w4 ((HR.out.below HB4.out).more HB4.out.size) Hn.out (by omega)).mono ?_
    rintro e w5 ⟨b5, rfl, hb5, hr5, hnx5, -⟩
    rw [Hn.out]
    have HB5 := Lib.hid (HB4.out.trans (hnx5.mono HB4.out.size))
    have HR5 := Lib.hid (HR4.out.below hnx5)
    clear hnx5
    go_wp2_with fail
    refine (eqInt_same _ _ _ _ _ _ zs w5 _ _ HR5.out Hn.out hr5 Hn.out (by omega)).mono ?_
    rintro e w6 ⟨rfl, q, rfl⟩
    go_wp2
    go_ret
    exact ⟨rfl, below_drewN HB5.out q⟩

set_option maxHeartbeats 800000 in
theorem exLeastGreatest_walk (A : Option Addr) (c : Nat) (zs : List Int) (l : Int) (w : World) (hr : RdI w w.heap.size A zs) (hm : zs.length ≤ maxLen) (hwl : (Lit.int .i64 l).wf = true) :
    Calls Try.prog 12 #[.slice A zs.length c, .int .i64 l] w fun e w' => e = .returned (.bool true) ∧ Below w.heap.size w w' := by
  unfold maxLen at hm
  clear hwl
  obtain ⟨n, Hn⟩ : ∃ n, Hid (zs.length = n) := ⟨_, rfl⟩
  rw [Hn.out] at hm ⊢
  by_cases hb : 1048576 < n
  · clear hr
    go_enter Try.func12, Try.ntmps12
    go_wp2
    go_ret
    exact ⟨rfl, Below.refl _ _⟩
  · have HI := Lib.hid iLeastGreatest_ok
    have HS := Lib.hid sLeastGreatest_ok
    have HR := Lib.hid hr
    obtain ⟨v, Hv⟩ : ∃ v, Hid (lgA zs l = v) := ⟨_, rfl⟩
    clear hr
    go_enter Try.func12, Try.ntmps12
    go_wp2_with fail
    refine (toInt_any A c n zs w HR.out Hn.out (by omega)).mono ?_
    rintro e w1 ⟨b1, rfl, hb1, hr1, hnx1, -⟩
    rw [Hn.out]
    go_wp2_with fail
    refine (HS.out _ _ _ zs l w1 (lIn_mk hr1 Hn.out (by omega))).mono ?_
    rintro e w2 ⟨rfl, hq2⟩
    rw [Hv.out]
    have HB2 := Lib.hid (hnx1.trans (hq2.mono hnx1.size))
    clear hr1 hnx1 hq2
    go_wp2_with fail
    refine (toInt_any A c n zs w2 ((HR.out.below HB2.out).more HB2.out.size) Hn.out (by omega)).mono ?_
    rintro e w3 ⟨b3, rfl, hb3, hr3, hnx3, -⟩
    rw [Hn.out]
    have HB3 := Lib.hid (HB2.out.trans (hnx3.mono HB2.out.size))
    have HR3 := Lib.hid hr3
    clear hr3 hnx3
    go_wp2_with fail
    refine (HI.out _ _ _ zs l w3 (lIn_mk HR3.out Hn.out (by omega))).mono ?_
    rintro e w4 ⟨rfl, hq4⟩
    rw [Hv.out]
    have HB4 := Lib.hid (HB3.out.trans (hq4.mono HB3.out.size))
    have HR4 := Lib.hid ((HR3.out.below hq4).more hq4.size)
    have hbn : ∀ x : Int, (x != x) = false := fun x => by simp
    clear hq4
    go_wp2_with fail
    refine (toInt_any A c n zs w4 ((HR.out.below HB4.out).more HB4.out.size) Hn.out (by omega)).mono ?_
    rintro e w5 ⟨b5, rfl, hb5, hr5, hnx5, -⟩
    rw [Hn.out]
    have HB5 := Lib.hid (HB4.out.trans (hnx5.mono HB4.out.size))
    have HR5 := Lib.hid (HR4.out.below hnx5)
    clear hnx5
    go_wp2_with fail
    refine (eqInt_same _ _ _ _ _ _ zs w5 _ _ HR5.out Hn.out hr5 Hn.out (by omega)).mono ?_
    rintro e w6 ⟨rfl, q, rfl⟩
    go_wp2
    go_ret
    exact ⟨rfl, below_drewN HB5.out q⟩

set_option maxHeartbeats 800000 in
theorem exGreatestByParts_walk (A : Option Addr) (c : Nat) (zs : List Int) (l : Int) (w : World) (hr : RdI w w.heap.size A zs) (hm : zs.length ≤ maxLen) (hwl : (Lit.int .i64 l).wf = true) :
    Calls Try.prog 13 #[.slice A zs.length c, .int .i64 l] w fun e w' => e = .returned (.bool true) ∧ Below w.heap.size w w' := by
  unfold maxLen at hm
  clear hwl
  obtain ⟨n, Hn⟩ : ∃ n, Hid (zs.length = n) := ⟨_, rfl⟩
  rw [Hn.out] at hm ⊢
  by_cases hb : 1048576 < n
  · clear hr
    go_enter Try.func13, Try.ntmps13
    go_wp2
    go_ret
    exact ⟨rfl, Below.refl _ _⟩
  · have HI := Lib.hid iGreatestByParts_ok
    have HS := Lib.hid sGreatestByParts_ok
    have HR := Lib.hid hr
    obtain ⟨v, Hv⟩ : ∃ v, Hid (lgA zs l = v) := ⟨_, rfl⟩
    clear hr
    go_enter Try.func13, Try.ntmps13
    go_wp2_with fail
    refine (toInt_any A c n zs w HR.out Hn.out (by omega)).mono ?_
    rintro e w1 ⟨b1, rfl, hb1, hr1, hnx1, -⟩
    rw [Hn.out]
    go_wp2_with fail
    refine (HS.out _ _ _ zs l w1 (lIn_mk hr1 Hn.out (by omega))).mono ?_
    rintro e w2 ⟨rfl, hq2⟩
    rw [Hv.out]
    have HB2 := Lib.hid (hnx1.trans (hq2.mono hnx1.size))
    clear hr1 hnx1 hq2
    go_wp2_with fail
    refine (toInt_any A c n zs w2 ((HR.out.below HB2.out).more HB2.out.size) Hn.out (by omega)).mono ?_
    rintro e w3 ⟨b3, rfl, hb3, hr3, hnx3, -⟩
    rw [Hn.out]
    have HB3 := Lib.hid (HB2.out.trans (hnx3.mono HB2.out.size))
    have HR3 := Lib.hid hr3
    clear hr3 hnx3
    go_wp2_with fail
    refine (HI.out _ _ _ zs l w3 (lIn_mk HR3.out Hn.out (by omega))).mono ?_
    rintro e w4 ⟨rfl, hq4⟩
    rw [Hv.out]
    have HB4 := Lib.hid (HB3.out.trans (hq4.mono HB3.out.size))
    have HR4 := Lib.hid ((HR3.out.below hq4).more hq4.size)
    have hbn : ∀ x : Int, (x != x) = false := fun x => by simp
    clear hq4
    go_wp2_with fail
    refine (toInt_any A c n zs w4 ((HR.out.below HB4.out).more HB4.out.size) Hn.out (by omega)).mono ?_
    rintro e w5 ⟨b5, rfl, hb5, hr5, hnx5, -⟩
    rw [Hn.out]
    have HB5 := Lib.hid (HB4.out.trans (hnx5.mono HB4.out.size))
    have HR5 := Lib.hid (HR4.out.below hnx5)
    clear hnx5
    go_wp2_with fail
    refine (eqInt_same _ _ _ _ _ _ zs w5 _ _ HR5.out Hn.out hr5 Hn.out (by omega)).mono ?_
    rintro e w6 ⟨rfl, q, rfl⟩
    go_wp2
    go_ret
    exact ⟨rfl, below_drewN HB5.out q⟩

set_option maxHeartbeats 800000 in
theorem exGreatestLeast_walk (A : Option Addr) (c : Nat) (zs : List Int) (l : Int) (w : World) (hr : RdI w w.heap.size A zs) (hm : zs.length ≤ maxLen) (hwl : (Lit.int .i64 l).wf = true) :
    Calls Try.prog 14 #[.slice A zs.length c, .int .i64 l] w fun e w' => e = .returned (.bool true) ∧ Below w.heap.size w w' := by
  unfold maxLen at hm
  clear hwl
  obtain ⟨n, Hn⟩ : ∃ n, Hid (zs.length = n) := ⟨_, rfl⟩
  rw [Hn.out] at hm ⊢
  by_cases hb : 1048576 < n
  · clear hr
    go_enter Try.func14, Try.ntmps14
    go_wp2
    go_ret
    exact ⟨rfl, Below.refl _ _⟩
  · have HI := Lib.hid iGreatestLeast_ok
    have HS := Lib.hid sGreatestLeast_ok
    have HR := Lib.hid hr
    obtain ⟨v, Hv⟩ : ∃ v, Hid (glA zs l = v) := ⟨_, rfl⟩
    clear hr
    go_enter Try.func14, Try.ntmps14
    go_wp2_with fail
    refine (toInt_any A c n zs w HR.out Hn.out (by omega)).mono ?_
    rintro e w1 ⟨b1, rfl, hb1, hr1, hnx1, -⟩
    rw [Hn.out]
    go_wp2_with fail
    refine (HS.out _ _ _ zs l w1 (lIn_mk hr1 Hn.out (by omega))).mono ?_
    rintro e w2 ⟨rfl, hq2⟩
    rw [Hv.out]
    have HB2 := Lib.hid (hnx1.trans (hq2.mono hnx1.size))
    clear hr1 hnx1 hq2
    go_wp2_with fail
    refine (toInt_any A c n zs w2 ((HR.out.below HB2.out).more HB2.out.size) Hn.out (by omega)).mono ?_
    rintro e w3 ⟨b3, rfl, hb3, hr3, hnx3, -⟩
    rw [Hn.out]
    have HB3 := Lib.hid (HB2.out.trans (hnx3.mono HB2.out.size))
    have HR3 := Lib.hid hr3
    clear hr3 hnx3
    go_wp2_with fail
    refine (HI.out _ _ _ zs l w3 (lIn_mk HR3.out Hn.out (by omega))).mono ?_
    rintro e w4 ⟨rfl, hq4⟩
    rw [Hv.out]
    have HB4 := Lib.hid (HB3.out.trans (hq4.mono HB3.out.size))
    have HR4 := Lib.hid ((HR3.out.below hq4).more hq4.size)
    have hbn : ∀ x : Int, (x != x) = false := fun x => by simp
    clear hq4
    go_wp2_with fail
    refine (toInt_any A c n zs w4 ((HR.out.below HB4.out).more HB4.out.size) Hn.out (by omega)).mono ?_
    rintro e w5 ⟨b5, rfl, hb5, hr5, hnx5, -⟩
    rw [Hn.out]
    have HB5 := Lib.hid (HB4.out.trans (hnx5.mono HB4.out.size))
    have HR5 := Lib.hid (HR4.out.below hnx5)
    clear hnx5
    go_wp2_with fail
    refine (eqInt_same _ _ _ _ _ _ zs w5 _ _ HR5.out Hn.out hr5 Hn.out (by omega)).mono ?_
    rintro e w6 ⟨rfl, q, rfl⟩
    go_wp2
    go_ret
    exact ⟨rfl, below_drewN HB5.out q⟩

set_option maxHeartbeats 1600000 in
theorem exFirstCuts_walk (A : Option Addr) (c : Nat) (zs : List Int) (l : Int) (w : World) (hr : RdI w w.heap.size A zs) (hm : zs.length ≤ maxLen) (hwl : (Lit.int .i64 l).wf = true) :
    Calls Try.prog 15 #[.slice A zs.length c, .int .i64 l] w fun e w' => e = .returned (.bool true) ∧ Below w.heap.size w w' := by
  unfold maxLen at hm
  clear hwl
  obtain ⟨n, Hn⟩ : ∃ n, Hid (zs.length = n) := ⟨_, rfl⟩
  rw [Hn.out] at hm ⊢
  by_cases hb : 1048576 < n
  · clear hr
    go_enter Try.func15, Try.ntmps15
    go_wp2
    go_ret
    exact ⟨rfl, Below.refl _ _⟩
  · have HI := Lib.hid iFirstCuts_ok
    have HS := Lib.hid sFirstCuts_ok
    have HR := Lib.hid hr
    have hm2 := cutRow_len zs l
    obtain ⟨xs, Hx⟩ : ∃ xs, Hid (cutRow zs l = xs) := ⟨_, rfl⟩
    rw [Hx.out] at hm2
    obtain ⟨m, Hm⟩ : ∃ m, Hid (xs.length = m) := ⟨_, rfl⟩
    obtain ⟨bo, Hbo⟩ : ∃ bo, Hid (cbc zs l = bo) := ⟨_, rfl⟩
    rw [Hm.out] at hm2
    have HI2 : Hid (∀ (A : Option Addr) (c n : Nat) (w : World), LIn w A c n zs → Calls Try.prog 23 #[.slice A n c, .int .i64 l] w fun e w' => ∃ A' c', e = .returned (.tuple #[.slice A' m c', .bool bo]) ∧ Hid (w'.ownsRow w.heap.size 3 1 (.slice A' m c') m (xs.map (Value.int .i64))) ∧ Hid (Below w.heap.size w w')) := fun A c n w h => by
      exact (HI.out A c n zs l w h).mono fun e w2 hc => cutsAre_row Hx.out Hm.out Hbo.out hc
    have HS2 : Hid (∀ (A : Option Addr) (c n : Nat) (w : World), LIn w A c n zs → Calls Try.prog 36 #[.slice A n c, .int .i64 l] w fun e w' => ∃ A' c', e = .returned (.tuple #[.slice A' m c', .bool bo]) ∧ Hid (w'.ownsRow w.heap.size 3 1 (.slice A' m c') m (xs.map (Value.int .i64))) ∧ Hid (Below w.heap.size w w')) := fun A c n w h => by
      exact (HS.out A c n zs l w h).mono fun e w2 hc => cutsAre_row Hx.out Hm.out Hbo.out hc
    have hbb : (bo != bo) = false := by cases bo <;> rfl
    clear hr HI HS
    go_enter Try.func15, Try.ntmps15
    go_wp2_with fail
    refine (toInt_any A c n zs w HR.out Hn.out (by omega)).mono ?_
    rintro e w1 ⟨b1, rfl, hb1, hr1, hnx1, -⟩
    rw [Hn.out]
    have B1 := Lib.hid hnx1
    have R1 := Lib.hid hr1
    clear hnx1 hr1 hb1
    go_wp2_with fail
    refine (HS2.out _ _ _ w1 (lIn_mk R1.out Hn.out (by omega))).mono ?_
    rintro e w2 ⟨A0, c0, rfl, ho0, hq2⟩
    obtain ⟨A0', c0', he0, -, -, hR0⟩ := own_slice ho0.out Hm.out
    injection he0 with he1 he2 he3
    subst he1 he3
    have R0 := Lib.hid hR0
    have B2 := Lib.hid (B1.out.trans (hq2.out.mono B1.out.size))
    clear hR0 hq2 he2 ho0
    go_wp2_with fail
    refine (toInt_any A c n zs w2 ((HR.out.below B2.out).more B2.out.size) Hn.out (by omega)).mono ?_
    rintro e w3 ⟨b3, rfl, hb3, hr3, hnx3, hown3⟩
    rw [Hn.out] at hown3 ⊢
    have B3 := Lib.hid (B2.out.trans (hnx3.mono B2.out.size))
    have C3 := Lib.hid hnx3
    have R3 := Lib.hid hr3
    have Hb3' := Lib.hid (hown3.lt b3 rfl).2
    have X3 := Lib.hid hown3
    have Hb3 := Lib.hid hb3
    clear hb3 hr3 hnx3 hown3
    go_wp2_with fail
    refine (HI2.out _ _ _ w3 (lIn_mk R3.out Hn.out (by omega))).mono ?_
    rintro e w4 ⟨A1, c1, rfl, O1, D4⟩
    obtain ⟨A1', c1', he1', -, -, hR1⟩ := own_slice O1.out Hm.out
    injection he1' with he1 he2 he3
    subst he1 he3
    have P1 := Lib.hid hR1
    have C4 := Lib.hid (C3.out.trans (D4.out.mono C3.out.size))
    have B4 := Lib.hid (B2.out.trans (C4.out.mono B2.out.size))
    clear hR1 he2
    go_wp2_with fail
    refine (calls_drawn (eqInt_same _ _ _ _ _ _ xs w4 _ _ P1.out Hm.out (R0.out.below C4.out) Hm.out (by omega))).mono ?_
    rintro e w5 ⟨rfl, hnx5⟩
    have E5 := Lib.hid hnx5
    have B5 := Lib.hid (B4.out.trans (hnx5.mono B4.out.size))
    clear hnx5
    go_wp2_with fail
    refine (toInt_any A c n zs w5 ((HR.out.below B5.out).more B5.out.size) Hn.out (by omega)).mono ?_
    rintro e w6 ⟨b6, rfl, -, hr6, hnx6, -⟩
    rw [Hn.out]
    have E6 := Lib.hid (E5.out.trans (hnx6.mono E5.out.size))
    have B6 := Lib.hid (B5.out.trans (hnx6.mono B5.out.size))
    have R6 := Lib.hid hr6
    clear hr6 hnx6
    have R36 := Lib.hid ((R3.out.below (D4.out.trans (E6.out.mono D4.out.size))).more (Nat.le_trans D4.out.size E6.out.size))
    go_wp2_with fail
    refine (calls_drawn (eqInt_same _ _ _ _ _ _ zs w6 _ _ R36.out Hn.out R6.out Hn.out (by omega))).mono ?_
    rintro e w7 ⟨rfl, hnx7⟩
    have E7 := Lib.hid (E6.out.trans (hnx7.mono E6.out.size))
    have B7 := Lib.hid (B6.out.trans (hnx7.mono B6.out.size))
    clear hnx7
    have X7 := Lib.hid (ownN_below X3.out (D4.out.trans (E7.out.mono D4.out.size)))
    have O7 := Lib.hid (ownN_below O1.out E7.out)
    have C7 := Lib.hid (C4.out.trans (E7.out.mono C4.out.size))
    have D7 := Lib.hid (D4.out.trans (E7.out.mono D4.out.size))
    go_wp2_with fail
    refine (markI_any w7 _ b3 n n 1 zs X7.out Hn.out (by omega) (by omega) (by omega)).mono ?_
    rintro e w8 ⟨rfl, -, hg8⟩
    have O8 := Lib.hid (O7.out.kept hg8 (.inr (fun e => by have := (O7.out.lt b3 e).1; have := Hb3'.out; omega)))
    obtain ⟨A1', c1', he8, -, -, hP8⟩ := own_slice O8.out Hm.out
    injection he8 with he1 he2 he3
    subst he1 he3
    have P8 := Lib.hid hP8
    have C8 := Lib.hid (C7.out.grown hg8 C7.out.size (fun k e => by injection e with e; have := Hb3.out; omega))
    have B8 := Lib.hid (B2.out.trans (C8.out.mono B2.out.size))
    have D8 : Hid (w3.heap.size ≤ w8.heap.size) := Nat.le_trans D7.out.size hg8.size
    have hpos1 : ¬ (1 + (n : Int)) < 0 := by omega
    clear hg8 hP8 he2
    go_wp2_with fail
    refine (calls_drawn (eqInt_same _ _ _ _ _ _ xs w8 _ _ P8.out Hm.out (R0.out.below C8.out) Hm.out (by omega))).mono ?_
    rintro e w9 ⟨rfl, hnx9⟩
    have O9 := Lib.hid (ownN_below O8.out hnx9)
    have C9 := Lib.hid (C8.out.trans (hnx9.mono C8.out.size))
    have B9 := Lib.hid (B8.out.trans (hnx9.mono B8.out.size))
    have D9 : Hid (w3.heap.size ≤ w9.heap.size) := Nat.le_trans D8.out hnx9.size
    clear hnx9
    go_wp2_with fail
    refine (markRow_any w9 _ m c1 A1 xs O9.out Hm.out (by omega) D9.out).mono ?_
    rintro e w10 ⟨rfl, hO10, hnx10⟩
    obtain ⟨A1', c1', he8, -, -, hP10⟩ := own_slice hO10 (mk_len 1 m)
    injection he8 with he1 he2 he3
    subst he1 he3
    have P10 := Lib.hid hP10
    have C10 := Lib.hid (C9.out.trans (hnx10.mono C3.out.size))
    have B10 := Lib.hid (B2.out.trans (C10.out.mono B2.out.size))
    have hpos2 : ¬ (1 + ((m : Nat) : Int)) < 0 := by omega
    have hbn : ∀ x : Int, (x != x) = false := fun x => by simp
    clear hO10 hnx10 hP10 he2
    go_wp2_with fail
    refine (heldI_any w10 _ m c1 1 A1 P10.out (by omega) (by omega) (by omega)).mono ?_
    rintro e w' ⟨rfl, rfl⟩
    go_wp2_with fail
    refine (toInt_any A c n zs w10 ((HR.out.below B10.out).more B10.out.size) Hn.out (by omega)).mono ?_
    rintro e w11 ⟨b11, rfl, -, hr11, hnx11, -⟩
    rw [Hn.out]
    have R11 := Lib.hid hr11
    have F11 := Lib.hid hnx11
    have C11 := Lib.hid (C10.out.trans (hnx11.mono C10.out.size))
    have B11 := Lib.hid (B10.out.trans (hnx11.mono B10.out.size))
    clear hr11 hnx11
    go_wp2_with fail
    refine (HI2.out _ _ _ w11 (lIn_mk R11.out Hn.out (by omega))).mono ?_
    rintro e w12 ⟨A2, c2, rfl, ho2, hq12⟩
    obtain ⟨A2', c2', he2', -, -, hR2⟩ := own_slice ho2.out Hm.out
    injection he2' with he1 he2 he3
    subst he1 he3
    have P2 := Lib.hid hR2
    have F12 := Lib.hid (F11.out.trans (hq12.out.mono F11.out.size))
    have C12 := Lib.hid (C11.out.trans (hq12.out.mono C11.out.size))
    have B12 := Lib.hid (B11.out.trans (hq12.out.mono B11.out.size))
    clear hR2 hq12 ho2 he2
    go_wp2_with fail
    refine (calls_drawn (eqInt_same _ _ _ _ _ _ xs w12 _ _ P2.out Hm.out (R0.out.below C12.out) Hm.out (by omega))).mono ?_
    rintro e w13 ⟨rfl, hnx13⟩
    have F13 := Lib.hid (F12.out.trans (hnx13.mono F12.out.size))
    have B13 := Lib.hid (B12.out.trans (hnx13.mono B12.out.size))
    clear hnx13
    go_wp2_with fail
    refine (heldI_any w13 _ m c1 1 A1 (P10.out.below F13.out) (by omega) (by omega) (by omega)).mono ?_
    rintro e w' ⟨rfl, rfl⟩
    go_wp2
    go_ret
    exact ⟨rfl, B13.out⟩

end Go.Proofs.Ytoappopbjnlbdaa
