/-
  The exact laws of chapter 6.
  Conditions: none.
-/
import Derived.Test.YtbbmjfnjpmefpaaIJ
import Derived.Laws.StructEq
namespace Go.Proofs.Ytbbmjfnjpmefpaa
open Go.ChangeShapes Go.WideShapes Go.ChangeAt Go.RowKit
set_option linter.unusedVariables false
set_option maxRecDepth 4000

theorem boxedB {w w1 : World} (x y : Int) (hb : Below w.heap.size w w1) :
    ∃ W r, Hid (w1.alloc (.cells #[.int .i64 x, .int .i64 y] 26) = W) ∧ Hid (w1.heap.size = r) ∧ Hid (W.heap[r]? = some (.cells #[.int .i64 x, .int .i64 y] 26 (0, 0))) ∧ Hid (Below w.heap.size w W) ∧ Hid (W.heap.size = r + 1) :=
  ⟨_, _, rfl, rfl, heap_alloc_new w1 _, hb.alloc hb.size _, size_alloc1 _ _⟩
theorem keptB {W w2 : World} {r n : Nat} {o : Obj} (h : W.heap[r]? = some o) (hb : Below W.heap.size W w2) (hs : W.heap.size = r + 1 + n) : w2.heap[r]? = some o := (hb.block r (by omega)).trans h

theorem eqFrac_same (x y : Int) (w : World) :
    Calls Try.prog 26 #[.agg #[.int .i64 x, .int .i64 y], .agg #[.int .i64 x, .int .i64 y]] w fun e w' => e = .returned (.bool true) ∧ Below w.heap.size w w' := by
  have t1 : (x != x) = false := by simp
  have t2 : (y != y) = false := by simp
  go_enter Try.func26, Try.ntmps26
  go_wp2
  go_ret
  exact ⟨rfl, ((Below.refl _ _).alloc (Nat.le_refl _) _).alloc (by rw [size_alloc1]; omega) _⟩

/-- Both functions give the same fraction at these arguments. -/
theorem both3 {F G : Nat} {ans : Nat → Nat → Nat → Nat × Nat} (h1 : Fr3No F) (h2 : Fr3Yes F ans) (h3 : Fr3No G) (h4 : Fr3Yes G ans) (a d k : Int) :
    ∃ (x y : Int) (t : Bool), Hid (∀ w, Calls Try.prog F #[.int .i64 a, .int .i64 d, .int .i64 k] w (FrT x y t w)) ∧ Hid (∀ w, Calls Try.prog G #[.int .i64 a, .int .i64 d, .int .i64 k] w (FrT x y t w)) := by
  by_cases hv : vbz a d k = true
  · obtain ⟨a, d, k, rfl, rfl, rfl, ha, hd, hd1, hk⟩ := vbz_nat hv
    exact ⟨(ans a d k).1, (ans a d k).2, true, fun w => h2 a d k _ _ w ha hd hd1 hk rfl, fun w => h4 a d k _ _ w ha hd hd1 hk rfl⟩
  · have hv' : vbz a d k = false := by simpa using hv
    exact ⟨0, 0, false, fun w => h1 a d k w hv', fun w => h3 a d k w hv'⟩
theorem both4 (a d k j : Int) :
    ∃ (x y : Int) (t : Bool), Hid (∀ w, Calls Try.prog 13 #[.int .i64 a, .int .i64 d, .int .i64 k, .int .i64 j] w (FrT x y t w)) ∧ Hid (∀ w, Calls Try.prog 14 #[.int .i64 a, .int .i64 d, .int .i64 k, .int .i64 j] w (FrT x y t w)) := by
  by_cases hv : (vbz a d k && (decide (0 ≤ j) && decide (j ≤ k))) = true
  · have hv1 := hv
    rw [Bool.and_eq_true, Bool.and_eq_true, decide_eq_true_eq, decide_eq_true_eq] at hv1
    obtain ⟨a, d, k, rfl, rfl, rfl, ha, hd, hd1, hk⟩ := vbz_nat hv1.1
    obtain ⟨j, rfl⟩ := Int.eq_ofNat_of_zero_le hv1.2.1
    exact ⟨(bzB a d k j).1, (bzB a d k j).2, true, fun w => iBusyShare_yes a d k j _ _ w ha hd hd1 hk (by omega) rfl, fun w => sBusyShare_yes a d k j _ _ w ha hd hd1 hk (by omega) rfl⟩
  · have hv' : (vbz a d k && (decide (0 ≤ j) && decide (j ≤ k))) = false := by simpa using hv
    exact ⟨0, 0, false, fun w => iBusyShare_no a d k j w hv', fun w => sBusyShare_no a d k j w hv'⟩

set_option maxHeartbeats 800000 in
theorem exBusyShare_walk (a d k j : Int) (w : World) (wa : (Lit.int .i64 a).wf = true) (wd : (Lit.int .i64 d).wf = true) (wk : (Lit.int .i64 k).wf = true) (wj : (Lit.int .i64 j).wf = true) :
    Calls Try.prog 8 #[.int .i64 a, .int .i64 d, .int .i64 k, .int .i64 j] w fun e w' => e = .returned (.bool true) ∧ Below w.heap.size w w' := by
  obtain ⟨x, y, t, HI, HS⟩ := both4 a d k j
  have HE := Lib.hid (fun W => eqFrac_same x y W)
  have ht : (t != t) = false := by simp
  clear wa wd wk wj
  go_enter Try.func8, Try.ntmps8
  go_wp2_with fail
  refine (HS.out _).mono ?_
  rintro e w1 ⟨rfl, hb1⟩
  obtain ⟨W1, r1, HW1, Hr1, Hc1, HB1, Hs1⟩ := boxedB x y hb1
  clear hb1
  go_wp2_with fail
  rw [HW1.out, Hr1.out]
  refine (HI.out _).mono ?_
  rintro e w2 ⟨rfl, hb2⟩
  have hb2' := HB1.out.trans (hb2.mono HB1.out.size)
  obtain ⟨W2, r2, HW2, Hr2, Hc2, HB2, Hs2⟩ := boxedB x y hb2'
  have hk1 : W2.heap[r1]? = some (.cells #[.int .i64 x, .int .i64 y] 26 (0, 0)) := by
    rw [← HW2.out]
    rw [Below.heap_alloc _ _ _ (by have := hb2.size; have := Hs1.out; omega)]
    exact keptB (n := 0) Hc1.out hb2 Hs1.out
  obtain ⟨q0, q1, -, -⟩ := frac_cells hk1
  rw [← HW2.out] at q0 q1
  clear hb2 hb2' hk1
  go_wp2_with fail
  rw [HW2.out]
  refine (HE.out _).mono ?_
  rintro e w3 ⟨rfl, hb3⟩
  have Hb3 : Hid (Below w.heap.size w w3) := HB2.out.trans (hb3.mono HB2.out.size)
  clear hb3 q0 q1
  go_wp2
  go_ret
  exact ⟨rfl, Hb3.out⟩
set_option maxHeartbeats 800000 in
theorem exLostStep_walk (a d k : Int) (w : World) (wa : (Lit.int .i64 a).wf = true) (wd : (Lit.int .i64 d).wf = true) (wk : (Lit.int .i64 k).wf = true) :
    Calls Try.prog 9 #[.int .i64 a, .int .i64 d, .int .i64 k] w fun e w' => e = .returned (.bool true) ∧ Below w.heap.size w w' := by
  obtain ⟨x, y, t, HI, HS⟩ := both3 iLostStep_no iLostStep_yes sLostStep_no sLostStep_yes a d k
  have HE := Lib.hid (fun W => eqFrac_same x y W)
  have ht : (t != t) = false := by simp
  clear wa wd wk
  go_enter Try.func9, Try.ntmps9
  go_wp2_with fail
  refine (HS.out _).mono ?_
  rintro e w1 ⟨rfl, hb1⟩
  obtain ⟨W1, r1, HW1, Hr1, Hc1, HB1, Hs1⟩ := boxedB x y hb1
  clear hb1
  go_wp2_with fail
  rw [HW1.out, Hr1.out]
  refine (HI.out _).mono ?_
  rintro e w2 ⟨rfl, hb2⟩
  have hb2' := HB1.out.trans (hb2.mono HB1.out.size)
  obtain ⟨W2, r2, HW2, Hr2, Hc2, HB2, Hs2⟩ := boxedB x y hb2'
  have hk1 : W2.heap[r1]? = some (.cells #[.int .i64 x, .int .i64 y] 26 (0, 0)) := by
    rw [← HW2.out]
    rw [Below.heap_alloc _ _ _ (by have := hb2.size; have := Hs1.out; omega)]
    exact keptB (n := 0) Hc1.out hb2 Hs1.out
  obtain ⟨q0, q1, -, -⟩ := frac_cells hk1
  rw [← HW2.out] at q0 q1
  clear hb2 hb2' hk1
  go_wp2_with fail
  rw [HW2.out]
  refine (HE.out _).mono ?_
  rintro e w3 ⟨rfl, hb3⟩
  have Hb3 : Hid (Below w.heap.size w w3) := HB2.out.trans (hb3.mono HB2.out.size)
  clear hb3 q0 q1
  go_wp2
  go_ret
  exact ⟨rfl, Hb3.out⟩
set_option maxHeartbeats 800000 in
theorem exMeanBusy_walk (a d k : Int) (w : World) (wa : (Lit.int .i64 a).wf = true) (wd : (Lit.int .i64 d).wf = true) (wk : (Lit.int .i64 k).wf = true) :
    Calls Try.prog 10 #[.int .i64 a, .int .i64 d, .int .i64 k] w fun e w' => e = .returned (.bool true) ∧ Below w.heap.size w w' := by
  obtain ⟨x, y, t, HI, HS⟩ := both3 iMeanBusy_no iMeanBusy_yes sMeanBusy_no sMeanBusy_yes a d k
  have HE := Lib.hid (fun W => eqFrac_same x y W)
  have ht : (t != t) = false := by simp
  clear wa wd wk
  go_enter Try.func10, Try.ntmps10
  go_wp2_with fail
  refine (HS.out _).mono ?_
  rintro e w1 ⟨rfl, hb1⟩
  obtain ⟨W1, r1, HW1, Hr1, Hc1, HB1, Hs1⟩ := boxedB x y hb1
  clear hb1
  go_wp2_with fail
  rw [HW1.out, Hr1.out]
  refine (HI.out _).mono ?_
  rintro e w2 ⟨rfl, hb2⟩
  have hb2' := HB1.out.trans (hb2.mono HB1.out.size)
  obtain ⟨W2, r2, HW2, Hr2, Hc2, HB2, Hs2⟩ := boxedB x y hb2'
  have hk1 : W2.heap[r1]? = some (.cells #[.int .i64 x, .int .i64 y] 26 (0, 0)) := by
    rw [← HW2.out]
    rw [Below.heap_alloc _ _ _ (by have := hb2.size; have := Hs1.out; omega)]
    exact keptB (n := 0) Hc1.out hb2 Hs1.out
  obtain ⟨q0, q1, -, -⟩ := frac_cells hk1
  rw [← HW2.out] at q0 q1
  clear hb2 hb2' hk1
  go_wp2_with fail
  rw [HW2.out]
  refine (HE.out _).mono ?_
  rintro e w3 ⟨rfl, hb3⟩
  have Hb3 : Hid (Below w.heap.size w w3) := HB2.out.trans (hb3.mono HB2.out.size)
  clear hb3 q0 q1
  go_wp2
  go_ret
  exact ⟨rfl, Hb3.out⟩
theorem exHelpersFor_walk (a d m : Int) (w : World) (wa : (Lit.int .i64 a).wf = true) (wd : (Lit.int .i64 d).wf = true) (wm : (Lit.int .i64 m).wf = true) :
    Calls Try.prog 11 #[.int .i64 a, .int .i64 d, .int .i64 m] w fun e w' => e = .returned (.bool true) ∧ Below w.heap.size w w' := by
  have HS := Lib.hid (fun W => sHelpersFor_ok a d m W)
  have HI := Lib.hid (fun W => iHelpersFor_ok a d m W)
  obtain ⟨r, Hr⟩ : ∃ r, Hid (hpI a d m = r) := ⟨_, rfl⟩
  rw [Hr.out] at HS HI
  have ht : (r != r) = false := by simp
  clear wa wd wm
  go_enter Try.func11, Try.ntmps11
  go_wp2_with fail
  refine (HS.out _).mono ?_
  rintro e w1 ⟨rfl, hb1⟩
  have Hb1 := Lib.hid hb1
  clear hb1
  go_wp2_with fail
  refine (HI.out _).mono ?_
  rintro e w2 ⟨rfl, hb2⟩
  have Hb2 : Hid (Below w.heap.size w w2) := Hb1.out.trans (hb2.mono Hb1.out.size)
  clear hb2
  go_wp2
  go_ret
  exact ⟨rfl, Hb2.out⟩
end Go.Proofs.Ytbbmjfnjpmefpaa
