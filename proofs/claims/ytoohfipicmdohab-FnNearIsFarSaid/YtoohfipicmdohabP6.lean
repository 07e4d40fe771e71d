/-
  The law FnNearIsFar: one helper stands in the middle.
  Conditions: none.
-/
import Derived.Test.YtoohfipicmdohabP5
namespace Go.Proofs.Ytoohfipicmdohab
open Go.ChangeShapes Go.WideShapes Go.ChangeAt Go.RowKit
set_option linter.unusedVariables false

set_option maxHeartbeats 800000 in
theorem lawNearIsFar_walk (A : Option Addr) (c : Nat) (bs : List Int) (w : World) (hr : RdB w w.heap.size A bs) (hcap : bs.length ≤ c) (hm : c ≤ maxLen) :
    Calls Try.prog 8 #[.slice A bs.length c] w fun e w' => e = .returned (.bool true) ∧ Below w.heap.size w w' := by
  unfold maxLen at hm
  by_cases hb : 1048576 < bs.length
  · go_enter Try.func8, Try.ntmps8
    go_wp2
    go_ret
    exact ⟨rfl, Below.refl _ _⟩
  · have H := Lib.hid (drawLeastFar_any A c bs.length bs w hr rfl hcap hm)
    go_enter Try.func8, Try.ntmps8
    go_wp2_with fail
    refine H.out.mono ?_
    rintro e w1 ⟨A', c', xs, k, rfl, hk1, hk2, hl, hc1, hc2, hrd, hnx⟩
    by_cases hv : vh xs = true ∧ vk k = true
    · have ho1 := (lfar_prop hv.1 hv.2).1
      have Hv := Lib.hid hv.1
      obtain ⟨o, Ho⟩ : ∃ o, Hid (lfar xs k = o) := ⟨_, rfl⟩
      rw [Ho.out] at ho1
      clear hv
      go_wp2_with fail
      refine (iLeastFar_any A' c' xs.length xs k w1 _ hrd rfl (by omega)).mono ?_
      rintro e w' ⟨rfl, rfl⟩
      rw [Ho.out]
      go_wp2_with fail
      refine (sLeastFar_any A' c' xs.length xs k w1 _ hrd rfl (by omega)).mono ?_
      rintro e w' ⟨rfl, q, rfl⟩
      rw [Ho.out]
      go_wp2_with fail
      refine (iLeastFar_any A' c' xs.length xs k (w1.drewN q) _ hrd rfl (by omega)).mono ?_
      rintro e w' ⟨rfl, rfl⟩
      rw [Ho.out]
      by_cases hz : xs.length = 0
      · have hzb : (((xs.length : Nat) : Int) == 0) = true := by rw [beq_iff_eq]; omega
        have Hz := Lib.hid hz
        clear hz
        go_wp2
        go_ret
        exact ⟨rfl, below_drewN hnx _⟩
      · obtain ⟨n, Hn⟩ : ∃ n, Hid (xs.length = n + 1) := ⟨xs.length - 1, by show xs.length = _; omega⟩
        have hlf := lfar_one Hv.out (by omega)
        obtain ⟨b, off, x, he1, hbw, Hx, hc⟩ := hrd.x (k := 0) (by omega)
        obtain ⟨b', off', y, he2, hbw', Hy, hcy⟩ := hrd.x (k := n) (by rw [Hn.out]; omega)
        have hx1 := vh_get Hv.out (by omega) Hx.out
        have hy1 := vh_get Hv.out (by rw [Hn.out]; omega) Hy.out
        rw [he1] at he2
        injection he2 with he2
        injection he2 with he3 he4
        subst he3 he4 he1
        rw [Hn.out, Nat.add_sub_cancel, Hx.out, Hy.out] at hlf
        have hzb : (((n + 1 : Nat) : Int) == 0) = false := by rw [beq_eq_false_iff_ne]; omega
        have hzb' : (((n : Nat) : Int) + 1 == 0) = false := by rw [beq_eq_false_iff_ne]; omega
        have hr1 := hrd
        have hn10 : n + 1 ≤ 10 := by rw [← Hn.out]; exact hl
        have HC := Lib.hid (fun W : World => fun h : RdI W w1.heap.size (some ⟨b, off, none⟩) xs => iLeastFar_any (some ⟨b, off, none⟩) c' (n + 1) xs 1 W w1.heap.size h Hn.out (by omega))
        rw [hlf] at HC
        have hq : 0 ≤ y - x + 1 := by
          have := pw_getD (vh_iff.1 Hv.out).2.1 (i := 0) (j := n) (by omega) (by rw [Hn.out]; omega)
          rw [Hx.out, Hy.out] at this
          omega
        have w3 : IntKind.i64.wrap (y - x) = y - x := IntWalk.i64_in _ (by omega)
        have w4 : IntKind.i64.wrap (y - x + 1) = y - x + 1 := IntWalk.i64_in _ (by omega)
        have w5 : (y - x + 1).tdiv 2 = (y - x + 1) / 2 := Int.tdiv_eq_ediv_of_nonneg hq
        rw [Hn.out] at hc1 hl ⊢
        rw [Nat.add_zero] at hc
        clear hz hlf
        have hbb : (((y - x + 1) / 2 : Int) == (y - x + 1) / 2) = true := by simp
        go_wp2
        go_quiet ((go_at_call 30; exact quiet_gen (HC.out _ hr1) ⟨_, rfl⟩))
        clear w3 w4 w5
        go_wp2
        go_ret
        exact ⟨ret_bool (by simp), below_drewN (below_drewN hnx _) _⟩
    · have Ho := Lib.hid (lfar_neg hv)
      clear hv
      go_wp2_with fail
      refine (iLeastFar_any A' c' xs.length xs k w1 _ hrd rfl (by omega)).mono ?_
      rintro e w' ⟨rfl, rfl⟩
      rw [Ho.out]
      go_wp2_with fail
      refine (sLeastFar_any A' c' xs.length xs k w1 _ hrd rfl (by omega)).mono ?_
      rintro e w' ⟨rfl, q, rfl⟩
      rw [Ho.out]
      go_wp2_with fail
      refine (iLeastFar_any A' c' xs.length xs k (w1.drewN q) _ hrd rfl (by omega)).mono ?_
      rintro e w' ⟨rfl, rfl⟩
      rw [Ho.out]
      go_wp2
      go_ret
      exact ⟨rfl, below_drewN hnx _⟩
end Go.Proofs.Ytoohfipicmdohab
