/-
  ValidTree: the program and the model answer the same.
  Conditions: fewer than 2^60 roads.
-/
import Derived.Test.YtoappopbjnlbdabR1
import Derived.Test.YtoappopbjnlbdabLR
namespace Go.Proofs.Ytoappopbjnlbdab
open Go.ChangeShapes Go.WideShapes Go.ChangeAt Go.RowKit
set_option linter.unusedVariables false

theorem branch_eq {b off c k : Nat} : (if c = k then (some ⟨b, off, none⟩ : Option Addr) else some ⟨b, off + k * 2, none⟩) = some ⟨b, (if c = k then off else off + k * 2), none⟩ := by split <;> rfl

set_option maxHeartbeats 800000 in
theorem iValidTree_any (A : Option Addr) (c n : Nat) (ts : List (Int × Int)) (w : World) (B : Nat) (hr : RdR w B A ts) (hn : ts.length = n) (hc : n ≤ c) (hb : n ≤ 1152921504606846976) (hB : B ≤ w.heap.size) :
    Calls Try.prog 14 #[.slice A n c] w fun e w' => e = .returned (.bool (vt ts)) ∧ Below w.heap.size w w' := by
  by_cases h0 : n < 1
  · have Hs := Lib.hid (vt_no_len (ts := ts) (by omega))
    clear hn
    go_enter Try.func14, Try.ntmps14
    go_wp2
    go_ret
    exact ⟨ret_bool Hs.out.symm, Below.refl _ _⟩
  by_cases h7 : 7 < n
  · have Hs := Lib.hid (vt_no_len (ts := ts) (by omega))
    clear hn
    go_enter Try.func14, Try.ntmps14
    go_wp2
    go_ret
    exact ⟨ret_bool Hs.out.symm, Below.refl _ _⟩
  have Hn := Lib.hid hn
  obtain ⟨b, off, x, y, rfl, hbw, Hx, hcx, hcy⟩ := hr.x (k := 0) (by omega)
  clear hn
  simp only [Nat.zero_mul, Nat.add_zero] at hcx hcy
  by_cases hx : x = -1
  rotate_left
  · have Hs := Lib.hid (vt_no_head Hx.out (Or.inl hx))
    have hx1 : (x != -1) = true := by rw [bne_iff_ne]; exact hx
    go_enter Try.func14, Try.ntmps14
    go_wp2
    go_ret
    exact ⟨ret_bool Hs.out.symm, Below.refl _ _⟩
  subst hx
  by_cases hy : y = 0
  rotate_left
  · have Hs := Lib.hid (vt_no_head Hx.out (Or.inr hy))
    have hx1 : (y != 0) = true := by rw [bne_iff_ne]; exact hy
    go_enter Try.func14, Try.ntmps14
    go_wp2
    go_ret
    exact ⟨ret_bool Hs.out.symm, Below.refl _ _⟩
  subst hy
  by_cases hc1 : c = 1
  · subst hc1
    have hn1 : n = 1 := by omega
    subst hn1
    have Hs := Lib.hid (vt_yes (OkT.one ts) (by rw [Hn.out]; omega) (by rw [Hn.out]; omega) (by rw [Hn.out]; omega) Hx.out)
    go_enter Try.func14, Try.ntmps14
    go_wp2
    go_loopw [30] (fun i wr => i = .int .i64 0 ∧ wr = w) (fun _ _ => 0)
    case atStart => exact ⟨rfl, rfl⟩
    case round =>
      obtain ⟨rfl, rfl⟩ := hrel
      go_wp2
      go_ret
      exact ⟨ret_bool Hs.out.symm, Below.refl _ _⟩
  go_enter Try.func14, Try.ntmps14
  go_wp2
  go_loopw [30] (fun i wr => ∃ k : Nat, k < n ∧ i = .int .i64 k ∧ Hid (OkT ts (k + 1)) ∧ Below w.heap.size w wr) (fun i _ => n - (intOf i).toNat)
  case atStart => exact ⟨0, by omega, rfl, OkT.one ts, Below.refl _ _⟩
  case round =>
    obtain ⟨k, hk, rfl, Ho, hnx⟩ := hrel
    by_cases hlt : k + 1 < n
    · have hlt' : k < n - 1 := by omega
      obtain ⟨b', off', x, y, e, -, Hx', hcx', hcy'⟩ := (hr.below (hnx.mono hB)).x (k := k + 1) (by rw [Hn.out]; omega)
      cases e
      rw [show off + (k + 1) * 2 = off + 2 + k * 2 by omega] at hcx' hcy'
      by_cases h1 : x < 0 ∨ (k : Int) < x ∨ y < 1 ∨ 9 < y
      · have Hs := Lib.hid (vt_no_at (k := k + 1) (by omega) (by rw [Hn.out]; omega) Hx'.out (by omega))
        by_cases g1 : x < 0
        · go_wp2
          go_ret
          exact ⟨ret_bool Hs.out.symm, hnx.alloc hnx.size _⟩
        by_cases g2 : (k : Int) < x
        · go_wp2
          go_ret
          exact ⟨ret_bool Hs.out.symm, hnx.alloc hnx.size _⟩
        by_cases g3 : y < 1
        · go_wp2
          go_ret
          exact ⟨ret_bool Hs.out.symm, hnx.alloc hnx.size _⟩
        · go_wp2
          go_ret
          exact ⟨ret_bool Hs.out.symm, hnx.alloc hnx.size _⟩
      · have g1 : 0 ≤ x := by omega
        have g2 : x ≤ k := by omega
        have g3 : 1 ≤ y := by omega
        have g4 : y ≤ 9 := by omega
        have Hs := Lib.hid (OkT.step Ho.out Hx'.out g1 (by omega) g3 g4)
        go_wp2
        go_roundw
        case rel => exact ⟨k + 1, by omega, by go_num, Hs, hnx.alloc hnx.size _⟩
        case measure => simp [intOf]; omega
    · have Hs := Lib.hid (vt_yes Ho.out (by rw [Hn.out]; omega) (by rw [Hn.out]; omega) (by rw [Hn.out]; omega) Hx.out)
      have hlt' : ¬ k < n - 1 := by omega
      go_wp2
      go_ret
      exact ⟨ret_bool Hs.out.symm, hnx⟩

set_option maxHeartbeats 800000 in
theorem sValidTree_in (A : Option Addr) (c n : Nat) (ts : List (Int × Int)) (w : World) (B : Nat) (hr : RdR w B A ts) (hn : ts.length = n) (hb : n ≤ 1152921504606846976) :
    Calls Try.prog 43 #[.slice A n c] w fun e w' => e = .returned (.bool (vt ts)) ∧ w = w' := by
  by_cases h0 : n < 1 ∨ 7 < n
  · have Hs := Lib.hid (vt_no_len (ts := ts) (by omega))
    clear hn
    go_enter Try.func43, Try.ntmps43
    go_wp2_with fail
    refine (inRange_no _ _ _ w (by omega)).mono ?_
    rintro e w' ⟨rfl, rfl⟩
    go_wp2
    go_ret
    exact ⟨ret_bool Hs.out.symm, rfl⟩
  have Hn := Lib.hid hn
  clear hn
  go_enter Try.func43, Try.ntmps43
  go_wp2_with fail
  refine (inRange_yes _ _ _ w (by omega) (by omega)).mono ?_
  rintro e w' ⟨rfl, rfl⟩
  go_wp2
  go_loop [3] (fun i => ∃ k : Nat, k ≤ n ∧ i = .int .i64 k ∧ Hid (OkT ts k ∧ (1 ≤ k → ts.getD 0 (-1, 0) = (-1, 0)))) (fun i => n - (intOf i).toNat)
  case atStart => exact ⟨0, by omega, rfl, fun i h1 h2 => by omega, by omega⟩
  case round =>
    obtain ⟨k, hk, rfl, Ho⟩ := hrel
    by_cases hlt : k < n
    · obtain ⟨b, off, x, y, rfl, -, Hx, hcx, hcy⟩ := hr.x (k := k) (by rw [Hn.out]; omega)
      by_cases hk0 : k = 0
      · subst hk0
        simp only [Nat.zero_mul, Nat.add_zero] at hcx hcy
        by_cases h1 : x = -1 ∧ y = 0
        · obtain ⟨rfl, rfl⟩ := h1
          go_wp2
          go_round
          case rel => exact ⟨1, by omega, by go_num, OkT.one ts, fun _ => Hx.out⟩
          case measure => simp [intOf]; omega
        · have Hs := Lib.hid (vt_no_head Hx.out (by omega))
          go_wp2
          all_goals
            go_ret
            exact ⟨ret_bool Hs.out.symm, rfl⟩
      · by_cases h1 : x < 0 ∨ (k : Int) ≤ x
        · have Hs := Lib.hid (vt_no_at (k := k) (by omega) (by rw [Hn.out]; omega) Hx.out (by omega))
          go_wp2_with fail
          refine (inRange_no _ _ _ w (by omega)).mono ?_
          rintro e w' ⟨rfl, rfl⟩
          go_wp2
          go_ret
          exact ⟨ret_bool Hs.out.symm, rfl⟩
        by_cases h2 : y < 1 ∨ 9 < y
        · have Hs := Lib.hid (vt_no_at (k := k) (by omega) (by rw [Hn.out]; omega) Hx.out (by omega))
          go_wp2_with fail
          refine (inRange_yes _ _ _ w (by omega) (by omega)).mono ?_
          rintro e w' ⟨rfl, rfl⟩
          go_wp2_with fail
          refine (inRange_no _ _ _ w (by omega)).mono ?_
          rintro e w' ⟨rfl, rfl⟩
          go_wp2
          go_ret
          exact ⟨ret_bool Hs.out.symm, rfl⟩
        · have Hs := Lib.hid (OkT.step Ho.out.1 Hx.out (by omega) (by omega) (by omega) (by omega))
          go_wp2_with fail
          refine (inRange_yes _ _ _ w (by omega) (by omega)).mono ?_
          rintro e w' ⟨rfl, rfl⟩
          go_wp2_with fail
          refine (inRange_yes _ _ _ w (by omega) (by omega)).mono ?_
          rintro e w' ⟨rfl, rfl⟩
          go_wp2
          go_round
          case rel => exact ⟨k + 1, by omega, by go_num, Hs.out, fun _ => Ho.out.2 (by omega)⟩
          case measure => simp [intOf]; omega
    · have Hs := Lib.hid (vt_yes Ho.out.1 (by rw [Hn.out]; omega) (by rw [Hn.out]; omega) (by rw [Hn.out]; omega) (Ho.out.2 (by omega)))
      go_wp2
      go_ret
      exact ⟨ret_bool Hs.out.symm, rfl⟩
theorem sValidTree_any (A : Option Addr) (c n : Nat) (ts : List (Int × Int)) (w : World) (B : Nat) (hr : RdR w B A ts) (hn : ts.length = n) (hb : n ≤ 1152921504606846976) :
    Calls Try.prog 15 #[.slice A n c] w fun e w' => e = .returned (.bool (vt ts)) ∧ w = w' := by
  go_enter Try.func15, Try.ntmps15
  go_wp2_with fail
  refine (sValidTree_in A c n ts w B hr hn hb).mono ?_
  rintro e w' ⟨rfl, rfl⟩
  go_wp2
  go_ret
  exact ⟨rfl, rfl⟩
end Go.Proofs.Ytoappopbjnlbdab
