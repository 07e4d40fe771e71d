/-
  How many are behind each node, summed from the last node up.
  Conditions: each node's road goes to a node ahead of it.
-/
import Derived.Test.YtoappopbjnlbdabT1
namespace Go.Proofs.Ytoappopbjnlbdab
open Go.ChangeShapes Go.WideShapes Go.ChangeAt Go.RowKit
set_option linter.unusedVariables false

/-- How many are at v when all nodes behind j have been summed up. -/
def bsm (t : List (Int × Int)) (fs : List Int) (j v : Nat) : Nat → Int
  | 0 => 0
  | m + 1 => bsm t fs j v m + (if tp t (max j v) m = v then fs.getD m 0 else 0)
theorem bsm_zero (t : List (Int × Int)) (fs : List Int) (v : Nat) : ∀ m, bsm t fs 0 v m = beh t fs v m
  | 0 => rfl
  | m + 1 => by simp only [bsm, beh, bsm_zero t fs v m, Nat.zero_max]; rfl
theorem bsm_start {t : List (Int × Int)} {fs : List Int} {n v : Nat} (hv : v < n) : ∀ m, m ≤ n → bsm t fs (n - 1) v m = if v < m then fs.getD v 0 else 0
  | 0, _ => by simp [bsm]
  | m + 1, hm => by
    simp only [bsm]
    rw [bsm_start hv m (by omega), Nat.max_eq_left (by omega), tp_stop (by omega)]
    by_cases e : m = v
    · subst e; rw [if_neg (by omega), if_pos rfl, if_pos (by omega)]; omega
    · rw [if_neg e]
      by_cases h : v < m
      · rw [if_pos h, if_pos (by omega)]; omega
      · rw [if_neg h, if_neg (by omega)]; omega
theorem bsm_behind {t : List (Int × Int)} {fs : List Int} {j v : Nat} (h : j < v) : ∀ m, bsm t fs j v m = bsm t fs (j + 1) v m
  | 0 => rfl
  | m + 1 => by simp only [bsm]; rw [bsm_behind h m, Nat.max_eq_right (by omega), Nat.max_eq_right (by omega)]
theorem bsm_step {t : List (Int × Int)} {fs : List Int} (ht : Ahead t) {j v : Nat} (hj : j + 1 < t.length) (h : v ≤ j) : ∀ m, m ≤ t.length → bsm t fs j v m = bsm t fs (j + 1) v m + (if tto t (j + 1) = v then bsm t fs (j + 1) (j + 1) m else 0)
  | 0, _ => by simp [bsm]
  | m + 1, hm => by
    have ih := bsm_step (fs := fs) ht hj h m (by omega)
    have hr := ht (j + 1) (by omega) hj
    simp only [bsm]
    rw [ih, Nat.max_eq_left h, Nat.max_eq_left (show v ≤ j + 1 by omega), Nat.max_self, ← tp_tp ht (Nat.le_succ j) m (by omega)]
    have hy := (tp_le ht (j := j + 1) m (by omega)).1
    generalize tp t (j + 1) m = y at hy
    by_cases e : y = j + 1
    · subst e
      rw [tp_step ht (show j < j + 1 by omega) hj, tp_stop (show ¬ j < tto t (j + 1) by omega), if_neg (show ¬ j + 1 = v by omega), if_pos rfl]
      split <;> omega
    · rw [tp_stop (show ¬ j < y by omega), if_neg e]
      split <;> split <;> omega
theorem beh_root {t : List (Int × Int)} {fs : List Int} (ht : Ahead t) : ∀ m, m ≤ t.length → beh t fs 0 m = tot fs m
  | 0, _ => rfl
  | m + 1, hm => by
    simp only [beh, tot]
    rw [beh_root ht m (by omega), if_pos]
    have := (tp_le ht (j := 0) m (by omega)).1
    show tp t 0 m = 0
    omega
end Go.Proofs.Ytoappopbjnlbdab
