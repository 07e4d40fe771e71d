/-
  The small functions of chapter 3: a way shorter than another, two ways joined, a row's way made shorter, a node's number.
  Conditions: as each theorem states.
-/
import Derived.Test.YtiblcmeoneolcaaQ4
import Derived.Test.YtiblcmeoneolcaaE0
namespace Go.Proofs.Ytiblcmeoneolcaa
open Go.ChangeShapes Go.WideShapes Go.ChangeAt Go.RowKit
set_option linter.unusedVariables false
set_option maxRecDepth 4000

theorem isSh_any (x y : Int) (w : World) : Calls Try.prog 77 #[.int .i64 x, .int .i64 y] w fun e w' => e = .returned (.bool (decide (ShW x y))) ∧ w = w' := by
  by_cases hx : x = -1
  · subst hx
    have hs : decide (ShW (-1) y) = false := decide_eq_false (fun h => h.1 rfl)
    rw [hs]
    have h1 : ((-1 : Int) != -1) = false := rfl
    go_enter Try.func77, Try.ntmps77
    go_wp2
    go_ret
    exact ⟨rfl, rfl⟩
  · have h1 : (x != -1) = true := by rw [bne_iff_ne]; exact hx
    by_cases hy : y = -1
    · subst hy
      have hs : decide (ShW x (-1)) = true := decide_eq_true ⟨hx, .inl rfl⟩
      rw [hs]
      have h2 : ((-1 : Int) == -1) = true := rfl
      go_enter Try.func77, Try.ntmps77
      go_wp2
      go_ret
      exact ⟨rfl, rfl⟩
    · have h2 : (y == -1) = false := by rw [beq_eq_false_iff_ne]; exact hy
      have hs : decide (ShW x y) = decide (x < y) := by
        unfold ShW
        by_cases h : x < y <;> simp [h, hx, hy]
      rw [hs]
      by_cases h : x < y
      all_goals
        go_enter Try.func77, Try.ntmps77
        go_wp2
        go_ret
        exact ⟨ret_bool (by simp [h]), rfl⟩
theorem isSh_yes (x y : Int) (w : World) (h : ShW x y) : Calls Try.prog 77 #[.int .i64 x, .int .i64 y] w fun e w' => e = .returned (.bool true) ∧ w = w' :=
  (isSh_any x y w).mono fun _ _ ⟨he, hw⟩ => ⟨by rw [he, decide_eq_true h], hw⟩
theorem isSh_no (x y : Int) (w : World) (h : ¬ ShW x y) : Calls Try.prog 77 #[.int .i64 x, .int .i64 y] w fun e w' => e = .returned (.bool false) ∧ w = w' :=
  (isSh_any x y w).mono fun _ _ ⟨he, hw⟩ => ⟨by rw [he, decide_eq_false h], hw⟩
/-- Two ways, one behind the other; -1 if there is none. -/
def jn (x y : Int) : Int := if x = -1 ∨ y = -1 then -1 else x + y
theorem joined_any (x y : Int) (w : World) (hx : -1 ≤ x ∧ x ≤ 100000) (hy : -1 ≤ y ∧ y ≤ 100000) : Calls Try.prog 85 #[.int .i64 x, .int .i64 y] w fun e w' => e = .returned (.int .i64 (jn x y)) ∧ w = w' := by
  by_cases h1 : x = -1
  · subst h1
    have hs : jn (-1) y = -1 := if_pos (.inl rfl)
    rw [hs]
    have h1 : ((-1 : Int) == -1) = true := rfl
    go_enter Try.func85, Try.ntmps85
    go_wp2
    go_ret
    exact ⟨rfl, rfl⟩
  · have b1 : (x == -1) = false := by rw [beq_eq_false_iff_ne]; exact h1
    by_cases h2 : y = -1
    · subst h2
      have hs : jn x (-1) = -1 := if_pos (.inr rfl)
      rw [hs]
      have h2 : ((-1 : Int) == -1) = true := rfl
      go_enter Try.func85, Try.ntmps85
      go_wp2
      go_ret
      exact ⟨rfl, rfl⟩
    · have b2 : (y == -1) = false := by rw [beq_eq_false_iff_ne]; exact h2
      have hs : jn x y = x + y := if_neg (by omega)
      rw [hs]
      go_enter Try.func85, Try.ntmps85
      go_wp2
      go_ret
      exact ⟨ret_int (by first | rfl | (rw [IntWalk.i64_in _ (by omega)])), rfl⟩
theorem joined_is (x y : Int) {z : Int} (w : World) (hx : -1 ≤ x ∧ x ≤ 100000) (hy : -1 ≤ y ∧ y ≤ 100000) (h : jn x y = z) : Calls Try.prog 85 #[.int .i64 x, .int .i64 y] w fun e w' => e = .returned (.int .i64 z) ∧ w = w' := by
  subst h; exact joined_any x y w hx hy
theorem validNode_any (n x : Int) (w : World) : Calls Try.prog 56 #[.int .i64 n, .int .i64 x] w fun e w' => e = .returned (.bool (decide (0 ≤ x) && decide (x < n))) ∧ w = w' := by
  by_cases h1 : 0 ≤ x
  · by_cases h2 : x < n
    all_goals
      go_enter Try.func56, Try.ntmps56
      go_wp2
      go_ret
      exact ⟨ret_bool (by simp [h1, h2]), rfl⟩
  · have h3 : decide (x ≥ 0) = false := decide_eq_false h1
    go_enter Try.func56, Try.ntmps56
    go_wp2
    go_ret
    exact ⟨ret_bool (by simp), rfl⟩
theorem validNode_is (n x : Int) (w : World) {b : Bool} (h : (decide (0 ≤ x) && decide (x < n)) = b) : Calls Try.prog 56 #[.int .i64 n, .int .i64 x] w fun e w' => e = .returned (.bool b) ∧ w = w' := by
  subst h; exact validNode_any n x w
/-- A row's way, made shorter. -/
theorem shorten_yes (gr n cr e : Nat) (x q : Int) (w : World) (he : e < n) (hc : w.cell? ⟨gr, e, none⟩ = some (.int .i64 q)) (hf : w.frozen? ⟨gr, e, none⟩ = false) (h : ShW x q) :
    Calls Try.prog 61 #[.slice (some ⟨gr, 0, none⟩) n cr, .int .i64 e, .int .i64 x] w fun r w' => r = .returned (.bool true) ∧ ∃ k, w' = (w.setCell ⟨gr, e, none⟩ (.int .i64 x)).drewN k := by
  have H := Lib.hid (fun W => isSh_yes x q W h)
  clear h
  go_enter Try.func61, Try.ntmps61
  go_wp2_with fail
  refine (H.out _).mono ?_
  rintro r w' ⟨rfl, rfl⟩
  go_wp2
  go_ret
  exact ⟨rfl, 0, rfl⟩
theorem shorten_no (gr n cr e : Nat) (x q : Int) (w : World) (he : e < n) (hc : w.cell? ⟨gr, e, none⟩ = some (.int .i64 q)) (h : ¬ ShW x q) :
    Calls Try.prog 61 #[.slice (some ⟨gr, 0, none⟩) n cr, .int .i64 e, .int .i64 x] w fun r w' => r = .returned (.bool false) ∧ ∃ k, w' = w.drewN k := by
  have H := Lib.hid (fun W => isSh_no x q W h)
  clear h
  go_enter Try.func61, Try.ntmps61
  go_wp2_with fail
  refine (H.out _).mono ?_
  rintro r w' ⟨rfl, rfl⟩
  go_wp2
  go_ret
  exact ⟨rfl, 0, rfl⟩
end Go.Proofs.Ytiblcmeoneolcaa
