/-
  Small parts of chapter 1's contracts that other laws take too: what valid homes are, how far reaches, cut rows.
  Conditions: none beyond what each theorem states.
-/
import Derived.Test.YtoohfipicmdohabL2
import Derived.Test.YtoohfipicmdohabDF
namespace Go.Proofs.Ytoohfipicmdohab
open Go.ChangeShapes Go.WideShapes Go.ChangeAt Go.RowKit
set_option linter.unusedVariables false

def vfar (far : Int) : Bool := decide (0 ≤ far) && decide (far ≤ 50)
theorem vfar_yes {far : Int} (h1 : 0 ≤ far) (h2 : far ≤ 50) : vfar far = true := by simp [vfar, h1, h2]
theorem vfar_no {far : Int} (h : far < 0 ∨ 50 < far) : vfar far = false := by
  simp only [vfar, Bool.and_eq_false_iff, decide_eq_false_iff_not]; omega
theorem okFrom_mem {zs : List Int} : ∀ {a : Int}, okFrom a zs = true → ∀ x ∈ zs, a ≤ x ∧ x ≤ 50 := by
  induction zs with
  | nil => intro a _ x hx; cases hx
  | cons y r ih =>
    intro a h x hx
    simp only [okFrom, Bool.and_eq_true, decide_eq_true_eq] at h
    rcases List.mem_cons.1 hx with rfl | hx
    · exact ⟨h.1, h.2.1⟩
    · have := ih h.2.2 x hx
      exact ⟨by omega, this.2⟩
theorem vh_len {zs : List Int} (h : vh zs = true) : zs.length ≤ 10 := by unfold vh at h; simp at h; exact h.1
theorem vh_ok {zs : List Int} (h : vh zs = true) : okFrom 0 zs = true := by unfold vh at h; simp at h; exact h.2
theorem vh_get {zs : List Int} (h : vh zs = true) {k : Nat} {x : Int} (hk : k < zs.length) (hx : zs.getD k 0 = x) : 0 ≤ x ∧ x ≤ 50 := by
  refine okFrom_mem (vh_ok h) x ?_
  rw [← hx]
  simp [List.getD, List.getElem?_eq_getElem hk]
theorem validFar_yes (far : Int) (w : World) (h1 : 0 ≤ far) (h2 : far ≤ 50) :
    Calls Try.prog 50 #[.int .i64 far] w fun e w' => e = .returned (.bool true) ∧ w = w' := by
  go_enter Try.func50, Try.ntmps50
  go_wp2
  go_ret
  exact ⟨ret_bool (by simp <;> omega), rfl⟩
theorem validFar_no (far : Int) (w : World) (h : far < 0 ∨ 50 < far) :
    Calls Try.prog 50 #[.int .i64 far] w fun e w' => e = .returned (.bool false) ∧ w = w' := by
  by_cases h1 : far < 0
  all_goals
    go_enter Try.func50, Try.ntmps50
    go_wp2
    go_ret
    exact ⟨ret_bool (by simp <;> omega), rfl⟩
theorem pw_take {zs : List Int} (h : zs.Pairwise (· ≤ ·)) (k : Nat) : (zs.take k).Pairwise (· ≤ ·) := h.sublist (List.take_sublist _ _)
theorem pw_le {zs : List Int} (h : zs.Pairwise (· ≤ ·)) {j : Nat} (hj : j < zs.length) : ∀ y ∈ zs.take j, y ≤ zs.getD j 0 := by
  have h1 := pw_take h (j + 1)
  rw [take_snoc_getD hj, List.pairwise_append] at h1
  exact fun y hy => h1.2.2 y hy _ (by simp)
theorem pw_getD {zs : List Int} (h : zs.Pairwise (· ≤ ·)) {i j : Nat} (hij : i ≤ j) (hj : j < zs.length) : zs.getD i 0 ≤ zs.getD j 0 := by
  rcases Nat.lt_or_ge i j with hlt | hge
  · refine pw_le h hj _ ?_
    simp only [List.getD_eq_getElem?_getD, List.getElem?_eq_getElem (show i < zs.length by omega), Option.getD_some]
    rw [List.mem_take_iff_getElem]
    exact ⟨i, by omega, rfl⟩
  · obtain rfl : i = j := by omega
    exact Int.le_refl _
end Go.Proofs.Ytoohfipicmdohab
