/-
  What valid homes are, how far reaches.
  Conditions: none beyond what each theorem states.
-/
import Derived.Test.YthphboeboiallabL1
namespace Go.Proofs.Ythphboeboiallab
open Go.ChangeShapes Go.WideShapes Go.ChangeAt Go.RowKit
set_option linter.unusedVariables false

def vfar (far : Int) : Bool := decide (0 ≤ far) && decide (far ≤ 50)
theorem vfar_yes {far : Int} (h1 : 0 ≤ far) (h2 : far ≤ 50) : vfar far = true := by simp [vfar, h1, h2]
theorem vfar_no {far : Int} (h : far < 0 ∨ 50 < far) : vfar far = false := by
  simp only [vfar, Bool.and_eq_false_iff, decide_eq_false_iff_not]; omega
theorem okFrom_mem {zs : List Int} : ∀ {a : Int}, okFrom a zs = true → ∀ x ∈ zs, a ≤ x ∧ x ≤ 50 := by
  induction zs with
  | nil => intro a _ x hx; cases hx
  | cons y r ih =>
    intro a h x hx
    simp only [okFrom, Bool.and_eq_true, decide_eq_true_eq] at h
    rcases List.mem_cons.1 hx with rfl | hx
    · exact ⟨h.1, h.2.1⟩
    · have := ih h.2.2 x hx
      exact ⟨by omega, this.2⟩
theorem vh_len {zs : List Int} (h : vh zs = true) : zs.length ≤ 10 := by unfold vh at h; simp at h; exact h.1
theorem vh_ok {zs : List Int} (h : vh zs = true) : okFrom 0 zs = true := by unfold vh at h; simp at h; exact h.2
theorem vh_get {zs : List Int} (h : vh zs = true) {k : Nat} {x : Int} (hk : k < zs.length) (hx : zs.getD k 0 = x) : 0 ≤ x ∧ x ≤ 50 := by
  refine okFrom_mem (vh_ok h) x ?_
  rw [← hx]
  simp [List.getD, List.getElem?_eq_getElem hk]
theorem validFar_yes (far : Int) (w : World) (h1 : 0 ≤ far) (h2 : far ≤ 50) :
    Calls Try.prog 62 #[.int .i64 far] w fun e w' => e = .returned (.bool true) ∧ w = w' := by
  go_enter Try.func62, Try.ntmps62
  go_wp2
  go_ret
  exact ⟨ret_bool (by simp <;> omega), rfl⟩
theorem validFar_no (far : Int) (w : World) (h : far < 0 ∨ 50 < far) :
    Calls Try.prog 62 #[.int .i64 far] w fun e w' => e = .returned (.bool false) ∧ w = w' := by
  by_cases h1 : far < 0
  all_goals
    go_enter Try.func62, Try.ntmps62
    go_wp2
    go_ret
    exact ⟨ret_bool (by simp <;> omega), rfl⟩
end Go.Proofs.Ythphboeboiallab
