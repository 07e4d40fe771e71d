/-
  Rows of numbers as cells.
  Conditions: none.
-/
import Derived.Test.YthphboeboiallabUG
namespace Go.Proofs.Ythphboeboiallab
open Go.ChangeShapes Go.WideShapes Go.ChangeAt Go.RowKit
set_option linter.unusedVariables false

/-- Numbers as a row's cells. -/
def rwA (f : Nat → Nat) (m : Nat) : Array Value := ((List.range m).map fun i => Value.int .i64 ((f i : Nat) : Int)).toArray
theorem rwA_size (f : Nat → Nat) (m : Nat) : (rwA f m).size = m := by simp [rwA]
theorem rwA_get {f : Nat → Nat} {i m : Nat} (h : i < m) : (rwA f m)[i]? = some (.int .i64 ((f i : Nat) : Int)) := by simp [rwA, h]
theorem rwA_congr {f g : Nat → Nat} {m : Nat} (h : ∀ i, i < m → f i = g i) : rwA f m = rwA g m := by
  unfold rwA
  congr 1
  refine List.map_congr_left fun i hi => ?_
  rw [h i (List.mem_range.1 hi)]
theorem rwA_set {f : Nat → Nat} {i v m : Nat} (h : i < m) : (rwA f m).setIfInBounds i (.int .i64 ((v : Nat) : Int)) = rwA (fun j => if j = i then v else f j) m := by
  unfold rwA
  apply Array.ext_getElem?
  intro j
  rw [Array.getElem?_setIfInBounds]
  by_cases hj : j < m
  · by_cases e : i = j
    · subst e; simp [h]
    · simp [hj, e, show ¬ j = i from fun h => e h.symm]
  · simp [hj]; omega
theorem rwA_zero (m : Nat) : (List.replicate m (Value.int .i64 0)).toArray = rwA (fun _ => 0) m := by
  unfold rwA
  congr 1
  apply List.ext_getElem?
  intro i
  by_cases hi : i < m <;> simp [hi]
end Go.Proofs.Ythphboeboiallab
