/-
  The laws' copies of fractions and their comparison.
  Conditions: none.
-/
import Derived.Test.Ythphboeboiallab1Z
namespace Go.Proofs.Ythphboeboiallab
open Go.ChangeShapes Go.WideShapes Go.ChangeAt Go.RowKit
set_option linter.unusedVariables false
set_option maxRecDepth 4000

theorem toFracQ_any (u d : Int) (w : World) : Calls Try.prog 32 #[.agg #[.int .i64 u, .int .i64 d]] w fun e w' => e = .returned (.agg #[.int .i64 u, .int .i64 d]) ∧ Below w.heap.size w w' := by
  go_enter Try.func32, Try.ntmps32
  go_wp2
  have q : ∀ o1 o2 : Obj, (((w.alloc o1).alloc (.cells #[.int .i64 u, .int .i64 d] 30)).alloc o2).heap[w.heap.size + 1]? = some (.cells #[.int .i64 u, .int .i64 d] 30 (0, 0)) := fun o1 o2 => by
    have := heap_alloc_new (w.alloc o1) (.cells #[.int .i64 u, .int .i64 d] 30)
    rw [size_alloc1] at this
    rw [heap_alloc_old _ _ (by rw [size_alloc1, size_alloc1]; omega)]; exact this
  obtain ⟨z0, z1⟩ := frac_cells (q (.cells #[.int .i64 u, .int .i64 d] 43) (.cells #[.int .i64 u, .int .i64 d] 30))
  have hb : Below w.heap.size w (((w.alloc (.cells #[.int .i64 u, .int .i64 d] 43)).alloc (.cells #[.int .i64 u, .int .i64 d] 30)).alloc (.cells #[.int .i64 u, .int .i64 d] 30)) :=
    (((Below.refl _ _).alloc (Nat.le_refl _) _).alloc (by rw [size_alloc1]; omega) _).alloc (by rw [size_alloc1, size_alloc1]; omega) _
  exact bodyPost_ret (v := .agg #[.int .i64 u, .int .i64 d]) (by simp [results, Try.results32, go_sem, z0, z1]) rfl ⟨rfl, hb⟩
theorem eqFracQ_any (u d : Int) (w : World) : Calls Try.prog 33 #[.agg #[.int .i64 u, .int .i64 d], .agg #[.int .i64 u, .int .i64 d]] w fun e w' => e = .returned (.bool true) ∧ Below w.heap.size w w' := by
  have h1 : (u != u) = false := by simp
  have h2 : (d != d) = false := by simp
  go_enter Try.func33, Try.ntmps33
  go_wp2
  go_ret
  exact ⟨rfl, ((Below.refl _ _).alloc (Nat.le_refl _) _).alloc (by rw [size_alloc1]; omega) _⟩
end Go.Proofs.Ythphboeboiallab
