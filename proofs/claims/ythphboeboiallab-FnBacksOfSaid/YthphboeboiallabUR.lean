/-
  Tables in memory: a row more.
  Conditions: none beyond what each theorem states.
-/
import Derived.Test.YthphboeboiallabUG
namespace Go.Proofs.Ythphboeboiallab
open Go.ChangeShapes Go.WideShapes Go.ChangeAt Go.RowKit
set_option linter.unusedVariables false
set_option maxRecDepth 4000

/-- A row more, made since. -/
theorem TT.addRow {w wq : World} {B m k : Nat} {VR : Nat → Value} {ls : Nat → List Int} {v : Value} {row : List Int} (h : TT w B m VR ls) (hB : B ≤ w.heap.size) (hb : Below w.heap.size w wq) (hk : row.length = k)
    (hown : wq.ownsRow w.heap.size 3 1 v k (row.map (Value.int .i64))) : TT wq B (m + 1) (upd VR m v) (upd ls m row) := by
  constructor
  · intro j hj
    by_cases e : j = m
    · subst e
      rw [upd_at, upd_at, hk]
      refine ⟨hown.1, ?_⟩
      rcases hown.2 with h0 | ⟨g, cap, cur, h1, h2, h3⟩
      · exact .inl h0
      · exact .inr ⟨g, cap, cur, h1, by omega, h3⟩
    · rw [upd_other _ _ e, upd_other _ _ e]
      exact ownN_below (h.own j (by omega)) hb
  · intro i j g hi hj h1 h2
    by_cases e1 : i = m <;> by_cases e2 : j = m
    · omega
    · rw [e1, upd_at] at h1; rw [upd_other _ _ e2] at h2
      have := (own_heap hown h1).2.1
      have := (own_heap (h.own j (by omega)) h2).2.2; omega
    · rw [e2, upd_at] at h2; rw [upd_other _ _ e1] at h1
      have := (own_heap hown h2).2.1
      have := (own_heap (h.own i (by omega)) h1).2.2; omega
    · rw [upd_other _ _ e1] at h1; rw [upd_other _ _ e2] at h2
      exact h.dis i j g (by omega) (by omega) h1 h2
/-- The new row lies in the table. -/
theorem tabX_end {w w2 w3 : World} {m g cA g3 c3 : Nat} {VR : Nat → Value} {ls : Nat → List Int} {v : Value} {o : Obj} (hT : TT w2 w.heap.size (m + 1) (upd VR m v) ls) (hO : Outer w2 w.heap.size m (.slice (some ⟨g, 0, none⟩) m cA) VR) (hB : Below w.heap.size w w2)
    (hown : w3.ownsRow w.heap.size 23 1 (.slice (some ⟨g3, 0, none⟩) (m + 1) c3) (m + 1) ((List.range m).map VR ++ [v])) (hg : (w2.alloc o).grownBy w3 (Value.slice (some ⟨g, 0, none⟩) m cA).ownBlock) (hs : (w2.alloc o).heap.size = w2.heap.size + 1) :
    Outer w3 w.heap.size (m + 1) (.slice (some ⟨g3, 0, none⟩) (m + 1) c3) (upd VR m v) ∧ TT w3 w.heap.size (m + 1) (upd VR m v) ls ∧ Below w.heap.size w w3 := by
  have hW := (Below.refl w2.heap.size w2).alloc (Nat.le_refl _) o
  obtain ⟨⟨cs, hc⟩, hB2, _⟩ := own_heap (ownN_below hO hW) (g := g) rfl
  refine ⟨?_, (hT.below hW).keptBy hg (fun g' e => ?_), (hB.trans (hW.mono hB.size)).grown hg (by rw [hs]; have := hB.size; omega) (fun g' e => ?_)⟩
  · unfold Outer
    rw [List.range_succ, List.map_append]
    have e : (List.range m).map (upd VR m v) = (List.range m).map VR := List.map_congr_left fun i hi => upd_other _ _ (by have := List.mem_range.1 hi; omega)
    rw [e]
    simpa [upd_at] using hown
  · have : g = g' := by simpa [Value.ownBlock] using e
    subst this
    exact ⟨cs, _, hc, by decide⟩
  · have : g = g' := by simpa [Value.ownBlock] using e
    subst this
    exact hB2
end Go.Proofs.Ythphboeboiallab
