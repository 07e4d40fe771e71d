/-
  Blocks made in a region that draws its order: what lies in them later.
  Conditions: none beyond what each theorem states.
-/
import Derived.Test.YthphboeboiallabUG
namespace Go.Proofs.Ythphboeboiallab
open Go.ChangeShapes Go.WideShapes Go.ChangeAt Go.RowKit
set_option linter.unusedVariables false
set_option maxRecDepth 4000

theorem cell_lt {W : World} {p : Nat} {o : Obj} (h : W.heap[p]? = some o) : p < W.heap.size := by
  rcases Nat.lt_or_ge p W.heap.size with hh | hh
  · exact hh
  · simp [Array.getElem?_eq_none hh] at h
theorem belowA1 {a w : World} (h : Below a.heap.size a w) (o : Obj) : Below a.heap.size a (w.alloc o) := h.alloc h.size _
theorem chain_up {a w w' : World} (h : Below a.heap.size a w) (hq : Below w.heap.size w w') : Below a.heap.size a w' := h.trans (hq.mono h.size)
theorem newcell {w w' : World} {cs : Array Value} {ty : TypeId} (hq : Below (w.alloc (.cells cs ty)).heap.size (w.alloc (.cells cs ty)) w') : w'.heap[w.heap.size]? = some (.cells cs ty (0, 0)) := (hq.block _ (cell_lt (heap_alloc_new w _))).trans (heap_alloc_new w _)
theorem newcellD {w w' : World} {cs : Array Value} {ty : TypeId} (hq : Below (w.alloc (.cells cs ty)).drew.heap.size (w.alloc (.cells cs ty)).drew w') : w'.heap[w.heap.size]? = some (.cells cs ty (0, 0)) := newcell (w := w) (cs := cs) (ty := ty) ⟨hq.os, hq.tape, hq.output, hq.size, hq.block⟩
theorem keepcell {w w' : World} {p : Nat} {o : Obj} (h : w.heap[p]? = some o) (hq : Below w.heap.size w w') : w'.heap[p]? = some o := (hq.block _ (cell_lt h)).trans h
theorem two_set {w : World} {p ty : Nat} {a b x y : Value} (h : w.heap[p]? = some (.cells #[a, b] ty (0, 0))) : ((w.setCell ⟨p, 0, none⟩ x).setCell ⟨p, 1, none⟩ y).heap[p]? = some (.cells #[x, y] ty (0, 0)) := by
  rw [heap_setCell_same _ _ _ _ _ _ (heap_setCell_same _ _ _ _ _ _ h)]
  rfl
end Go.Proofs.Ythphboeboiallab
