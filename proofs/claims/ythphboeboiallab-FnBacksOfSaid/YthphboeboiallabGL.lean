/-
  Numbers drawn out of a list that is written out.
  Conditions: none beyond what each theorem states.
-/
import Derived.Test.YthphboeboiallabG2
import Derived.Test.YthphboeboiallabUG
import Derived.Deep.CutBlock
namespace Go.Proofs.Ythphboeboiallab
open Go.ChangeShapes Go.WideShapes Go.ChangeAt Go.RowKit
set_option linter.unusedVariables false
set_option maxRecDepth 4000

theorem lit_cells (w : World) (zs : List Int) (g : Nat) (hg : g = w.heap.size) (t : TypeId) : ∀ i, i < zs.length → (w.alloc (.cells (zs.map (Value.int .i64)).toArray t)).cell? ⟨g, i, none⟩ = some (.int .i64 (zs.getD i 0)) := by
  intro i hi
  subst hg
  rw [cell_of_row _ _ _ _ t (0, 0) (heap_alloc_new w _)]
  simp [hi]
theorem own_slice {w : World} {B n : Nat} {v : Value} {zs : List Int} (h : w.ownsRow B 3 1 v n (zs.map (Value.int .i64))) (hn : zs.length = n) :
    ∃ A c, v = .slice A n c ∧ n ≤ c ∧ c ≤ 9223372036854775807 ∧ RdI w w.heap.size A zs := by
  have h0 := h
  rcases h.2 with ⟨rfl, rfl⟩ | ⟨g, cap, cur, rfl, _, _, hnc, hmx, _⟩
  · exact ⟨none, 0, rfl, Nat.le_refl _, by omega, fun hp => by omega⟩
  · exact ⟨_, cap, rfl, hnc, hmx, rdI_of_own h0 hn⟩

/-- One of the numbers of a list that is written out. -/
theorem oneLit (R B k : Nat) (zs : List Int) (n : Nat) (lo hi : Int) (w : World) (cs : Array Value) (hg : GR w B R k) (hk : k ≤ 100000) (hn : zs.length = n) (hn1 : 1 ≤ n) (hn2 : n ≤ 1000)
    (hcs : (zs.map (Value.int .i64)).toArray = cs) (hbd : ∀ x ∈ zs, lo ≤ x ∧ x ≤ hi) :
    Calls Try.prog 53 #[.pointer (some ⟨R, 0, none⟩), .slice (some ⟨w.heap.size, 0, none⟩) n n] (w.alloc (.cells cs 3)) (OnePost B R k lo hi w) := by
  have hga : GR (w.alloc (.cells cs 3)) B R k := hg.kept (row := none) (World.grownBy_alloc _ _ _) (fun g h => by cases h)
  refine (one_any R B k w.heap.size zs n n lo hi _ hga hk hn hn1 hn2 (by have := hg.lt; omega) (by rw [← hn, ← hcs]; exact lit_cells w zs _ rfl _) hbd).mono ?_
  rintro e w2 ⟨m, rfl, hm2, hm3, hg2, hgr2⟩
  exact ⟨m, rfl, hm2, hm3, hg2, gb_trans (World.grownBy_alloc w _ _) hgr2 (.inl rfl)⟩
/-- The same where the list's block is given by its number. -/
theorem oneLitAt (g : Nat) (R B k : Nat) (zs : List Int) (n : Nat) (lo hi : Int) (w : World) (cs : Array Value) (hg : GR w B R k) (hk : k ≤ 100000) (hn : zs.length = n) (hn1 : 1 ≤ n) (hn2 : n ≤ 1000)
    (hcs : (zs.map (Value.int .i64)).toArray = cs) (hbd : ∀ x ∈ zs, lo ≤ x ∧ x ≤ hi) (he : w.heap.size = g) :
    Calls Try.prog 53 #[.pointer (some ⟨R, 0, none⟩), .slice (some ⟨g, 0, none⟩) n n] (w.alloc (.cells cs 3)) (OnePost B R k lo hi w) := by
  subst he
  exact oneLit R B k zs n lo hi w cs hg hk hn hn1 hn2 hcs hbd
end Go.Proofs.Ythphboeboiallab
