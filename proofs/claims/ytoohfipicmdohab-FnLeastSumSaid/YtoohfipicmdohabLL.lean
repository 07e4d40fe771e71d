/-
  Lists of lists of ints in memory.
  Conditions: none beyond what each theorem states.
-/
import Derived.Test.YtoohfipicmdohabUA
import Derived.Below
namespace Go.Proofs.Ytoohfipicmdohab
open Go.ChangeShapes Go.WideShapes Go.ChangeAt Go.RowKit
set_option linter.unusedVariables false

/-- A slice that is not nil, in a block of ints. -/
def RdL (w : World) (A : Option Addr) (l : List Int) : Prop :=
  ∃ b cs, A = some ⟨b, 0, none⟩ ∧ w.heap[b]? = some (Obj.cells cs 3 (0, 0)) ∧ ∀ i, i < l.length → cs[i]? = some (.int .i64 (l.getD i 0))
theorem RdL.rd {w : World} {A : Option Addr} {l : List Int} (h : RdL w A l) : RdI w w.heap.size A l := fun _ => by
  obtain ⟨b, cs, e, hb, hc⟩ := h
  exact ⟨b, 0, e, (Array.getElem?_eq_some_iff.1 hb).1, fun i hi => by rw [Nat.zero_add, cell_of_row _ _ _ _ _ _ hb]; exact hc i hi⟩
theorem RdL.block {w w' : World} {A : Option Addr} {l : List Int} (h : RdL w A l) (hk : ∀ (b : Nat) (cs : Array Value), w.heap[b]? = some (Obj.cells cs 3 (0, 0)) → w'.heap[b]? = w.heap[b]?) : RdL w' A l := by
  obtain ⟨b, cs, e, hb, hc⟩ := h
  exact ⟨b, cs, e, (hk b cs hb).trans hb, hc⟩
theorem RdL.below {w w' : World} {A : Option Addr} {l : List Int} (h : RdL w A l) (hb : Below w.heap.size w w') : RdL w' A l :=
  h.block fun b cs hbc => hb.block b (Array.getElem?_eq_some_iff.1 hbc).1
theorem RdL.alloc {w : World} {A : Option Addr} {l : List Int} (h : RdL w A l) (o : Obj) : RdL (w.alloc o) A l := h.below ((Below.refl _ _).alloc (Nat.le_refl _) o)
/-- A write into a row of other elements, or into a new block, leaves it. -/
theorem RdL.grown {w w' : World} {row : Option Nat} {A : Option Addr} {l : List Int} (h : RdL w A l) (hg : w.grownBy w' row) (hr : ∀ g, row = some g → ∀ cs, w.heap[g]? ≠ some (Obj.cells cs 3 (0, 0))) : RdL w' A l :=
  h.block fun b cs hbc => hg.block b (Array.getElem?_eq_some_iff.1 hbc).1 (fun e => hr b e.symm cs hbc)
theorem RdL.new {w w' : World} {A : Option Addr} {l : List Int} {o : Obj} (h : RdL w A l) (hg : (w.alloc o).grownBy w' (some w.heap.size)) : RdL w' A l :=
  h.block fun b cs hbc => by
    have hlt := (Array.getElem?_eq_some_iff.1 hbc).1
    rw [hg.block b (by simp; omega) (by intro e; injection e; omega), Below.heap_alloc w o b hlt]
theorem RdL.own {w : World} {B n : Nat} {v : Value} {l : List Int} (h : w.ownsRow B 3 1 v n (l.map (Value.int .i64))) (hl : l.length = n) (hn : 0 < n) : ∃ A c, v = .slice A n c ∧ n ≤ c ∧ RdL w A l := by
  rcases h.2 with ⟨_, h0⟩ | ⟨g, cap, cur, rfl, _, hb, hnc, _, hs, ht⟩
  · omega
  · refine ⟨_, cap, rfl, hnc, g, cur, rfl, hb, fun i hi => ?_⟩
    have h1 : (List.take (n * 1) cur.toList)[i]? = (l.map (Value.int .i64))[i]? := by rw [ht]
    rw [List.getElem?_take, if_pos (by omega), List.getElem?_map, List.getElem?_eq_getElem hi] at h1
    rw [← Array.getElem?_toList, h1]
    simp [List.getD, List.getElem?_eq_getElem hi]
def RdLL (w : World) (vs : List Value) (L : List (List Int)) : Prop :=
  vs.length = L.length ∧ ∀ (i : Nat) (l : List Int), L[i]? = some l → ∃ A c, vs[i]? = some (Value.slice A l.length c) ∧ l.length ≤ c ∧ RdL w A l
theorem RdLL.map {w w' : World} {vs : List Value} {L : List (List Int)} (h : RdLL w vs L) (hk : ∀ A l, RdL w A l → RdL w' A l) : RdLL w' vs L :=
  ⟨h.1, fun i l hl => by obtain ⟨A, c, h1, h2, h3⟩ := h.2 i l hl; exact ⟨A, c, h1, h2, hk A l h3⟩⟩
theorem RdLL.snoc {w : World} {vs : List Value} {L : List (List Int)} {A : Option Addr} {l : List Int} {c : Nat} (h : RdLL w vs L) (hc : l.length ≤ c) (hl : RdL w A l) : RdLL w (vs ++ [Value.slice A l.length c]) (L ++ [l]) := by
  refine ⟨by simp [h.1], fun i l' hi => ?_⟩
  rcases Nat.lt_or_ge i L.length with hlt | hge
  · rw [List.getElem?_append_left hlt] at hi
    obtain ⟨A', c', h1, h2, h3⟩ := h.2 i l' hi
    exact ⟨A', c', by rw [List.getElem?_append_left (by rw [h.1]; exact hlt)]; exact h1, h2, h3⟩
  · rw [List.getElem?_append_right hge] at hi
    have h0 : i - L.length = 0 := by
      have := (List.getElem?_eq_some_iff.1 hi).1
      simpa using this
    rw [h0] at hi
    simp at hi
    subst hi
    exact ⟨A, c, by rw [List.getElem?_append_right (by rw [h.1]; exact hge), h.1, h0]; rfl, hc, hl⟩
theorem RdLL.nil (w : World) : RdLL w [] [] := ⟨rfl, fun i l h => by simp at h⟩

end Go.Proofs.Ytoohfipicmdohab
