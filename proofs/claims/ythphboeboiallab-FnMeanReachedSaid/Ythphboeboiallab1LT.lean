/-
  What the laws of the spreads share: homes and a chance in memory; the spreads' answers with their lengths named.
  Conditions: none beyond what each theorem states.
-/
import Derived.Test.Ythphboeboiallab1LS
import Derived.Test.Ythphboeboiallab1V
namespace Go.Proofs.Ythphboeboiallab
open Go.ChangeShapes Go.WideShapes Go.ChangeAt Go.RowKit
set_option linter.unusedVariables false
set_option maxRecDepth 4000

/-- Homes and a chance, as they lie in memory. -/
structure LAt (w : World) (pb : Nat) (u d : Int) (A : Option Addr) (c n : Nat) (zs : List Int) (W : World) : Prop where
  pin : PIn W A c n zs
  box : W.heap[pb]? = some (.cells #[.int .i64 u, .int .i64 d] 30 (0, 0))
  bel : Below w.heap.size w W
theorem box_lt {W : World} {p : Nat} {o : Obj} (h : W.heap[p]? = some o) : p < W.heap.size := by
  rcases Nat.lt_or_ge p W.heap.size with hh | hh
  · exact hh
  · simp [Array.getElem?_eq_none hh] at h
theorem box_later {W W' : World} {p : Nat} {o : Obj} (h : W.heap[p]? = some o) (hb : Below W.heap.size W W') : W'.heap[p]? = some o := (hb.block p (box_lt h)).trans h
theorem LAt.later {w : World} {pb : Nat} {u d : Int} {A : Option Addr} {c n : Nat} {zs : List Int} {W W' : World} (h : LAt w pb u d A c n zs W) (hb : Below W.heap.size W W') : LAt w pb u d A c n zs W' :=
  ⟨h.pin.later hb, box_later h.box hb, h.bel.trans (hb.mono h.bel.size)⟩
theorem LAt.cells {w : World} {pb : Nat} {u d : Int} {A : Option Addr} {c n : Nat} {zs : List Int} {W : World} (h : LAt w pb u d A c n zs W) : W.cell? ⟨pb, 0, none⟩ = some (.int .i64 u) ∧ W.cell? ⟨pb, 1, none⟩ = some (.int .i64 d) :=
  ⟨(struct_at h.box).1, (struct_at h.box).2.1⟩
/-- A fraction put into a block of its own. -/
theorem boxU (x y : Int) (w1 : World) :
    ∃ W r, Hid (w1.alloc (.cells #[.int .i64 x, .int .i64 y] 30) = W) ∧ Hid (w1.heap.size = r) ∧ Hid (W.heap[r]? = some (.cells #[.int .i64 x, .int .i64 y] 30 (0, 0))) ∧ Hid (Below w1.heap.size w1 W) ∧ Hid (W.heap.size = r + 1) :=
  ⟨_, _, rfl, rfl, heap_alloc_new w1 _, (Below.refl _ _).alloc (Nat.le_refl _) _, size_alloc1 _ _⟩
theorem bsQ_some {zs : List Int} {k far u d : Int} (h : (bsQ zs k far u d).length ≠ 0) : vsB zs k far u d = true := by
  by_cases hv : vsB zs k far u d = true
  · exact hv
  · rw [bsQ_no (by simpa using hv)] at h; simp at h
theorem gdQ_some {zs : List Int} {k far u d : Int} (h : (gdQ zs k far u d).length ≠ 0) : vsB zs k far u d = true := by
  by_cases hv : vsB zs k far u d = true
  · exact hv
  · rw [gdQ_no (by simpa using hv)] at h; simp at h
theorem bsQ_len10 (zs : List Int) (k far u d : Int) : (bsQ zs k far u d).length ≤ 10 := by
  by_cases h : vsB zs k far u d = true
  · obtain ⟨v1, v2, v3, v4, v5, K, U, D, rfl, v6, rfl, rfl, v7, v8, v9⟩ := vsB_get h
    rw [bsQ_yes h, (spL_len (bstL_mem (vh_asc v1) v2 K)).1]; omega
  · rw [bsQ_no (by simpa using h)]; simp
theorem gdQ_len10 (zs : List Int) (k far u d : Int) : (gdQ zs k far u d).length ≤ 10 := by
  by_cases h : vsB zs k far u d = true
  · obtain ⟨v1, v2, v3, v4, v5, K, U, D, rfl, v6, rfl, rfl, v7, v8, v9⟩ := vsB_get h
    rw [gdQ_yes h, (gdL_asc _ v2 K).2.1]; omega
  · rw [gdQ_no (by simpa using h)]; simp
/-- The same homes and chance, another number of helpers. -/
theorem vsB_k {zs : List Int} {k k' far u d : Int} (h : vsB zs k far u d = true) (h0 : 0 ≤ k') (h4 : k' ≤ 4) : vsB zs k' far u d = true := by
  simp only [vsB, Bool.and_eq_true, decide_eq_true_eq] at h ⊢
  exact ⟨h.1, h.2.1, h.2.2.1, h0, h4, h.2.2.2.2.2⟩
theorem SpC.row {F : Nat} {ans : List Int → Int → Int → Int → Int → List Int} (h : SpC F ans) {zs xs : List Int} {k far u d : Int} {L : Nat} (hx : ans zs k far u d = xs) (hL : xs.length = L) (h10 : L ≤ 10) (A : Option Addr) (c n : Nat) (W : World) (hp : PIn W A c n zs) :
    Calls Try.prog F #[.slice A n c, .int .i64 k, .int .i64 far, .agg #[.int .i64 u, .int .i64 d]] W (RowP xs L W) :=
  (h A c n zs k far u d W hp).mono fun e w' hr => by rw [hx] at hr; exact hr.pinU hL (by omega)
end Go.Proofs.Ythphboeboiallab
