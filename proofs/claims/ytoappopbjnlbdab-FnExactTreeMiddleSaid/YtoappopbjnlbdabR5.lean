/-
  A slice of roads (or of ints) that came in, as the frame of a law hands it over.
  Conditions: none.
-/
import Derived.Test.YtoappopbjnlbdabR1
import Derived.Test.YtoappopbjnlbdabOI
import Derived.Deep.SlicePairs
namespace Go.Proofs.Ytoappopbjnlbdab
open Go.ChangeShapes Go.WideShapes Go.ChangeAt Go.RowKit Go.Deep
set_option linter.unusedVariables false

def asInt : Value → Int
  | .int _ n => n
  | _ => 0
theorem cells_lroad : Try.prog.cellsOf 83 = 2 := by kernel_rfl
theorem cells_int1 : Try.prog.cellsOf 3 = 1 := by kernel_rfl
theorem addr_add2 {b off k : Nat} : (⟨b, off, none⟩ : Addr).add k = ⟨b, off + k, none⟩ := by unfold Addr.add; split <;> simp_all
theorem flat_range (f g : Nat → Int) : ∀ n i, i < n * 2 → (flat ((List.range n).map fun i => (f i, g i))).getD i 0 = if i % 2 = 0 then f (i / 2) else g (i / 2) := by
  intro n i hi
  have hl : i / 2 < n := by omega
  have hg : ((List.range n).map fun i => (f i, g i)).getD (i / 2) (-1, 0) = (f (i / 2), g (i / 2)) := by simp [List.getD, hl]
  by_cases h : i % 2 = 0
  · rw [if_pos h]
    have := flat_to ((List.range n).map fun i => (f i, g i)) (i / 2) (by simpa using hl)
    rw [hg, show i / 2 * 2 = i by omega] at this
    exact this
  · rw [if_neg h]
    have := flat_long ((List.range n).map fun i => (f i, g i)) (i / 2) (by simpa using hl)
    rw [hg, show i / 2 * 2 + 1 = i by omega] at this
    exact this
theorem open_roads {H : Type} {enc : TypeId × Value → H} {w : World} {base : Nat} {spare : Nat → Bool} {held : Bool} {fuel : Nat} {a : Option Addr} {len cap : Nat} {x : DataW H × List MemPlace}
    (h : DataW.trod enc Try.prog w base spare held fuel 43 [.slice a len cap] = some x) : ∃ ts, RdR w w.heap.size a ts ∧ ts.length = len ∧ ts.length ≤ maxLen := by
  rcases open_slice_pairs Try.underlying43 Try.underlying83 cells_lroad rfl rfl cells_int1 cells_int1 h with ⟨hc, hx⟩ | ⟨x, l, c, m, n, V0, V1, D0, D1, P0, P1, hc, _, hl, hm, hmm, hx, hall⟩
  · simp at hc
    obtain ⟨rfl, rfl, rfl⟩ := hc
    exact ⟨[], RdR.nil _ _ _, rfl, by simp⟩
  · simp at hc
    obtain ⟨rfl, rfl, rfl⟩ := hc
    have hlm : len ≤ m := by rw [hmm]; split <;> omega
    refine ⟨(List.range len).map fun i => (asInt (V0 i), asInt (V1 i)), ?_, by simp, by simp; omega⟩
    intro hp
    rw [flat_len, List.length_map, List.length_range] at hp
    obtain ⟨c0, c1, -, -⟩ := hall 0 (by omega)
    obtain ⟨b, off, spot⟩ := x
    have hspot : spot = none := by simpa [Addr.add] using World.cell?_spot c0
    subst hspot
    refine ⟨b, off, rfl, World.block_lt_of_cell? w _ (by simpa [Addr.add] using c0), fun i hi => ?_⟩
    rw [flat_len, List.length_map, List.length_range] at hi
    obtain ⟨e0, e1, t0, t1⟩ := hall (i / 2) (by omega)
    obtain ⟨n0, h0, -, -⟩ := DataW.trod_int Try.underlying3 t0
    obtain ⟨n1, h1, -, -⟩ := DataW.trod_int Try.underlying3 t1
    simp only [List.cons.injEq, and_true] at h0 h1
    rw [addr_add2, h0] at e0
    rw [addr_add2, h1] at e1
    rw [flat_range (fun i => asInt (V0 i)) (fun i => asInt (V1 i)) len i hi]
    by_cases h2 : i % 2 = 0
    · rw [if_pos h2, h0, show off + i = off + i / 2 * 2 by omega]; exact e0
    · rw [if_neg h2, h1, show off + i = off + (i / 2 * 2 + 1) by omega]; exact e1
end Go.Proofs.Ytoappopbjnlbdab
