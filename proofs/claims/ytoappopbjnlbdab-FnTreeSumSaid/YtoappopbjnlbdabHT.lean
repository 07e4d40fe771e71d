/-
  Tables that are made whole first and filled row by row; a row's element changed.
  Conditions: none beyond what each theorem states.
-/
import Derived.Test.YtoappopbjnlbdabUG
import Derived.OneCell
namespace Go.Proofs.Ytoappopbjnlbdab
open Go.ChangeShapes Go.WideShapes Go.ChangeAt Go.RowKit
set_option linter.unusedVariables false
set_option maxRecDepth 4000

def half (VR : Nat → Value) (k n : Nat) : List Value := (List.range n).map fun j => if j < k then VR j else .slice none 0 0
theorem half_get {VR : Nat → Value} {k n : Nat} {v : Value} (h : k < n) : (half VR k n).set k v = half (upd VR k v) (k + 1) n := by
  unfold half
  apply List.ext_getElem?
  intro i
  rw [List.getElem?_set]
  by_cases hi : i < n
  · by_cases e : k = i
    · subst e; simp [hi, upd_at]
    · by_cases hik : i < k
      · simp [hi, e, hik, upd_other VR v (fun h => e h.symm), show i < k + 1 by omega]
      · simp [hi, e, hik, show ¬ i < k + 1 by omega]
  · simp [hi]; omega
theorem half_all (VR : Nat → Value) (n : Nat) : half VR n n = (List.range n).map VR := List.map_congr_left fun i hi => if_pos (List.mem_range.1 hi)
theorem half_none (n : Nat) : (madeCells (Value.slice none 0 0).cells n).toList = half (fun _ => .slice none 0 0) 0 n := by
  rw [show (Value.slice none 0 0).cells = #[Value.slice none 0 0] from rfl, toList_madeCells_one]
  unfold half
  apply List.ext_getElem?
  intro i
  by_cases hi : i < n <;> simp [hi]
theorem ownN_base {w : World} {B B' n : Nat} {v : Value} {xs : List Value} (h : w.ownsRow B 3 1 v n xs) (hB : B' ≤ B) : w.ownsRow B' 3 1 v n xs := by
  obtain ⟨h1, h2⟩ := h
  refine ⟨h1, ?_⟩
  rcases h2 with h2 | ⟨g, cap, cur, hv, hg, r⟩
  · exact .inl h2
  · exact .inr ⟨g, cap, cur, hv, Nat.le_trans hB hg, r⟩
theorem ownG_base {w : World} {B B' n s : Nat} {e : TypeId} {v : Value} {xs : List Value} (h : w.ownsRow B e s v n xs) (hB : B' ≤ B) : w.ownsRow B' e s v n xs := by
  obtain ⟨h1, h2⟩ := h
  refine ⟨h1, ?_⟩
  rcases h2 with h2 | ⟨g, cap, cur, hv, hg, r⟩
  · exact .inl h2
  · exact .inr ⟨g, cap, cur, hv, Nat.le_trans hB hg, r⟩
theorem TT.base {w : World} {B B' m : Nat} {VR : Nat → Value} {ls : Nat → List Int} (h : TT w B m VR ls) (hB : B' ≤ B) : TT w B' m VR ls :=
  ⟨fun j hj => ownG_base (h.own j hj) hB, h.dis⟩
/-- A row stored into the table. -/
theorem tabH_step {wr wC : World} {B n k g : Nat} {VR : Nat → Value} {ls : Nat → List Int} {v : Value} (hk : k < n) (hB : B ≤ wr.heap.size) (hT : TT wr B k VR ls) (hO : wr.ownsRow B 27 1 (.slice (some ⟨g, 0, none⟩) n n) n (half VR k n))
    (hb : Below wr.heap.size wr wC) (hrow : wC.ownsRow wr.heap.size 3 1 v (ls k).length ((ls k).map (Value.int .i64))) :
    (∃ x, wC.cell? ⟨g, k, none⟩ = some x) ∧ wC.frozen? ⟨g, k, none⟩ = false ∧ (wC.setCell ⟨g, k, none⟩ v).ownsRow B 27 1 (.slice (some ⟨g, 0, none⟩) n n) n (half (upd VR k v) (k + 1) n) ∧
      TT (wC.setCell ⟨g, k, none⟩ v) B (k + 1) (upd VR k v) ls ∧ B ≤ g := by
  have hOC := ownN_below hO hb
  have hTC := hT.below hb
  obtain ⟨x, hx⟩ := own_cell hOC (j := k) (by omega) (by simp [half])
  obtain ⟨⟨cs, hc⟩, hgB, _⟩ := own_heap hOC (g := g) rfl
  have hst := (hOC.stored k v).1
  rw [half_get hk] at hst
  have hrow2 : (wC.setCell ⟨g, k, none⟩ v).ownsRow B 3 1 v (ls k).length ((ls k).map (Value.int .i64)) := ownN_base (ownsRow_setCell_other hrow (fun e => by
    obtain ⟨⟨cs', hc'⟩, _⟩ := own_heap hrow e
    exact types_apart hc hc' (by decide) rfl) _) hB
  refine ⟨⟨x, hx⟩, hOC.frozenAt k, hst, ⟨fun j hj => ?_, fun i j g' hi hj h1 h2 => ?_⟩, hgB⟩
  · by_cases e : j = k
    · subst e
      rw [upd_at]
      exact hrow2
    · rw [upd_other _ _ e]
      exact (hTC.store (g := g) (k := k) (v := v) hc (by decide)).own j (by omega)
  · have hlt : ∀ {i}, i < k → (VR i).ownBlock = some g' → g' < wr.heap.size := fun hi e => (own_heap (hT.own _ hi) e).2.2
    by_cases e1 : i = k <;> by_cases e2 : j = k
    · omega
    · rw [e1, upd_at] at h1; rw [upd_other _ _ e2] at h2
      have := (own_heap hrow h1).2.1
      have := hlt (by omega) h2; omega
    · rw [e2, upd_at] at h2; rw [upd_other _ _ e1] at h1
      have := (own_heap hrow h2).2.1
      have := hlt (by omega) h1; omega
    · rw [upd_other _ _ e1] at h1; rw [upd_other _ _ e2] at h2
      exact hT.dis i j g' (by omega) (by omega) h1 h2
/-- A row's element changed. -/
theorem TT.setAt {w : World} {B m R c n j : Nat} {VR : Nat → Value} {ls : Nat → List Int} (hT : TT w B m VR ls) (hj : j < m) (hl : (ls j).length = n) (he : VR j = .slice (some ⟨R, 0, none⟩) n c) (b : Nat) (x : Int) :
    TT (w.setCell ⟨R, b, none⟩ (.int .i64 x)) B m VR (upd ls j ((ls j).set b x)) ∧ B ≤ R := by
  have h1 := hT.own j hj
  rw [he, hl] at h1
  obtain ⟨⟨cs, hcs⟩, hB, -⟩ := own_heap h1 (g := R) rfl
  refine ⟨⟨fun i hi => ?_, hT.dis⟩, hB⟩
  by_cases e : i = j
  · subst e
    have h2 := (World.ownsRow.stored h1 b (.int .i64 x)).1
    rw [upd_at, he, List.length_set, hl]
    rw [← List.map_set] at h2
    exact h2
  · rw [upd_other _ _ e]
    exact ownsRow_setCell_other (hT.own i hi) (fun e' => e (hT.dis i j R hi hj e' (by rw [he]; rfl))) _
/-- The table itself is not touched by that. -/
theorem outer_setInt {w : World} {B n R b : Nat} {v : Value} {xs : List Value} {u : Value} (hO : w.ownsRow B 27 1 v n xs) {cs : Array Value} {z : Nat × Nat} (hR : w.heap[R]? = some (.cells cs 3 z)) : (w.setCell ⟨R, b, none⟩ u).ownsRow B 27 1 v n xs :=
  ownsRow_setCell_other hO (fun e => by
    obtain ⟨⟨cs', hc'⟩, _⟩ := own_heap hO e
    exact types_apart hR hc' (by decide) rfl) _
end Go.Proofs.Ytoappopbjnlbdab
