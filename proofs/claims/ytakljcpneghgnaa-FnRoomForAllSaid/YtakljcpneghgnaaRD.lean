/-
  Rows of ints while they are drawn: rows appended to rows.
  Conditions: none beyond what each theorem states.
-/
import Derived.Test.YtakljcpneghgnaaGL
import Derived.Test.YtakljcpneghgnaaUG
import Derived.Test.YtakljcpneghgnaaV5
import Derived.Test.YtakljcpneghgnaaWB
namespace Go.Proofs.Ytakljcpneghgnaa
open Go.ChangeShapes Go.WideShapes Go.ChangeAt Go.RowKit
set_option linter.unusedVariables false
set_option maxRecDepth 4000

theorem grownBy_set (w : World) (a : Addr) (u : Value) : w.grownBy (w.setCell a u) (some a.block) :=
  ⟨rfl, rfl, rfl, by simp [World.setCell], fun i hi hne => Below.heap_setCell w _ _ i (by rintro rfl; exact hne rfl)⟩
theorem grown_undrew {w w' : World} {row : Option Nat} (h : w.drew.grownBy w' row) : w.grownBy w' row := ⟨h.os, h.tape, h.output, h.size, h.block⟩
/-- A row of ints in a block of ints. -/
def GRow (w : World) (B : Nat) (v : Value) : Prop :=
  ∃ b off n c cs, B ≤ b ∧ v = .slice (some ⟨b, off, none⟩) n c ∧ n ≤ 8 ∧ n ≤ c ∧ c ≤ 9223372036854775807 ∧ w.heap[b]? = some (.cells cs 3 (0, 0)) ∧ ∀ j, j < n → ∃ x, cs[off + j]? = some (.int .i64 x)
theorem GRow.block {w w' : World} {B : Nat} {v : Value} (h : GRow w B v) (hk : ∀ (b : Nat) (cs : Array Value), w.heap[b]? = some (Obj.cells cs 3 (0, 0)) → w'.heap[b]? = w.heap[b]?) : GRow w' B v := by
  obtain ⟨b, off, n, c, cs, hB, e, h8, hc, hm, hb, hx⟩ := h
  exact ⟨b, off, n, c, cs, hB, e, h8, hc, hm, (hk b cs hb).trans hb, hx⟩
theorem GRow.alloc {w : World} {B : Nat} {v : Value} (h : GRow w B v) (o : Obj) : GRow (w.alloc o) B v := h.block fun b cs hb => Below.heap_alloc w o b (Array.getElem?_eq_some_iff.1 hb).1
/-- A write into a row of other elements leaves it. -/
theorem GRow.grown {w w' : World} {row : Option Nat} {B : Nat} {v : Value} (h : GRow w B v) (hg : w.grownBy w' row) (hr : ∀ g, row = some g → ∀ cs, w.heap[g]? ≠ some (Obj.cells cs 3 (0, 0))) : GRow w' B v :=
  h.block fun b cs hb => hg.block b (Array.getElem?_eq_some_iff.1 hb).1 (fun e => hr b e.symm cs hb)
/-- What is written into the reader, or into a block that is newer, leaves it. -/
theorem GRow.drawn {w w' : World} {B' R k : Nat} {B : Nat} {v : Value} (h : GRow w B v) (hr : GR w B' R k) (hg : w.grownBy w' (some R)) : GRow w' B v :=
  h.grown hg fun g e cs hc => by
    injection e with e
    subst e
    obtain ⟨A, c, bs, p, -, hh, -⟩ := hr
    exact types_apart hh hc (by decide) rfl
theorem GRow.set {w : World} {B : Nat} {v : Value} {g j : Nat} {x : Int} (h : GRow w B v) : GRow (w.setCell ⟨g, j, none⟩ (.int .i64 x)) B v := by
  obtain ⟨b, off, n, c, cs, hB, e, h8, hc, hm, hb, hx⟩ := h
  by_cases hbg : b = g
  · subst hbg
    refine ⟨b, off, n, c, cs.set! j (.int .i64 x), hB, e, h8, hc, hm, ?_, fun i hi => ?_⟩
    · simp [World.setCell, Array.getElem?_modify, hb]
    · obtain ⟨y, hy⟩ := hx i hi
      by_cases hj : off + i = j
      · subst hj
        exact ⟨x, by simp [(Array.getElem?_eq_some_iff.1 hy).1]⟩
      · exact ⟨y, by simp only [Array.set!_eq_setIfInBounds]; rw [Array.getElem?_setIfInBounds_ne (by omega)]; exact hy⟩
  · exact ⟨b, off, n, c, cs, hB, e, h8, hc, hm, by rw [Below.heap_setCell w _ _ b hbg]; exact hb, hx⟩
/-- Another row of rows is written. -/
theorem GRow.store {w : World} {B : Nat} {v u : Value} {g j : Nat} {cs : Array Value} {ty : TypeId} (h : GRow w B v) (hc : w.heap[g]? = some (.cells cs ty (0, 0))) (hne : ty ≠ 3) : GRow (w.setCell ⟨g, j, none⟩ u) B v :=
  h.block fun b cs' hb => Below.heap_setCell w _ _ b fun e => by
    subst e
    exact types_apart hc hb hne rfl
theorem GRow.tail {w : World} {B b off n c : Nat} (h : GRow w B (.slice (some ⟨b, off, none⟩) n c)) (hn : 0 < n) : GRow w B (.slice (some ⟨b, off + 1, none⟩) (n - 1) (c - 1)) ∧ (n = 1 → GRow w B (.slice (some ⟨b, off, none⟩) (n - 1) (c - 1))) := by
  obtain ⟨b', off', n', c', cs, hB, e, h8, hc, hm, hb, hx⟩ := h
  injection e with e1 e2 e3
  injection e1 with e1
  injection e1 with e1 e4
  subst e1 e2 e3 e4
  refine ⟨⟨b, off + 1, n - 1, c - 1, cs, hB, rfl, by omega, by omega, by omega, hb, fun j hj => ?_⟩, fun h1 => ⟨b, off, n - 1, c - 1, cs, hB, rfl, by omega, by omega, by omega, hb, fun j hj => by omega⟩⟩
  rw [show off + 1 + j = off + (j + 1) by omega]
  exact hx (j + 1) (by omega)
/-- A row that is not empty: its cells. -/
theorem GRow.cell {w : World} {B b off n c : Nat} (h : GRow w B (.slice (some ⟨b, off, none⟩) n c)) {j : Nat} (hj : j < n) : (∃ x, w.cell? ⟨b, off + j, none⟩ = some x) ∧ w.frozen? ⟨b, off + j, none⟩ = false ∧ B ≤ b ∧ ∃ cs, w.heap[b]? = some (.cells cs 3 (0, 0)) := by
  obtain ⟨b', off', n', c', cs, hB, e, h8, hc, hm, hb, hx⟩ := h
  injection e with e1 e2 e3
  injection e1 with e1
  injection e1 with e1 e4
  subst e1 e2 e3 e4
  obtain ⟨x, hx⟩ := hx j hj
  exact ⟨⟨_, by rw [cell_of_row _ _ _ _ _ _ hb]; exact hx⟩, frozen_of_row _ _ _ _ _ hb, hB, cs, hb⟩
/-- A row as it is read. -/
def rowOf (w : World) : Value → List Int
  | .slice (some a) n _ => (List.range n).map fun j => match w.cell? (a.add j) with | some (.int _ x) => x | _ => 0
  | _ => []
theorem GRow.cell0 {w : World} {B b off n c : Nat} (h : GRow w B (.slice (some ⟨b, off, none⟩) n c)) (hj : 0 < n) : (∃ x, w.cell? ⟨b, off, none⟩ = some x) ∧ w.frozen? ⟨b, off, none⟩ = false ∧ B ≤ b ∧ ∃ cs, w.heap[b]? = some (.cells cs 3 (0, 0)) := h.cell (j := 0) hj
theorem GRow.read {w : World} {B : Nat} {v : Value} (h : GRow w B v) : ∃ b off c, v = .slice (some ⟨b, off, none⟩) (rowOf w v).length c ∧ (rowOf w v).length ≤ 8 ∧ (rowOf w v).length ≤ c ∧ c ≤ 9223372036854775807 ∧ RdI w w.heap.size (some ⟨b, off, none⟩) (rowOf w v) := by
  obtain ⟨b, off, n, c, cs, -, rfl, h8, hc, hm, hb, hx⟩ := h
  have hl : (rowOf w (.slice (some ⟨b, off, none⟩) n c)).length = n := by simp [rowOf]
  refine ⟨b, off, c, by rw [hl], by omega, by omega, hm, fun _ => ⟨b, off, rfl, (Array.getElem?_eq_some_iff.1 hb).1, fun i hi => ?_⟩⟩
  rw [hl] at hi
  obtain ⟨x, hx⟩ := hx i hi
  have hce : w.cell? ⟨b, off + i, none⟩ = some (.int .i64 x) := by rw [cell_of_row _ _ _ _ _ _ hb]; exact hx
  rw [hce]
  simp [rowOf, List.getD, hi, addr_addV, hce]
/-- Rows of ints that are appended to one another. -/
def GRows (w : World) (B : Nat) (v : Value) (n : Nat) (P : Value → Prop) : Prop :=
  ∃ vs, w.ownsRow B 23 1 v n vs ∧ ∀ u, u ∈ vs → GRow w B u ∧ P u
theorem own_notInt {w : World} {B n : Nat} {v : Value} {xs : List Value} (h : w.ownsRow B 23 1 v n xs) : ∀ g, v.ownBlock = some g → ∀ cs, w.heap[g]? ≠ some (Obj.cells cs 3 (0, 0)) := by
  intro g hg cs hcs
  obtain ⟨⟨cs', hc'⟩, -⟩ := own_heap h hg
  exact types_apart hcs hc' (by decide) rfl
theorem GRows.drawn {w w' : World} {B B' R k n : Nat} {v : Value} {P : Value → Prop} (h : GRows w B v n P) (hr : GR w B' R k) (hg : w.grownBy w' (some R)) (hR : R < B) : GRows w' B v n P := by
  obtain ⟨vs, ho, hv⟩ := h
  exact ⟨vs, ho.kept hg (.inr (fun e => by have := (ho.lt R e).1; omega)), fun u hu => ⟨(hv u hu).1.drawn hr hg, (hv u hu).2⟩⟩
theorem GRows.weaken {w : World} {B n : Nat} {v : Value} {P Q : Value → Prop} (h : GRows w B v n P) (hp : ∀ u, P u → Q u) : GRows w B v n Q := by
  obtain ⟨vs, ho, hv⟩ := h
  exact ⟨vs, ho, fun u hu => ⟨(hv u hu).1, hp u (hv u hu).2⟩⟩
/-- What is written into an older block leaves them. -/
theorem GRows.aside {w w' : World} {B n : Nat} {v : Value} {P : Value → Prop} {row : Option Nat} (h : GRows w B v n P) (hg : w.grownBy w' row) (hr : ∀ g, row = some g → g < B) : GRows w' B v n P := by
  obtain ⟨vs, ho, hv⟩ := h
  refine ⟨vs, ho.kept hg ?_, fun u hu => ⟨?_, (hv u hu).2⟩⟩
  · rcases e : v.ownBlock with _ | g
    · exact .inl rfl
    · right
      intro e2
      have := hr g e2.symm
      have := (ho.lt g e).1
      omega
  · obtain ⟨b, off, n', c, cs, hB, e, h8, hc, hm, hb, hx⟩ := (hv u hu).1
    refine ⟨b, off, n', c, cs, hB, e, h8, hc, hm, (hg.block b (Array.getElem?_eq_some_iff.1 hb).1 (fun e => ?_)).trans hb, hx⟩
    have := hr b e.symm
    omega
/-- One more row. -/
theorem gRows_push {w w3 : World} {B n : Nat} {v v' u : Value} {P : Value → Prop} {vs : List Value} (ho : w.ownsRow B 23 1 v n vs) (hv : ∀ u, u ∈ vs → GRow w B u ∧ P u) (hu : GRow w B u) (hp : P u) (hgrow : (w.alloc (.cells #[u] 23)).grownBy w3 v.ownBlock)
    (ho3 : w3.ownsRow B 23 1 v' (n + 1) (vs ++ [u])) : GRows w3 B v' (n + 1) P := by
  refine ⟨vs ++ [u], ho3, fun x hx => ?_⟩
  have hx' : GRow w B x ∧ P x := by
    rcases List.mem_append.1 hx with h1 | h1
    · exact hv x h1
    · rw [List.mem_singleton.1 h1]; exact ⟨hu, hp⟩
  exact ⟨(hx'.1.alloc _).grown hgrow (own_notInt (ho.alloc _)), hx'.2⟩
/-- A number of a row changed. -/
theorem GRows.set {w : World} {B n b j : Nat} {v : Value} {x : Int} {P : Value → Prop} {cs : Array Value} (h : GRows w B v n P) (hb : w.heap[b]? = some (.cells cs 3 (0, 0))) : GRows (w.setCell ⟨b, j, none⟩ (.int .i64 x)) B v n P := by
  obtain ⟨vs, ho, hv⟩ := h
  refine ⟨vs, ownsRow_setCell_other ho (fun e => ?_) _, fun u hu => ⟨(hv u hu).1.set, (hv u hu).2⟩⟩
  exact own_notInt ho b e cs hb
/-- A row taken for another one. -/
theorem GRows.put {w : World} {B n j g c : Nat} {u : Value} {P Q : Value → Prop} (h : GRows w B (.slice (some ⟨g, 0, none⟩) n c) n P) (hu : GRow w B u) (hq : Q u) (hp : ∀ u, P u → Q u) : GRows (w.setCell ⟨g, j, none⟩ u) B (.slice (some ⟨g, 0, none⟩) n c) n Q := by
  obtain ⟨vs, ho, hvs⟩ := h
  obtain ⟨⟨cs, hc⟩, -⟩ := own_heap ho (g := g) rfl
  refine ⟨vs.set j u, (ho.stored j u).1, fun x hx => ?_⟩
  rcases List.mem_or_eq_of_mem_set hx with h1 | h1
  · exact ⟨(hvs x h1).1.store hc (by decide), hp x (hvs x h1).2⟩
  · rw [h1]; exact ⟨hu.store hc (by decide), hq⟩
/-- A row of them, as it lies there. -/
theorem GRows.at_ {w : World} {B n g c j : Nat} {P : Value → Prop} (h : GRows w B (.slice (some ⟨g, 0, none⟩) n c) n P) (hj : j < n) : ∃ b off m c', w.cell? ⟨g, j, none⟩ = some (.slice (some ⟨b, off, none⟩) m c') ∧ w.frozen? ⟨g, j, none⟩ = false ∧ m ≤ c' ∧ c' ≤ 9223372036854775807 ∧ GRow w B (.slice (some ⟨b, off, none⟩) m c') ∧ P (.slice (some ⟨b, off, none⟩) m c') ∧ B ≤ g := by
  obtain ⟨vs, ho, hvs⟩ := h
  have hl : vs.length = n := by have := ho.1; omega
  have hm : vs.getD j .nilIface ∈ vs := by simp [List.getD, List.getElem?_eq_getElem (show j < vs.length by omega)]
  obtain ⟨hg, hp⟩ := hvs _ hm
  obtain ⟨b, off, m, c', cs, hB, e, h8, hc, hmx, hb, hx⟩ := hg
  have hce : w.cell? ⟨g, j, none⟩ = some (vs.getD j .nilIface) := by
    rw [ho.cellAt j (by omega)]
    simp [List.getD, List.getElem?_eq_getElem (show j < vs.length by omega)]
  rw [e] at hce hp
  exact ⟨b, off, m, c', hce, ho.frozenAt j, hc, hmx, ⟨b, off, m, c', cs, hB, rfl, h8, hc, hmx, hb, hx⟩, hp, (ho.lt g rfl).1⟩
theorem GRows.apart {w : World} {B n g c b : Nat} {P : Value → Prop} {cs : Array Value} (h : GRows w B (.slice (some ⟨g, 0, none⟩) n c) n P) (hb : w.heap[b]? = some (.cells cs 3 (0, 0))) : g ≠ b := fun e => by
  obtain ⟨vs, ho, -⟩ := h
  subst e
  exact own_notInt ho g rfl cs hb
/-- All the rows as they are read. -/
theorem GRows.read {w : World} {B n : Nat} {v : Value} {P : Value → Prop} (h : GRows w B v n P) (hn : n ≤ 8) : ∃ A c, ∃ L : List (List Int), v = .slice A n c ∧ n ≤ c ∧ c ≤ 9223372036854775807 ∧ L.length = n ∧ (∀ i, i < n → (L.getD i []).length ≤ 8) ∧ RdV w w.heap.size A L := by
  obtain ⟨vs, ho, hv⟩ := h
  obtain ⟨A, c, rfl, hc, hm, hA⟩ := own_sliceN ho
  have hl : vs.length = n := by have := ho.1; omega
  have hg : ∀ i, i < n → (vs.map (rowOf w)).getD i [] = rowOf w (vs.getD i .nilIface) := fun i hi => by simp [List.getD, List.getElem?_eq_getElem (show i < vs.length by omega)]
  have hmem : ∀ i, i < n → vs.getD i .nilIface ∈ vs := fun i hi => by simp [List.getD, List.getElem?_eq_getElem (show i < vs.length by omega)]
  refine ⟨A, c, vs.map (rowOf w), rfl, hc, hm, by rw [List.length_map]; exact hl, fun i hi => ?_, fun hp => ?_⟩
  · obtain ⟨b, off, c, -, h8, -⟩ := (hv _ (hmem i hi)).1.read
    rw [hg i hi]; exact h8
  · rw [List.length_map, hl] at hp
    obtain ⟨g, rfl, hB, hlt⟩ := hA hp
    refine ⟨g, 0, rfl, hlt, fun i hi => ?_⟩
    rw [List.length_map, hl] at hi
    obtain ⟨b, off, c', e, h8, hc', hm', hrd⟩ := (hv _ (hmem i hi)).1.read
    refine ⟨some ⟨b, off, none⟩, c', ?_, by rw [hg i hi]; exact hc', hm', by rw [hg i hi]; exact hrd⟩
    rw [Nat.zero_add, ho.cellAt i (by omega), hg i hi, ← e]
    simp [List.getD, List.getElem?_eq_getElem (show i < vs.length by omega)]
/-- A row that is being drawn. -/
theorem gRow_own {w : World} {B B' n : Nat} {g c : Nat} {zs : List Int} (h : w.ownsRow B 3 1 (.slice (some ⟨g, 0, none⟩) n c) n (zs.map (Value.int .i64))) (hl : zs.length = n) (hn : n ≤ 8) (hB' : B' ≤ B) : GRow w B' (.slice (some ⟨g, 0, none⟩) n c) := by
  rcases h.2 with ⟨h1, -⟩ | ⟨g', cap, cur, e, hB, hg, hnc, hmx, hs, ht⟩
  · simp at h1
  · injection e with e1 e2 e3
    injection e1 with e1
    injection e1 with e1
    subst e1 e3
    refine ⟨g, 0, n, c, cur, by omega, rfl, hn, hnc, hmx, hg, fun j hj => ?_⟩
    have h1 : (List.take (n * 1) cur.toList)[j]? = (zs.map (Value.int .i64))[j]? := by rw [ht]
    rw [List.getElem?_take, if_pos (by omega), List.getElem?_map, List.getElem?_eq_getElem (show j < zs.length by omega)] at h1
    rw [Nat.zero_add, ← Array.getElem?_toList, h1]
    exact ⟨_, rfl⟩
end Go.Proofs.Ytakljcpneghgnaa
