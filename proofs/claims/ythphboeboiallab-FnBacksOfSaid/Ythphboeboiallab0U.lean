/-
  Ints as a function is given them; rows of ints of the call's own.
  Conditions: fewer than 2^20 numbers.
-/
import Derived.Test.YthphboeboiallabUG
import Derived.Test.YthphboeboiallabGL
namespace Go.Proofs.Ythphboeboiallab
open Go.ChangeShapes Go.WideShapes Go.ChangeAt Go.RowKit
set_option linter.unusedVariables false
set_option maxRecDepth 4000

/-- Places as a function is given them. -/
structure PIn (w : World) (A : Option Addr) (c m : Nat) (zs : List Int) : Prop where
  rd : RdI w w.heap.size A zs
  len : zs.length = m
  cap : m ≤ c ∧ c ≤ 9223372036854775807
  most : m ≤ 1048576
theorem PIn.later {w w' : World} {A : Option Addr} {c m : Nat} {zs : List Int} (h : PIn w A c m zs) (hb : Below w.heap.size w w') : PIn w' A c m zs :=
  ⟨(h.rd.below hb).more hb.size, h.len, h.cap, h.most⟩
/-- A row of ints of the call's own. -/
def RowQ (xs : List Int) (w : World) (e : Ending) (w' : World) : Prop :=
  ∃ A' c', e = .returned (.slice A' xs.length c') ∧ Hid (w'.ownsRow w.heap.size 3 1 (.slice A' xs.length c') xs.length (xs.map (Value.int .i64))) ∧ Hid (Below w.heap.size w w')
/-- A row of ints of the call's own, of length L. -/
def OwnQ (wr : World) (B : Nat) (g c L : Nat) (xs : List Int) : Prop := xs.length = L ∧ wr.ownsRow B 3 1 (.slice (some ⟨g, 0, none⟩) L c) L (xs.map (Value.int .i64))
theorem ownQ_push {w3 : World} {B g3 c3 L : Nat} {xs : List Int} {x : Int} (h : xs.length = L) (ho : w3.ownsRow B 3 1 (.slice (some ⟨g3, 0, none⟩) (L + 1) c3) (L + 1) (xs.map (Value.int .i64) ++ [Value.int .i64 x])) : OwnQ w3 B g3 c3 (L + 1) (xs ++ [x]) :=
  ⟨by simp [h], by rw [List.map_append]; exact ho⟩
theorem own_lowQ {w : World} {B B' s n : Nat} {e : TypeId} {v : Value} {xs : List Value} (h : w.ownsRow B e s v n xs) (hB : B' ≤ B) : w.ownsRow B' e s v n xs := by
  refine ⟨h.1, ?_⟩
  rcases h.2 with h0 | ⟨g, cap, cur, h1, h2, h3⟩
  · exact .inl h0
  · exact .inr ⟨g, cap, cur, h1, by omega, h3⟩
theorem OwnQ.row {w wr : World} {B g c L : Nat} {xs : List Int} (h : OwnQ wr B g c L xs) (hB : w.heap.size ≤ B) (hb : Below w.heap.size w wr) : RowQ xs w (.returned (.slice (some ⟨g, 0, none⟩) L c)) wr := by
  obtain ⟨h1, h2⟩ := h
  subst h1
  exact ⟨_, _, rfl, own_lowQ h2 hB, hb⟩
theorem rowQ_nil (w w' : World) (h : Below w.heap.size w w') : RowQ [] w (.returned (.slice none 0 0)) w' := ⟨none, 0, rfl, World.ownsRow_nil _ _ _ _, h⟩
theorem RowQ.from {xs : List Int} {w w1 w2 : World} {e : Ending} (h : RowQ xs w1 e w2) (hb : Below w.heap.size w w1) : RowQ xs w e w2 := by
  obtain ⟨A', c', he, h1, h2⟩ := h
  exact ⟨A', c', he, own_lowQ h1.out hb.size, hb.trans (h2.out.mono hb.size)⟩
theorem below_drew0 {B : Nat} {a w : World} (h : Below B a w) (n : Nat) : Below B a (w.drewN n) := ⟨h.os, h.tape, h.output, h.size, h.block⟩
end Go.Proofs.Ythphboeboiallab
