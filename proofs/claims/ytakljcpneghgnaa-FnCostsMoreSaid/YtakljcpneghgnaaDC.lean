/-
  The drawn arguments of the laws on costs.
  Conditions: none beyond what each theorem states.
-/
import Derived.Test.YtakljcpneghgnaaGC
import Derived.Test.YtakljcpneghgnaaCV
namespace Go.Proofs.Ytakljcpneghgnaa
open Go.ChangeShapes Go.WideShapes Go.ChangeAt Go.RowKit
set_option linter.unusedVariables false

def DrawnCost (w : World) (e : Ending) (w' : World) : Prop :=
  ∃ A c n, ∃ cost : List (List Int), e = .returned (.slice A n c) ∧ n ≤ 6 ∧ Hid (CostIn w' A c n cost) ∧ Hid (Below w.heap.size w w')
theorem drawnCost_of {w w1 w2 : World} {B R k : Nat} {e : Ending} (hnx : Below w.heap.size w w1) (hR : R = w.heap.size) (h : RowsPost B R k w1 e w2) (hR1 : R < w1.heap.size) : DrawnCost w e w2 := by
  obtain ⟨v, n, rfl, hn, hg, hb⟩ := h
  obtain ⟨A, c, L, rfl, hc, hm, hl, h8, hrd⟩ := hg.read (by omega)
  exact ⟨A, c, n, L, rfl, hn, ⟨hrd, hl, ⟨hc, hm⟩, by rw [hl]; omega, fun i hi => by have := h8 i (by omega); omega⟩, hnx.trans (gb_below hb (by omega) (by omega))⟩

theorem drawValidCosts_any (A : Option Addr) (c n : Nat) (bs : List Int) (w : World) (hr : RdB w w.heap.size A bs) (hn : bs.length = n) (hc : n ≤ c) (hm : c ≤ 9223372036854775807) :
    Calls Try.prog 27 #[.slice A n c] w (DrawnCost w) := by
  have H := Lib.hid (newReader_any A c n bs w hr hn hc hm)
  clear hn
  go_enter Try.func27, Try.ntmps27
  go_wp2_with fail
  refine H.out.mono ?_
  rintro e w1 ⟨rfl, hg1, hnx1⟩
  have hlt := hg1.lt
  go_wp2_with fail
  refine (someCosts_any w.heap.size w.heap.size 0 7 w1 hg1 (by omega) (by omega)).mono ?_
  intro e w2 h2
  obtain ⟨A', c', n', cost, rfl, hn6, hin, hb⟩ := drawnCost_of hnx1 rfl h2 hlt
  go_wp2
  go_ret
  exact ⟨A', c', n', cost, rfl, hn6, hin, hb⟩

theorem drawLeastCost_any (A : Option Addr) (c n : Nat) (bs : List Int) (w : World) (hr : RdB w w.heap.size A bs) (hn : bs.length = n) (hc : n ≤ c) (hm : c ≤ 9223372036854775807) :
    Calls Try.prog 31 #[.slice A n c] w (DrawnCost w) := by
  have H := Lib.hid (newReader_any A c n bs w hr hn hc hm)
  clear hn
  go_enter Try.func31, Try.ntmps31
  go_wp2_with fail
  refine H.out.mono ?_
  rintro e w1 ⟨rfl, hg1, hnx1⟩
  have hlt := hg1.lt
  go_wp2_with fail
  refine (someCosts_any w.heap.size w.heap.size 0 7 w1 hg1 (by omega) (by omega)).mono ?_
  intro e w2 h2
  obtain ⟨A', c', n', cost, rfl, hn6, hin, hb⟩ := drawnCost_of hnx1 rfl h2 hlt
  go_wp2
  go_ret
  exact ⟨A', c', n', cost, rfl, hn6, hin, hb⟩

theorem drawCostTried_any (A : Option Addr) (c n : Nat) (bs : List Int) (w : World) (hr : RdB w w.heap.size A bs) (hn : bs.length = n) (hc : n ≤ c) (hm : c ≤ 9223372036854775807) :
    Calls Try.prog 35 #[.slice A n c] w (DrawnCost w) := by
  have H := Lib.hid (newReader_any A c n bs w hr hn hc hm)
  clear hn
  go_enter Try.func35, Try.ntmps35
  go_wp2_with fail
  refine H.out.mono ?_
  rintro e w1 ⟨rfl, hg1, hnx1⟩
  have hlt := hg1.lt
  go_wp2_with fail
  refine (someCosts_any w.heap.size w.heap.size 0 6 w1 hg1 (by omega) (by omega)).mono ?_
  intro e w2 h2
  obtain ⟨A', c', n', cost, rfl, hn6, hin, hb⟩ := drawnCost_of hnx1 rfl h2 hlt
  go_wp2
  go_ret
  exact ⟨A', c', n', cost, rfl, hn6, hin, hb⟩
end Go.Proofs.Ytakljcpneghgnaa
