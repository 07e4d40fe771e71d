/-
  The drawn arguments of the laws on trees: a tree alone.
  Conditions: none beyond what each theorem states.
-/
import Derived.Test.YtoappopbjnlbdabG5
namespace Go.Proofs.Ytoappopbjnlbdab
open Go.ChangeShapes Go.WideShapes Go.ChangeAt Go.RowKit
set_option linter.unusedVariables false

theorem rdR_own {w : World} {B n : Nat} {v : Value} {ts : List (Int × Int)} (h : w.ownsRow B 34 2 v n ((flat ts).map (Value.int .i64))) (hn : ts.length = n) :
    ∃ A c, v = .slice A n c ∧ n ≤ c ∧ c ≤ 9223372036854775807 ∧ RdR w w.heap.size A ts := by
  have h0 := h
  rcases h.2 with ⟨rfl, rfl⟩ | ⟨g, cap, cur, rfl, _, _, hnc, hmx, _⟩
  · refine ⟨none, 0, rfl, Nat.le_refl _, by omega, fun hp => ?_⟩
    rw [flat_len] at hp; omega
  · exact ⟨_, cap, rfl, hnc, hmx, rdI_of_ownN h0 (by rw [flat_len, hn])⟩
def DrawnTree (w : World) (e : Ending) (w' : World) : Prop :=
  ∃ A c, ∃ ts : List (Int × Int), e = .returned (.slice A ts.length c) ∧ ts.length ≤ 7 ∧ ts.length ≤ c ∧ c ≤ 9223372036854775807 ∧ RdR w' w'.heap.size A ts ∧ Below w.heap.size w w'

theorem drawValidTree_any (A : Option Addr) (c n : Nat) (bs : List Int) (w : World) (hr : RdB w w.heap.size A bs) (hn : bs.length = n) (hc : n ≤ c) (hm : c ≤ 9223372036854775807) :
    Calls Try.prog 13 #[.slice A n c] w (DrawnTree w) := by
  have H := Lib.hid (newReader_any A c n bs w hr hn hc hm)
  clear hn
  go_enter Try.func13, Try.ntmps13
  go_wp2_with fail
  refine H.out.mono ?_
  rintro e w1 ⟨rfl, hg1, hnx1⟩
  go_wp2_with fail
  refine (someTree_any w.heap.size w.heap.size 0 w1 hg1 (by omega)).mono ?_
  rintro e w2 ⟨v, ts, rfl, hl, hown, hg2, hgb2⟩
  obtain ⟨A', c', rfl, hc1, hc2, hrd⟩ := rdR_own hown rfl
  go_wp2
  go_ret
  exact ⟨A', c', ts, rfl, hl, hc1, hc2, hrd, hnx1.trans (gb_below hgb2 (Nat.le_refl _) hnx1.size)⟩
end Go.Proofs.Ytoappopbjnlbdab
