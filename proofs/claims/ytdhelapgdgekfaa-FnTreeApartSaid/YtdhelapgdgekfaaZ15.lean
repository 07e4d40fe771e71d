/-
  The drawn arguments of the laws on trees: a tree alone.
  Conditions: none beyond what each theorem states.
  How far drawn.
  Conditions: none beyond what each theorem states.
-/
import Derived.Test.YtdhelapgdgekfaaZ10
import Derived.Test.YtdhelapgdgekfaaZ9
namespace Go.Proofs.Ytdhelapgdgekfaa
open Go.ChangeShapes Go.WideShapes Go.ChangeAt Go.RowKit
set_option linter.unusedVariables false

theorem rdR_own {w : World} {B n : Nat} {v : Value} {ts : List (Int × Int)} (h : w.ownsRow B 42 2 v n ((flat ts).map (Value.int .i64))) (hn : ts.length = n) :
    ∃ A c, v = .slice A n c ∧ n ≤ c ∧ c ≤ 9223372036854775807 ∧ RdR w w.heap.size A ts := by
  have h0 := h
  rcases h.2 with ⟨rfl, rfl⟩ | ⟨g, cap, cur, rfl, _, _, hnc, hmx, _⟩
  · refine ⟨none, 0, rfl, Nat.le_refl _, by omega, fun hp => ?_⟩
    rw [flat_len] at hp; omega
  · exact ⟨_, cap, rfl, hnc, hmx, rdI_of_ownN h0 (by rw [flat_len, hn])⟩
def DrawnTree (w : World) (e : Ending) (w' : World) : Prop :=
  ∃ A c, ∃ ts : List (Int × Int), e = .returned (.slice A ts.length c) ∧ ts.length ≤ 7 ∧ ts.length ≤ c ∧ c ≤ 9223372036854775807 ∧ RdR w' w'.heap.size A ts ∧ Below w.heap.size w w'

theorem drawValidTree_any (A : Option Addr) (c n : Nat) (bs : List Int) (w : World) (hr : RdB w w.heap.size A bs) (hn : bs.length = n) (hc : n ≤ c) (hm : c ≤ 9223372036854775807) :
    Calls Try.prog 30 #[.slice A n c] w (DrawnTree w) := by
  have H := Lib.hid (newReader_any A c n bs w hr hn hc hm)
  clear hn
  go_enter Try.func30, Try.ntmps30
  go_wp2_with fail
  refine H.out.mono ?_
  rintro e w1 ⟨rfl, hg1, hnx1⟩
  go_wp2_with fail
  refine (someTree_any w.heap.size w.heap.size 0 w1 hg1 (by omega)).mono ?_
  rintro e w2 ⟨v, ts, rfl, hl, hown, hg2, hgb2⟩
  obtain ⟨A', c', rfl, hc1, hc2, hrd⟩ := rdR_own hown rfl
  go_wp2
  go_ret
  exact ⟨A', c', ts, rfl, hl, hc1, hc2, hrd, hnx1.trans (gb_below hgb2 (Nat.le_refl _) hnx1.size)⟩
end Go.Proofs.Ytdhelapgdgekfaa
namespace Go.Proofs.Ytdhelapgdgekfaa
open Go.ChangeShapes Go.WideShapes Go.ChangeAt Go.RowKit
set_option linter.unusedVariables false
set_option maxRecDepth 4000

set_option maxHeartbeats 400000 in
theorem aFar_any (R B k : Nat) (w : World) (hg : GR w B R k) (hk : k ≤ 90000) :
    Calls Try.prog 63 #[.pointer (some ⟨R, 0, none⟩)] w (OnePost B R k (-1) 51 w) := by
  go_enter Try.func63, Try.ntmps63
  go_wp2_with fail
  refine (oneLit R B k [2, 3, 1, 5, 0, 4, 8, 12, 50, 51, -1] 11 (-1) 51 w _ hg (by omega) rfl (by omega) (by omega) rfl (by decide)).mono ?_
  rintro e w2 ⟨m, rfl, hm2, hm3, hg2, hgr2⟩
  go_wp2
  go_ret
  exact ⟨m, rfl, hm2, hm3, hg2, hgr2⟩
end Go.Proofs.Ytdhelapgdgekfaa
