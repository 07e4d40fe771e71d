/-
  The drawn arguments of the laws on lines: a list of at most ten numbers, and a number.
  Conditions: none beyond what each theorem states.
-/
import Derived.Test.YtoohfipicmdohabGH
import Derived.Test.YtoohfipicmdohabG3
import Derived.Test.YtoohfipicmdohabDM
namespace Go.Proofs.Ytoohfipicmdohab
open Go.ChangeShapes Go.WideShapes Go.ChangeAt Go.RowKit
set_option linter.unusedVariables false

theorem drawLeastSum_any (A : Option Addr) (c n : Nat) (bs : List Int) (w : World) (hr : RdB w w.heap.size A bs) (hn : bs.length = n) (hc : n ≤ c) (hm : c ≤ 9223372036854775807) :
    Calls Try.prog 15 #[.slice A n c] w (DrawnTwo w) := by
  have H := Lib.hid (newReader_any A c n bs w hr hn hc hm)
  clear hn
  go_enter Try.func15, Try.ntmps15
  go_wp2_with fail
  refine H.out.mono ?_
  rintro e w1 ⟨rfl, hg1, hnx1⟩
  go_wp2_with fail
  refine (someHomes_any w.heap.size w.heap.size 0 10 w1 hg1 (by omega) (by omega) (by omega)).mono ?_
  rintro e w2 ⟨v, xs, rfl, hl, hx, hown, hg2, hgb2⟩
  have hwo := hown.lt
  have Hwo := Lib.hid hwo
  have Hown := Lib.hid hown
  clear hwo hown
  go_wp2_with fail
  refine (helpers_any w.heap.size w.heap.size (0 + 40) w2 hg2 (by omega)).mono ?_
  rintro e w3 ⟨k, rfl, hk1, hk2, hg3, hgb3⟩
  have hown3 := Hown.out.kept hgb3 (.inr (fun e => by have := (Hwo.out _ e).1; have := hg1.lt; omega))
  obtain ⟨A', c', rfl, hc1, hc2, hrd⟩ := own_slice hown3 rfl
  go_wp2
  go_ret2
  exact ⟨A', c', xs, k, rfl, by omega, by omega, hl, hc1, hc2, hrd, hnx1.trans (gb_below (gb_trans hgb2 hgb3 (.inl rfl)) (Nat.le_refl _) hnx1.size)⟩

theorem drawSumTried_any (A : Option Addr) (c n : Nat) (bs : List Int) (w : World) (hr : RdB w w.heap.size A bs) (hn : bs.length = n) (hc : n ≤ c) (hm : c ≤ 9223372036854775807) :
    Calls Try.prog 20 #[.slice A n c] w (DrawnTwo w) := by
  have H := Lib.hid (newReader_any A c n bs w hr hn hc hm)
  clear hn
  go_enter Try.func20, Try.ntmps20
  go_wp2_with fail
  refine H.out.mono ?_
  rintro e w1 ⟨rfl, hg1, hnx1⟩
  go_wp2_with fail
  refine (someHomes_any w.heap.size w.heap.size 0 7 w1 hg1 (by omega) (by omega) (by omega)).mono ?_
  rintro e w2 ⟨v, xs, rfl, hl, hx, hown, hg2, hgb2⟩
  have hwo := hown.lt
  have Hwo := Lib.hid hwo
  have Hown := Lib.hid hown
  clear hwo hown
  go_wp2_with fail
  refine (helpers_any w.heap.size w.heap.size (0 + 40) w2 hg2 (by omega)).mono ?_
  rintro e w3 ⟨k, rfl, hk1, hk2, hg3, hgb3⟩
  have hown3 := Hown.out.kept hgb3 (.inr (fun e => by have := (Hwo.out _ e).1; have := hg1.lt; omega))
  obtain ⟨A', c', rfl, hc1, hc2, hrd⟩ := own_slice hown3 rfl
  go_wp2
  go_ret2
  exact ⟨A', c', xs, k, rfl, by omega, by omega, hl, hc1, hc2, hrd, hnx1.trans (gb_below (gb_trans hgb2 hgb3 (.inl rfl)) (Nat.le_refl _) hnx1.size)⟩

theorem drawLeastFar_any (A : Option Addr) (c n : Nat) (bs : List Int) (w : World) (hr : RdB w w.heap.size A bs) (hn : bs.length = n) (hc : n ≤ c) (hm : c ≤ 9223372036854775807) :
    Calls Try.prog 29 #[.slice A n c] w (DrawnTwo w) := by
  have H := Lib.hid (newReader_any A c n bs w hr hn hc hm)
  clear hn
  go_enter Try.func29, Try.ntmps29
  go_wp2_with fail
  refine H.out.mono ?_
  rintro e w1 ⟨rfl, hg1, hnx1⟩
  go_wp2_with fail
  refine (someHomes_any w.heap.size w.heap.size 0 10 w1 hg1 (by omega) (by omega) (by omega)).mono ?_
  rintro e w2 ⟨v, xs, rfl, hl, hx, hown, hg2, hgb2⟩
  have hwo := hown.lt
  have Hwo := Lib.hid hwo
  have Hown := Lib.hid hown
  clear hwo hown
  go_wp2_with fail
  refine (helpers_any w.heap.size w.heap.size (0 + 40) w2 hg2 (by omega)).mono ?_
  rintro e w3 ⟨k, rfl, hk1, hk2, hg3, hgb3⟩
  have hown3 := Hown.out.kept hgb3 (.inr (fun e => by have := (Hwo.out _ e).1; have := hg1.lt; omega))
  obtain ⟨A', c', rfl, hc1, hc2, hrd⟩ := own_slice hown3 rfl
  go_wp2
  go_ret2
  exact ⟨A', c', xs, k, rfl, by omega, by omega, hl, hc1, hc2, hrd, hnx1.trans (gb_below (gb_trans hgb2 hgb3 (.inl rfl)) (Nat.le_refl _) hnx1.size)⟩

theorem drawFewestNear_any (A : Option Addr) (c n : Nat) (bs : List Int) (w : World) (hr : RdB w w.heap.size A bs) (hn : bs.length = n) (hc : n ≤ c) (hm : c ≤ 9223372036854775807) :
    Calls Try.prog 22 #[.slice A n c] w (DrawnTwo w) := by
  have H := Lib.hid (newReader_any A c n bs w hr hn hc hm)
  clear hn
  go_enter Try.func22, Try.ntmps22
  go_wp2_with fail
  refine H.out.mono ?_
  rintro e w1 ⟨rfl, hg1, hnx1⟩
  go_wp2_with fail
  refine (someHomes_any w.heap.size w.heap.size 0 10 w1 hg1 (by omega) (by omega) (by omega)).mono ?_
  rintro e w2 ⟨v, xs, rfl, hl, hx, hown, hg2, hgb2⟩
  have hwo := hown.lt
  have Hwo := Lib.hid hwo
  have Hown := Lib.hid hown
  clear hwo hown
  go_wp2_with fail
  refine (aFar_any w.heap.size w.heap.size (0 + 40) w2 hg2 (by omega)).mono ?_
  rintro e w3 ⟨k, rfl, hk1, hk2, hg3, hgb3⟩
  have hown3 := Hown.out.kept hgb3 (.inr (fun e => by have := (Hwo.out _ e).1; have := hg1.lt; omega))
  obtain ⟨A', c', rfl, hc1, hc2, hrd⟩ := own_slice hown3 rfl
  go_wp2
  go_ret2
  exact ⟨A', c', xs, k, rfl, by omega, by omega, hl, hc1, hc2, hrd, hnx1.trans (gb_below (gb_trans hgb2 hgb3 (.inl rfl)) (Nat.le_refl _) hnx1.size)⟩

end Go.Proofs.Ytoohfipicmdohab
