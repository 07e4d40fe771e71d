/-
  The drawn arguments of the laws on nets.
  Conditions: none beyond what each theorem states.
-/
import Derived.Test.YtiblcmeoneolcaaBG
import Derived.Test.YtiblcmeoneolcaaGF
import Derived.Test.YtiblcmeoneolcaaGH
namespace Go.Proofs.Ytiblcmeoneolcaa
open Go.ChangeShapes Go.WideShapes Go.ChangeAt Go.RowKit
set_option linter.unusedVariables false

def DrawnNet (w : World) (e : Ending) (w' : World) : Prop :=
  ∃ n : Int, ∃ A c, ∃ ss : List Str, e = .returned (.tuple #[.int .i64 n, .slice A ss.length c]) ∧ 0 ≤ n ∧ n ≤ 8 ∧ ss.length ≤ 11 ∧ ss.length ≤ c ∧ c ≤ 9223372036854775807 ∧ RdS w' w'.heap.size A ss ∧ Below w.heap.size w w'
def DrawnNetK (w : World) (e : Ending) (w' : World) : Prop :=
  ∃ n : Int, ∃ A c, ∃ ss : List Str, ∃ k : Int, e = .returned (.tuple #[.int .i64 n, .slice A ss.length c, .int .i64 k]) ∧ 0 ≤ n ∧ n ≤ 8 ∧ -1 ≤ k ∧ k ≤ 51 ∧ ss.length ≤ 11 ∧ ss.length ≤ c ∧ c ≤ 9223372036854775807 ∧ RdS w' w'.heap.size A ss ∧ Below w.heap.size w w'

theorem drawValidNet_any (A : Option Addr) (c n : Nat) (bs : List Int) (w : World) (hr : RdB w w.heap.size A bs) (hn : bs.length = n) (hc : n ≤ c) (hm : c ≤ 9223372036854775807) :
    Calls Try.prog 42 #[.slice A n c] w (DrawnNet w) := by
  have H := Lib.hid (newReader_any A c n bs w hr hn hc hm)
  clear hn
  go_enter Try.func42, Try.ntmps42
  go_wp2_with fail
  refine H.out.mono ?_
  rintro e w1 ⟨rfl, hg1, hnx1⟩
  go_wp2_with fail
  refine (someNet_any w.heap.size w.heap.size 0 w1 hg1 (by omega)).mono ?_
  rintro e w2 ⟨m, v, ss, rfl, hm0, hm8, hl, hown, hg2, hgb2⟩
  obtain ⟨A', c', rfl, hc1, hc2, hrd⟩ := rdS_own hown rfl
  go_wp2
  go_ret2
  exact ⟨m, A', c', ss, rfl, hm0, hm8, hl, hc1, hc2, hrd, hnx1.trans (gb_below hgb2 (Nat.le_refl _) hnx1.size)⟩

theorem drawNetTable_any (A : Option Addr) (c n : Nat) (bs : List Int) (w : World) (hr : RdB w w.heap.size A bs) (hn : bs.length = n) (hc : n ≤ c) (hm : c ≤ 9223372036854775807) :
    Calls Try.prog 43 #[.slice A n c] w (DrawnNet w) := by
  have H := Lib.hid (newReader_any A c n bs w hr hn hc hm)
  clear hn
  go_enter Try.func43, Try.ntmps43
  go_wp2_with fail
  refine H.out.mono ?_
  rintro e w1 ⟨rfl, hg1, hnx1⟩
  go_wp2_with fail
  refine (someNet_any w.heap.size w.heap.size 0 w1 hg1 (by omega)).mono ?_
  rintro e w2 ⟨m, v, ss, rfl, hm0, hm8, hl, hown, hg2, hgb2⟩
  obtain ⟨A', c', rfl, hc1, hc2, hrd⟩ := rdS_own hown rfl
  go_wp2
  go_ret2
  exact ⟨m, A', c', ss, rfl, hm0, hm8, hl, hc1, hc2, hrd, hnx1.trans (gb_below hgb2 (Nat.le_refl _) hnx1.size)⟩

theorem drawNetByMiddles_any (A : Option Addr) (c n : Nat) (bs : List Int) (w : World) (hr : RdB w w.heap.size A bs) (hn : bs.length = n) (hc : n ≤ c) (hm : c ≤ 9223372036854775807) :
    Calls Try.prog 45 #[.slice A n c] w (DrawnNet w) := by
  have H := Lib.hid (newReader_any A c n bs w hr hn hc hm)
  clear hn
  go_enter Try.func45, Try.ntmps45
  go_wp2_with fail
  refine H.out.mono ?_
  rintro e w1 ⟨rfl, hg1, hnx1⟩
  go_wp2_with fail
  refine (someNet_any w.heap.size w.heap.size 0 w1 hg1 (by omega)).mono ?_
  rintro e w2 ⟨m, v, ss, rfl, hm0, hm8, hl, hown, hg2, hgb2⟩
  obtain ⟨A', c', rfl, hc1, hc2, hrd⟩ := rdS_own hown rfl
  go_wp2
  go_ret2
  exact ⟨m, A', c', ss, rfl, hm0, hm8, hl, hc1, hc2, hrd, hnx1.trans (gb_below hgb2 (Nat.le_refl _) hnx1.size)⟩

theorem drawNetCover_any (A : Option Addr) (c n : Nat) (bs : List Int) (w : World) (hr : RdB w w.heap.size A bs) (hn : bs.length = n) (hc : n ≤ c) (hm : c ≤ 9223372036854775807) :
    Calls Try.prog 46 #[.slice A n c] w (DrawnNetK w) := by
  have H := Lib.hid (newReader_any A c n bs w hr hn hc hm)
  clear hn
  go_enter Try.func46, Try.ntmps46
  go_wp2_with fail
  refine H.out.mono ?_
  rintro e w1 ⟨rfl, hg1, hnx1⟩
  go_wp2_with fail
  refine (someNet_any w.heap.size w.heap.size 0 w1 hg1 (by omega)).mono ?_
  rintro e w2 ⟨m, v, ss, rfl, hm0, hm8, hl, hown, hg2, hgb2⟩
  have hwo := hown.lt
  have Hwo := Lib.hid hwo
  have Hown := Lib.hid hown
  clear hwo hown
  go_wp2_with fail
  refine (aFar_any w.heap.size w.heap.size (0 + 40) w2 hg2 (by omega)).mono ?_
  rintro e w3 ⟨k, rfl, hk1, hk2, hg3, hgb3⟩
  have hown3 := Hown.out.kept hgb3 (.inr (fun e => by have := (Hwo.out _ e).1; have := hg1.lt; omega))
  obtain ⟨A', c', rfl, hc1, hc2, hrd⟩ := rdS_own hown3 rfl
  go_wp2
  go_ret3
  exact ⟨m, A', c', ss, k, rfl, hm0, hm8, by omega, by omega, hl, hc1, hc2, hrd, hnx1.trans (gb_below (gb_trans hgb2 hgb3 (.inl rfl)) (Nat.le_refl _) hnx1.size)⟩

theorem drawNetApart_any (A : Option Addr) (c n : Nat) (bs : List Int) (w : World) (hr : RdB w w.heap.size A bs) (hn : bs.length = n) (hc : n ≤ c) (hm : c ≤ 9223372036854775807) :
    Calls Try.prog 47 #[.slice A n c] w (DrawnNetK w) := by
  have H := Lib.hid (newReader_any A c n bs w hr hn hc hm)
  clear hn
  go_enter Try.func47, Try.ntmps47
  go_wp2_with fail
  refine H.out.mono ?_
  rintro e w1 ⟨rfl, hg1, hnx1⟩
  go_wp2_with fail
  refine (someNet_any w.heap.size w.heap.size 0 w1 hg1 (by omega)).mono ?_
  rintro e w2 ⟨m, v, ss, rfl, hm0, hm8, hl, hown, hg2, hgb2⟩
  have hwo := hown.lt
  have Hwo := Lib.hid hwo
  have Hown := Lib.hid hown
  clear hwo hown
  go_wp2_with fail
  refine (aFar_any w.heap.size w.heap.size (0 + 40) w2 hg2 (by omega)).mono ?_
  rintro e w3 ⟨k, rfl, hk1, hk2, hg3, hgb3⟩
  have hown3 := Hown.out.kept hgb3 (.inr (fun e => by have := (Hwo.out _ e).1; have := hg1.lt; omega))
  obtain ⟨A', c', rfl, hc1, hc2, hrd⟩ := rdS_own hown3 rfl
  go_wp2
  go_ret3
  exact ⟨m, A', c', ss, k, rfl, hm0, hm8, by omega, by omega, hl, hc1, hc2, hrd, hnx1.trans (gb_below (gb_trans hgb2 hgb3 (.inl rfl)) (Nat.le_refl _) hnx1.size)⟩

theorem drawNetFar_any (A : Option Addr) (c n : Nat) (bs : List Int) (w : World) (hr : RdB w w.heap.size A bs) (hn : bs.length = n) (hc : n ≤ c) (hm : c ≤ 9223372036854775807) :
    Calls Try.prog 48 #[.slice A n c] w (DrawnNetK w) := by
  have H := Lib.hid (newReader_any A c n bs w hr hn hc hm)
  clear hn
  go_enter Try.func48, Try.ntmps48
  go_wp2_with fail
  refine H.out.mono ?_
  rintro e w1 ⟨rfl, hg1, hnx1⟩
  go_wp2_with fail
  refine (someNet_any w.heap.size w.heap.size 0 w1 hg1 (by omega)).mono ?_
  rintro e w2 ⟨m, v, ss, rfl, hm0, hm8, hl, hown, hg2, hgb2⟩
  have hwo := hown.lt
  have Hwo := Lib.hid hwo
  have Hown := Lib.hid hown
  clear hwo hown
  go_wp2_with fail
  refine (helpers_any w.heap.size w.heap.size (0 + 40) w2 hg2 (by omega)).mono ?_
  rintro e w3 ⟨k, rfl, hk1, hk2, hg3, hgb3⟩
  have hown3 := Hown.out.kept hgb3 (.inr (fun e => by have := (Hwo.out _ e).1; have := hg1.lt; omega))
  obtain ⟨A', c', rfl, hc1, hc2, hrd⟩ := rdS_own hown3 rfl
  go_wp2
  go_ret3
  exact ⟨m, A', c', ss, k, rfl, hm0, hm8, by omega, by omega, hl, hc1, hc2, hrd, hnx1.trans (gb_below (gb_trans hgb2 hgb3 (.inl rfl)) (Nat.le_refl _) hnx1.size)⟩

theorem drawFarthestFirst_any (A : Option Addr) (c n : Nat) (bs : List Int) (w : World) (hr : RdB w w.heap.size A bs) (hn : bs.length = n) (hc : n ≤ c) (hm : c ≤ 9223372036854775807) :
    Calls Try.prog 49 #[.slice A n c] w (DrawnNetK w) := by
  have H := Lib.hid (newReader_any A c n bs w hr hn hc hm)
  clear hn
  go_enter Try.func49, Try.ntmps49
  go_wp2_with fail
  refine H.out.mono ?_
  rintro e w1 ⟨rfl, hg1, hnx1⟩
  go_wp2_with fail
  refine (someNet_any w.heap.size w.heap.size 0 w1 hg1 (by omega)).mono ?_
  rintro e w2 ⟨m, v, ss, rfl, hm0, hm8, hl, hown, hg2, hgb2⟩
  have hwo := hown.lt
  have Hwo := Lib.hid hwo
  have Hown := Lib.hid hown
  clear hwo hown
  go_wp2_with fail
  refine (helpers_any w.heap.size w.heap.size (0 + 40) w2 hg2 (by omega)).mono ?_
  rintro e w3 ⟨k, rfl, hk1, hk2, hg3, hgb3⟩
  have hown3 := Hown.out.kept hgb3 (.inr (fun e => by have := (Hwo.out _ e).1; have := hg1.lt; omega))
  obtain ⟨A', c', rfl, hc1, hc2, hrd⟩ := rdS_own hown3 rfl
  go_wp2
  go_ret3
  exact ⟨m, A', c', ss, k, rfl, hm0, hm8, by omega, by omega, hl, hc1, hc2, hrd, hnx1.trans (gb_below (gb_trans hgb2 hgb3 (.inl rfl)) (Nat.le_refl _) hnx1.size)⟩
end Go.Proofs.Ytiblcmeoneolcaa
