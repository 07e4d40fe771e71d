/-
  The drawn arguments of chapter 6's laws.
  Conditions: none beyond what each theorem states.
-/
import Derived.Test.YtbbmjfnjpmefpaaGL
namespace Go.Proofs.Ytbbmjfnjpmefpaa
open Go.ChangeShapes Go.WideShapes Go.ChangeAt Go.RowKit
set_option linter.unusedVariables false
set_option maxRecDepth 4000

def LoadBd (a d k : Int) : Prop := (-1 ≤ a ∧ a ≤ 11) ∧ (0 ≤ d ∧ d ≤ 11) ∧ -1 ≤ k ∧ k ≤ 6
def LoadPost (B R q : Nat) (w : World) (e : Ending) (w' : World) : Prop :=
  ∃ a d k : Int, e = .returned (.tuple #[.int .i64 a, .int .i64 d, .int .i64 k]) ∧ LoadBd a d k ∧ GR w' B R (q + 3) ∧ w.grownBy w' (some R)
set_option maxHeartbeats 800000 in
theorem aLoad_any (R B q : Nat) (w : World) (hg : GR w B R q) (hq : q ≤ 90000) :
    Calls Try.prog 28 #[.pointer (some ⟨R, 0, none⟩)] w (LoadPost B R q w) := by
  go_enter Try.func28, Try.ntmps28
  go_wp2_with fail
  refine (oneLit R B q [1, 2, 3, 5, 10, 0, 7, 11, -1] 9 (-1) 11 w _ hg (by omega) rfl (by omega) (by omega) rfl (by decide)).mono ?_
  rintro e w1 ⟨a, rfl, ha0, ha1, hg1, hgr1⟩
  go_wp2_with fail
  refine (oneLit R B (q + 1) [1, 2, 3, 10, 5, 1, 0, 11] 8 0 11 w1 _ hg1 (by omega) rfl (by omega) (by omega) rfl (by decide)).mono ?_
  rintro e w2 ⟨d, rfl, hd0, hd1, hg2, hgr2⟩
  have hgb2 := gb_trans hgr1 hgr2 (.inl rfl)
  clear hgr1 hgr2 hg1
  go_wp2_with fail
  refine (oneLit R B (q + 1 + 1) [2, 1, 3, 4, 0, 5, 6, -1] 8 (-1) 6 w2 _ hg2 (by omega) rfl (by omega) (by omega) rfl (by decide)).mono ?_
  rintro e w3 ⟨k, rfl, hk0, hk1, hg3, hgr3⟩
  have Hgb3 := Lib.hid (gb_trans hgb2 hgr3 (.inl rfl))
  have Hg3 := Lib.hid hg3
  have Hbd : Hid (LoadBd a d k) := ⟨⟨ha0, ha1⟩, ⟨hd0, hd1⟩, hk0, hk1⟩
  clear hgb2 hgr3 hg3 hg2
  go_wp2
  go_ret3
  exact ⟨a, d, k, rfl, Hbd.out, Hg3.out, Hgb3.out⟩
def DrawnLoad (w : World) (e : Ending) (w' : World) : Prop :=
  ∃ a d k : Int, e = .returned (.tuple #[.int .i64 a, .int .i64 d, .int .i64 k]) ∧ LoadBd a d k ∧ Below w.heap.size w w'
set_option maxHeartbeats 800000 in
theorem drawLostStep_any (A : Option Addr) (c n : Nat) (bs : List Int) (w : World) (hr : RdB w w.heap.size A bs) (hn : bs.length = n) (hc : n ≤ c) (hm : c ≤ 9223372036854775807) :
    Calls Try.prog 18 #[.slice A n c] w (DrawnLoad w) := by
  have H := Lib.hid (newReader_any A c n bs w hr hn hc hm)
  clear hn
  go_enter Try.func18, Try.ntmps18
  go_wp2_with fail
  refine H.out.mono ?_
  rintro e w1 ⟨rfl, hg1, hnx1⟩
  have hlt := hg1.lt
  go_wp2_with fail
  refine (aLoad_any w.heap.size w.heap.size 0 w1 hg1 (by omega)).mono ?_
  rintro e w2 ⟨a, d, k, rfl, hbd, hg2, hgr2⟩
  have Hb : Hid (Below w.heap.size w w2) := hnx1.trans (gb_below hgr2 (Nat.le_refl _) (Nat.le_of_lt hlt))
  clear hgr2
  go_wp2
  go_ret3
  exact ⟨a, d, k, rfl, hbd, Hb.out⟩
set_option maxHeartbeats 800000 in
theorem drawMeanBusy_any (A : Option Addr) (c n : Nat) (bs : List Int) (w : World) (hr : RdB w w.heap.size A bs) (hn : bs.length = n) (hc : n ≤ c) (hm : c ≤ 9223372036854775807) :
    Calls Try.prog 20 #[.slice A n c] w (DrawnLoad w) := by
  have H := Lib.hid (newReader_any A c n bs w hr hn hc hm)
  clear hn
  go_enter Try.func20, Try.ntmps20
  go_wp2_with fail
  refine H.out.mono ?_
  rintro e w1 ⟨rfl, hg1, hnx1⟩
  have hlt := hg1.lt
  go_wp2_with fail
  refine (aLoad_any w.heap.size w.heap.size 0 w1 hg1 (by omega)).mono ?_
  rintro e w2 ⟨a, d, k, rfl, hbd, hg2, hgr2⟩
  have Hb : Hid (Below w.heap.size w w2) := hnx1.trans (gb_below hgr2 (Nat.le_refl _) (Nat.le_of_lt hlt))
  clear hgr2
  go_wp2
  go_ret3
  exact ⟨a, d, k, rfl, hbd, Hb.out⟩
def DrawnHelp (w : World) (e : Ending) (w' : World) : Prop :=
  ∃ a d m : Int, e = .returned (.tuple #[.int .i64 a, .int .i64 d, .int .i64 m]) ∧ ((-1 ≤ a ∧ a ≤ 11) ∧ (0 ≤ d ∧ d ≤ 11) ∧ 0 ≤ m ∧ m ≤ 51) ∧ Below w.heap.size w w'
set_option maxHeartbeats 800000 in
theorem drawHelpersFor_any (A : Option Addr) (c n : Nat) (bs : List Int) (w : World) (hr : RdB w w.heap.size A bs) (hn : bs.length = n) (hc : n ≤ c) (hm : c ≤ 9223372036854775807) :
    Calls Try.prog 23 #[.slice A n c] w (DrawnHelp w) := by
  have H := Lib.hid (newReader_any A c n bs w hr hn hc hm)
  clear hn
  go_enter Try.func23, Try.ntmps23
  go_wp2_with fail
  refine H.out.mono ?_
  rintro e w1 ⟨rfl, hg1, hnx1⟩
  have hlt := hg1.lt
  go_wp2_with fail
  refine (aLoad_any w.heap.size w.heap.size 0 w1 hg1 (by omega)).mono ?_
  rintro e w2 ⟨a, d, k, rfl, hbd, hg2, hgr2⟩
  have Hbd := Lib.hid hbd
  clear hbd
  go_wp2_with fail
  refine (oneLit w.heap.size w.heap.size (0 + 3) [2, 5, 10, 1, 50, 20, 0, 51] 8 0 51 w2 _ hg2 (by omega) rfl (by omega) (by omega) rfl (by decide)).mono ?_
  rintro e w3 ⟨m, rfl, hm0, hm1, hg3, hgr3⟩
  have Hb : Hid (Below w.heap.size w w3) := hnx1.trans (gb_below (gb_trans hgr2 hgr3 (.inl rfl)) (Nat.le_refl _) (Nat.le_of_lt hlt))
  clear hgr2 hgr3
  go_wp2
  go_ret3
  exact ⟨a, d, m, rfl, ⟨Hbd.out.1, Hbd.out.2.1, hm0, hm1⟩, Hb.out⟩
def DrawnShare (w : World) (e : Ending) (w' : World) : Prop :=
  ∃ a d k j : Int, e = .returned (.tuple #[.int .i64 a, .int .i64 d, .int .i64 k, .int .i64 j]) ∧ LoadBd a d k ∧ (-1 ≤ j ∧ j ≤ 7) ∧ Below w.heap.size w w'
theorem results_tmp4B {fn : Func} {t u v x : Tmp} (h : fn.results = #[.tmp t, .tmp u, .tmp v, .tmp x]) (tmps : Array Value) (P : Program) (w : World) :
    (results fn tmps).run P w = .ok (.tuple #[tmps.getD t undef, tmps.getD u undef, tmps.getD v undef, tmps.getD x undef]) w := by
  simp [results, h]
set_option maxHeartbeats 1600000 in
theorem drawBusyShare_any (A : Option Addr) (c n : Nat) (bs : List Int) (w : World) (hr : RdB w w.heap.size A bs) (hn : bs.length = n) (hc : n ≤ c) (hm : c ≤ 9223372036854775807) :
    Calls Try.prog 12 #[.slice A n c] w (DrawnShare w) := by
  have H := Lib.hid (newReader_any A c n bs w hr hn hc hm)
  clear hn
  go_enter Try.func12, Try.ntmps12
  go_wp2_with fail
  refine H.out.mono ?_
  rintro e w1 ⟨rfl, hg1, hnx1⟩
  have hlt := hg1.lt
  go_wp2_with fail
  refine (aLoad_any w.heap.size w.heap.size 0 w1 hg1 (by omega)).mono ?_
  rintro e w2 ⟨a, d, k, rfl, hbd, hg2, hgr2⟩
  have Hbd := Lib.hid hbd
  have hk := hbd.2.2
  clear hbd
  go_wp2_with fail
  refine (pick_any w.heap.size w.heap.size (0 + 3) (k + 1) w2 hg2 (by omega) (by omega) (by omega)).mono ?_
  rintro e w3 ⟨v, rfl, hv0, hv1, hv2, hg3, hgr3⟩
  have hv : v ≤ 7 := by
    by_cases h : 1 ≤ k + 1
    · have := hv1 h; omega
    · have := hv2 (by omega); omega
  have hgb3 := gb_trans hgr2 hgr3 (.inl rfl)
  clear hv1 hv2 hgr2 hgr3
  go_wp2_with fail
  refine (oneLit w.heap.size w.heap.size (0 + 3 + 1) [v, k, 0, 1, -1, k + 1] 6 (-1) 7 w3 _ hg3 (by omega) rfl (by omega) (by omega) rfl (by intro z hz; simp at hz; omega)).mono ?_
  rintro e w4 ⟨j, rfl, hj0, hj1, hg4, hgr4⟩
  have Hb : Hid (Below w.heap.size w w4) := hnx1.trans (gb_below (gb_trans hgb3 hgr4 (.inl rfl)) (Nat.le_refl _) (Nat.le_of_lt hlt))
  clear hgb3 hgr4
  go_wp2
  refine bodyPost_ret (results_tmp4B rfl _ _ _) rfl ?_
  exact ⟨a, d, k, j, rfl, Hbd.out, ⟨hj0, hj1⟩, Hb.out⟩
end Go.Proofs.Ytbbmjfnjpmefpaa
