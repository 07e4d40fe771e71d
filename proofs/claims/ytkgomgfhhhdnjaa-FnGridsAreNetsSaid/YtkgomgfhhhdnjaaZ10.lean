/-
  How far drawn.
  Conditions: none beyond what each theorem states.
  The drawn arguments of chapter 9's laws.
  Conditions: none beyond what each theorem states.
-/
import Derived.Test.YtkgomgfhhhdnjaaZ5
import Derived.Test.YtkgomgfhhhdnjaaZ9
namespace Go.Proofs.Ytkgomgfhhhdnjaa
open Go.ChangeShapes Go.WideShapes Go.ChangeAt Go.RowKit
set_option linter.unusedVariables false
set_option maxRecDepth 4000

set_option maxHeartbeats 400000 in
theorem aFar_any (R B k : Nat) (w : World) (hg : GR w B R k) (hk : k ≤ 90000) :
    Calls Try.prog 44 #[.pointer (some ⟨R, 0, none⟩)] w (OnePost B R k (-1) 51 w) := by
  go_enter Try.func44, Try.ntmps44
  go_wp2_with fail
  refine (oneLit R B k [2, 3, 1, 5, 0, 4, 8, 12, 50, 51, -1] 11 (-1) 51 w _ hg (by omega) rfl (by omega) (by omega) rfl (by decide)).mono ?_
  rintro e w2 ⟨m, rfl, hm2, hm3, hg2, hgr2⟩
  go_wp2
  go_ret
  exact ⟨m, rfl, hm2, hm3, hg2, hgr2⟩
end Go.Proofs.Ytkgomgfhhhdnjaa
namespace Go.Proofs.Ytkgomgfhhhdnjaa
open Go.ChangeShapes Go.WideShapes Go.ChangeAt Go.RowKit
set_option linter.unusedVariables false
set_option maxRecDepth 4000

theorem gr_below9 {w w' : World} {B R k : Nat} (h : GR w B R k) (hb : Below w.heap.size w w') : GR w' B R k := by
  have hlt := h.lt
  obtain ⟨A, c, bs, p, hB, hh, hrd, hl, h0, h1⟩ := h
  exact ⟨A, c, bs, p, hB, (hb.block R hlt).trans hh, hrd.keep fun q hq => hb.cell (by omega), hl, h0, h1⟩
def SmallPost (B R q : Nat) (w : World) (e : Ending) (w' : World) : Prop :=
  ∃ a b : Nat, e = .returned (.tuple #[.int .i64 a, .int .i64 b]) ∧ a ≤ 6 ∧ b ≤ 5 ∧ GR w' B R (q + 5) ∧ w.grownBy w' (some R)
set_option maxHeartbeats 1600000 in
theorem smallGrid_any (R B q : Nat) (w : World) (hg : GR w B R q) (hq : q ≤ 90000) :
    Calls Try.prog 41 #[.pointer (some ⟨R, 0, none⟩)] w (SmallPost B R q w) := by
  go_enter Try.func41, Try.ntmps41
  go_wp2_with fail
  refine (oneLit R B q [3, 2, 5, 4, 1] 5 1 5 w _ hg (by omega) rfl (by omega) (by omega) rfl (by decide)).mono ?_
  rintro e w1 ⟨a, rfl, ha0, ha1, hg1, hgr1⟩
  go_wp2_with fail
  refine (oneLit R B (q + 1) [2, 3, 1, 4, 5] 5 1 5 w1 _ hg1 (by omega) rfl (by omega) (by omega) rfl (by decide)).mono ?_
  rintro e w2 ⟨b, rfl, hb0, hb1, hg2, hgr2⟩
  have Hgb := Lib.hid (gb_trans hgr1 hgr2 (.inl rfl))
  have Hg2 := Lib.hid hg2
  obtain ⟨a, rfl⟩ := Int.eq_ofNat_of_zero_le (show 0 ≤ a by omega)
  obtain ⟨b, rfl⟩ := Int.eq_ofNat_of_zero_le (show 0 ≤ b by omega)
  clear hgr1 hgr2 hg1 hg2
  go_wp2
  go_loop [4, 5] (fun x y => ∃ u v : Nat, 1 ≤ u ∧ u ≤ 5 ∧ 1 ≤ v ∧ v ≤ 5 ∧ x = .int .i64 u ∧ y = .int .i64 v) (fun x y => (intOf x).toNat + (intOf y).toNat)
  case atStart => exact ⟨a, b, by omega, by omega, by omega, by omega, rfl, rfl⟩
  case round =>
    obtain ⟨u, v, hu1, hu5, hv1, hv5, rfl, rfl⟩ := hrel
    have hm : (u : Int) * (v : Int) = ((u * v : Nat) : Int) := (Int.natCast_mul u v).symm
    have hm25 : u * v ≤ 25 := Nat.mul_le_mul hu5 hv5
    have hone : v = 1 → u ≤ v → u * v ≤ 10 := fun e h => by subst e; omega
    obtain ⟨m, Hm⟩ : ∃ m, Hid (u * v = m) := ⟨_, rfl⟩
    rw [Hm.out] at hm hm25 hone
    by_cases h10 : 10 < m
    · have h10' : (10 : Int) < (m : Int) := by omega
      by_cases huv : v < u
      · have huv' : (v : Int) < (u : Int) := by omega
        have hwp : IntKind.i64.wrap ((u : Int) - 1) = ((u - 1 : Nat) : Int) := by rw [IntWalk.i64_in _ (by omega)]; omega
        go_wp2
        go_round
        case rel => exact ⟨u - 1, v, by omega, by omega, by omega, by omega, by first | rfl | (rw [hwp]) | go_num, rfl⟩
        case measure => simp [intOf]; omega
      · have huv' : ¬ (v : Int) < (u : Int) := by omega
        have hv2 : 2 ≤ v := by
          rcases Nat.lt_or_ge v 2 with h | h
          · have := hone (by omega) (by omega); omega
          · exact h
        have hwp : IntKind.i64.wrap ((v : Int) - 1) = ((v - 1 : Nat) : Int) := by rw [IntWalk.i64_in _ (by omega)]; omega
        go_wp2
        go_round
        case rel => exact ⟨u, v - 1, by omega, by omega, by omega, by omega, rfl, by first | rfl | (rw [hwp]) | go_num⟩
        case measure => simp [intOf]; omega
    · have h10' : ¬ (10 : Int) < (m : Int) := by omega
      go_wp2_with fail
      refine (pick_any R B (q + 1 + 1) 30 w2 Hg2.out (by omega) (by omega) (by omega)).mono ?_
      rintro e w3 ⟨x, rfl, hx0, -, -, hg3, hgr3⟩
      have Hgb3 := Lib.hid (gb_trans Hgb.out hgr3 (.inl rfl))
      have Hg3 := Lib.hid hg3
      clear hg3 hgr3
      by_cases hxz : x = 0
      · subst hxz
        go_wp2_with fail
        refine (oneLit R B (q + 1 + 1 + 1) [0, 6, 4] 3 0 6 w3 _ Hg3.out (by omega) rfl (by omega) (by omega) rfl (by decide)).mono ?_
        rintro e w4 ⟨c, rfl, hc0, hc1, hg4, hgr4⟩
        have Hgb4 := Lib.hid (gb_trans Hgb3.out hgr4 (.inl rfl))
        clear hgr4
        go_wp2_with fail
        refine (oneLit R B (q + 1 + 1 + 1 + 1) [3, 1] 2 1 3 w4 _ hg4 (by omega) rfl (by omega) (by omega) rfl (by decide)).mono ?_
        rintro e w5 ⟨d, rfl, hd0, hd1, hg5, hgr5⟩
        have Hgb5 := Lib.hid (gb_trans Hgb4.out hgr5 (.inl rfl))
        have Hg5 := Lib.hid hg5
        obtain ⟨c, rfl⟩ := Int.eq_ofNat_of_zero_le hc0
        obtain ⟨d, rfl⟩ := Int.eq_ofNat_of_zero_le (show 0 ≤ d by omega)
        clear hgr5 hg4 hg5
        go_wp2
        go_ret2
        exact ⟨c, d, rfl, by omega, by omega, Hg5.out, Hgb5.out⟩
      · have hxb : (x == 0) = false := by rw [beq_eq_false_iff_ne]; exact hxz
        clear hxz
        go_wp2
        go_ret2
        exact ⟨u, v, rfl, by omega, by omega, Hg3.out.more (by omega), Hgb3.out⟩
def DrawnG3 (w : World) (e : Ending) (w' : World) : Prop :=
  ∃ a b c : Int, e = .returned (.tuple #[.int .i64 a, .int .i64 b, .int .i64 c]) ∧ Below w.heap.size w w'
set_option maxHeartbeats 800000 in
theorem drawGridCover_any (A : Option Addr) (c n : Nat) (bs : List Int) (w : World) (hr : RdB w w.heap.size A bs) (hn : bs.length = n) (hc : n ≤ c) (hm : c ≤ 9223372036854775807) :
    Calls Try.prog 22 #[.slice A n c] w (DrawnG3 w) := by
  have H := Lib.hid (newReader_any A c n bs w hr hn hc hm)
  clear hn
  go_enter Try.func22, Try.ntmps22
  go_wp2_with fail
  refine H.out.mono ?_
  rintro e w1 ⟨rfl, hg1, hnx1⟩
  have hlt := hg1.lt
  go_wp2_with fail
  refine (smallGrid_any w.heap.size w.heap.size 0 w1 hg1 (by omega)).mono ?_
  rintro e w2 ⟨a, b, rfl, ha, hb, hg2, hgr2⟩
  go_wp2_with fail
  refine (oneLit w.heap.size w.heap.size (0 + 5) [1, 2, 1, 0, 3, 1, 50, 51, -1] 9 (-1) 51 w2 _ hg2 (by omega) rfl (by omega) (by omega) rfl (by decide)).mono ?_
  rintro e w3 ⟨x, rfl, hx0, hx1, hg3, hgr3⟩
  have Hb : Hid (Below w.heap.size w w3) := hnx1.trans (gb_below (gb_trans hgr2 hgr3 (.inl rfl)) (Nat.le_refl _) (Nat.le_of_lt hlt))
  clear hgr2 hgr3
  go_wp2
  go_ret3
  exact ⟨a, b, x, rfl, Hb.out⟩
set_option maxHeartbeats 800000 in
theorem drawGridApart_any (A : Option Addr) (c n : Nat) (bs : List Int) (w : World) (hr : RdB w w.heap.size A bs) (hn : bs.length = n) (hc : n ≤ c) (hm : c ≤ 9223372036854775807) :
    Calls Try.prog 26 #[.slice A n c] w (DrawnG3 w) := by
  have H := Lib.hid (newReader_any A c n bs w hr hn hc hm)
  clear hn
  go_enter Try.func26, Try.ntmps26
  go_wp2_with fail
  refine H.out.mono ?_
  rintro e w1 ⟨rfl, hg1, hnx1⟩
  have hlt := hg1.lt
  go_wp2_with fail
  refine (smallGrid_any w.heap.size w.heap.size 0 w1 hg1 (by omega)).mono ?_
  rintro e w2 ⟨a, b, rfl, ha, hb, hg2, hgr2⟩
  go_wp2_with fail
  refine (oneLit w.heap.size w.heap.size (0 + 5) [1, 2, 1, 0, 3, 1, 50, 51, -1] 9 (-1) 51 w2 _ hg2 (by omega) rfl (by omega) (by omega) rfl (by decide)).mono ?_
  rintro e w3 ⟨x, rfl, hx0, hx1, hg3, hgr3⟩
  have Hb : Hid (Below w.heap.size w w3) := hnx1.trans (gb_below (gb_trans hgr2 hgr3 (.inl rfl)) (Nat.le_refl _) (Nat.le_of_lt hlt))
  clear hgr2 hgr3
  go_wp2
  go_ret3
  exact ⟨a, b, x, rfl, Hb.out⟩
set_option maxHeartbeats 800000 in
theorem drawSlantCells_any (A : Option Addr) (c n : Nat) (bs : List Int) (w : World) (hr : RdB w w.heap.size A bs) (hn : bs.length = n) (hc : n ≤ c) (hm : c ≤ 9223372036854775807) :
    Calls Try.prog 31 #[.slice A n c] w (DrawnG3 w) := by
  have H := Lib.hid (newReader_any A c n bs w hr hn hc hm)
  clear hn
  go_enter Try.func31, Try.ntmps31
  go_wp2_with fail
  refine H.out.mono ?_
  rintro e w1 ⟨rfl, hg1, hnx1⟩
  have hlt := hg1.lt
  go_wp2_with fail
  refine (oneLit w.heap.size w.heap.size 0 [5, 4, 3, 7, 10, 1, 11, 0] 8 0 11 w1 _ hg1 (by omega) rfl (by omega) (by omega) rfl (by decide)).mono ?_
  rintro e w2 ⟨a, rfl, ha0, ha1, hg2, hgr2⟩
  go_wp2_with fail
  refine (oneLit w.heap.size w.heap.size (0 + 1) [5, 3, 2, 6, 10, 1, 0] 7 0 10 w2 _ hg2 (by omega) rfl (by omega) (by omega) rfl (by decide)).mono ?_
  rintro e w3 ⟨b, rfl, hb0, hb1, hg3, hgr3⟩
  have hgb3 := gb_trans hgr2 hgr3 (.inl rfl)
  clear hgr2 hgr3 hg2
  go_wp2_with fail
  refine (oneLit w.heap.size w.heap.size (0 + 1 + 1) [0, 1, 2, 3, 4, 5, -1] 7 (-1) 5 w3 _ hg3 (by omega) rfl (by omega) (by omega) rfl (by decide)).mono ?_
  rintro e w4 ⟨x, rfl, hx0, hx1, hg4, hgr4⟩
  have Hb : Hid (Below w.heap.size w w4) := hnx1.trans (gb_below (gb_trans hgb3 hgr4 (.inl rfl)) (Nat.le_refl _) (Nat.le_of_lt hlt))
  clear hgb3 hgr4
  go_wp2
  go_ret3
  exact ⟨a, b, x, rfl, Hb.out⟩
def DrawnG4 (w : World) (e : Ending) (w' : World) : Prop :=
  ∃ a b c d : Int, e = .returned (.tuple #[.int .i64 a, .int .i64 b, .int .i64 c, .int .i64 d]) ∧ Below w.heap.size w w'
theorem results_tmp4G {fn : Func} {t u v x : Tmp} (h : fn.results = #[.tmp t, .tmp u, .tmp v, .tmp x]) (tmps : Array Value) (P : Program) (w : World) :
    (results fn tmps).run P w = .ok (.tuple #[tmps.getD t undef, tmps.getD u undef, tmps.getD v undef, tmps.getD x undef]) w := by
  simp [results, h]
set_option maxHeartbeats 1600000 in
theorem drawBallOf_any (A : Option Addr) (c n : Nat) (bs : List Int) (w : World) (hr : RdB w w.heap.size A bs) (hn : bs.length = n) (hc : n ≤ c) (hm : c ≤ 9223372036854775807) :
    Calls Try.prog 16 #[.slice A n c] w (DrawnG4 w) := by
  have H := Lib.hid (newReader_any A c n bs w hr hn hc hm)
  clear hn
  go_enter Try.func16, Try.ntmps16
  go_wp2_with fail
  refine H.out.mono ?_
  rintro e w1 ⟨rfl, hg1, hnx1⟩
  have hlt := hg1.lt
  go_wp2_with fail
  refine (smallGrid_any w.heap.size w.heap.size 0 w1 hg1 (by omega)).mono ?_
  rintro e w2 ⟨a, b, rfl, ha, hb, hg2, hgr2⟩
  have hmm : (a : Int) * (b : Int) = ((a * b : Nat) : Int) := (Int.natCast_mul a b).symm
  have hm30 : a * b ≤ 30 := Nat.mul_le_mul ha hb
  obtain ⟨m, Hm⟩ : ∃ m, Hid (a * b = m) := ⟨_, rfl⟩
  rw [Hm.out] at hmm hm30
  have hwm : IntKind.i64.wrap ((m : Int) - 1) = (m : Int) - 1 := IntWalk.i64_in _ (by omega)
  have hwm2 : IntKind.i64.wrap (m : Int) = (m : Int) := IntWalk.i64_in _ (by omega)
  go_wp2_with fail
  refine (pick_any w.heap.size w.heap.size (0 + 5) (m : Int) w2 hg2 (by omega) (by omega) (by omega)).mono ?_
  rintro e w3 ⟨x, rfl, hx0, hx1, hx2, hg3, hgr3⟩
  have hx : x ≤ 30 := by
    by_cases h : 1 ≤ (m : Int)
    · have := hx1 h; omega
    · have := hx2 (by omega); omega
  have hgb3 := gb_trans hgr2 hgr3 (.inl rfl)
  clear hx1 hx2 hgr2 hgr3 hg2
  go_wp2_with fail
  refine (pick_any w.heap.size w.heap.size (0 + 5 + 1) (m : Int) w3 hg3 (by omega) (by omega) (by omega)).mono ?_
  rintro e w4 ⟨y, rfl, hy0, hy1, hy2, hg4, hgr4⟩
  have hy : y ≤ 30 := by
    by_cases h : 1 ≤ (m : Int)
    · have := hy1 h; omega
    · have := hy2 (by omega); omega
  have hgb4 := gb_trans hgb3 hgr4 (.inl rfl)
  clear hy1 hy2 hgb3 hgr4 hg3
  go_wp2_with fail
  refine (oneLit w.heap.size w.heap.size (0 + 5 + 1 + 1) [x, y, 0, (m : Int) - 1, (m : Int), -1] 6 (-1) 30 w4 _ hg4 (by omega) rfl (by omega) (by omega) rfl (by intro z hz; simp at hz; omega)).mono ?_
  rintro e w5 ⟨u, rfl, hu0, hu1, hg5, hgr5⟩
  have hgb5 := gb_trans hgb4 hgr5 (.inl rfl)
  clear hgb4 hgr5 hg4
  go_wp2_with fail
  refine (aFar_any w.heap.size w.heap.size (0 + 5 + 1 + 1 + 1) w5 hg5 (by omega)).mono ?_
  rintro e w6 ⟨v, rfl, hv0, hv1, hg6, hgr6⟩
  have Hb : Hid (Below w.heap.size w w6) := hnx1.trans (gb_below (gb_trans hgb5 hgr6 (.inl rfl)) (Nat.le_refl _) (Nat.le_of_lt hlt))
  clear hgb5 hgr6
  go_wp2
  refine bodyPost_ret (results_tmp4G rfl _ _ _) rfl ?_
  exact ⟨a, b, u, v, rfl, Hb.out⟩
end Go.Proofs.Ytkgomgfhhhdnjaa
