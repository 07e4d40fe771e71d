/-
  The laws FnGridCover, FnGridApart and FnRowsOfGrids follow from the functions' contracts.
  Conditions: none beyond the contracts'.
-/
import Derived.Test.YtkgomgfhhhdnjaaZ10
import Derived.Test.YtkgomgfhhhdnjaaZ8
namespace Go.Proofs.Ytkgomgfhhhdnjaa
open Go.ChangeShapes Go.WideShapes Go.ChangeAt Go.RowKit
set_option linter.unusedVariables false
set_option maxRecDepth 4000

set_option maxHeartbeats 1600000 in
theorem lawGridCover_walk (A : Option Addr) (c : Nat) (bs : List Int) (w : World) (hr : RdB w w.heap.size A bs) (hcap : bs.length ≤ c) (hm : c ≤ maxLen) :
    Calls Try.prog 4 #[.slice A bs.length c] w fun e w' => e = .returned (.bool true) ∧ Below w.heap.size w w' := by
  unfold maxLen at hm
  by_cases hb : 1048576 < bs.length
  · go_enter Try.func4, Try.ntmps4
    go_wp2
    go_ret
    exact ⟨rfl, Below.refl _ _⟩
  · have H := Lib.hid (drawGridCover_any A c bs.length bs w hr rfl hcap hm)
    have HI := Lib.hid iGridCover_ok
    have HA := Lib.hid iGridApart_ok
    have HS := Lib.hid sGridCover_ok
    clear hr
    go_enter Try.func4, Try.ntmps4
    go_wp2_with fail
    refine H.out.mono ?_
    rintro e w1 ⟨x, y, far, rfl, hB1⟩
    have HB1 := Lib.hid hB1
    have hbn : ∀ x : Int, (x != x) = false := fun x => by simp
    have hbe : ∀ x : Int, (x == x) = true := fun x => by simp
    have hrng := gcv_rng x y far
    have Hfacts : Hid (0 ≤ gcv x y far → gpk x y far ≤ gcv x y far ∧ gcv y x far = gcv x y far ∧ ∃ a b : Nat, x = a ∧ y = b ∧ a * b ≤ 10 ∧ 0 ≤ far ∧ (far = 0 → gcv x y far = ((a * b : Nat) : Int))) := fun h0 => by
      obtain ⟨h1, h2, h3⟩ := gcv_has h0
      obtain ⟨a, b, rfl, rfl, g⟩ := gok_nat h1
      exact ⟨grid_le _ _ _ h0, gcv_turn _ _ _, a, b, rfl, rfl, g.n10, h2, fun e => by subst e; exact gcv_zero g⟩
    clear hB1
    go_wp2_with fail
    refine (HI.out x y far w1).mono ?_
    rintro e w2 ⟨rfl, hb2⟩
    have HB2 := Lib.hid (HB1.out.trans (hb2.mono HB1.out.size))
    clear hb2
    go_wp2_with fail
    refine (HS.out x y far w2).mono ?_
    rintro e w3 ⟨rfl, hb3⟩
    have HB3 := Lib.hid (HB2.out.trans (hb3.mono HB2.out.size))
    clear hb3
    obtain ⟨v, Hv⟩ : ∃ v, Hid (gcv x y far = v) := ⟨_, rfl⟩
    rw [Hv.out] at hrng ⊢
    by_cases hneg : v < 0
    · go_wp2_with fail
      refine (HS.out x y far w3).mono ?_
      rintro e w4 ⟨rfl, hb4⟩
      rw [Hv.out]
      have HB4 := Lib.hid (HB3.out.trans (hb4.mono HB3.out.size))
      clear hb4
      go_wp2
      go_ret
      exact ⟨rfl, HB4.out⟩
    · obtain ⟨f1, f2, a, b, rfl, rfl, f3, f4, f5⟩ := Hfacts.out (by rw [Hv.out]; omega)
      obtain ⟨p, Hp⟩ : ∃ p, Hid (gpk a b far = p) := ⟨_, rfl⟩
      have hmm : (a : Int) * (b : Int) = ((a * b : Nat) : Int) := (Int.natCast_mul a b).symm
      obtain ⟨n, Hn⟩ : ∃ n, Hid (a * b = n) := ⟨_, rfl⟩
      rw [Hv.out, Hp.out] at f1
      rw [Hv.out, Hn.out] at f5
      rw [Hv.out] at f2
      have F2 := Lib.hid f2
      rw [Hn.out] at hmm f3
      have F5 := Lib.hid f5
      clear Hfacts f2 f5
      go_wp2_with fail
      refine (HA.out a b far w3).mono ?_
      rintro e w4 ⟨rfl, hb4⟩
      rw [Hp.out]
      have HB4 := Lib.hid (HB3.out.trans (hb4.mono HB3.out.size))
      clear hb4
      go_wp2_with fail
      refine (HI.out b a far w4).mono ?_
      rintro e w5 ⟨rfl, hb5⟩
      rw [F2.out]
      have HB5 := Lib.hid (HB4.out.trans (hb5.mono HB4.out.size))
      clear hb5
      by_cases hf : 0 < far
      · go_wp2
        go_ret
        exact ⟨rfl, HB5.out⟩
      · have hv : v = (n : Int) := F5.out (by omega)
        subst hv
        go_wp2
        go_ret
        exact ⟨rfl, HB5.out⟩
set_option maxHeartbeats 1600000 in
theorem lawGridApart_walk (A : Option Addr) (c : Nat) (bs : List Int) (w : World) (hr : RdB w w.heap.size A bs) (hcap : bs.length ≤ c) (hm : c ≤ maxLen) :
    Calls Try.prog 5 #[.slice A bs.length c] w fun e w' => e = .returned (.bool true) ∧ Below w.heap.size w w' := by
  unfold maxLen at hm
  by_cases hb : 1048576 < bs.length
  · go_enter Try.func5, Try.ntmps5
    go_wp2
    go_ret
    exact ⟨rfl, Below.refl _ _⟩
  · have H := Lib.hid (drawGridApart_any A c bs.length bs w hr rfl hcap hm)
    have HI := Lib.hid iGridApart_ok
    have HC := Lib.hid iGridCover_ok
    have HS := Lib.hid sGridApart_ok
    clear hr
    go_enter Try.func5, Try.ntmps5
    go_wp2_with fail
    refine H.out.mono ?_
    rintro e w1 ⟨x, y, far, rfl, hB1⟩
    have HB1 := Lib.hid hB1
    have hbn : ∀ x : Int, (x != x) = false := fun x => by simp
    have hbe : ∀ x : Int, (x == x) = true := fun x => by simp
    have hrng := gpk_rng x y far
    have Hfacts : Hid (0 ≤ gpk x y far → 1 ≤ gpk x y far ∧ gpk x y far ≤ gcv x y far ∧ gpk y x far = gpk x y far) := fun h0 => by
      have h1 : 0 ≤ gcv x y far := by
        rcases (show gcv x y far < 0 ∨ 0 ≤ gcv x y far by omega) with h | h
        · have := gcv_neg.1 h; omega
        · exact h
      exact ⟨gpk_pos h0, grid_le _ _ _ h1, gpk_turn _ _ _⟩
    clear hB1
    go_wp2_with fail
    refine (HI.out x y far w1).mono ?_
    rintro e w2 ⟨rfl, hb2⟩
    have HB2 := Lib.hid (HB1.out.trans (hb2.mono HB1.out.size))
    clear hb2
    go_wp2_with fail
    refine (HS.out x y far w2).mono ?_
    rintro e w3 ⟨rfl, hb3⟩
    have HB3 := Lib.hid (HB2.out.trans (hb3.mono HB2.out.size))
    clear hb3
    obtain ⟨v, Hv⟩ : ∃ v, Hid (gpk x y far = v) := ⟨_, rfl⟩
    rw [Hv.out] at hrng ⊢
    by_cases hneg : v < 0
    · go_wp2_with fail
      refine (HS.out x y far w3).mono ?_
      rintro e w4 ⟨rfl, hb4⟩
      rw [Hv.out]
      have HB4 := Lib.hid (HB3.out.trans (hb4.mono HB3.out.size))
      clear hb4
      go_wp2
      go_ret
      exact ⟨rfl, HB4.out⟩
    · obtain ⟨f0, f1, f2⟩ := Hfacts.out (by rw [Hv.out]; omega)
      obtain ⟨p, Hp⟩ : ∃ p, Hid (gcv x y far = p) := ⟨_, rfl⟩
      rw [Hv.out] at f0
      rw [Hv.out, Hp.out] at f1
      rw [Hv.out] at f2
      have F2 := Lib.hid f2
      clear Hfacts f2
      go_wp2_with fail
      refine (HC.out x y far w3).mono ?_
      rintro e w4 ⟨rfl, hb4⟩
      rw [Hp.out]
      have HB4 := Lib.hid (HB3.out.trans (hb4.mono HB3.out.size))
      clear hb4
      go_wp2_with fail
      refine (HI.out y x far w4).mono ?_
      rintro e w5 ⟨rfl, hb5⟩
      rw [F2.out]
      have HB5 := Lib.hid (HB4.out.trans (hb5.mono HB4.out.size))
      clear hb5
      go_wp2
      go_ret
      exact ⟨rfl, HB5.out⟩
set_option maxHeartbeats 1600000 in
theorem lawRowsOfGrids_walk (A : Option Addr) (c : Nat) (bs : List Int) (w : World) (hr : RdB w w.heap.size A bs) (hcap : bs.length ≤ c) (hm : c ≤ maxLen) :
    Calls Try.prog 9 #[.slice A bs.length c] w fun e w' => e = .returned (.bool true) ∧ Below w.heap.size w w' := by
  unfold maxLen at hm
  by_cases hb : 1048576 < bs.length
  · go_enter Try.func9, Try.ntmps9
    go_wp2
    go_ret
    exact ⟨rfl, Below.refl _ _⟩
  · have H := Lib.hid (drawGridApart_any A c bs.length bs w hr rfl hcap hm)
    have HI := Lib.hid iGridApart_ok
    have HC := Lib.hid iGridCover_ok
    have HS := Lib.hid sGridApart_ok
    clear hr
    go_enter Try.func9, Try.ntmps9
    go_wp2_with fail
    refine H.out.mono ?_
    rintro e w1 ⟨x, y, far, rfl, hB1⟩
    have HB1 := Lib.hid hB1
    have hbn : ∀ x : Int, (x != x) = false := fun x => by simp
    have hbe : ∀ x : Int, (x == x) = true := fun x => by simp
    have hrng := gpk_rng x y far
    have Hfacts : Hid (0 ≤ gpk x y far → ∃ a f : Nat, x = a ∧ far = f ∧ a ≤ 5 ∧ f ≤ 50 ∧ gcv a 1 far = ((rowM a f : Nat) : Int) ∧ gpk a 1 far = ((rowM a f : Nat) : Int)) := fun h0 => by
      obtain ⟨h1, h2, h3⟩ := gpk_has h0
      obtain ⟨a, b, rfl, rfl, g⟩ := gok_nat h1
      obtain ⟨f, rfl⟩ := Int.eq_ofNat_of_zero_le h2
      obtain ⟨k1, k2⟩ := row_facts (far := f) g (by omega)
      exact ⟨a, f, rfl, rfl, g.w5, by omega, k1, k2⟩
    clear hB1
    go_wp2_with fail
    refine (HI.out x y far w1).mono ?_
    rintro e w2 ⟨rfl, hb2⟩
    have HB2 := Lib.hid (HB1.out.trans (hb2.mono HB1.out.size))
    clear hb2
    go_wp2_with fail
    refine (HS.out x y far w2).mono ?_
    rintro e w3 ⟨rfl, hb3⟩
    have HB3 := Lib.hid (HB2.out.trans (hb3.mono HB2.out.size))
    clear hb3
    go_wp2_with fail
    refine (HI.out x y far w3).mono ?_
    rintro e w4 ⟨rfl, hb4⟩
    have HB4 := Lib.hid (HB3.out.trans (hb4.mono HB3.out.size))
    clear hb4
    obtain ⟨v, Hv⟩ : ∃ v, Hid (gpk x y far = v) := ⟨_, rfl⟩
    rw [Hv.out] at hrng ⊢
    by_cases hneg : v < 0
    · go_wp2
      go_ret
      exact ⟨rfl, HB4.out⟩
    · obtain ⟨a, f, rfl, rfl, f3, f4, f1, f2⟩ := Hfacts.out (by rw [Hv.out]; omega)
      have F1 := Lib.hid f1
      have F2 := Lib.hid f2
      have hq : ((a : Int) + 2 * (f : Int)).tdiv (2 * (f : Int) + 1) = ((rowM a f : Nat) : Int) := by
        rw [show ((a : Int) + 2 * (f : Int)) = ((a + 2 * f : Nat) : Int) by omega, show (2 * (f : Int) + 1) = ((2 * f + 1 : Nat) : Int) by omega]
        exact (Int.ofNat_tdiv (a + 2 * f) (2 * f + 1)).symm
      have hM : rowM a f ≤ a + 2 * f := Nat.div_le_self _ _
      obtain ⟨M, HM⟩ : ∃ M, Hid (rowM a f = M) := ⟨_, rfl⟩
      rw [HM.out] at hq hM F1 F2
      have hne : ¬ (2 * (f : Int) + 1) = 0 := by omega
      have hz : ((2 * (f : Int) + 1) == 0) = false := by rw [beq_eq_false_iff_ne]; exact hne
      clear Hfacts f1 f2
      go_wp2_with fail
      refine (HC.out a 1 f w4).mono ?_
      rintro e w5 ⟨rfl, hb5⟩
      rw [F1.out]
      have HB5 := Lib.hid (HB4.out.trans (hb5.mono HB4.out.size))
      clear hb5
      go_wp2_with fail
      refine (HI.out a 1 f w5).mono ?_
      rintro e w6 ⟨rfl, hb6⟩
      rw [F2.out]
      have HB6 := Lib.hid (HB5.out.trans (hb6.mono HB5.out.size))
      clear hb6
      go_wp2
      go_ret
      exact ⟨rfl, HB6.out⟩
end Go.Proofs.Ytkgomgfhhhdnjaa
