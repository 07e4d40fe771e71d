/-
  The model's chance, powers and backsOf, walked.
  Conditions: as each theorem states.
-/
import Derived.Test.Ythphboeboiallab1Z
import Derived.Test.YthphboeboiallabL2
namespace Go.Proofs.Ythphboeboiallab
open Go.ChangeShapes Go.WideShapes Go.ChangeAt Go.RowKit
set_option linter.unusedVariables false
set_option maxRecDepth 4000

theorem spower_any (U b : Nat) (w : World) (hU : U ≤ 10) (hb : b ≤ 4) :
    Calls Try.prog 51 #[.int .i64 (U : Int), .int .i64 (b : Int)] w fun e w' => e = .returned (.int .i64 ((U ^ b : Nat) : Int)) ∧ w = w' := by
  have HB := Lib.hid (fun j (hj : j ≤ b) => pow_le4 hU (Nat.le_trans hj hb))
  obtain ⟨X, HX⟩ : ∃ X, Hid (U ^ b = X) := ⟨_, rfl⟩
  rw [HX.out]
  go_enter Try.func51, Try.ntmps51
  go_wp2
  go_loop [1, 5] (fun i p => ∃ j x : Nat, j ≤ b ∧ Hid (U ^ (b - j) = x) ∧ p = .int .i64 ((x : Nat) : Int) ∧ i = .int .i64 ((j : Nat) : Int)) (fun i _ => (intOf i).toNat)
  case atStart => exact ⟨b, 1, Nat.le_refl _, by rw [Nat.sub_self]; exact rfl, rfl, rfl⟩
  case round =>
    obtain ⟨j, x, hj, Hx, rfl, rfl⟩ := hrel
    by_cases hlt : 0 < j
    · obtain ⟨y, Hy⟩ : ∃ y, Hid (x * U = y) := ⟨_, rfl⟩
      have Hn : Hid (U ^ (b - (j - 1)) = y) := by
        show _ = _
        rw [show b - (j - 1) = (b - j) + 1 by omega, Nat.pow_succ, Hx.out, Hy.out]
      have hy : y ≤ 10000 := by rw [← Hn.out]; exact HB.out _ (by omega)
      have e1 : (x : Int) * (U : Int) = (y : Int) := by rw [← Hy.out]; push_cast; rfl
      have p2 : (j : Int) - 1 = ((j - 1 : Nat) : Int) := by omega
      obtain ⟨i, Hi⟩ : ∃ i, Hid (j - 1 = i) := ⟨_, rfl⟩
      have hi : i < j := by rw [← Hi.out]; omega
      rw [Hi.out] at Hn p2
      go_wp2
      go_round
      case rel => exact ⟨i, y, by omega, Hn, rfl, rfl⟩
      case measure => simp [intOf]; omega
    · obtain rfl : j = 0 := by omega
      have e : x = X := by rw [← Hx.out]; exact HX.out
      subst e
      go_wp2
      go_ret
      exact ⟨rfl, rfl⟩
theorem sChance_any (u d : Int) (w : World) :
    Calls Try.prog 65 #[.agg #[.int .i64 u, .int .i64 d]] w fun e w' => e = .returned (.bool (chB u d)) ∧ Below w.heap.size w w' := by
  have HB1 : Hid (Below w.heap.size w (w.alloc (.cells #[.int .i64 u, .int .i64 d] 30))) := (Below.refl _ _).alloc (Nat.le_refl _) _
  have H1 := Lib.hid (fun W => inRange_any d 1 10 W)
  have H2 := Lib.hid (fun W => inRange_any u 0 d W)
  obtain ⟨b1, h1⟩ : ∃ b, (decide (1 ≤ d) && decide (d ≤ 10)) = b := ⟨_, rfl⟩
  obtain ⟨b2, h2⟩ : ∃ b, (decide (0 ≤ u) && decide (u ≤ d)) = b := ⟨_, rfl⟩
  have Hans : Hid (chB u d = (b2 && b1)) := by
    show _ = _
    rw [← h1, ← h2]
    rfl
  rw [h1] at H1
  rw [h2] at H2
  clear h1 h2
  cases b1
  · go_enter Try.func65, Try.ntmps65
    go_wp2_with fail
    refine (H1.out _).mono ?_
    rintro e w' ⟨rfl, rfl⟩
    go_wp2
    go_ret
    exact ⟨ret_bool (by rw [Hans.out]; cases b2 <;> rfl), HB1.out⟩
  · go_enter Try.func65, Try.ntmps65
    go_wp2_with fail
    refine (H1.out _).mono ?_
    rintro e w' ⟨rfl, rfl⟩
    go_wp2_with fail
    refine (H2.out _).mono ?_
    rintro e w' ⟨rfl, rfl⟩
    go_wp2
    go_ret
    exact ⟨ret_bool (by rw [Hans.out]; cases b2 <;> rfl), HB1.out⟩
set_option maxHeartbeats 1600000 in
theorem sBack_any (A A' : Option Addr) (c c' n m : Nat) (zs ss : List Int) (far u d : Int) (w : World) (h : PIn w A c n zs) (h' : PIn w A' c' m ss) :
    Calls Try.prog 40 #[.slice A n c, .slice A' m c', .int .i64 far, .agg #[.int .i64 u, .int .i64 d]] w fun e w' => e = .returned (.bool (okM zs ss far u d)) ∧ Below w.heap.size w w' := by
  have hb1 : Below w.heap.size w (w.alloc (.cells #[.int .i64 u, .int .i64 d] 30)) := (Below.refl _ _).alloc (Nat.le_refl _) _
  have p1 : (w.alloc (.cells #[.int .i64 u, .int .i64 d] 30)).heap[w.heap.size]? = some (.cells #[.int .i64 u, .int .i64 d] 30 (0, 0)) := heap_alloc_new _ _
  obtain ⟨w1, Hw1⟩ : ∃ w1, Hid (w.alloc (.cells #[.int .i64 u, .int .i64 d] 30) = w1) := ⟨_, rfl⟩
  rw [Hw1.out] at hb1 p1
  obtain ⟨pb, Hpb⟩ : ∃ pb, Hid (w.heap.size = pb) := ⟨_, rfl⟩
  rw [Hpb.out] at p1
  have H1 := Lib.hid (sValid_any A c n zs w1 _ (h.later hb1).rd h.len (by have := h.most; omega))
  have H2 := Lib.hid (fun q => sValid_any A' c' m ss (w1.drewN q) _ ((h'.later hb1).rd.drewN q) h'.len (by have := h'.most; omega))
  have H3 := Lib.hid (fun W => inRange_any far 0 50 W)
  have H4 := Lib.hid (fun W => sChance_any u d W)
  have HB1 := Lib.hid hb1
  have K : Hid (∀ q, (w1.drewN q).cell? ⟨pb, 0, none⟩ = some (.int .i64 u) ∧ (w1.drewN q).cell? ⟨pb, 1, none⟩ = some (.int .i64 d)) := fun q => frac_cells (show (w1.drewN q).heap[pb]? = _ from p1)
  have Hm := Lib.hid h'.len
  have hmm := h'.most
  have Hf : Hid (vfar far = (decide (0 ≤ far) && decide (far ≤ 50))) := rfl
  clear h h' hb1 p1
  by_cases v1 : vh zs = true
  · rw [v1] at H1
    by_cases v2 : vh ss = true
    · by_cases v3 : m ≤ 4
      · by_cases v4 : vfar far = true
        · have e : okM zs ss far u d = chB u d := by unfold okM vbB; rw [v1, v2, v4, Hm.out]; simp [v3]
          rw [← Hf.out, v4] at H3
          rw [v2] at H2
          rw [e]
          generalize chB u d = cb at H4 ⊢
          have w3' : (m : Int) ≤ 4 := by omega
          clear v1 v2 v4 e
          go_enter Try.func40, Try.ntmps40
          go_wp2_with fail
          rw [Hw1.out, Hpb.out]
          refine H1.out.mono ?_
          rintro e w2 ⟨rfl, q, rfl⟩
          go_wp2_with fail
          refine (H2.out q).mono ?_
          rintro e w2 ⟨rfl, q2, rfl⟩
          rw [World.drewN_drewN]
          go_wp2_with fail
          refine (H3.out _).mono ?_
          rintro e w2 ⟨rfl, rfl⟩
          obtain ⟨a0, a1⟩ := K.out (q + q2)
          go_wp2_with fail
          refine (H4.out _).mono ?_
          rintro e w2 ⟨rfl, hb2⟩
          have HB2 : Hid (Below w.heap.size w w2) := (below_drewN HB1.out (q + q2)).trans (hb2.mono HB1.out.size)
          clear hb2 a0 a1
          go_wp2
          go_ret
          exact ⟨ret_bool (by simp), HB2.out⟩
        · have v4' : vfar far = false := by simpa using v4
          have e : okM zs ss far u d = false := by unfold okM vbB; rw [v4']; simp
          rw [← Hf.out, v4'] at H3
          rw [v2] at H2
          rw [e]
          have w3' : (m : Int) ≤ 4 := by omega
          clear v1 v2 v4 v4' e
          go_enter Try.func40, Try.ntmps40
          go_wp2_with fail
          rw [Hw1.out, Hpb.out]
          refine H1.out.mono ?_
          rintro e w2 ⟨rfl, q, rfl⟩
          go_wp2_with fail
          refine (H2.out q).mono ?_
          rintro e w2 ⟨rfl, q2, rfl⟩
          rw [World.drewN_drewN]
          go_wp2_with fail
          refine (H3.out _).mono ?_
          rintro e w2 ⟨rfl, rfl⟩
          go_wp2
          go_ret
          exact ⟨ret_bool rfl, below_drewN HB1.out _⟩
      · have e : okM zs ss far u d = false := by unfold okM vbB; rw [Hm.out]; simp [v3]
        rw [v2] at H2
        rw [e]
        have w3' : ¬ (m : Int) ≤ 4 := by omega
        clear v1 v2 e
        go_enter Try.func40, Try.ntmps40
        go_wp2_with fail
        rw [Hw1.out, Hpb.out]
        refine H1.out.mono ?_
        rintro e w2 ⟨rfl, q, rfl⟩
        go_wp2_with fail
        refine (H2.out q).mono ?_
        rintro e w2 ⟨rfl, q2, rfl⟩
        rw [World.drewN_drewN]
        go_wp2
        go_ret
        exact ⟨ret_bool rfl, below_drewN HB1.out _⟩
    · have v2' : vh ss = false := by simpa using v2
      have e : okM zs ss far u d = false := by unfold okM vbB; rw [v2']; simp
      rw [v2'] at H2
      rw [e]
      clear v1 v2 v2' e
      go_enter Try.func40, Try.ntmps40
      go_wp2_with fail
      rw [Hw1.out, Hpb.out]
      refine H1.out.mono ?_
      rintro e w2 ⟨rfl, q, rfl⟩
      go_wp2_with fail
      refine (H2.out q).mono ?_
      rintro e w2 ⟨rfl, q2, rfl⟩
      rw [World.drewN_drewN]
      go_wp2
      go_ret
      exact ⟨ret_bool rfl, below_drewN HB1.out _⟩
  · have v1' : vh zs = false := by simpa using v1
    have e : okM zs ss far u d = false := by unfold okM vbB; rw [v1']; rfl
    rw [v1'] at H1
    rw [e]
    clear v1 v1' e
    go_enter Try.func40, Try.ntmps40
    go_wp2_with fail
    rw [Hw1.out, Hpb.out]
    refine H1.out.mono ?_
    rintro e w2 ⟨rfl, q, rfl⟩
    go_wp2
    go_ret
    exact ⟨ret_bool rfl, below_drewN HB1.out _⟩
end Go.Proofs.Ythphboeboiallab
