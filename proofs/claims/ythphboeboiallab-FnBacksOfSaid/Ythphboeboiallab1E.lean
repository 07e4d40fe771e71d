/-
  The chance of the program, walked: powers, cases, cases in which someone is free, and whether it is one.
  Conditions: numbers up to ten, at most four helpers, where a theorem says so.
-/
import Derived.Test.YthphboeboiallabLR
import Derived.Test.Ythphboeboiallab0U
import Derived.Test.YthphboeboiallabGP
import Derived.Test.YthphboeboiallabL1
import Derived.Test.Ythphboeboiallab1A
import Derived.BigQuiet
import Derived.Deep.RegionHeld3
namespace Go.Proofs.Ythphboeboiallab
open Go.ChangeShapes Go.WideShapes Go.ChangeAt Go.RowKit
set_option linter.unusedVariables false
set_option maxRecDepth 4000

theorem pow_le4 {U b : Nat} (hU : U ≤ 10) (hb : b ≤ 4) : U ^ b ≤ 10000 := by
  have h1 : U ^ b ≤ 10 ^ b := Nat.pow_le_pow_left hU b
  have h2 : 10 ^ b ≤ 10 ^ 4 := Nat.pow_le_pow_right (by decide) hb
  omega
theorem ipower_any (U b : Nat) (w : World) (hU : U ≤ 10) (hb : b ≤ 4) :
    Calls Try.prog 73 #[.int .i64 (U : Int), .int .i64 (b : Int)] w fun e w' => e = .returned (.int .i64 ((U ^ b : Nat) : Int)) ∧ w = w' := by
  have HB := Lib.hid (fun j (hj : j ≤ b) => pow_le4 hU (Nat.le_trans hj hb))
  obtain ⟨X, HX⟩ : ∃ X, Hid (U ^ b = X) := ⟨_, rfl⟩
  rw [HX.out]
  go_enter Try.func73, Try.ntmps73
  go_wp2
  go_loop [5, 7] (fun p i => ∃ j x : Nat, j ≤ b ∧ Hid (U ^ j = x) ∧ p = .int .i64 ((x : Nat) : Int) ∧ i = .int .i64 ((j : Nat) : Int)) (fun _ i => b - (intOf i).toNat)
  case atStart => exact ⟨0, 1, Nat.zero_le _, rfl, rfl, rfl⟩
  case round =>
    obtain ⟨j, x, hj, Hx, rfl, rfl⟩ := hrel
    have hx : x ≤ 10000 := by rw [← Hx.out]; exact HB.out j hj
    by_cases hlt : j < b
    · obtain ⟨y, Hy⟩ : ∃ y, Hid (x * U = y) := ⟨_, rfl⟩
      have Hn : Hid (U ^ (j + 1) = y) := by show _ = _; rw [Nat.pow_succ, Hx.out, Hy.out]
      have hy : y ≤ 10000 := by rw [← Hn.out]; exact HB.out (j + 1) (by omega)
      have e1 : (x : Int) * (U : Int) = (y : Int) := by rw [← Hy.out]; push_cast; rfl
      go_wp2
      go_round
      case rel => exact ⟨j + 1, y, by omega, Hn, by go_num, by go_num⟩
      case measure => simp [intOf]; omega
    · obtain rfl : j = b := by omega
      have e : x = X := by rw [← Hx.out]; exact HX.out
      subst e
      go_wp2
      go_ret
      exact ⟨rfl, rfl⟩
theorem icases_any (U D k : Nat) (w : World) (hD : D ≤ 10) (hk : k ≤ 4) :
    Calls Try.prog 48 #[.agg #[.int .i64 (U : Int), .int .i64 (D : Int)], .int .i64 (k : Int)] w fun e w' => e = .returned (.int .i64 ((D ^ k : Nat) : Int)) ∧ Below w.heap.size w w' := by
  have H := Lib.hid (fun W => ipower_any D k W hD hk)
  obtain ⟨x, Hx⟩ : ∃ x, Hid (D ^ k = x) := ⟨_, rfl⟩
  rw [Hx.out] at H ⊢
  go_enter Try.func48, Try.ntmps48
  go_wp2_with fail
  refine (H.out _).mono ?_
  rintro e w' ⟨rfl, rfl⟩
  go_wp2
  go_ret
  exact ⟨rfl, (Below.refl _ _).alloc (Nat.le_refl _) _⟩
set_option maxHeartbeats 800000 in
theorem icasesFree_any (U D b k : Nat) (w : World) (hU : U ≤ D) (hD : D ≤ 10) (hk : k ≤ 4) (hb : b ≤ k) :
    Calls Try.prog 72 #[.agg #[.int .i64 (U : Int), .int .i64 (D : Int)], .int .i64 (b : Int), .int .i64 (k : Int)] w fun e w' => e = .returned (.int .i64 ((tmB U D k b : Nat) : Int)) ∧ Below w.heap.size w w' := by
  have H1 := Lib.hid (fun W => icases_any U D k W hD hk)
  have H2 := Lib.hid (fun W => ipower_any U b W (by omega) (by omega))
  have H3 := Lib.hid (fun W => icases_any U D (k - b) W hD (by omega))
  obtain ⟨x, Hx⟩ : ∃ x, Hid (D ^ k = x) := ⟨_, rfl⟩
  obtain ⟨y, Hy⟩ : ∃ y, Hid (U ^ b = y) := ⟨_, rfl⟩
  obtain ⟨z, Hz⟩ : ∃ z, Hid (D ^ (k - b) = z) := ⟨_, rfl⟩
  obtain ⟨q, Hq⟩ : ∃ q, Hid (y * z = q) := ⟨_, rfl⟩
  obtain ⟨m, Hm⟩ : ∃ m, Hid (k - b = m) := ⟨_, rfl⟩
  have hqx : q ≤ x := by rw [← Hq.out, ← Hx.out, ← Hy.out, ← Hz.out]; exact lossB_le hU hb
  have hx : x ≤ 10000 := by rw [← Hx.out]; exact pow_le4 hD hk
  have hT : tmB U D k b = x - q := by unfold tmB; rw [Hx.out, Hy.out, Hz.out, Hq.out]
  rw [hT]
  rw [Hx.out] at H1
  rw [Hy.out] at H2
  rw [Hz.out, Hm.out] at H3
  have e1 : IntKind.i64.wrap ((k : Int) - (b : Int)) = (m : Int) := by rw [IntKind.wrap_i64]; have := Hm.out; omega
  have e2 : (y : Int) * (z : Int) = (q : Int) := by rw [← Hq.out]; push_cast; rfl
  have e3 : (x : Int) - (q : Int) = ((x - q : Nat) : Int) := by omega
  have hxq : x - q ≤ 10000 := by omega
  generalize x - q = r at e3 hxq ⊢
  have hb1 : Below w.heap.size w (w.alloc (.cells #[.int .i64 (U : Int), .int .i64 (D : Int)] 56)) := (Below.refl _ _).alloc (Nat.le_refl _) _
  have hs1 : (w.alloc (.cells #[.int .i64 (U : Int), .int .i64 (D : Int)] 56)).heap.size = w.heap.size + 1 := size_alloc1 _ _
  have c0 : (w.alloc (.cells #[.int .i64 (U : Int), .int .i64 (D : Int)] 56)).cell? ⟨w.heap.size, 0, none⟩ = some (.int .i64 (U : Int)) := (cell_of_row _ _ _ _ _ _ (heap_alloc_new w _)).trans rfl
  have c1 : (w.alloc (.cells #[.int .i64 (U : Int), .int .i64 (D : Int)] 56)).cell? ⟨w.heap.size, 1, none⟩ = some (.int .i64 (D : Int)) := (cell_of_row _ _ _ _ _ _ (heap_alloc_new w _)).trans rfl
  obtain ⟨w1, Hw1⟩ : ∃ w1, Hid (w.alloc (.cells #[.int .i64 (U : Int), .int .i64 (D : Int)] 56) = w1) := ⟨_, rfl⟩
  rw [Hw1.out] at hb1 hs1 c0 c1
  obtain ⟨p, Hp⟩ : ∃ p, Hid (w.heap.size = p) := ⟨_, rfl⟩
  have HB1 := Lib.hid hb1
  rw [Hp.out] at c0 c1 hs1
  have K : Hid (∀ W, Below w1.heap.size w1 W → W.cell? ⟨p, 0, none⟩ = some (.int .i64 (U : Int)) ∧ W.cell? ⟨p, 1, none⟩ = some (.int .i64 (D : Int))) := fun W h =>
    ⟨(h.cell (p := ⟨p, 0, none⟩) (by rw [hs1]; exact Nat.lt_succ_self _)).trans c0, (h.cell (p := ⟨p, 1, none⟩) (by rw [hs1]; exact Nat.lt_succ_self _)).trans c1⟩
  clear hb1 hs1 hT
  go_enter Try.func72, Try.ntmps72
  go_wp2
  rw [Hw1.out, Hp.out]
  go_region_held3 (fun W' => W'.cell? ⟨p, 0, none⟩ = some (.int .i64 (U : Int)) ∧ W'.cell? ⟨p, 1, none⟩ = some (.int .i64 (D : Int)))
    (first
      | go_keep
      | exact K.out _ hba
      | exact K.out _ hbc
      | exact K.out _ hbe)
    (first
      | (go_at_call 73
         refine (H2.out _).mono ?_
         rintro e wp ⟨rfl, rfl⟩)
      | (go_at_call 48
         with_reducible refine (H1.out _).mono ?_
         rintro e wa ⟨rfl, hqa⟩
         have hba : Below w1.heap.size w1 wa := belowd hqa)
      | (go_at_call 48
         with_reducible refine (H3.out _).mono ?_
         rintro e wc ⟨rfl, hqc⟩
         have hbc : Below w1.heap.size w1 wc := hba.trans (hqc.mono hba.size)))
  have HB : Hid (Below w.heap.size w wc) := HB1.out.trans (hbc.mono HB1.out.size)
  have q1 : IntKind.i64.wrap (q : Int) = (q : Int) := IntWalk.i64_in _ (by omega)
  have q2 : IntKind.i64.wrap ((x : Int) - (q : Int)) = (r : Int) := by rw [e3]; exact IntWalk.i64_in _ (by omega)
  go_wp2
  go_ret
  exact ⟨ret_int (by first | rfl | (simp only [q1, q2])), HB.out⟩
/-- A chance, as the document has it. -/
def chB (u d : Int) : Bool := decide (0 ≤ u) && decide (u ≤ d) && (decide (1 ≤ d) && decide (d ≤ 10))
theorem chB_get {u d : Int} (h : chB u d = true) : ∃ U D : Nat, u = U ∧ d = D ∧ U ≤ D ∧ 1 ≤ D ∧ D ≤ 10 := by
  simp only [chB, Bool.and_eq_true, decide_eq_true_eq] at h
  exact ⟨u.toNat, d.toNat, by omega, by omega, by omega, by omega, by omega⟩
theorem iChance_any (u d : Int) (w : World) :
    Calls Try.prog 43 #[.agg #[.int .i64 u, .int .i64 d]] w fun e w' => e = .returned (.bool (chB u d)) ∧ Below w.heap.size w w' := by
  have HB1 : Hid (Below w.heap.size w (w.alloc (.cells #[.int .i64 u, .int .i64 d] 56))) := (Below.refl _ _).alloc (Nat.le_refl _) _
  by_cases h1 : 0 ≤ u <;> by_cases h2 : u ≤ d <;> by_cases h3 : 1 ≤ d <;> by_cases h4 : d ≤ 10
  all_goals first
    | (exfalso; omega)
    | (go_enter Try.func43, Try.ntmps43
       go_wp2
       go_ret
       exact ⟨ret_bool (by simp [chB] <;> omega), HB1.out⟩)
end Go.Proofs.Ythphboeboiallab
