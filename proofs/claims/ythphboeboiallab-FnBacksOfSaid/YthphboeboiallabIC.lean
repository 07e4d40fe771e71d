/-
  Fractions in lowest terms: the model's, the laws' and the program's functions.
  Conditions: numbers that are not negative, below 2^61, the lower one at least 1.
-/
import Derived.Test.YthphboeboiallabIB
import Derived.Recover
import Derived.Laws.NewBlocks
namespace Go.Proofs.Ythphboeboiallab
open Go.ChangeShapes Go.WideShapes Go.ChangeAt Go.RowKit
set_option linter.unusedVariables false
set_option maxRecDepth 4000

theorem frz_parts {u v x y : Nat} (h : frz u v = (x, y)) : u / Nat.gcd u v = x ∧ v / Nat.gcd u v = y := by
  unfold frz at h
  injection h with h1 h2
  exact ⟨h1, h2⟩
theorem gcd_one {u v : Nat} (hv : 1 ≤ v) : 1 ≤ Nat.gcd u v := Nat.gcd_pos_of_pos_right _ (by omega)
theorem div_cast {u g x : Nat} (h : u / g = x) : (u : Int).tdiv (g : Int) = (x : Int) := by rw [← h]; exact (Int.ofNat_tdiv u g).symm
theorem div_le {u g x : Nat} (h : u / g = x) : x ≤ u := by rw [← h]; exact Nat.div_le_self _ _
/-- A fraction as a function answers it. -/
def FrA (x y : Nat) (w : World) (e : Ending) (w' : World) : Prop := e = .returned (.agg #[.int .i64 x, .int .i64 y]) ∧ Below w.heap.size w w'

set_option maxHeartbeats 800000 in
theorem sFrac_any (u v x y : Nat) (w : World) (hu : u ≤ 2000000000000000000) (hv : v ≤ 2000000000000000000) (h1 : 1 ≤ v) (h : frz u v = (x, y)) :
    Calls Try.prog 49 #[.int .i64 u, .int .i64 v] w (FrA x y w) := by
  obtain ⟨g, Hg⟩ : ∃ g, Hid (Nat.gcd u v = g) := ⟨_, rfl⟩
  have hp := frz_parts h
  have hg := gcd_one (u := u) h1
  rw [Hg.out] at hp hg
  have e1 := div_cast hp.1
  have e2 := div_cast hp.2
  have l1 := div_le hp.1
  have l2 := div_le hp.2
  have t1 : ¬ (g : Int) = 0 := by omega
  have HC := Lib.hid (fun W => sGcd_any u v W (by omega) (by omega))
  rw [Hg.out] at HC
  clear hp h
  go_enter Try.func49, Try.ntmps49
  go_wp2_with fail
  refine (HC.out _).mono ?_
  rintro e w1 ⟨rfl, rfl⟩
  go_wp2
  go_region
  go_wp2
  exact bodyPost_ret (v := .agg #[.int .i64 x, .int .i64 y]) (by simp [results, Try.results49, go_sem]) rfl ⟨rfl, ((Below.refl _ _).alloc (Nat.le_refl _) _).drew⟩
set_option maxHeartbeats 800000 in
theorem lFrac_any (u v x y : Nat) (w : World) (hu : u ≤ 2000000000000000000) (hv : v ≤ 2000000000000000000) (h1 : 1 ≤ v) (h : frz u v = (x, y)) :
    Calls Try.prog 20 #[.int .i64 u, .int .i64 v] w (FrA x y w) := by
  obtain ⟨g, Hg⟩ : ∃ g, Hid (Nat.gcd u v = g) := ⟨_, rfl⟩
  have hp := frz_parts h
  have hg := gcd_one (u := u) h1
  rw [Hg.out] at hp hg
  have e1 := div_cast hp.1
  have e2 := div_cast hp.2
  have l1 := div_le hp.1
  have l2 := div_le hp.2
  have t1 : ¬ (g : Int) = 0 := by omega
  have HC := Lib.hid (fun W => lDivisor_any u v W (by omega) (by omega))
  rw [Hg.out] at HC
  clear hp h
  go_enter Try.func20, Try.ntmps20
  go_wp2_with fail
  refine (HC.out _).mono ?_
  rintro e w1 ⟨rfl, rfl⟩
  go_wp2
  go_region
  go_wp2
  exact bodyPost_ret (v := .agg #[.int .i64 x, .int .i64 y]) (by simp [results, Try.results20, go_sem]) rfl ⟨rfl, ((Below.refl _ _).alloc (Nat.le_refl _) _).drew⟩

/-- What the deferred call leaves: both parts divided by what they have in common. -/
def RedR (w : World) (p x y : Nat) (e : Ending) (w' : World) : Prop :=
  e = .returned (.tuple #[]) ∧ ∃ q, w' = ((w.drewN q).setCell ⟨p, 0, none⟩ (.int .i64 x)).setCell ⟨p, 1, none⟩ (.int .i64 y)
set_option maxHeartbeats 800000 in
theorem reduce_any (p u v x y : Nat) (m : FrameMode) (w : World) (hu : u ≤ 2000000000000000000) (hv : v ≤ 2000000000000000000) (h1 : 1 ≤ v) (h : frz u v = (x, y))
    (c0 : w.cell? ⟨p, 0, none⟩ = some (.int .i64 u)) (c1 : w.cell? ⟨p, 1, none⟩ = some (.int .i64 v)) (f0 : w.frozen? ⟨p, 0, none⟩ = false) (f1 : w.frozen? ⟨p, 1, none⟩ = false) :
    CallsD Try.prog 69 #[.pointer (some ⟨p, 0, none⟩)] m w fun e u' w' => u' = m ∧ RedR w p x y e w' := by
  obtain ⟨g, Hg⟩ : ∃ g, Hid (Nat.gcd u v = g) := ⟨_, rfl⟩
  have hp := frz_parts h
  have hg := gcd_one (u := u) h1
  rw [Hg.out] at hp hg
  have e1 := div_cast hp.1
  have e2 := div_cast hp.2
  have l1 := div_le hp.1
  have l2 := div_le hp.2
  have t1 : ¬ (g : Int) = 0 := by omega
  have HC := Lib.hid (fun W => commonFactor_any u v W (by omega) (by omega))
  rw [Hg.out] at HC
  clear hp h
  go_enter_d Try.func69, Try.ntmps69
  go_wp2
  go_quiet (exact Calls.quiet_of (HC.out _))
  go_wp2
  go_end0
  exact ⟨rfl, nq, rfl⟩
set_option maxHeartbeats 800000 in
theorem iFrac_any (u v x y : Nat) (w : World) (hu : u ≤ 2000000000000000000) (hv : v ≤ 2000000000000000000) (h1 : 1 ≤ v) (h : frz u v = (x, y)) :
    Calls Try.prog 46 #[.int .i64 u, .int .i64 v] w (FrA x y w) := by
  go_enter_defers Try.func46, Try.ntmps46
  go_wp2
  obtain ⟨W, HW⟩ : ∃ W, Hid (w.alloc (.cells #[.int .i64 u, .int .i64 v] 30) = W) := ⟨_, rfl⟩
  have hh : W.heap[w.heap.size]? = some (.cells #[.int .i64 u, .int .i64 v] 30 (0, 0)) := by rw [← HW.out]; exact heap_alloc_new w _
  have hB : Below w.heap.size w W := by rw [← HW.out]; exact (Below.refl _ _).alloc (Nat.le_refl _) _
  rw [HW.out]
  obtain ⟨p, Hp⟩ : ∃ p, Hid (w.heap.size = p) := ⟨_, rfl⟩
  rw [Hp.out] at hh hB ⊢
  refine leaves_cons (f := 69) (args := #[.pointer (some ⟨p, 0, none⟩)]) (by simp) (by simp [go_sem]) ?_
  refine (reduce_any p u v x y .returning W hu hv h1 h (by simp [World.cell?, hh]) (by simp [World.cell?, hh]) (by simp [World.frozen?, hh]) (by simp [World.frozen?, hh])).mono ?_
  rintro e u' w'' ⟨rfl, rfl, q, rfl⟩
  have d0 : (((W.drewN q).setCell ⟨p, 0, none⟩ (.int .i64 x)).setCell ⟨p, 1, none⟩ (.int .i64 y)).cell? ⟨p, 0, none⟩ = some (.int .i64 x) := by
    rw [World.cell?_setCell_other _ ⟨p, 1, none⟩ _ _ (by intro e; injection e with e1 e2; omega)]
    exact World.cell?_setCell_same _ ⟨p, 0, none⟩ (.int .i64 x) (show W.cell? ⟨p, 0, none⟩ = some (.int .i64 u) by simp [World.cell?, hh])
  have d1 : (((W.drewN q).setCell ⟨p, 0, none⟩ (.int .i64 x)).setCell ⟨p, 1, none⟩ (.int .i64 y)).cell? ⟨p, 1, none⟩ = some (.int .i64 y) := by
    refine World.cell?_setCell_same _ ⟨p, 1, none⟩ (.int .i64 y) (u := .int .i64 v) ?_
    rw [World.cell?_setCell_other _ ⟨p, 0, none⟩ _ _ (by intro e; injection e with e1 e2; omega)]
    show W.cell? ⟨p, 1, none⟩ = some (.int .i64 v)
    simp [World.cell?, hh]
  have hz : Below w.heap.size w (((W.drewN q).setCell ⟨p, 0, none⟩ (.int .i64 x)).setCell ⟨p, 1, none⟩ (.int .i64 y)) := by
    rw [← Hp.out] at hB
    exact ((below_drewN hB q).setCell (by simp [Hp.out]) _).setCell (by simp [Hp.out]) _
  generalize (((W.drewN q).setCell ⟨p, 0, none⟩ (.int .i64 x)).setCell ⟨p, 1, none⟩ (.int .i64 y)) = W2 at d0 d1 hz
  refine ⟨.agg #[.int .i64 x, .int .i64 y], ?_, rfl, hz⟩
  simp [results, Try.results46, go_sem, d0, d1]
end Go.Proofs.Ythphboeboiallab
