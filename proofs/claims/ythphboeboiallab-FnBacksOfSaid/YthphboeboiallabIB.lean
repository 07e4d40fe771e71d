/-
  The greatest common factor and fractions in lowest terms: the program's, the model's and the laws' functions.
  Conditions: numbers that are not negative, below 2^62, one of them at least 1 for a fraction.
-/
import Derived.Test.YthphboeboiallabUA
import Derived.Test.YthphboeboiallabIA
import Derived.Defers
import Derived.Deep.CutBlock
namespace Go.Proofs.Ythphboeboiallab
open Go.ChangeShapes Go.WideShapes Go.ChangeAt Go.RowKit
set_option linter.unusedVariables false
set_option maxRecDepth 4000

def GcdR (w : World) (g : Nat) (s0 s1 : Value) (wr : World) : Prop :=
  ∃ a b q : Nat, s0 = .int .i64 a ∧ s1 = .int .i64 b ∧ Nat.gcd a b = g ∧ a ≤ 4000000000000000000 ∧ b ≤ 4000000000000000000 ∧ wr = w.drewN q
def GcdS (w : World) (g : Nat) (s0 s1 : Value) (wr : World) : Prop :=
  ∃ a b : Nat, s0 = .int .i64 a ∧ s1 = .int .i64 b ∧ Nat.gcd a b = g ∧ a ≤ 4000000000000000000 ∧ b ≤ 4000000000000000000 ∧ w = wr
theorem gcd_step {a b r g : Nat} (h : Nat.gcd a b = g) (hr : a % b = r) : Nat.gcd b r = g := by
  rw [← h, ← hr, Nat.gcd_comm a b, Nat.gcd_rec b a, Nat.gcd_comm]

set_option maxHeartbeats 400000 in
theorem commonFactor_any (a b : Nat) (w : World) (ha : a ≤ 4000000000000000000) (hb : b ≤ 4000000000000000000) :
    Calls Try.prog 82 #[.int .i64 a, .int .i64 b] w fun e w' => e = .returned (.int .i64 (Nat.gcd a b : Nat)) ∧ ∃ q, w' = w.drewN q := by
  obtain ⟨g, Hg⟩ : ∃ g, Hid (Nat.gcd a b = g) := ⟨_, rfl⟩
  rw [Hg.out]
  go_enter Try.func82, Try.ntmps82
  go_wp2
  go_loopw [0, 1] (fun s0 s1 wr => GcdR w g s0 s1 wr) (fun s0 s1 _ => (intOf s1).toNat)
  case atStart => exact ⟨a, b, 0, rfl, rfl, Hg.out, ha, hb, rfl⟩
  case round =>
    obtain ⟨a1, b1, q, rfl, rfl, hg1, ha1, hb1, rfl⟩ := hrel
    have Hg1 := Lib.hid hg1
    clear hg1
    by_cases h0 : b1 = 0
    · subst h0
      have e : a1 = g := by have := Hg1.out; rw [Nat.gcd_zero_right] at this; exact this
      subst e
      clear Hg1 Hg
      go_wp2
      go_ret
      exact ⟨rfl, q, rfl⟩
    · obtain ⟨r, Hr⟩ : ∃ r, Hid (a1 % b1 = r) := ⟨_, rfl⟩
      have hrb : r < b1 := by rw [← Hr.out]; exact Nat.mod_lt _ (by omega)
      have e1 : (a1 : Int).tmod (b1 : Int) = (r : Int) := by rw [← Hr.out]; exact (Int.ofNat_tmod a1 b1).symm
      have Hn := Lib.hid (gcd_step Hg1.out Hr.out)
      have t1 : ((b1 : Int) != 0) = true := by rw [bne_iff_ne]; omega
      have t2 : ¬ (b1 : Int) = 0 := by omega
      go_wp2
      go_quiet (fail)
      go_wp2
      go_roundw
      case rel => exact ⟨b1, r, _, rfl, rfl, Hn.out, hb1, by omega, World.drewN_drewN _ _ _⟩
      case measure => simp [intOf]; omega
set_option maxHeartbeats 400000 in
theorem sGcd_any (a b : Nat) (w : World) (ha : a ≤ 4000000000000000000) (hb : b ≤ 4000000000000000000) :
    Calls Try.prog 74 #[.int .i64 a, .int .i64 b] w fun e w' => e = .returned (.int .i64 (Nat.gcd a b : Nat)) ∧ w = w' := by
  obtain ⟨g, Hg⟩ : ∃ g, Hid (Nat.gcd a b = g) := ⟨_, rfl⟩
  rw [Hg.out]
  go_enter Try.func74, Try.ntmps74
  go_wp2
  go_loopw [0, 1] (fun s0 s1 wr => GcdS w g s0 s1 wr) (fun s0 s1 _ => (intOf s1).toNat)
  case atStart => exact ⟨a, b, rfl, rfl, Hg.out, ha, hb, rfl⟩
  case round =>
    obtain ⟨a1, b1, rfl, rfl, hg1, ha1, hb1, rfl⟩ := hrel
    have Hg1 := Lib.hid hg1
    clear hg1
    by_cases h0 : b1 = 0
    · subst h0
      have e : a1 = g := by have := Hg1.out; rw [Nat.gcd_zero_right] at this; exact this
      subst e
      clear Hg1 Hg
      go_wp2
      go_ret
      exact ⟨rfl, rfl⟩
    · obtain ⟨r, Hr⟩ : ∃ r, Hid (a1 % b1 = r) := ⟨_, rfl⟩
      have hrb : r < b1 := by rw [← Hr.out]; exact Nat.mod_lt _ (by omega)
      have e1 : (a1 : Int).tmod (b1 : Int) = (r : Int) := by rw [← Hr.out]; exact (Int.ofNat_tmod a1 b1).symm
      have Hn := Lib.hid (gcd_step Hg1.out Hr.out)
      have t1 : ((b1 : Int) != 0) = true := by rw [bne_iff_ne]; omega
      have t2 : ¬ (b1 : Int) = 0 := by omega
      go_wp2
      go_roundw
      case rel => exact ⟨b1, r, rfl, rfl, Hn.out, hb1, by omega, rfl⟩
      case measure => simp [intOf]; omega
set_option maxHeartbeats 400000 in
theorem lDivisor_any (a b : Nat) (w : World) (ha : a ≤ 4000000000000000000) (hb : b ≤ 4000000000000000000) :
    Calls Try.prog 52 #[.int .i64 a, .int .i64 b] w fun e w' => e = .returned (.int .i64 (Nat.gcd a b : Nat)) ∧ w = w' := by
  obtain ⟨g, Hg⟩ : ∃ g, Hid (Nat.gcd a b = g) := ⟨_, rfl⟩
  rw [Hg.out]
  go_enter Try.func52, Try.ntmps52
  go_wp2
  go_loopw [0, 1] (fun s0 s1 wr => GcdS w g s0 s1 wr) (fun s0 s1 _ => (intOf s1).toNat)
  case atStart => exact ⟨a, b, rfl, rfl, Hg.out, ha, hb, rfl⟩
  case round =>
    obtain ⟨a1, b1, rfl, rfl, hg1, ha1, hb1, rfl⟩ := hrel
    have Hg1 := Lib.hid hg1
    clear hg1
    by_cases h0 : b1 = 0
    · subst h0
      have e : a1 = g := by have := Hg1.out; rw [Nat.gcd_zero_right] at this; exact this
      subst e
      clear Hg1 Hg
      go_wp2
      go_ret
      exact ⟨rfl, rfl⟩
    · obtain ⟨r, Hr⟩ : ∃ r, Hid (a1 % b1 = r) := ⟨_, rfl⟩
      have hrb : r < b1 := by rw [← Hr.out]; exact Nat.mod_lt _ (by omega)
      have e1 : (a1 : Int).tmod (b1 : Int) = (r : Int) := by rw [← Hr.out]; exact (Int.ofNat_tmod a1 b1).symm
      have Hn := Lib.hid (gcd_step Hg1.out Hr.out)
      have t1 : ((b1 : Int) != 0) = true := by rw [bne_iff_ne]; omega
      have t2 : ¬ (b1 : Int) = 0 := by omega
      go_wp2
      go_roundw
      case rel => exact ⟨b1, r, rfl, rfl, Hn.out, hb1, by omega, rfl⟩
      case measure => simp [intOf]; omega
end Go.Proofs.Ythphboeboiallab
