/-
  The mathematics of busy helpers: fractions in lowest terms, how many are busy, calls lost.
  Conditions: loads and helpers within the document's limits, where a theorem says so.
-/
import Derived.Lib.Hide
namespace Go.Proofs.Ythphboeboiallab
set_option linter.unusedVariables false

/-- A fraction in lowest terms. -/
def frz (u v : Nat) : Nat × Nat := (u / Nat.gcd u v, v / Nat.gcd u v)
def bzF : Nat → Nat
  | 0 => 1
  | n + 1 => bzF n * (n + 1)
def bzP (x : Nat) : Nat → Nat
  | 0 => 1
  | n + 1 => bzP x n * x
/-- How long j of k are busy, beside the other numbers. -/
def bzW (a d k j : Nat) : Nat := bzP a j * bzP d (k - j) * (bzF k / bzF j)
def bzS (f : Nat → Nat) : Nat → Nat
  | 0 => 0
  | n + 1 => bzS f n + f n
/-- The same as the program finds it. -/
def bzO (d : Nat) : Nat → Nat
  | 0 => 1
  | n + 1 => bzO d n * (d * (n + 1))
def bzI (a d k : Nat) : Nat → Nat
  | 0 => bzO d k
  | j + 1 => bzI a d k j / (d * (j + 1)) * a
/-- The answers. -/
def bzB (a d k j : Nat) : Nat × Nat := frz (bzW a d k j) (bzS (bzW a d k) (k + 1))
def bzM (a d k : Nat) : Nat × Nat := frz (bzS (fun i => i * bzW a d k i) (k + 1)) (bzS (bzW a d k) (k + 1))
def bzL (a d : Nat) : Nat → Nat × Nat
  | 0 => (1, 1)
  | i + 1 => frz (a * (bzL a d i).1) ((i + 1) * d * (bzL a d i).2 + a * (bzL a d i).1)
/-- Shares added up, one behind the other. -/
def plz (p q : Nat × Nat) : Nat × Nat := frz (p.1 * q.2 + q.1 * p.2) (p.2 * q.2)
def bzT (a d k : Nat) : Nat → Nat × Nat
  | 0 => (0, 1)
  | n + 1 => plz (bzT a d k n) (bzB a d k n)

theorem bzO_bd : ∀ d, d < 11 → ∀ k, k < 6 → bzO d k ≤ 12000000 := by decide +kernel
theorem bzO_pos : ∀ d, d < 11 → 1 ≤ d → ∀ k, k < 6 → 1 ≤ bzO d k := by decide +kernel
theorem bzI_eq : ∀ a, a < 11 → ∀ d, d < 11 → 1 ≤ d → ∀ k, k < 6 → ∀ j, j < k + 1 → bzI a d k j = bzW a d k j := by decide +kernel
theorem bzW_bd : ∀ a, a < 11 → ∀ d, d < 11 → 1 ≤ d → ∀ k, k < 6 → ∀ j, j < k + 1 → bzW a d k j ≤ 12000000 := by decide +kernel
theorem bzF_bd : ∀ k, k < 6 → 1 ≤ bzF k ∧ bzF k ≤ 120 := by decide +kernel
theorem bzP_bd : ∀ a, a < 11 → ∀ k, k < 6 → bzP a k ≤ 100000 := by decide +kernel
def okS_bd (a d k j : Nat) : Bool := decide (bzS (bzW a d k) j ≤ 60000000 ∧ bzS (fun i => i * bzW a d k i) j ≤ 300000000)
theorem okS_bd_all : ∀ a, a < 11 → ∀ d, d < 11 → 1 ≤ d → ∀ k, k < 6 → ∀ j, j < k + 2 → okS_bd a d k j = true := by decide +kernel
theorem bzS_bd : ∀ a, a < 11 → ∀ d, d < 11 → 1 ≤ d → ∀ k, k < 6 → ∀ j, j < k + 2 → bzS (bzW a d k) j ≤ 60000000 ∧ bzS (fun i => i * bzW a d k i) j ≤ 300000000 := fun x0 x1 x2 x3 x4 x5 x6 x7 x8 => of_decide_eq_true (okS_bd_all x0 x1 x2 x3 x4 x5 x6 x7 x8)
theorem bzS_pos : ∀ a, a < 11 → ∀ d, d < 11 → 1 ≤ d → ∀ k, k < 6 → 1 ≤ bzS (bzW a d k) (k + 1) := by decide +kernel
def okL_bd (a d k : Nat) : Bool := decide ((bzL a d k).1 ≤ 60000000 ∧ 1 ≤ (bzL a d k).2 ∧ (bzL a d k).2 ≤ 60000000 ∧ (bzL a d k).1 ≤ (bzL a d k).2)
theorem okL_bd_all : ∀ a, a < 11 → ∀ d, d < 11 → 1 ≤ d → ∀ k, k < 6 → okL_bd a d k = true := by decide +kernel
theorem bzL_bd : ∀ a, a < 11 → ∀ d, d < 11 → 1 ≤ d → ∀ k, k < 6 → (bzL a d k).1 ≤ 60000000 ∧ 1 ≤ (bzL a d k).2 ∧ (bzL a d k).2 ≤ 60000000 ∧ (bzL a d k).1 ≤ (bzL a d k).2 := fun x0 x1 x2 x3 x4 x5 x6 => of_decide_eq_true (okL_bd_all x0 x1 x2 x3 x4 x5 x6)
theorem bzL_bz : ∀ a, a < 11 → ∀ d, d < 11 → 1 ≤ d → ∀ k, k < 6 → bzL a d k = bzB a d k k := by decide +kernel
def okB_bd (a d k j : Nat) : Bool := decide ((bzB a d k j).1 ≤ 60000000 ∧ 1 ≤ (bzB a d k j).2 ∧ (bzB a d k j).2 ≤ 60000000)
theorem okB_bd_all : ∀ a, a < 11 → ∀ d, d < 11 → 1 ≤ d → ∀ k, k < 6 → ∀ j, j < k + 1 → okB_bd a d k j = true := by decide +kernel
theorem bzB_bd : ∀ a, a < 11 → ∀ d, d < 11 → 1 ≤ d → ∀ k, k < 6 → ∀ j, j < k + 1 → (bzB a d k j).1 ≤ 60000000 ∧ 1 ≤ (bzB a d k j).2 ∧ (bzB a d k j).2 ≤ 60000000 := fun x0 x1 x2 x3 x4 x5 x6 x7 x8 => of_decide_eq_true (okB_bd_all x0 x1 x2 x3 x4 x5 x6 x7 x8)
def okT_bd (a d k j : Nat) : Bool := decide ((bzT a d k j).1 ≤ 60000000 ∧ 1 ≤ (bzT a d k j).2 ∧ (bzT a d k j).2 ≤ 60000000)
theorem okT_bd_all : ∀ a, a < 11 → ∀ d, d < 11 → 1 ≤ d → ∀ k, k < 6 → ∀ j, j < k + 2 → okT_bd a d k j = true := by decide +kernel
theorem bzT_bd : ∀ a, a < 11 → ∀ d, d < 11 → 1 ≤ d → ∀ k, k < 6 → ∀ j, j < k + 2 → (bzT a d k j).1 ≤ 60000000 ∧ 1 ≤ (bzT a d k j).2 ∧ (bzT a d k j).2 ≤ 60000000 := fun x0 x1 x2 x3 x4 x5 x6 x7 x8 => of_decide_eq_true (okT_bd_all x0 x1 x2 x3 x4 x5 x6 x7 x8)
theorem bzT_one : ∀ a, a < 11 → ∀ d, d < 11 → 1 ≤ d → ∀ k, k < 6 → bzT a d k (k + 1) = (1, 1) := by decide +kernel
theorem bzL_less : ∀ a, a < 11 → ∀ d, d < 11 → 1 ≤ d → ∀ k, k < 5 → (bzL a d (k + 1)).1 * (bzL a d k).2 ≤ (bzL a d k).1 * (bzL a d (k + 1)).2 := by decide +kernel
theorem bzM_load : ∀ a, a < 11 → ∀ d, d < 11 → 1 ≤ d → ∀ k, k < 6 → bzM a d k = frz (a * ((bzL a d k).2 - (bzL a d k).1)) (d * (bzL a d k).2) := by decide +kernel
theorem bzL_twice : ∀ a, a < 6 → ∀ d, d < 11 → 1 ≤ d → ∀ k, k < 6 → (bzL a d k).1 * (bzL (2 * a) d k).2 ≤ (bzL (2 * a) d k).1 * (bzL a d k).2 := by decide +kernel
theorem bzL_both : ∀ a, a < 6 → ∀ d, d < 6 → 1 ≤ d → ∀ k, k < 6 → bzL (2 * a) (2 * d) k = bzL a d k := by decide +kernel
theorem frz_zero : frz 0 1 = (0, 1) := by decide +kernel
theorem frz_one : frz 1 1 = (1, 1) := by decide +kernel
end Go.Proofs.Ythphboeboiallab
