/-
  All lists of so many places, in order: plain mathematics.
  Conditions: none beyond what each theorem states.
-/
import Derived.Test.YthphboeboiallabU
namespace Go.Proofs.Ythphboeboiallab
open Go.RowKit
set_option linter.unusedVariables false

/-- The lists that begin with one of the first p places. -/
def loP (g : List Int → List (List Int)) (zs : List Int) (p : Nat) : List (List Int) := (List.range p).flatMap fun q => (g (zs.drop q)).map (zs.getD q 0 :: ·)
/-- All lists of k places, each as often as it may be. -/
def loL : Nat → List Int → List (List Int)
  | 0, _ => [[]]
  | k + 1, zs => loP (loL k) zs zs.length
theorem loP_zero (g : List Int → List (List Int)) (zs : List Int) : loP g zs 0 = [] := rfl
theorem loP_succ (g : List Int → List (List Int)) (zs : List Int) (p : Nat) : loP g zs (p + 1) = loP g zs p ++ (g (zs.drop p)).map (zs.getD p 0 :: ·) := by
  unfold loP
  rw [List.range_succ, List.flatMap_append]
  simp
theorem loP_cons (g : List Int → List (List Int)) (a : Int) (r : List Int) (p : Nat) : loP g (a :: r) (p + 1) = (g (a :: r)).map (a :: ·) ++ loP g r p := by
  unfold loP
  rw [List.range_succ_eq_map, List.flatMap_cons, List.flatMap_map]
  simp
def smN (f : Nat → Nat) : Nat → Nat
  | 0 => 0
  | n + 1 => f (n + 1) + smN f n
def loN : Nat → Nat → Nat
  | 0 => fun _ => 1
  | k + 1 => smN (loN k)
theorem loL_len : ∀ (k : Nat) (zs : List Int), (loL k zs).length = loN k zs.length
  | 0, zs => rfl
  | k + 1, [] => rfl
  | k + 1, a :: r => by
    show (loP (loL k) (a :: r) (r.length + 1)).length = _
    rw [loP_cons, List.length_append, List.length_map, loL_len k (a :: r), show loP (loL k) r r.length = loL (k + 1) r from rfl, loL_len (k + 1) r]
    rfl
theorem loN_all : ((List.range 5).all fun k => (List.range 10).all fun n => decide (loN k n ≤ 1000)) = true := by decide +kernel
theorem loL_le {k : Nat} {zs : List Int} (hk : k ≤ 4) (hz : zs.length ≤ 9) : (loL k zs).length ≤ 1000 := by
  have h := loN_all
  simp only [List.all_eq_true, List.mem_range, decide_eq_true_eq] at h
  rw [loL_len]
  exact h k (by omega) zs.length (by omega)
theorem loP_mono (g : List Int → List (List Int)) (zs : List Int) (p : Nat) : ∀ d, (loP g zs p).length ≤ (loP g zs (p + d)).length
  | 0 => Nat.le_refl _
  | d + 1 => by
    rw [← Nat.add_assoc, loP_succ, List.length_append]
    have := loP_mono g zs p d
    omega
theorem loP_le {k p : Nat} {zs : List Int} (hk : k + 1 ≤ 4) (hz : zs.length ≤ 9) (hp : p ≤ zs.length) : (loP (loL k) zs p).length ≤ 1000 := by
  have h1 := loP_mono (loL k) zs p (zs.length - p)
  rw [show p + (zs.length - p) = zs.length by omega] at h1
  exact Nat.le_trans h1 (loL_le (k := k + 1) hk hz)
theorem loL_mem : ∀ {k : Nat} {zs l : List Int}, l ∈ loL k zs → l.length = k ∧ ∀ u ∈ l, u ∈ zs
  | 0, zs, l, h => by
    have e : l = [] := by simpa [loL] using h
    subst e
    exact ⟨rfl, by simp⟩
  | k + 1, zs, l, h => by
    rw [loL, loP, List.mem_flatMap] at h
    obtain ⟨q, hq, h⟩ := h
    obtain ⟨r, hr, rfl⟩ := List.mem_map.1 h
    have hq := List.mem_range.1 hq
    obtain ⟨h1, h2⟩ := loL_mem hr
    refine ⟨by simp [h1], fun u hu => ?_⟩
    rcases List.mem_cons.1 hu with rfl | hu
    · simp [List.getD, hq]
    · exact List.mem_of_mem_drop (h2 u hu)
theorem loL_row {k j : Nat} {zs : List Int} (hj : j < (loL k zs).length) : ((loL k zs).getD j []).length = k ∧ ∀ u ∈ (loL k zs).getD j [], u ∈ zs :=
  loL_mem (by simp [List.getD, hj])
theorem loL_one : ∀ zs : List Int, loL 1 zs = zs.map fun t => [t]
  | [] => rfl
  | a :: r => by
    show loP (loL 0) (a :: r) (r.length + 1) = _
    rw [loP_cons, show loP (loL 0) r r.length = loL 1 r from rfl, loL_one r]
    rfl
theorem loL_pos : ∀ (k : Nat) {zs : List Int}, 1 ≤ zs.length → 1 ≤ (loL k zs).length
  | 0, zs, _ => by simp [loL]
  | k + 1, zs, h => by
    match zs, h with
    | a :: r, h =>
      show 1 ≤ (loP (loL k) (a :: r) (r.length + 1)).length
      rw [loP_cons, List.length_append, List.length_map]
      have := loL_pos k (zs := a :: r) (by simp)
      omega
end Go.Proofs.Ythphboeboiallab
