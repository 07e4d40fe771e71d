/-
  Sums from the other end.
  Conditions: homes that are valid.
-/
import Derived.Test.YtoohfipicmdohabS11
namespace Go.Proofs.Ytoohfipicmdohab
open Go.ChangeShapes Go.WideShapes Go.ChangeAt Go.RowKit
set_option linter.unusedVariables false

theorem gapI_mirr (x p : Int) : gapI (50 - x) (50 - p) = gapI x p := by unfold gapI; split <;> split <;> omega
theorem dst_mirr (x : Int) : ∀ (r : List Int) (p : Int), dst (50 - p) (r.map fun q => 50 - q) (50 - x) = dst p r x
  | [], p => gapI_mirr x p
  | q :: r, p => by simp only [List.map_cons, dst, gapI_mirr, dst_mirr x r q]
theorem sum_rev (l : List Int) : l.reverse.sum = l.sum := by
  induction l with
  | nil => rfl
  | cons x l ih => rw [List.reverse_cons, List.sum_append, ih]; simp; omega
theorem dsum_mirr (p : Int) (r l : List Int) : dsum (50 - p) (r.map fun q => 50 - q) (mirr l) = dsum p r l := by
  unfold dsum mirr
  rw [List.map_reverse, sum_rev, List.map_map]
  congr 1
  exact List.map_congr_left fun x _ => dst_mirr x r p
theorem scut_mirr_le {zs : List Int} (hv : vh zs = true) (t : Nat) : scut (mirr zs) (t + 1) zs.length ≤ scut zs (t + 1) zs.length := by
  by_cases h0 : zs.length = 0
  · rw [h0, scut_small _ (by omega), scut_small _ (by omega)]; exact Int.le_refl _
  · obtain ⟨j, J, a, b, d⟩ := scut_places zs t zs.length (by omega) (Nat.le_refl _)
    have hs := mirr_sorted (vh_iff.1 hv).2.1
    have h1 := scut_le_places hs (k := t + 1) (n := zs.length) (50 - zs.getD j 0) ((J.map fun i => zs.getD i 0).map fun q => 50 - q) (by simp; omega) (by rw [mirr_length]; exact Nat.le_refl _)
    rw [List.take_of_length_le (by rw [mirr_length]; exact Nat.le_refl _), dsum_mirr] at h1
    rw [List.take_of_length_le (Nat.le_refl _)] at d
    omega
theorem lsum_mirr {zs : List Int} {k : Int} (hv : vh zs = true) (hk : vk k = true) : lsum (mirr zs) k = lsum zs k := by
  rw [lsum_eq, lsum_eq, slsum_yes hv hk, slsum_yes (mirr_vh hv) hk]
  simp only [vk, Bool.and_eq_true, decide_eq_true_eq] at hk
  obtain ⟨t, ht⟩ : ∃ t, k.toNat = t + 1 := ⟨k.toNat - 1, by omega⟩
  rw [ht]
  have h1 := scut_mirr_le hv t
  have h2 := scut_mirr_le (mirr_vh hv) t
  rw [mirr_mirr] at h2
  rw [mirr_length] at h2 ⊢
  omega
theorem lsum_more {zs : List Int} {k : Int} (hv : vh zs = true) (hk : vk k = true) : lsum zs (k + 1) < 0 ∨ (0 ≤ lsum zs (k + 1) ∧ lsum zs (k + 1) ≤ lsum zs k) := by
  by_cases hk1 : vk (k + 1) = true
  · refine .inr ⟨lsum_nonneg hv hk1, ?_⟩
    rw [lsum_eq, lsum_eq, slsum_yes hv hk, slsum_yes hv hk1]
    simp only [vk, Bool.and_eq_true, decide_eq_true_eq] at hk
    exact scut_mono zs (by omega) (by omega)
  · refine .inl ?_
    rw [lsum_no (fun h => hk1 h.2)]
    decide
theorem stri_or {zs : List Int} {k : Int} : stri zs k < 0 ∨ (0 ≤ stri zs k ∧ stri zs k = lsum zs k) := by
  cases h : vt zs k with
  | false => rw [stri_no h]; exact .inl (by decide)
  | true =>
    have h1 := stri_lsum h
    refine .inr ⟨?_, h1⟩
    rw [stri_yes h]
    exact (tmin_bd _ _ _ _).1
end Go.Proofs.Ytoohfipicmdohab
