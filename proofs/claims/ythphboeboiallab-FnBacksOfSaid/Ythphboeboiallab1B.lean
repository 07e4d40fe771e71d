/-
  Plain mathematics of chapter 11: means as fractions in lowest terms, held against each other crosswise.
  Conditions: none beyond what each theorem states.
-/
import Derived.Test.Ythphboeboiallab1A
import Derived.Test.YthphboeboiallabIA
namespace Go.Proofs.Ythphboeboiallab
open Go.RowKit
set_option linter.unusedVariables false

theorem frz_cross {a b c d k : Nat} (hb : 0 < b) (hd : 0 < d) (h : a * d ≤ k * (c * b)) : (frz a b).1 * (frz c d).2 ≤ k * ((frz c d).1 * (frz a b).2) := by
  unfold frz
  have hg : 0 < Nat.gcd a b := Nat.gcd_pos_of_pos_right _ hb
  have hh : 0 < Nat.gcd c d := Nat.gcd_pos_of_pos_right _ hd
  obtain ⟨x, hx⟩ := Nat.gcd_dvd_left a b
  obtain ⟨y, hy⟩ := Nat.gcd_dvd_right a b
  obtain ⟨u, hu⟩ := Nat.gcd_dvd_left c d
  obtain ⟨v, hv⟩ := Nat.gcd_dvd_right c d
  generalize Nat.gcd a b = g at *
  generalize Nat.gcd c d = e at *
  subst hx hy hu hv
  simp only [Nat.mul_div_cancel_left _ hg, Nat.mul_div_cancel_left _ hh]
  have h1 : g * e * (x * v) ≤ g * e * (k * (u * y)) := by
    calc g * e * (x * v) = g * x * (e * v) := by rw [Nat.mul_mul_mul_comm]
      _ ≤ k * (e * u * (g * y)) := h
      _ = g * e * (k * (u * y)) := by
        rw [Nat.mul_mul_mul_comm e u g y, Nat.mul_comm e g, Nat.mul_left_comm]
  exact Nat.le_of_mul_le_mul_left h1 (Nat.mul_pos hg hh)
theorem frz_cross1 {a b c d : Nat} (hb : 0 < b) (hd : 0 < d) (h : a * d ≤ c * b) : (frz a b).1 * (frz c d).2 ≤ (frz c d).1 * (frz a b).2 := by
  have := frz_cross (a := a) (c := c) (k := 1) hb hd (by rw [Nat.one_mul]; exact h)
  rwa [Nat.one_mul] at this
theorem frz_le {a b n : Nat} (hb : 0 < b) (h : a ≤ n * b) : (frz a b).1 ≤ n * (frz a b).2 := by
  have h1 := frz_cross1 (a := a) (b := b) (c := n) (d := 1) hb (by omega) (by rw [Nat.mul_one]; exact h)
  have e : frz n 1 = (n, 1) := by unfold frz; simp
  rw [e] at h1
  simpa using h1
theorem frz_naught {b : Nat} (hb : 0 < b) : frz 0 b = (0, 1) := by unfold frz; simp [Nat.div_self hb]
theorem frz_int (n : Nat) : frz n 1 = (n, 1) := by unfold frz; simp
theorem frz_pos {a b : Nat} (hb : 0 < b) : 0 < (frz a b).2 := by
  unfold frz
  exact Nat.div_pos (Nat.le_of_dvd hb (Nat.gcd_dvd_right a b)) (Nat.gcd_pos_of_pos_right _ hb)
theorem frz_low {a b : Nat} : (frz a b).1 ≤ a ∧ (frz a b).2 ≤ b := ⟨Nat.div_le_self _ _, Nat.div_le_self _ _⟩

/-- The mean number of homes that are reached. -/
def mnB (nr : Int → Int → Bool) (U D : Nat) (zs ss : List Int) : Nat × Nat := frz (rcB nr U D zs ss) (D ^ ss.length)
theorem mnB_pos {nr : Int → Int → Bool} {U D : Nat} (hD : 1 ≤ D) (zs ss : List Int) : 0 < (mnB nr U D zs ss).2 := frz_pos (Nat.pow_pos hD)
theorem mnB_low {nr : Int → Int → Bool} {U D : Nat} (zs ss : List Int) : (mnB nr U D zs ss).1 ≤ zs.length * D ^ ss.length ∧ (mnB nr U D zs ss).2 ≤ D ^ ss.length :=
  ⟨Nat.le_trans frz_low.1 (wB_le zs ss), frz_low.2⟩
theorem mnB_homes {nr : Int → Int → Bool} {U D : Nat} (hD : 1 ≤ D) (zs ss : List Int) : (mnB nr U D zs ss).1 ≤ zs.length * (mnB nr U D zs ss).2 := frz_le (Nat.pow_pos hD) (wB_le zs ss)
theorem mnB_nil {nr : Int → Int → Bool} {U D : Nat} (zs : List Int) : mnB nr U D zs [] = (0, 1) := by
  unfold mnB rcB; rw [wB_nil]; exact frz_naught (by simp)
theorem mnB_none {nr : Int → Int → Bool} {U D : Nat} (hD : 1 ≤ D) (ss : List Int) : mnB nr U D [] ss = (0, 1) := frz_naught (Nat.pow_pos hD)
theorem mnB_busy {nr : Int → Int → Bool} (zs ss : List Int) : mnB nr 1 1 zs ss = (0, 1) := by
  unfold mnB rcB; rw [wB_busy zs ss (Nat.le_refl _)]; exact frz_naught (by simp)
theorem mnB_free {nr : Int → Int → Bool} (zs ss : List Int) : mnB nr 0 1 zs ss = (zs.countP fun x => decide (0 < nbB nr ss x), 1) := by
  unfold mnB rcB; rw [wB_free, Nat.one_pow, frz_int]
theorem mnB_less {nr : Int → Int → Bool} {U D : Nat} (h : U ≤ D) (hD : 1 ≤ D) (zs ss : List Int) (t : Int) : (mnB nr U D zs ss).1 * (mnB nr U D zs (ss ++ [t])).2 ≤ (mnB nr U D zs (ss ++ [t])).1 * (mnB nr U D zs ss).2 := by
  refine frz_cross1 (Nat.pow_pos hD) (Nat.pow_pos hD) ?_
  have h1 := rcB_less (nr := nr) h zs ss t
  rw [List.length_append, List.length_singleton, Nat.pow_succ, Nat.mul_comm _ D, ← Nat.mul_assoc]
  exact Nat.mul_le_mul_right _ h1
theorem mnB_fewer {nr : Int → Int → Bool} {U D : Nat} (hD : 1 ≤ D) (zs ys ss : List Int) : (mnB nr U D zs ss).1 * (mnB nr U D (zs ++ ys) ss).2 ≤ (mnB nr U D (zs ++ ys) ss).1 * (mnB nr U D zs ss).2 := by
  refine frz_cross1 (Nat.pow_pos hD) (Nat.pow_pos hD) ?_
  exact Nat.mul_le_mul_right _ (wB_take zs ys ss)
/-- Lists as long are held against each other by what they reach. -/
theorem mnB_as {nr : Int → Int → Bool} {U D k : Nat} (hD : 1 ≤ D) {zs a b : List Int} (hl : a.length = b.length) (h : rcB nr U D zs a ≤ k * rcB nr U D zs b) : (mnB nr U D zs a).1 * (mnB nr U D zs b).2 ≤ k * ((mnB nr U D zs b).1 * (mnB nr U D zs a).2) := by
  refine frz_cross (Nat.pow_pos hD) (Nat.pow_pos hD) ?_
  rw [hl, ← Nat.mul_assoc]
  exact Nat.mul_le_mul_right _ h
theorem rcB_perm {nr : Int → Int → Bool} {U D : Nat} {zs a b : List Int} (p : a.Perm b) : rcB nr U D zs a = rcB nr U D zs b := by
  unfold rcB; rw [p.length_eq, wB_perm p]
/-- What reaches more over the own bottom reaches more over any bottom, and so the other way about. -/
theorem wB_as {nr : Int → Int → Bool} {U D N : Nat} (hD : 1 ≤ D) {zs a b : List Int} {k : Nat} (hl : a.length = b.length) (hN : b.length ≤ N) : wB nr U D N zs a ≤ k * wB nr U D N zs b ↔ rcB nr U D zs a ≤ k * rcB nr U D zs b := by
  unfold rcB
  rw [← wB_scale (N := N) (k := b.length) zs a hN (by omega), ← wB_scale (N := N) (k := b.length) zs b hN (Nat.le_refl _), hl, ← Nat.mul_assoc]
  exact ⟨fun h => Nat.le_of_mul_le_mul_right h (Nat.pow_pos hD), fun h => Nat.mul_le_mul_right _ h⟩
/-- Greedy by the own bottoms. -/
def GoB (nr : Int → Int → Bool) (U D : Nat) (zs : List Int) : List Int → Prop
  | [] => True
  | t :: ss => (∀ u ∈ zs, rcB nr U D zs (u :: ss) ≤ rcB nr U D zs (t :: ss)) ∧ GoB nr U D zs ss
theorem GoB.gr {nr : Int → Int → Bool} {U D N : Nat} (hD : 1 ≤ D) {zs : List Int} : ∀ {ss : List Int}, GoB nr U D zs ss → ss.length ≤ N → GrB nr U D N zs ss
  | [], _, _ => trivial
  | t :: ss, h, hl => by
    refine ⟨fun u hu => ?_, GoB.gr hD h.2 (by simp at hl; omega)⟩
    have h1 := h.1 u hu
    rw [← Nat.one_mul (rcB nr U D zs (t :: ss))] at h1
    rw [← Nat.one_mul (wB nr U D N zs (t :: ss))]
    exact (wB_as hD (by simp) hl).2 h1
theorem goB_half {nr : Int → Int → Bool} {U D : Nat} (h : U ≤ D) (hD : 1 ≤ D) {zs gs a : List Int} (hG : GoB nr U D zs gs) (ha : a.length = gs.length) (hm : ∀ u ∈ a, u ∈ zs) : rcB nr U D zs a ≤ 2 * rcB nr U D zs gs :=
  (wB_as (N := gs.length + a.length + 1) hD ha (by omega)).1 (grB_half h (hG.gr hD (by omega)) ha hm (Nat.le_refl _))
/-- One helper more at best. -/
theorem rcB_more {nr : Int → Int → Bool} {U D : Nat} (h : U ≤ D) {zs a b : List Int} {t : Int} (hl : b.length = a.length + 1) (hb : rcB nr U D zs (t :: a) ≤ rcB nr U D zs b) : rcB nr U D zs a * D ≤ rcB nr U D zs b := by
  have h1 := rcB_less (nr := nr) h zs a t
  rw [rcB_perm (List.perm_append_comm (l₁ := a) (l₂ := [t]))] at h1
  exact Nat.le_trans h1 hb
theorem mnB_more {nr : Int → Int → Bool} {U D : Nat} (hD : 1 ≤ D) {zs a b : List Int} (hl : b.length = a.length + 1) (hb : rcB nr U D zs a * D ≤ rcB nr U D zs b) : (mnB nr U D zs a).1 * (mnB nr U D zs b).2 ≤ (mnB nr U D zs b).1 * (mnB nr U D zs a).2 := by
  refine frz_cross1 (Nat.pow_pos hD) (Nat.pow_pos hD) ?_
  rw [hl, Nat.pow_succ, Nat.mul_comm _ D, ← Nat.mul_assoc]
  exact Nat.mul_le_mul_right _ hb
end Go.Proofs.Ythphboeboiallab
