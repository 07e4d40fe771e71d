/-
  Plain mathematics of chapter 11 (backups): how many homes are reached on the mean, more helpers reach more, each further one gains no more than it would have before, and twice what greedy helpers reach is at least what any helpers as many do.
  Conditions: none beyond what each theorem states.
-/
import Derived.Test.YthphboeboiallabU
namespace Go.Proofs.Ythphboeboiallab
open Go.RowKit
set_option linter.unusedVariables false

/-- How many of the helpers are near a home (nr: the home, the helper). -/
def nbB (nr : Int → Int → Bool) (ss : List Int) (x : Int) : Nat := ss.countP (nr x)
theorem nbB_le (nr : Int → Int → Bool) (ss : List Int) (x : Int) : nbB nr ss x ≤ ss.length := List.countP_le_length
theorem nbB_cons (nr : Int → Int → Bool) (t : Int) (ss : List Int) (x : Int) : nbB nr (t :: ss) x = nbB nr ss x + if nr x t = true then 1 else 0 := by
  unfold nbB; rw [List.countP_cons]
theorem nbB_append (nr : Int → Int → Bool) (a b : List Int) (x : Int) : nbB nr (a ++ b) x = nbB nr a x + nbB nr b x := by
  unfold nbB; rw [List.countP_append]
theorem nbB_perm {nr : Int → Int → Bool} {a b : List Int} (p : a.Perm b) (x : Int) : nbB nr a x = nbB nr b x := p.countP_eq _
/-- One home's part of the mean, over the bottom to the power N. -/
def tmB (U D N b : Nat) : Nat := D ^ N - U ^ b * D ^ (N - b)
/-- What one more helper near it adds. -/
def dlB (U D N b : Nat) : Nat := U ^ b * D ^ (N - b - 1) * (D - U)
theorem lossB_le {U D : Nat} (h : U ≤ D) {N b : Nat} (hb : b ≤ N) : U ^ b * D ^ (N - b) ≤ D ^ N := by
  have h1 : U ^ b * D ^ (N - b) ≤ D ^ b * D ^ (N - b) := Nat.mul_le_mul_right _ (Nat.pow_le_pow_left h b)
  rwa [← Nat.pow_add, show b + (N - b) = N by omega] at h1
theorem tmB_succ {U D : Nat} (h : U ≤ D) {N b : Nat} (hb : b + 1 ≤ N) : tmB U D N (b + 1) = tmB U D N b + dlB U D N b := by
  unfold tmB dlB
  have h1 := lossB_le h (N := N) (b := b) (by omega)
  have h2 := lossB_le h hb
  have e1 : U ^ b * D ^ (N - b) = U ^ b * D ^ (N - b - 1) * D := by
    rw [Nat.mul_assoc, ← Nat.pow_succ, show (N - b - 1).succ = N - b by omega]
  have e2 : U ^ (b + 1) * D ^ (N - (b + 1)) = U ^ b * D ^ (N - b - 1) * U := by
    rw [Nat.pow_succ, show N - (b + 1) = N - b - 1 by omega]
    rw [Nat.mul_assoc, Nat.mul_comm U, ← Nat.mul_assoc]
  rw [Nat.mul_sub]
  rw [e1] at h1 ⊢
  rw [e2] at h2 ⊢
  have h3 : U ^ b * D ^ (N - b - 1) * U ≤ U ^ b * D ^ (N - b - 1) * D := Nat.mul_le_mul_left _ h
  omega
theorem dlB_anti {U D : Nat} (h : U ≤ D) {N b c : Nat} (hbc : b ≤ c) (hc : c + 1 ≤ N) : dlB U D N c ≤ dlB U D N b := by
  unfold dlB
  refine Nat.mul_le_mul_right _ ?_
  obtain ⟨e, rfl⟩ : ∃ e, c = b + e := ⟨c - b, by omega⟩
  rw [Nat.pow_add, Nat.mul_assoc]
  refine Nat.mul_le_mul_left _ ?_
  have h1 : U ^ e * D ^ (N - (b + e) - 1) ≤ D ^ e * D ^ (N - (b + e) - 1) := Nat.mul_le_mul_right _ (Nat.pow_le_pow_left h e)
  rwa [← Nat.pow_add, show e + (N - (b + e) - 1) = N - b - 1 by omega] at h1
/-- What helpers reach on the mean, over the bottom to the power N. -/
def wB (nr : Int → Int → Bool) (U D N : Nat) (zs ss : List Int) : Nat := (zs.map fun x => tmB U D N (nbB nr ss x)).sum
/-- What one more gains. -/
def gnB (nr : Int → Int → Bool) (U D N : Nat) (zs ss : List Int) (t : Int) : Nat := (zs.map fun x => if nr x t = true then dlB U D N (nbB nr ss x) else 0).sum
theorem wB_nil (nr : Int → Int → Bool) (U D N : Nat) (zs : List Int) : wB nr U D N zs [] = 0 := by
  unfold wB
  induction zs with
  | nil => rfl
  | cons x r ih => rw [List.map_cons, List.sum_cons, ih]; simp [nbB, tmB]
theorem wB_perm {nr : Int → Int → Bool} {U D N : Nat} {zs a b : List Int} (p : a.Perm b) : wB nr U D N zs a = wB nr U D N zs b := by
  unfold wB; simp only [nbB_perm p]
theorem wB_cons {nr : Int → Int → Bool} {U D N : Nat} (h : U ≤ D) (zs ss : List Int) (t : Int) (hl : ss.length + 1 ≤ N) : wB nr U D N zs (t :: ss) = wB nr U D N zs ss + gnB nr U D N zs ss t := by
  unfold wB gnB
  induction zs with
  | nil => rfl
  | cons x r ih =>
    simp only [List.map_cons, List.sum_cons]
    rw [ih, nbB_cons]
    have hb := nbB_le nr ss x
    split
    · rw [tmB_succ h (by omega)]; omega
    · rw [Nat.add_zero]; omega
theorem gnB_anti {nr : Int → Int → Bool} {U D N : Nat} (h : U ≤ D) (zs : List Int) {ss tt : List Int} (t : Int) (hb : ∀ x, nbB nr ss x ≤ nbB nr tt x) (hl : tt.length + 1 ≤ N) : gnB nr U D N zs tt t ≤ gnB nr U D N zs ss t := by
  unfold gnB
  induction zs with
  | nil => exact Nat.le_refl _
  | cons x r ih =>
    simp only [List.map_cons, List.sum_cons]
    refine Nat.add_le_add ?_ ih
    split
    · exact dlB_anti h (hb x) (by have := nbB_le nr tt x; omega)
    · exact Nat.le_refl _
theorem wB_mono {nr : Int → Int → Bool} {U D N : Nat} (h : U ≤ D) (zs : List Int) : ∀ (a ss : List Int), a.length + ss.length ≤ N → wB nr U D N zs ss ≤ wB nr U D N zs (a ++ ss)
  | [], ss, _ => Nat.le_refl _
  | t :: a, ss, hl => by
    have hl' : a.length + 1 + ss.length ≤ N := by simpa using hl
    have ih := wB_mono (nr := nr) (N := N) h zs a ss (by omega)
    rw [List.cons_append, wB_cons h zs (a ++ ss) t (by rw [List.length_append]; omega)]
    omega
/-- More helpers gain together at most what each gains alone. -/
theorem wB_sub {nr : Int → Int → Bool} {U D N : Nat} (h : U ≤ D) (zs ss : List Int) : ∀ a : List Int, a.length + ss.length ≤ N → wB nr U D N zs (a ++ ss) ≤ wB nr U D N zs ss + (a.map (gnB nr U D N zs ss)).sum
  | [], _ => Nat.le_refl _
  | t :: a, hl => by
    have hl' : a.length + 1 + ss.length ≤ N := by simpa using hl
    have ih := wB_sub (nr := nr) (N := N) h zs ss a (by omega)
    rw [List.cons_append, wB_cons h zs (a ++ ss) t (by rw [List.length_append]; omega), List.map_cons, List.sum_cons]
    have hg := gnB_anti (nr := nr) (N := N) h zs (ss := ss) (tt := a ++ ss) t (fun x => by rw [nbB_append]; omega) (by rw [List.length_append]; omega)
    omega
/-- Greedy helpers: each one, the last one first, gains the most of all homes with those behind it in the list. -/
def GrB (nr : Int → Int → Bool) (U D N : Nat) (zs : List Int) : List Int → Prop
  | [] => True
  | t :: ss => (∀ u ∈ zs, wB nr U D N zs (u :: ss) ≤ wB nr U D N zs (t :: ss)) ∧ GrB nr U D N zs ss
theorem grB_gain {nr : Int → Int → Bool} {U D N : Nat} (h : U ≤ D) {zs : List Int} : ∀ {gs tt : List Int}, GrB nr U D N zs gs → (∀ x, nbB nr gs x ≤ nbB nr tt x) → gs.length ≤ N → tt.length + 1 ≤ N → ∀ {a : List Int}, a.length = gs.length → (∀ u ∈ a, u ∈ zs) →
    (a.map (gnB nr U D N zs tt)).sum ≤ wB nr U D N zs gs
  | [], tt, _, _, _, _, a, ha, _ => by
    obtain rfl : a = [] := List.length_eq_zero_iff.1 (by simpa using ha)
    simp
  | g :: gs, tt, hG, hb, hl, hl2, a, ha, hm => by
    match a, ha, hm with
    | u :: a, ha, hm =>
      have hl' : gs.length + 1 ≤ N := by simpa using hl
      have hb' : ∀ x, nbB nr gs x ≤ nbB nr tt x := fun x => by have := hb x; rw [nbB_cons] at this; omega
      have ih := grB_gain h hG.2 hb' (by omega) hl2 (a := a) (by simpa using ha) (fun v hv => hm v (List.mem_cons_of_mem _ hv))
      have h1 := hG.1 u (hm u (by simp))
      rw [wB_cons h zs gs u hl', wB_cons h zs gs g hl'] at h1
      have h2 := gnB_anti (nr := nr) (N := N) h zs (ss := gs) (tt := tt) u hb' hl2
      rw [List.map_cons, List.sum_cons, wB_cons h zs gs g hl']
      omega
/-- Twice what greedy helpers reach is at least what any as many reach. -/
theorem grB_half {nr : Int → Int → Bool} {U D N : Nat} (h : U ≤ D) {zs gs a : List Int} (hG : GrB nr U D N zs gs) (ha : a.length = gs.length) (hm : ∀ u ∈ a, u ∈ zs) (hN : gs.length + a.length + 1 ≤ N) : wB nr U D N zs a ≤ 2 * wB nr U D N zs gs := by
  have h1 := wB_mono (nr := nr) (N := N) h zs gs a (by omega)
  have h2 := wB_sub (nr := nr) (N := N) h zs gs a (by omega)
  have h3 := grB_gain h hG (fun x => Nat.le_refl _) (by omega) (by omega) ha hm
  rw [wB_perm (List.perm_append_comm (l₁ := gs) (l₂ := a))] at h1
  omega

/-! ### The same over the bottom to the number of the helpers -/
def rcB (nr : Int → Int → Bool) (U D : Nat) (zs ss : List Int) : Nat := wB nr U D ss.length zs ss
theorem tmB_scale {U D N k b : Nat} (hk : k ≤ N) (hb : b ≤ k) : tmB U D k b * D ^ (N - k) = tmB U D N b := by
  unfold tmB
  rw [Nat.sub_mul, ← Nat.pow_add, show k + (N - k) = N by omega, Nat.mul_assoc, ← Nat.pow_add, show k - b + (N - k) = N - b by omega]
theorem wB_scale {nr : Int → Int → Bool} {U D N k : Nat} (zs ss : List Int) (hk : k ≤ N) (hs : ss.length ≤ k) : wB nr U D k zs ss * D ^ (N - k) = wB nr U D N zs ss := by
  unfold wB
  induction zs with
  | nil => simp
  | cons x r ih =>
    simp only [List.map_cons, List.sum_cons]
    rw [Nat.add_mul, ih, tmB_scale hk (by have := nbB_le nr ss x; omega)]
theorem tmB_le {U D N b : Nat} : tmB U D N b ≤ D ^ N := Nat.sub_le _ _
theorem wB_le {nr : Int → Int → Bool} {U D N : Nat} (zs ss : List Int) : wB nr U D N zs ss ≤ zs.length * D ^ N := by
  unfold wB
  induction zs with
  | nil => simp
  | cons x r ih =>
    simp only [List.map_cons, List.sum_cons, List.length_cons]
    rw [Nat.add_mul, Nat.one_mul]
    have := tmB_le (U := U) (D := D) (N := N) (b := nbB nr ss x)
    omega
/-- Who is always busy reaches none. -/
theorem wB_busy {nr : Int → Int → Bool} {D N : Nat} (zs ss : List Int) (hs : ss.length ≤ N) : wB nr D D N zs ss = 0 := by
  unfold wB
  induction zs with
  | nil => rfl
  | cons x r ih =>
    simp only [List.map_cons, List.sum_cons]
    rw [ih]
    have := nbB_le nr ss x
    unfold tmB
    rw [← Nat.pow_add, show nbB nr ss x + (N - nbB nr ss x) = N by omega]
    simp
/-- Who is never busy reaches all that have one near. -/
theorem wB_free {nr : Int → Int → Bool} {N : Nat} (zs ss : List Int) : wB nr 0 1 N zs ss = zs.countP fun x => decide (0 < nbB nr ss x) := by
  unfold wB
  induction zs with
  | nil => rfl
  | cons x r ih =>
    simp only [List.map_cons, List.sum_cons]
    rw [ih, List.countP_cons]
    unfold tmB
    rcases Nat.eq_zero_or_pos (nbB nr ss x) with h | h
    · simp [h]
    · rw [Nat.zero_pow h]; simp [h]; omega
theorem wB_take {nr : Int → Int → Bool} {U D N : Nat} (zs ys ss : List Int) : wB nr U D N zs ss ≤ wB nr U D N (zs ++ ys) ss := by
  unfold wB
  rw [List.map_append, List.sum_append]
  omega
/-- One helper less, over its own bottom. -/
theorem rcB_less {nr : Int → Int → Bool} {U D : Nat} (h : U ≤ D) (zs ss : List Int) (t : Int) : rcB nr U D zs ss * D ≤ rcB nr U D zs (ss ++ [t]) := by
  unfold rcB
  have e := wB_scale (nr := nr) (U := U) (D := D) (N := ss.length + 1) (k := ss.length) zs ss (by omega) (Nat.le_refl _)
  rw [show ss.length + 1 - ss.length = 1 by omega, Nat.pow_one] at e
  rw [e, List.length_append, List.length_singleton, wB_perm (List.perm_append_comm (l₁ := ss) (l₂ := [t]))]
  exact wB_mono h zs [t] ss (by simp; omega)
end Go.Proofs.Ythphboeboiallab
