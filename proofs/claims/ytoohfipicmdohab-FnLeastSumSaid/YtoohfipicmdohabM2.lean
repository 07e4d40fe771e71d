/-
  Plain mathematics of lines: the greedy count is the greatest number of homes that are apart, from either end.
  Conditions: none beyond what each theorem states.
-/
import Derived.Test.YtoohfipicmdohabM1
import Derived.Test.YtoohfipicmdohabL5
namespace Go.Proofs.Ytoohfipicmdohab
open Go.RowKit
set_option linter.unusedVariables false

theorem okFrom_iff {zs : List Int} : ∀ {a : Int}, okFrom a zs = true ↔ zs.Pairwise (· ≤ ·) ∧ ∀ x ∈ zs, a ≤ x ∧ x ≤ 50 := by
  induction zs with
  | nil => intro a; simp [okFrom]
  | cons y r ih =>
    intro a
    simp only [okFrom, Bool.and_eq_true, decide_eq_true_eq, ih, List.pairwise_cons, List.mem_cons, forall_eq_or_imp]
    constructor
    · rintro ⟨h1, h2, h3, h4⟩
      exact ⟨⟨fun x hx => (h4 x hx).1, h3⟩, ⟨h1, h2⟩, fun x hx => ⟨Int.le_trans h1 (h4 x hx).1, (h4 x hx).2⟩⟩
    · rintro ⟨⟨h1, h2⟩, ⟨h3, h4⟩, h5⟩
      exact ⟨h3, h4, h2, fun x hx => ⟨h1 x hx, (h5 x hx).2⟩⟩
theorem vh_iff {zs : List Int} : vh zs = true ↔ zs.length ≤ 10 ∧ zs.Pairwise (· ≤ ·) ∧ ∀ x ∈ zs, 0 ≤ x ∧ x ≤ 50 := by
  unfold vh
  rw [Bool.and_eq_true, decide_eq_true_eq, okFrom_iff]

/-- The homes that the greedy count counts. -/
def pivots (far last : Int) : List Int → List Int
  | [] => []
  | x :: r => if last < x then x :: pivots far (x + 2 * far) r else pivots far last r
theorem pivots_length {far : Int} : ∀ {l : List Int} {last : Int}, ((pivots far last l).length : Int) = few far last l
  | [], _ => rfl
  | x :: r, last => by
    simp only [pivots, few]
    split
    · simp only [List.length_cons]; have := pivots_length (far := far) (l := r) (last := x + 2 * far); omega
    · exact pivots_length
theorem pivots_sub {far : Int} : ∀ {l : List Int} {last : Int}, (pivots far last l).Sublist l
  | [], _ => List.Sublist.slnil
  | x :: r, last => by
    simp only [pivots]
    split
    · exact pivots_sub.cons_cons x
    · exact pivots_sub.cons x
theorem pivots_gt {far : Int} (hf : 0 ≤ far) : ∀ {l : List Int} {last : Int}, ∀ y ∈ pivots far last l, last < y
  | [], _, y, h => by cases h
  | x :: r, last, y, h => by
    simp only [pivots] at h
    split at h
    · rcases List.mem_cons.1 h with rfl | h
      · assumption
      · have := pivots_gt hf y h; omega
    · exact pivots_gt hf y h
def Apart (far : Int) (l : List Int) : Prop := l.Pairwise (fun a b => a + 2 * far < b)
theorem pivots_apart {far : Int} (hf : 0 ≤ far) : ∀ {l : List Int} {last : Int}, Apart far (pivots far last l)
  | [], _ => List.Pairwise.nil
  | x :: r, last => by
    simp only [pivots]
    split
    · exact List.Pairwise.cons (fun y hy => pivots_gt hf y hy) (pivots_apart hf)
    · exact pivots_apart hf
theorem few_nonneg {far : Int} : ∀ {l : List Int} {last : Int}, 0 ≤ few far last l
  | [], _ => by simp [few]
  | x :: r, last => by
    simp only [few]
    split
    · have := few_nonneg (far := far) (l := r) (last := x + 2 * far); omega
    · exact few_nonneg
theorem apart_le {far : Int} (hf : 0 ≤ far) : ∀ {l c : List Int} {last : Int}, l.Pairwise (· ≤ ·) → c.Sublist l → Apart far c → (∀ y ∈ c, last < y) → (c.length : Int) ≤ few far last l
  | [], c, last, _, hs, _, _ => by
    have : c = [] := List.sublist_nil.1 hs
    subst this; simp [few]
  | x :: r, c, last, hp, hs, ha, hl => by
    have hp' := List.pairwise_cons.1 hp
    simp only [few]
    rcases hs with _ | hs | hs
    · rename_i hs
      split
      · cases c with
        | nil => have := few_nonneg (far := far) (l := r) (last := x + 2 * far); simp; omega
        | cons y c' =>
          have ha' := List.pairwise_cons.1 ha
          have hyr : y ∈ r := hs.subset (by simp)
          have hs' : c'.Sublist r := (List.sublist_cons_self y c').trans hs
          have := apart_le hf hp'.2 hs' ha'.2 (last := x + 2 * far) (fun z hz => by have h1 := ha'.1 z hz; have h2 := hp'.1 y hyr; omega)
          simp only [List.length_cons]; omega
      · exact apart_le hf hp'.2 hs ha hl
    · rename_i c' hs
      have ha' := List.pairwise_cons.1 ha
      have hx := hl x (by simp)
      rw [if_pos hx]
      have := apart_le hf hp'.2 hs ha'.2 (last := x + 2 * far) (fun z hz => ha'.1 z hz)
      simp only [List.length_cons]; omega

/-- The list seen from the other end of the line. -/
def mirr (l : List Int) : List Int := (l.map (fun x => 50 - x)).reverse
theorem mirr_mirr (l : List Int) : mirr (mirr l) = l := by
  unfold mirr
  rw [List.map_reverse, List.reverse_reverse, List.map_map]
  have : ((fun x : Int => 50 - x) ∘ fun x => 50 - x) = id := by funext x; simp; omega
  rw [this, List.map_id]
theorem mirr_length (l : List Int) : (mirr l).length = l.length := by simp [mirr]
theorem mirr_sub {c l : List Int} (h : c.Sublist l) : (mirr c).Sublist (mirr l) := (h.map _).reverse
theorem mirr_apart {far : Int} {c : List Int} (h : Apart far c) : Apart far (mirr c) := by
  unfold Apart mirr at *
  rw [List.pairwise_reverse, List.pairwise_map]
  exact h.imp (fun hab => by omega)
theorem mirr_sorted {l : List Int} (h : l.Pairwise (· ≤ ·)) : (mirr l).Pairwise (· ≤ ·) := by
  unfold mirr
  rw [List.pairwise_reverse, List.pairwise_map]
  exact h.imp (fun hab => by omega)
theorem mirr_mem {l : List Int} {x : Int} (h : x ∈ mirr l) : 50 - x ∈ l := by
  unfold mirr at h
  rw [List.mem_reverse, List.mem_map] at h
  obtain ⟨y, hy, rfl⟩ := h
  rw [show 50 - (50 - y) = y by omega]; exact hy
theorem mirr_vh {zs : List Int} (h : vh zs = true) : vh (mirr zs) = true := by
  rw [vh_iff] at h ⊢
  refine ⟨by rw [mirr_length]; exact h.1, mirr_sorted h.2.1, fun x hx => ?_⟩
  have := h.2.2 _ (mirr_mem hx)
  omega
theorem few_mirr_le {far : Int} {zs : List Int} (hf : 0 ≤ far) (h : vh zs = true) : few far (-1) zs ≤ few far (-1) (mirr zs) := by
  have hm := vh_iff.1 (mirr_vh h)
  rw [← pivots_length, ← mirr_length]
  refine apart_le hf hm.2.1 (mirr_sub pivots_sub) (mirr_apart (pivots_apart hf)) (fun y hy => ?_)
  have h1 := (vh_iff.1 h).2.2 _ (pivots_sub.subset (mirr_mem hy))
  omega
theorem fewest_mirr {far : Int} {zs : List Int} (h : vh zs = true) : fewest (mirr zs) far = fewest zs far := by
  by_cases hf : vfar far = true
  · rw [fewest_yes h hf, fewest_yes (mirr_vh h) hf]
    have hf0 : 0 ≤ far := by unfold vfar at hf; simp at hf; exact hf.1
    have h1 := few_mirr_le hf0 h
    have h2 := few_mirr_le hf0 (mirr_vh h)
    rw [mirr_mirr] at h2
    omega
  · have hf' : vfar far = false := by simpa using hf
    rw [fewest_no' hf', fewest_no' hf']
theorem lfar_mirr {k : Int} {zs : List Int} (h : vh zs = true) : lfar (mirr zs) k = lfar zs k := by
  have e : ∀ f far, lfrom (mirr zs) k f far = lfrom zs k f far := by
    intro f
    induction f with
    | zero => intro far; rfl
    | succ f ih => intro far; simp only [lfrom, fewest_mirr h, ih]
  unfold lfar
  rw [e, h, mirr_vh h]

/-- Who goes farther needs no more. -/
theorem few_mono {far : Int} : ∀ {l : List Int} {a r r' d : Int}, okFrom a l = true → r ≤ a + 2 * far → 0 ≤ d → (d = 0 → r ≤ r') → few (far + 1) r' l ≤ few far r l + d
  | [], a, r, r', d, _, _, hd, _ => by simp [few]; omega
  | x :: l, a, r, r', d, ho, hr, hd, h0 => by
    simp only [okFrom, Bool.and_eq_true, decide_eq_true_eq] at ho
    obtain ⟨h1, h2, h3⟩ := ho
    simp only [few]
    split <;> split
    · have := few_mono (far := far) (r := x + 2 * far) (r' := x + 2 * (far + 1)) (d := d) h3 (by omega) hd (by omega); omega
    · have := few_mono (far := far) (r := r) (r' := x + 2 * (far + 1)) (d := d - 1) h3 (by omega) (by omega) (by omega); omega
    · have := few_mono (far := far) (r := x + 2 * far) (r' := r') (d := d + 1) h3 (by omega) (by omega) (by omega); omega
    · exact few_mono (far := far) (r := r) (r' := r') (d := d) h3 (by omega) hd h0
theorem fewest_mono {far : Int} {zs : List Int} (h : vh zs = true) (h1 : 0 ≤ far) (h2 : far + 1 ≤ 50) : fewest zs (far + 1) ≤ fewest zs far := by
  rw [fewest_yes h (vfar_yes (by omega) h2), fewest_yes h (vfar_yes h1 (by omega))]
  have := few_mono (far := far) (r := -1) (r' := -1) (d := 0) (vh_ok h) (by omega) (by omega) (fun _ => Int.le_refl _)
  omega
end Go.Proofs.Ytoohfipicmdohab
