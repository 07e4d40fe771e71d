/-
  Plain mathematics of lines: the table of MostApart gives the greedy count; different homes; least far.
  Conditions: none beyond what each theorem states.
-/
import Derived.Test.YtoohfipicmdohabM2
namespace Go.Proofs.Ytoohfipicmdohab
open Go.RowKit
set_option linter.unusedVariables false

def gstep (far : Int) (s : Int × Int) (x : Int) : Int × Int := if s.2 < x then (s.1 + 1, x + 2 * far) else s
def gst (far : Int) (l : List Int) : Int × Int := l.foldl (gstep far) (0, -1)
theorem gst_snoc (far : Int) (l : List Int) (x : Int) : gst far (l ++ [x]) = gstep far (gst far l) x := by simp [gst, List.foldl_append]
theorem gst_few {far : Int} : ∀ {l : List Int} {h r : Int}, (l.foldl (gstep far) (h, r)).1 = h + few far r l
  | [], h, r => by simp [few]
  | x :: l, h, r => by
    simp only [List.foldl_cons, gstep, few]
    split
    · rw [gst_few]; omega
    · rw [gst_few]
theorem gst_cnt (far : Int) (l : List Int) : (gst far l).1 = few far (-1) l := by
  have := gst_few (far := far) (l := l) (h := 0) (r := -1)
  unfold gst; omega
theorem snoc_ind {P : List Int → Prop} (h0 : P []) (h1 : ∀ l x, P l → P (l ++ [x])) (l : List Int) : P l := by
  have h : ∀ m : List Int, P m.reverse := by
    intro m
    induction m with
    | nil => exact h0
    | cons x m ih => rw [List.reverse_cons]; exact h1 _ _ ih
  have := h l.reverse
  rwa [List.reverse_reverse] at this
theorem gst_ge {far : Int} (hf : 0 ≤ far) (l : List Int) : 0 ≤ (gst far l).1 := by rw [gst_cnt]; exact few_nonneg
/-- The reach is no more than 2 far behind the last home. -/
theorem gst_reach {far : Int} (hf : 0 ≤ far) (l : List Int) : l.Pairwise (· ≤ ·) → ∀ b : Int, 0 ≤ b → (∀ y ∈ l, y ≤ b) → (gst far l).2 ≤ b + 2 * far := by
  refine snoc_ind (P := fun l => l.Pairwise (· ≤ ·) → ∀ b : Int, 0 ≤ b → (∀ y ∈ l, y ≤ b) → (gst far l).2 ≤ b + 2 * far) ?_ ?_ l
  · intro _ b h _; simp [gst]; omega
  · intro l x ih hp b hb hl
    rw [List.pairwise_append] at hp
    have hx := hl x (by simp)
    rw [gst_snoc]
    unfold gstep
    split
    · simp; omega
    · exact ih hp.1 b hb (fun y hy => hl y (by simp [hy]))
theorem gst_key {far : Int} (hf : 0 ≤ far) (l : List Int) : l.Pairwise (· ≤ ·) → (∀ y ∈ l, 0 ≤ y) → ∀ x : Int, 0 ≤ x → (∀ y ∈ l, y ≤ x) →
    1 + (gst far (l.filter (fun y => decide (2 * far < x - y)))).1 = (gstep far (gst far l) x).1 := by
  refine snoc_ind (P := fun l => l.Pairwise (· ≤ ·) → (∀ y ∈ l, 0 ≤ y) → ∀ x : Int, 0 ≤ x → (∀ y ∈ l, y ≤ x) →
    1 + (gst far (l.filter (fun y => decide (2 * far < x - y)))).1 = (gstep far (gst far l) x).1) ?_ ?_ l
  · intro _ _ x hx _
    have : (-1 : Int) < x := by omega
    simp [gst, gstep, this]
  · intro l y ih hp h0 x hx hl
    rw [List.pairwise_append] at hp
    have hy := hl y (by simp)
    have hy0 := h0 y (by simp)
    have hly : ∀ z ∈ l, z ≤ y := fun z hz => hp.2.2 z hz y (by simp)
    have hr := gst_reach hf l hp.1 y hy0 hly
    by_cases hxy : 2 * far < x - y
    · have hall : (l ++ [y]).filter (fun y => decide (2 * far < x - y)) = l ++ [y] := by
        rw [List.filter_eq_self]
        intro z hz
        rw [List.mem_append, List.mem_singleton] at hz
        rw [decide_eq_true_eq]
        rcases hz with hz | rfl
        · have := hly z hz; omega
        · exact hxy
      rw [hall, gst_snoc]
      have hlt : (gstep far (gst far l) y).2 < x := by
        unfold gstep
        split
        · simp; omega
        · omega
      generalize gstep far (gst far l) y = s at hlt ⊢
      unfold gstep
      rw [if_pos hlt]
      simp; omega
    · have hflt : (l ++ [y]).filter (fun y => decide (2 * far < x - y)) = l.filter (fun y => decide (2 * far < x - y)) := by
        rw [List.filter_append]
        simp [hxy]
      rw [hflt, ih hp.1 (fun z hz => h0 z (by simp [hz])) x hx (fun z hz => hl z (by simp [hz])), gst_snoc]
      unfold gstep
      by_cases h1 : (gst far l).2 < y
      · rw [if_pos h1, if_pos (by omega)]
        rw [if_neg (by simp only []; omega)]
      · rw [if_neg h1]

theorem gst_mono {far : Int} (hf : 0 ≤ far) (l : List Int) (x : Int) : (gst far l).1 ≤ (gst far (l ++ [x])).1 := by
  rw [gst_snoc]; unfold gstep; split <;> simp <;> omega
theorem inn_gst {far x : Int} (hf : 0 ≤ far) {zs bs : List Int} (hp : zs.Pairwise (· ≤ ·)) {i : Nat} (hi : i ≤ zs.length)
    (hb : ∀ j, j < i → bs.getD j 0 = (gst far (zs.take (j + 1))).1) : ∀ j, j ≤ i → inn far x zs bs j = 1 + (gst far ((zs.take j).filter (fun y => decide (2 * far < x - y)))).1
  | 0, _ => by simp [inn, gst]
  | j + 1, hj => by
    have ih := inn_gst (x := x) hf hp hi hb j (by omega)
    have hjl : j < zs.length := by omega
    have hle := pw_le hp hjl
    simp only [inn]
    rw [ih, hb j (by omega), take_snoc_getD hjl]
    by_cases h : 2 * far < x - zs.getD j 0
    · rw [if_pos h]
      have h1 : (zs.take j).filter (fun y => decide (2 * far < x - y)) = zs.take j := by
        rw [List.filter_eq_self]; intro z hz; have := hle z hz; rw [decide_eq_true_eq]; omega
      have h2 : (zs.take j ++ [zs.getD j 0]).filter (fun y => decide (2 * far < x - y)) = zs.take j ++ [zs.getD j 0] := by
        rw [List.filter_append, h1]; congr 1; simp only [List.filter_cons, List.filter_nil, decide_eq_true h, if_true]
      rw [h1, h2]
      have := gst_mono hf (zs.take j) (zs.getD j 0)
      omega
    · rw [if_neg h]
      have h2 : (zs.take j ++ [zs.getD j 0]).filter (fun y => decide (2 * far < x - y)) = (zs.take j).filter (fun y => decide (2 * far < x - y)) := by
        rw [List.filter_append]; simp only [List.filter_cons, List.filter_nil, decide_eq_false h]; simp
      rw [h2]
theorem bests_gst {far : Int} (hf : 0 ≤ far) {zs : List Int} (hp : zs.Pairwise (· ≤ ·)) (h0 : ∀ x ∈ zs, 0 ≤ x) : ∀ i, i ≤ zs.length → ∀ j, j < i → (bests far zs i).getD j 0 = (gst far (zs.take (j + 1))).1
  | 0, _, j, h => by omega
  | i + 1, hi, j, hj => by
    have hl := bests_length far zs i
    have ih := bests_gst hf hp h0 i (by omega)
    rcases Nat.lt_or_ge j i with hji | hji
    · have e : (bests far zs (i + 1)).getD j 0 = (bests far zs i).getD j 0 := by
        simp only [bests, List.getD_eq_getElem?_getD]
        rw [List.getElem?_append_left (by omega)]
      rw [e]
      exact ih j hji
    · obtain rfl : j = i := by omega
      have e : (bests far zs (j + 1)).getD j 0 = inn far (zs.getD j 0) zs (bests far zs j) j := by
        simp only [bests, List.getD_eq_getElem?_getD]
        rw [List.getElem?_append_right (by omega), hl, Nat.sub_self]; rfl
      have hjl : j < zs.length := by omega
      have hm : zs.getD j 0 ∈ zs := by simp [List.getD, List.getElem?_eq_getElem hjl]
      rw [e, inn_gst hf hp (i := j) (by omega) ih j (Nat.le_refl _), gst_key hf _ (pw_take hp j) (fun y hy => h0 y (List.mem_of_mem_take hy)) _ (h0 _ hm) (pw_le hp hjl),
        take_snoc_getD hjl, gst_snoc]
theorem topp_gst {far : Int} (hf : 0 ≤ far) {zs : List Int} (hp : zs.Pairwise (· ≤ ·)) (h0 : ∀ x ∈ zs, 0 ≤ x) : ∀ i, i ≤ zs.length → topp far zs i = (gst far (zs.take i)).1
  | 0, _ => by simp [topp, gst]
  | i + 1, hi => by
    have hil : i < zs.length := by omega
    have hm : zs.getD i 0 ∈ zs := by simp [List.getD, List.getElem?_eq_getElem hil]
    simp only [topp]
    rw [topp_gst hf hp h0 i (by omega), inn_gst hf hp (i := i) (by omega) (bests_gst hf hp h0 i (by omega)) i (Nat.le_refl _),
      gst_key hf _ (pw_take hp i) (fun y hy => h0 y (List.mem_of_mem_take hy)) _ (h0 _ hm) (pw_le hp hil), take_snoc_getD hil, gst_snoc]
    have := gst_mono hf (zs.take i) (zs.getD i 0)
    rw [gst_snoc] at this
    omega
theorem mapart_fewest {zs : List Int} {far : Int} : mapart zs far = fewest zs far := by
  by_cases hv : vh zs = true
  · by_cases hf : vfar far = true
    · have hf0 : 0 ≤ far := by unfold vfar at hf; simp at hf; exact hf.1
      have hh := vh_iff.1 hv
      rw [mapart_yes hv hf, fewest_yes hv hf, topp_gst hf0 hh.2.1 (fun x hx => (hh.2.2 x hx).1) zs.length (Nat.le_refl _), List.take_length, gst_cnt]
    · have hf' : vfar far = false := by simpa using hf
      rw [mapart_no' hf', fewest_no' hf']
  · have hv' : vh zs = false := by simpa using hv
    rw [mapart_no hv', fewest_no hv']
end Go.Proofs.Ytoohfipicmdohab
