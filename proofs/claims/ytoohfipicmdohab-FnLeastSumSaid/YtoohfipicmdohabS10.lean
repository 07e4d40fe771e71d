/-
  The least sum by groups is the least one over all places.
  Conditions: homes in order.
-/
import Derived.Test.YtoohfipicmdohabS8
import Derived.Test.YtoohfipicmdohabP7
namespace Go.Proofs.Ytoohfipicmdohab
open Go.ChangeShapes Go.WideShapes Go.ChangeAt Go.RowKit
set_option linter.unusedVariables false

theorem sumNear_nonneg (l : List Int) (p : Int) : 0 ≤ sumNear l p := by
  induction l with
  | nil => simp [sumNear]
  | cons x l ih => rw [sumNear_cons]; have := gapI_nonneg x p; omega
/-- The middle home is the best place of a group. -/
theorem ends_le {zs : List Int} (p : Int) : ∀ i, i ≤ zs.length / 2 → sumNear (seg zs i (zs.length - i)) p + ends zs i ≤ sumNear zs p
  | 0, _ => by simp [ends, seg]
  | i + 1, hi => by
    have ih := ends_le p i (by omega) (zs := zs)
    have e : zs.length - i = (zs.length - 1 - i) + 1 := by omega
    rw [e, seg_ends (by omega) (by omega), sumNear_cons, sumNear_append] at ih
    have e2 : zs.length - (i + 1) = zs.length - 1 - i := by omega
    rw [e2]
    simp only [ends]
    have h3 : sumNear [zs.getD (zs.length - 1 - i) 0] p = gapI (zs.getD (zs.length - 1 - i) 0) p := by simp [sumNear]
    rw [h3] at ih
    have h4 : zs.getD (zs.length - 1 - i) 0 - zs.getD i 0 ≤ gapI (zs.getD i 0) p + gapI (zs.getD (zs.length - 1 - i) 0) p := by unfold gapI; split <;> split <;> omega
    omega
theorem middle_le {l : List Int} (hp : l.Pairwise (· ≤ ·)) (p : Int) : sumNear l (l.getD (l.length / 2) 0) ≤ sumNear l p := by
  rw [← ends_all hp]
  have h := ends_le (zs := l) p (l.length / 2) (Nat.le_refl _)
  have := sumNear_nonneg (seg l (l.length / 2) (l.length - l.length / 2)) p
  omega
theorem cost_le {zs : List Int} (hp : zs.Pairwise (· ≤ ·)) {f e : Nat} (hf : f ≤ e) (he : e ≤ zs.length) (p : Int) : cost zs f e ≤ sumNear (seg zs f e) p := by
  unfold cost
  have hl := seg_length (zs := zs) rfl hf he
  have h := middle_le (l := seg zs f e) ((hp.drop).take) p
  rw [hl] at h
  exact h

/-- How far the nearest one of some places is. -/
def dst (p : Int) : List Int → Int → Int
  | [], x => gapI x p
  | q :: r, x => min (gapI x p) (dst q r x)
theorem le_dst {x c : Int} : ∀ {r : List Int} {p : Int}, c ≤ dst p r x ↔ ∀ v ∈ p :: r, c ≤ gapI x v
  | [], p => by simp [dst]
  | q :: r, p => by
    have ih := le_dst (x := x) (c := c) (r := r) (p := q)
    simp only [dst, List.mem_cons, forall_eq_or_imp] at ih ⊢
    constructor
    · intro h
      exact ⟨by omega, ih.1 (by omega)⟩
    · intro h
      have := ih.2 h.2
      omega
theorem dst_le {x v p : Int} {r : List Int} (h : v ∈ p :: r) : dst p r x ≤ gapI x v := le_dst.1 (Int.le_refl _) v h
theorem dst_nonneg (x p : Int) (r : List Int) : 0 ≤ dst p r x := le_dst.2 fun v _ => gapI_nonneg x v
theorem dst_same {p p' : Int} {r r' : List Int} (h : ∀ v, v ∈ p :: r ↔ v ∈ p' :: r') (x : Int) : dst p r x = dst p' r' x :=
  eq_of_le fun c => by rw [le_dst, le_dst]; exact ⟨fun g v hv => g v ((h v).2 hv), fun g v hv => g v ((h v).1 hv)⟩
def dsum (p : Int) (r : List Int) (l : List Int) : Int := (l.map (dst p r)).sum
theorem dsum_append (p : Int) (r a b : List Int) : dsum p r (a ++ b) = dsum p r a + dsum p r b := by simp [dsum]
theorem dsum_nonneg (p : Int) (r l : List Int) : 0 ≤ dsum p r l := by
  induction l with
  | nil => simp [dsum]
  | cons x l ih => simp only [dsum, List.map_cons, List.sum_cons] at ih ⊢; have := dst_nonneg x p r; omega
theorem dsum_one (p : Int) (l : List Int) : dsum p [] l = sumNear l p := rfl
theorem sum_mono {l : List Int} {f g : Int → Int} (h : ∀ x ∈ l, f x ≤ g x) : (l.map f).sum ≤ (l.map g).sum := by
  induction l with
  | nil => simp
  | cons x l ih =>
    simp only [List.map_cons, List.sum_cons]
    have h1 := h x (by simp)
    have h2 := ih fun y hy => h y (by simp [hy])
    omega
theorem take_seg (zs : List Int) {f n : Nat} (h : f ≤ n) : zs.take n = zs.take f ++ seg zs f n := by
  unfold seg
  rw [← List.take_append_drop f (zs.take n), List.take_take, Nat.min_eq_left h, List.drop_take]

/-- Whose nearest place is the last one is a home behind which all are so. -/
theorem cutAt (A : Nat → Prop) [DecidablePred A] (hm : ∀ i j, i ≤ j → A i → A j) : ∀ n, ∃ f, f ≤ n ∧ (∀ i, i < f → ¬ A i) ∧ ∀ i, f ≤ i → i < n → A i
  | 0 => ⟨0, Nat.le_refl _, fun i h => by omega, fun i _ h => by omega⟩
  | n + 1 => by
    obtain ⟨f, h1, h2, h3⟩ := cutAt A hm n
    by_cases hA : A n
    · exact ⟨f, by omega, h2, fun i hi hn => by
        by_cases e : i = n
        · rw [e]; exact hA
        · exact h3 i hi (by omega)⟩
    · exact ⟨n + 1, Nat.le_refl _, fun i hi hAi => hA (hm i n (by omega) hAi), fun i hi hn => by omega⟩
theorem near_last {x y p : Int} {l : List Int} (hp : ∀ q ∈ l, q ≤ p) (hxy : x ≤ y) (h : ∀ q ∈ l, gapI x p ≤ gapI x q) : ∀ q ∈ l, gapI y p ≤ gapI y q := fun q hq => by
  have h1 := hp q hq
  have h2 := h q hq
  revert h2
  unfold gapI
  split <;> split <;> split <;> split <;> omega
theorem scut_split (zs : List Int) {k f n : Nat} (h1 : 1 ≤ f) (h2 : f < n) : scut zs (k + 2) n ≤ scut zs (k + 1) f + cost zs f n := by
  by_cases h : k + 2 < n
  · rw [scut_big zs h]
    exact (le_sfold.1 (Int.le_refl (sfold (scut zs (k + 1)) zs n n))).2 f h1 h2
  · rw [scut_small zs (by omega)]
    have := scut_nonneg zs (k + 1) f
    have := cost_nonneg zs f n
    omega
theorem scut_mono (zs : List Int) {k k' n : Nat} (h1 : 1 ≤ k) (h : k ≤ k') : scut zs k' n ≤ scut zs k n := by
  induction h with
  | refl => exact Int.le_refl _
  | @step m hm ih =>
    obtain ⟨j, rfl⟩ : ∃ j, m = j + 1 := ⟨m - 1, by have : k ≤ m := hm; omega⟩
    exact Int.le_trans (scut_succ_le zs j n) ih

theorem seg_mem {zs : List Int} {f n : Nat} (hn : n ≤ zs.length) {x : Int} (h : x ∈ seg zs f n) : ∃ i, f ≤ i ∧ i < n ∧ zs.getD i 0 = x := by
  unfold seg at h
  obtain ⟨j, hj, e⟩ := List.getElem_of_mem h
  rw [List.length_take, List.length_drop] at hj
  refine ⟨f + j, by omega, by omega, ?_⟩
  rw [List.getElem_take, List.getElem_drop] at e
  rw [← e]
  simp [List.getD, List.getElem?_eq_getElem (show f + j < zs.length by omega)]
theorem take_mem {zs : List Int} {n : Nat} (hn : n ≤ zs.length) {x : Int} (h : x ∈ zs.take n) : ∃ i, i < n ∧ zs.getD i 0 = x := by
  obtain ⟨j, hj, e⟩ := List.getElem_of_mem h
  rw [List.length_take] at hj
  refine ⟨j, by omega, ?_⟩
  rw [List.getElem_take] at e
  rw [← e]
  simp [List.getD, List.getElem?_eq_getElem (show j < zs.length by omega)]

/-- No places do better than groups: places in order, the greatest first. -/
theorem scut_le_sorted {zs : List Int} (hs : zs.Pairwise (· ≤ ·)) : ∀ (r : List Int) (p : Int) (n : Nat), (p :: r).Pairwise (· ≥ ·) → n ≤ zs.length → scut zs (r.length + 1) n ≤ dsum p r (zs.take n)
  | [], p, n, _, hn => by
    refine Int.le_trans (scut_le_cost zs 0 n) ?_
    have h := cost_le hs (f := 0) (Nat.zero_le n) hn p
    rw [dsum_one]
    simpa [seg] using h
  | q :: r, p, n, hp, hn => by
    have hq := (List.pairwise_cons.1 hp)
    have IH := fun m (hm : m ≤ zs.length) => scut_le_sorted hs r q m hq.2 hm
    obtain ⟨f, hf, h1, h2⟩ := cutAt (fun i => n ≤ i ∨ ∀ v ∈ q :: r, gapI (zs.getD i 0) p ≤ gapI (zs.getD i 0) v) (fun i j hij h => by
      rcases h with h | h
      · exact .inl (by omega)
      · rcases Nat.lt_or_ge j n with hj | hj
        · exact .inr (near_last (fun v hv => hq.1 v hv) (pw_getD hs hij (by omega)) h)
        · exact .inl hj) n
    have hA : ∀ x ∈ seg zs f n, gapI x p ≤ dst p (q :: r) x := fun x hx => by
      obtain ⟨i, a, b, rfl⟩ := seg_mem hn hx
      rcases h2 i a b with h | h
      · omega
      · exact le_dst.2 fun v hv => by
          rcases List.mem_cons.1 hv with rfl | hv
          · exact Int.le_refl _
          · exact h v hv
    have hB : ∀ x ∈ zs.take f, dst q r x ≤ dst p (q :: r) x := fun x hx => by
      obtain ⟨i, a, rfl⟩ := take_mem (by omega) hx
      have hno : ¬ (∀ v ∈ q :: r, gapI (zs.getD i 0) p ≤ gapI (zs.getD i 0) v) := fun h => h1 i a (.inr h)
      rw [← le_dst] at hno
      simp only [dst]
      omega
    have e1 : cost zs f n ≤ (( seg zs f n).map (dst p (q :: r))).sum := Int.le_trans (cost_le hs hf hn p) (sum_mono hA)
    have e2 : dsum q r (zs.take f) ≤ dsum p (q :: r) (zs.take f) := sum_mono hB
    rw [take_seg zs hf, dsum_append]
    show scut zs (r.length + 2) n ≤ dsum p (q :: r) (zs.take f) + ((seg zs f n).map (dst p (q :: r))).sum
    have e3 := IH f (by omega)
    rcases Nat.eq_zero_or_pos f with h0 | h0
    · subst h0
      have e4 : scut zs (r.length + 2) n ≤ cost zs 0 n := scut_le_cost zs (r.length + 1) n
      have e5 := dsum_nonneg p (q :: r) (zs.take 0)
      omega
    · rcases Nat.lt_or_ge f n with h3 | h3
      · have e4 := scut_split zs (k := r.length) h0 h3
        omega
      · obtain rfl : f = n := by omega
        have e4 := scut_succ_le zs r.length f
        have e5 := cost_nonneg zs f f
        omega

/-- The same in whatever order the places come. -/
theorem scut_le_places {zs : List Int} (hs : zs.Pairwise (· ≤ ·)) {k n : Nat} (p : Int) (r : List Int) (hk : r.length + 1 ≤ k) (hn : n ≤ zs.length) : scut zs k n ≤ dsum p r (zs.take n) := by
  have hpm := List.mergeSort_perm (p :: r) (fun a b => decide (b ≤ a))
  have hso := List.pairwise_mergeSort (le := fun a b : Int => decide (b ≤ a)) (by intro a b c; simp; omega) (by intro a b; simp; omega) (p :: r)
  have hl := hpm.length_eq
  cases hq : (p :: r).mergeSort (fun a b => decide (b ≤ a)) with
  | nil => rw [hq] at hl; simp at hl
  | cons p' r' =>
    rw [hq] at hl hso hpm
    have hs' : (p' :: r').Pairwise (· ≥ ·) := hso.imp (by intro a b h; simpa using h)
    have h1 := scut_le_sorted hs r' p' n hs' hn
    have h2 : dsum p' r' (zs.take n) = dsum p r (zs.take n) := by
      unfold dsum
      congr 1
      exact List.map_congr_left fun x _ => dst_same (fun v => hpm.mem_iff) x
    have h3 : r'.length = r.length := by simpa using hl
    have h4 := scut_mono zs (k := r'.length + 1) (k' := k) (n := n) (by omega) (by omega)
    omega

theorem sfold_mem (prev : Nat → Int) (zs : List Int) (n : Nat) : ∀ j, sfold prev zs n j = prev n ∨ ∃ f, 1 ≤ f ∧ f < j ∧ sfold prev zs n j = prev f + cost zs f n
  | 0 => .inl rfl
  | j + 1 => by
    have ih := sfold_mem prev zs n j
    simp only [sfold]
    by_cases hj : j = 0
    · rw [if_pos hj]; exact .inl rfl
    · rw [if_neg hj]
      rcases Int.le_total (sfold prev zs n j) (prev j + cost zs j n) with h | h
      · rw [Int.min_eq_left h]
        rcases ih with ih | ⟨f, h1, h2, h3⟩
        · exact .inl ih
        · exact .inr ⟨f, h1, by omega, h3⟩
      · rw [Int.min_eq_right h]
        exact .inr ⟨j, by omega, by omega, rfl⟩
/-- Groups are served by their middle homes. -/
theorem scut_places (zs : List Int) : ∀ (k n : Nat), 1 ≤ n → n ≤ zs.length → ∃ (j : Nat) (J : List Nat), J.length + 1 ≤ k + 1 ∧ (∀ i ∈ j :: J, i < n) ∧ dsum (zs.getD j 0) (J.map fun i => zs.getD i 0) (zs.take n) ≤ scut zs (k + 1) n
  | 0, n, h1, hn => by
    refine ⟨n / 2, [], Nat.le_refl _, fun i hi => by simp at hi; omega, ?_⟩
    rw [List.map_nil, dsum_one]
    rw [scut_one]
    by_cases h : n ≤ 1
    · rw [if_pos h]
      obtain rfl : n = 1 := by omega
      match zs, hn with
      | x :: zs, _ => simp [sumNear, gapI]
    · rw [if_neg h, cost_eq (f := 0) (m := n / 2) (by omega) hn (by rw [Nat.zero_add]) rfl]
      simp [seg]
  | k + 1, n, h1, hn => by
    by_cases hk : k + 2 < n
    · rw [scut_big zs hk]
      rcases sfold_mem (scut zs (k + 1)) zs n n with h | ⟨f, hf1, hf2, h⟩
      · obtain ⟨j, J, a, b, c⟩ := scut_places zs k n h1 hn
        exact ⟨j, J, by omega, b, by rw [h]; exact c⟩
      · obtain ⟨j, J, a, b, c⟩ := scut_places zs k f hf1 (by omega)
        refine ⟨(f + n) / 2, j :: J, by simp; omega, fun i hi => ?_, ?_⟩
        · rcases List.mem_cons.1 hi with rfl | hi
          · omega
          · have := b i hi; omega
        · rw [h, take_seg zs (Nat.le_of_lt hf2), dsum_append, cost_eq hf2 hn rfl rfl]
          have e1 : dsum (zs.getD ((f + n) / 2) 0) ((j :: J).map fun i => zs.getD i 0) (zs.take f) ≤ dsum (zs.getD j 0) (J.map fun i => zs.getD i 0) (zs.take f) := sum_mono fun x _ => by
            simp only [List.map_cons, dst]; omega
          have e2 : dsum (zs.getD ((f + n) / 2) 0) ((j :: J).map fun i => zs.getD i 0) (seg zs f n) ≤ sumNear (seg zs f n) (zs.getD ((f + n) / 2) 0) := sum_mono fun x _ => dst_le (by simp)
          omega
    · refine ⟨n - 1, List.range (n - 1), by simp; omega, fun i hi => ?_, ?_⟩
      · rcases List.mem_cons.1 hi with rfl | hi
        · omega
        · have := List.mem_range.1 hi; omega
      · rw [scut_small zs (by omega)]
        have h0 : ∀ x ∈ zs.take n, dst (zs.getD (n - 1) 0) ((List.range (n - 1)).map fun i => zs.getD i 0) x ≤ (fun _ => (0 : Int)) x := fun x hx => by
          obtain ⟨i, hi, rfl⟩ := take_mem hn hx
          have e : gapI (zs.getD i 0) (zs.getD i 0) = 0 := by simp [gapI]
          refine Int.le_trans (dst_le (v := zs.getD i 0) ?_) (by rw [e]; exact Int.le_refl _)
          by_cases hin : i = n - 1
          · rw [hin]; simp
          · exact List.mem_cons_of_mem _ (List.mem_map.2 ⟨i, List.mem_range.2 (by omega), rfl⟩)
        have h1 := sum_mono h0
        have h2 : ((zs.take n).map fun _ => (0 : Int)).sum = 0 := by
          induction zs.take n with
          | nil => rfl
          | cons x l ih => simp only [List.map_cons, List.sum_cons, ih]; omega
        rw [h2] at h1
        exact h1
end Go.Proofs.Ytoohfipicmdohab
