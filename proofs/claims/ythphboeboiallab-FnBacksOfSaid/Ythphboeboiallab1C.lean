/-
  Plain mathematics of chapter 11: all spreads in order, the first best one of them, and the greedy one.
  Conditions: none beyond what each theorem states.
-/
import Derived.Test.Ythphboeboiallab1B
namespace Go.Proofs.Ythphboeboiallab
open Go.RowKit
set_option linter.unusedVariables false

/-- The first one of several with the greatest value. -/
def bsF {α : Type} (f : α → Nat) : α → List α → α
  | b, [] => b
  | b, l :: r => bsF f (if f b < f l then l else b) r
theorem bsF_snoc {α : Type} (f : α → Nat) : ∀ (b : α) (r : List α) (l : α), bsF f b (r ++ [l]) = if f (bsF f b r) < f l then l else bsF f b r
  | b, [], l => rfl
  | b, x :: r, l => by rw [List.cons_append, bsF, bsF, bsF_snoc f _ r l]
theorem bsF_mem {α : Type} (f : α → Nat) : ∀ (b : α) (r : List α), bsF f b r ∈ b :: r
  | b, [] => by simp [bsF]
  | b, x :: r => by
    rw [bsF]
    rcases List.mem_cons.1 (bsF_mem f (if f b < f x then x else b) r) with h | h
    · rw [h]; split <;> simp
    · exact List.mem_cons_of_mem _ (List.mem_cons_of_mem _ h)
theorem bsF_max {α : Type} (f : α → Nat) : ∀ (b : α) (r : List α) (l : α), l ∈ b :: r → f l ≤ f (bsF f b r)
  | b, [], l, h => by
    rw [List.mem_singleton.1 h, bsF]
    exact Nat.le_refl _
  | b, x :: r, l, h => by
    rw [bsF]
    have h0 := bsF_max f (if f b < f x then x else b) r (if f b < f x then x else b) (by simp)
    rcases List.mem_cons.1 h with rfl | h
    · refine Nat.le_trans ?_ h0; split <;> omega
    · rcases List.mem_cons.1 h with rfl | h
      · refine Nat.le_trans ?_ h0; split <;> omega
      · exact bsF_max f _ r l (List.mem_cons_of_mem _ h)

/-- Is the home at j passed over by a walk from i on? -/
def skB (zs : List Int) (i j : Nat) : Bool := decide (i < j) && decide (zs.getD j 0 = zs.getD (j - 1) 0)
/-- All ascending lists of k homes from i on, as the model lists them. -/
def spL (zs : List Int) : Nat → Nat → List (List Int)
  | 0, _ => [[]]
  | k + 1, i => (List.range' i (zs.length - i)).flatMap fun j => if skB zs i j = true then [] else (spL zs k j).map (zs.getD j 0 :: ·)
def ascB : List Int → Prop
  | [] => True
  | [_] => True
  | a :: b :: r => a ≤ b ∧ ascB (b :: r)
theorem ascB_cons {a : Int} : ∀ {r : List Int}, (∀ u ∈ r, a ≤ u) → ascB r → ascB (a :: r)
  | [], _, _ => trivial
  | b :: r, h, hr => ⟨h b (by simp), hr⟩
theorem ascB_tail {a : Int} : ∀ {r : List Int}, ascB (a :: r) → ascB r ∧ ∀ u ∈ r, a ≤ u
  | [], _ => ⟨trivial, by simp⟩
  | b :: r, h => by
    obtain ⟨h1, h2⟩ := ascB_tail h.2
    refine ⟨h.2, fun u hu => ?_⟩
    rcases List.mem_cons.1 hu with rfl | hu
    · exact h.1
    · exact Int.le_trans h.1 (h2 u hu)
theorem ascB_at {zs : List Int} : ∀ {i j : Nat}, ascB zs → i ≤ j → j < zs.length → zs.getD i 0 ≤ zs.getD j 0 := by
  induction zs with
  | nil => intro i j _ _ h; simp at h
  | cons a r ih =>
    intro i j h hij hj
    obtain ⟨h1, h2⟩ := ascB_tail h
    match i, j with
    | 0, 0 => exact Int.le_refl _
    | 0, j + 1 =>
      simp only [List.getD_cons_zero, List.getD_cons_succ]
      have hj' : j < r.length := by simpa using hj
      exact h2 _ (by simp [List.getD, hj'])
    | i + 1, j + 1 =>
      simp only [List.getD_cons_succ]
      exact ih h1 (by omega) (by simpa using hj)
/-- Homes from i on. -/
def inB (zs : List Int) (i : Nat) (u : Int) : Prop := ∃ j, i ≤ j ∧ j < zs.length ∧ zs.getD j 0 = u
theorem spL_len {zs : List Int} : ∀ {k i : Nat} {l : List Int}, l ∈ spL zs k i → l.length = k ∧ (∀ u ∈ l, inB zs i u)
  | 0, i, l, h => by
    rw [spL, List.mem_singleton] at h
    subst h
    exact ⟨rfl, by simp⟩
  | k + 1, i, l, h => by
    rw [spL, List.mem_flatMap] at h
    obtain ⟨j, hj, h⟩ := h
    rw [List.mem_range'_1] at hj
    split at h
    · simp at h
    · obtain ⟨r, hr, rfl⟩ := List.mem_map.1 h
      obtain ⟨h1, h2⟩ := spL_len hr
      refine ⟨by simp [h1], fun u hu => ?_⟩
      rcases List.mem_cons.1 hu with rfl | hu
      · exact ⟨j, hj.1, by omega, rfl⟩
      · obtain ⟨q, hq, hq2, hq3⟩ := h2 u hu
        exact ⟨q, by omega, hq2, hq3⟩
theorem spL_asc {zs : List Int} (hz : ascB zs) : ∀ {k i : Nat} {l : List Int}, l ∈ spL zs k i → ascB l
  | 0, i, l, h => by
    rw [spL, List.mem_singleton] at h
    subst h
    trivial
  | k + 1, i, l, h => by
    rw [spL, List.mem_flatMap] at h
    obtain ⟨j, hj, h⟩ := h
    rw [List.mem_range'_1] at hj
    split at h
    · simp at h
    · obtain ⟨r, hr, rfl⟩ := List.mem_map.1 h
      refine ascB_cons (fun u hu => ?_) (spL_asc hz hr)
      obtain ⟨q, hq, hq2, rfl⟩ := (spL_len hr).2 u hu
      exact ascB_at hz hq hq2
/-- The first place of a home from i on. -/
theorem inB_first {zs : List Int} {i : Nat} {u : Int} (h : inB zs i u) : ∃ j, i ≤ j ∧ j < zs.length ∧ zs.getD j 0 = u ∧ ∀ q, i ≤ q → q < j → zs.getD q 0 ≠ u := by
  obtain ⟨j, hj⟩ := h
  induction j using Nat.strongRecOn with
  | _ j ih =>
    by_cases hm : ∃ q, i ≤ q ∧ q < j ∧ zs.getD q 0 = u
    · obtain ⟨q, h1, h2, h3⟩ := hm
      exact ih q h2 ⟨h1, by omega, h3⟩
    · exact ⟨j, hj.1, hj.2.1, hj.2.2, fun q h1 h2 h3 => hm ⟨q, h1, h2, h3⟩⟩
/-- Every ascending list of k homes is among them. -/
theorem spL_all {zs : List Int} (hz : ascB zs) : ∀ {k i : Nat} {l : List Int}, l.length = k → ascB l → (∀ u ∈ l, inB zs i u) → l ∈ spL zs k i
  | 0, i, l, hl, _, _ => by
    obtain rfl := List.length_eq_zero_iff.1 hl
    simp [spL]
  | k + 1, i, l, hl, ha, hm => by
    match l, hl, ha, hm with
    | t :: r, hl, ha, hm =>
      obtain ⟨j, h1, h2, h3, h4⟩ := inB_first (hm t (by simp))
      obtain ⟨h5, h6⟩ := ascB_tail ha
      rw [spL, List.mem_flatMap]
      refine ⟨j, by rw [List.mem_range'_1]; omega, ?_⟩
      have hs : skB zs i j = false := by
        unfold skB
        by_cases hij : i < j
        · have := h4 (j - 1) (by omega) (by omega)
          rw [h3]
          simp only [hij, decide_true, Bool.true_and, decide_eq_false_iff_not]
          exact fun e => this e.symm
        · simp [hij]
      rw [if_neg (by simp [hs]), h3]
      refine List.mem_map.2 ⟨r, spL_all hz (by simpa using hl) h5 (fun u hu => ?_), rfl⟩
      obtain ⟨q, hq, hq2, hq3⟩ := hm u (List.mem_cons_of_mem _ hu)
      rcases Nat.lt_or_ge q j with hqj | hqj
      · have a1 := ascB_at hz (Nat.le_of_lt hqj) h2
        have a2 := h6 u hu
        exact ⟨j, Nat.le_refl _, h2, by omega⟩
      · exact ⟨q, hqj, hq2, hq3⟩
theorem spL_ne {zs : List Int} (hz : ascB zs) (h1 : 1 ≤ zs.length) (k : Nat) : spL zs k 0 ≠ [] := by
  intro he
  have : List.replicate k (zs.getD 0 0) ∈ spL zs k 0 := by
    refine spL_all hz (by simp) ?_ (fun u hu => ⟨0, Nat.le_refl _, h1, (List.eq_of_mem_replicate hu).symm⟩)
    clear he
    induction k with
    | zero => trivial
    | succ k ih => rw [List.replicate_succ]; exact ascB_cons (fun u hu => by rw [List.eq_of_mem_replicate hu]; exact Int.le_refl _) ih
  rw [he] at this
  simp at this
/-- One more spot, behind those that are no greater. -/
def wsI (l : List Int) (t : Int) : List Int :=
  match l with
  | [] => [t]
  | a :: r => if a ≤ t then a :: wsI r t else t :: a :: r
theorem wsI_perm (t : Int) : ∀ l : List Int, (wsI l t).Perm (t :: l)
  | [] => List.Perm.refl _
  | a :: r => by
    rw [wsI]
    split
    · exact ((wsI_perm t r).cons a).trans (List.Perm.swap t a r)
    · exact List.Perm.refl _
theorem wsI_len (l : List Int) (t : Int) : (wsI l t).length = l.length + 1 := by rw [(wsI_perm t l).length_eq]; rfl
theorem wsI_asc (t : Int) : ∀ {l : List Int}, ascB l → ascB (wsI l t)
  | [], _ => trivial
  | a :: r, h => by
    obtain ⟨h1, h2⟩ := ascB_tail h
    rw [wsI]
    split
    · rename_i hle
      refine ascB_cons (fun u hu => ?_) (wsI_asc t h1)
      rcases List.mem_cons.1 ((wsI_perm t r).mem_iff.1 hu) with rfl | hu
      · exact hle
      · exact h2 u hu
    · rename_i hle
      exact ⟨by omega, h⟩
/-- The best spread, by any measure. -/
def bstL (f : List Int → Nat) (zs : List Int) (k : Nat) : List Int := bsF f ((spL zs k 0).headD []) ((spL zs k 0).tail)
theorem bstL_mem {f : List Int → Nat} {zs : List Int} (hz : ascB zs) (h1 : 1 ≤ zs.length) (k : Nat) : bstL f zs k ∈ spL zs k 0 := by
  have hn := spL_ne hz h1 k
  unfold bstL
  generalize spL zs k 0 = L at *
  match L, hn with
  | a :: r, _ => exact bsF_mem f a r
theorem bstL_max {f : List Int → Nat} {zs : List Int} {k : Nat} {l : List Int} (h : l ∈ spL zs k 0) : f l ≤ f (bstL f zs k) := by
  unfold bstL
  generalize spL zs k 0 = L at *
  match L, h with
  | a :: r, h => exact bsF_max f a r l h
/-- The greedy one's next list: the first home, then the others. -/
def nxL (f : List Int → Nat) (zs l : List Int) : List Int := bsF f (wsI l (zs.getD 0 0)) (zs.tail.map (wsI l))
def gdL (f : List Int → Nat) (zs : List Int) : Nat → List Int
  | 0 => []
  | k + 1 => nxL f zs (gdL f zs k)
theorem nxL_mem (f : List Int → Nat) {zs : List Int} (l : List Int) (h1 : 1 ≤ zs.length) : ∃ t ∈ zs, nxL f zs l = wsI l t ∧ ∀ u ∈ zs, f (wsI l u) ≤ f (wsI l t) := by
  match zs, h1 with
  | a :: r, _ =>
    unfold nxL
    simp only [List.getD_cons_zero, List.tail_cons]
    have hm := bsF_mem f (wsI l a) (r.map (wsI l))
    have hx := bsF_max f (wsI l a) (r.map (wsI l))
    rw [← List.map_cons] at hm hx
    obtain ⟨t, ht, he⟩ := List.mem_map.1 hm
    refine ⟨t, ht, he.symm, fun u hu => ?_⟩
    rw [he]
    exact hx _ (List.mem_map.2 ⟨u, hu, rfl⟩)
theorem gdL_asc (f : List Int → Nat) {zs : List Int} (h1 : 1 ≤ zs.length) : ∀ k, ascB (gdL f zs k) ∧ (gdL f zs k).length = k ∧ ∀ u ∈ gdL f zs k, u ∈ zs
  | 0 => ⟨trivial, rfl, by simp [gdL]⟩
  | k + 1 => by
    obtain ⟨ha, hl, hm⟩ := gdL_asc f h1 k
    obtain ⟨t, ht, he, -⟩ := nxL_mem f (gdL f zs k) h1
    rw [gdL, he]
    refine ⟨wsI_asc t ha, by rw [wsI_len, hl], fun u hu => ?_⟩
    rcases List.mem_cons.1 ((wsI_perm t _).mem_iff.1 hu) with rfl | hu
    · exact ht
    · exact hm u hu
theorem gdL_go {nr : Int → Int → Bool} {U D : Nat} {zs : List Int} (h1 : 1 ≤ zs.length) : ∀ k, ∃ gs, gs.Perm (gdL (rcB nr U D zs) zs k) ∧ GoB nr U D zs gs
  | 0 => ⟨[], List.Perm.refl _, trivial⟩
  | k + 1 => by
    obtain ⟨gs, hp, hG⟩ := gdL_go (nr := nr) (U := U) (D := D) h1 k
    obtain ⟨t, ht, he, hx⟩ := nxL_mem (rcB nr U D zs) (gdL (rcB nr U D zs) zs k) h1
    refine ⟨t :: gs, ?_, fun u hu => ?_, hG⟩
    · rw [gdL, he]
      exact (hp.cons t).trans (wsI_perm t _).symm
    · have h := hx u hu
      rw [rcB_perm (wsI_perm u _), rcB_perm (wsI_perm t _)] at h
      rw [rcB_perm (hp.cons u), rcB_perm (hp.cons t)]
      exact h
theorem inB_of {zs : List Int} {u : Int} (h : u ∈ zs) : inB zs 0 u := by
  obtain ⟨j, hj, rfl⟩ := List.mem_iff_getElem.1 h
  exact ⟨j, Nat.zero_le _, hj, by simp [List.getD, hj]⟩
theorem inB_mem {zs : List Int} {i : Nat} {u : Int} (h : inB zs i u) : u ∈ zs := by
  obtain ⟨j, -, hj, rfl⟩ := h
  simp [List.getD, hj]
/-- The best is at least greedy, and at most twice it. -/
theorem best_greedy {nr : Int → Int → Bool} {U D : Nat} (h : U ≤ D) (hD : 1 ≤ D) {zs : List Int} (hz : ascB zs) (h1 : 1 ≤ zs.length) (k : Nat) :
    rcB nr U D zs (gdL (rcB nr U D zs) zs k) ≤ rcB nr U D zs (bstL (rcB nr U D zs) zs k) ∧ rcB nr U D zs (bstL (rcB nr U D zs) zs k) ≤ 2 * rcB nr U D zs (gdL (rcB nr U D zs) zs k) := by
  obtain ⟨ha, hl, hm⟩ := gdL_asc (rcB nr U D zs) h1 k
  refine ⟨bstL_max (spL_all hz hl ha fun u hu => inB_of (hm u hu)), ?_⟩
  obtain ⟨gs, hp, hG⟩ := gdL_go (nr := nr) (U := U) (D := D) h1 k
  obtain ⟨b1, b2⟩ := spL_len (bstL_mem (f := rcB nr U D zs) hz h1 k)
  rw [← rcB_perm hp]
  exact goB_half h hD hG (by rw [b1, hp.length_eq, hl]) (fun u hu => inB_mem (b2 u hu))
/-- One helper more reaches no less at best. -/
theorem best_grows {nr : Int → Int → Bool} {U D : Nat} (h : U ≤ D) {zs : List Int} (hz : ascB zs) (h1 : 1 ≤ zs.length) (k : Nat) :
    rcB nr U D zs (bstL (rcB nr U D zs) zs k) * D ≤ rcB nr U D zs (bstL (rcB nr U D zs) zs (k + 1)) := by
  have hb := bstL_mem (f := rcB nr U D zs) hz h1 k
  obtain ⟨b1, b2⟩ := spL_len hb
  obtain ⟨c1, -⟩ := spL_len (bstL_mem (f := rcB nr U D zs) hz h1 (k + 1))
  have hz0 : zs.getD 0 0 ∈ zs := inB_mem ⟨0, Nat.le_refl _, h1, rfl⟩
  refine rcB_more (t := zs.getD 0 0) h (by omega) ?_
  rw [← rcB_perm (wsI_perm (zs.getD 0 0) _)]
  refine bstL_max (spL_all hz (by rw [wsI_len, b1]) (wsI_asc _ (spL_asc hz hb)) fun u hu => ?_)
  rcases List.mem_cons.1 ((wsI_perm _ _).mem_iff.1 hu) with rfl | hu
  · exact inB_of hz0
  · exact b2 u hu
/-- For one helper greedy is best. -/
theorem one_step (f : List Int → Nat) {zs : List Int} : ∀ {m : Nat}, 1 ≤ m → m ≤ zs.length → ∃ T, ((List.range' 0 m).flatMap fun j => if skB zs 0 j = true then [] else [[zs.getD j 0]]) = [zs.getD 0 0] :: T ∧
    bsF f [zs.getD 0 0] T = bsF f [zs.getD 0 0] ((zs.take m).tail.map fun t => [t])
  | 1, _, hm => by
    match zs, hm with
    | a :: r, _ => exact ⟨[], by simp [skB], by simp⟩
  | m + 2, _, hm => by
    obtain ⟨T, h1, h2⟩ := one_step f (zs := zs) (m := m + 1) (by omega) (by omega)
    have e1 : (zs.take (m + 2)).tail = (zs.take (m + 1)).tail ++ [zs.getD (m + 1) 0] := by
      rw [List.take_add_one, List.tail_append_of_ne_nil (by
        intro he
        have := congrArg List.length he
        rw [List.length_take, List.length_nil] at this
        omega)]
      simp [List.getD, show m + 1 < zs.length by omega]
    have e2 : List.range' 0 (m + 2) = List.range' 0 (m + 1) ++ [m + 1] := by
      have := List.range'_concat (s := 0) (n := m + 1) (step := 1)
      simpa using this
    rw [e2, List.flatMap_append, h1, e1, List.map_append]
    simp only [List.flatMap_cons, List.flatMap_nil, List.append_nil, List.map_cons, List.map_nil]
    refine ⟨T ++ (if skB zs 0 (m + 1) = true then [] else [[zs.getD (m + 1) 0]]), by simp, ?_⟩
    rw [bsF_snoc, ← h2]
    by_cases hs : skB zs 0 (m + 1) = true
    · rw [if_pos hs, List.append_nil]
      have he : zs.getD (m + 1) 0 = zs.getD m 0 := by
        unfold skB at hs
        simp only [Bool.and_eq_true, decide_eq_true_eq] at hs
        exact hs.2
      have hx : f [zs.getD m 0] ≤ f (bsF f [zs.getD 0 0] T) := by
        rw [h2]
        refine bsF_max f _ _ _ ?_
        rcases Nat.eq_zero_or_pos m with rfl | hm0
        · simp
        · refine List.mem_cons_of_mem _ (List.mem_map.2 ⟨zs.getD m 0, ?_, rfl⟩)
          rw [List.mem_iff_getElem]
          refine ⟨m - 1, by rw [List.length_tail, List.length_take]; omega, ?_⟩
          rw [List.getElem_tail, List.getElem_take]
          simp [List.getD, show m < zs.length by omega, show m - 1 + 1 = m by omega]
      rw [he, if_neg (by omega)]
    · rw [if_neg hs, bsF_snoc]
theorem one_same (f : List Int → Nat) {zs : List Int} (h1 : 1 ≤ zs.length) : gdL f zs 1 = bstL f zs 1 := by
  obtain ⟨T, e1, e2⟩ := one_step f (zs := zs) h1 (Nat.le_refl _)
  rw [List.take_length] at e2
  have e3 : spL zs 1 0 = [zs.getD 0 0] :: T := by
    rw [spL, Nat.sub_zero]
    exact e1
  show nxL f zs [] = bsF f ((spL zs 1 0).headD []) ((spL zs 1 0).tail)
  rw [e3]
  unfold nxL
  simp only [List.headD_cons, List.tail_cons]
  exact e2.symm
end Go.Proofs.Ythphboeboiallab
