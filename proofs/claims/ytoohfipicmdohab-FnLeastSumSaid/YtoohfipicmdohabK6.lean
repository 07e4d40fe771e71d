/-
  withOneGroup: one group more; the order of the map does not show.
  Conditions: as each theorem states.
-/
import Derived.Test.YtoohfipicmdohabK3
import Derived.Test.YtoohfipicmdohabK5
namespace Go.Proofs.Ytoohfipicmdohab
open Go.ChangeShapes Go.WideShapes Go.ChangeAt Go.RowKit Go.Maps
set_option linter.unusedVariables false

/-- The least sum for the first m homes, over those groups that P lets in. -/
def vm (zs S : List Int) (P : Nat → Bool) (m : Nat) : Nat → Int
  | 0 => S.getD m 0
  | f + 1 => if P f then min (vm zs S P m f) (S.getD f 0 + cost zs f m) else vm zs S P m f
def vrow (zs S : List Int) (P : Nat → Nat → Bool) (n : Nat) : List Int := (List.range (n + 1)).map (fun m => vm zs S (fun f => P f m) m m)
theorem vrow_length (zs S : List Int) (P : Nat → Nat → Bool) (n : Nat) : (vrow zs S P n).length = n + 1 := by simp [vrow]
theorem vrow_get (zs S : List Int) (P : Nat → Nat → Bool) {n m : Nat} (h : m ≤ n) : (vrow zs S P n).getD m 0 = vm zs S (fun f => P f m) m m := by
  simp [vrow, List.getD, show m < n + 1 by omega]
theorem vm_congr (zs S : List Int) {P Q : Nat → Bool} {m : Nat} : ∀ {j : Nat}, (∀ f, f < j → P f = Q f) → vm zs S P m j = vm zs S Q m j
  | 0, _ => rfl
  | j + 1, h => by simp only [vm]; rw [vm_congr zs S (fun f hf => h f (by omega)), h j (by omega)]
theorem vm_none (zs S : List Int) {P : Nat → Bool} {m : Nat} : ∀ {j : Nat}, (∀ f, f < j → P f = false) → vm zs S P m j = S.getD m 0
  | 0, _ => rfl
  | j + 1, h => by simp only [vm]; rw [h j (by omega)]; simpa using vm_none zs S (fun f hf => h f (by omega))
theorem vm_step (zs S : List Int) {P Q : Nat → Bool} {m f : Nat} (hf : P f = false) (hQ : ∀ f', Q f' = (P f' || f' == f)) : ∀ {j : Nat}, vm zs S Q m j = if f < j then min (vm zs S P m j) (S.getD f 0 + cost zs f m) else vm zs S P m j
  | 0 => by simp [vm]
  | j + 1 => by
    have ih := vm_step zs S (m := m) hf hQ (j := j)
    simp only [vm]
    rw [ih, hQ j]
    by_cases h1 : f < j
    · have h2 : (j == f) = false := by rw [beq_eq_false_iff_ne]; omega
      rw [if_pos h1, h2, Bool.or_false, if_pos (show f < j + 1 by omega)]
      cases P j <;> simp <;> omega
    · rw [if_neg h1]
      by_cases h3 : j = f
      · subst h3
        rw [hf]; simp
      · have h2 : (j == f) = false := by rw [beq_eq_false_iff_ne]; exact h3
        rw [h2, Bool.or_false, if_neg (show ¬ f < j + 1 by omega)]
theorem vm_bd {zs S : List Int} {n : Nat} (hz : InBd zs) (hn : zs.length = n) (h10 : n ≤ 1000) (hS : ∀ i, i ≤ n → 0 ≤ S.getD i 0 ∧ S.getD i 0 ≤ 3000000) {P : Nat → Bool} {m : Nat} (hm : m ≤ n) :
    ∀ {j : Nat}, j ≤ m → 0 ≤ vm zs S P m j ∧ vm zs S P m j ≤ 3000000
  | 0, _ => hS m hm
  | j + 1, h => by
    have ih := vm_bd hz hn h10 hS (P := P) hm (j := j) (by omega)
    have hc := cost_bd (f := j) (e := m) hz hn (by omega) hm h10
    have hs := hS j (by omega)
    simp only [vm]
    split <;> omega
theorem vrow_start (zs S : List Int) {P : Nat → Nat → Bool} {n : Nat} (hl : S.length = n + 1) (hP : ∀ f m, f < m → m ≤ n → P f m = false) : vrow zs S P n = S := by
  refine List.ext_getElem (by rw [vrow_length, hl]) (fun i h1 h2 => ?_)
  have hi : i ≤ n := by rw [hl] at h2; omega
  simp only [vrow, List.getElem_map, List.getElem_range]
  rw [vm_none zs S (fun f hf => hP f i hf hi)]
  simp [List.getD, List.getElem?_eq_getElem h2]
theorem vrow_congr (zs S : List Int) {P Q : Nat → Nat → Bool} {n : Nat} (h : ∀ f m, f < m → m ≤ n → P f m = Q f m) : vrow zs S P n = vrow zs S Q n := by
  refine List.map_congr_left fun m hm => ?_
  have hm' : m ≤ n := by have := List.mem_range.1 hm; omega
  exact vm_congr zs S (fun f hf => h f m hf hm')
theorem vrow_step (zs S : List Int) {P Q : Nat → Nat → Bool} {n f e : Nat} (hfe : f < e) (hen : e ≤ n) (hf : P f e = false) (hQ : ∀ f' e', f' < e' → e' ≤ n → Q f' e' = (P f' e' || (f' == f && e' == e))) :
    vrow zs S Q n = (vrow zs S P n).set e (min ((vrow zs S P n).getD e 0) (S.getD f 0 + cost zs f e)) := by
  refine List.ext_getElem (by rw [List.length_set, vrow_length, vrow_length]) (fun i h1 h2 => ?_)
  rw [vrow_length] at h1
  rw [List.getElem_set]
  simp only [vrow, List.getElem_map, List.getElem_range]
  by_cases hie : e = i
  · subst hie
    have hg := vrow_get zs S P hen
    unfold vrow at hg
    rw [if_pos rfl, hg]
    have hc : vm zs S (fun f' => Q f' e) e e = vm zs S (fun f' => P f' e || f' == f) e e := vm_congr zs S (fun f' hf' => by rw [hQ f' e hf' hen]; simp)
    rw [hc, vm_step zs S (P := fun f' => P f' e) hf (fun f' => rfl), if_pos hfe]
  · rw [if_neg hie]
    refine vm_congr zs S (fun f' hf' => ?_)
    rw [hQ f' i hf' (by omega)]
    have : (i == e) = false := by rw [beq_eq_false_iff_ne]; omega
    rw [this, Bool.and_false, Bool.or_false]
end Go.Proofs.Ytoohfipicmdohab
