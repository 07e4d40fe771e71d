/-
  Plain mathematics of LeastSum: the program's table and the model's cuts give one number.
  Conditions: none beyond what each theorem states.
-/
import Derived.Test.YtoohfipicmdohabK9
import Derived.Test.YtoohfipicmdohabM2
import Derived.Test.YtoohfipicmdohabE0
namespace Go.Proofs.Ytoohfipicmdohab
open Go.RowKit Go.Maps
set_option linter.unusedVariables false

theorem le_vm {zs S : List Int} {m : Nat} {x : Int} : ∀ {j : Nat}, x ≤ vm zs S (fun _ => true) m j ↔ x ≤ S.getD m 0 ∧ ∀ f, f < j → x ≤ S.getD f 0 + cost zs f m
  | 0 => by simp [vm]
  | j + 1 => by
    have ih := le_vm (zs := zs) (S := S) (m := m) (x := x) (j := j)
    simp only [vm, if_true]
    constructor
    · intro h
      have h1 := ih.1 (by omega)
      refine ⟨h1.1, fun f hf => ?_⟩
      rcases Nat.lt_or_ge f j with h2 | h2
      · exact h1.2 f h2
      · obtain rfl : f = j := by omega
        omega
    · intro h
      have h1 := ih.2 ⟨h.1, fun f hf => h.2 f (by omega)⟩
      have h2 := h.2 j (by omega)
      omega
theorem le_sfold {prev : Nat → Int} {zs : List Int} {n : Nat} {x : Int} : ∀ {j : Nat}, x ≤ sfold prev zs n j ↔ x ≤ prev n ∧ ∀ f, 1 ≤ f → f < j → x ≤ prev f + cost zs f n
  | 0 => ⟨fun h => ⟨h, fun f _ h2 => absurd h2 (by omega)⟩, fun h => h.1⟩
  | j + 1 => by
    have ih := le_sfold (prev := prev) (zs := zs) (n := n) (x := x) (j := j)
    simp only [sfold]
    by_cases hj : j = 0
    · subst hj
      rw [if_pos rfl]
      constructor
      · intro h; exact ⟨h, fun f h1 h2 => by omega⟩
      · intro h; exact h.1
    · rw [if_neg hj]
      constructor
      · intro h
        have h1 := ih.1 (by omega)
        refine ⟨h1.1, fun f hf hf2 => ?_⟩
        rcases Nat.lt_or_ge f j with h2 | h2
        · exact h1.2 f hf h2
        · obtain rfl : f = j := by omega
          omega
      · intro h
        have h1 := ih.2 ⟨h.1, fun f hf hf2 => h.2 f hf (by omega)⟩
        have h2 := h.2 j (by omega) (by omega)
        omega
theorem eq_of_le {a b : Int} (h : ∀ x : Int, x ≤ a ↔ x ≤ b) : a = b := Int.le_antisymm ((h a).1 (Int.le_refl _)) ((h b).2 (Int.le_refl _))
theorem dp_get (zs : List Int) {n m : Nat} (t : Nat) (h : m ≤ n) : (dp zs n (t + 1)).getD m 0 = vm zs (dp zs n t) (fun _ => true) m m := by
  show (vrow zs (dp zs n t) (fun _ _ => true) n).getD m 0 = _
  rw [vrow_get _ _ _ h]
theorem dp_zero (zs : List Int) {n m : Nat} (h : m ≤ n) : (dp zs n 0).getD m 0 = if m = 0 then 0 else 501 := by
  cases m with
  | zero => simp [dp]
  | succ m => simp [dp, List.getD, show m < n by omega]
theorem cost_one {zs : List Int} {f : Nat} (h : f < zs.length) : cost zs f (f + 1) = 0 := by
  unfold cost
  have e : seg zs f (f + 1) = [zs.getD f 0] := by
    unfold seg
    rw [List.drop_eq_getElem_cons h, show f + 1 - f = 1 by omega, List.take_succ_cons, List.take_zero]
    simp [List.getD, List.getElem?_eq_getElem h]
  rw [e]
  simp [sumNear, gapI]
theorem cost_nonneg (zs : List Int) (f e : Nat) : 0 ≤ cost zs f e := by
  unfold cost sumNear
  generalize (seg zs f e).getD ((e - f) / 2) 0 = p
  induction seg zs f e with
  | nil => simp
  | cons x r ih => simp only [List.map_cons, List.sum_cons]; have := gapI_nonneg x p; omega
theorem sumNear_50 {l : List Int} {p : Int} (hl : ∀ x ∈ l, 0 ≤ x ∧ x ≤ 50) (h3 : 0 ≤ p) (h4 : p ≤ 50) : sumNear l p ≤ 50 * l.length := by
  induction l with
  | nil => simp [sumNear]
  | cons x r ih =>
    have h := ih (fun y hy => hl y (by simp [hy]))
    have hx := hl x (by simp)
    have h2 : gapI x p ≤ 50 := by unfold gapI; split <;> omega
    rw [sumNear_cons, List.length_cons]
    omega
theorem cost_500 {zs : List Int} (hv : vh zs = true) {f e : Nat} (hf : f < e) (he : e ≤ zs.length) : cost zs f e ≤ 500 := by
  have hh := vh_iff.1 hv
  have hl := seg_length (zs := zs) rfl (Nat.le_of_lt hf) he
  have hm : ∀ x ∈ seg zs f e, 0 ≤ x ∧ x ≤ 50 := fun x hx => hh.2.2 x (List.mem_of_mem_drop (List.mem_of_mem_take hx))
  have hp : (seg zs f e).getD ((e - f) / 2) 0 ∈ seg zs f e := by
    simp [List.getD, List.getElem?_eq_getElem (show (e - f) / 2 < (seg zs f e).length by omega)]
  have := sumNear_50 hm (hm _ hp).1 (hm _ hp).2
  unfold cost
  have := hh.1
  omega
theorem scut_one (zs : List Int) (n : Nat) : scut zs 1 n = if n ≤ 1 then 0 else cost zs 0 n := by simp [scut]
theorem scut_small (zs : List Int) {k n : Nat} (h : n ≤ k) : scut zs k n = 0 := by
  cases k with
  | zero => rfl
  | succ k => simp only [scut]; rw [if_pos h]
theorem scut_big (zs : List Int) {k n : Nat} (h : k + 2 < n) : scut zs (k + 2) n = sfold (scut zs (k + 1)) zs n n := by
  simp only [scut]; rw [if_neg (by omega), if_neg (by omega)]
theorem scut_nonneg (zs : List Int) : ∀ k n, 0 ≤ scut zs k n
  | 0, n => by simp [scut]
  | k + 1, n => by
    simp only [scut]
    split
    · omega
    · split
      · exact cost_nonneg _ _ _
      · exact le_sfold.2 ⟨scut_nonneg zs k n, fun f _ _ => by have := scut_nonneg zs k f; have := cost_nonneg zs f n; omega⟩
theorem scut_succ_le (zs : List Int) (k n : Nat) : scut zs (k + 2) n ≤ scut zs (k + 1) n := by
  by_cases h : k + 2 < n
  · rw [scut_big zs h]
    exact (le_sfold.1 (Int.le_refl (sfold (scut zs (k + 1)) zs n n))).1
  · rw [scut_small zs (by omega)]
    exact scut_nonneg _ _ _
theorem scut_le_cost (zs : List Int) : ∀ k n, scut zs (k + 1) n ≤ cost zs 0 n
  | 0, n => by
    rw [scut_one]
    split
    · exact cost_nonneg _ _ _
    · exact Int.le_refl _
  | k + 1, n => Int.le_trans (scut_succ_le zs k n) (scut_le_cost zs k n)
theorem dp_scut {zs : List Int} (hv : vh zs = true) : ∀ t m, m ≤ zs.length → (dp zs zs.length (t + 1)).getD m 0 = scut zs (t + 1) m
  | 0, m, hm => by
    rw [dp_get zs 0 hm, scut_one]
    refine eq_of_le fun x => ?_
    rw [le_vm, dp_zero zs hm]
    by_cases h0 : m = 0
    · subst h0
      simp
    · rw [if_neg h0]
      have h1 : (dp zs zs.length 0).getD 0 0 = 0 := by rw [dp_zero zs (by omega)]; rfl
      have hc := cost_500 hv (f := 0) (e := m) (by omega) hm
      have hcc : (if m ≤ 1 then 0 else cost zs 0 m) = cost zs 0 m := by
        split
        · obtain rfl : m = 1 := by omega
          exact (cost_one (by omega)).symm
        · rfl
      rw [hcc]
      constructor
      · intro h
        have := h.2 0 (by omega)
        omega
      · intro h
        refine ⟨by omega, fun f hf => ?_⟩
        by_cases hf0 : f = 0
        · subst hf0; omega
        · rw [dp_zero zs (show f ≤ zs.length by omega), if_neg hf0]
          have := cost_nonneg zs f m
          omega
  | t + 1, m, hm => by
    have ih := dp_scut hv t
    rw [dp_get zs (t + 1) hm]
    refine eq_of_le fun x => ?_
    rw [le_vm, ih m hm]
    by_cases h2 : t + 2 < m
    · rw [scut_big zs h2, le_sfold]
      constructor
      · rintro ⟨h3, h4⟩
        exact ⟨h3, fun f hf1 hf2 => by rw [← ih f (by omega)]; exact h4 f hf2⟩
      · rintro ⟨h3, h4⟩
        refine ⟨h3, fun f hf => ?_⟩
        rw [ih f (by omega)]
        by_cases hf0 : f = 0
        · subst hf0
          have h5 := scut_le_cost zs t m
          have h6 := scut_nonneg zs (t + 1) 0
          omega
        · exact h4 f (by omega) hf
    · rw [scut_small zs (show m ≤ t + 1 + 1 by omega)]
      constructor
      · rintro ⟨h3, h4⟩
        by_cases hm0 : m = 0
        · subst hm0
          rw [scut_small zs (by omega)] at h3
          exact h3
        · have h5 := h4 (m - 1) (by omega)
          rw [ih (m - 1) (by omega), scut_small zs (show m - 1 ≤ t + 1 by omega)] at h5
          have h6 := cost_one (zs := zs) (f := m - 1) (by omega)
          rw [show m - 1 + 1 = m by omega] at h6
          omega
      · intro h
        refine ⟨by have := scut_nonneg zs (t + 1) m; omega, fun f hf => ?_⟩
        rw [ih f (by omega)]
        have h7 := scut_nonneg zs (t + 1) f
        have h8 := cost_nonneg zs f m
        omega
theorem lsum_eq (zs : List Int) (k : Int) : lsum zs k = slsum zs k := by
  by_cases h : vh zs = true ∧ vk k = true
  · rw [lsum_yes h.1 h.2, slsum_yes h.1 h.2]
    have hk := h.2
    unfold vk at hk
    simp at hk
    obtain ⟨t, ht⟩ : ∃ t, k.toNat = t + 1 := ⟨k.toNat - 1, by omega⟩
    rw [ht]
    exact dp_scut h.1 t zs.length (Nat.le_refl _)
  · rw [lsum_no h, slsum_no h]

theorem iLeastSum_b (A : Option Addr) (c n : Nat) (zs : List Int) (k : Int) (w : World) (B : Nat) (hr : RdI w B A zs) (hn : zs.length = n) (hb : n ≤ 1048576) (hB : B ≤ w.heap.size) (hcap : n ≤ c) (hc63 : c ≤ 9223372036854775807) :
    Calls Try.prog 16 #[.slice A n c, .int .i64 k] w fun e w' => e = .returned (.int .i64 (lsum zs k)) ∧ Below w.heap.size w w' := iLeastSum_any A c n zs k w B hr hB hn hcap hc63 hb
theorem sLeastSum_b (A : Option Addr) (c n : Nat) (zs : List Int) (k : Int) (w : World) (B : Nat) (hr : RdI w B A zs) (hn : zs.length = n) (hb : n ≤ 1048576) (hB : B ≤ w.heap.size) (hcap : n ≤ c) (hc63 : c ≤ 9223372036854775807) :
    Calls Try.prog 17 #[.slice A n c, .int .i64 k] w fun e w' => e = .returned (.int .i64 (lsum zs k)) ∧ Below w.heap.size w w' := by
  rw [lsum_eq]
  exact calls_drawn (sLeastSum_any A c n zs k w B hr hn hcap hc63 hb)
end Go.Proofs.Ytoohfipicmdohab
