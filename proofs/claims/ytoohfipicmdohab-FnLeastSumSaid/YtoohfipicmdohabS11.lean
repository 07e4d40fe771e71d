/-
  What is tried is by groups.
  Conditions: homes that are valid, at most seven.
-/
import Derived.Test.YtoohfipicmdohabS10
namespace Go.Proofs.Ytoohfipicmdohab
open Go.ChangeShapes Go.WideShapes Go.ChangeAt Go.RowKit
set_option linter.unusedVariables false

def setOf : List Nat → Nat
  | [] => 0
  | i :: J => setOf J ||| 2 ^ i
theorem setOf_lt {n : Nat} : ∀ {J : List Nat}, (∀ i ∈ J, i < n) → setOf J < 2 ^ n
  | [], _ => Nat.two_pow_pos n
  | i :: J, h => Nat.or_lt_two_pow (setOf_lt fun j hj => h j (by simp [hj])) (Nat.pow_lt_pow_right (by omega) (h i (by simp)))
theorem setOf_bit : ∀ {J : List Nat} {i : Nat}, i ∈ J → (setOf J).testBit i = true
  | j :: J, i, h => by
    simp only [setOf, Nat.testBit_or, Bool.or_eq_true]
    rcases List.mem_cons.1 h with rfl | h
    · exact .inr (Nat.testBit_two_pow_self)
    · exact .inl (setOf_bit h)
theorem or_len_all : ∀ s : Fin 128, ∀ i : Fin 7, (bitsOf (s.val ||| 2 ^ i.val)).length ≤ (bitsOf s.val).length + 1 := by decide +kernel
theorem bits_len_all : ∀ n : Fin 8, ∀ s : Fin 128, s.val < 2 ^ n.val → (bitsOf s.val).length ≤ n.val := by decide +kernel
theorem one_more_all : ∀ n : Fin 8, ∀ s : Fin 128, s.val < 2 ^ n.val → (bitsOf s.val).length < n.val → ∃ i : Fin 7, i.val < n.val ∧ (bitsOf (s.val ||| 2 ^ i.val)).length = (bitsOf s.val).length + 1 := by decide +kernel
theorem lt_128 {s n : Nat} (h : s < 2 ^ n) (h7 : n ≤ 7) : s < 128 := Nat.lt_of_lt_of_le h (Nat.pow_le_pow_right (n := 2) (by omega) h7)
theorem setOf_len {n : Nat} (h7 : n ≤ 7) : ∀ {J : List Nat}, (∀ i ∈ J, i < n) → (bitsOf (setOf J)).length ≤ J.length
  | [], _ => by show (bitsOf 0).length ≤ 0; decide
  | i :: J, h => by
    have h1 : ∀ j ∈ J, j < n := fun j hj => h j (by simp [hj])
    have ih := setOf_len h7 h1
    have h2 := h i (by simp)
    have := or_len_all ⟨setOf J, lt_128 (setOf_lt h1) h7⟩ ⟨i, by omega⟩
    simp only at this
    simp only [setOf, List.length_cons]
    omega
theorem nearB_anti {zs : List Int} {s s' : Nat} {x : Int} (h : ∀ q, s.testBit q = true → s'.testBit q = true) : ∀ m, nearB zs s' x m ≤ nearB zs s x m
  | 0 => Int.le_refl _
  | m + 1 => by
    have ih := nearB_anti (zs := zs) (x := x) h m
    have h1 := h m
    simp only [nearB]
    cases hb : s.testBit m with
    | true => rw [h1 hb]; simp only [if_true]; omega
    | false =>
      cases hb' : s'.testBit m <;> simp only [if_true, if_false, Bool.false_eq_true] <;> omega
theorem tsum_anti {zs : List Int} {s s' n : Nat} (h : ∀ q, s.testBit q = true → s'.testBit q = true) : ∀ j, tsum zs s' n j ≤ tsum zs s n j
  | 0 => Int.le_refl _
  | j + 1 => by
    have ih := tsum_anti (zs := zs) (n := n) h j
    have := nearB_anti (zs := zs) (x := zs.getD j 0) h n
    simp only [tsum]
    omega
/-- One more home in the choice costs no more. -/
theorem tmin_more {zs : List Int} {n c : Nat} (h7 : n ≤ 7) (hc : c < n) : tmin zs n (c + 1) (2 ^ n) ≤ tmin zs n c (2 ^ n) := by
  rcases tmin_mem zs n c (2 ^ n) with h | ⟨s, h1, h2, h3⟩
  · rw [h]; exact (tmin_bd zs n (c + 1) (2 ^ n)).2
  · obtain ⟨i, h4, h5⟩ := one_more_all ⟨n, by omega⟩ ⟨s, lt_128 h1 h7⟩ h1 (by show (bitsOf s).length < n; omega)
    simp only at h4 h5
    have h6 : s ||| 2 ^ i.val < 2 ^ n := Nat.or_lt_two_pow h1 (Nat.pow_lt_pow_right (by omega) h4)
    have h8 := tmin_le (zs := zs) (n := n) h6 (show (bitsOf (s ||| 2 ^ i.val)).length = c + 1 by omega)
    have h9 := tsum_anti (zs := zs) (n := n) (s := s) (s' := s ||| 2 ^ i.val) (fun q hq => by rw [Nat.testBit_or, hq]; rfl) n
    omega
theorem tmin_mono {zs : List Int} {n c c' : Nat} (h7 : n ≤ 7) (h : c ≤ c') (hc : c' ≤ n) : tmin zs n c' (2 ^ n) ≤ tmin zs n c (2 ^ n) := by
  induction h with
  | refl => exact Int.le_refl _
  | @step m hm ih => exact Int.le_trans (tmin_more h7 (by omega)) (ih (by omega))
theorem tsum_le_dsum {zs r : List Int} {p : Int} {s n : Nat} (h : ∀ x, nearB zs s x n ≤ dst p r x) : ∀ j, j ≤ zs.length → tsum zs s n j ≤ dsum p r (zs.take j)
  | 0, _ => by simp [tsum, dsum]
  | j + 1, hj => by
    have ih := tsum_le_dsum h j (by omega)
    rw [take_snoc' (by omega) rfl, dsum_append]
    have := h (zs.getD j 0)
    have e : dsum p r [zs.getD j 0] = dst p r (zs.getD j 0) := by simp [dsum]
    simp only [tsum]
    omega
theorem dsum_le_tsum {zs r : List Int} {p : Int} {s n : Nat} (h : ∀ i, i < zs.length → dst p r (zs.getD i 0) ≤ nearB zs s (zs.getD i 0) n) : ∀ j, j ≤ zs.length → dsum p r (zs.take j) ≤ tsum zs s n j
  | 0, _ => by simp [tsum, dsum]
  | j + 1, hj => by
    have ih := dsum_le_tsum h j (by omega)
    rw [take_snoc' (by omega) rfl, dsum_append]
    have := h j (by omega)
    have e : dsum p r [zs.getD j 0] = dst p r (zs.getD j 0) := by simp [dsum]
    simp only [tsum]
    omega

theorem stri_lsum {zs : List Int} {k : Int} (hvt : vt zs k = true) : stri zs k = lsum zs k := by
  have hvt' := hvt
  simp only [vt, Bool.and_eq_true, decide_eq_true_eq] at hvt'
  obtain ⟨hvh, h7, hk⟩ := hvt'
  rw [stri_yes hvt, lsum_eq, slsum_yes hvh hk]
  simp only [vk, Bool.and_eq_true, decide_eq_true_eq] at hk
  have hv : ∀ i, i < zs.length → 0 ≤ zs.getD i 0 ∧ zs.getD i 0 ≤ 50 := fun i hi => vh_get hvh hi rfl
  have hs := (vh_iff.1 hvh).2.1
  obtain ⟨n, hn⟩ : ∃ n, zs.length = n := ⟨_, rfl⟩
  obtain ⟨c, hc⟩ : ∃ c, min k.toNat n = c := ⟨_, rfl⟩
  obtain ⟨t, ht⟩ : ∃ t, k.toNat = t + 1 := ⟨k.toNat - 1, by omega⟩
  rw [hn, hc, ht]
  rw [hn] at h7
  by_cases h0 : n = 0
  · subst h0
    have hc0 : c = 0 := by omega
    subst hc0
    rw [scut_small zs (by omega)]
    rfl
  · have hc1 : 1 ≤ c := by omega
    have hcn : c ≤ n := by omega
    refine Int.le_antisymm ?_ ?_
    · obtain ⟨j, J, a, b, d⟩ := scut_places zs t n (by omega) (by omega)
      have h1 := setOf_lt b
      have h2 := setOf_len h7 b
      have h3 := bits_len_all ⟨n, by omega⟩ ⟨setOf (j :: J), lt_128 h1 h7⟩ h1
      simp only at h3
      rw [List.length_cons] at h2
      have h4 := tmin_le (zs := zs) (n := n) h1 rfl
      have h5 := tmin_mono (zs := zs) h7 (show (bitsOf (setOf (j :: J))).length ≤ c by omega) hcn
      have h6 := tsum_le_dsum (zs := zs) (s := setOf (j :: J)) (n := n) (p := zs.getD j 0) (r := J.map fun i => zs.getD i 0) (fun x => le_dst.2 fun v hv' => by
        rw [← List.map_cons (f := fun i => zs.getD i 0)] at hv'
        obtain ⟨i, hi, rfl⟩ := List.mem_map.1 hv'
        exact nearB_le (b i hi) (setOf_bit hi)) n (by omega)
      omega
    · rcases tmin_mem zs n c (2 ^ n) with h | ⟨s, h1, h2, h3⟩
      · rw [h]
        have h4 := scut_le_cost zs t n
        have h5 := cost_500 hvh (f := 0) (e := n) (by omega) (by omega)
        omega
      · cases hb : bitsOf s with
        | nil => rw [hb] at h2; simp at h2; omega
        | cons b bs =>
          rw [hb] at h2
          have hmem : ∀ q, q ∈ b :: bs → q < n ∧ s.testBit q = true := fun q hq => by
            rw [← hb] at hq
            have := mem_bitsOf hq
            exact ⟨bit_lt h1 this.2, this.2⟩
          have h4 := scut_le_places hs (k := t + 1) (n := n) (zs.getD b 0) (bs.map fun i => zs.getD i 0) (by rw [List.length_map]; simp at h2; omega) (by omega)
          have h5 := dsum_le_tsum (zs := zs) (s := s) (n := n) (p := zs.getD b 0) (r := bs.map fun i => zs.getD i 0) (fun i hi => by
            rcases nearB_mem zs s (zs.getD i 0) n with h | ⟨q, hq1, hq2, hq3⟩
            · obtain ⟨a1, a2⟩ := hv i hi
              obtain ⟨b1, b2⟩ := hv b (by rw [hn]; exact (hmem b (by simp)).1)
              have := gapI_50 a1 a2 b1 b2
              have h6 : dst (zs.getD b 0) (bs.map fun i => zs.getD i 0) (zs.getD i 0) ≤ gapI (zs.getD i 0) (zs.getD b 0) := dst_le (by simp)
              omega
            · rw [hq3]
              refine dst_le ?_
              have hqm : q ∈ b :: bs := by
                rw [← hb]
                unfold bitsOf
                simp
                exact ⟨by omega, hq2⟩
              rw [← List.map_cons (f := fun i => zs.getD i 0)]
              exact List.mem_map.2 ⟨q, hqm, rfl⟩) n (by omega)
          omega
end Go.Proofs.Ytoohfipicmdohab
