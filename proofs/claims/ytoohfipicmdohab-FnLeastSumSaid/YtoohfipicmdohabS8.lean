/-
  The least sum over sets of homes is the least one over choices of homes.
  Conditions: homes that are valid, at most seven.
-/
import Derived.Test.YtoohfipicmdohabS7
namespace Go.Proofs.Ytoohfipicmdohab
open Go.ChangeShapes Go.WideShapes Go.ChangeAt Go.RowKit
set_option linter.unusedVariables false

theorem gapI_symm (a b : Int) : gapI a b = gapI b a := by unfold gapI; split <;> split <;> omega
theorem gapI_50 {a b : Int} (h1 : 0 ≤ a) (h2 : a ≤ 50) (h3 : 0 ≤ b) (h4 : b ≤ 50) : gapI a b ≤ 50 := by unfold gapI; split <;> omega
theorem nearB_le {zs : List Int} {s : Nat} {x : Int} : ∀ {m i : Nat}, i < m → s.testBit i = true → nearB zs s x m ≤ gapI x (zs.getD i 0)
  | 0, i, h, _ => by omega
  | m + 1, i, h, hb => by
    simp only [nearB]
    by_cases hi : i = m
    · subst hi; rw [if_pos hb]; omega
    · have := nearB_le (zs := zs) (x := x) (show i < m by omega) hb
      split <;> omega
theorem nearB_mem (zs : List Int) (s : Nat) (x : Int) : ∀ m, nearB zs s x m = 501 ∨ ∃ i, i < m ∧ s.testBit i = true ∧ nearB zs s x m = gapI x (zs.getD i 0)
  | 0 => .inl rfl
  | m + 1 => by
    have ih := nearB_mem zs s x m
    simp only [nearB]
    split
    · rename_i hb
      rcases Int.le_total (nearB zs s x m) (gapI x (zs.getD m 0)) with h | h
      · rw [Int.min_eq_left h]
        rcases ih with ih | ⟨i, h1, h2, h3⟩
        · exact .inl ih
        · exact .inr ⟨i, by omega, h2, h3⟩
      · rw [Int.min_eq_right h]
        exact .inr ⟨m, by omega, hb, rfl⟩
    · rcases ih with ih | ⟨i, h1, h2, h3⟩
      · exact .inl ih
      · exact .inr ⟨i, by omega, h2, h3⟩
theorem nearL_le {ps : List Int} {x : Int} : ∀ {m i : Nat}, i ≤ m → nearL ps x m ≤ gapI (ps.getD i 0) x
  | 0, i, h => by obtain rfl : i = 0 := by omega
                  exact Int.le_refl _
  | m + 1, i, h => by
    simp only [nearL]
    by_cases hi : i = m + 1
    · subst hi; omega
    · have := nearL_le (ps := ps) (x := x) (show i ≤ m by omega)
      omega
theorem nearL_mem (ps : List Int) (x : Int) : ∀ m, ∃ i, i ≤ m ∧ nearL ps x m = gapI (ps.getD i 0) x
  | 0 => ⟨0, Nat.le_refl _, rfl⟩
  | m + 1 => by
    obtain ⟨i, h1, h2⟩ := nearL_mem ps x m
    simp only [nearL]
    rcases Int.le_total (nearL ps x m) (gapI (ps.getD (m + 1) 0) x) with h | h
    · rw [Int.min_eq_left h]; exact ⟨i, by omega, h2⟩
    · rw [Int.min_eq_right h]; exact ⟨m + 1, Nat.le_refl _, rfl⟩

def lof (s : Nat) : List Int := (bitsOf s).map Int.ofNat
theorem pick_get {zs l : List Int} {c i : Nat} (hl : l.length = c) (hi : i < c) : (pick zs l c).getD i 0 = zs.getD (l.getD i 0).toNat 0 := by
  unfold pick
  rw [List.take_of_length_le (by omega)]
  simp [List.getD, List.getElem?_map, List.getElem?_eq_getElem (show i < l.length by omega)]
theorem mem_bitsOf {s q : Nat} (h : q ∈ bitsOf s) : q < 7 ∧ s.testBit q = true := by
  unfold bitsOf at h
  simpa using h
theorem lof_get {s i : Nat} (hi : i < (bitsOf s).length) : (bitsOf s)[i] < 7 ∧ s.testBit (bitsOf s)[i] = true := by
  exact mem_bitsOf (List.getElem_mem hi)
theorem lof_getD {s i : Nat} (hi : i < (bitsOf s).length) : ((lof s).getD i 0).toNat = (bitsOf s)[i] := by
  unfold lof
  simp [List.getD, List.getElem?_map, List.getElem?_eq_getElem hi]
theorem bit_lt {s n i : Nat} (hs : s < 2 ^ n) (hb : s.testBit i = true) : i < n := by
  rcases Nat.lt_or_ge i n with h | h
  · exact h
  · have := Nat.testBit_lt_two_pow (Nat.lt_of_lt_of_le hs (Nat.pow_le_pow_right (by omega) h))
    rw [this] at hb; cases hb

/-- The nearest home of a set. -/
theorem near_same {zs : List Int} {s n c : Nat} {x : Int} (hv : ∀ i, i < zs.length → 0 ≤ zs.getD i 0 ∧ zs.getD i 0 ≤ 50) (hn : zs.length = n) (h7 : n ≤ 7) (hs : s < 2 ^ n) (hc : (bitsOf s).length = c) (hc1 : 1 ≤ c) (hx1 : 0 ≤ x) (hx2 : x ≤ 50) :
    nearB zs s x n = nearL (pick zs (lof s) c) x (c - 1) := by
  have hlen : (lof s).length = c := by unfold lof; simpa using hc
  have key : ∀ i, i < c → ∃ q, q < n ∧ s.testBit q = true ∧ (pick zs (lof s) c).getD i 0 = zs.getD q 0 := fun i hi => by
    have h := lof_get (s := s) (i := i) (by omega)
    exact ⟨_, bit_lt hs h.2, h.2, by rw [pick_get hlen hi, lof_getD (by omega)]⟩
  obtain ⟨i, hi, hL⟩ := nearL_mem (pick zs (lof s) c) x (c - 1)
  obtain ⟨q, hq, hqb, hqe⟩ := key i (by omega)
  have h1 : nearB zs s x n ≤ nearL (pick zs (lof s) c) x (c - 1) := by
    rw [hL, hqe, gapI_symm]
    exact nearB_le hq hqb
  have h2 : nearL (pick zs (lof s) c) x (c - 1) ≤ nearB zs s x n := by
    rcases nearB_mem zs s x n with h | ⟨p, hp, hpb, hpe⟩
    · have hq' := hv q (by omega)
      have := gapI_50 hq'.1 hq'.2 hx1 hx2
      rw [hL, hqe, h]; omega
    · have hm : p ∈ bitsOf s := by unfold bitsOf; simp; exact ⟨by omega, hpb⟩
      obtain ⟨j, hj, hje⟩ := List.getElem_of_mem hm
      have h3 := nearL_le (ps := pick zs (lof s) c) (x := x) (show j ≤ c - 1 by omega)
      rw [pick_get hlen (by omega), lof_getD hj, hje, gapI_symm] at h3
      rw [hpe]; exact h3
  omega
theorem tsum_same {zs : List Int} {s n c : Nat} (hv : ∀ i, i < zs.length → 0 ≤ zs.getD i 0 ∧ zs.getD i 0 ≤ 50) (hn : zs.length = n) (h7 : n ≤ 7) (hs : s < 2 ^ n) (hc : (bitsOf s).length = c) (hc1 : 1 ≤ c) :
    ∀ h, h ≤ n → tsum zs s n h = sumL zs (pick zs (lof s) c) (c - 1) h
  | 0, _ => rfl
  | h + 1, hh => by
    simp only [tsum, sumL]
    rw [tsum_same hv hn h7 hs hc hc1 h (by omega)]
    obtain ⟨a, b⟩ := hv h (by omega)
    rw [near_same hv hn h7 hs hc hc1 a b]
theorem tsum_350 {zs : List Int} {s n c : Nat} (hv : ∀ i, i < zs.length → 0 ≤ zs.getD i 0 ∧ zs.getD i 0 ≤ 50) (hn : zs.length = n) (hs : s < 2 ^ n) (hc : (bitsOf s).length = c) (hc1 : 1 ≤ c) :
    ∀ h, h ≤ n → tsum zs s n h ≤ 50 * h
  | 0, _ => by simp [tsum]
  | h + 1, hh => by
    have ih := tsum_350 hv hn hs hc hc1 h (by omega)
    have hb := lof_get (s := s) (i := 0) (by omega)
    have hq := bit_lt hs hb.2
    have h1 := nearB_le (zs := zs) (x := zs.getD h 0) hq hb.2
    obtain ⟨a, b⟩ := hv h (by omega)
    obtain ⟨a', b'⟩ := hv _ (show (bitsOf s)[0] < zs.length by omega)
    have h2 := gapI_50 a b a' b'
    simp only [tsum]
    omega

theorem tmin_le {zs : List Int} {n c : Nat} : ∀ {S s : Nat}, s < S → (bitsOf s).length = c → tmin zs n c S ≤ tsum zs s n n
  | 0, s, h, _ => by omega
  | S + 1, s, h, hb => by
    simp only [tmin]
    by_cases hi : s = S
    · subst hi; rw [if_pos hb]; omega
    · have := tmin_le (zs := zs) (n := n) (show s < S by omega) hb
      split <;> omega
theorem tmin_mem (zs : List Int) (n c : Nat) : ∀ S, tmin zs n c S = 501 ∨ ∃ s, s < S ∧ (bitsOf s).length = c ∧ tmin zs n c S = tsum zs s n n
  | 0 => .inl rfl
  | S + 1 => by
    have ih := tmin_mem zs n c S
    simp only [tmin]
    split
    · rename_i hb
      rcases Int.le_total (tmin zs n c S) (tsum zs S n n) with h | h
      · rw [Int.min_eq_left h]
        rcases ih with ih | ⟨i, h1, h2, h3⟩
        · exact .inl ih
        · exact .inr ⟨i, by omega, h2, h3⟩
      · rw [Int.min_eq_right h]
        exact .inr ⟨S, by omega, hb, rfl⟩
    · rcases ih with ih | ⟨i, h1, h2, h3⟩
      · exact .inl ih
      · exact .inr ⟨i, by omega, h2, h3⟩

def chf (zs : List Int) (L : List (List Int)) (c i : Nat) : Int := sumL zs (pick zs (L.getD i []) c) (c - 1) zs.length
theorem bst_min {zs : List Int} {L : List (List Int)} {c R : Nat} (hf : ∀ i, i < R → 0 ≤ chf zs L c i) : ∀ t, t < R → (∀ i, i ≤ t → bst zs L c (t + 1) ≤ chf zs L c i) ∧ ∃ i, i ≤ t ∧ bst zs L c (t + 1) = chf zs L c i
  | 0, _ => by
    have e : bst zs L c 1 = chf zs L c 0 := by simp [bst, updS, chf]
    refine ⟨fun i hi => ?_, 0, Nat.le_refl _, e⟩
    obtain rfl : i = 0 := by omega
    rw [e]; exact Int.le_refl _
  | t + 1, ht => by
    obtain ⟨h1, j, hj, h2⟩ := bst_min hf t (by omega)
    have hn : 0 ≤ bst zs L c (t + 1) := by rw [h2]; exact hf j (by omega)
    have e : bst zs L c (t + 1 + 1) = updS (bst zs L c (t + 1)) (chf zs L c (t + 1)) := rfl
    rw [e]
    unfold updS
    split
    · refine ⟨fun i hi => ?_, t + 1, Nat.le_refl _, rfl⟩
      by_cases hit : i = t + 1
      · subst hit; exact Int.le_refl _
      · have := h1 i (by omega); omega
    · refine ⟨fun i hi => ?_, j, by omega, h2⟩
      by_cases hit : i = t + 1
      · subst hit; omega
      · exact h1 i (by omega)

theorem set_choice_all : ∀ n : Fin 8, ∀ s : Fin 128, s.val < 2 ^ n.val → (bitsOf s.val).length ≤ 4 → lof s.val ∈ chd n.val (bitsOf s.val).length n.val := by decide +kernel
theorem choice_set_all : ∀ n : Fin 8, ∀ c : Fin 5, ∀ l ∈ chd n.val c.val n.val, (l.map (fun a => 2 ^ a.toNat)).sum < 2 ^ n.val ∧ lof (l.map (fun a => 2 ^ a.toNat)).sum = l := by decide +kernel
theorem choice_some_all : ∀ n : Fin 8, ∀ c : Fin 5, c.val ≤ n.val → 0 < (chd n.val c.val n.val).length := by decide +kernel

theorem stri_same {zs : List Int} {k : Int} : stri zs k = sstri zs k := by
  cases hvt : vt zs k with
  | false => rw [stri_no hvt, sstri_no hvt]
  | true =>
    have hvt' := hvt
    simp only [vt, Bool.and_eq_true, decide_eq_true_eq] at hvt'
    obtain ⟨hvh, h7, hk⟩ := hvt'
    simp only [vk, Bool.and_eq_true, decide_eq_true_eq] at hk
    have hv : ∀ i, i < zs.length → 0 ≤ zs.getD i 0 ∧ zs.getD i 0 ≤ 50 := fun i hi => vh_get hvh hi rfl
    rw [stri_yes hvt]
    obtain ⟨n, hn⟩ : ∃ n, zs.length = n := ⟨_, rfl⟩
    by_cases h0 : zs.length = 0
    · rw [sstri_zero hvt h0, h0]
      rw [Nat.min_zero]
      rfl
    · rw [sstri_yes hvt h0]
      unfold allc
      rw [hn] at h7 h0 ⊢
      obtain ⟨c, hc⟩ : ∃ c, min k.toNat n = c := ⟨_, rfl⟩
      rw [hc]
      have hc1 : 1 ≤ c := by omega
      have hcn : c ≤ n := by omega
      have hc4 : c ≤ 4 := by omega
      have hL := choice_some_all ⟨n, by omega⟩ ⟨c, by omega⟩ hcn
      have hCS := choice_set_all ⟨n, by omega⟩ ⟨c, by omega⟩
      have hSC : ∀ s', s' < 128 → s' < 2 ^ n → (bitsOf s').length = c → lof s' ∈ chd n c n := fun s' h1 h2 h3 => by
        have h := set_choice_all ⟨n, by omega⟩ ⟨s', h1⟩ h2 (by show (bitsOf s').length ≤ 4; omega)
        simp only at h
        rw [h3] at h
        exact h
      simp only at hL hCS
      have hEach := chd_each c n n
      generalize chd n c n = L at hL hCS hEach hSC
      -- a choice's sum is its set's
      have hsum : ∀ i, i < L.length → ∃ s, s < 2 ^ n ∧ (bitsOf s).length = c ∧ tsum zs s n n = chf zs L c i := fun i hi => by
        have hm : L[i] ∈ L := List.getElem_mem hi
        obtain ⟨h1, h2⟩ := hCS _ hm
        have h3 : (bitsOf ((L[i]).map (fun a => 2 ^ a.toNat)).sum).length = c := by
          have h := hEach _ hm
          have h' := congrArg List.length h2
          unfold lof at h'
          simpa [h] using h'
        refine ⟨_, h1, h3, ?_⟩
        rw [tsum_same hv hn h7 h1 h3 hc1 n (Nat.le_refl _), h2]
        unfold chf
        rw [hn]
        simp [List.getD, List.getElem?_eq_getElem hi]
      have hf : ∀ i, i < L.length → 0 ≤ chf zs L c i := fun i hi => by
        obtain ⟨s, _, _, h⟩ := hsum i hi
        rw [← h]; exact (tsum_bd zs s n n).1
      obtain ⟨R, hR⟩ : ∃ R, L.length = R + 1 := ⟨L.length - 1, by omega⟩
      obtain ⟨b1, i, hi, b2⟩ := bst_min hf R (by omega)
      rw [hR]
      obtain ⟨s, hs1, hs2, hs3⟩ := hsum i (by omega)
      have ht1 := tmin_le (zs := zs) (n := n) hs1 hs2
      have ht2 := tsum_350 hv hn hs1 hs2 hc1 n (Nat.le_refl _)
      have ht3 := (tsum_bd zs s n n).1
      have hge : bst zs L c (R + 1) ≤ tmin zs n c (2 ^ n) := by
        rcases tmin_mem zs n c (2 ^ n) with h | ⟨s', h1, h2, h3⟩
        · rw [h] at ht1; omega
        · have hlt : s' < 128 := Nat.lt_of_lt_of_le h1 (Nat.pow_le_pow_right (n := 2) (by omega) (show n ≤ 7 by omega))
          obtain ⟨j, hj, hje⟩ := List.getElem_of_mem (hSC s' hlt h1 h2)
          have h4 := b1 j (by omega)
          have h5 : chf zs L c j = tsum zs s' n n := by
            rw [tsum_same hv hn h7 h1 h2 hc1 n (Nat.le_refl _)]
            unfold chf
            rw [hn]
            simp [List.getD, List.getElem?_eq_getElem hj, hje]
          rw [h3, ← h5]
          exact h4
      omega
end Go.Proofs.Ytoohfipicmdohab
