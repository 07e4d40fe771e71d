/-
  Sets of nodes as numbers: covers and their least number, against nodes that are apart.
  Conditions: at most seven nodes.
-/
import Derived.Test.YtiblcmeoneolcaaT8
namespace Go.Proofs.Ytiblcmeoneolcaa
open Go.ChangeShapes Go.WideShapes Go.ChangeAt Go.RowKit
set_option linter.unusedVariables false

/-- A list of nodes as a set. -/
def stO : List Nat → Nat
  | [] => 0
  | i :: J => stO J ||| 2 ^ i
theorem stO_lt {n : Nat} : ∀ {J : List Nat}, (∀ i ∈ J, i < n) → stO J < 2 ^ n
  | [], _ => Nat.two_pow_pos n
  | i :: J, h => Nat.or_lt_two_pow (stO_lt fun j hj => h j (by simp [hj])) (Nat.pow_lt_pow_right (by omega) (h i (by simp)))
theorem stO_iff {J : List Nat} {i : Nat} : (stO J).testBit i = true ↔ i ∈ J := by
  induction J with
  | nil => simp [stO]
  | cons j J ih =>
    simp only [stO, Nat.testBit_or, Bool.or_eq_true, ih, List.mem_cons, Nat.testBit_two_pow, decide_eq_true_eq]
    constructor
    · rintro (h | h)
      · exact .inr h
      · exact .inl h.symm
    · rintro (h | h)
      · exact .inr h.symm
      · exact .inl h
theorem stO_nodup {n : Nat} (h7 : n ≤ 7) : ∀ {J : List Nat}, (∀ i ∈ J, i < n) → J.Nodup → bc 7 (stO J) = J.length
  | [], _, _ => by decide
  | i :: J, h, hd => by
    have h1 : ∀ j ∈ J, j < n := fun j hj => h j (by simp [hj])
    have hd' := List.nodup_cons.1 hd
    have ih := stO_nodup h7 h1 hd'.2
    have hb : (stO J).testBit i = false := by
      cases e : (stO J).testBit i with
      | false => rfl
      | true => exact absurd (stO_iff.1 e) hd'.1
    have := or_all ⟨stO J, pow_128 h7 (stO_lt h1)⟩ ⟨i, by have := h i (by simp); omega⟩ hb
    simp only at this
    simp only [stO, List.length_cons]
    omega
/-- A set as a list of its nodes below m. -/
def memL (s m : Nat) : List Nat := (List.range m).filter fun i => s.testBit i
theorem memL_iff {s m i : Nat} : i ∈ memL s m ↔ i < m ∧ s.testBit i = true := by simp [memL]
theorem memL_nodup (s m : Nat) : (memL s m).Nodup := List.Pairwise.filter _ List.nodup_range
theorem bit_ltn {s n i : Nat} (hs : s < 2 ^ n) (h : s.testBit i = true) : i < n := by
  rcases Nat.lt_or_ge i n with h1 | h1
  · exact h1
  · have := Nat.ge_two_pow_of_testBit h
    have := Nat.pow_le_pow_right (show 2 > 0 by omega) h1
    omega
theorem memL_set {s n : Nat} (hs : s < 2 ^ n) : stO (memL s n) = s := by
  apply Nat.eq_of_testBit_eq
  intro i
  rw [Bool.eq_iff_iff, stO_iff, memL_iff]
  exact ⟨fun h => h.2, fun h => ⟨bit_ltn hs h, h⟩⟩
theorem memL_len {s n : Nat} (h7 : n ≤ 7) (hs : s < 2 ^ n) : (memL s n).length = bc 7 s := by
  rw [← stO_nodup h7 (fun i hi => (memL_iff.1 hi).1) (memL_nodup s n), memL_set hs]

/-- Nodes are near if there is a way that is at most far. -/
def Nr (d : Nat → Nat → Int) (far : Int) (v i : Nat) : Prop := 0 ≤ d v i ∧ d v i ≤ far
/-- Whether one of the set below m is near v. -/
def nbB (d : Nat → Nat → Int) (far : Int) (s v : Nat) : Nat → Bool
  | 0 => false
  | m + 1 => nbB d far s v m || (s.testBit m && (decide (0 ≤ d v m) && decide (d v m ≤ far)))
theorem nbB_iff {d : Nat → Nat → Int} {far : Int} {s v : Nat} : ∀ m, nbB d far s v m = true ↔ ∃ i, i < m ∧ s.testBit i = true ∧ Nr d far v i
  | 0 => by simp [nbB]
  | m + 1 => by
    simp only [nbB, Bool.or_eq_true, Bool.and_eq_true, decide_eq_true_eq, nbB_iff m]
    constructor
    · rintro (⟨i, h1, h2⟩ | ⟨h1, h2, h3⟩)
      · exact ⟨i, by omega, h2⟩
      · exact ⟨m, by omega, h1, h2, h3⟩
    · rintro ⟨i, h1, h2, h3, h4⟩
      by_cases e : i = m
      · subst e; exact .inr ⟨h2, h3, h4⟩
      · exact .inl ⟨i, by omega, h2, h3, h4⟩
/-- Whether each node below v has one of the set near. -/
def cvF (d : Nat → Nat → Int) (far : Int) (s n : Nat) : Nat → Bool
  | 0 => true
  | v + 1 => cvF d far s n v && nbB d far s v n
theorem cvF_iff {d : Nat → Nat → Int} {far : Int} {s n : Nat} : ∀ m, cvF d far s n m = true ↔ ∀ v, v < m → ∃ i, i < n ∧ s.testBit i = true ∧ Nr d far v i
  | 0 => by simp [cvF]
  | m + 1 => by
    simp only [cvF, Bool.and_eq_true, cvF_iff m, nbB_iff]
    constructor
    · rintro ⟨h1, h2⟩ v hv
      by_cases e : v = m
      · subst e; exact h2
      · exact h1 v (by omega)
    · intro h
      exact ⟨fun v hv => h v (by omega), h m (by omega)⟩
theorem cvF_false {d : Nat → Nat → Int} {far : Int} {s n v : Nat} (h : cvF d far s n v = false) : ∀ m, v ≤ m → cvF d far s n m = false := by
  intro m hm
  induction m with
  | zero => have : v = 0 := by omega
            subst this; exact h
  | succ m ih =>
    by_cases e : v = m + 1
    · subst e; exact h
    · simp only [cvF, ih (by omega)]; rfl
/-- The fewest nodes of a cover among the sets below S. -/
def cvN (d : Nat → Nat → Int) (far : Int) (n : Nat) : Nat → Nat
  | 0 => n
  | S + 1 => if cvF d far S n n = true then min (cvN d far n S) (bc 7 S) else cvN d far n S
theorem cvN_bd (d : Nat → Nat → Int) (far : Int) (n : Nat) : ∀ S, cvN d far n S ≤ n
  | 0 => Nat.le_refl _
  | S + 1 => by have := cvN_bd d far n S; simp only [cvN]; split <;> omega
theorem cvN_le {d : Nat → Nat → Int} {far : Int} {n : Nat} : ∀ {S s : Nat}, s < S → cvF d far s n n = true → cvN d far n S ≤ bc 7 s
  | 0, s, h, _ => by omega
  | S + 1, s, h, hf => by
    simp only [cvN]
    by_cases e : s = S
    · subst e; rw [if_pos hf]; omega
    · have := cvN_le (d := d) (far := far) (n := n) (show s < S by omega) hf
      split <;> omega
theorem le_cvN {d : Nat → Nat → Int} {far : Int} {n c : Nat} (hc : c ≤ n) : ∀ S, (∀ s, s < S → cvF d far s n n = true → c ≤ bc 7 s) → c ≤ cvN d far n S
  | 0, _ => hc
  | S + 1, h => by
    have ih := le_cvN (d := d) (far := far) (n := n) hc S fun s hs => h s (by omega)
    simp only [cvN]
    split
    · rename_i hf
      have := h S (by omega) hf
      omega
    · exact ih
theorem cvN_at {d : Nat → Nat → Int} {far : Int} {n : Nat} : ∀ S, cvN d far n S = n ∨ ∃ s, s < S ∧ cvF d far s n n = true ∧ bc 7 s = cvN d far n S
  | 0 => .inl rfl
  | S + 1 => by
    have ih := cvN_at (d := d) (far := far) (n := n) S
    simp only [cvN]
    split
    · rename_i hf
      by_cases hl : bc 7 S ≤ cvN d far n S
      · right; exact ⟨S, by omega, hf, by omega⟩
      · rcases ih with h | ⟨s, h1, h2, h3⟩
        · left; omega
        · right; exact ⟨s, by omega, h2, by omega⟩
    · rcases ih with h | ⟨s, h1, h2, h3⟩
      · exact .inl h
      · right; exact ⟨s, by omega, h2, h3⟩
/-- A cover as a list of nodes. -/
def Cov (d : Nat → Nat → Int) (far : Int) (n : Nat) (P : List Nat) : Prop := (∀ i ∈ P, i < n) ∧ ∀ v, v < n → ∃ i ∈ P, Nr d far v i
/-- Nodes of which no two are near one node. -/
def Apt (d : Nat → Nat → Int) (far : Int) (n : Nat) (J : List Nat) : Prop := (∀ i ∈ J, i < n) ∧ J.Nodup ∧ ∀ i ∈ J, ∀ k ∈ J, i ≠ k → ∀ v, v < n → ¬ (Nr d far v i ∧ Nr d far v k)
theorem cov_set {d : Nat → Nat → Int} {far : Int} {n : Nat} {P : List Nat} (h : Cov d far n P) : stO P < 2 ^ n ∧ cvF d far (stO P) n n = true := by
  refine ⟨stO_lt h.1, (cvF_iff n).2 fun v hv => ?_⟩
  obtain ⟨i, hi, hn⟩ := h.2 v hv
  exact ⟨i, h.1 i hi, stO_iff.2 hi, hn⟩
theorem cov_memL {d : Nat → Nat → Int} {far : Int} {s n : Nat} (h : cvF d far s n n = true) : Cov d far n (memL s n) :=
  ⟨fun i hi => (memL_iff.1 hi).1, fun v hv => by
    obtain ⟨i, hi, hb, hn⟩ := (cvF_iff n).1 h v hv
    exact ⟨i, memL_iff.2 ⟨hi, hb⟩, hn⟩⟩
theorem eraseDups_sub {P : List Nat} {i : Nat} : i ∈ P.eraseDups ↔ i ∈ P := List.mem_eraseDups
/-- A cover's set has no more nodes than the list. -/
theorem bc_le_len {n : Nat} (h7 : n ≤ 7) {P : List Nat} (h : ∀ i ∈ P, i < n) : bc 7 (stO P) ≤ P.length := by
  induction P with
  | nil => decide
  | cons i P ih =>
    have h1 : ∀ j ∈ P, j < n := fun j hj => h j (by simp [hj])
    have ih := ih h1
    simp only [stO, List.length_cons]
    cases hb : (stO P).testBit i with
    | false =>
      have := or_all ⟨stO P, pow_128 h7 (stO_lt h1)⟩ ⟨i, by have := h i (by simp); omega⟩ hb
      simp only at this
      omega
    | true =>
      have e : stO P ||| 2 ^ i = stO P := by
        apply Nat.eq_of_testBit_eq
        intro j
        rw [Nat.testBit_or, Nat.testBit_two_pow]
        by_cases e : i = j
        · subst e; simp [hb]
        · simp [e]
      rw [e]; omega
theorem cvN_le_cov {d : Nat → Nat → Int} {far : Int} {n : Nat} (h7 : n ≤ 7) {P : List Nat} (h : Cov d far n P) : cvN d far n (2 ^ n) ≤ P.length :=
  Nat.le_trans (cvN_le (cov_set h).1 (cov_set h).2) (bc_le_len h7 h.1)
/-- There is a cover with as many nodes as the fewest. -/
theorem cov_least {d : Nat → Nat → Int} {far : Int} {n : Nat} (h7 : n ≤ 7) (h0 : ∀ a, a < n → d a a = 0) (hf : 0 ≤ far) : ∃ P, Cov d far n P ∧ P.Nodup ∧ P.length = cvN d far n (2 ^ n) := by
  rcases cvN_at (d := d) (far := far) (n := n) (2 ^ n) with h | ⟨s, h1, h2, h3⟩
  · exact ⟨List.range n, ⟨fun i hi => List.mem_range.1 hi, fun v hv => ⟨v, List.mem_range.2 hv, by unfold Nr; rw [h0 v hv]; omega⟩⟩, List.nodup_range, by rw [List.length_range, h]⟩
  · exact ⟨memL s n, cov_memL h2, memL_nodup s n, by rw [memL_len h7 h1, h3]⟩
/-- Those apart as a set. -/
theorem nrB_le_one {d : Nat → Nat → Int} {far : Int} {s v n : Nat} (h : nrB d far s v n ≤ 1) {i k : Nat} (hi : i < n) (hk : k < n) (hbi : s.testBit i = true) (hbk : s.testBit k = true) (hne : i ≠ k) : ¬ (Nr d far v i ∧ Nr d far v k) := by
  rintro ⟨h1, h2⟩
  rcases Nat.lt_or_ge i k with hik | hik
  · have := nrB_two (d := d) (far := far) (s := s) (v := v) ⟨hbi, h1.1, h1.2⟩ ⟨hbk, h2.1, h2.2⟩ hik (m := n) hk
    omega
  · have := nrB_two (d := d) (far := far) (s := s) (v := v) ⟨hbk, h2.1, h2.2⟩ ⟨hbi, h1.1, h1.2⟩ (by omega) (m := n) hi
    omega
theorem apt_set {d : Nat → Nat → Int} {far : Int} {n : Nat} {J : List Nat} (h : Apt d far n J) : stO J < 2 ^ n ∧ fnB d far (stO J) n n = true := by
  refine ⟨stO_lt h.1, (fnB_iff n).2 fun v hv => nrB_one fun i k hik hk h1 h2 => ?_⟩
  exact h.2.2 i (stO_iff.1 h1.1) k (stO_iff.1 h2.1) (by omega) v hv ⟨h1.2, h2.2⟩
theorem apt_memL {d : Nat → Nat → Int} {far : Int} {s n : Nat} (h : fnB d far s n n = true) : Apt d far n (memL s n) :=
  ⟨fun i hi => (memL_iff.1 hi).1, memL_nodup s n, fun i hi k hk hne v hv => nrB_le_one ((fnB_iff n).1 h v hv) (memL_iff.1 hi).1 (memL_iff.1 hk).1 (memL_iff.1 hi).2 (memL_iff.1 hk).2 hne⟩
theorem apt_le_pkB {d : Nat → Nat → Int} {far : Int} {n : Nat} (h7 : n ≤ 7) {J : List Nat} (h : Apt d far n J) : J.length ≤ pkB d far n (2 ^ n) := by
  rw [← stO_nodup h7 h.1 h.2.1]
  exact le_pkB (apt_set h).1 (apt_set h).2
theorem pkB_at {d : Nat → Nat → Int} {far : Int} {n : Nat} : ∀ S, 1 ≤ S → ∃ s, s < S ∧ fnB d far s n n = true ∧ bc 7 s = pkB d far n S
  | 0, h => by omega
  | 1, _ => ⟨0, by omega, (fnB_iff n).2 fun v hv => by rw [nrB_none (fun i hi => by simp)]; omega, by
      have : fnB d far 0 n n = true := (fnB_iff n).2 fun v hv => by rw [nrB_none (fun i hi => by simp)]; omega
      simp only [pkB]; rw [if_pos this]; decide⟩
  | S + 2, _ => by
    obtain ⟨s, h1, h2, h3⟩ := pkB_at (d := d) (far := far) (n := n) (S + 1) (by omega)
    rw [show pkB d far n (S + 2) = if fnB d far (S + 1) n n = true then max (pkB d far n (S + 1)) (bc 7 (S + 1)) else pkB d far n (S + 1) from rfl]
    split
    · rename_i hf
      by_cases hl : pkB d far n (S + 1) ≤ bc 7 (S + 1)
      · exact ⟨S + 1, by omega, hf, by omega⟩
      · exact ⟨s, by omega, h2, by omega⟩
    · exact ⟨s, by omega, h2, h3⟩
theorem apt_most (d : Nat → Nat → Int) (far : Int) {n : Nat} (h7 : n ≤ 7) : ∃ J, Apt d far n J ∧ J.length = pkB d far n (2 ^ n) := by
  obtain ⟨s, h1, h2, h3⟩ := pkB_at (d := d) (far := far) (n := n) (2 ^ n) (Nat.two_pow_pos n)
  exact ⟨memL s n, apt_memL h2, by rw [memL_len h7 h1, h3]⟩

/-- Each of those apart has its own node of a cover. -/
theorem apt_le_cov {d : Nat → Nat → Int} {far : Int} {n : Nat} (hs : ∀ a b, a < n → b < n → d a b = d b a) : ∀ {P J : List Nat}, (∀ i ∈ P, i < n) → Apt d far n J → (∀ i ∈ J, ∃ c ∈ P, Nr d far i c) → J.length ≤ P.length
  | [], [], _, _, _ => Nat.le_refl _
  | [], i :: J, _, _, h => by obtain ⟨c, hc, _⟩ := h i (by simp); cases hc
  | c :: P, J, hP, hJ, h => by
    -- those of J that c is near are at most one
    by_cases he : ∃ i ∈ J, Nr d far i c
    · obtain ⟨i, hi, hn⟩ := he
      have hc : c < n := hP c (by simp)
      have hin : i < n := hJ.1 i hi
      have hJ2 : Apt d far n (J.erase i) := ⟨fun k hk => hJ.1 k (List.mem_of_mem_erase hk), hJ.2.1.erase i, fun a ha b hb hne => hJ.2.2 a (List.mem_of_mem_erase ha) b (List.mem_of_mem_erase hb) hne⟩
      have := apt_le_cov hs (P := P) (fun k hk => hP k (by simp [hk])) hJ2 (fun k hk => by
        obtain ⟨hki, hkJ⟩ := (List.Nodup.mem_erase_iff hJ.2.1).1 hk
        obtain ⟨b, hb, hbn⟩ := h k hkJ
        rcases List.mem_cons.1 hb with e | hb
        · subst e
          have hk2 : k < n := hJ.1 k hkJ
          exact absurd ⟨by unfold Nr at hbn ⊢; rw [hs b k hc hk2]; exact hbn, by unfold Nr at hn ⊢; rw [hs b i hc hin]; exact hn⟩ (hJ.2.2 k hkJ i hi hki b hc)
        · exact ⟨b, hb, hbn⟩)
      rw [List.length_erase_of_mem hi] at this
      rw [List.length_cons]
      omega
    · have := apt_le_cov hs (P := P) (fun k hk => hP k (by simp [hk])) hJ (fun k hk => by
        obtain ⟨b, hb, hbn⟩ := h k hk
        rcases List.mem_cons.1 hb with e | hb
        · subst e; exact absurd ⟨k, hk, hbn⟩ he
        · exact ⟨b, hb, hbn⟩)
      rw [List.length_cons]; omega
/-- Covers are no fewer than those apart. -/
theorem pk_le_cv {d : Nat → Nat → Int} {far : Int} {n : Nat} (h7 : n ≤ 7) (hs : ∀ a b, a < n → b < n → d a b = d b a) (h0 : ∀ a, a < n → d a a = 0) (hf : 0 ≤ far) : pkB d far n (2 ^ n) ≤ cvN d far n (2 ^ n) := by
  obtain ⟨J, hJ, hJl⟩ := apt_most d far h7
  obtain ⟨P, hP, _, hPl⟩ := cov_least (d := d) h7 h0 hf
  rw [← hJl, ← hPl]
  exact apt_le_cov hs hP.1 hJ (fun i hi => hP.2 i (hJ.1 i hi))
theorem cov_mono {d : Nat → Nat → Int} {far far' : Int} {n : Nat} {P : List Nat} (h : Cov d far n P) (hf : far ≤ far') : Cov d far' n P :=
  ⟨h.1, fun v hv => by obtain ⟨i, hi, h1, h2⟩ := h.2 v hv; exact ⟨i, hi, h1, by omega⟩⟩
/-- Farther, no more are needed. -/
theorem cvN_mono {d : Nat → Nat → Int} {far far' : Int} {n : Nat} (h7 : n ≤ 7) (h0 : ∀ a, a < n → d a a = 0) (hf : 0 ≤ far) (hff : far ≤ far') : cvN d far' n (2 ^ n) ≤ cvN d far n (2 ^ n) := by
  obtain ⟨P, hP, _, hPl⟩ := cov_least (d := d) h7 h0 hf
  rw [← hPl]
  exact cvN_le_cov h7 (cov_mono hP hff)
theorem cvN_pos {d : Nat → Nat → Int} {far : Int} {n : Nat} (h7 : n ≤ 7) (h1 : 1 ≤ n) (h0 : ∀ a, a < n → d a a = 0) (hf : 0 ≤ far) : 1 ≤ cvN d far n (2 ^ n) := by
  obtain ⟨P, hP, _, hPl⟩ := cov_least (d := d) h7 h0 hf
  rw [← hPl]
  obtain ⟨i, hi, _⟩ := hP.2 0 h1
  cases P with
  | nil => cases hi
  | cons _ _ => simp
/-- Of no way all nodes are apart. -/
theorem pkB_zero {d : Nat → Nat → Int} {n : Nat} (h7 : n ≤ 7) (hp : ∀ a b, a < n → b < n → a ≠ b → d a b < 0 ∨ 0 < d a b) : n ≤ pkB d 0 n (2 ^ n) := by
  have hA : Apt d 0 n (List.range n) := ⟨fun i hi => List.mem_range.1 hi, List.nodup_range, fun i hi k hk hne v hv ⟨h1, h2⟩ => by
    have hi' := List.mem_range.1 hi
    have hk' := List.mem_range.1 hk
    unfold Nr at h1 h2
    by_cases e : v = i
    · subst e
      have := hp v k hv hk' hne
      omega
    · have := hp v i hv hi' e
      omega⟩
  have := apt_le_pkB h7 hA
  rwa [List.length_range] at this
theorem pkB_pos {d : Nat → Nat → Int} {far : Int} {n : Nat} (h7 : n ≤ 7) (h1 : 1 ≤ n) : 1 ≤ pkB d far n (2 ^ n) :=
  apt_le_pkB h7 (J := [0]) ⟨fun i hi => by simp at hi; omega, by simp, fun i hi k hk hne => by simp at hi hk; omega⟩
theorem pkB_le_n (d : Nat → Nat → Int) (far : Int) {n : Nat} (h7 : n ≤ 7) : pkB d far n (2 ^ n) ≤ n := by
  obtain ⟨J, hJ, hJl⟩ := apt_most d far h7
  rw [← hJl]
  have := List.Nodup.length_le_of_subset hJ.2.1 (l₂ := List.range n) (fun i hi => List.mem_range.2 (hJ.1 i hi))
  rwa [List.length_range] at this
end Go.Proofs.Ytiblcmeoneolcaa
