/-
  The law FnExactValidTree: the program's answer is the model's, and the argument stays.
  Conditions: none.
  Sets of nodes as numbers: covers and their least number, against nodes that are apart.
  Conditions: at most seven nodes.
  The least one of how far the farthest is, over sets of nodes; farthest first is at most twice as far.
  Conditions: at most seven nodes; ways are as a table of shortest ways has them.
  Sets of nodes as numbers, as they are gone through one by one: the nearest of a set, the first of the farthest, the least over all sets of so many nodes.
  Conditions: at most seven nodes; ways are between -1 and 54.
-/
import Derived.Test.YtoohfipicmdohacZ3
import Derived.Test.YtoohfipicmdohacZ0
import Derived.Test.YtoohfipicmdohacZ1
namespace Go.Proofs.Ytoohfipicmdohac
open Go.ChangeShapes Go.WideShapes Go.ChangeAt Go.RowKit
set_option linter.unusedVariables false

theorem eqR_same (A A' : Option Addr) (c c' n n' : Nat) (ts : List (Int × Int)) (w : World) (B B' : Nat) (hr : RdR w B A ts) (hn : ts.length = n) (hr' : RdR w B' A' ts) (hn' : ts.length = n') (hb : n ≤ 1048576) (hB : B ≤ w.heap.size) (hB' : B' ≤ w.heap.size) :
    Calls Try.prog 28 #[.slice A n c, .slice A' n' c'] w fun e w' => e = .returned (.bool true) ∧ Below w.heap.size w w' :=
  (eqR_any A A' c c' n n' ts ts w B B' hr hn hr' hn' hb hB hB').mono fun _ _ ⟨he, hw⟩ => ⟨by rw [he]; simp, hw⟩
theorem szR_big (A : Option Addr) (c n : Nat) (w : World) (hn : n ≤ 9223372036854775807) (h : 1048576 < n) :
    Calls Try.prog 24 #[.slice A n c, .int .i64 1048576] w fun e w' => e = .returned (.int .i64 (-1)) ∧ w = w' :=
  (szR_any A c n 1048576 w hn (by omega)).mono fun _ _ ⟨he, hw⟩ => ⟨by rw [he, if_pos (by omega)], hw⟩
theorem szR_fits (A : Option Addr) (c n : Nat) (w : World) (h : n ≤ 1048576) :
    Calls Try.prog 24 #[.slice A n c, .int .i64 1048576] w fun e w' => ∃ q : Int, 0 ≤ q ∧ e = .returned (.int .i64 q) ∧ w = w' :=
  (szR_any A c n 1048576 w (by omega) (by omega)).mono fun _ _ ⟨he, hw⟩ => ⟨1048576 - n, by omega, by rw [he, if_neg (by omega)], hw⟩

theorem exValidTree_walk (A : Option Addr) (c : Nat) (ts : List (Int × Int)) (w : World) (hr : RdR w w.heap.size A ts) (hm : ts.length ≤ maxLen) :
    Calls Try.prog 7 #[.slice A ts.length c] w fun e w' => e = .returned (.bool true) ∧ Below w.heap.size w w' := by
  by_cases hb : 1048576 < ts.length
  · go_enter Try.func7, Try.ntmps7
    go_wp2_with fail
    refine (szR_big A c _ w (by unfold maxLen at hm; omega) hb).mono ?_
    rintro e w' ⟨rfl, rfl⟩
    go_wp2
    go_ret
    exact ⟨rfl, Below.refl _ _⟩
  · go_enter Try.func7, Try.ntmps7
    go_wp2_with fail
    refine (szR_fits A c _ w (by omega)).mono ?_
    rintro e w' ⟨q, hq, rfl, rfl⟩
    go_wp2_with fail
    refine (toR_any A c _ ts w hr rfl (by omega)).mono ?_
    rintro e w1 ⟨b1, rfl, hb1, hr1, hnx1, -⟩
    go_wp2_with fail
    refine (sValidTree_any _ _ _ ts w1 _ hr1 rfl (by omega)).mono ?_
    rintro e w' ⟨rfl, rfl⟩
    go_wp2_with fail
    have hra := (hr.below hnx1).more hnx1.size
    refine (toR_any A c _ ts w1 hra rfl (by omega)).mono ?_
    rintro e w2 ⟨b2, rfl, hb2, hr2, hnx2, -⟩
    go_wp2_with fail
    refine (iValidTree_any _ _ _ ts w2 _ hr2 rfl (Nat.le_refl _) (by omega) (Nat.le_refl _)).mono ?_
    rintro e w3 ⟨rfl, hnx3⟩
    go_wp2_with fail
    have hrb := ((hra.below hnx2).more hnx2.size |>.below hnx3).more hnx3.size
    refine (toR_any A c _ ts w3 hrb rfl (by omega)).mono ?_
    rintro e w4 ⟨b4, rfl, hb4, hr4, hnx4, -⟩
    go_wp2_with fail
    refine (eqR_same _ _ _ _ _ _ ts w4 _ _ ((hr2.below hnx3).below (hnx4.mono hnx3.size)) rfl hr4 rfl (by omega) (Nat.le_trans hnx3.size hnx4.size) (Nat.le_refl _)).mono ?_
    rintro e w5 ⟨rfl, hnx5⟩
    have h12 := hnx1.trans (hnx2.mono hnx1.size)
    have h13 := h12.trans (hnx3.mono h12.size)
    have h14 := h13.trans (hnx4.mono h13.size)
    have h15 := h14.trans (hnx5.mono h14.size)
    go_wp2
    go_ret
    exact ⟨rfl, h15⟩
end Go.Proofs.Ytoohfipicmdohac
namespace Go.Proofs.Ytoohfipicmdohac
open Go.ChangeShapes Go.WideShapes Go.ChangeAt Go.RowKit
set_option linter.unusedVariables false

/-- A list of nodes as a set. -/
def stO : List Nat → Nat
  | [] => 0
  | i :: J => stO J ||| 2 ^ i
theorem stO_lt {n : Nat} : ∀ {J : List Nat}, (∀ i ∈ J, i < n) → stO J < 2 ^ n
  | [], _ => Nat.two_pow_pos n
  | i :: J, h => Nat.or_lt_two_pow (stO_lt fun j hj => h j (by simp [hj])) (Nat.pow_lt_pow_right (by omega) (h i (by simp)))
theorem stO_iff {J : List Nat} {i : Nat} : (stO J).testBit i = true ↔ i ∈ J := by
  induction J with
  | nil => simp [stO]
  | cons j J ih =>
    simp only [stO, Nat.testBit_or, Bool.or_eq_true, ih, List.mem_cons, Nat.testBit_two_pow, decide_eq_true_eq]
    constructor
    · rintro (h | h)
      · exact .inr h
      · exact .inl h.symm
    · rintro (h | h)
      · exact .inr h.symm
      · exact .inl h
theorem stO_nodup {n : Nat} (h7 : n ≤ 7) : ∀ {J : List Nat}, (∀ i ∈ J, i < n) → J.Nodup → bc 7 (stO J) = J.length
  | [], _, _ => by decide
  | i :: J, h, hd => by
    have h1 : ∀ j ∈ J, j < n := fun j hj => h j (by simp [hj])
    have hd' := List.nodup_cons.1 hd
    have ih := stO_nodup h7 h1 hd'.2
    have hb : (stO J).testBit i = false := by
      cases e : (stO J).testBit i with
      | false => rfl
      | true => exact absurd (stO_iff.1 e) hd'.1
    have := or_all ⟨stO J, pow_128 h7 (stO_lt h1)⟩ ⟨i, by have := h i (by simp); omega⟩ hb
    simp only at this
    simp only [stO, List.length_cons]
    omega
/-- A set as a list of its nodes below m. -/
def memL (s m : Nat) : List Nat := (List.range m).filter fun i => s.testBit i
theorem memL_iff {s m i : Nat} : i ∈ memL s m ↔ i < m ∧ s.testBit i = true := by simp [memL]
theorem memL_nodup (s m : Nat) : (memL s m).Nodup := List.Pairwise.filter _ List.nodup_range
theorem bit_ltn {s n i : Nat} (hs : s < 2 ^ n) (h : s.testBit i = true) : i < n := by
  rcases Nat.lt_or_ge i n with h1 | h1
  · exact h1
  · have := Nat.ge_two_pow_of_testBit h
    have := Nat.pow_le_pow_right (show 2 > 0 by omega) h1
    omega
theorem memL_set {s n : Nat} (hs : s < 2 ^ n) : stO (memL s n) = s := by
  apply Nat.eq_of_testBit_eq
  intro i
  rw [Bool.eq_iff_iff, stO_iff, memL_iff]
  exact ⟨fun h => h.2, fun h => ⟨bit_ltn hs h, h⟩⟩
theorem memL_len {s n : Nat} (h7 : n ≤ 7) (hs : s < 2 ^ n) : (memL s n).length = bc 7 s := by
  rw [← stO_nodup h7 (fun i hi => (memL_iff.1 hi).1) (memL_nodup s n), memL_set hs]

/-- Nodes are near if there is a way that is at most far. -/
def Nr (d : Nat → Nat → Int) (far : Int) (v i : Nat) : Prop := 0 ≤ d v i ∧ d v i ≤ far
/-- Whether one of the set below m is near v. -/
def nbB (d : Nat → Nat → Int) (far : Int) (s v : Nat) : Nat → Bool
  | 0 => false
  | m + 1 => nbB d far s v m || (s.testBit m && (decide (0 ≤ d v m) && decide (d v m ≤ far)))
theorem nbB_iff {d : Nat → Nat → Int} {far : Int} {s v : Nat} : ∀ m, nbB d far s v m = true ↔ ∃ i, i < m ∧ s.testBit i = true ∧ Nr d far v i
  | 0 => by simp [nbB]
  | m + 1 => by
    simp only [nbB, Bool.or_eq_true, Bool.and_eq_true, decide_eq_true_eq, nbB_iff m]
    constructor
    · rintro (⟨i, h1, h2⟩ | ⟨h1, h2, h3⟩)
      · exact ⟨i, by omega, h2⟩
      · exact ⟨m, by omega, h1, h2, h3⟩
    · rintro ⟨i, h1, h2, h3, h4⟩
      by_cases e : i = m
      · subst e; exact .inr ⟨h2, h3, h4⟩
      · exact .inl ⟨i, by omega, h2, h3, h4⟩
/-- Whether each node below v has one of the set near. -/
def cvF (d : Nat → Nat → Int) (far : Int) (s n : Nat) : Nat → Bool
  | 0 => true
  | v + 1 => cvF d far s n v && nbB d far s v n
theorem cvF_iff {d : Nat → Nat → Int} {far : Int} {s n : Nat} : ∀ m, cvF d far s n m = true ↔ ∀ v, v < m → ∃ i, i < n ∧ s.testBit i = true ∧ Nr d far v i
  | 0 => by simp [cvF]
  | m + 1 => by
    simp only [cvF, Bool.and_eq_true, cvF_iff m, nbB_iff]
    constructor
    · rintro ⟨h1, h2⟩ v hv
      by_cases e : v = m
      · subst e; exact h2
      · exact h1 v (by omega)
    · intro h
      exact ⟨fun v hv => h v (by omega), h m (by omega)⟩
theorem cvF_false {d : Nat → Nat → Int} {far : Int} {s n v : Nat} (h : cvF d far s n v = false) : ∀ m, v ≤ m → cvF d far s n m = false := by
  intro m hm
  induction m with
  | zero => have : v = 0 := by omega
            subst this; exact h
  | succ m ih =>
    by_cases e : v = m + 1
    · subst e; exact h
    · simp only [cvF, ih (by omega)]; rfl
/-- The fewest nodes of a cover among the sets below S. -/
def cvN (d : Nat → Nat → Int) (far : Int) (n : Nat) : Nat → Nat
  | 0 => n
  | S + 1 => if cvF d far S n n = true then min (cvN d far n S) (bc 7 S) else cvN d far n S
theorem cvN_bd (d : Nat → Nat → Int) (far : Int) (n : Nat) : ∀ S, cvN d far n S ≤ n
  | 0 => Nat.le_refl _
  | S + 1 => by have := cvN_bd d far n S; simp only [cvN]; split <;> omega
theorem cvN_le {d : Nat → Nat → Int} {far : Int} {n : Nat} : ∀ {S s : Nat}, s < S → cvF d far s n n = true → cvN d far n S ≤ bc 7 s
  | 0, s, h, _ => by omega
  | S + 1, s, h, hf => by
    simp only [cvN]
    by_cases e : s = S
    · subst e; rw [if_pos hf]; omega
    · have := cvN_le (d := d) (far := far) (n := n) (show s < S by omega) hf
      split <;> omega
theorem le_cvN {d : Nat → Nat → Int} {far : Int} {n c : Nat} (hc : c ≤ n) : ∀ S, (∀ s, s < S → cvF d far s n n = true → c ≤ bc 7 s) → c ≤ cvN d far n S
  | 0, _ => hc
  | S + 1, h => by
    have ih := le_cvN (d := d) (far := far) (n := n) hc S fun s hs => h s (by omega)
    simp only [cvN]
    split
    · rename_i hf
      have := h S (by omega) hf
      omega
    · exact ih
theorem cvN_at {d : Nat → Nat → Int} {far : Int} {n : Nat} : ∀ S, cvN d far n S = n ∨ ∃ s, s < S ∧ cvF d far s n n = true ∧ bc 7 s = cvN d far n S
  | 0 => .inl rfl
  | S + 1 => by
    have ih := cvN_at (d := d) (far := far) (n := n) S
    simp only [cvN]
    split
    · rename_i hf
      by_cases hl : bc 7 S ≤ cvN d far n S
      · right; exact ⟨S, by omega, hf, by omega⟩
      · rcases ih with h | ⟨s, h1, h2, h3⟩
        · left; omega
        · right; exact ⟨s, by omega, h2, by omega⟩
    · rcases ih with h | ⟨s, h1, h2, h3⟩
      · exact .inl h
      · right; exact ⟨s, by omega, h2, h3⟩
/-- A cover as a list of nodes. -/
def Cov (d : Nat → Nat → Int) (far : Int) (n : Nat) (P : List Nat) : Prop := (∀ i ∈ P, i < n) ∧ ∀ v, v < n → ∃ i ∈ P, Nr d far v i
/-- Nodes of which no two are near one node. -/
def Apt (d : Nat → Nat → Int) (far : Int) (n : Nat) (J : List Nat) : Prop := (∀ i ∈ J, i < n) ∧ J.Nodup ∧ ∀ i ∈ J, ∀ k ∈ J, i ≠ k → ∀ v, v < n → ¬ (Nr d far v i ∧ Nr d far v k)
theorem cov_set {d : Nat → Nat → Int} {far : Int} {n : Nat} {P : List Nat} (h : Cov d far n P) : stO P < 2 ^ n ∧ cvF d far (stO P) n n = true := by
  refine ⟨stO_lt h.1, (cvF_iff n).2 fun v hv => ?_⟩
  obtain ⟨i, hi, hn⟩ := h.2 v hv
  exact ⟨i, h.1 i hi, stO_iff.2 hi, hn⟩
theorem cov_memL {d : Nat → Nat → Int} {far : Int} {s n : Nat} (h : cvF d far s n n = true) : Cov d far n (memL s n) :=
  ⟨fun i hi => (memL_iff.1 hi).1, fun v hv => by
    obtain ⟨i, hi, hb, hn⟩ := (cvF_iff n).1 h v hv
    exact ⟨i, memL_iff.2 ⟨hi, hb⟩, hn⟩⟩
theorem eraseDups_sub {P : List Nat} {i : Nat} : i ∈ P.eraseDups ↔ i ∈ P := List.mem_eraseDups
/-- A cover's set has no more nodes than the list. -/
theorem bc_le_len {n : Nat} (h7 : n ≤ 7) {P : List Nat} (h : ∀ i ∈ P, i < n) : bc 7 (stO P) ≤ P.length := by
  induction P with
  | nil => decide
  | cons i P ih =>
    have h1 : ∀ j ∈ P, j < n := fun j hj => h j (by simp [hj])
    have ih := ih h1
    simp only [stO, List.length_cons]
    cases hb : (stO P).testBit i with
    | false =>
      have := or_all ⟨stO P, pow_128 h7 (stO_lt h1)⟩ ⟨i, by have := h i (by simp); omega⟩ hb
      simp only at this
      omega
    | true =>
      have e : stO P ||| 2 ^ i = stO P := by
        apply Nat.eq_of_testBit_eq
        intro j
        rw [Nat.testBit_or, Nat.testBit_two_pow]
        by_cases e : i = j
        · subst e; simp [hb]
        · simp [e]
      rw [e]; omega
theorem cvN_le_cov {d : Nat → Nat → Int} {far : Int} {n : Nat} (h7 : n ≤ 7) {P : List Nat} (h : Cov d far n P) : cvN d far n (2 ^ n) ≤ P.length :=
  Nat.le_trans (cvN_le (cov_set h).1 (cov_set h).2) (bc_le_len h7 h.1)
/-- There is a cover with as many nodes as the fewest. -/
theorem cov_least {d : Nat → Nat → Int} {far : Int} {n : Nat} (h7 : n ≤ 7) (h0 : ∀ a, a < n → d a a = 0) (hf : 0 ≤ far) : ∃ P, Cov d far n P ∧ P.Nodup ∧ P.length = cvN d far n (2 ^ n) := by
  rcases cvN_at (d := d) (far := far) (n := n) (2 ^ n) with h | ⟨s, h1, h2, h3⟩
  · exact ⟨List.range n, ⟨fun i hi => List.mem_range.1 hi, fun v hv => ⟨v, List.mem_range.2 hv, by unfold Nr; rw [h0 v hv]; omega⟩⟩, List.nodup_range, by rw [List.length_range, h]⟩
  · exact ⟨memL s n, cov_memL h2, memL_nodup s n, by rw [memL_len h7 h1, h3]⟩
/-- Those apart as a set. -/
theorem nrB_le_one {d : Nat → Nat → Int} {far : Int} {s v n : Nat} (h : nrB d far s v n ≤ 1) {i k : Nat} (hi : i < n) (hk : k < n) (hbi : s.testBit i = true) (hbk : s.testBit k = true) (hne : i ≠ k) : ¬ (Nr d far v i ∧ Nr d far v k) := by
  rintro ⟨h1, h2⟩
  rcases Nat.lt_or_ge i k with hik | hik
  · have := nrB_two (d := d) (far := far) (s := s) (v := v) ⟨hbi, h1.1, h1.2⟩ ⟨hbk, h2.1, h2.2⟩ hik (m := n) hk
    omega
  · have := nrB_two (d := d) (far := far) (s := s) (v := v) ⟨hbk, h2.1, h2.2⟩ ⟨hbi, h1.1, h1.2⟩ (by omega) (m := n) hi
    omega
theorem apt_set {d : Nat → Nat → Int} {far : Int} {n : Nat} {J : List Nat} (h : Apt d far n J) : stO J < 2 ^ n ∧ fnB d far (stO J) n n = true := by
  refine ⟨stO_lt h.1, (fnB_iff n).2 fun v hv => nrB_one fun i k hik hk h1 h2 => ?_⟩
  exact h.2.2 i (stO_iff.1 h1.1) k (stO_iff.1 h2.1) (by omega) v hv ⟨h1.2, h2.2⟩
theorem apt_memL {d : Nat → Nat → Int} {far : Int} {s n : Nat} (h : fnB d far s n n = true) : Apt d far n (memL s n) :=
  ⟨fun i hi => (memL_iff.1 hi).1, memL_nodup s n, fun i hi k hk hne v hv => nrB_le_one ((fnB_iff n).1 h v hv) (memL_iff.1 hi).1 (memL_iff.1 hk).1 (memL_iff.1 hi).2 (memL_iff.1 hk).2 hne⟩
theorem apt_le_pkB {d : Nat → Nat → Int} {far : Int} {n : Nat} (h7 : n ≤ 7) {J : List Nat} (h : Apt d far n J) : J.length ≤ pkB d far n (2 ^ n) := by
  rw [← stO_nodup h7 h.1 h.2.1]
  exact le_pkB (apt_set h).1 (apt_set h).2
theorem pkB_at {d : Nat → Nat → Int} {far : Int} {n : Nat} : ∀ S, 1 ≤ S → ∃ s, s < S ∧ fnB d far s n n = true ∧ bc 7 s = pkB d far n S
  | 0, h => by omega
  | 1, _ => ⟨0, by omega, (fnB_iff n).2 fun v hv => by rw [nrB_none (fun i hi => by simp)]; omega, by
      have : fnB d far 0 n n = true := (fnB_iff n).2 fun v hv => by rw [nrB_none (fun i hi => by simp)]; omega
      simp only [pkB]; rw [if_pos this]; decide⟩
  | S + 2, _ => by
    obtain ⟨s, h1, h2, h3⟩ := pkB_at (d := d) (far := far) (n := n) (S + 1) (by omega)
    rw [show pkB d far n (S + 2) = if fnB d far (S + 1) n n = true then max (pkB d far n (S + 1)) (bc 7 (S + 1)) else pkB d far n (S + 1) from rfl]
    split
    · rename_i hf
      by_cases hl : pkB d far n (S + 1) ≤ bc 7 (S + 1)
      · exact ⟨S + 1, by omega, hf, by omega⟩
      · exact ⟨s, by omega, h2, by omega⟩
    · exact ⟨s, by omega, h2, h3⟩
theorem apt_most (d : Nat → Nat → Int) (far : Int) {n : Nat} (h7 : n ≤ 7) : ∃ J, Apt d far n J ∧ J.length = pkB d far n (2 ^ n) := by
  obtain ⟨s, h1, h2, h3⟩ := pkB_at (d := d) (far := far) (n := n) (2 ^ n) (Nat.two_pow_pos n)
  exact ⟨memL s n, apt_memL h2, by rw [memL_len h7 h1, h3]⟩

/-- Each of those apart has its own node of a cover. -/
theorem apt_le_cov {d : Nat → Nat → Int} {far : Int} {n : Nat} (hs : ∀ a b, a < n → b < n → d a b = d b a) : ∀ {P J : List Nat}, (∀ i ∈ P, i < n) → Apt d far n J → (∀ i ∈ J, ∃ c ∈ P, Nr d far i c) → J.length ≤ P.length
  | [], [], _, _, _ => Nat.le_refl _
  | [], i :: J, _, _, h => by obtain ⟨c, hc, _⟩ := h i (by simp); cases hc
  | c :: P, J, hP, hJ, h => by
    -- those of J that c is near are at most one
    by_cases he : ∃ i ∈ J, Nr d far i c
    · obtain ⟨i, hi, hn⟩ := he
      have hc : c < n := hP c (by simp)
      have hin : i < n := hJ.1 i hi
      have hJ2 : Apt d far n (J.erase i) := ⟨fun k hk => hJ.1 k (List.mem_of_mem_erase hk), hJ.2.1.erase i, fun a ha b hb hne => hJ.2.2 a (List.mem_of_mem_erase ha) b (List.mem_of_mem_erase hb) hne⟩
      have := apt_le_cov hs (P := P) (fun k hk => hP k (by simp [hk])) hJ2 (fun k hk => by
        obtain ⟨hki, hkJ⟩ := (List.Nodup.mem_erase_iff hJ.2.1).1 hk
        obtain ⟨b, hb, hbn⟩ := h k hkJ
        rcases List.mem_cons.1 hb with e | hb
        · subst e
          have hk2 : k < n := hJ.1 k hkJ
          exact absurd ⟨by unfold Nr at hbn ⊢; rw [hs b k hc hk2]; exact hbn, by unfold Nr at hn ⊢; rw [hs b i hc hin]; exact hn⟩ (hJ.2.2 k hkJ i hi hki b hc)
        · exact ⟨b, hb, hbn⟩)
      rw [List.length_erase_of_mem hi] at this
      rw [List.length_cons]
      omega
    · have := apt_le_cov hs (P := P) (fun k hk => hP k (by simp [hk])) hJ (fun k hk => by
        obtain ⟨b, hb, hbn⟩ := h k hk
        rcases List.mem_cons.1 hb with e | hb
        · subst e; exact absurd ⟨k, hk, hbn⟩ he
        · exact ⟨b, hb, hbn⟩)
      rw [List.length_cons]; omega
/-- Covers are no fewer than those apart. -/
theorem pk_le_cv {d : Nat → Nat → Int} {far : Int} {n : Nat} (h7 : n ≤ 7) (hs : ∀ a b, a < n → b < n → d a b = d b a) (h0 : ∀ a, a < n → d a a = 0) (hf : 0 ≤ far) : pkB d far n (2 ^ n) ≤ cvN d far n (2 ^ n) := by
  obtain ⟨J, hJ, hJl⟩ := apt_most d far h7
  obtain ⟨P, hP, _, hPl⟩ := cov_least (d := d) h7 h0 hf
  rw [← hJl, ← hPl]
  exact apt_le_cov hs hP.1 hJ (fun i hi => hP.2 i (hJ.1 i hi))
theorem cov_mono {d : Nat → Nat → Int} {far far' : Int} {n : Nat} {P : List Nat} (h : Cov d far n P) (hf : far ≤ far') : Cov d far' n P :=
  ⟨h.1, fun v hv => by obtain ⟨i, hi, h1, h2⟩ := h.2 v hv; exact ⟨i, hi, h1, by omega⟩⟩
/-- Farther, no more are needed. -/
theorem cvN_mono {d : Nat → Nat → Int} {far far' : Int} {n : Nat} (h7 : n ≤ 7) (h0 : ∀ a, a < n → d a a = 0) (hf : 0 ≤ far) (hff : far ≤ far') : cvN d far' n (2 ^ n) ≤ cvN d far n (2 ^ n) := by
  obtain ⟨P, hP, _, hPl⟩ := cov_least (d := d) h7 h0 hf
  rw [← hPl]
  exact cvN_le_cov h7 (cov_mono hP hff)
theorem cvN_pos {d : Nat → Nat → Int} {far : Int} {n : Nat} (h7 : n ≤ 7) (h1 : 1 ≤ n) (h0 : ∀ a, a < n → d a a = 0) (hf : 0 ≤ far) : 1 ≤ cvN d far n (2 ^ n) := by
  obtain ⟨P, hP, _, hPl⟩ := cov_least (d := d) h7 h0 hf
  rw [← hPl]
  obtain ⟨i, hi, _⟩ := hP.2 0 h1
  cases P with
  | nil => cases hi
  | cons _ _ => simp
/-- Of no way all nodes are apart. -/
theorem pkB_zero {d : Nat → Nat → Int} {n : Nat} (h7 : n ≤ 7) (hp : ∀ a b, a < n → b < n → a ≠ b → d a b < 0 ∨ 0 < d a b) : n ≤ pkB d 0 n (2 ^ n) := by
  have hA : Apt d 0 n (List.range n) := ⟨fun i hi => List.mem_range.1 hi, List.nodup_range, fun i hi k hk hne v hv ⟨h1, h2⟩ => by
    have hi' := List.mem_range.1 hi
    have hk' := List.mem_range.1 hk
    unfold Nr at h1 h2
    by_cases e : v = i
    · subst e
      have := hp v k hv hk' hne
      omega
    · have := hp v i hv hi' e
      omega⟩
  have := apt_le_pkB h7 hA
  rwa [List.length_range] at this
theorem pkB_pos {d : Nat → Nat → Int} {far : Int} {n : Nat} (h7 : n ≤ 7) (h1 : 1 ≤ n) : 1 ≤ pkB d far n (2 ^ n) :=
  apt_le_pkB h7 (J := [0]) ⟨fun i hi => by simp at hi; omega, by simp, fun i hi k hk hne => by simp at hi hk; omega⟩
theorem pkB_le_n (d : Nat → Nat → Int) (far : Int) {n : Nat} (h7 : n ≤ 7) : pkB d far n (2 ^ n) ≤ n := by
  obtain ⟨J, hJ, hJl⟩ := apt_most d far h7
  rw [← hJl]
  have := List.Nodup.length_le_of_subset hJ.2.1 (l₂ := List.range n) (fun i hi => List.mem_range.2 (hJ.1 i hi))
  rwa [List.length_range] at this
end Go.Proofs.Ytoohfipicmdohac
namespace Go.Proofs.Ytoohfipicmdohac
open Go.ChangeShapes Go.WideShapes Go.ChangeAt Go.RowKit
set_option linter.unusedVariables false

/-- The least one that is not negative; -1 for none. -/
def pkL {α : Type} (f : α → Int) : List α → Int → Int
  | [], acc => acc
  | x :: r, acc => pkL f r (if 0 ≤ f x ∧ (acc < 0 ∨ f x < acc) then f x else acc)
theorem pkL_from {α : Type} (f : α → Int) : ∀ (L : List α) (acc : Int), 0 ≤ acc → 0 ≤ pkL f L acc ∧ (pkL f L acc = acc ∨ ∃ x ∈ L, f x = pkL f L acc) ∧ pkL f L acc ≤ acc ∧ ∀ x ∈ L, 0 ≤ f x → pkL f L acc ≤ f x
  | [], acc, h => ⟨h, .inl rfl, Int.le_refl _, fun x hx => by cases hx⟩
  | y :: L, acc, h => by
    simp only [pkL]
    by_cases hc : 0 ≤ f y ∧ (acc < 0 ∨ f y < acc)
    · rw [if_pos hc]
      obtain ⟨h1, h2, h3, h4⟩ := pkL_from f L (f y) hc.1
      refine ⟨h1, .inr ?_, by omega, fun x hx h0 => ?_⟩
      · rcases h2 with h2 | ⟨x, hx, h2⟩
        · exact ⟨y, by simp, h2.symm⟩
        · exact ⟨x, by simp [hx], h2⟩
      · rcases List.mem_cons.1 hx with rfl | hx
        · exact h3
        · exact h4 x hx h0
    · rw [if_neg hc]
      obtain ⟨h1, h2, h3, h4⟩ := pkL_from f L acc h
      refine ⟨h1, ?_, h3, fun x hx h0 => ?_⟩
      · rcases h2 with h2 | ⟨x, hx, h2⟩
        · exact .inl h2
        · exact .inr ⟨x, by simp [hx], h2⟩
      · rcases List.mem_cons.1 hx with rfl | hx
        · omega
        · exact h4 x hx h0
theorem pkL_cases {α : Type} (f : α → Int) : ∀ (L : List α), (pkL f L (-1) = -1 ∧ ∀ x ∈ L, f x < 0) ∨ (0 ≤ pkL f L (-1) ∧ (∃ x ∈ L, f x = pkL f L (-1)) ∧ ∀ x ∈ L, 0 ≤ f x → pkL f L (-1) ≤ f x)
  | [] => .inl ⟨rfl, fun x hx => by cases hx⟩
  | y :: L => by
    simp only [pkL]
    by_cases h0 : 0 ≤ f y
    · rw [if_pos ⟨h0, .inl (by omega)⟩]
      obtain ⟨h1, h2, h3, h4⟩ := pkL_from f L (f y) h0
      refine .inr ⟨h1, ?_, fun x hx h0 => ?_⟩
      · rcases h2 with h2 | ⟨x, hx, h2⟩
        · exact ⟨y, by simp, h2.symm⟩
        · exact ⟨x, by simp [hx], h2⟩
      · rcases List.mem_cons.1 hx with rfl | hx
        · exact h3
        · exact h4 x hx h0
    · rw [if_neg (by omega)]
      rcases pkL_cases f L with ⟨h1, h2⟩ | ⟨h1, ⟨x, hx, h2⟩, h3⟩
      · refine .inl ⟨h1, fun x hx => ?_⟩
        rcases List.mem_cons.1 hx with rfl | hx
        · omega
        · exact h2 x hx
      · refine .inr ⟨h1, ⟨x, by simp [hx], h2⟩, fun z hz hz0 => ?_⟩
        rcases List.mem_cons.1 hz with rfl | hz
        · omega
        · exact h3 z hz hz0
theorem pkL_append {α : Type} (f : α → Int) : ∀ (A B : List α) (acc : Int), pkL f (A ++ B) acc = pkL f B (pkL f A acc)
  | [], B, acc => rfl
  | x :: A, B, acc => by simp only [List.cons_append, pkL]; rw [pkL_append f A B]

/-- How far the nearest of a list is. -/
def wy (d : Nat → Nat → Int) (v : Nat) (L : List Nat) : Int := pkL (d v) L (-1)
/-- How far the farthest of the nodes below m is from the nearest of a list; -1 if one has no way. -/
def radL (d : Nat → Nat → Int) (L : List Nat) : Nat → Int
  | 0 => 0
  | v + 1 => if radL d L v < 0 then radL d L v else if wy d v L < 0 then -1 else max (radL d L v) (wy d v L)
theorem rad_cases (d : Nat → Nat → Int) (L : List Nat) : ∀ m, (radL d L m = -1 ∧ ∃ v, v < m ∧ ∀ j ∈ L, d v j < 0) ∨ (0 ≤ radL d L m ∧ (∀ v, v < m → 0 ≤ wy d v L ∧ wy d v L ≤ radL d L m) ∧ (radL d L m = 0 ∨ ∃ v, v < m ∧ wy d v L = radL d L m))
  | 0 => .inr ⟨Int.le_refl _, fun v hv => by omega, .inl rfl⟩
  | m + 1 => by
    simp only [radL]
    rcases rad_cases d L m with ⟨h1, v, hv, h2⟩ | ⟨h1, h2, h3⟩
    · rw [if_pos (by omega)]
      exact .inl ⟨h1, v, by omega, h2⟩
    · rw [if_neg (by omega)]
      rcases pkL_cases (d m) L with ⟨e1, e2⟩ | ⟨e1, e2, e3⟩
      · have : wy d m L < 0 := by unfold wy; omega
        rw [if_pos this]
        exact .inl ⟨rfl, m, by omega, e2⟩
      · have e1' : 0 ≤ wy d m L := e1
        rw [if_neg (by omega)]
        refine .inr ⟨by omega, fun v hv => ?_, ?_⟩
        · by_cases e : v = m
          · subst e; omega
          · have := h2 v (by omega); omega
        · by_cases hm : wy d m L ≤ radL d L m
          · rw [Int.max_eq_left hm]
            rcases h3 with h3 | ⟨v, hv, h3⟩
            · exact .inl h3
            · exact .inr ⟨v, by omega, h3⟩
          · rw [Int.max_eq_right (by omega)]
            exact .inr ⟨m, by omega, rfl⟩
theorem wy_cov {d : Nat → Nat → Int} {v : Nat} {L : List Nat} (h : 0 ≤ wy d v L) : ∃ j ∈ L, d v j = wy d v L := by
  rcases pkL_cases (d v) L with ⟨e1, _⟩ | ⟨_, e2, _⟩
  · unfold wy at h; omega
  · exact e2
/-- A list is near enough just if it covers. -/
theorem rad_cov {d : Nat → Nat → Int} {n : Nat} {L : List Nat} {r : Int} (hr : 0 ≤ r) (hL : ∀ i ∈ L, i < n) : (0 ≤ radL d L n ∧ radL d L n ≤ r) ↔ Cov d r n L := by
  constructor
  · rintro ⟨h1, h2⟩
    refine ⟨hL, fun v hv => ?_⟩
    rcases rad_cases d L n with ⟨h3, _⟩ | ⟨_, h3, _⟩
    · omega
    · obtain ⟨h4, h5⟩ := h3 v hv
      obtain ⟨j, hj, e⟩ := wy_cov h4
      exact ⟨j, hj, by omega, by omega⟩
  · rintro ⟨_, h⟩
    rcases rad_cases d L n with ⟨h3, v, hv, h4⟩ | ⟨h3, h4, h5⟩
    · obtain ⟨j, hj, hn⟩ := h v hv
      have := h4 j hj
      unfold Nr at hn; omega
    · refine ⟨h3, ?_⟩
      rcases h5 with h5 | ⟨v, hv, h5⟩
      · omega
      · obtain ⟨j, hj, hn⟩ := h v hv
        rcases pkL_cases (d v) L with ⟨_, e2⟩ | ⟨_, _, e3⟩
        · have := e2 j hj
          unfold Nr at hn; omega
        · have h6 := e3 j hj hn.1
          have h7 : pkL (d v) L (-1) = wy d v L := rfl
          unfold Nr at hn; omega

/-- Lists of k nodes below n, ascending. -/
def Asc (n k : Nat) (J : List Nat) : Prop := J.Pairwise (· < ·) ∧ (∀ i ∈ J, i < n) ∧ J.length = k
theorem memL_asc (s m : Nat) : (memL s m).Pairwise (· < ·) := List.Pairwise.filter _ (List.pairwise_lt_range)
theorem more_node {n : Nat} {P : List Nat} (h : P.length < n) : ∃ x, x < n ∧ x ∉ P := by
  by_cases hc : ∃ x, x < n ∧ x ∉ P
  · exact hc
  · exfalso
    have := List.Nodup.length_le_of_subset (List.nodup_range (n := n)) (l₂ := P) (fun x hx => by
      by_cases hx' : x ∈ P
      · exact hx'
      · exact absurd ⟨x, List.mem_range.1 hx, hx'⟩ hc)
    rw [List.length_range] at this
    omega
theorem more_nodes {n : Nat} : ∀ (t : Nat) {P : List Nat}, (∀ i ∈ P, i < n) → P.Nodup → P.length + t ≤ n → ∃ J : List Nat, (∀ i ∈ P, i ∈ J) ∧ (∀ i ∈ J, i < n) ∧ J.Nodup ∧ J.length = P.length + t
  | 0, P, h1, h2, _ => ⟨P, fun i hi => hi, h1, h2, rfl⟩
  | t + 1, P, h1, h2, h3 => by
    obtain ⟨x, hx, hxP⟩ := more_node (n := n) (P := P) (by omega)
    obtain ⟨J, a1, a2, a3, a4⟩ := more_nodes t (P := x :: P) (fun i hi => by rcases List.mem_cons.1 hi with rfl | hi; exact hx; exact h1 i hi) (List.nodup_cons.2 ⟨hxP, h2⟩) (by rw [List.length_cons]; omega)
    exact ⟨J, fun i hi => a1 i (by simp [hi]), a2, a3, by rw [a4, List.length_cons]; omega⟩
/-- A cover of few nodes is within one of just m nodes, ascending. -/
theorem cov_asc {d : Nat → Nat → Int} {r : Int} {n m : Nat} (h7 : n ≤ 7) {P : List Nat} (h : Cov d r n P) (hd : P.Nodup) (hm : P.length ≤ m) (hmn : m ≤ n) : ∃ J, Asc n m J ∧ Cov d r n J := by
  obtain ⟨J, a1, a2, a3, a4⟩ := more_nodes (m - P.length) h.1 hd (by omega)
  have hlt := stO_lt a2
  refine ⟨memL (stO J) n, ⟨memL_asc _ _, fun i hi => (memL_iff.1 hi).1, by rw [memL_len h7 hlt, stO_nodup h7 a2 a3]; omega⟩, fun i hi => (memL_iff.1 hi).1, fun v hv => ?_⟩
  obtain ⟨i, hi, hn⟩ := h.2 v hv
  exact ⟨i, memL_iff.2 ⟨h.1 i hi, stO_iff.2 (a1 i hi)⟩, hn⟩
/-- x is what NetFar answers, over all lists of m nodes. -/
def NfIs (d : Nat → Nat → Int) (n m : Nat) (x : Int) : Prop := (x = -1 ∧ ∀ J, Asc n m J → radL d J n < 0) ∨ (0 ≤ x ∧ (∃ J, Asc n m J ∧ radL d J n = x) ∧ ∀ J, Asc n m J → 0 ≤ radL d J n → x ≤ radL d J n)
/-- With that far, a cover needs at most so many nodes, and with less it needs more. -/
theorem nf_cv {d : Nat → Nat → Int} {n k : Nat} {x r : Int} (h7 : n ≤ 7) (h0 : ∀ a, a < n → d a a = 0) (hx : NfIs d n (min k n) x) (hr : 0 ≤ r) : cvN d r n (2 ^ n) ≤ k ↔ 0 ≤ x ∧ x ≤ r := by
  constructor
  · intro h
    obtain ⟨P, hP, hPd, hPl⟩ := cov_least (d := d) h7 h0 hr
    have hle : P.length ≤ n := by
      have := List.Nodup.length_le_of_subset hPd (l₂ := List.range n) (fun i hi => List.mem_range.2 (hP.1 i hi))
      rwa [List.length_range] at this
    obtain ⟨J, hJ, hJc⟩ := cov_asc h7 hP hPd (m := min k n) (by omega) (by omega)
    have hrad := (rad_cov hr hJ.2.1).2 hJc
    rcases hx with ⟨_, h2⟩ | ⟨h1, _, h2⟩
    · have := h2 J hJ; omega
    · have := h2 J hJ hrad.1; omega
  · rintro ⟨h1, h2⟩
    rcases hx with ⟨h3, _⟩ | ⟨_, ⟨J, hJ, h3⟩, _⟩
    · omega
    · have hc := (rad_cov (d := d) (n := n) (L := J) (r := r) hr hJ.2.1).1 ⟨by omega, by omega⟩
      have := cvN_le_cov h7 hc
      rw [hJ.2.2] at this
      omega
theorem nf_unique {d : Nat → Nat → Int} {n m : Nat} {x y : Int} (hx : NfIs d n m x) (hy : NfIs d n m y) : x = y := by
  rcases hx with ⟨h1, h2⟩ | ⟨h1, ⟨J, hJ, h2⟩, h3⟩ <;> rcases hy with ⟨h4, h5⟩ | ⟨h4, ⟨K, hK, h5⟩, h6⟩
  · omega
  · have := h2 K hK; omega
  · have := h5 J hJ; omega
  · have := h3 K hK (by omega)
    have := h6 J hJ (by omega)
    omega

/-- What is asked of a table of ways. -/
structure Met (d : Nat → Nat → Int) (n : Nat) : Prop where
  zero : ∀ a, a < n → d a a = 0
  symm : ∀ a b, a < n → b < n → d a b = d b a
  pos : ∀ a b, a < n → b < n → a ≠ b → d a b < 0 ∨ 0 < d a b
  tri : ∀ a b c, a < n → b < n → c < n → 0 ≤ d a c → 0 ≤ d c b → 0 ≤ d a b ∧ d a b ≤ d a c + d c b
  bd : ∀ a b, a < n → b < n → -1 ≤ d a b ∧ d a b ≤ 54

/-- How far, no way as 63. -/
def nrP (d : Nat → Nat → Int) (v : Nat) (out : List Nat) : Int := if wy d v out < 0 then 63 else wy d v out
/-- The first one of the farthest below m, and how far. -/
def ffB (d : Nat → Nat → Int) (out : List Nat) : Nat → Int × Int
  | 0 => (0, -1)
  | v + 1 => if (ffB d out v).1 < nrP d v out then (nrP d v out, (v : Int)) else ffB d out v
theorem ffB_cases (d : Nat → Nat → Int) (out : List Nat) : ∀ m, (ffB d out m = (0, -1) ∧ ∀ v, v < m → nrP d v out ≤ 0) ∨ ∃ b : Nat, b < m ∧ ffB d out m = (nrP d b out, (b : Int)) ∧ 0 < nrP d b out ∧ ∀ v, v < m → nrP d v out ≤ nrP d b out
  | 0 => .inl ⟨rfl, fun v hv => by omega⟩
  | m + 1 => by
    simp only [ffB]
    rcases ffB_cases d out m with ⟨h1, h2⟩ | ⟨b, h1, h2, h3, h4⟩
    · rw [h1]
      by_cases hc : 0 < nrP d m out
      · rw [if_pos hc]
        refine .inr ⟨m, by omega, rfl, hc, fun v hv => ?_⟩
        by_cases e : v = m
        · subst e; exact Int.le_refl _
        · have := h2 v (by omega); omega
      · rw [if_neg hc]
        refine .inl ⟨rfl, fun v hv => ?_⟩
        by_cases e : v = m
        · subst e; omega
        · exact h2 v (by omega)
    · rw [h2]
      by_cases hc : nrP d b out < nrP d m out
      · rw [if_pos hc]
        refine .inr ⟨m, by omega, rfl, by omega, fun v hv => ?_⟩
        by_cases e : v = m
        · subst e; exact Int.le_refl _
        · have := h4 v (by omega); omega
      · rw [if_neg hc]
        refine .inr ⟨b, by omega, rfl, h3, fun v hv => ?_⟩
        by_cases e : v = m
        · subst e; omega
        · exact h4 v (by omega)
/-- The nodes, farthest first, after j more than the node 0. -/
def ffL (d : Nat → Nat → Int) (n : Nat) : Nat → List Nat
  | 0 => [0]
  | j + 1 => ffL d n j ++ [(ffB d (ffL d n j) n).2.toNat]
theorem ffL_len (d : Nat → Nat → Int) (n : Nat) : ∀ j, (ffL d n j).length = j + 1
  | 0 => rfl
  | j + 1 => by simp only [ffL, List.length_append, ffL_len d n j, List.length_singleton]
theorem nrP_zero {d : Nat → Nat → Int} {n v : Nat} {out : List Nat} (hM : Met d n) (hv : v < n) (h : v ∈ out) : nrP d v out ≤ 0 := by
  unfold nrP
  rcases pkL_cases (d v) out with ⟨_, e2⟩ | ⟨e1, _, e3⟩
  · have := e2 v h
    rw [hM.zero v hv] at this; omega
  · have := e3 v h (by rw [hM.zero v hv]; omega)
    rw [hM.zero v hv] at this
    have h7 : pkL (d v) out (-1) = wy d v out := rfl
    rw [if_neg (by omega)]; omega
theorem nrP_pos {d : Nat → Nat → Int} {n v : Nat} {out : List Nat} (hM : Met d n) (ho : ∀ i ∈ out, i < n) (hv : v < n) (h : v ∉ out) : 0 < nrP d v out := by
  unfold nrP
  split
  · omega
  · rename_i hw
    obtain ⟨j, hj, e⟩ := wy_cov (d := d) (v := v) (L := out) (by omega)
    have hne : v ≠ j := fun e' => h (by rw [e']; exact hj)
    have := hM.pos v j hv (ho j hj) hne
    omega
/-- Each one more is a new one. -/
theorem ffL_new {d : Nat → Nat → Int} {n : Nat} (hM : Met d n) (h1 : 1 ≤ n) : ∀ j, j + 1 ≤ n → (∀ i ∈ ffL d n j, i < n) ∧ (ffL d n j).Nodup
  | 0, _ => ⟨fun i hi => by simp [ffL] at hi; omega, by simp [ffL]⟩
  | j + 1, hj => by
    obtain ⟨a1, a2⟩ := ffL_new hM h1 j (by omega)
    obtain ⟨x, hx, hxo⟩ := more_node (n := n) (P := ffL d n j) (by rw [ffL_len]; omega)
    have hpos := nrP_pos hM a1 hx hxo
    rcases ffB_cases d (ffL d n j) n with ⟨_, h2⟩ | ⟨b, hb, h2, h3, h4⟩
    · have := h2 x hx; omega
    · have hbo : b ∉ ffL d n j := fun h => by have := nrP_zero hM hb h; omega
      simp only [ffL, h2]
      refine ⟨fun i hi => ?_, ?_⟩
      · rcases List.mem_append.1 hi with hi | hi
        · exact a1 i hi
        · simp at hi; omega
      · rw [List.nodup_append]
        refine ⟨a2, by simp, fun a ha c hc => ?_⟩
        simp at hc
        intro e
        exact hbo (by rw [← hc, ← e]; exact ha)
/-- If a node is not within R of any that is there, no two that are there are within R of each other. -/
theorem ff_apart {d : Nat → Nat → Int} {n v : Nat} {R : Int} (hM : Met d n) (h1 : 1 ≤ n) (hv : v < n) (hR : 0 ≤ R) : ∀ j, j + 1 ≤ n → (∀ i ∈ ffL d n j, ¬ Nr d R v i) → (ffL d n j).Pairwise fun a b => ¬ Nr d R b a
  | 0, _, _ => by simp [ffL]
  | j + 1, hj, h => by
    have hin : ∀ i ∈ ffL d n j, ¬ Nr d R v i := fun i hi => h i (by simp only [ffL]; exact List.mem_append_left _ hi)
    have ih := ff_apart hM h1 hv hR j (by omega) hin
    obtain ⟨a1, a2⟩ := ffL_new hM h1 j (by omega)
    -- v is as far from those there as what is taken, at most
    rcases ffB_cases d (ffL d n j) n with ⟨_, h2⟩ | ⟨b, hb, h2, h3, h4⟩
    · exfalso
      obtain ⟨x, hx, hxo⟩ := more_node (n := n) (P := ffL d n j) (by rw [ffL_len]; omega)
      have := nrP_pos hM a1 hx hxo
      have := h2 x hx; omega
    · simp only [ffL, h2]
      rw [List.pairwise_append]
      refine ⟨ih, by simp, fun a ha c hc hnr => ?_⟩
      simp at hc
      rw [hc] at hnr
      have hav := h4 v hv
      have hvP : R < nrP d v (ffL d n j) := by
        unfold nrP
        split
        · -- no way: more than any way
          rename_i hw
          have hbda := hM.bd b a hb (a1 a ha)
          unfold Nr at hnr
          rcases Int.lt_or_le R 63 with h5 | h5
          · exact h5
          · -- then b is near a, but v has no way; b was taken as farthest, so b has no way either
            exfalso
            have hbn : nrP d b (ffL d n j) = 63 → False := fun e => by
              unfold nrP at e
              rcases pkL_cases (d b) (ffL d n j) with ⟨_, e2⟩ | ⟨e1, ⟨y, hy, e2⟩, _⟩
              · have := e2 a ha; omega
              · have h7 : pkL (d b) (ffL d n j) (-1) = wy d b (ffL d n j) := rfl
                have := hM.bd b y hb (a1 y hy)
                rw [if_neg (by omega)] at e
                omega
            have hle : nrP d b (ffL d n j) ≤ 63 := by
              unfold nrP
              split
              · omega
              · rename_i hw2
                obtain ⟨y, hy, e2⟩ := wy_cov (d := d) (v := b) (L := ffL d n j) (by omega)
                have := hM.bd b y hb (a1 y hy)
                omega
            have hv63 : nrP d v (ffL d n j) = 63 := by unfold nrP; rw [if_pos hw]
            exact hbn (by omega)
        · rename_i hw
          obtain ⟨y, hy, e2⟩ := wy_cov (d := d) (v := v) (L := ffL d n j) (by omega)
          have := hin y hy
          unfold Nr at this
          omega
      -- so b is farther than R from a
      have hbR : R < nrP d b (ffL d n j) := by omega
      unfold nrP at hbR
      unfold Nr at hnr
      rcases pkL_cases (d b) (ffL d n j) with ⟨_, e2⟩ | ⟨e1, _, e3⟩
      · have := e2 a ha; omega
      · have h7 : pkL (d b) (ffL d n j) (-1) = wy d b (ffL d n j) := rfl
        have := e3 a ha hnr.1
        rw [if_neg (by omega)] at hbR
        omega
/-- Farthest first is at most twice as far. -/
theorem ff_twice {d : Nat → Nat → Int} {n k v : Nat} {x : Int} (hM : Met d n) (h7 : n ≤ 7) (h1 : 1 ≤ n) (hk : 1 ≤ k) (hx : NfIs d n (min k n) x) (hx0 : 0 ≤ x) (hv : v < n) : ∃ i ∈ ffL d n (min k n - 1), Nr d (2 * x) v i := by
  by_cases hc : ∃ i ∈ ffL d n (min k n - 1), Nr d (2 * x) v i
  · exact hc
  exfalso
  have hall : ∀ i ∈ ffL d n (min k n - 1), ¬ Nr d (2 * x) v i := fun i hi h => hc ⟨i, hi, h⟩
  have hap := ff_apart hM h1 hv (show 0 ≤ 2 * x by omega) _ (by omega) hall
  obtain ⟨a1, a2⟩ := ffL_new hM h1 (min k n - 1) (by omega)
  rcases hx with ⟨h3, _⟩ | ⟨_, ⟨J, hJ, h3⟩, _⟩
  · omega
  have hcov := (rad_cov (d := d) (n := n) (L := J) (r := x) hx0 hJ.2.1).1 ⟨by omega, by omega⟩
  have hfar : ∀ a b c, a < n → b < n → c < n → Nr d x c a → Nr d x c b → Nr d (2 * x) a b := fun a b c ha hb hc' h4 h5 => by
    unfold Nr at h4 h5 ⊢
    have e1 := hM.symm a c ha hc'
    have := hM.tri a b c ha hb hc' (by omega) (by omega)
    omega
  have hsym : ∀ a b, a < n → b < n → Nr d (2 * x) a b → Nr d (2 * x) b a := fun a b ha hb h4 => by
    unfold Nr at h4 ⊢
    rw [hM.symm b a hb ha]; exact h4
  have hvo : v ∉ ffL d n (min k n - 1) := fun h => hall v h (by unfold Nr; rw [hM.zero v hv]; omega)
  have hpair : ∀ {L : List Nat}, L.Pairwise (fun a b => ¬ Nr d (2 * x) b a) → (∀ i ∈ L, i < n) → ∀ a ∈ L, ∀ b ∈ L, a ≠ b → ¬ Nr d (2 * x) a b := by
    intro L hL
    induction hL with
    | nil => intro _ a ha; cases ha
    | @cons y L h5 h6 ih =>
      intro hlt a ha b hb hne
      rcases List.mem_cons.1 ha with e1 | ha2 <;> rcases List.mem_cons.1 hb with e2 | hb2
      · exact absurd (e1.trans e2.symm) hne
      · rw [e1]; exact fun h => h5 b hb2 (hsym _ _ (hlt _ (by simp)) (hlt _ (by simp [hb2])) h)
      · rw [e2]; exact h5 a ha2
      · exact ih (fun i hi => hlt i (by simp [hi])) a ha2 b hb2 hne
  have hA : Apt d x n (v :: ffL d n (min k n - 1)) := by
    refine ⟨fun i hi => ?_, List.nodup_cons.2 ⟨hvo, a2⟩, fun i hi m hm hne c hc' ⟨h4, h5⟩ => ?_⟩
    · rcases List.mem_cons.1 hi with rfl | hi
      · exact hv
      · exact a1 i hi
    · rcases List.mem_cons.1 hi with e1 | hi2 <;> rcases List.mem_cons.1 hm with e2 | hm2
      · exact absurd (e1.trans e2.symm) hne
      · exact hall m hm2 (hfar _ _ c hv (a1 m hm2) hc' (by rw [← e1]; exact h4) h5)
      · exact hall i hi2 (hfar _ _ c hv (a1 i hi2) hc' (by rw [← e2]; exact h5) h4)
      · exact hpair hap a1 i hi2 m hm2 hne (hfar _ _ c (a1 i hi2) (a1 m hm2) hc' h4 h5)
  have := apt_le_cov (d := d) (far := x) hM.symm hJ.2.1 hA (fun i hi => hcov.2 i (hA.1 i hi))
  rw [List.length_cons, ffL_len, hJ.2.2] at this
  omega
theorem ffL_take (d : Nat → Nat → Int) (n : Nat) : ∀ j i, i ≤ j → (ffL d n j).take (i + 1) = ffL d n i
  | 0, i, h => by
    obtain rfl : i = 0 := by omega
    rfl
  | j + 1, i, h => by
    by_cases e : i = j + 1
    · subst e
      exact List.take_of_length_le (by rw [ffL_len]; exact Nat.le_refl _)
    · simp only [ffL]
      rw [List.take_append_of_le_length (by rw [ffL_len]; omega)]
      exact ffL_take d n j i (by omega)
end Go.Proofs.Ytoohfipicmdohac
namespace Go.Proofs.Ytoohfipicmdohac
open Go.ChangeShapes Go.WideShapes Go.ChangeAt Go.RowKit
set_option linter.unusedVariables false

theorem memL_succ (s m : Nat) : memL s (m + 1) = memL s m ++ (if s.testBit m = true then [m] else []) := by
  unfold memL
  rw [List.range_succ, List.filter_append]
  congr 1
  cases h : s.testBit m <;> simp [h]
/-- Whether a way is shorter than another, -1 longer than all. -/
def ShW (x y : Int) : Prop := ¬ x = -1 ∧ (y = -1 ∨ x < y)
instance (x y : Int) : Decidable (ShW x y) := by unfold ShW; infer_instance
theorem wyS_skip {d : Nat → Nat → Int} {s v m : Nat} (h : ¬ s.testBit m = true) : wy d v (memL s (m + 1)) = wy d v (memL s m) := by
  rw [memL_succ, if_neg h, List.append_nil]
theorem wyS_take {d : Nat → Nat → Int} {s v m : Nat} {x acc : Int} (h : s.testBit m = true) (ha : wy d v (memL s m) = acc) (hx : d v m = x) (h1 : -1 ≤ x) (h2 : -1 ≤ acc) : wy d v (memL s (m + 1)) = if ShW x acc then x else acc := by
  rw [memL_succ, if_pos h]
  unfold wy at ha ⊢
  rw [pkL_append, ha]
  simp only [pkL]
  rw [hx]
  by_cases hc : 0 ≤ x ∧ (acc < 0 ∨ x < acc)
  · have hs : ShW x acc := ⟨by omega, by omega⟩
    rw [if_pos hc, if_pos hs]
  · have hs : ¬ ShW x acc := fun hs => by
      have e1 := hs.1
      have e2 := hs.2
      omega
    rw [if_neg hc, if_neg hs]
theorem wy_low (d : Nat → Nat → Int) (v : Nat) (L : List Nat) : -1 ≤ wy d v L := by
  rcases pkL_cases (d v) L with ⟨h, _⟩ | ⟨h, _⟩ <;> (unfold wy; omega)
theorem wy_high {d : Nat → Nat → Int} {v : Nat} {L : List Nat} {b : Int} (hb : 0 ≤ b) (h : ∀ i ∈ L, d v i ≤ b) : wy d v L ≤ b := by
  rcases pkL_cases (d v) L with ⟨h1, _⟩ | ⟨_, ⟨x, hx, h1⟩, _⟩
  · unfold wy; omega
  · have := h x hx
    unfold wy; omega
theorem wy_mem {d : Nat → Nat → Int} {v : Nat} {L L' : List Nat} (h : ∀ i, i ∈ L ↔ i ∈ L') : wy d v L = wy d v L' := by
  unfold wy
  rcases pkL_cases (d v) L with ⟨h1, h2⟩ | ⟨h1, ⟨x, hx, h2⟩, h3⟩ <;> rcases pkL_cases (d v) L' with ⟨g1, g2⟩ | ⟨g1, ⟨y, hy, g2⟩, g3⟩
  · omega
  · have := h2 y ((h y).2 hy); omega
  · have := g2 x ((h x).1 hx); omega
  · have := h3 y ((h y).2 hy) (by omega)
    have := g3 x ((h x).1 hx) (by omega)
    omega
theorem radL_mem {d : Nat → Nat → Int} {L L' : List Nat} (h : ∀ i, i ∈ L ↔ i ∈ L') : ∀ m, radL d L m = radL d L' m
  | 0 => rfl
  | m + 1 => by simp only [radL]; rw [radL_mem h m, wy_mem h]
theorem memL_stO {n : Nat} {J : List Nat} (h : ∀ i ∈ J, i < n) (i : Nat) : i ∈ memL (stO J) n ↔ i ∈ J := by
  rw [memL_iff, stO_iff]
  exact ⟨fun h1 => h1.2, fun h1 => ⟨h i h1, h1⟩⟩

/-- The first one of the farthest below m, 0 for none. -/
def ffI (d : Nat → Nat → Int) (L : List Nat) : Nat → Nat
  | 0 => 0
  | m + 1 => if ShW (wy d (ffI d L m) L) (wy d m L) then m else ffI d L m
theorem ffI_lt (d : Nat → Nat → Int) (L : List Nat) {n : Nat} (hn : 1 ≤ n) : ∀ m, m ≤ n → ffI d L m < n
  | 0, _ => by show 0 < n; omega
  | m + 1, h => by
    have := ffI_lt d L hn m (by omega)
    simp only [ffI]; split <;> omega
theorem ffI_yes {d : Nat → Nat → Int} {L : List Nat} {m f : Nat} (hf : ffI d L m = f) (h : ShW (wy d f L) (wy d m L)) : ffI d L (m + 1) = m := by
  simp only [ffI]; rw [hf, if_pos h]
theorem ffI_no {d : Nat → Nat → Int} {L : List Nat} {m f : Nat} (hf : ffI d L m = f) (h : ¬ ShW (wy d f L) (wy d m L)) : ffI d L (m + 1) = f := by
  simp only [ffI]; rw [hf, if_neg h]
/-- Ways between -1 and 54. -/
def Bd54 (d : Nat → Nat → Int) (n : Nat) : Prop := ∀ a b, a < n → b < n → -1 ≤ d a b ∧ d a b ≤ 54
theorem wy_bd {d : Nat → Nat → Int} {n v : Nat} {L : List Nat} (hb : Bd54 d n) (hL : ∀ i ∈ L, i < n) (hv : v < n) : -1 ≤ wy d v L ∧ wy d v L ≤ 54 :=
  ⟨wy_low _ _ _, wy_high (by omega) fun i hi => (hb v i hv (hL i hi)).2⟩
theorem nrP_lt {d : Nat → Nat → Int} {n v u : Nat} {L : List Nat} (hb : Bd54 d n) (hL : ∀ i ∈ L, i < n) (hv : v < n) (hu : u < n) : ShW (wy d u L) (wy d v L) ↔ nrP d u L < nrP d v L := by
  have h1 := wy_bd hb hL hv
  have h2 := wy_bd hb hL hu
  unfold ShW nrP
  split <;> split <;> omega
theorem nrP_ge {d : Nat → Nat → Int} {v : Nat} {L : List Nat} : 0 ≤ nrP d v L := by
  unfold nrP; split <;> omega
theorem ffI_ffB {d : Nat → Nat → Int} {n : Nat} {L : List Nat} (hb : Bd54 d n) (hL : ∀ i ∈ L, i < n) : ∀ m, m ≤ n → (ffB d L m = (0, -1) ∧ ffI d L m = 0 ∧ (m = 0 ∨ nrP d 0 L = 0)) ∨ ∃ b : Nat, b < m ∧ ffB d L m = (nrP d b L, (b : Int)) ∧ ffI d L m = b
  | 0, _ => .inl ⟨rfl, rfl, .inl rfl⟩
  | m + 1, hm => by
    rcases ffI_ffB hb hL m (by omega) with ⟨h1, h2, h3⟩ | ⟨b, h1, h2, h3⟩
    · simp only [ffB, ffI]
      rw [h1, h2]
      have hi := nrP_lt (d := d) (L := L) (v := m) (u := 0) hb hL (by omega) (by omega)
      by_cases e : m = 0
      · subst e
        have hs : ¬ ShW (wy d 0 L) (wy d 0 L) := fun hs => by have := hi.1 hs; omega
        by_cases hc : 0 < nrP d 0 L
        · rw [if_pos hc, if_neg hs]
          exact .inr ⟨0, by omega, rfl, rfl⟩
        · rw [if_neg hc, if_neg hs]
          have := nrP_ge (d := d) (v := 0) (L := L)
          exact .inl ⟨rfl, rfl, .inr (by omega)⟩
      · have h0 : nrP d 0 L = 0 := by omega
        rw [h0] at hi
        by_cases hc : 0 < nrP d m L
        · rw [if_pos hc, if_pos (hi.2 hc)]
          exact .inr ⟨m, by omega, rfl, rfl⟩
        · rw [if_neg hc, if_neg (fun h => hc (hi.1 h))]
          exact .inl ⟨rfl, rfl, .inr h0⟩
    · simp only [ffB, ffI]
      rw [h2, h3]
      have hi := nrP_lt (d := d) (L := L) (v := m) (u := b) hb hL (by omega) (by omega)
      by_cases hc : nrP d b L < nrP d m L
      · rw [if_pos hc, if_pos (hi.2 hc)]
        exact .inr ⟨m, by omega, rfl, rfl⟩
      · rw [if_neg hc, if_neg (fun h => hc (hi.1 h))]
        exact .inr ⟨b, by omega, rfl, rfl⟩
theorem ffI_max {d : Nat → Nat → Int} {n : Nat} {L : List Nat} (hb : Bd54 d n) (hL : ∀ i ∈ L, i < n) (hn : 1 ≤ n) : ∀ m, m ≤ n → ∀ v, v < m → nrP d v L ≤ nrP d (ffI d L m) L
  | 0, _, v, hv => by omega
  | m + 1, hm, v, hv => by
    have ih := ffI_max hb hL hn m (by omega)
    have hlt := ffI_lt d L hn m (by omega)
    by_cases hc : ShW (wy d (ffI d L m) L) (wy d m L)
    · rw [ffI_yes rfl hc]
      rw [nrP_lt hb hL (by omega) hlt] at hc
      by_cases e : v = m
      · subst e; exact Int.le_refl _
      · have := ih v (by omega); omega
    · rw [ffI_no rfl hc]
      rw [nrP_lt hb hL (by omega) hlt] at hc
      by_cases e : v = m
      · subst e; omega
      · exact ih v (by omega)
/-- How far the first one of the farthest is, is how far the farthest is. -/
theorem wy_far {d : Nat → Nat → Int} {n : Nat} {L : List Nat} (hb : Bd54 d n) (hL : ∀ i ∈ L, i < n) (hn : 1 ≤ n) : wy d (ffI d L n) L = radL d L n := by
  have hlt := ffI_lt d L hn n (Nat.le_refl _)
  have hmx := ffI_max hb hL hn n (Nat.le_refl _)
  have hw := wy_bd hb hL hlt
  rcases rad_cases d L n with ⟨h1, v, hv, h2⟩ | ⟨h1, h2, h3⟩
  · have h4 := hmx v hv
    have h5 : wy d v L < 0 := by
      rcases pkL_cases (d v) L with ⟨e1, _⟩ | ⟨e1, ⟨y, hy, e2⟩, _⟩
      · unfold wy; omega
      · have := h2 y hy; omega
    unfold nrP at h4
    rw [if_pos h5] at h4
    split at h4 <;> omega
  · have h4 := h2 _ hlt
    rcases h3 with h3 | ⟨v, hv, h3⟩
    · omega
    · have h5 := hmx v hv
      have h6 := h2 v hv
      unfold nrP at h5
      rw [if_neg (by omega), if_neg (by omega)] at h5
      omega

/-- The sets below S with m nodes. -/
def setsM (m S : Nat) : List Nat := (List.range S).filter fun s => decide (bc 7 s = m)
theorem setsM_iff {m S s : Nat} : s ∈ setsM m S ↔ s < S ∧ bc 7 s = m := by simp [setsM]
/-- The least one over all of these. -/
def nfS (d : Nat → Nat → Int) (n m S : Nat) : Int := pkL (fun s => radL d (memL s n) n) (setsM m S) (-1)
theorem nfS_zero (d : Nat → Nat → Int) (n m : Nat) : nfS d n m 0 = -1 := rfl
theorem setsM_succ (m S : Nat) : setsM m (S + 1) = setsM m S ++ (if bc 7 S = m then [S] else []) := by
  unfold setsM
  rw [List.range_succ, List.filter_append]
  congr 1
  by_cases h : bc 7 S = m <;> simp [h]
theorem nfS_skip {d : Nat → Nat → Int} {n m S : Nat} (h : ¬ bc 7 S = m) : nfS d n m (S + 1) = nfS d n m S := by
  unfold nfS; rw [setsM_succ, if_neg h, List.append_nil]
theorem nfS_low (d : Nat → Nat → Int) (n m S : Nat) : -1 ≤ nfS d n m S := by
  unfold nfS
  rcases pkL_cases (fun s => radL d (memL s n) n) (setsM m S) with ⟨h, _⟩ | ⟨h, _⟩ <;> omega
theorem rad_bd {d : Nat → Nat → Int} {n : Nat} {L : List Nat} (hb : Bd54 d n) (hL : ∀ i ∈ L, i < n) (hn : 1 ≤ n) : -1 ≤ radL d L n ∧ radL d L n ≤ 54 := by
  rw [← wy_far hb hL hn]
  exact wy_bd hb hL (ffI_lt d L hn n (Nat.le_refl _))
theorem memL_lt {s n : Nat} : ∀ i ∈ memL s n, i < n := fun i hi => (memL_iff.1 hi).1
theorem nfS_take {d : Nat → Nat → Int} {n m S : Nat} {x acc : Int} (h : bc 7 S = m) (ha : nfS d n m S = acc) (hx : radL d (memL S n) n = x) (h1 : -1 ≤ x) : nfS d n m (S + 1) = if ShW x acc then x else acc := by
  have h2 := nfS_low d n m S
  rw [ha] at h2
  unfold nfS at ha ⊢
  rw [setsM_succ, if_pos h, pkL_append, ha]
  simp only [pkL]
  rw [hx]
  by_cases hc : 0 ≤ x ∧ (acc < 0 ∨ x < acc)
  · have hs : ShW x acc := ⟨by omega, by omega⟩
    rw [if_pos hc, if_pos hs]
  · have hs : ¬ ShW x acc := fun hs => by
      have e1 := hs.1
      have e2 := hs.2
      omega
    rw [if_neg hc, if_neg hs]
theorem nfS_high {d : Nat → Nat → Int} {n m S : Nat} (hb : Bd54 d n) (hn : 1 ≤ n) : nfS d n m S ≤ 54 := by
  unfold nfS
  rcases pkL_cases (fun s => radL d (memL s n) n) (setsM m S) with ⟨h, _⟩ | ⟨_, ⟨s, hs, h2⟩, _⟩
  · omega
  · have := rad_bd (d := d) (L := memL s n) hb memL_lt hn
    omega
theorem nfS_is {d : Nat → Nat → Int} {n m : Nat} (h7 : n ≤ 7) : NfIs d n m (nfS d n m (2 ^ n)) := by
  have hJ : ∀ J, Asc n m J → ∃ s, s ∈ setsM m (2 ^ n) ∧ radL d (memL s n) n = radL d J n := fun J h =>
    ⟨stO J, setsM_iff.2 ⟨stO_lt h.2.1, by rw [stO_nodup h7 h.2.1 (h.1.imp fun hlt e => by omega), h.2.2]⟩, radL_mem (memL_stO h.2.1) n⟩
  unfold nfS
  rcases pkL_cases (fun s => radL d (memL s n) n) (setsM m (2 ^ n)) with ⟨h1, h2⟩ | ⟨h1, ⟨s, hs, h2⟩, h3⟩
  · refine .inl ⟨h1, fun J h => ?_⟩
    obtain ⟨s, hs, e⟩ := hJ J h
    rw [← e]; exact h2 s hs
  · obtain ⟨hs1, hs2⟩ := setsM_iff.1 hs
    refine .inr ⟨h1, ⟨memL s n, ⟨memL_asc _ _, memL_lt, by rw [memL_len h7 hs1, hs2]⟩, h2⟩, fun J h h0 => ?_⟩
    obtain ⟨t, ht, e⟩ := hJ J h
    rw [← e] at h0 ⊢
    exact h3 t ht h0

/-- A set is fine just if the nodes near its nodes are apart; no way may be -1. -/
theorem fine_iffR {d : Nat → Nat → Int} {far : Int} {n s : Nat} {N : Nat → Nat} (hs : s < 2 ^ n) (hN : ∀ i, i < n → ∀ v, (N i).testBit v = true ↔ v < n ∧ 0 ≤ d v i ∧ d v i ≤ far) :
    fnB d far s n n = true ↔ FineN N s 0 0 := by
  have hlt : ∀ i, s.testBit i = true → i < n := fun i hi => bit_ltn hs hi
  rw [fnB_iff]
  constructor
  · intro h
    refine ⟨fun i _ _ v ⟨_, h2⟩ => by simp at h2, fun i j _ hij h1 h2 v ⟨h3, h4⟩ => ?_⟩
    obtain ⟨hv, h5⟩ := (hN i (hlt i h1) v).1 h3
    obtain ⟨_, h6⟩ := (hN j (hlt j h2) v).1 h4
    have := h v hv
    have := nrB_two (d := d) (far := far) (v := v) ⟨h1, h5⟩ ⟨h2, h6⟩ hij (m := n) (hlt j h2)
    omega
  · rintro ⟨_, h⟩ v hv
    refine nrB_one fun i k hik hk ⟨h1, h3⟩ ⟨h4, h6⟩ => ?_
    exact h i k (by omega) hik h1 h4 v ⟨(hN i (by omega) v).2 ⟨hv, h3⟩, (hN k hk v).2 ⟨hv, h6⟩⟩
theorem mw_pkR {d : Nat → Nat → Int} {far : Int} {n : Nat} {N : Nat → Nat} (h7 : n ≤ 7) (hN : ∀ i, i < n → ∀ v, (N i).testBit v = true ↔ v < n ∧ 0 ≤ d v i ∧ d v i ≤ far) : mw N n 0 0 = pkB d far n (2 ^ n) := by
  apply Nat.le_antisymm
  · obtain ⟨s, h1, _, h2, h3⟩ := mw_at N h7 n 0 0 (by omega)
    rw [← h3]
    exact le_pkB h1 ((fine_iffR h1 hN).2 h2)
  · refine pkB_le _ fun s hs hf => ?_
    rw [← cn_bc h7 hs]
    exact mw_ge N s n 0 0 ((fine_iffR hs hN).1 hf)
/-- Each node's near ones meet the set just if the set covers. -/
theorem cover_iff {d : Nat → Nat → Int} {far : Int} {n s : Nat} {N : Nat → Nat} (hN : ∀ i, i < n → ∀ v, (N i).testBit v = true ↔ v < n ∧ 0 ≤ d i v ∧ d i v ≤ far) : cvF d far s n n = true ↔ ∀ v, v < n → ¬ N v &&& s = 0 := by
  rw [cvF_iff]
  constructor
  · intro h v hv he
    obtain ⟨i, hi, hb, hn⟩ := h v hv
    exact dj_and.1 he i ⟨(hN v hv i).2 ⟨hi, hn⟩, hb⟩
  · intro h v hv
    by_cases hc : ∃ i, i < n ∧ s.testBit i = true ∧ Nr d far v i
    · exact hc
    · exfalso
      refine h v hv (dj_and.2 fun i ⟨h1, h2⟩ => hc ?_)
      obtain ⟨h3, h4⟩ := (hN v hv i).1 h1
      exact ⟨i, h3, h2, h4⟩
end Go.Proofs.Ytoohfipicmdohac
