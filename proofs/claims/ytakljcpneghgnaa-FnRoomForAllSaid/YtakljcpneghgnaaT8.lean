/-
  The most sets without a common node, taken one by one, are the most nodes of a set that is fine.
  Conditions: at most seven nodes.
-/
import Derived.Test.YtakljcpneghgnaaT1
namespace Go.Proofs.Ytakljcpneghgnaa
open Go.ChangeShapes Go.WideShapes Go.ChangeAt Go.RowKit
set_option linter.unusedVariables false

/-- How many bits a number below 2^f has. -/
def bc : Nat → Nat → Nat
  | 0, _ => 0
  | f + 1, s => s % 2 + bc f (s / 2)
/-- The bits from k on, m of them. -/
def cn (s : Nat) : Nat → Nat → Nat
  | 0, _ => 0
  | m + 1, k => (if s.testBit k then 1 else 0) + cn s m (k + 1)
theorem cn_all : ∀ n : Fin 8, ∀ s : Fin 128, s.val < 2 ^ n.val → cn s.val n.val 0 = bc 7 s.val := by decide +kernel
theorem pow_128 {n s : Nat} (h7 : n ≤ 7) (hs : s < 2 ^ n) : s < 128 := Nat.lt_of_lt_of_le hs (Nat.pow_le_pow_right (by omega) h7 : 2 ^ n ≤ 2 ^ 7)
theorem cn_bc {n s : Nat} (h7 : n ≤ 7) (hs : s < 2 ^ n) : cn s n 0 = bc 7 s := cn_all ⟨n, by omega⟩ ⟨s, pow_128 h7 hs⟩ hs
theorem or_all : ∀ s : Fin 128, ∀ i : Fin 7, s.val.testBit i.val = false → bc 7 (s.val ||| 2 ^ i.val) = bc 7 s.val + 1 := by decide +kernel
/-- No common bit. -/
def Dj (x y : Nat) : Prop := ∀ v, ¬ (x.testBit v = true ∧ y.testBit v = true)
theorem dj_and {x y : Nat} : x &&& y = 0 ↔ Dj x y := by
  constructor
  · intro h v ⟨h1, h2⟩
    have := Nat.testBit_and x y v
    rw [h, h1, h2] at this
    simp at this
  · intro h
    apply Nat.eq_of_testBit_eq
    intro v
    rw [Nat.testBit_and]
    have := h v
    simp only [Nat.zero_testBit]
    cases h1 : x.testBit v <;> cases h2 : y.testBit v <;> simp_all
theorem dj_or {x y z : Nat} : Dj x (y ||| z) ↔ Dj x y ∧ Dj x z := by
  constructor
  · intro h
    exact ⟨fun v ⟨h1, h2⟩ => h v ⟨h1, by rw [Nat.testBit_or, h2]; rfl⟩, fun v ⟨h1, h2⟩ => h v ⟨h1, by rw [Nat.testBit_or, h2]; simp⟩⟩
  · rintro ⟨h1, h2⟩ v ⟨h3, h4⟩
    rw [Nat.testBit_or, Bool.or_eq_true] at h4
    rcases h4 with h4 | h4
    · exact h1 v ⟨h3, h4⟩
    · exact h2 v ⟨h3, h4⟩
theorem dj_comm {x y : Nat} (h : Dj x y) : Dj y x := fun v ⟨h1, h2⟩ => h v ⟨h2, h1⟩
/-- The most sets N k, N (k + 1) .. (m of them) of which no two have a common bit, nor one of those taken. -/
def mw (N : Nat → Nat) : Nat → Nat → Nat → Nat
  | 0, _, _ => 0
  | m + 1, k, T => if N k &&& T = 0 then max (mw N m (k + 1) T) (1 + mw N m (k + 1) (T ||| N k)) else mw N m (k + 1) T
theorem mw_bd (N : Nat → Nat) : ∀ m k T, mw N m k T ≤ m
  | 0, _, _ => Nat.le_refl _
  | m + 1, k, T => by
    have h1 := mw_bd N m (k + 1) T
    have h2 := mw_bd N m (k + 1) (T ||| N k)
    simp only [mw]; split <;> omega
/-- The sets of s, from k on, have no common bit, nor one of T. -/
def FineN (N : Nat → Nat) (s k T : Nat) : Prop := (∀ i, k ≤ i → s.testBit i = true → Dj (N i) T) ∧ ∀ i j, k ≤ i → i < j → s.testBit i = true → s.testBit j = true → Dj (N i) (N j)
theorem mw_ge (N : Nat → Nat) (s : Nat) : ∀ m k T, FineN N s k T → cn s m k ≤ mw N m k T
  | 0, _, _, _ => Nat.le_refl _
  | m + 1, k, T, h => by
    have h0 : FineN N s (k + 1) T := ⟨fun i hi hs => h.1 i (by omega) hs, fun i j hi hij h1 h2 => h.2 i j (by omega) hij h1 h2⟩
    have ih := mw_ge N s m (k + 1) T h0
    simp only [cn, mw]
    by_cases hk : s.testBit k = true
    · have hd := h.1 k (Nat.le_refl _) hk
      rw [if_pos hk, if_pos (dj_and.2 hd)]
      have h1 : FineN N s (k + 1) (T ||| N k) := ⟨fun i hi hs => dj_or.2 ⟨h.1 i (by omega) hs, dj_comm (h.2 k i (Nat.le_refl _) (by omega) hk hs)⟩, h0.2⟩
      have ih1 := mw_ge N s m (k + 1) (T ||| N k) h1
      omega
    · rw [if_neg hk]
      split <;> omega
theorem mw_at (N : Nat → Nat) {n : Nat} (h7 : n ≤ 7) : ∀ m k T, k + m = n → ∃ s, s < 2 ^ n ∧ (∀ i, i < k → s.testBit i = false) ∧ FineN N s k T ∧ bc 7 s = mw N m k T
  | 0, k, T, _ => ⟨0, Nat.two_pow_pos n, fun i _ => Nat.zero_testBit i, ⟨fun i _ h => by simp at h, fun i j _ _ h => by simp at h⟩, rfl⟩
  | m + 1, k, T, hn => by
    have keep : ∀ {s}, (∀ i, i < k + 1 → s.testBit i = false) → FineN N s (k + 1) T → FineN N s k T := fun hz hf =>
      ⟨fun i hi hs => hf.1 i (by by_cases e : i = k; · subst e; rw [hz i (by omega)] at hs; cases hs
                                 · omega) hs,
       fun i j hi hij h1 h2 => hf.2 i j (by by_cases e : i = k; · subst e; rw [hz i (by omega)] at h1; cases h1
                                            · omega) hij h1 h2⟩
    obtain ⟨s1, a1, b1, c1, d1⟩ := mw_at N h7 m (k + 1) T (by omega)
    simp only [mw]
    by_cases hd : N k &&& T = 0
    · rw [if_pos hd]
      obtain ⟨s2, a2, b2, c2, d2⟩ := mw_at N h7 m (k + 1) (T ||| N k) (by omega)
      by_cases hle : mw N m (k + 1) T ≤ 1 + mw N m (k + 1) (T ||| N k)
      · have hk7 : k < 7 := by omega
        have hs2 := pow_128 h7 a2
        have hbit : ∀ i, (s2 ||| 2 ^ k).testBit i = true → i = k ∨ s2.testBit i = true := fun i hi => by
          rw [Nat.testBit_or, Bool.or_eq_true] at hi
          rcases hi with hi | hi
          · exact .inr hi
          · rw [Nat.testBit_two_pow] at hi; simp at hi; exact .inl hi.symm
        refine ⟨s2 ||| 2 ^ k, Nat.or_lt_two_pow a2 (Nat.pow_lt_pow_right (by omega) (by omega)), fun i hi => ?_, ⟨fun i hi hs => ?_, fun i j hi hij h1 h2 => ?_⟩, ?_⟩
        · rw [Nat.testBit_or, b2 i (by omega), Nat.testBit_two_pow]; simp; omega
        · rcases hbit i hs with rfl | hs'
          · exact dj_and.1 hd
          · have hik : k + 1 ≤ i := by
              by_cases e : i = k
              · subst e; rw [b2 i (by omega)] at hs'; cases hs'
              · omega
            exact (dj_or.1 (c2.1 i hik hs')).1
        · rcases hbit j h2 with rfl | hj
          · omega
          · have hjk : k + 1 ≤ j := by omega
            rcases hbit i h1 with rfl | hi'
            · exact dj_comm (dj_or.1 (c2.1 j hjk hj)).2
            · have hik : k + 1 ≤ i := by
                by_cases e : i = k
                · subst e; rw [b2 i (by omega)] at hi'; cases hi'
                · omega
              exact c2.2 i j hik hij hi' hj
        · rw [or_all ⟨s2, hs2⟩ ⟨k, hk7⟩ (b2 k (by omega)), d2]; omega
      · exact ⟨s1, a1, fun i hi => b1 i (by omega), keep b1 c1, by rw [d1]; omega⟩
    · rw [if_neg hd]
      exact ⟨s1, a1, fun i hi => b1 i (by omega), keep b1 c1, d1⟩
/-- How many of a set are near a node, of the nodes below m. -/
def nrB (d : Nat → Nat → Int) (far : Int) (s v : Nat) : Nat → Nat
  | 0 => 0
  | m + 1 => nrB d far s v m + (if s.testBit m = true ∧ 0 ≤ d v m ∧ d v m ≤ far then 1 else 0)
/-- Whether at each node below v at most one of the set is near. -/
def fnB (d : Nat → Nat → Int) (far : Int) (s n : Nat) : Nat → Bool
  | 0 => true
  | v + 1 => fnB d far s n v && decide (nrB d far s v n ≤ 1)
def pkB (d : Nat → Nat → Int) (far : Int) (n : Nat) : Nat → Nat
  | 0 => 0
  | S + 1 => if fnB d far S n n = true then max (pkB d far n S) (bc 7 S) else pkB d far n S
theorem fnB_iff {d : Nat → Nat → Int} {far : Int} {s n : Nat} : ∀ m, fnB d far s n m = true ↔ ∀ v, v < m → nrB d far s v n ≤ 1
  | 0 => by simp [fnB]
  | m + 1 => by
    simp only [fnB, Bool.and_eq_true, fnB_iff m, decide_eq_true_eq]
    constructor
    · rintro ⟨h1, h2⟩ v hv
      by_cases e : v = m
      · subst e; exact h2
      · exact h1 v (by omega)
    · intro h
      exact ⟨fun v hv => h v (by omega), h m (by omega)⟩
theorem le_pkB {d : Nat → Nat → Int} {far : Int} {n : Nat} : ∀ {S s : Nat}, s < S → fnB d far s n n = true → bc 7 s ≤ pkB d far n S
  | 0, s, h, _ => by omega
  | S + 1, s, h, hf => by
    simp only [pkB]
    by_cases e : s = S
    · subst e; rw [if_pos hf]; omega
    · have := le_pkB (d := d) (far := far) (n := n) (show s < S by omega) hf
      split <;> omega
theorem pkB_le {d : Nat → Nat → Int} {far : Int} {n c : Nat} : ∀ S, (∀ s, s < S → fnB d far s n n = true → bc 7 s ≤ c) → pkB d far n S ≤ c
  | 0, _ => Nat.zero_le _
  | S + 1, h => by
    have ih := pkB_le (d := d) (far := far) (n := n) S fun s hs => h s (by omega)
    simp only [pkB]
    split
    · rename_i hf
      have := h S (by omega) hf
      omega
    · exact ih
theorem nrB_none {d : Nat → Nat → Int} {far : Int} {s v : Nat} : ∀ {m}, (∀ i, i < m → ¬ (s.testBit i = true ∧ 0 ≤ d v i ∧ d v i ≤ far)) → nrB d far s v m = 0
  | 0, _ => rfl
  | m + 1, h => by simp only [nrB]; rw [nrB_none (fun i hi => h i (by omega)), if_neg (h m (by omega))]
theorem nrB_one {d : Nat → Nat → Int} {far : Int} {s v : Nat} : ∀ {m}, (∀ i k, i < k → k < m → (s.testBit i = true ∧ 0 ≤ d v i ∧ d v i ≤ far) → ¬ (s.testBit k = true ∧ 0 ≤ d v k ∧ d v k ≤ far)) → nrB d far s v m ≤ 1
  | 0, _ => by simp [nrB]
  | m + 1, h => by
    have ih := nrB_one (d := d) (far := far) (s := s) (v := v) (m := m) (fun i k hi hk => h i k hi (by omega))
    simp only [nrB]
    by_cases e : s.testBit m = true ∧ 0 ≤ d v m ∧ d v m ≤ far
    · rw [nrB_none (fun i hi h' => h i m hi (by omega) h' e), if_pos e]; omega
    · rw [if_neg e]; omega
theorem nrB_mono {d : Nat → Nat → Int} {far : Int} {s v i : Nat} (h : s.testBit i = true ∧ 0 ≤ d v i ∧ d v i ≤ far) : ∀ {m}, i < m → 1 ≤ nrB d far s v m
  | 0, hi => by omega
  | m + 1, hi => by
    simp only [nrB]
    by_cases e : i = m
    · subst e; rw [if_pos h]; omega
    · have := nrB_mono h (m := m) (by omega); omega
theorem nrB_two {d : Nat → Nat → Int} {far : Int} {s v i k : Nat} (h : s.testBit i = true ∧ 0 ≤ d v i ∧ d v i ≤ far) (hk : s.testBit k = true ∧ 0 ≤ d v k ∧ d v k ≤ far) (hik : i < k) : ∀ {m}, k < m → 2 ≤ nrB d far s v m
  | 0, hm => by omega
  | m + 1, hm => by
    simp only [nrB]
    by_cases e : k = m
    · subst e; rw [if_pos hk]; have := nrB_mono h (m := k) hik; omega
    · have := nrB_two h hk hik (m := m) (by omega); omega
/-- A set is fine just if the nodes near its nodes are apart. -/
theorem fine_iff {d : Nat → Nat → Int} {far : Int} {n s : Nat} {N : Nat → Nat} (hs : s < 2 ^ n) (hd : ∀ v i, v < n → i < n → 0 ≤ d v i) (hN : ∀ i, i < n → ∀ v, (N i).testBit v = true ↔ v < n ∧ d v i ≤ far) :
    fnB d far s n n = true ↔ FineN N s 0 0 := by
  have hlt : ∀ i, s.testBit i = true → i < n := fun i hi => by
    rcases Nat.lt_or_ge i n with h | h
    · exact h
    · have := Nat.ge_two_pow_of_testBit hi
      have := Nat.pow_le_pow_right (show 2 > 0 by omega) h
      omega
  rw [fnB_iff]
  constructor
  · intro h
    refine ⟨fun i _ _ v ⟨_, h2⟩ => by simp at h2, fun i j _ hij h1 h2 v ⟨h3, h4⟩ => ?_⟩
    obtain ⟨hv, h5⟩ := (hN i (hlt i h1) v).1 h3
    obtain ⟨_, h6⟩ := (hN j (hlt j h2) v).1 h4
    have := h v hv
    have := nrB_two (d := d) (far := far) (v := v) ⟨h1, hd v i hv (hlt i h1), h5⟩ ⟨h2, hd v j hv (hlt j h2), h6⟩ hij (m := n) (hlt j h2)
    omega
  · rintro ⟨_, h⟩ v hv
    refine nrB_one fun i k hik hk ⟨h1, _, h3⟩ ⟨h4, _, h6⟩ => ?_
    exact h i k (by omega) hik h1 h4 v ⟨(hN i (by omega) v).2 ⟨hv, h3⟩, (hN k hk v).2 ⟨hv, h6⟩⟩
theorem mw_pkB {d : Nat → Nat → Int} {far : Int} {n : Nat} {N : Nat → Nat} (h7 : n ≤ 7) (hd : ∀ v i, v < n → i < n → 0 ≤ d v i) (hN : ∀ i, i < n → ∀ v, (N i).testBit v = true ↔ v < n ∧ d v i ≤ far) : mw N n 0 0 = pkB d far n (2 ^ n) := by
  apply Nat.le_antisymm
  · obtain ⟨s, h1, _, h2, h3⟩ := mw_at N h7 n 0 0 (by omega)
    rw [← h3]
    exact le_pkB h1 ((fine_iff h1 hd hN).2 h2)
  · refine pkB_le _ fun s hs hf => ?_
    rw [← cn_bc h7 hs]
    exact mw_ge N s n 0 0 ((fine_iff hs hd hN).1 hf)
end Go.Proofs.Ytakljcpneghgnaa
