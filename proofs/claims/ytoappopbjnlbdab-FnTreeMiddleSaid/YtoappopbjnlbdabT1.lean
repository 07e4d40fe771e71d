/-
  Trees by parents: how far nodes are, who is behind a node, and that sums go over roads.
  Conditions: each node's road goes to a node ahead of it.
-/
import Derived.Test.YtoappopbjnlbdabU
namespace Go.Proofs.Ytoappopbjnlbdab
open Go.ChangeShapes Go.WideShapes Go.ChangeAt Go.RowKit
set_option linter.unusedVariables false

def tto (t : List (Int × Int)) (i : Nat) : Nat := (t.getD i (-1, 0)).1.toNat
def tlg (t : List (Int × Int)) (i : Nat) : Int := (t.getD i (-1, 0)).2
/-- Each road goes ahead. -/
def Ahead (t : List (Int × Int)) : Prop := ∀ i, 1 ≤ i → i < t.length → tto t i < i ∧ 1 ≤ tlg t i ∧ tlg t i ≤ 9
/-- How far nodes below n are from each other. -/
def dn (t : List (Int × Int)) : Nat → Nat → Nat → Int
  | 0, _, _ => 0
  | n + 1, i, k => if i = n then (if k = n then 0 else dn t n (tto t n) k + tlg t n) else if k = n then dn t n (tto t n) i + tlg t n else dn t n i k
theorem dn_symm (t : List (Int × Int)) : ∀ n i k, dn t n i k = dn t n k i
  | 0, _, _ => rfl
  | n + 1, i, k => by
    simp only [dn]
    by_cases h1 : i = n <;> by_cases h2 : k = n <;> simp only [h1, h2, if_true, if_false]
    exact dn_symm t n i k
theorem dn_old {t : List (Int × Int)} {n i k : Nat} (hi : i < n) (hk : k < n) : dn t (n + 1) i k = dn t n i k := by
  simp only [dn]; rw [if_neg (by omega), if_neg (by omega)]
theorem dn_new {t : List (Int × Int)} {n k : Nat} (hk : k < n) : dn t (n + 1) n k = dn t n (tto t n) k + tlg t n := by
  simp only [dn, if_true]; rw [if_neg (by omega)]
theorem dn_diag (t : List (Int × Int)) : ∀ n i, i < n → dn t n i i = 0
  | 0, _, h => by omega
  | n + 1, i, h => by
    by_cases hi : i = n
    · subst hi; simp [dn]
    · rw [dn_old (by omega) (by omega)]; exact dn_diag t n i (by omega)
theorem dn_same {t : List (Int × Int)} {n i k : Nat} (hi : i < n) (hk : k < n) : ∀ {m}, n ≤ m → dn t m i k = dn t n i k := by
  intro m h
  induction h with
  | refl => rfl
  | @step m hm ih => have : n ≤ m := hm; rw [dn_old (by omega) (by omega), ih]
/-- The row of a node, as it is made: over its road. -/
theorem dn_road {t : List (Int × Int)} {n i k : Nat} (ht : Ahead t) (hn : n ≤ t.length) (hi : i < n) (hk : k < i) : dn t n i k = dn t n (tto t i) k + tlg t i := by
  have h := ht i (by omega) (by omega)
  rw [dn_same (n := i + 1) (i := i) (by omega) (by omega) (show i + 1 ≤ n by omega), dn_new hk, dn_same (n := i) (m := n) (i := tto t i) h.1 hk (by omega)]
theorem dn_bd {t : List (Int × Int)} (ht : Ahead t) : ∀ n i k, n ≤ t.length → i < n → k < n → 0 ≤ dn t n i k ∧ dn t n i k + 9 ≤ 9 * n
  | 0, _, _, _, h, _ => by omega
  | n + 1, i, k, hn, hi, hk => by
    by_cases h0 : n = 0
    · subst h0
      obtain rfl : i = 0 := by omega
      obtain rfl : k = 0 := by omega
      simp [dn]
    · have hr := ht n (by omega) (by omega)
      simp only [dn]
      split
      · split
        · omega
        · have := dn_bd ht n (tto t n) k (by omega) hr.1 (by omega); omega
      · split
        · have := dn_bd ht n (tto t n) i (by omega) hr.1 (by omega); omega
        · have := dn_bd ht n i k (by omega) (by omega) (by omega); omega

/-- From a node up, over roads, while it is greater than j. -/
def tpf (t : List (Int × Int)) (j : Nat) : Nat → Nat → Nat
  | 0, i => i
  | f + 1, i => if j < i then tpf t j f (tto t i) else i
def tp (t : List (Int × Int)) (j i : Nat) : Nat := tpf t j i i
theorem tpf_stop {t : List (Int × Int)} {j : Nat} : ∀ {f i : Nat}, ¬ j < i → tpf t j f i = i
  | 0, _, _ => rfl
  | f + 1, i, h => by simp only [tpf]; rw [if_neg h]
theorem tpf_fuel {t : List (Int × Int)} (ht : Ahead t) (j : Nat) : ∀ f f' i, i ≤ f → i ≤ f' → i < t.length → tpf t j f i = tpf t j f' i := by
  intro f
  induction f with
  | zero => intro f' i h _ _; obtain rfl : i = 0 := by omega
            rw [tpf_stop (by omega), tpf_stop (by omega)]
  | succ f ih =>
    intro f' i h h' hl
    by_cases hj : j < i
    · have hr := ht i (by omega) hl
      obtain ⟨g, rfl⟩ : ∃ g, f' = g + 1 := ⟨f' - 1, by omega⟩
      simp only [tpf]
      rw [if_pos hj, if_pos hj]
      exact ih g _ (by omega) (by omega) (by omega)
    · rw [tpf_stop hj, tpf_stop hj]
theorem tp_stop {t : List (Int × Int)} {j i : Nat} (h : ¬ j < i) : tp t j i = i := tpf_stop h
theorem tp_step {t : List (Int × Int)} (ht : Ahead t) {j i : Nat} (h : j < i) (hl : i < t.length) : tp t j i = tp t j (tto t i) := by
  have hr := ht i (by omega) hl
  obtain ⟨g, rfl⟩ : ∃ g, i = g + 1 := ⟨i - 1, by omega⟩
  show (if j < g + 1 then tpf t j g (tto t (g + 1)) else g + 1) = _
  rw [if_pos h]
  exact tpf_fuel ht j _ _ _ (by omega) (by omega) (by omega)
theorem tp_le {t : List (Int × Int)} (ht : Ahead t) {j : Nat} : ∀ i, i < t.length → tp t j i ≤ j ∧ tp t j i ≤ i := by
  intro i
  induction i using Nat.strongRecOn with
  | ind i ih =>
    intro hl
    by_cases h : j < i
    · have hr := ht i (by omega) hl
      rw [tp_step ht h hl]
      have := ih _ hr.1 (by omega)
      omega
    · rw [tp_stop h]; omega
theorem tp_tp {t : List (Int × Int)} (ht : Ahead t) {j j' : Nat} (hj : j' ≤ j) : ∀ i, i < t.length → tp t j' (tp t j i) = tp t j' i := by
  intro i
  induction i using Nat.strongRecOn with
  | ind i ih =>
    intro hl
    by_cases h : j < i
    · have hr := ht i (by omega) hl
      rw [tp_step ht h hl, ih _ hr.1 (by omega), tp_step ht (show j' < i by omega) hl]
    · rw [tp_stop h]
/-- i is behind v, or v itself. -/
def Bh (t : List (Int × Int)) (v i : Nat) : Prop := tp t v i = v
instance (t : List (Int × Int)) (v i : Nat) : Decidable (Bh t v i) := inferInstanceAs (Decidable (_ = _))
theorem bh_self (t : List (Int × Int)) (v : Nat) : Bh t v v := tp_stop (Nat.lt_irrefl v)
theorem bh_le {t : List (Int × Int)} (ht : Ahead t) {v i : Nat} (hl : i < t.length) (h : Bh t v i) : v ≤ i := by
  have := (tp_le ht (j := v) i hl).2
  unfold Bh at h
  omega
theorem bh_trans {t : List (Int × Int)} (ht : Ahead t) {u v i : Nat} (hv : v < t.length) (hl : i < t.length) (h1 : Bh t u v) (h2 : Bh t v i) : Bh t u i := by
  unfold Bh at *
  rw [← tp_tp ht (bh_le ht hv h1) i hl, h2, h1]
theorem bh_chain {t : List (Int × Int)} (ht : Ahead t) {u v i : Nat} (huv : u ≤ v) (hl : i < t.length) (h1 : Bh t u i) (h2 : Bh t v i) : Bh t u v := by
  unfold Bh at *
  have e := tp_tp ht huv i hl
  rw [h2, h1] at e
  exact e
theorem bh_up {t : List (Int × Int)} (ht : Ahead t) {v i : Nat} (hl : i < t.length) (hv : v < i) : Bh t v i ↔ Bh t v (tto t i) := by
  unfold Bh; rw [tp_step ht hv hl]
theorem bh_child {t : List (Int × Int)} (ht : Ahead t) {m : Nat} : ∀ v, v < t.length → Bh t m v → v ≠ m → ∃ c, m < c ∧ c ≤ v ∧ tto t c = m ∧ Bh t c v := by
  intro v
  induction v using Nat.strongRecOn with
  | ind v ih =>
    intro hl h hne
    have hmv := bh_le ht hl h
    have hr := ht v (by omega) hl
    by_cases e : tto t v = m
    · exact ⟨v, by omega, Nat.le_refl _, e, bh_self t v⟩
    · have h' := (bh_up ht hl (by omega)).1 h
      obtain ⟨c, h1, h2, h3, h4⟩ := ih _ hr.1 (by omega) h' e
      exact ⟨c, h1, by omega, h3, (bh_up ht hl (by omega)).2 h4⟩

/-- Who is behind a node is nearer to it than to the next one, by the road's length; all others are farther. -/
theorem dn_over {t : List (Int × Int)} (ht : Ahead t) {n v : Nat} (hn : n ≤ t.length) (hv1 : 1 ≤ v) (hv : v < n) : ∀ i, i < n → dn t n v i = dn t n (tto t v) i + (if Bh t v i then - tlg t v else tlg t v) := by
  have hrv := ht v hv1 (by omega)
  intro i
  induction i using Nat.strongRecOn with
  | ind i ih =>
    intro hi
    rcases Nat.lt_trichotomy i v with h | h | h
    · rw [if_neg (fun hb => by have := bh_le ht (by omega) hb; omega), dn_road ht hn hv h]
    · subst h
      rw [if_pos (bh_self t i), dn_diag t n i hi, dn_symm t n (tto t i) i, dn_road ht hn hi hrv.1, dn_diag t n _ (by omega)]
      omega
    · have hri := ht i (by omega) (by omega)
      rw [dn_symm t n v i, dn_road ht hn hi h, dn_symm t n (tto t v) i, dn_road ht hn hi (by omega), dn_symm t n (tto t i) v, dn_symm t n (tto t i) (tto t v), ih _ hri.1 (by omega)]
      by_cases hb : Bh t v i
      · rw [if_pos hb, if_pos ((bh_up ht (by omega) h).1 hb)]; omega
      · rw [if_neg hb, if_neg (fun hb' => hb ((bh_up ht (by omega) h).2 hb'))]; omega

/-- The sum over the nodes below m of how many are there, times how far they are. -/
def tsm (t : List (Int × Int)) (fs : List Int) (n v : Nat) : Nat → Int
  | 0 => 0
  | m + 1 => tsm t fs n v m + fs.getD m 0 * dn t n v m
/-- How many are behind a node. -/
def beh (t : List (Int × Int)) (fs : List Int) (v : Nat) : Nat → Int
  | 0 => 0
  | m + 1 => beh t fs v m + (if Bh t v m then fs.getD m 0 else 0)
def tot (fs : List Int) : Nat → Int
  | 0 => 0
  | m + 1 => tot fs m + fs.getD m 0
theorem tsm_over {t : List (Int × Int)} {fs : List Int} (ht : Ahead t) {n v : Nat} (hn : n ≤ t.length) (hv1 : 1 ≤ v) (hv : v < n) : ∀ m, m ≤ n → tsm t fs n v m = tsm t fs n (tto t v) m + tlg t v * (tot fs m - 2 * beh t fs v m)
  | 0, _ => by simp [tsm, tot, beh]
  | m + 1, hm => by
    have ih := tsm_over (fs := fs) ht hn hv1 hv m (by omega)
    simp only [tsm, tot, beh]
    rw [ih, dn_over ht hn hv1 hv m (by omega)]
    generalize tlg t v = L
    generalize fs.getD m 0 = f
    generalize dn t n (tto t v) m = d
    generalize tot fs m = T
    generalize beh t fs v m = b
    generalize tsm t fs n (tto t v) m = s
    split
    · have e1 : f * (d + -L) = f * d - L * f := by rw [Int.mul_add, Int.mul_neg, Int.mul_comm f L]; omega
      have e2 : L * (T + f - 2 * (b + f)) = L * (T - 2 * b) - L * f := by rw [← Int.mul_sub]; congr 1; omega
      rw [e1, e2]; omega
    · have e1 : f * (d + L) = f * d + L * f := by rw [Int.mul_add, Int.mul_comm f L]
      have e2 : L * (T + f - 2 * (b + 0)) = L * (T - 2 * b) + L * f := by rw [← Int.mul_add]; congr 1; omega
      rw [e1, e2]; omega
theorem beh_le_tot {t : List (Int × Int)} {fs : List Int} (hf : ∀ i, 0 ≤ fs.getD i 0) (v : Nat) : ∀ m, beh t fs v m ≤ tot fs m
  | 0 => by simp [beh, tot]
  | m + 1 => by have := beh_le_tot (t := t) hf v m; have := hf m; simp only [beh, tot]; split <;> omega
theorem beh_nonneg {t : List (Int × Int)} {fs : List Int} (hf : ∀ i, 0 ≤ fs.getD i 0) (v : Nat) : ∀ m, 0 ≤ beh t fs v m
  | 0 => by simp [beh]
  | m + 1 => by have := beh_nonneg (t := t) hf v m; have := hf m; simp only [beh]; split <;> omega
theorem beh_mono {t : List (Int × Int)} {fs : List Int} (hf : ∀ i, 0 ≤ fs.getD i 0) {u v : Nat} : ∀ m, (∀ i, i < m → Bh t v i → Bh t u i) → beh t fs v m ≤ beh t fs u m
  | 0, _ => by simp [beh]
  | m + 1, h => by
    have ih := beh_mono (t := t) hf (u := u) (v := v) m (fun i hi => h i (by omega))
    have hm := h m (by omega)
    have := hf m
    simp only [beh]
    by_cases hb : Bh t v m
    · rw [if_pos hb, if_pos (hm hb)]; omega
    · rw [if_neg hb]; split <;> omega
theorem beh_apart {t : List (Int × Int)} {fs : List Int} (hf : ∀ i, 0 ≤ fs.getD i 0) {u v : Nat} : ∀ m, (∀ i, i < m → ¬ (Bh t v i ∧ Bh t u i)) → beh t fs v m + beh t fs u m ≤ tot fs m
  | 0, _ => by simp [beh, tot]
  | m + 1, h => by
    have ih := beh_apart (t := t) hf (u := u) (v := v) m (fun i hi => h i (by omega))
    have hm := h m (by omega)
    have := hf m
    simp only [beh, tot]
    by_cases hb : Bh t v m
    · rw [if_pos hb, if_neg (fun hu => hm ⟨hb, hu⟩)]; omega
    · rw [if_neg hb]; split <;> omega

/-- The middle is nearest. -/
theorem middle_nearest {t : List (Int × Int)} {fs : List Int} (ht : Ahead t) (hf : ∀ i, 0 ≤ fs.getD i 0) {n m : Nat} (hn : n = t.length) (hm : m < n) (h1 : 1 ≤ m → 2 * (tot fs n - beh t fs m n) ≤ tot fs n)
    (h2 : ∀ c, m < c → c < n → tto t c = m → 2 * beh t fs c n ≤ tot fs n) : ∀ v, v < n → tsm t fs n m n ≤ tsm t fs n v n := by
  -- nodes on the way from the node 0 to m
  have up : ∀ d v, v + d = m → Bh t v m → tsm t fs n m n ≤ tsm t fs n v n := by
    intro d
    induction d using Nat.strongRecOn with
    | ind d ih =>
      intro v hvd hb
      by_cases hvm : m = v
      · rw [hvm]; exact Int.le_refl _
      · obtain ⟨c, a1, a2, a3, a4⟩ := bh_child ht m (by omega) hb hvm
        have h3 := ih (m - c) (by omega) c (by omega) a4
        have h4 := tsm_over (fs := fs) ht (n := n) (by omega) (show 1 ≤ c by omega) (show c < n by omega) n (Nat.le_refl _)
        rw [a3] at h4
        have h5 := beh_mono (t := t) hf (u := c) (v := m) n (fun i hi hmi => bh_trans ht (by omega) (by omega) a4 hmi)
        have h6 := h1 (by omega)
        have h7 := (ht c (by omega) (by omega)).2.1
        have h8 : 0 ≤ tlg t c * (2 * beh t fs c n - tot fs n) := Int.mul_nonneg (by omega) (by omega)
        have h9 : tlg t c * (tot fs n - 2 * beh t fs c n) = - (tlg t c * (2 * beh t fs c n - tot fs n)) := by rw [← Int.mul_neg]; congr 1; omega
        omega
  intro v
  induction v using Nat.strongRecOn with
  | ind v ih =>
    intro hv
    by_cases hb : Bh t v m
    · have hle := bh_le ht (by omega) hb
      exact up (m - v) v (by omega) hb
    · have hv1 : 1 ≤ v := by
        rcases Nat.eq_zero_or_pos v with h | h
        · subst h
          exact absurd (Nat.le_zero.1 (tp_le ht (j := 0) m (by omega)).1) hb
        · exact h
      have hr := ht v hv1 (by omega)
      have h3 := ih _ hr.1 (by omega)
      have h4 := tsm_over (fs := fs) ht (n := n) (by omega) hv1 hv n (Nat.le_refl _)
      have h5 : 2 * beh t fs v n ≤ tot fs n := by
        by_cases hmv : Bh t m v
        · obtain ⟨c, a1, a2, a3, a4⟩ := bh_child ht v (by omega) hmv (fun e => hb (by rw [e]; exact bh_self t m))
          have := h2 c a1 (by omega) a3
          have := beh_mono (t := t) hf (u := c) (v := v) n (fun i hi hvi => bh_trans ht (by omega) (by omega) a4 hvi)
          omega
        · have hm1 : 1 ≤ m := by
            rcases Nat.eq_zero_or_pos m with h | h
            · subst h
              exact absurd (Nat.le_zero.1 (tp_le ht (j := 0) v (by omega)).1) hmv
            · exact h
          have := beh_apart (t := t) hf (u := m) (v := v) n (fun i hi ⟨hvi, hmi⟩ => by
            rcases Nat.le_total v m with h | h
            · exact hb (bh_chain ht h (by omega) hvi hmi)
            · exact hmv (bh_chain ht h (by omega) hmi hvi))
          have := h1 hm1
          omega
      have h6 : 0 ≤ tlg t v * (tot fs n - 2 * beh t fs v n) := Int.mul_nonneg (by omega) (by omega)
      omega
end Go.Proofs.Ytoappopbjnlbdab
