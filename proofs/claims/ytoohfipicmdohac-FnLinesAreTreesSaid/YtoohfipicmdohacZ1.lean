/-
  Trees by parents: how far nodes are, who is behind a node, and that sums go over roads.
  Conditions: each node's road goes to a node ahead of it.
  The most sets without a common node, taken one by one, are the most nodes of a set that is fine.
  Conditions: at most seven nodes.
  Words for slices of roads: two cells an element, To and Long.
  Conditions: none beyond what each theorem states.
  Plain mathematics of MostApart: the table of the most homes that are apart and end at a home.
  Conditions: none beyond what each theorem states.
  Lines are trees: homes on a line that are apart are nodes of the line's tree that are apart.
  Conditions: none beyond what each theorem states.
-/
import Derived.Test.YtoohfipicmdohacZ0
import Derived.Test.YtoohfipicmdohacZ2
namespace Go.Proofs.Ytoohfipicmdohac
open Go.ChangeShapes Go.WideShapes Go.ChangeAt Go.RowKit
set_option linter.unusedVariables false

def tto (t : List (Int × Int)) (i : Nat) : Nat := (t.getD i (-1, 0)).1.toNat
def tlg (t : List (Int × Int)) (i : Nat) : Int := (t.getD i (-1, 0)).2
/-- Each road goes ahead. -/
def Ahead (t : List (Int × Int)) : Prop := ∀ i, 1 ≤ i → i < t.length → tto t i < i ∧ 1 ≤ tlg t i ∧ tlg t i ≤ 9
/-- How far nodes below n are from each other. -/
def dn (t : List (Int × Int)) : Nat → Nat → Nat → Int
  | 0, _, _ => 0
  | n + 1, i, k => if i = n then (if k = n then 0 else dn t n (tto t n) k + tlg t n) else if k = n then dn t n (tto t n) i + tlg t n else dn t n i k
theorem dn_symm (t : List (Int × Int)) : ∀ n i k, dn t n i k = dn t n k i
  | 0, _, _ => rfl
  | n + 1, i, k => by
    simp only [dn]
    by_cases h1 : i = n <;> by_cases h2 : k = n <;> simp only [h1, h2, if_true, if_false]
    exact dn_symm t n i k
theorem dn_old {t : List (Int × Int)} {n i k : Nat} (hi : i < n) (hk : k < n) : dn t (n + 1) i k = dn t n i k := by
  simp only [dn]; rw [if_neg (by omega), if_neg (by omega)]
theorem dn_new {t : List (Int × Int)} {n k : Nat} (hk : k < n) : dn t (n + 1) n k = dn t n (tto t n) k + tlg t n := by
  simp only [dn, if_true]; rw [if_neg (by omega)]
theorem dn_diag (t : List (Int × Int)) : ∀ n i, i < n → dn t n i i = 0
  | 0, _, h => by omega
  | n + 1, i, h => by
    by_cases hi : i = n
    · subst hi; simp [dn]
    · rw [dn_old (by omega) (by omega)]; exact dn_diag t n i (by omega)
theorem dn_same {t : List (Int × Int)} {n i k : Nat} (hi : i < n) (hk : k < n) : ∀ {m}, n ≤ m → dn t m i k = dn t n i k := by
  intro m h
  induction h with
  | refl => rfl
  | @step m hm ih => have : n ≤ m := hm; rw [dn_old (by omega) (by omega), ih]
/-- The row of a node, as it is made: over its road. -/
theorem dn_road {t : List (Int × Int)} {n i k : Nat} (ht : Ahead t) (hn : n ≤ t.length) (hi : i < n) (hk : k < i) : dn t n i k = dn t n (tto t i) k + tlg t i := by
  have h := ht i (by omega) (by omega)
  rw [dn_same (n := i + 1) (i := i) (by omega) (by omega) (show i + 1 ≤ n by omega), dn_new hk, dn_same (n := i) (m := n) (i := tto t i) h.1 hk (by omega)]
theorem dn_bd {t : List (Int × Int)} (ht : Ahead t) : ∀ n i k, n ≤ t.length → i < n → k < n → 0 ≤ dn t n i k ∧ dn t n i k + 9 ≤ 9 * n
  | 0, _, _, _, h, _ => by omega
  | n + 1, i, k, hn, hi, hk => by
    by_cases h0 : n = 0
    · subst h0
      obtain rfl : i = 0 := by omega
      obtain rfl : k = 0 := by omega
      simp [dn]
    · have hr := ht n (by omega) (by omega)
      simp only [dn]
      split
      · split
        · omega
        · have := dn_bd ht n (tto t n) k (by omega) hr.1 (by omega); omega
      · split
        · have := dn_bd ht n (tto t n) i (by omega) hr.1 (by omega); omega
        · have := dn_bd ht n i k (by omega) (by omega) (by omega); omega

/-- From a node up, over roads, while it is greater than j. -/
def tpf (t : List (Int × Int)) (j : Nat) : Nat → Nat → Nat
  | 0, i => i
  | f + 1, i => if j < i then tpf t j f (tto t i) else i
def tp (t : List (Int × Int)) (j i : Nat) : Nat := tpf t j i i
theorem tpf_stop {t : List (Int × Int)} {j : Nat} : ∀ {f i : Nat}, ¬ j < i → tpf t j f i = i
  | 0, _, _ => rfl
  | f + 1, i, h => by simp only [tpf]; rw [if_neg h]
theorem tpf_fuel {t : List (Int × Int)} (ht : Ahead t) (j : Nat) : ∀ f f' i, i ≤ f → i ≤ f' → i < t.length → tpf t j f i = tpf t j f' i := by
  intro f
  induction f with
  | zero => intro f' i h _ _; obtain rfl : i = 0 := by omega
            rw [tpf_stop (by omega), tpf_stop (by omega)]
  | succ f ih =>
    intro f' i h h' hl
    by_cases hj : j < i
    · have hr := ht i (by omega) hl
      obtain ⟨g, rfl⟩ : ∃ g, f' = g + 1 := ⟨f' - 1, by omega⟩
      simp only [tpf]
      rw [if_pos hj, if_pos hj]
      exact ih g _ (by omega) (by omega) (by omega)
    · rw [tpf_stop hj, tpf_stop hj]
theorem tp_stop {t : List (Int × Int)} {j i : Nat} (h : ¬ j < i) : tp t j i = i := tpf_stop h
theorem tp_step {t : List (Int × Int)} (ht : Ahead t) {j i : Nat} (h : j < i) (hl : i < t.length) : tp t j i = tp t j (tto t i) := by
  have hr := ht i (by omega) hl
  obtain ⟨g, rfl⟩ : ∃ g, i = g + 1 := ⟨i - 1, by omega⟩
  show (if j < g + 1 then tpf t j g (tto t (g + 1)) else g + 1) = _
  rw [if_pos h]
  exact tpf_fuel ht j _ _ _ (by omega) (by omega) (by omega)
theorem tp_le {t : List (Int × Int)} (ht : Ahead t) {j : Nat} : ∀ i, i < t.length → tp t j i ≤ j ∧ tp t j i ≤ i := by
  intro i
  induction i using Nat.strongRecOn with
  | ind i ih =>
    intro hl
    by_cases h : j < i
    · have hr := ht i (by omega) hl
      rw [tp_step ht h hl]
      have := ih _ hr.1 (by omega)
      omega
    · rw [tp_stop h]; omega
theorem tp_tp {t : List (Int × Int)} (ht : Ahead t) {j j' : Nat} (hj : j' ≤ j) : ∀ i, i < t.length → tp t j' (tp t j i) = tp t j' i := by
  intro i
  induction i using Nat.strongRecOn with
  | ind i ih =>
    intro hl
    by_cases h : j < i
    · have hr := ht i (by omega) hl
      rw [tp_step ht h hl, ih _ hr.1 (by omega), tp_step ht (show j' < i by omega) hl]
    · rw [tp_stop h]
/-- i is behind v, or v itself. -/
def Bh (t : List (Int × Int)) (v i : Nat) : Prop := tp t v i = v
instance (t : List (Int × Int)) (v i : Nat) : Decidable (Bh t v i) := inferInstanceAs (Decidable (_ = _))
theorem bh_self (t : List (Int × Int)) (v : Nat) : Bh t v v := tp_stop (Nat.lt_irrefl v)
theorem bh_le {t : List (Int × Int)} (ht : Ahead t) {v i : Nat} (hl : i < t.length) (h : Bh t v i) : v ≤ i := by
  have := (tp_le ht (j := v) i hl).2
  unfold Bh at h
  omega
theorem bh_trans {t : List (Int × Int)} (ht : Ahead t) {u v i : Nat} (hv : v < t.length) (hl : i < t.length) (h1 : Bh t u v) (h2 : Bh t v i) : Bh t u i := by
  unfold Bh at *
  rw [← tp_tp ht (bh_le ht hv h1) i hl, h2, h1]
theorem bh_chain {t : List (Int × Int)} (ht : Ahead t) {u v i : Nat} (huv : u ≤ v) (hl : i < t.length) (h1 : Bh t u i) (h2 : Bh t v i) : Bh t u v := by
  unfold Bh at *
  have e := tp_tp ht huv i hl
  rw [h2, h1] at e
  exact e
theorem bh_up {t : List (Int × Int)} (ht : Ahead t) {v i : Nat} (hl : i < t.length) (hv : v < i) : Bh t v i ↔ Bh t v (tto t i) := by
  unfold Bh; rw [tp_step ht hv hl]
theorem bh_child {t : List (Int × Int)} (ht : Ahead t) {m : Nat} : ∀ v, v < t.length → Bh t m v → v ≠ m → ∃ c, m < c ∧ c ≤ v ∧ tto t c = m ∧ Bh t c v := by
  intro v
  induction v using Nat.strongRecOn with
  | ind v ih =>
    intro hl h hne
    have hmv := bh_le ht hl h
    have hr := ht v (by omega) hl
    by_cases e : tto t v = m
    · exact ⟨v, by omega, Nat.le_refl _, e, bh_self t v⟩
    · have h' := (bh_up ht hl (by omega)).1 h
      obtain ⟨c, h1, h2, h3, h4⟩ := ih _ hr.1 (by omega) h' e
      exact ⟨c, h1, by omega, h3, (bh_up ht hl (by omega)).2 h4⟩

/-- Who is behind a node is nearer to it than to the next one, by the road's length; all others are farther. -/
theorem dn_over {t : List (Int × Int)} (ht : Ahead t) {n v : Nat} (hn : n ≤ t.length) (hv1 : 1 ≤ v) (hv : v < n) : ∀ i, i < n → dn t n v i = dn t n (tto t v) i + (if Bh t v i then - tlg t v else tlg t v) := by
  have hrv := ht v hv1 (by omega)
  intro i
  induction i using Nat.strongRecOn with
  | ind i ih =>
    intro hi
    rcases Nat.lt_trichotomy i v with h | h | h
    · rw [if_neg (fun hb => by have := bh_le ht (by omega) hb; omega), dn_road ht hn hv h]
    · subst h
      rw [if_pos (bh_self t i), dn_diag t n i hi, dn_symm t n (tto t i) i, dn_road ht hn hi hrv.1, dn_diag t n _ (by omega)]
      omega
    · have hri := ht i (by omega) (by omega)
      rw [dn_symm t n v i, dn_road ht hn hi h, dn_symm t n (tto t v) i, dn_road ht hn hi (by omega), dn_symm t n (tto t i) v, dn_symm t n (tto t i) (tto t v), ih _ hri.1 (by omega)]
      by_cases hb : Bh t v i
      · rw [if_pos hb, if_pos ((bh_up ht (by omega) h).1 hb)]; omega
      · rw [if_neg hb, if_neg (fun hb' => hb ((bh_up ht (by omega) h).2 hb'))]; omega

/-- The sum over the nodes below m of how many are there, times how far they are. -/
def tsm (t : List (Int × Int)) (fs : List Int) (n v : Nat) : Nat → Int
  | 0 => 0
  | m + 1 => tsm t fs n v m + fs.getD m 0 * dn t n v m
/-- How many are behind a node. -/
def beh (t : List (Int × Int)) (fs : List Int) (v : Nat) : Nat → Int
  | 0 => 0
  | m + 1 => beh t fs v m + (if Bh t v m then fs.getD m 0 else 0)
def tot (fs : List Int) : Nat → Int
  | 0 => 0
  | m + 1 => tot fs m + fs.getD m 0
theorem tsm_over {t : List (Int × Int)} {fs : List Int} (ht : Ahead t) {n v : Nat} (hn : n ≤ t.length) (hv1 : 1 ≤ v) (hv : v < n) : ∀ m, m ≤ n → tsm t fs n v m = tsm t fs n (tto t v) m + tlg t v * (tot fs m - 2 * beh t fs v m)
  | 0, _ => by simp [tsm, tot, beh]
  | m + 1, hm => by
    have ih := tsm_over (fs := fs) ht hn hv1 hv m (by omega)
    simp only [tsm, tot, beh]
    rw [ih, dn_over ht hn hv1 hv m (by omega)]
    generalize tlg t v = L
    generalize fs.getD m 0 = f
    generalize dn t n (tto t v) m = d
    generalize tot fs m = T
    generalize beh t fs v m = b
    generalize tsm t fs n (tto t v) m = s
    split
    · have e1 : f * (d + -L) = f * d - L * f := by rw [Int.mul_add, Int.mul_neg, Int.mul_comm f L]; omega
      have e2 : L * (T + f - 2 * (b + f)) = L * (T - 2 * b) - L * f := by rw [← Int.mul_sub]; congr 1; omega
      rw [e1, e2]; omega
    · have e1 : f * (d + L) = f * d + L * f := by rw [Int.mul_add, Int.mul_comm f L]
      have e2 : L * (T + f - 2 * (b + 0)) = L * (T - 2 * b) + L * f := by rw [← Int.mul_add]; congr 1; omega
      rw [e1, e2]; omega
theorem beh_le_tot {t : List (Int × Int)} {fs : List Int} (hf : ∀ i, 0 ≤ fs.getD i 0) (v : Nat) : ∀ m, beh t fs v m ≤ tot fs m
  | 0 => by simp [beh, tot]
  | m + 1 => by have := beh_le_tot (t := t) hf v m; have := hf m; simp only [beh, tot]; split <;> omega
theorem beh_nonneg {t : List (Int × Int)} {fs : List Int} (hf : ∀ i, 0 ≤ fs.getD i 0) (v : Nat) : ∀ m, 0 ≤ beh t fs v m
  | 0 => by simp [beh]
  | m + 1 => by have := beh_nonneg (t := t) hf v m; have := hf m; simp only [beh]; split <;> omega
theorem beh_mono {t : List (Int × Int)} {fs : List Int} (hf : ∀ i, 0 ≤ fs.getD i 0) {u v : Nat} : ∀ m, (∀ i, i < m → Bh t v i → Bh t u i) → beh t fs v m ≤ beh t fs u m
  | 0, _ => by simp [beh]
  | m + 1, h => by
    have ih := beh_mono (t := t) hf (u := u) (v := v) m (fun i hi => h i (by omega))
    have hm := h m (by omega)
    have := hf m
    simp only [beh]
    by_cases hb : Bh t v m
    · rw [if_pos hb, if_pos (hm hb)]; omega
    · rw [if_neg hb]; split <;> omega
theorem beh_apart {t : List (Int × Int)} {fs : List Int} (hf : ∀ i, 0 ≤ fs.getD i 0) {u v : Nat} : ∀ m, (∀ i, i < m → ¬ (Bh t v i ∧ Bh t u i)) → beh t fs v m + beh t fs u m ≤ tot fs m
  | 0, _ => by simp [beh, tot]
  | m + 1, h => by
    have ih := beh_apart (t := t) hf (u := u) (v := v) m (fun i hi => h i (by omega))
    have hm := h m (by omega)
    have := hf m
    simp only [beh, tot]
    by_cases hb : Bh t v m
    · rw [if_pos hb, if_neg (fun hu => hm ⟨hb, hu⟩)]; omega
    · rw [if_neg hb]; split <;> omega

/-- The middle is nearest. -/
theorem middle_nearest {t : List (Int × Int)} {fs : List Int} (ht : Ahead t) (hf : ∀ i, 0 ≤ fs.getD i 0) {n m : Nat} (hn : n = t.length) (hm : m < n) (h1 : 1 ≤ m → 2 * (tot fs n - beh t fs m n) ≤ tot fs n)
    (h2 : ∀ c, m < c → c < n → tto t c = m → 2 * beh t fs c n ≤ tot fs n) : ∀ v, v < n → tsm t fs n m n ≤ tsm t fs n v n := by
  -- nodes on the way from the node 0 to m
  have up : ∀ d v, v + d = m → Bh t v m → tsm t fs n m n ≤ tsm t fs n v n := by
    intro d
    induction d using Nat.strongRecOn with
    | ind d ih =>
      intro v hvd hb
      by_cases hvm : m = v
      · rw [hvm]; exact Int.le_refl _
      · obtain ⟨c, a1, a2, a3, a4⟩ := bh_child ht m (by omega) hb hvm
        have h3 := ih (m - c) (by omega) c (by omega) a4
        have h4 := tsm_over (fs := fs) ht (n := n) (by omega) (show 1 ≤ c by omega) (show c < n by omega) n (Nat.le_refl _)
        rw [a3] at h4
        have h5 := beh_mono (t := t) hf (u := c) (v := m) n (fun i hi hmi => bh_trans ht (by omega) (by omega) a4 hmi)
        have h6 := h1 (by omega)
        have h7 := (ht c (by omega) (by omega)).2.1
        have h8 : 0 ≤ tlg t c * (2 * beh t fs c n - tot fs n) := Int.mul_nonneg (by omega) (by omega)
        have h9 : tlg t c * (tot fs n - 2 * beh t fs c n) = - (tlg t c * (2 * beh t fs c n - tot fs n)) := by rw [← Int.mul_neg]; congr 1; omega
        omega
  intro v
  induction v using Nat.strongRecOn with
  | ind v ih =>
    intro hv
    by_cases hb : Bh t v m
    · have hle := bh_le ht (by omega) hb
      exact up (m - v) v (by omega) hb
    · have hv1 : 1 ≤ v := by
        rcases Nat.eq_zero_or_pos v with h | h
        · subst h
          exact absurd (Nat.le_zero.1 (tp_le ht (j := 0) m (by omega)).1) hb
        · exact h
      have hr := ht v hv1 (by omega)
      have h3 := ih _ hr.1 (by omega)
      have h4 := tsm_over (fs := fs) ht (n := n) (by omega) hv1 hv n (Nat.le_refl _)
      have h5 : 2 * beh t fs v n ≤ tot fs n := by
        by_cases hmv : Bh t m v
        · obtain ⟨c, a1, a2, a3, a4⟩ := bh_child ht v (by omega) hmv (fun e => hb (by rw [e]; exact bh_self t m))
          have := h2 c a1 (by omega) a3
          have := beh_mono (t := t) hf (u := c) (v := v) n (fun i hi hvi => bh_trans ht (by omega) (by omega) a4 hvi)
          omega
        · have hm1 : 1 ≤ m := by
            rcases Nat.eq_zero_or_pos m with h | h
            · subst h
              exact absurd (Nat.le_zero.1 (tp_le ht (j := 0) v (by omega)).1) hmv
            · exact h
          have := beh_apart (t := t) hf (u := m) (v := v) n (fun i hi ⟨hvi, hmi⟩ => by
            rcases Nat.le_total v m with h | h
            · exact hb (bh_chain ht h (by omega) hvi hmi)
            · exact hmv (bh_chain ht h (by omega) hmi hvi))
          have := h1 hm1
          omega
      have h6 : 0 ≤ tlg t v * (tot fs n - 2 * beh t fs v n) := Int.mul_nonneg (by omega) (by omega)
      omega
end Go.Proofs.Ytoohfipicmdohac
namespace Go.Proofs.Ytoohfipicmdohac
open Go.ChangeShapes Go.WideShapes Go.ChangeAt Go.RowKit
set_option linter.unusedVariables false

/-- How many bits a number below 2^f has. -/
def bc : Nat → Nat → Nat
  | 0, _ => 0
  | f + 1, s => s % 2 + bc f (s / 2)
/-- The bits from k on, m of them. -/
def cn (s : Nat) : Nat → Nat → Nat
  | 0, _ => 0
  | m + 1, k => (if s.testBit k then 1 else 0) + cn s m (k + 1)
theorem cn_all : ∀ n : Fin 8, ∀ s : Fin 128, s.val < 2 ^ n.val → cn s.val n.val 0 = bc 7 s.val := by decide +kernel
theorem pow_128 {n s : Nat} (h7 : n ≤ 7) (hs : s < 2 ^ n) : s < 128 := Nat.lt_of_lt_of_le hs (Nat.pow_le_pow_right (by omega) h7 : 2 ^ n ≤ 2 ^ 7)
theorem cn_bc {n s : Nat} (h7 : n ≤ 7) (hs : s < 2 ^ n) : cn s n 0 = bc 7 s := cn_all ⟨n, by omega⟩ ⟨s, pow_128 h7 hs⟩ hs
theorem or_all : ∀ s : Fin 128, ∀ i : Fin 7, s.val.testBit i.val = false → bc 7 (s.val ||| 2 ^ i.val) = bc 7 s.val + 1 := by decide +kernel
/-- No common bit. -/
def Dj (x y : Nat) : Prop := ∀ v, ¬ (x.testBit v = true ∧ y.testBit v = true)
theorem dj_and {x y : Nat} : x &&& y = 0 ↔ Dj x y := by
  constructor
  · intro h v ⟨h1, h2⟩
    have := Nat.testBit_and x y v
    rw [h, h1, h2] at this
    simp at this
  · intro h
    apply Nat.eq_of_testBit_eq
    intro v
    rw [Nat.testBit_and]
    have := h v
    simp only [Nat.zero_testBit]
    cases h1 : x.testBit v <;> cases h2 : y.testBit v <;> simp_all
theorem dj_or {x y z : Nat} : Dj x (y ||| z) ↔ Dj x y ∧ Dj x z := by
  constructor
  · intro h
    exact ⟨fun v ⟨h1, h2⟩ => h v ⟨h1, by rw [Nat.testBit_or, h2]; rfl⟩, fun v ⟨h1, h2⟩ => h v ⟨h1, by rw [Nat.testBit_or, h2]; simp⟩⟩
  · rintro ⟨h1, h2⟩ v ⟨h3, h4⟩
    rw [Nat.testBit_or, Bool.or_eq_true] at h4
    rcases h4 with h4 | h4
    · exact h1 v ⟨h3, h4⟩
    · exact h2 v ⟨h3, h4⟩
theorem dj_comm {x y : Nat} (h : Dj x y) : Dj y x := fun v ⟨h1, h2⟩ => h v ⟨h2, h1⟩
/-- The most sets N k, N (k + 1) .. (m of them) of which no two have a common bit, nor one of those taken. -/
def mw (N : Nat → Nat) : Nat → Nat → Nat → Nat
  | 0, _, _ => 0
  | m + 1, k, T => if N k &&& T = 0 then max (mw N m (k + 1) T) (1 + mw N m (k + 1) (T ||| N k)) else mw N m (k + 1) T
theorem mw_bd (N : Nat → Nat) : ∀ m k T, mw N m k T ≤ m
  | 0, _, _ => Nat.le_refl _
  | m + 1, k, T => by
    have h1 := mw_bd N m (k + 1) T
    have h2 := mw_bd N m (k + 1) (T ||| N k)
    simp only [mw]; split <;> omega
/-- The sets of s, from k on, have no common bit, nor one of T. -/
def FineN (N : Nat → Nat) (s k T : Nat) : Prop := (∀ i, k ≤ i → s.testBit i = true → Dj (N i) T) ∧ ∀ i j, k ≤ i → i < j → s.testBit i = true → s.testBit j = true → Dj (N i) (N j)
theorem mw_ge (N : Nat → Nat) (s : Nat) : ∀ m k T, FineN N s k T → cn s m k ≤ mw N m k T
  | 0, _, _, _ => Nat.le_refl _
  | m + 1, k, T, h => by
    have h0 : FineN N s (k + 1) T := ⟨fun i hi hs => h.1 i (by omega) hs, fun i j hi hij h1 h2 => h.2 i j (by omega) hij h1 h2⟩
    have ih := mw_ge N s m (k + 1) T h0
    simp only [cn, mw]
    by_cases hk : s.testBit k = true
    · have hd := h.1 k (Nat.le_refl _) hk
      rw [if_pos hk, if_pos (dj_and.2 hd)]
      have h1 : FineN N s (k + 1) (T ||| N k) := ⟨fun i hi hs => dj_or.2 ⟨h.1 i (by omega) hs, dj_comm (h.2 k i (Nat.le_refl _) (by omega) hk hs)⟩, h0.2⟩
      have ih1 := mw_ge N s m (k + 1) (T ||| N k) h1
      omega
    · rw [if_neg hk]
      split <;> omega
theorem mw_at (N : Nat → Nat) {n : Nat} (h7 : n ≤ 7) : ∀ m k T, k + m = n → ∃ s, s < 2 ^ n ∧ (∀ i, i < k → s.testBit i = false) ∧ FineN N s k T ∧ bc 7 s = mw N m k T
  | 0, k, T, _ => ⟨0, Nat.two_pow_pos n, fun i _ => Nat.zero_testBit i, ⟨fun i _ h => by simp at h, fun i j _ _ h => by simp at h⟩, rfl⟩
  | m + 1, k, T, hn => by
    have keep : ∀ {s}, (∀ i, i < k + 1 → s.testBit i = false) → FineN N s (k + 1) T → FineN N s k T := fun hz hf =>
      ⟨fun i hi hs => hf.1 i (by by_cases e : i = k; · subst e; rw [hz i (by omega)] at hs; cases hs
                                 · omega) hs,
       fun i j hi hij h1 h2 => hf.2 i j (by by_cases e : i = k; · subst e; rw [hz i (by omega)] at h1; cases h1
                                            · omega) hij h1 h2⟩
    obtain ⟨s1, a1, b1, c1, d1⟩ := mw_at N h7 m (k + 1) T (by omega)
    simp only [mw]
    by_cases hd : N k &&& T = 0
    · rw [if_pos hd]
      obtain ⟨s2, a2, b2, c2, d2⟩ := mw_at N h7 m (k + 1) (T ||| N k) (by omega)
      by_cases hle : mw N m (k + 1) T ≤ 1 + mw N m (k + 1) (T ||| N k)
      · have hk7 : k < 7 := by omega
        have hs2 := pow_128 h7 a2
        have hbit : ∀ i, (s2 ||| 2 ^ k).testBit i = true → i = k ∨ s2.testBit i = true := fun i hi => by
          rw [Nat.testBit_or, Bool.or_eq_true] at hi
          rcases hi with hi | hi
          · exact .inr hi
          · rw [Nat.testBit_two_pow] at hi; simp at hi; exact .inl hi.symm
        refine ⟨s2 ||| 2 ^ k, Nat.or_lt_two_pow a2 (Nat.pow_lt_pow_right (by omega) (by omega)), fun i hi => ?_, ⟨fun i hi hs => ?_, fun i j hi hij h1 h2 => ?_⟩, ?_⟩
        · rw [Nat.testBit_or, b2 i (by omega), Nat.testBit_two_pow]; simp; omega
        · rcases hbit i hs with rfl | hs'
          · exact dj_and.1 hd
          · have hik : k + 1 ≤ i := by
              by_cases e : i = k
              · subst e; rw [b2 i (by omega)] at hs'; cases hs'
              · omega
            exact (dj_or.1 (c2.1 i hik hs')).1
        · rcases hbit j h2 with rfl | hj
          · omega
          · have hjk : k + 1 ≤ j := by omega
            rcases hbit i h1 with rfl | hi'
            · exact dj_comm (dj_or.1 (c2.1 j hjk hj)).2
            · have hik : k + 1 ≤ i := by
                by_cases e : i = k
                · subst e; rw [b2 i (by omega)] at hi'; cases hi'
                · omega
              exact c2.2 i j hik hij hi' hj
        · rw [or_all ⟨s2, hs2⟩ ⟨k, hk7⟩ (b2 k (by omega)), d2]; omega
      · exact ⟨s1, a1, fun i hi => b1 i (by omega), keep b1 c1, by rw [d1]; omega⟩
    · rw [if_neg hd]
      exact ⟨s1, a1, fun i hi => b1 i (by omega), keep b1 c1, d1⟩
/-- How many of a set are near a node, of the nodes below m. -/
def nrB (d : Nat → Nat → Int) (far : Int) (s v : Nat) : Nat → Nat
  | 0 => 0
  | m + 1 => nrB d far s v m + (if s.testBit m = true ∧ 0 ≤ d v m ∧ d v m ≤ far then 1 else 0)
/-- Whether at each node below v at most one of the set is near. -/
def fnB (d : Nat → Nat → Int) (far : Int) (s n : Nat) : Nat → Bool
  | 0 => true
  | v + 1 => fnB d far s n v && decide (nrB d far s v n ≤ 1)
def pkB (d : Nat → Nat → Int) (far : Int) (n : Nat) : Nat → Nat
  | 0 => 0
  | S + 1 => if fnB d far S n n = true then max (pkB d far n S) (bc 7 S) else pkB d far n S
theorem fnB_iff {d : Nat → Nat → Int} {far : Int} {s n : Nat} : ∀ m, fnB d far s n m = true ↔ ∀ v, v < m → nrB d far s v n ≤ 1
  | 0 => by simp [fnB]
  | m + 1 => by
    simp only [fnB, Bool.and_eq_true, fnB_iff m, decide_eq_true_eq]
    constructor
    · rintro ⟨h1, h2⟩ v hv
      by_cases e : v = m
      · subst e; exact h2
      · exact h1 v (by omega)
    · intro h
      exact ⟨fun v hv => h v (by omega), h m (by omega)⟩
theorem le_pkB {d : Nat → Nat → Int} {far : Int} {n : Nat} : ∀ {S s : Nat}, s < S → fnB d far s n n = true → bc 7 s ≤ pkB d far n S
  | 0, s, h, _ => by omega
  | S + 1, s, h, hf => by
    simp only [pkB]
    by_cases e : s = S
    · subst e; rw [if_pos hf]; omega
    · have := le_pkB (d := d) (far := far) (n := n) (show s < S by omega) hf
      split <;> omega
theorem pkB_le {d : Nat → Nat → Int} {far : Int} {n c : Nat} : ∀ S, (∀ s, s < S → fnB d far s n n = true → bc 7 s ≤ c) → pkB d far n S ≤ c
  | 0, _ => Nat.zero_le _
  | S + 1, h => by
    have ih := pkB_le (d := d) (far := far) (n := n) S fun s hs => h s (by omega)
    simp only [pkB]
    split
    · rename_i hf
      have := h S (by omega) hf
      omega
    · exact ih
theorem nrB_none {d : Nat → Nat → Int} {far : Int} {s v : Nat} : ∀ {m}, (∀ i, i < m → ¬ (s.testBit i = true ∧ 0 ≤ d v i ∧ d v i ≤ far)) → nrB d far s v m = 0
  | 0, _ => rfl
  | m + 1, h => by simp only [nrB]; rw [nrB_none (fun i hi => h i (by omega)), if_neg (h m (by omega))]
theorem nrB_one {d : Nat → Nat → Int} {far : Int} {s v : Nat} : ∀ {m}, (∀ i k, i < k → k < m → (s.testBit i = true ∧ 0 ≤ d v i ∧ d v i ≤ far) → ¬ (s.testBit k = true ∧ 0 ≤ d v k ∧ d v k ≤ far)) → nrB d far s v m ≤ 1
  | 0, _ => by simp [nrB]
  | m + 1, h => by
    have ih := nrB_one (d := d) (far := far) (s := s) (v := v) (m := m) (fun i k hi hk => h i k hi (by omega))
    simp only [nrB]
    by_cases e : s.testBit m = true ∧ 0 ≤ d v m ∧ d v m ≤ far
    · rw [nrB_none (fun i hi h' => h i m hi (by omega) h' e), if_pos e]; omega
    · rw [if_neg e]; omega
theorem nrB_mono {d : Nat → Nat → Int} {far : Int} {s v i : Nat} (h : s.testBit i = true ∧ 0 ≤ d v i ∧ d v i ≤ far) : ∀ {m}, i < m → 1 ≤ nrB d far s v m
  | 0, hi => by omega
  | m + 1, hi => by
    simp only [nrB]
    by_cases e : i = m
    · subst e; rw [if_pos h]; omega
    · have := nrB_mono h (m := m) (by omega); omega
theorem nrB_two {d : Nat → Nat → Int} {far : Int} {s v i k : Nat} (h : s.testBit i = true ∧ 0 ≤ d v i ∧ d v i ≤ far) (hk : s.testBit k = true ∧ 0 ≤ d v k ∧ d v k ≤ far) (hik : i < k) : ∀ {m}, k < m → 2 ≤ nrB d far s v m
  | 0, hm => by omega
  | m + 1, hm => by
    simp only [nrB]
    by_cases e : k = m
    · subst e; rw [if_pos hk]; have := nrB_mono h (m := k) hik; omega
    · have := nrB_two h hk hik (m := m) (by omega); omega
/-- A set is fine just if the nodes near its nodes are apart. -/
theorem fine_iff {d : Nat → Nat → Int} {far : Int} {n s : Nat} {N : Nat → Nat} (hs : s < 2 ^ n) (hd : ∀ v i, v < n → i < n → 0 ≤ d v i) (hN : ∀ i, i < n → ∀ v, (N i).testBit v = true ↔ v < n ∧ d v i ≤ far) :
    fnB d far s n n = true ↔ FineN N s 0 0 := by
  have hlt : ∀ i, s.testBit i = true → i < n := fun i hi => by
    rcases Nat.lt_or_ge i n with h | h
    · exact h
    · have := Nat.ge_two_pow_of_testBit hi
      have := Nat.pow_le_pow_right (show 2 > 0 by omega) h
      omega
  rw [fnB_iff]
  constructor
  · intro h
    refine ⟨fun i _ _ v ⟨_, h2⟩ => by simp at h2, fun i j _ hij h1 h2 v ⟨h3, h4⟩ => ?_⟩
    obtain ⟨hv, h5⟩ := (hN i (hlt i h1) v).1 h3
    obtain ⟨_, h6⟩ := (hN j (hlt j h2) v).1 h4
    have := h v hv
    have := nrB_two (d := d) (far := far) (v := v) ⟨h1, hd v i hv (hlt i h1), h5⟩ ⟨h2, hd v j hv (hlt j h2), h6⟩ hij (m := n) (hlt j h2)
    omega
  · rintro ⟨_, h⟩ v hv
    refine nrB_one fun i k hik hk ⟨h1, _, h3⟩ ⟨h4, _, h6⟩ => ?_
    exact h i k (by omega) hik h1 h4 v ⟨(hN i (by omega) v).2 ⟨hv, h3⟩, (hN k hk v).2 ⟨hv, h6⟩⟩
theorem mw_pkB {d : Nat → Nat → Int} {far : Int} {n : Nat} {N : Nat → Nat} (h7 : n ≤ 7) (hd : ∀ v i, v < n → i < n → 0 ≤ d v i) (hN : ∀ i, i < n → ∀ v, (N i).testBit v = true ↔ v < n ∧ d v i ≤ far) : mw N n 0 0 = pkB d far n (2 ^ n) := by
  apply Nat.le_antisymm
  · obtain ⟨s, h1, _, h2, h3⟩ := mw_at N h7 n 0 0 (by omega)
    rw [← h3]
    exact le_pkB h1 ((fine_iff h1 hd hN).2 h2)
  · refine pkB_le _ fun s hs hf => ?_
    rw [← cn_bc h7 hs]
    exact mw_ge N s n 0 0 ((fine_iff hs hd hN).1 hf)
end Go.Proofs.Ytoohfipicmdohac
namespace Go.Proofs.Ytoohfipicmdohac
open Go.ChangeShapes Go.WideShapes Go.ChangeAt Go.RowKit
set_option linter.unusedVariables false

/-- The roads as the cells hold them. -/
def flat : List (Int × Int) → List Int
  | [] => []
  | p :: r => p.1 :: p.2 :: flat r
theorem flat_len : ∀ ts, (flat ts).length = ts.length * 2
  | [] => rfl
  | p :: r => by simp only [flat, List.length_cons, flat_len r]; omega
theorem flat_to : ∀ (ts : List (Int × Int)) k, k < ts.length → (flat ts).getD (k * 2) 0 = (ts.getD k (-1, 0)).1
  | [], k, h => by simp at h
  | p :: r, 0, h => rfl
  | p :: r, k + 1, h => by
    rw [show (k + 1) * 2 = k * 2 + 1 + 1 by omega]
    simp only [flat, List.getD_cons_succ]
    exact flat_to r k (by simpa using h)
theorem flat_long : ∀ (ts : List (Int × Int)) k, k < ts.length → (flat ts).getD (k * 2 + 1) 0 = (ts.getD k (-1, 0)).2
  | [], k, h => by simp at h
  | p :: r, 0, h => rfl
  | p :: r, k + 1, h => by
    rw [show (k + 1) * 2 + 1 = k * 2 + 1 + 1 + 1 by omega]
    simp only [flat, List.getD_cons_succ]
    exact flat_long r k (by simpa using h)
theorem flat_append : ∀ a b, flat (a ++ b) = flat a ++ flat b
  | [], b => rfl
  | p :: r, b => by simp [flat, flat_append r b]
theorem flat_set0 : ∀ (ts : List (Int × Int)) (k : Nat) {d : Int}, k < ts.length → flat (ts.set k (d, (ts.getD k (-1, 0)).2)) = (flat ts).set (k * 2) d
  | [], k, _, h => by simp at h
  | p :: r, 0, _, h => rfl
  | p :: r, k + 1, d, h => by
    rw [show (k + 1) * 2 = k * 2 + 1 + 1 by omega]
    simp only [List.set_cons_succ, flat, List.getD_cons_succ]
    rw [flat_set0 r k (by simpa using h)]
theorem flat_set1 : ∀ (ts : List (Int × Int)) (k : Nat) {d : Int}, k < ts.length → flat (ts.set k ((ts.getD k (-1, 0)).1, d)) = (flat ts).set (k * 2 + 1) d
  | [], k, _, h => by simp at h
  | p :: r, 0, _, h => rfl
  | p :: r, k + 1, d, h => by
    rw [show (k + 1) * 2 + 1 = k * 2 + 1 + 1 + 1 by omega]
    simp only [List.set_cons_succ, flat, List.getD_cons_succ]
    rw [flat_set1 r k (by simpa using h)]
/-- The slice with address A reads as the roads ts, below block B. -/
def RdR (w : World) (B : Nat) (A : Option Addr) (ts : List (Int × Int)) : Prop := RdI w B A (flat ts)
theorem RdR.x {w : World} {B : Nat} {A : Option Addr} {ts : List (Int × Int)} (h : RdR w B A ts) {k : Nat} (hk : k < ts.length) :
    ∃ b off x y, A = some ⟨b, off, none⟩ ∧ b < B ∧ Hid (ts.getD k (-1, 0) = (x, y)) ∧ w.cell? ⟨b, off + k * 2, none⟩ = some (.int .i64 x) ∧ w.cell? ⟨b, off + k * 2 + 1, none⟩ = some (.int .i64 y) := by
  have hl := flat_len ts
  obtain ⟨b, off, e, hb, hc⟩ := h (by omega)
  refine ⟨b, off, (ts.getD k (-1, 0)).1, (ts.getD k (-1, 0)).2, e, hb, rfl, ?_, ?_⟩
  · rw [hc _ (by omega), flat_to _ _ hk]
  · rw [Nat.add_assoc, hc _ (by omega), flat_long _ _ hk]
theorem RdR.keep {w w' : World} {B : Nat} {A : Option Addr} {ts : List (Int × Int)} (h : RdR w B A ts) (hk : ∀ p : Addr, p.block < B → w'.cell? p = w.cell? p) : RdR w' B A ts := RdI.keep h hk
theorem RdR.below {w w' : World} {B : Nat} {A : Option Addr} {ts : List (Int × Int)} (h : RdR w B A ts) (hb : Below B w w') : RdR w' B A ts := RdI.below h hb
theorem RdR.more {w : World} {B B' : Nat} {A : Option Addr} {ts : List (Int × Int)} (h : RdR w B A ts) (hB : B ≤ B') : RdR w B' A ts := RdI.more h hB
theorem RdR.drewN {w : World} {B : Nat} {A : Option Addr} {ts : List (Int × Int)} (h : RdR w B A ts) (n : Nat) : RdR (w.drewN n) B A ts := h
theorem RdR.nil (w : World) (B : Nat) (A : Option Addr) : RdR w B A [] := RdI.nil w B A
/-- A slice cut at its front. -/
theorem flat_drop : ∀ (ts : List (Int × Int)) k, flat (ts.drop k) = (flat ts).drop (k * 2)
  | [], k => by simp [flat]
  | p :: r, 0 => by simp
  | p :: r, k + 1 => by
    rw [List.drop_succ_cons, flat_drop r k, show (k + 1) * 2 = k * 2 + 1 + 1 by omega]
    simp [flat]
theorem flat_take : ∀ (ts : List (Int × Int)) k, flat (ts.take k) = (flat ts).take (k * 2)
  | [], k => by simp [flat]
  | p :: r, 0 => by simp [flat]
  | p :: r, k + 1 => by
    rw [show (k + 1) * 2 = k * 2 + 1 + 1 by omega]
    simp [flat, flat_take r k]
theorem RdR.take {w : World} {B : Nat} {A : Option Addr} {ts : List (Int × Int)} (h : RdR w B A ts) (k : Nat) : RdR w B A (ts.take k) := by
  intro hp
  rw [flat_take] at hp ⊢
  rw [List.length_take] at hp
  obtain ⟨b, off, e, hb, hc⟩ := h (by omega)
  refine ⟨b, off, e, hb, fun i hi => ?_⟩
  rw [List.length_take] at hi
  rw [hc i (by omega)]
  congr 2
  simp only [List.getD, List.getElem?_take]
  rw [if_pos (by omega)]

/-- One road of a node: to a node ahead, its length in 1..9. -/
def okRoad (i : Nat) (p : Int × Int) : Bool := decide (0 ≤ p.1) && (decide (p.1 < i) && (decide (1 ≤ p.2) && decide (p.2 ≤ 9)))
def okFromT : Nat → List (Int × Int) → Bool
  | _, [] => true
  | i, p :: r => okRoad i p && okFromT (i + 1) r
/-- ValidTree. -/
def vt (ts : List (Int × Int)) : Bool := decide (ts.length ≤ 7) && (match ts with | [] => false | p :: r => (decide (p.1 = -1) && decide (p.2 = 0)) && okFromT 1 r)
theorem okFromT_get : ∀ {r : List (Int × Int)} {i : Nat}, okFromT i r = true → ∀ k, k < r.length → okRoad (i + k) (r.getD k (-1, 0)) = true
  | [], _, _, k, hk => by simp at hk
  | p :: r, i, h, 0, hk => by simp only [okFromT, Bool.and_eq_true] at h; exact h.1
  | p :: r, i, h, k + 1, hk => by
    simp only [okFromT, Bool.and_eq_true] at h
    have := okFromT_get h.2 k (by simpa using hk)
    rw [show i + 1 + k = i + (k + 1) by omega] at this
    exact this
theorem okFromT_of : ∀ {r : List (Int × Int)} {i : Nat}, (∀ k, k < r.length → okRoad (i + k) (r.getD k (-1, 0)) = true) → okFromT i r = true
  | [], _, _ => rfl
  | p :: r, i, h => by
    simp only [okFromT, Bool.and_eq_true]
    refine ⟨h 0 (by simp), okFromT_of fun k hk => ?_⟩
    have := h (k + 1) (by simpa using hk)
    rw [show i + (k + 1) = i + 1 + k by omega] at this
    exact this
theorem vt_iff (ts : List (Int × Int)) : vt ts = true ↔ 1 ≤ ts.length ∧ ts.length ≤ 7 ∧ (ts.getD 0 (-1, 0)).1 = -1 ∧ (ts.getD 0 (-1, 0)).2 = 0 ∧ ∀ k, 1 ≤ k → k < ts.length → okRoad k (ts.getD k (-1, 0)) = true := by
  cases ts with
  | nil => simp [vt]
  | cons p r =>
    simp only [vt, Bool.and_eq_true, decide_eq_true_eq, List.length_cons, List.getD_cons_zero]
    constructor
    · rintro ⟨h1, ⟨h2, h3⟩, h4⟩
      refine ⟨by omega, h1, h2, h3, fun k hk hl => ?_⟩
      obtain ⟨m, rfl⟩ : ∃ m, k = m + 1 := ⟨k - 1, by omega⟩
      have := okFromT_get h4 m (by omega)
      rw [show 1 + m = m + 1 by omega] at this
      simpa using this
    · rintro ⟨h0, h1, h2, h3, h4⟩
      refine ⟨h1, ⟨h2, h3⟩, okFromT_of fun k hk => ?_⟩
      have := h4 (k + 1) (by omega) (by omega)
      rw [show 1 + k = k + 1 by omega]
      simpa using this
theorem vt_ahead {ts : List (Int × Int)} (h : vt ts = true) : Ahead ts := by
  obtain ⟨h1, h2, h3, h4, h5⟩ := (vt_iff ts).1 h
  intro i hi hl
  have := h5 i hi hl
  simp only [okRoad, Bool.and_eq_true, decide_eq_true_eq] at this
  unfold tto tlg
  omega
theorem vt_to {ts : List (Int × Int)} (h : vt ts = true) {i : Nat} (hi : 1 ≤ i) (hl : i < ts.length) : (ts.getD i (-1, 0)).1 = tto ts i := by
  obtain ⟨h1, h2, h3, h4, h5⟩ := (vt_iff ts).1 h
  have := h5 i hi hl
  simp only [okRoad, Bool.and_eq_true, decide_eq_true_eq] at this
  unfold tto
  omega
/-- Fewer nodes are a tree. -/
theorem vt_take {ts : List (Int × Int)} (h : vt ts = true) {k : Nat} (hk : 1 ≤ k) : vt (ts.take k) = true := by
  obtain ⟨h1, h2, h3, h4, h5⟩ := (vt_iff ts).1 h
  have hg : ∀ i, i < k → (ts.take k).getD i (-1, 0) = ts.getD i (-1, 0) := fun i hi => by
    simp only [List.getD, List.getElem?_take]; rw [if_pos hi]
  rw [vt_iff]
  rw [List.length_take, hg 0 (by omega)]
  refine ⟨by omega, by omega, h3, h4, fun i hi hl => ?_⟩
  rw [hg i (by omega)]
  exact h5 i hi (by omega)
theorem vt_no_len {ts : List (Int × Int)} (h : ts.length < 1 ∨ 7 < ts.length) : vt ts = false := by
  rw [Bool.eq_false_iff]; intro h'
  obtain ⟨h1, h2, -⟩ := (vt_iff ts).1 h'
  omega
theorem vt_no_head {ts : List (Int × Int)} {x y : Int} (hx : ts.getD 0 (-1, 0) = (x, y)) (h : x ≠ -1 ∨ y ≠ 0) : vt ts = false := by
  rw [Bool.eq_false_iff]; intro h'
  obtain ⟨h1, h2, h3, h4, -⟩ := (vt_iff ts).1 h'
  rw [hx] at h3 h4
  simp only at h3 h4
  omega
theorem vt_no_at {ts : List (Int × Int)} {k : Nat} {x y : Int} (hk : 1 ≤ k) (hl : k < ts.length) (hx : ts.getD k (-1, 0) = (x, y)) (h : x < 0 ∨ (k : Int) ≤ x ∨ y < 1 ∨ 9 < y) : vt ts = false := by
  rw [Bool.eq_false_iff]; intro h'
  obtain ⟨h1, h2, h3, h4, h5⟩ := (vt_iff ts).1 h'
  have := h5 k hk hl
  rw [hx] at this
  simp only [okRoad, Bool.and_eq_true, decide_eq_true_eq] at this
  omega
/-- So far, all roads are fine. -/
def OkT (ts : List (Int × Int)) (k : Nat) : Prop := ∀ i, 1 ≤ i → i < k → okRoad i (ts.getD i (-1, 0)) = true
theorem OkT.step {ts : List (Int × Int)} {k : Nat} {x y : Int} (h : OkT ts k) (hx : ts.getD k (-1, 0) = (x, y)) (h1 : 0 ≤ x) (h2 : x < k) (h3 : 1 ≤ y) (h4 : y ≤ 9) : OkT ts (k + 1) := fun i hi hl => by
  by_cases e : i = k
  · subst e; rw [hx]; simp [okRoad, h1, h2, h3, h4]
  · exact h i hi (by omega)
theorem OkT.one (ts : List (Int × Int)) : OkT ts 1 := fun i h1 h2 => by omega
theorem OkT.step0 {ts : List (Int × Int)} (h : OkT ts 0) : OkT ts 1 := OkT.one ts
theorem vt_yes {ts : List (Int × Int)} {k : Nat} (h : OkT ts k) (h1 : 1 ≤ ts.length) (h7 : ts.length ≤ 7) (hk : ts.length ≤ k) (h0 : ts.getD 0 (-1, 0) = (-1, 0)) : vt ts = true :=
  (vt_iff ts).2 ⟨h1, h7, by rw [h0], by rw [h0], fun i hi hl => h i hi (by omega)⟩
end Go.Proofs.Ytoohfipicmdohac
namespace Go.Proofs.Ytoohfipicmdohac
open Go.RowKit
set_option linter.unusedVariables false

def inn (far x : Int) (zs bs : List Int) : Nat → Int
  | 0 => 1
  | j + 1 => if 2 * far < x - zs.getD j 0 then max (inn far x zs bs j) (bs.getD j 0 + 1) else inn far x zs bs j
def bests (far : Int) (zs : List Int) : Nat → List Int
  | 0 => []
  | i + 1 => bests far zs i ++ [inn far (zs.getD i 0) zs (bests far zs i) i]
def topp (far : Int) (zs : List Int) : Nat → Int
  | 0 => 0
  | i + 1 => max (topp far zs i) (inn far (zs.getD i 0) zs (bests far zs i) i)
def mapart (zs : List Int) (far : Int) : Int := if vh zs = true ∧ vfar far = true then topp far zs zs.length else -1
theorem mapart_no {zs : List Int} {far : Int} (h : vh zs = false) : mapart zs far = -1 := by simp [mapart, h]
theorem mapart_no' {zs : List Int} {far : Int} (h : vfar far = false) : mapart zs far = -1 := by simp [mapart, h]
theorem mapart_yes {zs : List Int} {far : Int} (h : vh zs = true) (h' : vfar far = true) : mapart zs far = topp far zs zs.length := by simp [mapart, h, h']
theorem bests_length (far : Int) (zs : List Int) : ∀ i, (bests far zs i).length = i
  | 0 => rfl
  | i + 1 => by simp [bests, bests_length far zs i]
theorem inn_bd {far x : Int} {zs bs : List Int} : ∀ {j : Nat}, (∀ i, i < j → bs.getD i 0 ≤ i + 1) → 1 ≤ inn far x zs bs j ∧ inn far x zs bs j ≤ j + 1
  | 0, _ => by simp [inn]
  | j + 1, h => by
    have ih := inn_bd (far := far) (x := x) (zs := zs) (bs := bs) (j := j) (fun i hi => h i (by omega))
    have hj := h j (by omega)
    simp only [inn]
    split <;> omega
theorem bests_bd {far : Int} {zs : List Int} : ∀ {i : Nat}, ∀ j, j < i → 1 ≤ (bests far zs i).getD j 0 ∧ (bests far zs i).getD j 0 ≤ j + 1
  | 0, j, h => by omega
  | i + 1, j, h => by
    have hl := bests_length far zs i
    rcases Nat.lt_or_ge j i with hj | hj
    · have e : (bests far zs (i + 1)).getD j 0 = (bests far zs i).getD j 0 := by
        simp only [bests, List.getD_eq_getElem?_getD]
        rw [List.getElem?_append_left (by omega)]
      rw [e]
      exact bests_bd j hj
    · obtain rfl : j = i := by omega
      have e : (bests far zs (j + 1)).getD j 0 = inn far (zs.getD j 0) zs (bests far zs j) j := by
        simp only [bests, List.getD_eq_getElem?_getD]
        rw [List.getElem?_append_right (by omega), hl, Nat.sub_self]; rfl
      rw [e]
      exact inn_bd (fun i hi => (bests_bd i hi).2)
theorem topp_bd {far : Int} {zs : List Int} : ∀ i, 0 ≤ topp far zs i ∧ topp far zs i ≤ i
  | 0 => by simp [topp]
  | i + 1 => by
    have ih := topp_bd (far := far) (zs := zs) i
    have := inn_bd (far := far) (x := zs.getD i 0) (zs := zs) (bs := bests far zs i) (j := i) (fun j hj => (bests_bd j hj).2)
    simp only [topp]
    omega
theorem inn_yes {far x y v t : Int} {zs bs : List Int} {j : Nat} (hy : zs.getD j 0 = y) (hb : bs.getD j 0 = v) (ht : inn far x zs bs j = t) (h : 2 * far < x - y) : inn far x zs bs (j + 1) = max t (v + 1) := by
  subst hy hb ht
  simp only [inn, h, if_true]
theorem inn_no {far x y t : Int} {zs bs : List Int} {j : Nat} (hy : zs.getD j 0 = y) (ht : inn far x zs bs j = t) (h : ¬ 2 * far < x - y) : inn far x zs bs (j + 1) = t := by
  subst hy ht
  simp only [inn, h, if_false]

/-- The cells of the table: the numbers so far, the one at work, and zeros. -/
def rowc (pre : List Int) (u : Int) (m : Nat) : List Value := (pre ++ u :: List.replicate m 0).map (Value.int .i64)
theorem rowc_zero (pre : List Int) (m : Nat) : rowc pre 0 m = (pre ++ List.replicate (m + 1) 0).map (Value.int .i64) := rfl
theorem rowc_set (pre : List Int) (u v : Int) (m : Nat) : (rowc pre u m).set pre.length (.int .i64 v) = rowc pre v m := by
  unfold rowc
  rw [List.map_append, List.map_append, List.set_append_right _ _ (by simp)]
  simp
theorem rowc_next (pre : List Int) (u : Int) (m : Nat) : rowc pre u (m + 1) = rowc (pre ++ [u]) 0 m := by
  unfold rowc
  rw [List.append_assoc]; rfl
theorem rowc_at (pre : List Int) (u : Int) (m : Nat) : (rowc pre u m)[pre.length]? = some (.int .i64 u) := by simp [rowc]
theorem rowc_lt (pre : List Int) (u : Int) (m : Nat) {j : Nat} (hj : j < pre.length) : (rowc pre u m)[j]? = some (.int .i64 (pre.getD j 0)) := by
  simp [rowc, List.getElem?_append_left, hj]
end Go.Proofs.Ytoohfipicmdohac
namespace Go.Proofs.Ytoohfipicmdohac
open Go.ChangeShapes Go.WideShapes Go.ChangeAt Go.RowKit
set_option linter.unusedVariables false
set_option maxRecDepth 4000

def gapL (a b : Int) : Int := if a ≤ b then b - a else a - b
theorem gapL_symm (a b : Int) : gapL a b = gapL b a := by unfold gapL; split <;> split <;> omega
/-- Homes in a row, each one's road to the one ahead of it. -/
theorem dn_lineL {t : List (Int × Int)} {xs : List Int} {n : Nat} (h : ∀ i, 1 ≤ i → i < n → tto t i = i - 1 ∧ tlg t i = xs.getD i 0 - xs.getD (i - 1) 0) (hs : ∀ i j, i ≤ j → j < n → xs.getD i 0 ≤ xs.getD j 0) :
    ∀ m, m ≤ n → ∀ i k, i < m → k < m → dn t m i k = gapL (xs.getD i 0) (xs.getD k 0)
  | 0, _, _, _, h, _ => by omega
  | m + 1, hm, i, k, hi, hk => by
    have hz : ∀ a : Int, gapL a a = 0 := fun a => by simp [gapL]
    have key : ∀ k, k < m → dn t (m + 1) m k = gapL (xs.getD m 0) (xs.getD k 0) := fun k hk => by
      obtain ⟨h1, h2⟩ := h m (by omega) (by omega)
      rw [dn_new hk, h1, h2, dn_lineL h hs m (by omega) (m - 1) k (by omega) hk]
      have h3 := hs (m - 1) m (by omega) (by omega)
      have h4 := hs k (m - 1) (by omega) (by omega)
      generalize xs.getD m 0 = a at *
      generalize xs.getD (m - 1) 0 = b at *
      generalize xs.getD k 0 = c at *
      unfold gapL
      split <;> split <;> omega
    by_cases h1 : i = m
    · subst h1
      by_cases h2 : k = i
      · subst h2; rw [dn_diag t (k + 1) k (by omega), hz]
      · exact key k (by omega)
    · by_cases h2 : k = m
      · subst h2
        rw [dn_symm, key i (by omega), gapL_symm]
      · rw [dn_old (by omega) (by omega)]
        exact dn_lineL h hs m (by omega) i k (by omega) (by omega)

/-- A set of nodes below n that are apart, none of them past b. -/
def ApS (xs : List Int) (far : Int) (n : Nat) (b : Int) (s : Nat) : Prop :=
  s < 2 ^ n ∧ (∀ i, s.testBit i = true → xs.getD i 0 ≤ b) ∧ ∀ i k, i < k → s.testBit i = true → s.testBit k = true → 2 * far < xs.getD k 0 - xs.getD i 0
theorem apS_zero (xs : List Int) (far : Int) (n : Nat) (b : Int) : ApS xs far n b 0 :=
  ⟨Nat.two_pow_pos n, fun i h => by simp at h, fun i k _ h => by simp at h⟩
theorem bitL_lt {s n i : Nat} (h : s < 2 ^ n) (hi : s.testBit i = true) : i < n := by
  rcases Nat.lt_or_ge i n with h' | h'
  · exact h'
  · have := Nat.ge_two_pow_of_testBit hi
    have := Nat.pow_le_pow_right (show 2 > 0 by omega) h'
    omega
theorem apS_add {xs : List Int} {far : Int} {n : Nat} {x y : Int} {s p : Nat} (h7 : n ≤ 7) (hf : 0 ≤ far) (hinc : ∀ i k, i < k → k < n → xs.getD i 0 < xs.getD k 0) (h : ApS xs far n y s) (hy : 2 * far < x - y) (hp : p < n) (hx : xs.getD p 0 = x) :
    ApS xs far n x (s ||| 2 ^ p) ∧ bc 7 (s ||| 2 ^ p) = bc 7 s + 1 := by
  obtain ⟨h1, h2, h3⟩ := h
  have hb : ∀ i, (s ||| 2 ^ p).testBit i = true ↔ s.testBit i = true ∨ p = i := fun i => by
    rw [Nat.testBit_or, Nat.testBit_two_pow]; simp
  have hnp : s.testBit p = false := by
    cases e : s.testBit p with
    | false => rfl
    | true => have := h2 p e; omega
  refine ⟨⟨Nat.or_lt_two_pow h1 (Nat.pow_lt_pow_right (by omega) hp), fun i hi => ?_, fun i k hik hi hk => ?_⟩, ?_⟩
  · rcases (hb i).1 hi with e | e
    · have := h2 i e; omega
    · subst e; omega
  · rcases (hb i).1 hi with e | e
    · rcases (hb k).1 hk with e' | e'
      · exact h3 i k hik e e'
      · subst e'; have := h2 i e; omega
    · rcases (hb k).1 hk with e' | e'
      · subst e
        have := h2 k e'
        have := hinc p k hik (bitL_lt h1 e')
        omega
      · omega
  · exact or_all ⟨s, pow_128 h7 h1⟩ ⟨p, by omega⟩ hnp
theorem inn_set {xs zs bs : List Int} {far x : Int} {n : Nat} (h7 : n ≤ 7) (hf : 0 ≤ far) (hinc : ∀ i k, i < k → k < n → xs.getD i 0 < xs.getD k 0) {p : Nat} (hp : p < n) (hx : xs.getD p 0 = x) :
    ∀ m, (∀ j, j < m → ∃ s, ApS xs far n (zs.getD j 0) s ∧ bs.getD j 0 ≤ (bc 7 s : Int)) → ∃ s, ApS xs far n x s ∧ inn far x zs bs m ≤ (bc 7 s : Int)
  | 0, _ => by
    obtain ⟨h1, h2⟩ := apS_add h7 hf hinc (apS_zero xs far n (x - 2 * far - 1)) (by omega) hp hx
    refine ⟨_, h1, ?_⟩
    rw [h2]; simp only [inn]; omega
  | m + 1, h => by
    obtain ⟨s1, a1, b1⟩ := inn_set h7 hf hinc hp hx m fun j hj => h j (by omega)
    simp only [inn]
    by_cases e : 2 * far < x - zs.getD m 0
    · rw [if_pos e]
      obtain ⟨s2, a2, b2⟩ := h m (by omega)
      obtain ⟨a3, b3⟩ := apS_add h7 hf hinc a2 e hp hx
      rcases Int.le_total (inn far x zs bs m) (bs.getD m 0 + 1) with hle | hle
      · exact ⟨_, a3, by rw [b3]; omega⟩
      · exact ⟨_, a1, by omega⟩
    · rw [if_neg e]; exact ⟨_, a1, b1⟩
theorem bests_set {xs zs : List Int} {far : Int} {n : Nat} (h7 : n ≤ 7) (hf : 0 ≤ far) (hinc : ∀ i k, i < k → k < n → xs.getD i 0 < xs.getD k 0) :
    ∀ i, (∀ j, j < i → ∃ p, p < n ∧ xs.getD p 0 = zs.getD j 0) → ∀ j, j < i → ∃ s, ApS xs far n (zs.getD j 0) s ∧ (bests far zs i).getD j 0 ≤ (bc 7 s : Int)
  | 0, _, j, hj => by omega
  | i + 1, h, j, hj => by
    have ih := bests_set h7 hf hinc i fun j hj => h j (by omega)
    have hl := bests_length far zs i
    rcases Nat.lt_or_ge j i with h' | h'
    · have e : (bests far zs (i + 1)).getD j 0 = (bests far zs i).getD j 0 := by
        simp only [bests, List.getD_eq_getElem?_getD]
        rw [List.getElem?_append_left (by omega)]
      rw [e]
      exact ih j h'
    · obtain rfl : j = i := by omega
      have e : (bests far zs (j + 1)).getD j 0 = inn far (zs.getD j 0) zs (bests far zs j) j := by
        simp only [bests, List.getD_eq_getElem?_getD]
        rw [List.getElem?_append_right (by omega), hl, Nat.sub_self]; rfl
      rw [e]
      obtain ⟨p, hp, hx⟩ := h j (by omega)
      exact inn_set h7 hf hinc hp hx j ih
theorem topp_set {xs zs : List Int} {far : Int} {n : Nat} (h7 : n ≤ 7) (hf : 0 ≤ far) (hinc : ∀ i k, i < k → k < n → xs.getD i 0 < xs.getD k 0) :
    ∀ i, (∀ j, j < i → ∃ p, p < n ∧ xs.getD p 0 = zs.getD j 0) → ∃ s b, ApS xs far n b s ∧ topp far zs i ≤ (bc 7 s : Int)
  | 0, _ => ⟨0, 0, apS_zero _ _ _ _, by simp only [topp]; omega⟩
  | i + 1, h => by
    obtain ⟨s1, b1, a1, c1⟩ := topp_set h7 hf hinc i fun j hj => h j (by omega)
    obtain ⟨p, hp, hx⟩ := h i (by omega)
    obtain ⟨s2, a2, c2⟩ := inn_set h7 hf hinc hp hx i (bests_set h7 hf hinc i fun j hj => h j (by omega))
    simp only [topp]
    rcases Int.le_total (topp far zs i) (inn far (zs.getD i 0) zs (bests far zs i) i) with hle | hle
    · exact ⟨s2, _, a2, by omega⟩
    · exact ⟨s1, _, a1, by omega⟩

/-- The tree of the homes ahead of place k. -/
def LineT (zs : List Int) (k : Nat) (ts : List (Int × Int)) (last : Int) : Prop :=
  ∃ xs : List Int, ts.length = xs.length ∧ 1 ≤ xs.length ∧ xs.getD (xs.length - 1) 0 = last ∧ ts.getD 0 (-1, 0) = (-1, 0) ∧
    (∀ i, 1 ≤ i → i < xs.length → ts.getD i (-1, 0) = ((i : Int) - 1, xs.getD i 0 - xs.getD (i - 1) 0) ∧ 1 ≤ xs.getD i 0 - xs.getD (i - 1) 0 ∧ xs.getD i 0 - xs.getD (i - 1) 0 ≤ 9) ∧
    (∀ j, j < k → ∃ p, p < xs.length ∧ xs.getD p 0 = zs.getD j 0) ∧ (∀ j, j < k → zs.getD j 0 ≤ last) ∧ last = zs.getD (k - 1) 0 ∧ (xs.length : Int) = diffc zs k
theorem lineT_start {zs : List Int} : LineT zs 1 [(-1, 0)] (zs.getD 0 0) := by
  refine ⟨[zs.getD 0 0], rfl, by simp, rfl, rfl, fun i h1 h2 => by simp at h2; omega, fun j hj => ⟨0, by simp, ?_⟩, fun j hj => ?_, rfl, ?_⟩
  · obtain rfl : j = 0 := by omega
    rfl
  · obtain rfl : j = 0 := by omega
    exact Int.le_refl _
  · simp [diffc, hasB]
theorem getD_snoc_old {α : Type} {l : List α} {x d : α} {i : Nat} (h : i < l.length) : (l ++ [x]).getD i d = l.getD i d := by
  simp only [List.getD_eq_getElem?_getD]; rw [List.getElem?_append_left h]
theorem getD_snoc_new {α : Type} {l : List α} {x d : α} {i : Nat} (h : i = l.length) : (l ++ [x]).getD i d = x := by
  subst h; simp [List.getD_eq_getElem?_getD]
theorem take_all_le {zs : List Int} {k : Nat} {b : Int} (hk : k ≤ zs.length) (h : ∀ j, j < k → zs.getD j 0 ≤ b) : ∀ y ∈ zs.take k, y ≤ b := by
  intro y hy
  obtain ⟨i, hi, e⟩ := List.mem_iff_getElem.1 hy
  rw [List.length_take] at hi
  have := h i (by omega)
  rw [List.getD_eq_getElem?_getD, List.getElem?_eq_getElem (by omega)] at this
  rw [List.getElem_take] at e
  simp at this
  omega
theorem lineT_same {zs : List Int} {k : Nat} {ts : List (Int × Int)} {last x : Int} (h : LineT zs k ts last) (hk1 : 1 ≤ k) (hk : k < zs.length) (hx : zs.getD k 0 = x) (hs : last ≤ x) (hl : ¬ last < x) : LineT zs (k + 1) ts last := by
  obtain ⟨xs, e1, e2, e3, e4, e5, e6, e7, e8, e9⟩ := h
  have hxl : x = last := by omega
  have hin : hasB (zs.take k) x = true := by
    unfold hasB
    rw [List.contains_iff_mem, hxl, e8]
    have : zs.getD (k - 1) 0 = (zs.take k)[k - 1]'(by rw [List.length_take]; omega) := by
      rw [List.getElem_take, List.getD_eq_getElem?_getD, List.getElem?_eq_getElem (by omega)]; rfl
    rw [this]
    exact List.getElem_mem _
  refine ⟨xs, e1, e2, e3, e4, e5, fun j hj => ?_, fun j hj => ?_, ?_, ?_⟩
  · by_cases e : j = k
    · subst e; exact ⟨xs.length - 1, by omega, by rw [e3, hx, hxl]⟩
    · exact e6 j (by omega)
  · by_cases e : j = k
    · subst e; omega
    · exact e7 j (by omega)
  · rw [Nat.add_sub_cancel, hx, hxl]
  · rw [diffc_yes hx hin]; exact e9
theorem lineT_next {zs : List Int} {k : Nat} {ts : List (Int × Int)} {last x : Int} (h : LineT zs k ts last) (hk1 : 1 ≤ k) (hk : k < zs.length) (hx : zs.getD k 0 = x) (hl : last < x) (h9 : x - last ≤ 9) : LineT zs (k + 1) (ts ++ [((ts.length : Int) - 1, x - last)]) x := by
  obtain ⟨xs, e1, e2, e3, e4, e5, e6, e7, e8, e9⟩ := h
  have hin : hasB (zs.take k) x = false := by
    unfold hasB
    have := take_all_le (Nat.le_of_lt hk) e7
    cases e : (zs.take k).contains x with
    | false => rfl
    | true => rw [List.contains_iff_mem] at e; have := this x e; omega
  have hd : (xs ++ [x]).getD (xs.length) 0 = x := getD_snoc_new rfl
  refine ⟨xs ++ [x], by simp [e1], by simp, by simp, by rw [getD_snoc_old (by omega)]; exact e4, fun i h1 h2 => ?_, fun j hj => ?_, fun j hj => ?_, ?_, ?_⟩
  · rw [List.length_append, List.length_singleton] at h2
    by_cases e : i = xs.length
    · subst e
      rw [getD_snoc_new e1.symm, hd, getD_snoc_old (by omega), e3, e1]
      exact ⟨rfl, by omega, h9⟩
    · rw [getD_snoc_old (by omega), getD_snoc_old (by omega), getD_snoc_old (by omega)]
      exact e5 i h1 (by omega)
  · rw [List.length_append, List.length_singleton]
    by_cases e : j = k
    · subst e; exact ⟨xs.length, by omega, by rw [hd, hx]⟩
    · obtain ⟨p, hp, hq⟩ := e6 j (by omega)
      exact ⟨p, by omega, by rw [getD_snoc_old hp]; exact hq⟩
  · by_cases e : j = k
    · subst e; omega
    · have := e7 j (by omega); omega
  · rw [Nat.add_sub_cancel, hx]
  · rw [diffc_no hx hin, List.length_append, List.length_singleton]; omega
theorem diffc_mono {zs : List Int} {a b : Nat} (h : a ≤ b) : diffc zs a ≤ diffc zs b := by
  induction h with
  | refl => exact Int.le_refl _
  | step _ ih => simp only [diffc]; split <;> omega
theorem lineT_len {zs : List Int} {k : Nat} {ts : List (Int × Int)} {last : Int} (h : LineT zs k ts last) : 1 ≤ ts.length ∧ (ts.length : Int) = diffc zs k := by
  obtain ⟨xs, e1, e2, -, -, -, -, -, -, e9⟩ := h
  exact ⟨by omega, by rw [e1]; exact e9⟩
theorem lineT_last {zs : List Int} {k : Nat} {ts : List (Int × Int)} {last : Int} (h : LineT zs k ts last) : last = zs.getD (k - 1) 0 := by
  obtain ⟨xs, -, -, -, -, -, -, -, e8, -⟩ := h
  exact e8
theorem lineT_vt {zs : List Int} {k : Nat} {ts : List (Int × Int)} {last : Int} (h : LineT zs k ts last) (h7 : diffc zs k ≤ 7) : vt ts = true := by
  obtain ⟨xs, e1, e2, e3, e4, e5, e6, e7, e8, e9⟩ := h
  refine (vt_iff ts).2 ⟨by omega, by omega, by rw [e4], by rw [e4], fun i h1 h2 => ?_⟩
  obtain ⟨a, b, c⟩ := e5 i h1 (by omega)
  rw [a]
  simp only [okRoad, Bool.and_eq_true, decide_eq_true_eq]
  omega
theorem line_pk {zs : List Int} {ts : List (Int × Int)} {last far : Int} (h : LineT zs zs.length ts last) (h7 : diffc zs zs.length ≤ 7) (hf : 0 ≤ far) :
    topp far zs zs.length ≤ (pkB (dn ts ts.length) far ts.length (2 ^ ts.length) : Int) := by
  obtain ⟨xs, e1, e2, e3, e4, e5, e6, e7, e8, e9⟩ := h
  have hinc : ∀ d i, i + d + 1 < xs.length → xs.getD i 0 < xs.getD (i + d + 1) 0 := by
    intro d
    induction d with
    | zero => intro i hi; have := (e5 (i + 1) (by omega) (by omega)).2.1; rw [Nat.add_sub_cancel] at this; show _ < xs.getD (i + 1) 0; omega
    | succ d ih =>
      intro i hi
      have h1 := ih i (by omega)
      have h2 := (e5 (i + (d + 1) + 1) (by omega) (by omega)).2.1
      rw [Nat.add_sub_cancel] at h2
      have : xs.getD (i + (d + 1)) 0 = xs.getD (i + d + 1) 0 := rfl
      omega
  have hinc' : ∀ i k, i < k → k < xs.length → xs.getD i 0 < xs.getD k 0 := fun i k hik hk => by
    have := hinc (k - i - 1) i (by omega)
    rwa [show i + (k - i - 1) + 1 = k by omega] at this
  rw [e1]
  obtain ⟨s, b, ⟨a1, a2, a3⟩, hc⟩ := topp_set (zs := zs) (by omega) hf hinc' zs.length e6
  refine Int.le_trans hc (Int.ofNat_le.2 (le_pkB a1 ?_))
  have hdn := dn_lineL (t := ts) (xs := xs) (n := xs.length) (fun i h1 h2 => by
    obtain ⟨a, -, -⟩ := e5 i h1 h2
    unfold tto tlg
    rw [a]
    exact ⟨by show ((i : Int) - 1).toNat = i - 1; omega, rfl⟩) (fun i j hij hj => by
      rcases Nat.lt_or_ge i j with h' | h'
      · exact Int.le_of_lt (hinc' i j h' hj)
      · obtain rfl : i = j := by omega
        exact Int.le_refl _) xs.length (Nat.le_refl _)
  rw [fnB_iff]
  intro v hv
  refine nrB_one fun i k hik hk ⟨h1, _, h3⟩ ⟨h4, _, h6⟩ => ?_
  have := a3 i k hik h1 h4
  rw [hdn v i hv (by omega)] at h3
  rw [hdn v k hv hk] at h6
  unfold gapL at h3 h6
  split at h3 <;> split at h6 <;> omega
/-- Valid homes go up. -/
theorem ok_step {zs : List Int} : ∀ {a : Int} {k : Nat}, okFrom a zs = true → k + 1 < zs.length → zs.getD k 0 ≤ zs.getD (k + 1) 0 := by
  induction zs with
  | nil => intro a k _ h; simp at h
  | cons y r ih =>
    intro a k h hk
    simp only [okFrom, Bool.and_eq_true, decide_eq_true_eq] at h
    cases k with
    | zero =>
      cases r with
      | nil => simp at hk
      | cons z q =>
        have h2 := h.2.2
        simp only [okFrom, Bool.and_eq_true, decide_eq_true_eq] at h2
        simp
        omega
    | succ k =>
      simp only [List.getD_cons_succ]
      exact ih h.2.2 (by simpa using hk)
end Go.Proofs.Ytoohfipicmdohac
