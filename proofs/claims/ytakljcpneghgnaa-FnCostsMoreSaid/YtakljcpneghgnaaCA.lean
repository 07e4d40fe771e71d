/-
  Costs as mathematics: the least sum of all orders of the helpers, by sets from the front, and from behind; turned costs, and one more in a row.
  Conditions: at most six calls, costs from 0 to 50.
-/
import Derived.Test.YtakljcpneghgnaaT8
namespace Go.Proofs.Ytakljcpneghgnaa
set_option linter.unusedVariables false
set_option maxRecDepth 4000

/-- A sum of the first n. -/
def smC (f : Nat → Int) : Nat → Int
  | 0 => 0
  | n + 1 => smC f n + f n
theorem smC_congr {f g : Nat → Int} : ∀ {n}, (∀ i, i < n → f i = g i) → smC f n = smC g n
  | 0, _ => rfl
  | n + 1, h => by simp only [smC]; rw [smC_congr fun i hi => h i (by omega), h n (by omega)]
theorem smC_add (f g : Nat → Int) : ∀ n, smC (fun i => f i + g i) n = smC f n + smC g n
  | 0 => rfl
  | n + 1 => by simp only [smC]; rw [smC_add f g n]; omega
theorem smC_zero : ∀ {f : Nat → Int} {n}, (∀ i, i < n → f i = 0) → smC f n = 0
  | f, 0, _ => rfl
  | f, n + 1, h => by simp only [smC]; rw [smC_zero fun i hi => h i (by omega), h n (by omega)]; rfl
theorem smC_one {x : Nat → Int} {a : Nat} : ∀ {n}, a < n → smC (fun h => if a = h then x h else 0) n = x a
  | 0, h => by omega
  | n + 1, h => by
    simp only [smC]
    by_cases e : a = n
    · subst e
      rw [smC_zero fun i hi => if_neg (by omega), if_pos rfl]; omega
    · rw [smC_one (x := x) (n := n) (by omega), if_neg e]; omega
theorem smC_swap (g : Nat → Nat → Int) (m : Nat) : ∀ n, smC (fun i => smC (fun h => g i h) m) n = smC (fun h => smC (fun i => g i h) n) m
  | 0 => (smC_zero fun i _ => rfl).symm
  | n + 1 => by
    simp only [smC]
    rw [smC_swap g m n, smC_add]
theorem smC_le {f g : Nat → Int} : ∀ {n}, (∀ i, i < n → f i ≤ g i) → smC f n ≤ smC g n
  | 0, _ => Int.le_refl _
  | n + 1, h => by
    have := smC_le (f := f) (g := g) (n := n) fun i hi => h i (by omega)
    have := h n (by omega)
    simp only [smC]; omega
theorem smC_ones : ∀ n, smC (fun _ => 1) n = n
  | 0 => rfl
  | n + 1 => by simp only [smC]; rw [smC_ones n]; omega

/-- The sum of the first k calls' costs, call i by helper g i. -/
def sgC (C : Nat → Nat → Int) (g : Nat → Nat) (k : Nat) : Int := smC (fun i => C i (g i)) k
theorem sgC_succ (C : Nat → Nat → Int) (g : Nat → Nat) (k : Nat) : sgC C g (k + 1) = sgC C g k + C k (g k) := rfl
/-- All helpers of the first k calls are different. -/
def DifC (g : Nat → Nat) (k : Nat) : Prop := ∀ i j, i < j → j < k → g i ≠ g j
/-- An order of all helpers. -/
def PermC (n : Nat) (g : Nat → Nat) : Prop := (∀ i, i < n → g i < n) ∧ DifC g n
/-- The least sum of all orders. -/
def IsMn (C : Nat → Nat → Int) (n : Nat) (v : Int) : Prop := (∃ g, PermC n g ∧ v = sgC C g n) ∧ ∀ g, PermC n g → v ≤ sgC C g n
theorem IsMn.one {C : Nat → Nat → Int} {n : Nat} {v v' : Int} (h : IsMn C n v) (h' : IsMn C n v') : v = v' := by
  obtain ⟨⟨g, hg, e⟩, hl⟩ := h
  obtain ⟨⟨g', hg', e'⟩, hl'⟩ := h'
  have := hl g' hg'
  have := hl' g hg
  omega
theorem IsMn.same {C C' : Nat → Nat → Int} {n : Nat} {v : Int} (h : IsMn C n v) (hc : ∀ i j, i < n → j < n → C i j = C' i j) : IsMn C' n v := by
  have e : ∀ g, PermC n g → sgC C g n = sgC C' g n := fun g hg => smC_congr fun i hi => hc i (g i) hi (hg.1 i hi)
  obtain ⟨⟨g, hg, e1⟩, hl⟩ := h
  exact ⟨⟨g, hg, by rw [e1, e g hg]⟩, fun g' hg' => by rw [← e g' hg']; exact hl g' hg'⟩
/-- Each helper has a call. -/
theorem perm_all {n : Nat} {g : Nat → Nat} (h : PermC n g) (a : Nat) (ha : a < n) : ∃ i, i < n ∧ g i = a := by
  apply Classical.byContradiction
  intro hno
  have hno' : ∀ i, i < n → ¬ g i = a := fun i hi e => hno ⟨i, hi, e⟩
  have h1 : smC (fun i => smC (fun k => if g i = k then 1 else 0) n) n = n := by
    rw [smC_congr (g := fun _ => 1) fun i hi => smC_one (x := fun _ => 1) (h.1 i hi)]
    exact smC_ones n
  rw [smC_swap] at h1
  have h2 : smC (fun k => smC (fun i => if g i = k then (1 : Int) else 0) n) n ≤ smC (fun k => 1 + (if a = k then -1 else 0)) n := smC_le fun k hk => by
    by_cases e : a = k
    · subst e
      rw [if_pos rfl, smC_zero fun i hi => if_neg (hno' i hi)]; decide
    · rw [if_neg e]
      by_cases hi : ∃ i, i < n ∧ g i = k
      · obtain ⟨i, hi, hik⟩ := hi
        rw [smC_congr (g := fun j => if i = j then (1 : Int) else 0) fun j hj => by
          by_cases e2 : i = j
          · subst e2; rw [if_pos hik, if_pos rfl]
          · rw [if_neg e2, if_neg fun hjk => by
              rcases Nat.lt_or_gt_of_ne e2 with hlt | hlt
              · exact h.2 i j hlt hj (by rw [hik, hjk])
              · exact h.2 j i hlt hi (by rw [hik, hjk])]]
        rw [smC_one (x := fun _ => 1) hi]; decide
      · rw [smC_zero fun i hi2 => if_neg fun e3 => hi ⟨i, hi2, e3⟩]; decide
  rw [smC_add, smC_ones, smC_one (x := fun _ => -1) ha] at h2
  omega
/-- Costs turned: an order of the calls for an order of the helpers. -/
theorem perm_turn {C : Nat → Nat → Int} {n : Nat} {g : Nat → Nat} (h : PermC n g) : ∃ t, PermC n t ∧ sgC (fun i j => C j i) t n = sgC C g n := by
  have h0 : ∀ a, ∃ i, a < n → i < n ∧ g i = a := fun a => by
    by_cases ha : a < n
    · obtain ⟨i, hi⟩ := perm_all h a ha
      exact ⟨i, fun _ => hi⟩
    · exact ⟨0, fun h => absurd h ha⟩
  obtain ⟨t, ht⟩ := Classical.axiomOfChoice h0
  have hback : ∀ i, i < n → t (g i) = i := fun i hi => by
    obtain ⟨h1, h2⟩ := ht (g i) (h.1 i hi)
    by_cases e : t (g i) = i
    · exact e
    · rcases Nat.lt_or_gt_of_ne e with hlt | hlt
      · exact absurd h2 (h.2 _ _ hlt hi)
      · exact absurd h2.symm (h.2 _ _ hlt h1)
  refine ⟨t, ⟨fun a ha => (ht a ha).1, fun a b hab hb e => ?_⟩, ?_⟩
  · have h1 := (ht a (by omega)).2
    have h2 := (ht b hb).2
    rw [e, h2] at h1
    omega
  · have e1 : sgC C g n = smC (fun i => smC (fun a => if g i = a then C i a else 0) n) n := (smC_congr fun i hi => smC_one (x := fun a => C i a) (h.1 i hi)).symm
    rw [e1, smC_swap]
    refine smC_congr fun a ha => ?_
    rw [smC_congr (g := fun i => if t a = i then C i a else 0) fun i hi => by
      by_cases e : g i = a
      · rw [if_pos e, if_pos (by rw [← e]; exact hback i hi)]
      · rw [if_neg e, if_neg fun e2 => e (by rw [← e2]; exact (ht a ha).2)]]
    exact (smC_one (x := fun i => C i a) (ht a ha).1).symm
theorem IsMn.turn {C : Nat → Nat → Int} {n : Nat} {v : Int} (h : IsMn C n v) : IsMn (fun i j => C j i) n v := by
  obtain ⟨⟨g, hg, e⟩, hl⟩ := h
  obtain ⟨t, ht, et⟩ := perm_turn (C := C) hg
  refine ⟨⟨t, ht, by rw [et, e]⟩, fun g' hg' => ?_⟩
  obtain ⟨t', ht', et'⟩ := perm_turn (C := fun i j => C j i) hg'
  rw [← et']
  exact hl t' ht'
/-- One more in the first row. -/
theorem IsMn.more {C C' : Nat → Nat → Int} {n : Nat} {v : Int} (h : IsMn C n v) (hn : 1 ≤ n) (hc : ∀ i j, i < n → j < n → C' i j = C i j + (if 0 = i then 1 else 0)) : IsMn C' n (v + 1) := by
  have e : ∀ g, PermC n g → sgC C' g n = sgC C g n + 1 := fun g hg => by
    unfold sgC
    rw [smC_congr (g := fun i => C i (g i) + (if 0 = i then 1 else 0)) fun i hi => hc i (g i) hi (hg.1 i hi), smC_add, smC_one (x := fun _ => 1) (show 0 < n by omega)]
  obtain ⟨⟨g, hg, e1⟩, hl⟩ := h
  exact ⟨⟨g, hg, by rw [e1, e g hg]⟩, fun g' hg' => by rw [e g' hg']; have := hl g' hg'; omega⟩

/-- The least of those that P lets in, 351 for none. -/
def mnC (f : Nat → Int) (P : Nat → Bool) : Nat → Int
  | 0 => 351
  | h + 1 => if P h = true then min (mnC f P h) (f h) else mnC f P h
theorem mnC_le {f : Nat → Int} {P : Nat → Bool} : ∀ {m h : Nat}, h < m → P h = true → mnC f P m ≤ f h
  | 0, h, hm, _ => by omega
  | m + 1, h, hm, hp => by
    simp only [mnC]
    by_cases e : h = m
    · subst e; rw [if_pos hp]; omega
    · have := mnC_le (f := f) (P := P) (m := m) (h := h) (by omega) hp
      split <;> omega
theorem mnC_mem (f : Nat → Int) (P : Nat → Bool) : ∀ m, mnC f P m = 351 ∨ ∃ h, h < m ∧ P h = true ∧ mnC f P m = f h
  | 0 => .inl rfl
  | m + 1 => by
    simp only [mnC]
    by_cases hp : P m = true
    · rw [if_pos hp]
      by_cases hl : mnC f P m ≤ f m
      · rw [Int.min_eq_left hl]
        rcases mnC_mem f P m with h | ⟨h, h1, h2, h3⟩
        · exact .inl h
        · exact .inr ⟨h, by omega, h2, h3⟩
      · rw [Int.min_eq_right (by omega)]
        exact .inr ⟨m, by omega, hp, rfl⟩
    · rw [if_neg hp]
      rcases mnC_mem f P m with h | ⟨h, h1, h2, h3⟩
      · exact .inl h
      · exact .inr ⟨h, by omega, h2, h3⟩
theorem mnC_bd {f : Nat → Int} {P : Nat → Bool} : ∀ {m : Nat}, (∀ h, h < m → P h = true → 0 ≤ f h) → 0 ≤ mnC f P m ∧ mnC f P m ≤ 351
  | 0, _ => by simp [mnC]
  | m + 1, hf => by
    have ih := mnC_bd (f := f) (P := P) (m := m) fun h hh => hf h (by omega)
    simp only [mnC]
    by_cases hp : P m = true
    · have := hf m (by omega) hp
      rw [if_pos hp]; omega
    · rw [if_neg hp]; exact ih
theorem mnC_yes {f : Nat → Int} {P : Nat → Bool} {m : Nat} {a x : Int} (hp : P m = true) (ha : mnC f P m = a) (hx : f m = x) : mnC f P (m + 1) = min a x := by simp only [mnC]; rw [if_pos hp, ha, hx]
theorem mnC_no {f : Nat → Int} {P : Nat → Bool} {m : Nat} {a : Int} (hp : P m = false) (ha : mnC f P m = a) : mnC f P (m + 1) = a := by simp only [mnC]; rw [if_neg (by rw [hp]; decide), ha]

theorem subC_all : ∀ S : Fin 128, ∀ h : Fin 7, S.val.testBit h.val = true → (∀ j : Fin 7, (S.val - 2 ^ h.val).testBit j.val = (S.val.testBit j.val && decide (j.val ≠ h.val))) ∧ bc 7 (S.val - 2 ^ h.val) + 1 = bc 7 S.val ∧ 2 ^ h.val ≤ S.val := by decide +kernel
theorem addC_all : ∀ S : Fin 128, ∀ h : Fin 7, S.val.testBit h.val = false → (∀ j : Fin 7, (S.val + 2 ^ h.val).testBit j.val = (S.val.testBit j.val || decide (j.val = h.val))) ∧ bc 7 (S.val + 2 ^ h.val) = bc 7 S.val + 1 ∧ S.val + 2 ^ h.val < 128 := by decide +kernel
theorem someC_all : ∀ S : Fin 128, 0 < bc 7 S.val → ∃ h : Fin 7, S.val.testBit h.val = true := by decide +kernel
theorem noneC_all : ∀ n : Fin 8, ∀ S : Fin 128, S.val < 2 ^ n.val → bc 7 S.val < n.val → ∃ h : Fin 7, h.val < n.val ∧ S.val.testBit h.val = false := by decide +kernel
theorem fullC_all : ∀ n : Fin 8, bc 7 (2 ^ n.val - 1) = n.val ∧ ∀ h : Fin 7, (2 ^ n.val - 1).testBit h.val = decide (h.val < n.val) := by decide +kernel
theorem bitC_lt {S n h : Nat} (hS : S < 2 ^ n) (hb : S.testBit h = true) : h < n := by
  apply Classical.byContradiction
  intro hn
  rw [Nat.testBit_lt_two_pow (Nat.lt_of_lt_of_le hS (Nat.pow_le_pow_right (by omega) (by omega)))] at hb
  cases hb

/-- The least sum of the first k calls, each by another helper of a set. -/
def bsC (C : Nat → Nat → Int) (n : Nat) : Nat → Nat → Int
  | 0, _ => 0
  | k + 1, S => mnC (fun h => bsC C n k (S - 2 ^ h) + C k h) (fun h => S.testBit h) n
def BdC (C : Nat → Nat → Int) (n : Nat) : Prop := ∀ i j, i < n → j < n → 0 ≤ C i j ∧ C i j ≤ 50
theorem bsC_le {C : Nat → Nat → Int} {n : Nat} (hn : n ≤ 7) : ∀ (k S : Nat) (g : Nat → Nat), S < 128 → (∀ i, i < k → g i < n ∧ S.testBit (g i) = true) → DifC g k → bsC C n k S ≤ sgC C g k
  | 0, S, g, _, _, _ => Int.le_refl _
  | k + 1, S, g, hS, hg, hd => by
    obtain ⟨h1, h2⟩ := hg k (by omega)
    obtain ⟨f1, f2, f3⟩ := subC_all ⟨S, hS⟩ ⟨g k, by omega⟩ h2
    simp only at f1 f2 f3
    have ih := bsC_le (C := C) hn k (S - 2 ^ (g k)) g (Nat.lt_of_le_of_lt (Nat.sub_le _ _) hS) (fun i hi => by
      obtain ⟨a, b⟩ := hg i (by omega)
      refine ⟨a, ?_⟩
      rw [f1 ⟨g i, by omega⟩, b]
      simpa using hd i k (by omega) (by omega)) (fun i j hij hj => hd i j hij (by omega))
    have h3 := mnC_le (f := fun h => bsC C n k (S - 2 ^ h) + C k h) (P := fun h => S.testBit h) h1 h2
    rw [sgC_succ]
    simp only [bsC]
    try simp only at h3
    omega
theorem bsC_mem {C : Nat → Nat → Int} {n : Nat} (hn : n ≤ 6) (hC : BdC C n) : ∀ (k S : Nat), k ≤ n → S < 2 ^ n → k ≤ bc 7 S → ∃ g, (∀ i, i < k → g i < n ∧ S.testBit (g i) = true) ∧ DifC g k ∧ bsC C n k S = sgC C g k ∧ bsC C n k S ≤ 50 * k
  | 0, S, _, _, _ => ⟨fun i => i, fun i hi => by omega, fun i j _ hj => by omega, rfl, by simp [bsC]⟩
  | k + 1, S, hk, hS, hb => by
    have hS7 : S < 128 := Nat.lt_of_lt_of_le hS (Nat.pow_le_pow_right (by omega) (by omega) : 2 ^ n ≤ 2 ^ 7)
    obtain ⟨⟨h0, h07⟩, hh0⟩ := someC_all ⟨S, hS7⟩ (by simp only; omega)
    simp only at hh0
    have h0n := bitC_lt hS hh0
    have hsub : ∀ h, h < n → S.testBit h = true → ∃ g, (∀ i, i < k → g i < n ∧ (S - 2 ^ h).testBit (g i) = true) ∧ DifC g k ∧ bsC C n k (S - 2 ^ h) = sgC C g k ∧ bsC C n k (S - 2 ^ h) ≤ 50 * k := fun h hh hbit => by
      obtain ⟨f1, f2, f3⟩ := subC_all ⟨S, hS7⟩ ⟨h, by omega⟩ hbit
      simp only at f2 f3
      exact bsC_mem hn hC k (S - 2 ^ h) (by omega) (Nat.lt_of_le_of_lt (Nat.sub_le _ _) hS) (by omega)
    obtain ⟨_, _, _, _, hb0⟩ := hsub h0 h0n hh0
    have hc0 := hC k h0 (by omega) h0n
    have hle := mnC_le (f := fun h => bsC C n k (S - 2 ^ h) + C k h) (P := fun h => S.testBit h) h0n hh0
    try simp only at hle
    rcases mnC_mem (fun h => bsC C n k (S - 2 ^ h) + C k h) (fun h => S.testBit h) n with e | ⟨h, hhn, hhb, e⟩
    · omega
    · obtain ⟨g, g1, g2, g3, g4⟩ := hsub h hhn hhb
      obtain ⟨f1, f2, f3⟩ := subC_all ⟨S, hS7⟩ ⟨h, by omega⟩ hhb
      simp only at f1
      have hck := hC k h (by omega) hhn
      have hgin : ∀ i, i < k → S.testBit (g i) = true ∧ g i ≠ h := fun i hi => by
        obtain ⟨a, b⟩ := g1 i hi
        rw [f1 ⟨g i, by omega⟩] at b
        simp only [Bool.and_eq_true, decide_eq_true_eq] at b
        exact b
      refine ⟨fun i => if i = k then h else g i, fun i hi => ?_, fun i j hij hj => ?_, ?_, ?_⟩
      · by_cases e2 : i = k
        · simp only [if_pos e2]; exact ⟨hhn, hhb⟩
        · simp only [if_neg e2]; exact ⟨(g1 i (by omega)).1, (hgin i (by omega)).1⟩
      · by_cases e2 : j = k
        · simp only [if_pos e2, if_neg (show ¬ i = k by omega)]
          exact (hgin i (by omega)).2
        · simp only [if_neg e2, if_neg (show ¬ i = k by omega)]
          exact g2 i j hij (by omega)
      · rw [sgC_succ]
        simp only [bsC]
        rw [e, g3, if_pos trivial]
        have : sgC C g k = sgC C (fun i => if i = k then h else g i) k := smC_congr fun i hi => by simp only [if_neg (show ¬ i = k by omega)]
        rw [this]
      · simp only [bsC]
        rw [e]; omega
theorem bsC_is {C : Nat → Nat → Int} {n : Nat} (hn : n ≤ 6) (hC : BdC C n) : IsMn C n (bsC C n n (2 ^ n - 1)) := by
  obtain ⟨f1, f2⟩ := fullC_all ⟨n, by omega⟩
  simp only at f1 f2
  have hp := Nat.two_pow_pos n
  have h128 : 2 ^ n ≤ 128 := (Nat.pow_le_pow_right (by omega) (by omega) : 2 ^ n ≤ 2 ^ 7)
  obtain ⟨g, g1, g2, g3, -⟩ := bsC_mem hn hC n (2 ^ n - 1) (Nat.le_refl _) (by omega) (by omega)
  refine ⟨⟨g, ⟨fun i hi => (g1 i hi).1, g2⟩, g3⟩, fun g' hg' => bsC_le (by omega) n _ g' (by omega) (fun i hi => ⟨hg'.1 i hi, ?_⟩) hg'.2⟩
  have := hg'.1 i hi
  rw [f2 ⟨g' i, by omega⟩]
  simpa using this
theorem bsC_bd {C : Nat → Nat → Int} {n : Nat} (hC : BdC C n) (hn : n ≤ 6) : ∀ (k S : Nat), k ≤ n → 0 ≤ bsC C n k S ∧ bsC C n k S ≤ 351
  | 0, S, _ => by simp [bsC]
  | k + 1, S, hk => mnC_bd fun h hh _ => by
    have := (bsC_bd hC hn k (S - 2 ^ h) (by omega)).1
    have := (hC k h (by omega) hh).1
    omega

/-- The sum of j calls' costs from call k on. -/
def sfC (C : Nat → Nat → Int) (g : Nat → Nat) : Nat → Nat → Int
  | _, 0 => 0
  | k, j + 1 => C k (g k) + sfC C g (k + 1) j
theorem sfC_sg (C : Nat → Nat → Int) (g : Nat → Nat) : ∀ (j k : Nat), sgC C g k + sfC C g k j = sgC C g (k + j)
  | 0, k => by simp [sfC]
  | j + 1, k => by
    have := sfC_sg C g j (k + 1)
    rw [sgC_succ] at this
    simp only [sfC]
    rw [show k + (j + 1) = k + 1 + j by omega, ← this]; omega
theorem sfC_congr {C : Nat → Nat → Int} {g g' : Nat → Nat} : ∀ {j k : Nat}, (∀ i, k ≤ i → i < k + j → g i = g' i) → sfC C g k j = sfC C g' k j
  | 0, k, _ => rfl
  | j + 1, k, h => by simp only [sfC]; rw [h k (by omega) (by omega), sfC_congr (j := j) (k := k + 1) fun i h1 h2 => h i (by omega) (by omega)]
/-- The least sum of the last j calls, each by another helper outside of a set. -/
def fwC (C : Nat → Nat → Int) (n : Nat) : Nat → Nat → Int
  | 0, _ => 0
  | j + 1, T => mnC (fun h => C (n - (j + 1)) h + fwC C n j (T + 2 ^ h)) (fun h => !T.testBit h) n
theorem fwC_le {C : Nat → Nat → Int} {n : Nat} (hn : n ≤ 7) : ∀ (j T : Nat) (g : Nat → Nat), j ≤ n → T < 128 → (∀ i, n - j ≤ i → i < n → g i < n ∧ T.testBit (g i) = false) → (∀ i i', n - j ≤ i → i < i' → i' < n → g i ≠ g i') → fwC C n j T ≤ sfC C g (n - j) j
  | 0, T, g, _, _, _, _ => Int.le_refl _
  | j + 1, T, g, hj, hT, hg, hd => by
    obtain ⟨h1, h2⟩ := hg (n - (j + 1)) (by omega) (by omega)
    obtain ⟨f1, f2, f3⟩ := addC_all ⟨T, hT⟩ ⟨g (n - (j + 1)), by omega⟩ h2
    simp only at f1 f2 f3
    have ih := fwC_le (C := C) hn j (T + 2 ^ (g (n - (j + 1)))) g (by omega) f3 (fun i hi1 hi2 => by
      obtain ⟨a, b⟩ := hg i (by omega) hi2
      refine ⟨a, ?_⟩
      rw [f1 ⟨g i, by omega⟩, b]
      simpa using fun e => hd (n - (j + 1)) i (by omega) (by omega) hi2 e.symm) (fun i i' hi1 hi2 hi3 => hd i i' (by omega) hi2 hi3)
    have h3 := mnC_le (f := fun h => C (n - (j + 1)) h + fwC C n j (T + 2 ^ h)) (P := fun h => !T.testBit h) h1 (by show (!_) = true; rw [h2]; rfl)
    simp only [fwC, sfC]
    try simp only at h3
    rw [show n - (j + 1) + 1 = n - j by omega]
    omega
theorem fwC_mem {C : Nat → Nat → Int} {n : Nat} (hn : n ≤ 6) (hC : BdC C n) : ∀ (j T : Nat), T < 2 ^ n → bc 7 T + j = n → ∃ g, (∀ i, n - j ≤ i → i < n → g i < n ∧ T.testBit (g i) = false) ∧ (∀ i i', n - j ≤ i → i < i' → i' < n → g i ≠ g i') ∧ fwC C n j T = sfC C g (n - j) j ∧ fwC C n j T ≤ 50 * j
  | 0, T, _, _ => ⟨fun i => i, fun i h1 h2 => by omega, fun i i' h1 h2 h3 => by omega, rfl, by simp [fwC]⟩
  | j + 1, T, hT, hb => by
    have hT7 : T < 128 := Nat.lt_of_lt_of_le hT (Nat.pow_le_pow_right (by omega) (by omega) : 2 ^ n ≤ 2 ^ 7)
    obtain ⟨⟨h0, h07⟩, h0n, hh0⟩ := noneC_all ⟨n, by omega⟩ ⟨T, hT7⟩ hT (by simp only; omega)
    simp only at h0n hh0
    have hadd : ∀ h, h < n → T.testBit h = false → ∃ g, (∀ i, n - j ≤ i → i < n → g i < n ∧ (T + 2 ^ h).testBit (g i) = false) ∧ (∀ i i', n - j ≤ i → i < i' → i' < n → g i ≠ g i') ∧ fwC C n j (T + 2 ^ h) = sfC C g (n - j) j ∧ fwC C n j (T + 2 ^ h) ≤ 50 * j := fun h hh hbit => by
      obtain ⟨f1, f2, f3⟩ := addC_all ⟨T, hT7⟩ ⟨h, by omega⟩ hbit
      simp only at f1 f2 f3
      refine fwC_mem hn hC j (T + 2 ^ h) ?_ (by omega)
      apply Nat.lt_pow_two_of_testBit
      intro i hi
      by_cases h7 : i < 7
      · rw [f1 ⟨i, h7⟩, Nat.testBit_lt_two_pow (Nat.lt_of_lt_of_le hT (Nat.pow_le_pow_right (by omega) hi))]
        simp only [Bool.false_or, decide_eq_false_iff_not]; omega
      · exact Nat.testBit_lt_two_pow (Nat.lt_of_lt_of_le f3 (Nat.pow_le_pow_right (by omega) (by omega) : 2 ^ 7 ≤ 2 ^ i))
    obtain ⟨_, _, _, _, hb0⟩ := hadd h0 h0n hh0
    have hc0 := hC (n - (j + 1)) h0 (by omega) h0n
    have hle := mnC_le (f := fun h => C (n - (j + 1)) h + fwC C n j (T + 2 ^ h)) (P := fun h => !T.testBit h) h0n (by show (!_) = true; rw [hh0]; rfl)
    try simp only at hle
    rcases mnC_mem (fun h => C (n - (j + 1)) h + fwC C n j (T + 2 ^ h)) (fun h => !T.testBit h) n with e | ⟨h, hhn, hhb, e⟩
    · omega
    · have hhb' : T.testBit h = false := by simpa using hhb
      obtain ⟨g, g1, g2, g3, g4⟩ := hadd h hhn hhb'
      obtain ⟨f1, f2, f3⟩ := addC_all ⟨T, hT7⟩ ⟨h, by omega⟩ hhb'
      simp only at f1
      have hck := hC (n - (j + 1)) h (by omega) hhn
      have hgin : ∀ i, n - j ≤ i → i < n → T.testBit (g i) = false ∧ g i ≠ h := fun i hi hi2 => by
        obtain ⟨a, b⟩ := g1 i hi hi2
        rw [f1 ⟨g i, by omega⟩] at b
        simp only [Bool.or_eq_false_iff, decide_eq_false_iff_not] at b
        exact b
      refine ⟨fun i => if i = n - (j + 1) then h else g i, fun i hi hi2 => ?_, fun i i' hi hii hi' => ?_, ?_, ?_⟩
      · by_cases e2 : i = n - (j + 1)
        · simp only [if_pos e2]; exact ⟨hhn, hhb'⟩
        · simp only [if_neg e2]; exact ⟨(g1 i (by omega) hi2).1, (hgin i (by omega) hi2).1⟩
      · by_cases e2 : i = n - (j + 1)
        · simp only [if_pos e2, if_neg (show ¬ i' = n - (j + 1) by omega)]
          exact fun e3 => (hgin i' (by omega) hi').2 e3.symm
        · simp only [if_neg e2, if_neg (show ¬ i' = n - (j + 1) by omega)]
          exact g2 i i' (by omega) hii hi'
      · simp only [fwC, sfC]
        rw [e, g3, if_pos trivial, show n - (j + 1) + 1 = n - j by omega]
        have : sfC C g (n - j) j = sfC C (fun i => if i = n - (j + 1) then h else g i) (n - j) j := sfC_congr fun i h1 h2 => by simp only [if_neg (show ¬ i = n - (j + 1) by omega)]
        rw [this]
      · simp only [fwC]
        rw [e]; omega
theorem fwC_is {C : Nat → Nat → Int} {n : Nat} (hn : n ≤ 6) (hC : BdC C n) : IsMn C n (fwC C n n 0) := by
  have hp := Nat.two_pow_pos n
  have hb0 : bc 7 0 = 0 := by decide
  obtain ⟨g, g1, g2, g3, -⟩ := fwC_mem hn hC n 0 hp (by omega)
  rw [Nat.sub_self] at g1 g2 g3
  have e : ∀ g, sfC C g 0 n = sgC C g n := fun g => by
    have := sfC_sg C g n 0
    rw [Nat.zero_add] at this
    rw [← this]; simp [sgC, smC]
  refine ⟨⟨g, ⟨fun i hi => (g1 i (by omega) hi).1, fun i j hij hj => g2 i j (by omega) hij hj⟩, by rw [g3, e]⟩, fun g' hg' => ?_⟩
  have := fwC_le (C := C) (by omega) n 0 g' (Nat.le_refl _) (by omega) (fun i _ hi => ⟨hg'.1 i hi, Nat.zero_testBit _⟩) (fun i i' _ hii hi' => hg'.2 i i' hii hi')
  rw [Nat.sub_self, e] at this
  exact this
theorem fwC_bs {C : Nat → Nat → Int} {n : Nat} (hn : n ≤ 6) (hC : BdC C n) : fwC C n n 0 = bsC C n n (2 ^ n - 1) := (fwC_is hn hC).one (bsC_is hn hC)
theorem fwC_bd {C : Nat → Nat → Int} {n : Nat} (hC : BdC C n) (hn : n ≤ 6) : ∀ (j T : Nat), j ≤ n → 0 ≤ fwC C n j T ∧ fwC C n j T ≤ 351
  | 0, T, _ => by simp [fwC]
  | j + 1, T, hk => mnC_bd fun h hh _ => by
    have := (fwC_bd hC hn j (T + 2 ^ h) (by omega)).1
    have := (hC (n - (j + 1)) h (by omega) hh).1
    omega
end Go.Proofs.Ytakljcpneghgnaa
