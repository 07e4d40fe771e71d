/-
  Nets: the table of shortest ways node by node, each one more a node in the middle.
  Conditions: as each theorem states.
-/
import Derived.Test.YtiblcmeoneolcaaB2
namespace Go.Proofs.Ytiblcmeoneolcaa
open Go.ChangeShapes Go.WideShapes Go.ChangeAt Go.RowKit
set_option linter.unusedVariables false

/-- The table with the first k streets alone. -/
structure Nb1 (ss : List Str) (n k : Nat) (X : Nat → Nat → Int) : Prop where
  zero : ∀ a, a < n → X a a = 0
  symm : ∀ a b, X a b = X b a
  way : ∀ a b, a < n → b < n → X a b = -1 ∨ (0 ≤ X a b ∧ Wk (SE ss) n a b (X a b))
  bd : ∀ a b, a < n → b < n → X a b ≤ 9
  cl : ∀ i, i < k → ∀ u v : Nat, (ss.getD i str0).1 = u → (ss.getD i str0).2.1 = v → 0 ≤ X u v ∧ X u v ≤ (ss.getD i str0).2.2
theorem nb1_start (ss : List Str) (n : Nat) : Nb1 ss n 0 ownX where
  zero a _ := by simp [ownX]
  symm a b := by unfold ownX; by_cases h : a = b <;> simp [h, eq_comm]
  way := (rlx_start ss n).way
  bd a b _ _ := by unfold ownX; split <;> omega
  cl i hi := by omega
theorem nb1_skip {ss : List Str} {n k u v : Nat} {L : Int} {X : Nat → Nat → Int} (h : Nb1 ss n k X) (hp : ss.getD k str0 = ((u : Int), (v : Int), L)) (hc : ¬ (X u v < 0 ∨ L < X u v)) : Nb1 ss n (k + 1) X :=
  ⟨h.zero, h.symm, h.way, h.bd, fun i hi u' v' h1 h2 => by
    by_cases e : i = k
    · subst e
      rw [hp] at h1 h2 ⊢
      simp only at h1 h2 ⊢
      have e1 : u' = u := by omega
      have e2 : v' = v := by omega
      subst e1 e2
      omega
    · exact h.cl i (by omega) u' v' h1 h2⟩
theorem nb1_step {ss : List Str} {n k u v : Nat} {L : Int} {X : Nat → Nat → Int} (h : Nb1 ss n k X) (hk : k < ss.length) (hp : ss.getD k str0 = ((u : Int), (v : Int), L)) (hu : u < n) (hv : v < n) (hL : 1 ≤ L ∧ L ≤ 9) (hc : X u v < 0 ∨ L < X u v) : Nb1 ss n (k + 1) (up2 (up2 X u v L) v u L) := by
  have hne : u ≠ v := fun e => by subst e; rw [h.zero u hu] at hc; omega
  have hmem : (((u : Int), (v : Int), L) : Str) ∈ ss := by rw [← hp]; exact getD_mem3 hk
  have e1 : ∀ a b, (a = u ∧ b = v) ∨ (a = v ∧ b = u) → up2 (up2 X u v L) v u L a b = L := fun a b h => by
    unfold up2
    rcases h with ⟨rfl, rfl⟩ | ⟨rfl, rfl⟩
    · rw [if_neg (fun e => hne e.1), if_pos ⟨rfl, rfl⟩]
    · rw [if_pos ⟨rfl, rfl⟩]
  have e2 : ∀ a b, ¬ ((a = u ∧ b = v) ∨ (a = v ∧ b = u)) → up2 (up2 X u v L) v u L a b = X a b := fun a b h => by
    unfold up2
    rw [if_neg (fun e => h (.inr e)), if_neg (fun e => h (.inl e))]
  refine ⟨fun a ha => ?_, fun a b => ?_, fun a b ha hb => ?_, fun a b ha hb => ?_, fun i hi u' v' h1 h2 => ?_⟩
  · rw [e2 a a (by omega)]; exact h.zero a ha
  · by_cases e : (a = u ∧ b = v) ∨ (a = v ∧ b = u)
    · rw [e1 a b e, e1 b a (by omega)]
    · rw [e2 a b e, e2 b a (by omega)]; exact h.symm a b
  · by_cases e : (a = u ∧ b = v) ∨ (a = v ∧ b = u)
    · rw [e1 a b e]
      refine .inr ⟨by omega, ?_⟩
      have := Wk.snoc a b 0 L (Wk.nil ha) (show SE ss a b L from ⟨_, hmem, rfl, by
        rcases e with ⟨rfl, rfl⟩ | ⟨rfl, rfl⟩
        · exact .inl ⟨rfl, rfl⟩
        · exact .inr ⟨rfl, rfl⟩⟩) hb
      rw [Int.zero_add] at this
      exact this
    · rw [e2 a b e]; exact h.way a b ha hb
  · by_cases e : (a = u ∧ b = v) ∨ (a = v ∧ b = u)
    · rw [e1 a b e]; exact hL.2
    · rw [e2 a b e]; exact h.bd a b ha hb
  · by_cases ei : i = k
    · subst ei
      rw [hp] at h1 h2 ⊢
      simp only at h1 h2 ⊢
      have e1' : u' = u := by omega
      have e2' : v' = v := by omega
      subst e1' e2'
      rw [e1 _ _ (.inl ⟨rfl, rfl⟩)]
      omega
    · have := h.cl i (by omega) u' v' h1 h2
      by_cases e : (u' = u ∧ v' = v) ∨ (u' = v ∧ v' = u)
      · rw [e1 _ _ e]
        have hX : X u' v' = X u v := by
          rcases e with ⟨rfl, rfl⟩ | ⟨rfl, rfl⟩
          · rfl
          · exact h.symm _ _
        omega
      · rw [e2 _ _ e]; exact this
/-- The table with the first m nodes in the middle. -/
structure Nb2 (ss : List Str) (n m : Nat) (X : Nat → Nat → Int) : Prop where
  zero : ∀ a, a < n → X a a = 0
  way : ∀ a b, a < n → b < n → X a b = -1 ∨ (0 ≤ X a b ∧ Wk (SE ss) n a b (X a b))
  bd : ∀ a b, a < n → b < n → X a b ≤ ((9 * 2 ^ m : Nat) : Int)
  cl : ∀ u v L, SE ss u v L → 0 ≤ X u v ∧ X u v ≤ L
  tri : ∀ a b c, a < n → b < n → c < m → big (X a b) ≤ big (X a c) + big (X c b)
theorem nb2_start {ss : List Str} {n : Nat} {X : Nat → Nat → Int} (h : Nb1 ss n ss.length X) : Nb2 ss n 0 X where
  zero := h.zero
  way := h.way
  bd a b ha hb := h.bd a b ha hb
  cl u v L he := by
    obtain ⟨p, hp, rfl, h1⟩ := he
    obtain ⟨i, hi, e⟩ := mem_getD3 hp
    rcases h1 with ⟨h1, h2⟩ | ⟨h1, h2⟩
    · have := h.cl i hi u v (by rw [e]; exact h1) (by rw [e]; exact h2)
      rw [e] at this; exact this
    · have := h.cl i hi v u (by rw [e]; exact h1) (by rw [e]; exact h2)
      rw [e, h.symm v u] at this; exact this
  tri a b c _ _ hc := by omega
/-- One node more in the middle. -/
def fwX (X : Nat → Nat → Int) (m i j : Nat) : Int := if 0 ≤ X i m ∧ 0 ≤ X m j ∧ (X i j < 0 ∨ X i m + X m j < X i j) then X i m + X m j else X i j
theorem fw_col {X : Nat → Nat → Int} {m : Nat} (h : X m m = 0) (i : Nat) : fwX X m i m = X i m := by
  unfold fwX
  rw [h, if_neg (by omega)]
theorem fw_row {X : Nat → Nat → Int} {m : Nat} (h : X m m = 0) (j : Nat) : fwX X m m j = X m j := by
  unfold fwX
  rw [h, if_neg (by omega)]
theorem pow_le_128 {m : Nat} (h : m ≤ 7) : 9 * 2 ^ m ≤ 1152 := by
  have := Nat.pow_le_pow_right (show 2 > 0 by omega) h
  omega
theorem Nb2.le {ss : List Str} {n m : Nat} {X : Nat → Nat → Int} (h : Nb2 ss n m X) (hm : m ≤ 7) {a b : Nat} (ha : a < n) (hb : b < n) : -1 ≤ X a b ∧ X a b ≤ 1152 := by
  have h1 := h.bd a b ha hb
  have h2 := pow_le_128 hm
  rcases h.way a b ha hb with h3 | ⟨h3, -⟩ <;> omega
theorem fw_big {x y z : Int} (h1 : -1 ≤ x) (h2 : -1 ≤ y) (h3 : -1 ≤ z) (h4 : x ≤ 1152) (h5 : y ≤ 1152) (h6 : z ≤ 1152) :
    big (if 0 ≤ y ∧ 0 ≤ z ∧ (x < 0 ∨ y + z < x) then y + z else x) = min (big x) (min 1000000 (big y + big z)) := by
  unfold big
  by_cases c : 0 ≤ y ∧ 0 ≤ z ∧ (x < 0 ∨ y + z < x)
  · rw [if_pos c, if_neg (show ¬ y + z < 0 by omega), if_neg (show ¬ y < 0 by omega), if_neg (show ¬ z < 0 by omega)]
    by_cases hx : x < 0
    · rw [if_pos hx]; omega
    · rw [if_neg hx]; omega
  · rw [if_neg c]
    by_cases hx : x < 0 <;> by_cases hy : y < 0 <;> by_cases hz : z < 0 <;> simp only [hx, hy, hz, if_true, if_false] <;> omega
theorem nb2_step {ss : List Str} {n m : Nat} {X : Nat → Nat → Int} (h : Nb2 ss n m X) (hm : m < n) (h7 : n ≤ 7) : Nb2 ss n (m + 1) (fwX X m) where
  zero a ha := by
    unfold fwX
    rw [h.zero a ha, if_neg (by omega)]
  way a b ha hb := by
    unfold fwX
    split
    · rename_i hc
      rcases h.way a m ha hm with h1 | ⟨h1, w1⟩
      · omega
      · rcases h.way m b hm hb with h2 | ⟨h2, w2⟩
        · omega
        · exact .inr ⟨by omega, w1.join w2⟩
    · exact h.way a b ha hb
  bd a b ha hb := by
    have h1 := h.bd a b ha hb
    have h2 := h.bd a m ha hm
    have h3 := h.bd m b hm hb
    have e : 9 * 2 ^ (m + 1) = 9 * 2 ^ m + 9 * 2 ^ m := by rw [Nat.pow_succ]; omega
    rw [e]
    unfold fwX
    split <;> omega
  cl u v L he := by
    have := h.cl u v L he
    unfold fwX
    split <;> omega
  tri := by
    refine middles_step (X := X) (Y := fwX X m) (fun a b ha hb => ?_) hm (h.zero m hm) (fun a b ha hb => ?_) h.tri
    · have := h.le (by omega) ha hb; omega
    · have h1 := h.le (by omega) ha hb
      have h2 := h.le (by omega) ha hm
      have h3 := h.le (by omega) hm hb
      exact fw_big h1.1 h2.1 h3.1 h1.2 h2.2 h3.2
theorem nb2_end {ss : List Str} {n : Nat} {X : Nat → Nat → Int} (hv : vnet n ss = true) (h7 : n ≤ 7) (h : Nb2 ss n n X) : Short (SE ss) n X where
  zero := h.zero
  step a u v L ha he hv' h0 := by
    have hu := (se_lt hv u v L he).1
    have h1 := h.cl u v L he
    have h2 := h.tri a v u ha hv' hu
    have h3 := h.le h7 ha hu
    have h4 := h.le h7 hu hv'
    have h5 := h.le h7 ha hv'
    unfold big at h2
    rw [if_neg (show ¬ X a u < 0 by omega), if_neg (show ¬ X u v < 0 by omega)] at h2
    split at h2 <;> omega
  way := h.way
/-- In the middle of a round. -/
def fwM (X : Nat → Nat → Int) (m a b : Nat) : Nat → Nat → Int := fun i j => if i < a ∨ (i = a ∧ j < b) then fwX X m i j else X i j
end Go.Proofs.Ytiblcmeoneolcaa
