/-
  The model's cover of a tree: the farthest node that has none near, climbed from as far as may be, till all have one.
  Conditions: none beyond what each theorem states.
-/
import Derived.Test.YtggpdlcompokoaaT1
import Derived.Test.YtggpdlcompokoaaN3
namespace Go.Proofs.Ytggpdlcompokoaa
open Go.ChangeShapes Go.WideShapes Go.ChangeAt Go.RowKit
set_option linter.unusedVariables false

/-- The farthest of the nodes below m that has none yet, the first one of them; -1 for none. -/
def fstC (dep : Nat → Int) (has : Nat → Bool) : Nat → Int
  | 0 => -1
  | m + 1 => if has m = false ∧ (fstC dep has m < 0 ∨ dep (fstC dep has m).toNat < dep m) then (m : Int) else fstC dep has m
theorem fstC_bd (dep : Nat → Int) (has : Nat → Bool) : ∀ m, -1 ≤ fstC dep has m ∧ fstC dep has m < m
  | 0 => by simp only [fstC]; omega
  | m + 1 => by have := fstC_bd dep has m; simp only [fstC]; split <;> omega
theorem fstC_none {dep : Nat → Int} {has : Nat → Bool} : ∀ {m}, fstC dep has m < 0 → ∀ i, i < m → has i = true
  | 0, _, i, h => by omega
  | m + 1, h, i, hi => by
    simp only [fstC] at h
    split at h
    · omega
    · rename_i hc
      by_cases e : i = m
      · subst e
        cases hh : has i with
        | true => rfl
        | false => exact absurd ⟨hh, .inl h⟩ hc
      · exact fstC_none h i (by omega)
theorem fstC_some {dep : Nat → Int} {has : Nat → Bool} : ∀ {m a : Nat}, fstC dep has m = a → a < m ∧ has a = false ∧ (∀ i, i < m → has i = false → dep i ≤ dep a) ∧ ∀ i, i < a → has i = false → dep i < dep a
  | 0, a, h => by simp only [fstC] at h; omega
  | m + 1, a, h => by
    simp only [fstC] at h
    split at h
    · rename_i hc
      obtain rfl : m = a := by omega
      have hall : ∀ i, i < m → has i = false → dep i < dep m := fun i hi hf => by
        rcases hc.2 with hn | hd
        · have := fstC_none hn i hi; rw [this] at hf; cases hf
        · have hb := fstC_bd dep has m
          rcases Int.lt_or_le (fstC dep has m) 0 with hn | hn
          · have := fstC_none hn i hi; rw [this] at hf; cases hf
          · obtain ⟨h1, h2, h3, h4⟩ := fstC_some (dep := dep) (has := has) (m := m) (a := (fstC dep has m).toNat) (by omega)
            have := h3 i hi hf
            omega
      refine ⟨by omega, hc.1, fun i hi hf => ?_, hall⟩
      by_cases e : i = m
      · subst e; exact Int.le_refl _
      · have := hall i (by omega) hf; omega
    · rename_i hc
      obtain ⟨h1, h2, h3, h4⟩ := fstC_some h
      refine ⟨by omega, h2, fun i hi hf => ?_, h4⟩
      by_cases e : i = m
      · subst e
        rcases Int.lt_or_le (dep a) (dep i) with hl | hl
        · exact absurd ⟨hf, .inr (by rw [h]; exact hl)⟩ hc
        · exact hl
      · exact h3 i (by omega) hf
theorem fstC_yes {dep : Nat → Int} {has : Nat → Bool} {m : Nat} (h : has m = false ∧ (fstC dep has m < 0 ∨ dep (fstC dep has m).toNat < dep m)) : fstC dep has (m + 1) = m := by simp only [fstC]; rw [if_pos h]
theorem fstC_no {dep : Nat → Int} {has : Nat → Bool} {m : Nat} (h : ¬ (has m = false ∧ (fstC dep has m < 0 ∨ dep (fstC dep has m).toNat < dep m))) : fstC dep has (m + 1) = fstC dep has m := by simp only [fstC]; rw [if_neg h]

/-- From s on towards the node 0, while it is at most far from a. -/
def clmC (t : List (Int × Int)) (d : Nat → Nat → Int) (far : Int) (a : Nat) : Nat → Nat → Nat
  | 0, s => s
  | f + 1, s => if 0 < s ∧ d a (tto t s) ≤ far then clmC t d far a f (tto t s) else s
theorem clmC_is {t : List (Int × Int)} (ht : Ahead t) {d : Nat → Nat → Int} {far : Int} {a : Nat} : ∀ f s, s < t.length → d a s ≤ far → clmC t d far a f s ≤ s ∧ d a (clmC t d far a f s) ≤ far
  | 0, s, _, h => ⟨Nat.le_refl _, h⟩
  | f + 1, s, hl, h => by
    simp only [clmC]
    split
    · rename_i hc
      have hs := (ht s hc.1 hl).1
      have := clmC_is ht f (tto t s) (by omega) hc.2
      omega
    · exact ⟨Nat.le_refl _, h⟩
theorem clmC_up {t : List (Int × Int)} {d : Nat → Nat → Int} {far : Int} {a f s : Nat} (h : 0 < s ∧ d a (tto t s) ≤ far) : clmC t d far a (f + 1) s = clmC t d far a f (tto t s) := by simp only [clmC]; rw [if_pos h]
theorem clmC_stop {t : List (Int × Int)} {d : Nat → Nat → Int} {far : Int} {a s : Nat} (h : ¬ (0 < s ∧ d a (tto t s) ≤ far)) : ∀ f, clmC t d far a f s = s
  | 0 => rfl
  | f + 1 => by simp only [clmC]; rw [if_neg h]

def leftC (has : Nat → Bool) : Nat → Nat
  | 0 => 0
  | m + 1 => leftC has m + (if has m = true then 0 else 1)
theorem leftC_le {has has' : Nat → Bool} (h : ∀ i, has i = true → has' i = true) : ∀ m, leftC has' m ≤ leftC has m
  | 0 => Nat.le_refl _
  | m + 1 => by
    have := leftC_le h m
    simp only [leftC]
    by_cases e : has m = true
    · rw [if_pos e, if_pos (h m e)]; omega
    · rw [if_neg e]; split <;> omega
theorem leftC_lt {has has' : Nat → Bool} (h : ∀ i, has i = true → has' i = true) {a : Nat} (ha : has a = false) (ha' : has' a = true) : ∀ m, a < m → leftC has' m < leftC has m
  | 0, hm => by omega
  | m + 1, hm => by
    simp only [leftC]
    by_cases e : a = m
    · subst e
      have := leftC_le h a
      rw [if_pos ha', if_neg (by rw [ha]; simp)]; omega
    · have := leftC_lt h ha ha' m (by omega)
      by_cases e : has m = true
      · rw [if_pos e, if_pos (h m e)]; omega
      · rw [if_neg e]; split <;> omega
theorem leftC_none : ∀ m, leftC (fun _ => false) m = m
  | 0 => rfl
  | m + 1 => by simp only [leftC]; rw [leftC_none m, if_neg (by simp)]

/-- Who has one near, when one stands there too. -/
def addC (d : Nat → Nat → Int) (far : Int) (has : Nat → Bool) (s : Nat) : Nat → Bool := fun i => has i || decide (d s i ≤ far)
def covC (t : List (Int × Int)) (d : Nat → Nat → Int) (far : Int) (n : Nat) : Nat → (Nat → Bool) → Nat
  | 0, _ => 0
  | f + 1, has => if fstC (d 0) has n < 0 then 0 else covC t d far n f (addC d far has (clmC t d far (fstC (d 0) has n).toNat (fstC (d 0) has n).toNat (fstC (d 0) has n).toNat)) + 1
theorem covC_end {t : List (Int × Int)} {d : Nat → Nat → Int} {far : Int} {n : Nat} {has : Nat → Bool} (h : fstC (d 0) has n < 0) : ∀ f, covC t d far n f has = 0
  | 0 => rfl
  | f + 1 => by simp only [covC]; rw [if_pos h]
theorem covC_next {t : List (Int × Int)} {d : Nat → Nat → Int} {far : Int} {n f a : Nat} {has : Nat → Bool} (h : fstC (d 0) has n = a) : covC t d far n (f + 1) has = covC t d far n f (addC d far has (clmC t d far a a a)) + 1 := by
  simp only [covC]; rw [if_neg (by omega), h]; rfl
/-- One more leaves fewer without. -/
theorem left_next {t : List (Int × Int)} (ht : Ahead t) {far : Int} {n a : Nat} {has : Nat → Bool} (hn : n ≤ t.length) (hf : 0 ≤ far) (h : fstC (dn t n 0) has n = a) : leftC (addC (dn t n) far has (clmC t (dn t n) far a a a)) n < leftC has n := by
  obtain ⟨h1, h2, -, -⟩ := fstC_some h
  refine leftC_lt (fun i hi => by simp [addC, hi]) h2 ?_ n h1
  have := (clmC_is ht (d := dn t n) (far := far) (a := a) a a (by omega) (by rw [dn_diag t n a h1]; exact hf)).2
  rw [dn_symm] at this
  simp [addC, this]
/-- TreeCover's answer. -/
def cvv (t : List (Int × Int)) (far : Int) : Int := if vt t = true ∧ 0 ≤ far ∧ far ≤ 50 then ((covC t (dn t t.length) far t.length t.length (fun _ => false) : Nat) : Int) else -1
theorem cvv_no {t : List (Int × Int)} {far : Int} (h : vt t = false ∨ far < 0 ∨ 50 < far) : cvv t far = -1 := by
  unfold cvv
  rw [if_neg]
  rintro ⟨h1, h2, h3⟩
  rcases h with h | h | h
  · rw [h1] at h; cases h
  · omega
  · omega
theorem cvv_yes {t : List (Int × Int)} {far : Int} (h : vt t = true) (h1 : 0 ≤ far) (h2 : far ≤ 50) : cvv t far = ((covC t (dn t t.length) far t.length t.length (fun _ => false) : Nat) : Int) := by
  unfold cvv; rw [if_pos ⟨h, h1, h2⟩]
/-- The row of who has one near, in memory. -/
def hrow (has : Nat → Bool) (n : Nat) : List Value := (List.range n).map fun i => Value.bool (has i)
theorem hrow_len (has : Nat → Bool) (n : Nat) : (hrow has n).length = n := by simp [hrow]
theorem hrow_at (has : Nat → Bool) {n i : Nat} (h : i < n) : (hrow has n)[i]? = some (.bool (has i)) := by simp [hrow, h]
theorem hrow_set (has : Nat → Bool) {n i : Nat} (b : Bool) (h : i < n) : (hrow has n).set i (.bool b) = hrow (upd has i b) n := by
  apply List.ext_getElem?
  intro j
  rw [List.getElem?_set]
  by_cases e : i = j
  · subst e
    rw [if_pos rfl, if_pos (by rw [hrow_len]; exact h), hrow_at _ h, upd_at]
  · rw [if_neg e]
    by_cases hj : j < n
    · rw [hrow_at _ hj, hrow_at _ hj, upd_other _ _ (fun e' => e e'.symm)]
    · rw [List.getElem?_eq_none (by rw [hrow_len]; omega), List.getElem?_eq_none (by rw [hrow_len]; omega)]
theorem hrow_congr {has has' : Nat → Bool} {n : Nat} (h : ∀ i, i < n → has i = has' i) : hrow has n = hrow has' n := by
  unfold hrow
  apply List.map_congr_left
  intro i hi
  rw [h i (List.mem_range.1 hi)]
/-- Where the marking of the nodes has come to. -/
def midC (d : Nat → Nat → Int) (far : Int) (has : Nat → Bool) (s k : Nat) : Nat → Bool := fun i => if i < k then addC d far has s i else has i
theorem midC_step {d : Nat → Nat → Int} {far : Int} {has : Nat → Bool} {s k : Nat} {b : Bool} (h : addC d far has s k = b) {n : Nat} : hrow (upd (midC d far has s k) k b) n = hrow (midC d far has s (k + 1)) n := by
  refine hrow_congr fun i hi => ?_
  unfold upd midC
  by_cases e : i = k
  · subst e; rw [if_pos rfl, if_pos (by omega), h]
  · rw [if_neg e]
    by_cases hk : i < k
    · rw [if_pos hk, if_pos (by omega)]
    · rw [if_neg hk, if_neg (by omega)]
end Go.Proofs.Ytggpdlcompokoaa
