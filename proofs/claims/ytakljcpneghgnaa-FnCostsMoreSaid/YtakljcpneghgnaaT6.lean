/-
  Shortest ways: a table that no street shortens, each entry of which is the length of some way, is the only one; trees have one.
  Conditions: as each theorem states.
-/
import Derived.Test.YtakljcpneghgnaaT1
namespace Go.Proofs.Ytakljcpneghgnaa
open Go.ChangeShapes Go.WideShapes Go.ChangeAt Go.RowKit
set_option linter.unusedVariables false

/-- Ways over streets, and their lengths. -/
inductive Wk (E : Nat → Nat → Int → Prop) (n : Nat) (a : Nat) : Nat → Int → Prop
  | nil : a < n → Wk E n a a 0
  | snoc (u v : Nat) (x L : Int) : Wk E n a u x → E u v L → v < n → Wk E n a v (x + L)
theorem Wk.start {E : Nat → Nat → Int → Prop} {n a b : Nat} {x : Int} (h : Wk E n a b x) : a < n := by
  induction h with
  | nil h => exact h
  | snoc u v x L h1 h2 h3 ih => exact ih
theorem Wk.cons {E : Nat → Nat → Int → Prop} {n a u b : Nat} {L x : Int} (ha : a < n) (he : E a u L) (h : Wk E n u b x) : Wk E n a b (L + x) := by
  induction h with
  | nil hu => have := Wk.snoc a u 0 L (Wk.nil ha) he hu; rw [Int.zero_add] at this; rw [Int.add_zero]; exact this
  | snoc w v x M h1 h2 h3 ih => rw [← Int.add_assoc]; exact Wk.snoc _ _ _ _ ih h2 h3
theorem Wk.join {E : Nat → Nat → Int → Prop} {n a c b : Nat} {x y : Int} (h1 : Wk E n a c x) (h2 : Wk E n c b y) : Wk E n a b (x + y) := by
  induction h2 with
  | nil hc => rw [Int.add_zero]; exact h1
  | snoc w v y M h3 h4 h5 ih => rw [← Int.add_assoc]; exact Wk.snoc _ _ _ _ ih h4 h5
theorem Wk.rev {E : Nat → Nat → Int → Prop} {n a b : Nat} {x : Int} (hs : ∀ u v L, E u v L → E v u L) (h : Wk E n a b x) : Wk E n b a x := by
  induction h with
  | nil ha => exact Wk.nil ha
  | snoc u v x L h1 h2 h3 ih => rw [Int.add_comm]; exact Wk.cons h3 (hs _ _ _ h2) ih
structure Short (E : Nat → Nat → Int → Prop) (n : Nat) (X : Nat → Nat → Int) : Prop where
  zero : ∀ a, a < n → X a a = 0
  step : ∀ a u v L, a < n → E u v L → v < n → 0 ≤ X a u → 0 ≤ X a v ∧ X a v ≤ X a u + L
  way : ∀ a b, a < n → b < n → X a b = -1 ∨ (0 ≤ X a b ∧ Wk E n a b (X a b))
theorem Short.le {E : Nat → Nat → Int → Prop} {n : Nat} {X : Nat → Nat → Int} (h : Short E n X) {a b : Nat} {x : Int} (ha : a < n) (hw : Wk E n a b x) : 0 ≤ X a b ∧ X a b ≤ x := by
  induction hw with
  | nil ha => rw [h.zero a ha]; omega
  | snoc u v x L h1 h2 h3 ih =>
    have := h.step a u v L ha h2 h3 ih.1
    omega
theorem Short.unique {E : Nat → Nat → Int → Prop} {n : Nat} {X Y : Nat → Nat → Int} (hx : Short E n X) (hy : Short E n Y) {a b : Nat} (ha : a < n) (hb : b < n) : X a b = Y a b := by
  rcases hx.way a b ha hb with h1 | ⟨h1, h2⟩ <;> rcases hy.way a b ha hb with h3 | ⟨h3, h4⟩
  · rw [h1, h3]
  · have := hx.le ha h4; omega
  · have := hy.le ha h2; omega
  · have := hx.le ha h4; have := hy.le ha h2; omega
theorem Short.symm {E : Nat → Nat → Int → Prop} {n : Nat} {X : Nat → Nat → Int} (hs : ∀ u v L, E u v L → E v u L) (hx : Short E n X) {a b : Nat} (ha : a < n) (hb : b < n) : X a b = X b a := by
  rcases hx.way a b ha hb with h1 | ⟨h1, h2⟩ <;> rcases hx.way b a hb ha with h3 | ⟨h3, h4⟩
  · rw [h1, h3]
  · have := hx.le ha (h4.rev hs); omega
  · have := hx.le hb (h2.rev hs); omega
  · have := hx.le ha (h4.rev hs); have := hx.le hb (h2.rev hs); omega
theorem Short.tri {E : Nat → Nat → Int → Prop} {n : Nat} {X : Nat → Nat → Int} (hx : Short E n X) {a b c : Nat} (ha : a < n) (hb : b < n) (hc : c < n) (h1 : 0 ≤ X a c) (h2 : 0 ≤ X c b) : 0 ≤ X a b ∧ X a b ≤ X a c + X c b := by
  rcases hx.way a c ha hc with h3 | ⟨_, h3⟩
  · omega
  · rcases hx.way c b hc hb with h4 | ⟨_, h4⟩
    · omega
    · exact hx.le ha (h3.join h4)

/-- The roads of a tree, as streets. -/
def TE (t : List (Int × Int)) (n : Nat) (u v : Nat) (L : Int) : Prop := ∃ i, 1 ≤ i ∧ i < n ∧ L = tlg t i ∧ ((u = tto t i ∧ v = i) ∨ (u = i ∧ v = tto t i))
theorem TE.symm {t : List (Int × Int)} {n u v : Nat} {L : Int} (h : TE t n u v L) : TE t n v u L := by
  obtain ⟨i, h1, h2, h3, h4⟩ := h
  exact ⟨i, h1, h2, h3, h4.elim (fun h => .inr ⟨h.2, h.1⟩) (fun h => .inl ⟨h.2, h.1⟩)⟩
theorem dn_way {t : List (Int × Int)} (ht : Ahead t) {n : Nat} (hn : n ≤ t.length) : ∀ m a b, a + b = m → a < n → b < n → Wk (TE t n) n a b (dn t n a b) := by
  intro m
  induction m using Nat.strongRecOn with
  | ind m ih =>
    intro a b hm ha hb
    rcases Nat.lt_trichotomy a b with h | h | h
    · have hr := ht b (by omega) (by omega)
      rw [dn_symm, dn_road ht hn hb h, dn_symm]
      exact Wk.snoc _ _ _ _ (ih (a + tto t b) (by omega) a (tto t b) rfl ha (by omega)) ⟨b, by omega, hb, rfl, .inl ⟨rfl, rfl⟩⟩ hb
    · subst h; rw [dn_diag t n a ha]; exact Wk.nil ha
    · have hr := ht a (by omega) (by omega)
      rw [dn_road ht hn ha h, Int.add_comm]
      exact Wk.cons ha ⟨a, by omega, ha, rfl, .inr ⟨rfl, rfl⟩⟩ (ih (tto t a + b) (by omega) (tto t a) b rfl (by omega) hb)
/-- A tree's table is that of its roads as streets. -/
theorem dn_short {t : List (Int × Int)} (ht : Ahead t) {n : Nat} (hn : n ≤ t.length) : Short (TE t n) n (dn t n) where
  zero a ha := dn_diag t n a ha
  step a u v L ha he hv h0 := by
    obtain ⟨i, h1, h2, rfl, h4⟩ := he
    have hr := ht i h1 (by omega)
    have ho := dn_over ht hn h1 h2 a ha
    rw [dn_symm t n i a, dn_symm t n (tto t i) a] at ho
    refine ⟨(dn_bd ht n a v hn ha hv).1, ?_⟩
    rcases h4 with ⟨rfl, rfl⟩ | ⟨rfl, rfl⟩ <;> split at ho <;> omega
  way a b ha hb := .inr ⟨(dn_bd ht n a b hn ha hb).1, dn_way ht hn _ a b rfl ha hb⟩

/-- A table's entry, no way as a great number. -/
def big (x : Int) : Int := if x < 0 then 1000000 else x
/-- With one node more in the middle. -/
theorem middles_step {X Y : Nat → Nat → Int} {n m : Nat} (hbd : ∀ a b, a < n → b < n → -1 ≤ X a b ∧ X a b ≤ 400000) (hm : m < n) (h0 : X m m = 0) (hY : ∀ a b, a < n → b < n → big (Y a b) = min (big (X a b)) (min 1000000 (big (X a m) + big (X m b))))
    (hT : ∀ a b c, a < n → b < n → c < m → big (X a b) ≤ big (X a c) + big (X c b)) : ∀ a b c, a < n → b < n → c < m + 1 → big (Y a b) ≤ big (Y a c) + big (Y c b) := by
  intro a b c ha hb hc
  have nn : ∀ a b, a < n → b < n → 0 ≤ big (X a b) ∧ big (X a b) ≤ 1000000 := fun a b ha hb => by have := hbd a b ha hb; unfold big; split <;> omega
  rw [hY a b ha hb, hY a c ha (by omega), hY c b (by omega) hb]
  have e0 : big (X m m) = 0 := by rw [h0]; rfl
  have n1 := nn a b ha hb; have n2 := nn a c ha (by omega); have n3 := nn c b (by omega) hb; have n4 := nn a m ha hm; have n5 := nn m b hm hb; have n6 := nn m c hm (by omega); have n7 := nn c m (by omega) hm
  by_cases e : c = m
  · subst e
    omega
  · have t1 := hT a b c ha hb (by omega)
    have t2 := hT m b c hm hb (by omega)
    have t3 := hT a m c ha hm (by omega)
    omega
end Go.Proofs.Ytakljcpneghgnaa
