/-
  Shortest ways: a table that no street shortens, each entry of which is the length of some way, is the only one; trees have one.
  Conditions: as each theorem states.
  Nets: the table of shortest ways by streets; making it shorter street by street comes to an end.
  Conditions: as each theorem states.
  Tables in memory: a row more, an entry changed; what the loops of NetTable keep.
  Conditions: none beyond what each theorem states.
  Tables that are made whole first and filled row by row; a row's element changed.
  Conditions: none beyond what each theorem states.
  Whether a number is in a range, and calls inside a region that draws its order.
  Conditions: none beyond what each theorem states.
  Words for slices of roads: two cells an element, To and Long.
  Conditions: none beyond what each theorem states.
-/
import Derived.Test.YtdhelapgdgekfaaZ0
import Derived.Test.YtdhelapgdgekfaaZ2
import Derived.OneCell
namespace Go.Proofs.Ytdhelapgdgekfaa
open Go.ChangeShapes Go.WideShapes Go.ChangeAt Go.RowKit
set_option linter.unusedVariables false

/-- Ways over streets, and their lengths. -/
inductive Wk (E : Nat → Nat → Int → Prop) (n : Nat) (a : Nat) : Nat → Int → Prop
  | nil : a < n → Wk E n a a 0
  | snoc (u v : Nat) (x L : Int) : Wk E n a u x → E u v L → v < n → Wk E n a v (x + L)
theorem Wk.start {E : Nat → Nat → Int → Prop} {n a b : Nat} {x : Int} (h : Wk E n a b x) : a < n := by
  induction h with
  | nil h => exact h
  | snoc u v x L h1 h2 h3 ih => exact ih
theorem Wk.cons {E : Nat → Nat → Int → Prop} {n a u b : Nat} {L x : Int} (ha : a < n) (he : E a u L) (h : Wk E n u b x) : Wk E n a b (L + x) := by
  induction h with
  | nil hu => have := Wk.snoc a u 0 L (Wk.nil ha) he hu; rw [Int.zero_add] at this; rw [Int.add_zero]; exact this
  | snoc w v x M h1 h2 h3 ih => rw [← Int.add_assoc]; exact Wk.snoc _ _ _ _ ih h2 h3
theorem Wk.join {E : Nat → Nat → Int → Prop} {n a c b : Nat} {x y : Int} (h1 : Wk E n a c x) (h2 : Wk E n c b y) : Wk E n a b (x + y) := by
  induction h2 with
  | nil hc => rw [Int.add_zero]; exact h1
  | snoc w v y M h3 h4 h5 ih => rw [← Int.add_assoc]; exact Wk.snoc _ _ _ _ ih h4 h5
theorem Wk.rev {E : Nat → Nat → Int → Prop} {n a b : Nat} {x : Int} (hs : ∀ u v L, E u v L → E v u L) (h : Wk E n a b x) : Wk E n b a x := by
  induction h with
  | nil ha => exact Wk.nil ha
  | snoc u v x L h1 h2 h3 ih => rw [Int.add_comm]; exact Wk.cons h3 (hs _ _ _ h2) ih
structure Short (E : Nat → Nat → Int → Prop) (n : Nat) (X : Nat → Nat → Int) : Prop where
  zero : ∀ a, a < n → X a a = 0
  step : ∀ a u v L, a < n → E u v L → v < n → 0 ≤ X a u → 0 ≤ X a v ∧ X a v ≤ X a u + L
  way : ∀ a b, a < n → b < n → X a b = -1 ∨ (0 ≤ X a b ∧ Wk E n a b (X a b))
theorem Short.le {E : Nat → Nat → Int → Prop} {n : Nat} {X : Nat → Nat → Int} (h : Short E n X) {a b : Nat} {x : Int} (ha : a < n) (hw : Wk E n a b x) : 0 ≤ X a b ∧ X a b ≤ x := by
  induction hw with
  | nil ha => rw [h.zero a ha]; omega
  | snoc u v x L h1 h2 h3 ih =>
    have := h.step a u v L ha h2 h3 ih.1
    omega
theorem Short.unique {E : Nat → Nat → Int → Prop} {n : Nat} {X Y : Nat → Nat → Int} (hx : Short E n X) (hy : Short E n Y) {a b : Nat} (ha : a < n) (hb : b < n) : X a b = Y a b := by
  rcases hx.way a b ha hb with h1 | ⟨h1, h2⟩ <;> rcases hy.way a b ha hb with h3 | ⟨h3, h4⟩
  · rw [h1, h3]
  · have := hx.le ha h4; omega
  · have := hy.le ha h2; omega
  · have := hx.le ha h4; have := hy.le ha h2; omega
theorem Short.symm {E : Nat → Nat → Int → Prop} {n : Nat} {X : Nat → Nat → Int} (hs : ∀ u v L, E u v L → E v u L) (hx : Short E n X) {a b : Nat} (ha : a < n) (hb : b < n) : X a b = X b a := by
  rcases hx.way a b ha hb with h1 | ⟨h1, h2⟩ <;> rcases hx.way b a hb ha with h3 | ⟨h3, h4⟩
  · rw [h1, h3]
  · have := hx.le ha (h4.rev hs); omega
  · have := hx.le hb (h2.rev hs); omega
  · have := hx.le ha (h4.rev hs); have := hx.le hb (h2.rev hs); omega
theorem Short.tri {E : Nat → Nat → Int → Prop} {n : Nat} {X : Nat → Nat → Int} (hx : Short E n X) {a b c : Nat} (ha : a < n) (hb : b < n) (hc : c < n) (h1 : 0 ≤ X a c) (h2 : 0 ≤ X c b) : 0 ≤ X a b ∧ X a b ≤ X a c + X c b := by
  rcases hx.way a c ha hc with h3 | ⟨_, h3⟩
  · omega
  · rcases hx.way c b hc hb with h4 | ⟨_, h4⟩
    · omega
    · exact hx.le ha (h3.join h4)

/-- The roads of a tree, as streets. -/
def TE (t : List (Int × Int)) (n : Nat) (u v : Nat) (L : Int) : Prop := ∃ i, 1 ≤ i ∧ i < n ∧ L = tlg t i ∧ ((u = tto t i ∧ v = i) ∨ (u = i ∧ v = tto t i))
theorem TE.symm {t : List (Int × Int)} {n u v : Nat} {L : Int} (h : TE t n u v L) : TE t n v u L := by
  obtain ⟨i, h1, h2, h3, h4⟩ := h
  exact ⟨i, h1, h2, h3, h4.elim (fun h => .inr ⟨h.2, h.1⟩) (fun h => .inl ⟨h.2, h.1⟩)⟩
theorem dn_way {t : List (Int × Int)} (ht : Ahead t) {n : Nat} (hn : n ≤ t.length) : ∀ m a b, a + b = m → a < n → b < n → Wk (TE t n) n a b (dn t n a b) := by
  intro m
  induction m using Nat.strongRecOn with
  | ind m ih =>
    intro a b hm ha hb
    rcases Nat.lt_trichotomy a b with h | h | h
    · have hr := ht b (by omega) (by omega)
      rw [dn_symm, dn_road ht hn hb h, dn_symm]
      exact Wk.snoc _ _ _ _ (ih (a + tto t b) (by omega) a (tto t b) rfl ha (by omega)) ⟨b, by omega, hb, rfl, .inl ⟨rfl, rfl⟩⟩ hb
    · subst h; rw [dn_diag t n a ha]; exact Wk.nil ha
    · have hr := ht a (by omega) (by omega)
      rw [dn_road ht hn ha h, Int.add_comm]
      exact Wk.cons ha ⟨a, by omega, ha, rfl, .inr ⟨rfl, rfl⟩⟩ (ih (tto t a + b) (by omega) (tto t a) b rfl (by omega) hb)
/-- A tree's table is that of its roads as streets. -/
theorem dn_short {t : List (Int × Int)} (ht : Ahead t) {n : Nat} (hn : n ≤ t.length) : Short (TE t n) n (dn t n) where
  zero a ha := dn_diag t n a ha
  step a u v L ha he hv h0 := by
    obtain ⟨i, h1, h2, rfl, h4⟩ := he
    have hr := ht i h1 (by omega)
    have ho := dn_over ht hn h1 h2 a ha
    rw [dn_symm t n i a, dn_symm t n (tto t i) a] at ho
    refine ⟨(dn_bd ht n a v hn ha hv).1, ?_⟩
    rcases h4 with ⟨rfl, rfl⟩ | ⟨rfl, rfl⟩ <;> split at ho <;> omega
  way a b ha hb := .inr ⟨(dn_bd ht n a b hn ha hb).1, dn_way ht hn _ a b rfl ha hb⟩

/-- A table's entry, no way as a great number. -/
def big (x : Int) : Int := if x < 0 then 1000000 else x
/-- With one node more in the middle. -/
theorem middles_step {X Y : Nat → Nat → Int} {n m : Nat} (hbd : ∀ a b, a < n → b < n → -1 ≤ X a b ∧ X a b ≤ 400000) (hm : m < n) (h0 : X m m = 0) (hY : ∀ a b, a < n → b < n → big (Y a b) = min (big (X a b)) (min 1000000 (big (X a m) + big (X m b))))
    (hT : ∀ a b c, a < n → b < n → c < m → big (X a b) ≤ big (X a c) + big (X c b)) : ∀ a b c, a < n → b < n → c < m + 1 → big (Y a b) ≤ big (Y a c) + big (Y c b) := by
  intro a b c ha hb hc
  have nn : ∀ a b, a < n → b < n → 0 ≤ big (X a b) ∧ big (X a b) ≤ 1000000 := fun a b ha hb => by have := hbd a b ha hb; unfold big; split <;> omega
  rw [hY a b ha hb, hY a c ha (by omega), hY c b (by omega) hb]
  have e0 : big (X m m) = 0 := by rw [h0]; rfl
  have n1 := nn a b ha hb; have n2 := nn a c ha (by omega); have n3 := nn c b (by omega) hb; have n4 := nn a m ha hm; have n5 := nn m b hm hb; have n6 := nn m c hm (by omega); have n7 := nn c m (by omega) hm
  by_cases e : c = m
  · subst e
    omega
  · have t1 := hT a b c ha hb (by omega)
    have t2 := hT m b c hm hb (by omega)
    have t3 := hT a m c ha hm (by omega)
    omega
end Go.Proofs.Ytdhelapgdgekfaa
namespace Go.Proofs.Ytdhelapgdgekfaa
open Go.ChangeShapes Go.WideShapes Go.ChangeAt Go.RowKit
set_option linter.unusedVariables false

/-- The streets, both ways. -/
def SE (ss : List Str) (u v : Nat) (L : Int) : Prop := ∃ p, p ∈ ss ∧ L = p.2.2 ∧ ((p.1 = u ∧ p.2.1 = v) ∨ (p.1 = v ∧ p.2.1 = u))
theorem SE.symm {ss : List Str} {u v : Nat} {L : Int} (h : SE ss u v L) : SE ss v u L := by
  obtain ⟨p, h1, h2, h3⟩ := h
  exact ⟨p, h1, h2, h3.symm⟩
theorem SE.pos {n : Int} {ss : List Str} (hv : vnet n ss = true) {u v : Nat} {L : Int} (h : SE ss u v L) : 1 ≤ L ∧ L ≤ 9 ∧ (u : Int) < n ∧ (v : Int) < n := by
  obtain ⟨p, h1, h2, h3⟩ := h
  have := ((vnet_iff n ss).1 hv).2.2 p h1
  unfold OkS at this
  omega

/-- How many nodes a row reaches. -/
def cntX (X : Nat → Nat → Int) (a : Nat) : Nat → Nat
  | 0 => 0
  | m + 1 => cntX X a m + (if 0 ≤ X a m then 1 else 0)
theorem cntX_le (X : Nat → Nat → Int) (a : Nat) : ∀ m, cntX X a m ≤ m
  | 0 => Nat.le_refl _
  | m + 1 => by have := cntX_le X a m; simp only [cntX]; split <;> omega
def up2 (X : Nat → Nat → Int) (a b : Nat) (v : Int) : Nat → Nat → Int := fun i j => if i = a ∧ j = b then v else X i j
theorem up2_at (X : Nat → Nat → Int) (a b : Nat) (v : Int) : up2 X a b v a b = v := if_pos ⟨rfl, rfl⟩
theorem up2_other (X : Nat → Nat → Int) {a b i j : Nat} (v : Int) (h : ¬ (i = a ∧ j = b)) : up2 X a b v i j = X i j := if_neg h
theorem cntX_row {X : Nat → Nat → Int} {a b i : Nat} {v : Int} (h : i ≠ a) : ∀ m, cntX (up2 X a b v) i m = cntX X i m
  | 0 => rfl
  | m + 1 => by simp only [cntX]; rw [cntX_row h m, up2_other _ _ (fun e => h e.1)]
theorem cntX_up {X : Nat → Nat → Int} {a b : Nat} {v : Int} (hv : 0 ≤ v) : ∀ m, cntX (up2 X a b v) a m = cntX X a m + (if b < m ∧ X a b < 0 then 1 else 0)
  | 0 => by simp [cntX]
  | m + 1 => by
    simp only [cntX]
    rw [cntX_up hv m]
    by_cases e : b = m
    · subst e
      rw [up2_at, if_pos hv]
      repeat' split
      all_goals omega
    · rw [up2_other _ _ (fun e' => e e'.2.symm)]
      repeat' split
      all_goals omega

/-- The table while it is made shorter: each entry is a way's length or -1. -/
structure Rlx (ss : List Str) (n : Nat) (X : Nat → Nat → Int) : Prop where
  zero : ∀ a, a < n → X a a = 0
  way : ∀ a b, a < n → b < n → X a b = -1 ∨ (0 ≤ X a b ∧ Wk (SE ss) n a b (X a b))
  bd : ∀ a b, a < n → b < n → X a b + 9 ≤ 9 * (cntX X a n : Int)
theorem Rlx.le {ss : List Str} {n : Nat} {X : Nat → Nat → Int} (h : Rlx ss n X) (hn : n ≤ 7) {a b : Nat} (ha : a < n) (hb : b < n) : -1 ≤ X a b ∧ X a b ≤ 54 := by
  have h1 := h.bd a b ha hb
  have h2 := cntX_le X a n
  rcases h.way a b ha hb with h3 | ⟨h3, -⟩ <;> omega
def ownX (a b : Nat) : Int := if a = b then 0 else -1
theorem cntX_own (a : Nat) : ∀ m, cntX ownX a m = if a < m then 1 else 0
  | 0 => rfl
  | m + 1 => by
    simp only [cntX]
    rw [cntX_own a m]
    unfold ownX
    by_cases h : a = m
    · subst h; simp
    · rw [if_neg h]
      by_cases h2 : a < m
      · rw [if_pos h2, if_neg (by omega), if_pos (by omega)]
      · rw [if_neg h2, if_neg (by omega), if_neg (by omega)]
theorem rlx_start (ss : List Str) (n : Nat) : Rlx ss n ownX where
  zero a _ := by simp [ownX]
  way a b ha hb := by
    unfold ownX
    by_cases h : a = b
    · subst h; rw [if_pos rfl]; exact .inr ⟨Int.le_refl _, Wk.nil ha⟩
    · rw [if_neg h]; exact .inl rfl
  bd a b ha hb := by rw [cntX_own, if_pos ha]; unfold ownX; split <;> omega
/-- One entry shorter. -/
theorem rlx_step {ss : List Str} {n : Nat} {X : Nat → Nat → Int} (h : Rlx ss n X) {at' u v : Nat} {L : Int} (ha : at' < n) (hu : u < n) (hv : v < n) (he : SE ss u v L) (hL : 1 ≤ L ∧ L ≤ 9) (h0 : 0 ≤ X at' u) (hc : X at' v < 0 ∨ X at' u + L < X at' v) :
    Rlx ss n (up2 X at' v (X at' u + L)) where
  zero a ha' := by
    by_cases e : a = at' ∧ a = v
    · obtain ⟨e1, e2⟩ := e
      subst e1
      rw [← e2, h.zero a ha'] at hc
      omega
    · rw [up2_other _ _ e]; exact h.zero a ha'
  way a b ha' hb := by
    by_cases e : a = at' ∧ b = v
    · obtain ⟨rfl, rfl⟩ := e
      rw [up2_at]
      rcases h.way a u ha hu with h1 | ⟨_, h1⟩
      · omega
      · exact .inr ⟨by omega, Wk.snoc _ _ _ _ h1 he hv⟩
    · rw [up2_other _ _ e]; exact h.way a b ha' hb
  bd a b ha' hb := by
    by_cases e1 : a = at'
    · subst e1
      rw [cntX_up (by omega)]
      have h1 := h.bd a u ha hu
      have h2 := h.bd a b ha hb
      have h3 := h.bd a v ha hv
      by_cases e : b = v
      · subst e
        rw [up2_at]
        by_cases hn : X a b < 0
        · rw [if_pos ⟨hb, hn⟩]; omega
        · rw [if_neg (by omega)]; omega
      · rw [up2_other _ _ (fun e' => e e'.2)]
        omega
    · rw [cntX_row e1, up2_other _ _ (fun e => e1 e.1)]; exact h.bd a b ha' hb

/-- What goes down with each step. -/
def sumR (f : Nat → Nat) : Nat → Nat
  | 0 => 0
  | m + 1 => sumR f m + f m
theorem sumR_congr {f g : Nat → Nat} : ∀ {m}, (∀ i, i < m → f i = g i) → sumR f m = sumR g m
  | 0, _ => rfl
  | m + 1, h => by simp only [sumR]; rw [sumR_congr fun i hi => h i (by omega), h m (by omega)]
theorem sumR_lt {f g : Nat → Nat} {k : Nat} : ∀ {m}, k < m → (∀ i, i < m → i ≠ k → f i = g i) → f k < g k → sumR f m < sumR g m
  | 0, h, _, _ => by omega
  | m + 1, h, he, hk => by
    simp only [sumR]
    by_cases e : k = m
    · subst e
      rw [sumR_congr fun i hi => he i (by omega) (by omega)]; omega
    · have := sumR_lt (m := m) (by omega) (fun i hi hne => he i (by omega) hne) hk
      rw [he m (by omega) (fun e' => e e'.symm)]; omega
def ent (x : Int) : Nat := if x < 0 then 64 else x.toNat
def totX (X : Nat → Nat → Int) (n : Nat) : Nat := sumR (fun a => sumR (fun b => ent (X a b)) n) n
theorem totX_step {X : Nat → Nat → Int} {n a b : Nat} {v : Int} (ha : a < n) (hb : b < n) (hv : 0 ≤ v ∧ v < 64) (h : X a b < 0 ∨ v < X a b) : totX (up2 X a b v) n < totX X n := by
  refine sumR_lt (k := a) ha (fun i hi hne => ?_) ?_
  · refine sumR_congr fun j hj => ?_
    rw [up2_other _ _ (fun e => hne e.1)]
  · refine sumR_lt (k := b) hb (fun j hj hne => ?_) ?_
    · rw [up2_other _ _ (fun e => hne e.2)]
    · rw [up2_at]; unfold ent; rw [if_neg (by omega)]; split <;> omega

/-- A street's way in one sense does not make row a shorter. -/
def Cz (X : Nat → Nat → Int) (a u v : Nat) (L : Int) : Prop := 0 ≤ X a u → 0 ≤ X a v ∧ X a v ≤ X a u + L
theorem rlx_short {ss : List Str} {n : Nat} {X : Nat → Nat → Int} (h : Rlx ss n X) (hs : ∀ p : Str, ∀ u v : Nat, p ∈ ss → p.1 = u → p.2.1 = v → u < n → v < n → ∀ a, a < n → Cz X a u v p.2.2 ∧ Cz X a v u p.2.2) (hN : ∀ u v L, SE ss u v L → u < n ∧ v < n) : Short (SE ss) n X where
  zero := h.zero
  step a u v L ha he hv h0 := by
    have hu := (hN u v L he).1
    obtain ⟨p, hp, rfl, ⟨h1, h2⟩ | ⟨h1, h2⟩⟩ := he
    · exact (hs p u v hp h1 h2 hu hv a ha).1 h0
    · exact (hs p v u hp h1 h2 hv hu a ha).2 h0
  way a b ha hb := h.way a b ha hb
theorem se_lt {n : Nat} {ss : List Str} (hv : vnet n ss = true) : ∀ u v L, SE ss u v L → u < n ∧ v < n := fun u v L h => by
  have := SE.pos hv h
  omega
theorem exists_short {n : Nat} {ss : List Str} (hv : vnet n ss = true) : ∀ (m : Nat) (X : Nat → Nat → Int), totX X n = m → Rlx ss n X → ∃ Y, Short (SE ss) n Y ∧ ∀ a b, a < n → b < n → -1 ≤ Y a b ∧ Y a b ≤ 54 := by
  intro m
  induction m using Nat.strongRecOn with
  | ind m ih =>
    intro X hm h
    have h7 := ((vnet_iff _ _).1 hv).1
    by_cases hc : ∃ a u v L, a < n ∧ u < n ∧ v < n ∧ SE ss u v L ∧ ¬ Cz X a u v L
    · obtain ⟨a, u, v, L, ha, hu, hv', he, hcz⟩ := hc
      have hL := SE.pos hv he
      have h0 : 0 ≤ X a u := by
        by_cases h0 : 0 ≤ X a u
        · exact h0
        · exact absurd (fun h1 => absurd h1 h0) hcz
      have hlt : X a v < 0 ∨ X a u + L < X a v := by
        by_cases h1 : X a v < 0 ∨ X a u + L < X a v
        · exact h1
        · exact absurd (fun _ => ⟨by omega, by omega⟩) hcz
      have hb := h.le (by omega) ha hu
      exact ih _ (by rw [← hm]; exact totX_step ha hv' (by omega) hlt) _ rfl (rlx_step h ha hu hv' he ⟨hL.1, hL.2.1⟩ h0 hlt)
    · refine ⟨X, rlx_short h (fun p u v hp h1 h2 hu hv' a ha => ⟨?_, ?_⟩) (se_lt hv), fun a b ha hb => h.le (by omega) ha hb⟩
      · by_cases hz : Cz X a u v p.2.2
        · exact hz
        · exact absurd ⟨a, u, v, _, ha, hu, hv', ⟨p, hp, rfl, .inl ⟨h1, h2⟩⟩, hz⟩ hc
      · by_cases hz : Cz X a v u p.2.2
        · exact hz
        · exact absurd ⟨a, v, u, _, ha, hv', hu, ⟨p, hp, rfl, .inr ⟨h1, h2⟩⟩, hz⟩ hc
open Classical in
/-- The table of shortest ways. -/
noncomputable def sht (n : Nat) (ss : List Str) : Nat → Nat → Int := if h : ∃ Y, Short (SE ss) n Y ∧ ∀ a b, a < n → b < n → -1 ≤ Y a b ∧ Y a b ≤ 54 then Classical.choose h else fun _ _ => 0
theorem sht_spec {n : Nat} {ss : List Str} (hv : vnet n ss = true) : Short (SE ss) n (sht n ss) ∧ ∀ a b, a < n → b < n → -1 ≤ sht n ss a b ∧ sht n ss a b ≤ 54 := by
  have h := exists_short hv _ ownX rfl (rlx_start ss n)
  unfold sht
  rw [dif_pos h]
  exact Classical.choose_spec h
theorem sht_is {n : Nat} {ss : List Str} (hv : vnet n ss = true) {X : Nat → Nat → Int} (h : Short (SE ss) n X) {a b : Nat} (ha : a < n) (hb : b < n) : X a b = sht n ss a b := h.unique (sht_spec hv).1 ha hb
end Go.Proofs.Ytdhelapgdgekfaa
namespace Go.Proofs.Ytdhelapgdgekfaa
open Go.ChangeShapes Go.WideShapes Go.ChangeAt Go.RowKit
set_option linter.unusedVariables false
set_option maxRecDepth 4000

/-- A table's row. -/
def rowX (X : Nat → Nat → Int) (n a : Nat) : List Int := (List.range n).map fun b => X a b
theorem rowX_len (X : Nat → Nat → Int) (n a : Nat) : (rowX X n a).length = n := by simp [rowX]
theorem rowX_get (X : Nat → Nat → Int) {n a b : Nat} (hb : b < n) : (rowX X n a).getD b 0 = X a b := by simp [rowX, List.getD, hb]
theorem rowX_congr {X Y : Nat → Nat → Int} {n a : Nat} (h : ∀ b, b < n → X a b = Y a b) : rowX X n a = rowX Y n a := by
  unfold rowX
  exact List.map_congr_left fun b hb => h b (List.mem_range.1 hb)
theorem rowX_step (X : Nat → Nat → Int) (n a : Nat) : rowX X (n + 1) a = rowX X n a ++ [X a n] := by
  unfold rowX
  rw [List.range_succ, List.map_append]; rfl
theorem rowX_set (X : Nat → Nat → Int) {n a b : Nat} (v : Int) (hb : b < n) : (rowX X n a).set b v = rowX (up2 X a b v) n a := by
  unfold rowX
  apply List.ext_getElem?
  intro i
  rw [List.getElem?_set]
  by_cases hi : i < n
  · by_cases e : b = i
    · subst e; simp [hi, up2_at]
    · have : ¬ (a = a ∧ i = b) := fun h => e h.2.symm
      simp [hi, e, up2_other X v this]
  · simp [hi]; omega
/-- A row more, made since. -/
theorem TT.addRow {w wq : World} {B m k : Nat} {VR : Nat → Value} {ls : Nat → List Int} {v : Value} {row : List Int} (h : TT w B m VR ls) (hB : B ≤ w.heap.size) (hb : Below w.heap.size w wq) (hk : row.length = k)
    (hown : wq.ownsRow w.heap.size 3 1 v k (row.map (Value.int .i64))) : TT wq B (m + 1) (upd VR m v) (upd ls m row) := by
  constructor
  · intro j hj
    by_cases e : j = m
    · subst e
      rw [upd_at, upd_at, hk]
      refine ⟨hown.1, ?_⟩
      rcases hown.2 with h0 | ⟨g, cap, cur, h1, h2, h3⟩
      · exact .inl h0
      · exact .inr ⟨g, cap, cur, h1, by omega, h3⟩
    · rw [upd_other _ _ e, upd_other _ _ e]
      exact ownN_below (h.own j (by omega)) hb
  · intro i j g hi hj h1 h2
    by_cases e1 : i = m <;> by_cases e2 : j = m
    · omega
    · rw [e1, upd_at] at h1; rw [upd_other _ _ e2] at h2
      have := (own_heap hown h1).2.1
      have := (own_heap (h.own j (by omega)) h2).2.2; omega
    · rw [e2, upd_at] at h2; rw [upd_other _ _ e1] at h1
      have := (own_heap hown h2).2.1
      have := (own_heap (h.own i (by omega)) h1).2.2; omega
    · rw [upd_other _ _ e1] at h1; rw [upd_other _ _ e2] at h2
      exact h.dis i j g (by omega) (by omega) h1 h2
/-- The new row lies in the table. -/
theorem tabX_end {w w2 w3 : World} {m g cA g3 c3 : Nat} {VR : Nat → Value} {ls : Nat → List Int} {v : Value} {o : Obj} (hT : TT w2 w.heap.size (m + 1) (upd VR m v) ls) (hO : Outer w2 w.heap.size m (.slice (some ⟨g, 0, none⟩) m cA) VR) (hB : Below w.heap.size w w2)
    (hown : w3.ownsRow w.heap.size 37 1 (.slice (some ⟨g3, 0, none⟩) (m + 1) c3) (m + 1) ((List.range m).map VR ++ [v])) (hg : (w2.alloc o).grownBy w3 (Value.slice (some ⟨g, 0, none⟩) m cA).ownBlock) (hs : (w2.alloc o).heap.size = w2.heap.size + 1) :
    Outer w3 w.heap.size (m + 1) (.slice (some ⟨g3, 0, none⟩) (m + 1) c3) (upd VR m v) ∧ TT w3 w.heap.size (m + 1) (upd VR m v) ls ∧ Below w.heap.size w w3 := by
  have hW := (Below.refl w2.heap.size w2).alloc (Nat.le_refl _) o
  obtain ⟨⟨cs, hc⟩, hB2, _⟩ := own_heap (ownN_below hO hW) (g := g) rfl
  refine ⟨?_, (hT.below hW).keptBy hg (fun g' e => ?_), (hB.trans (hW.mono hB.size)).grown hg (by rw [hs]; have := hB.size; omega) (fun g' e => ?_)⟩
  · unfold Outer
    rw [List.range_succ, List.map_append]
    have e : (List.range m).map (upd VR m v) = (List.range m).map VR := List.map_congr_left fun i hi => upd_other _ _ (by have := List.mem_range.1 hi; omega)
    rw [e]
    simpa [upd_at] using hown
  · have : g = g' := by simpa [Value.ownBlock] using e
    subst this
    exact ⟨cs, _, hc, by decide⟩
  · have : g = g' := by simpa [Value.ownBlock] using e
    subst this
    exact hB2
/-- The cells of an entry. -/
theorem tab_cells {w : World} {B n g c a b : Nat} {VR : Nat → Value} {X : Nat → Nat → Int} (hO : Outer w B n (.slice (some ⟨g, 0, none⟩) n c) VR) (hT : TT w B n VR (rowX X n)) (ha : a < n) (hb : b < n) :
    ∃ gr cr, VR a = .slice (some ⟨gr, 0, none⟩) n cr ∧ w.cell? ⟨g, a, none⟩ = some (.slice (some ⟨gr, 0, none⟩) n cr) ∧ w.cell? ⟨gr, b, none⟩ = some (.int .i64 (X a b)) ∧ w.frozen? ⟨gr, b, none⟩ = false := by
  obtain ⟨gr, cr, e, hc⟩ := hT.cells ha (k := b) (by rw [rowX_len]; exact hb)
  rw [rowX_len] at e
  rw [rowX_get X hb] at hc
  have h1 := Outer.cell hO ha
  rw [e] at h1
  have h2 := hT.own a ha
  rw [e, rowX_len] at h2
  exact ⟨gr, cr, e, h1, hc, h2.frozenAt b⟩
/-- An entry changed. -/
theorem tab_set {w : World} {B n g c a b gr cr : Nat} {VR : Nat → Value} {X : Nat → Nat → Int} (v : Int) (hO : Outer w B n (.slice (some ⟨g, 0, none⟩) n c) VR) (hT : TT w B n VR (rowX X n)) (ha : a < n) (hb : b < n) (he : VR a = .slice (some ⟨gr, 0, none⟩) n cr) :
    Outer (w.setCell ⟨gr, b, none⟩ (.int .i64 v)) B n (.slice (some ⟨g, 0, none⟩) n c) VR ∧ TT (w.setCell ⟨gr, b, none⟩ (.int .i64 v)) B n VR (rowX (up2 X a b v) n) ∧ B ≤ gr := by
  have h1 := hT.own a ha
  rw [he, rowX_len] at h1
  obtain ⟨⟨cs, hcs⟩, hB, -⟩ := own_heap h1 (g := gr) rfl
  refine ⟨ownsRow_setCell_other hO (fun e => ?_) _, ⟨fun j hj => ?_, hT.dis⟩, hB⟩
  · obtain ⟨⟨cs', hc'⟩, _⟩ := own_heap hO e
    exact types_apart hcs hc' (by decide) rfl
  · by_cases e : j = a
    · subst e
      have h2 := (World.ownsRow.stored h1 b (.int .i64 v)).1
      rw [he, rowX_len]
      rw [← List.map_set, rowX_set X v hb] at h2
      exact h2
    · have hrow : rowX (up2 X a b v) n j = rowX X n j := rowX_congr fun i _ => up2_other _ _ (fun h => e h.1)
      rw [hrow]
      exact ownsRow_setCell_other (hT.own j hj) (fun e' => e (hT.dis j a gr hj ha e' (by rw [he]; rfl))) _
/-- What a table's call answers. -/
def NTab (w : World) (n : Nat) (X : Nat → Nat → Int) (e : Ending) (w' : World) : Prop :=
  ∃ v VR, e = .returned v ∧ Outer w' w.heap.size n v VR ∧ TT w' w.heap.size n VR (rowX X n) ∧ Below w.heap.size w w'
/-- The rows so far. -/
def RowsRel (w : World) (n : Nat) (v i : Value) (wr : World) : Prop :=
  ∃ m : Nat, ∃ VR g cA, m ≤ n ∧ i = .int .i64 m ∧ v = .slice (some ⟨g, 0, none⟩) m cA ∧ Outer wr w.heap.size m v VR ∧ TT wr w.heap.size m VR (rowX ownX n) ∧ Below w.heap.size w wr
/-- The row so far. -/
def RowRelX (w : World) (n m : Nat) (r k : Value) (wr : World) : Prop :=
  ∃ j : Nat, j ≤ n ∧ k = .int .i64 j ∧ wr.ownsRow w.heap.size 3 1 r j ((rowX ownX j m).map (Value.int .i64)) ∧ Below w.heap.size w wr

/-- A street does not make row a shorter, in neither sense. -/
def CzS (X : Nat → Nat → Int) (n : Nat) (ss : List Str) (i a : Nat) : Prop :=
  ∀ u v : Nat, (ss.getD i str0).1 = u → (ss.getD i str0).2.1 = v → Cz X a u v (ss.getD i str0).2.2 ∧ Cz X a v u (ss.getD i str0).2.2
/-- Made shorter, or as it was and all that was looked at is short. -/
def Chg (X0 X : Nat → Nat → Int) (n : Nat) (ch : Bool) (C : Prop) : Prop := (ch = true ∧ totX X n < totX X0 n) ∨ (ch = false ∧ X = X0 ∧ C)
theorem Chg.imp {X0 X : Nat → Nat → Int} {n : Nat} {ch : Bool} {C D : Prop} (h : Chg X0 X n ch C) (hi : C → D) : Chg X0 X n ch D := h.imp_right fun ⟨h1, h2, h3⟩ => ⟨h1, h2, hi h3⟩
theorem Chg.step {X0 X Y : Nat → Nat → Int} {n : Nat} {ch : Bool} {C D : Prop} (h : Chg X0 X n ch C) (hl : totX Y n < totX X n) : Chg X0 Y n true D := by
  left
  refine ⟨rfl, ?_⟩
  rcases h with ⟨_, h1⟩ | ⟨_, rfl, _⟩ <;> omega
/-- All that the loops over streets and rows have looked at, down to the turn. -/
def Seen (X : Nat → Nat → Int) (n : Nat) (ss : List Str) (s a t : Nat) : Prop :=
  (∀ i, i < s → ∀ b, b < n → CzS X n ss i b) ∧ (∀ b, b < a → CzS X n ss s b) ∧
    ∀ u v : Nat, (ss.getD s str0).1 = u → (ss.getD s str0).2.1 = v → (1 ≤ t → Cz X a u v (ss.getD s str0).2.2) ∧ (2 ≤ t → Cz X a v u (ss.getD s str0).2.2)
theorem seen_start (X : Nat → Nat → Int) (n : Nat) (ss : List Str) : Seen X n ss 0 0 0 := ⟨fun i hi => by omega, fun b hb => by omega, fun u v _ _ => ⟨fun h => by omega, fun h => by omega⟩⟩
theorem Seen.row {X : Nat → Nat → Int} {n : Nat} {ss : List Str} {s a : Nat} (h : Seen X n ss s a 2) : Seen X n ss s (a + 1) 0 :=
  ⟨h.1, fun b hb => by
    by_cases e : b = a
    · subst e; exact fun u v h1 h2 => ⟨(h.2.2 u v h1 h2).1 (by omega), (h.2.2 u v h1 h2).2 (by omega)⟩
    · exact h.2.1 b (by omega), fun u v _ _ => ⟨fun h => by omega, fun h => by omega⟩⟩
theorem Seen.street {X : Nat → Nat → Int} {n : Nat} {ss : List Str} {s : Nat} (h : Seen X n ss s n 0) : Seen X n ss (s + 1) 0 0 :=
  ⟨fun i hi b hb => by
    by_cases e : i = s
    · subst e; exact h.2.1 b hb
    · exact h.1 i (by omega) b hb, fun b hb => by omega, fun u v _ _ => ⟨fun h => by omega, fun h => by omega⟩⟩
theorem Seen.first {X : Nat → Nat → Int} {n : Nat} {ss : List Str} {s a u v : Nat} {L : Int} (h : Seen X n ss s a 0) (hp : ss.getD s str0 = ((u : Int), (v : Int), L)) (hc : Cz X a u v L) : Seen X n ss s a 1 :=
  ⟨h.1, h.2.1, fun u' v' h1 h2 => ⟨fun _ => by
    rw [hp] at h1 h2 ⊢
    simp only at h1 h2 ⊢
    have e1 : u' = u := by omega
    have e2 : v' = v := by omega
    rw [e1, e2]; exact hc, fun h => by omega⟩⟩
theorem Seen.second {X : Nat → Nat → Int} {n : Nat} {ss : List Str} {s a u v : Nat} {L : Int} (h : Seen X n ss s a 1) (hp : ss.getD s str0 = ((u : Int), (v : Int), L)) (hc : Cz X a v u L) : Seen X n ss s a 2 :=
  ⟨h.1, h.2.1, fun u' v' h1 h2 => ⟨fun _ => (h.2.2 u' v' h1 h2).1 (by omega), fun _ => by
    rw [hp] at h1 h2 ⊢
    simp only at h1 h2 ⊢
    have e1 : u' = u := by omega
    have e2 : v' = v := by omega
    rw [e1, e2]; exact hc⟩⟩
theorem seen_short {X : Nat → Nat → Int} {n : Nat} {ss : List Str} (hv : vnet n ss = true) (h : Rlx ss n X) (hs : Seen X n ss ss.length 0 0) : Short (SE ss) n X :=
  rlx_short h (fun p u v hp h1 h2 hu hv' a ha => by
    obtain ⟨i, hi, e⟩ := mem_getD3 hp
    have := hs.1 i hi a ha u v (by rw [e]; exact h1) (by rw [e]; exact h2)
    rw [e] at this; exact this) (se_lt hv)
/-- What a round of NetTable's loop keeps. -/
def NetRel (w : World) (ss : List Str) (n g c : Nat) (VR : Nat → Value) (X0 : Nat → Nat → Int) (s a t : Nat) (ch : Value) (wr : World) : Prop :=
  ∃ X b, ch = .bool b ∧ Rlx ss n X ∧ Chg X0 X n b (Seen X n ss s a t) ∧ Outer wr w.heap.size n (.slice (some ⟨g, 0, none⟩) n c) VR ∧ TT wr w.heap.size n VR (rowX X n) ∧ Below w.heap.size w wr
end Go.Proofs.Ytdhelapgdgekfaa
namespace Go.Proofs.Ytdhelapgdgekfaa
open Go.ChangeShapes Go.WideShapes Go.ChangeAt Go.RowKit
set_option linter.unusedVariables false
set_option maxRecDepth 4000

def half (VR : Nat → Value) (k n : Nat) : List Value := (List.range n).map fun j => if j < k then VR j else .slice none 0 0
theorem half_get {VR : Nat → Value} {k n : Nat} {v : Value} (h : k < n) : (half VR k n).set k v = half (upd VR k v) (k + 1) n := by
  unfold half
  apply List.ext_getElem?
  intro i
  rw [List.getElem?_set]
  by_cases hi : i < n
  · by_cases e : k = i
    · subst e; simp [hi, upd_at]
    · by_cases hik : i < k
      · simp [hi, e, hik, upd_other VR v (fun h => e h.symm), show i < k + 1 by omega]
      · simp [hi, e, hik, show ¬ i < k + 1 by omega]
  · simp [hi]; omega
theorem half_all (VR : Nat → Value) (n : Nat) : half VR n n = (List.range n).map VR := List.map_congr_left fun i hi => if_pos (List.mem_range.1 hi)
theorem half_none (n : Nat) : (madeCells (Value.slice none 0 0).cells n).toList = half (fun _ => .slice none 0 0) 0 n := by
  rw [show (Value.slice none 0 0).cells = #[Value.slice none 0 0] from rfl, toList_madeCells_one]
  unfold half
  apply List.ext_getElem?
  intro i
  by_cases hi : i < n <;> simp [hi]
theorem ownN_base {w : World} {B B' n : Nat} {v : Value} {xs : List Value} (h : w.ownsRow B 3 1 v n xs) (hB : B' ≤ B) : w.ownsRow B' 3 1 v n xs := by
  obtain ⟨h1, h2⟩ := h
  refine ⟨h1, ?_⟩
  rcases h2 with h2 | ⟨g, cap, cur, hv, hg, r⟩
  · exact .inl h2
  · exact .inr ⟨g, cap, cur, hv, Nat.le_trans hB hg, r⟩
theorem ownG_base {w : World} {B B' n s : Nat} {e : TypeId} {v : Value} {xs : List Value} (h : w.ownsRow B e s v n xs) (hB : B' ≤ B) : w.ownsRow B' e s v n xs := by
  obtain ⟨h1, h2⟩ := h
  refine ⟨h1, ?_⟩
  rcases h2 with h2 | ⟨g, cap, cur, hv, hg, r⟩
  · exact .inl h2
  · exact .inr ⟨g, cap, cur, hv, Nat.le_trans hB hg, r⟩
theorem TT.base {w : World} {B B' m : Nat} {VR : Nat → Value} {ls : Nat → List Int} (h : TT w B m VR ls) (hB : B' ≤ B) : TT w B' m VR ls :=
  ⟨fun j hj => ownG_base (h.own j hj) hB, h.dis⟩
/-- A row stored into the table. -/
theorem tabH_step {wr wC : World} {B n k g : Nat} {VR : Nat → Value} {ls : Nat → List Int} {v : Value} (hk : k < n) (hB : B ≤ wr.heap.size) (hT : TT wr B k VR ls) (hO : wr.ownsRow B 37 1 (.slice (some ⟨g, 0, none⟩) n n) n (half VR k n))
    (hb : Below wr.heap.size wr wC) (hrow : wC.ownsRow wr.heap.size 3 1 v (ls k).length ((ls k).map (Value.int .i64))) :
    (∃ x, wC.cell? ⟨g, k, none⟩ = some x) ∧ wC.frozen? ⟨g, k, none⟩ = false ∧ (wC.setCell ⟨g, k, none⟩ v).ownsRow B 37 1 (.slice (some ⟨g, 0, none⟩) n n) n (half (upd VR k v) (k + 1) n) ∧
      TT (wC.setCell ⟨g, k, none⟩ v) B (k + 1) (upd VR k v) ls ∧ B ≤ g := by
  have hOC := ownN_below hO hb
  have hTC := hT.below hb
  obtain ⟨x, hx⟩ := own_cell hOC (j := k) (by omega) (by simp [half])
  obtain ⟨⟨cs, hc⟩, hgB, _⟩ := own_heap hOC (g := g) rfl
  have hst := (hOC.stored k v).1
  rw [half_get hk] at hst
  have hrow2 : (wC.setCell ⟨g, k, none⟩ v).ownsRow B 3 1 v (ls k).length ((ls k).map (Value.int .i64)) := ownN_base (ownsRow_setCell_other hrow (fun e => by
    obtain ⟨⟨cs', hc'⟩, _⟩ := own_heap hrow e
    exact types_apart hc hc' (by decide) rfl) _) hB
  refine ⟨⟨x, hx⟩, hOC.frozenAt k, hst, ⟨fun j hj => ?_, fun i j g' hi hj h1 h2 => ?_⟩, hgB⟩
  · by_cases e : j = k
    · subst e
      rw [upd_at]
      exact hrow2
    · rw [upd_other _ _ e]
      exact (hTC.store (g := g) (k := k) (v := v) hc (by decide)).own j (by omega)
  · have hlt : ∀ {i}, i < k → (VR i).ownBlock = some g' → g' < wr.heap.size := fun hi e => (own_heap (hT.own _ hi) e).2.2
    by_cases e1 : i = k <;> by_cases e2 : j = k
    · omega
    · rw [e1, upd_at] at h1; rw [upd_other _ _ e2] at h2
      have := (own_heap hrow h1).2.1
      have := hlt (by omega) h2; omega
    · rw [e2, upd_at] at h2; rw [upd_other _ _ e1] at h1
      have := (own_heap hrow h2).2.1
      have := hlt (by omega) h1; omega
    · rw [upd_other _ _ e1] at h1; rw [upd_other _ _ e2] at h2
      exact hT.dis i j g' (by omega) (by omega) h1 h2
/-- A row's element changed. -/
theorem TT.setAt {w : World} {B m R c n j : Nat} {VR : Nat → Value} {ls : Nat → List Int} (hT : TT w B m VR ls) (hj : j < m) (hl : (ls j).length = n) (he : VR j = .slice (some ⟨R, 0, none⟩) n c) (b : Nat) (x : Int) :
    TT (w.setCell ⟨R, b, none⟩ (.int .i64 x)) B m VR (upd ls j ((ls j).set b x)) ∧ B ≤ R := by
  have h1 := hT.own j hj
  rw [he, hl] at h1
  obtain ⟨⟨cs, hcs⟩, hB, -⟩ := own_heap h1 (g := R) rfl
  refine ⟨⟨fun i hi => ?_, hT.dis⟩, hB⟩
  by_cases e : i = j
  · subst e
    have h2 := (World.ownsRow.stored h1 b (.int .i64 x)).1
    rw [upd_at, he, List.length_set, hl]
    rw [← List.map_set] at h2
    exact h2
  · rw [upd_other _ _ e]
    exact ownsRow_setCell_other (hT.own i hi) (fun e' => e (hT.dis i j R hi hj e' (by rw [he]; rfl))) _
/-- The table itself is not touched by that. -/
theorem outer_setInt {w : World} {B n R b : Nat} {v : Value} {xs : List Value} {u : Value} (hO : w.ownsRow B 37 1 v n xs) {cs : Array Value} {z : Nat × Nat} (hR : w.heap[R]? = some (.cells cs 3 z)) : (w.setCell ⟨R, b, none⟩ u).ownsRow B 37 1 v n xs :=
  ownsRow_setCell_other hO (fun e => by
    obtain ⟨⟨cs', hc'⟩, _⟩ := own_heap hO e
    exact types_apart hR hc' (by decide) rfl) _
end Go.Proofs.Ytdhelapgdgekfaa
namespace Go.Proofs.Ytdhelapgdgekfaa
open Go.ChangeShapes Go.WideShapes Go.ChangeAt Go.RowKit
set_option linter.unusedVariables false

/-- A quiet call inside a region that draws its order, whatever has been drawn before it. -/
theorem quiet_gen {P : Program} {f : FuncId} {args : Array Value} {W : World} {v : Value} {R : Nat → World}
    (h : Calls P f args W fun e w' => e = .returned v ∧ W = w') (hW : ∃ m, W = R m) : Calls P f args W fun e w'' => e = .returned v ∧ ∃ m, w'' = R m :=
  h.mono fun _ _ ⟨he, hm⟩ => ⟨he, by obtain ⟨m, e⟩ := hW; exact ⟨m, hm.symm.trans e⟩⟩
theorem inRange_yes (n a b : Int) (w : World) (h1 : a ≤ n) (h2 : n ≤ b) :
    Calls Try.prog 68 #[.int .i64 n, .int .i64 a, .int .i64 b] w fun e w' => e = .returned (.bool true) ∧ w = w' :=
  (inRange_any n a b w).mono fun _ _ ⟨he, hw⟩ => ⟨by rw [he]; simp [h1, h2], hw⟩
theorem inRange_no (n a b : Int) (w : World) (h : n < a ∨ b < n) :
    Calls Try.prog 68 #[.int .i64 n, .int .i64 a, .int .i64 b] w fun e w' => e = .returned (.bool false) ∧ w = w' :=
  (inRange_any n a b w).mono fun _ _ ⟨he, hw⟩ => ⟨by rw [he]; rcases h with h | h <;> simp <;> omega, hw⟩

end Go.Proofs.Ytdhelapgdgekfaa
namespace Go.Proofs.Ytdhelapgdgekfaa
open Go.ChangeShapes Go.WideShapes Go.ChangeAt Go.RowKit
set_option linter.unusedVariables false

/-- The roads as the cells hold them. -/
def flat : List (Int × Int) → List Int
  | [] => []
  | p :: r => p.1 :: p.2 :: flat r
theorem flat_len : ∀ ts, (flat ts).length = ts.length * 2
  | [] => rfl
  | p :: r => by simp only [flat, List.length_cons, flat_len r]; omega
theorem flat_to : ∀ (ts : List (Int × Int)) k, k < ts.length → (flat ts).getD (k * 2) 0 = (ts.getD k (-1, 0)).1
  | [], k, h => by simp at h
  | p :: r, 0, h => rfl
  | p :: r, k + 1, h => by
    rw [show (k + 1) * 2 = k * 2 + 1 + 1 by omega]
    simp only [flat, List.getD_cons_succ]
    exact flat_to r k (by simpa using h)
theorem flat_long : ∀ (ts : List (Int × Int)) k, k < ts.length → (flat ts).getD (k * 2 + 1) 0 = (ts.getD k (-1, 0)).2
  | [], k, h => by simp at h
  | p :: r, 0, h => rfl
  | p :: r, k + 1, h => by
    rw [show (k + 1) * 2 + 1 = k * 2 + 1 + 1 + 1 by omega]
    simp only [flat, List.getD_cons_succ]
    exact flat_long r k (by simpa using h)
theorem flat_append : ∀ a b, flat (a ++ b) = flat a ++ flat b
  | [], b => rfl
  | p :: r, b => by simp [flat, flat_append r b]
theorem flat_set0 : ∀ (ts : List (Int × Int)) (k : Nat) {d : Int}, k < ts.length → flat (ts.set k (d, (ts.getD k (-1, 0)).2)) = (flat ts).set (k * 2) d
  | [], k, _, h => by simp at h
  | p :: r, 0, _, h => rfl
  | p :: r, k + 1, d, h => by
    rw [show (k + 1) * 2 = k * 2 + 1 + 1 by omega]
    simp only [List.set_cons_succ, flat, List.getD_cons_succ]
    rw [flat_set0 r k (by simpa using h)]
theorem flat_set1 : ∀ (ts : List (Int × Int)) (k : Nat) {d : Int}, k < ts.length → flat (ts.set k ((ts.getD k (-1, 0)).1, d)) = (flat ts).set (k * 2 + 1) d
  | [], k, _, h => by simp at h
  | p :: r, 0, _, h => rfl
  | p :: r, k + 1, d, h => by
    rw [show (k + 1) * 2 + 1 = k * 2 + 1 + 1 + 1 by omega]
    simp only [List.set_cons_succ, flat, List.getD_cons_succ]
    rw [flat_set1 r k (by simpa using h)]
/-- The slice with address A reads as the roads ts, below block B. -/
def RdR (w : World) (B : Nat) (A : Option Addr) (ts : List (Int × Int)) : Prop := RdI w B A (flat ts)
theorem RdR.x {w : World} {B : Nat} {A : Option Addr} {ts : List (Int × Int)} (h : RdR w B A ts) {k : Nat} (hk : k < ts.length) :
    ∃ b off x y, A = some ⟨b, off, none⟩ ∧ b < B ∧ Hid (ts.getD k (-1, 0) = (x, y)) ∧ w.cell? ⟨b, off + k * 2, none⟩ = some (.int .i64 x) ∧ w.cell? ⟨b, off + k * 2 + 1, none⟩ = some (.int .i64 y) := by
  have hl := flat_len ts
  obtain ⟨b, off, e, hb, hc⟩ := h (by omega)
  refine ⟨b, off, (ts.getD k (-1, 0)).1, (ts.getD k (-1, 0)).2, e, hb, rfl, ?_, ?_⟩
  · rw [hc _ (by omega), flat_to _ _ hk]
  · rw [Nat.add_assoc, hc _ (by omega), flat_long _ _ hk]
theorem RdR.keep {w w' : World} {B : Nat} {A : Option Addr} {ts : List (Int × Int)} (h : RdR w B A ts) (hk : ∀ p : Addr, p.block < B → w'.cell? p = w.cell? p) : RdR w' B A ts := RdI.keep h hk
theorem RdR.below {w w' : World} {B : Nat} {A : Option Addr} {ts : List (Int × Int)} (h : RdR w B A ts) (hb : Below B w w') : RdR w' B A ts := RdI.below h hb
theorem RdR.more {w : World} {B B' : Nat} {A : Option Addr} {ts : List (Int × Int)} (h : RdR w B A ts) (hB : B ≤ B') : RdR w B' A ts := RdI.more h hB
theorem RdR.drewN {w : World} {B : Nat} {A : Option Addr} {ts : List (Int × Int)} (h : RdR w B A ts) (n : Nat) : RdR (w.drewN n) B A ts := h
theorem RdR.nil (w : World) (B : Nat) (A : Option Addr) : RdR w B A [] := RdI.nil w B A
/-- A slice cut at its front. -/
theorem flat_drop : ∀ (ts : List (Int × Int)) k, flat (ts.drop k) = (flat ts).drop (k * 2)
  | [], k => by simp [flat]
  | p :: r, 0 => by simp
  | p :: r, k + 1 => by
    rw [List.drop_succ_cons, flat_drop r k, show (k + 1) * 2 = k * 2 + 1 + 1 by omega]
    simp [flat]
theorem flat_take : ∀ (ts : List (Int × Int)) k, flat (ts.take k) = (flat ts).take (k * 2)
  | [], k => by simp [flat]
  | p :: r, 0 => by simp [flat]
  | p :: r, k + 1 => by
    rw [show (k + 1) * 2 = k * 2 + 1 + 1 by omega]
    simp [flat, flat_take r k]
theorem RdR.take {w : World} {B : Nat} {A : Option Addr} {ts : List (Int × Int)} (h : RdR w B A ts) (k : Nat) : RdR w B A (ts.take k) := by
  intro hp
  rw [flat_take] at hp ⊢
  rw [List.length_take] at hp
  obtain ⟨b, off, e, hb, hc⟩ := h (by omega)
  refine ⟨b, off, e, hb, fun i hi => ?_⟩
  rw [List.length_take] at hi
  rw [hc i (by omega)]
  congr 2
  simp only [List.getD, List.getElem?_take]
  rw [if_pos (by omega)]

/-- One road of a node: to a node ahead, its length in 1..9. -/
def okRoad (i : Nat) (p : Int × Int) : Bool := decide (0 ≤ p.1) && (decide (p.1 < i) && (decide (1 ≤ p.2) && decide (p.2 ≤ 9)))
def okFromT : Nat → List (Int × Int) → Bool
  | _, [] => true
  | i, p :: r => okRoad i p && okFromT (i + 1) r
/-- ValidTree. -/
def vt (ts : List (Int × Int)) : Bool := decide (ts.length ≤ 7) && (match ts with | [] => false | p :: r => (decide (p.1 = -1) && decide (p.2 = 0)) && okFromT 1 r)
theorem okFromT_get : ∀ {r : List (Int × Int)} {i : Nat}, okFromT i r = true → ∀ k, k < r.length → okRoad (i + k) (r.getD k (-1, 0)) = true
  | [], _, _, k, hk => by simp at hk
  | p :: r, i, h, 0, hk => by simp only [okFromT, Bool.and_eq_true] at h; exact h.1
  | p :: r, i, h, k + 1, hk => by
    simp only [okFromT, Bool.and_eq_true] at h
    have := okFromT_get h.2 k (by simpa using hk)
    rw [show i + 1 + k = i + (k + 1) by omega] at this
    exact this
theorem okFromT_of : ∀ {r : List (Int × Int)} {i : Nat}, (∀ k, k < r.length → okRoad (i + k) (r.getD k (-1, 0)) = true) → okFromT i r = true
  | [], _, _ => rfl
  | p :: r, i, h => by
    simp only [okFromT, Bool.and_eq_true]
    refine ⟨h 0 (by simp), okFromT_of fun k hk => ?_⟩
    have := h (k + 1) (by simpa using hk)
    rw [show i + (k + 1) = i + 1 + k by omega] at this
    exact this
theorem vt_iff (ts : List (Int × Int)) : vt ts = true ↔ 1 ≤ ts.length ∧ ts.length ≤ 7 ∧ (ts.getD 0 (-1, 0)).1 = -1 ∧ (ts.getD 0 (-1, 0)).2 = 0 ∧ ∀ k, 1 ≤ k → k < ts.length → okRoad k (ts.getD k (-1, 0)) = true := by
  cases ts with
  | nil => simp [vt]
  | cons p r =>
    simp only [vt, Bool.and_eq_true, decide_eq_true_eq, List.length_cons, List.getD_cons_zero]
    constructor
    · rintro ⟨h1, ⟨h2, h3⟩, h4⟩
      refine ⟨by omega, h1, h2, h3, fun k hk hl => ?_⟩
      obtain ⟨m, rfl⟩ : ∃ m, k = m + 1 := ⟨k - 1, by omega⟩
      have := okFromT_get h4 m (by omega)
      rw [show 1 + m = m + 1 by omega] at this
      simpa using this
    · rintro ⟨h0, h1, h2, h3, h4⟩
      refine ⟨h1, ⟨h2, h3⟩, okFromT_of fun k hk => ?_⟩
      have := h4 (k + 1) (by omega) (by omega)
      rw [show 1 + k = k + 1 by omega]
      simpa using this
theorem vt_ahead {ts : List (Int × Int)} (h : vt ts = true) : Ahead ts := by
  obtain ⟨h1, h2, h3, h4, h5⟩ := (vt_iff ts).1 h
  intro i hi hl
  have := h5 i hi hl
  simp only [okRoad, Bool.and_eq_true, decide_eq_true_eq] at this
  unfold tto tlg
  omega
theorem vt_to {ts : List (Int × Int)} (h : vt ts = true) {i : Nat} (hi : 1 ≤ i) (hl : i < ts.length) : (ts.getD i (-1, 0)).1 = tto ts i := by
  obtain ⟨h1, h2, h3, h4, h5⟩ := (vt_iff ts).1 h
  have := h5 i hi hl
  simp only [okRoad, Bool.and_eq_true, decide_eq_true_eq] at this
  unfold tto
  omega
/-- Fewer nodes are a tree. -/
theorem vt_take {ts : List (Int × Int)} (h : vt ts = true) {k : Nat} (hk : 1 ≤ k) : vt (ts.take k) = true := by
  obtain ⟨h1, h2, h3, h4, h5⟩ := (vt_iff ts).1 h
  have hg : ∀ i, i < k → (ts.take k).getD i (-1, 0) = ts.getD i (-1, 0) := fun i hi => by
    simp only [List.getD, List.getElem?_take]; rw [if_pos hi]
  rw [vt_iff]
  rw [List.length_take, hg 0 (by omega)]
  refine ⟨by omega, by omega, h3, h4, fun i hi hl => ?_⟩
  rw [hg i (by omega)]
  exact h5 i hi (by omega)
theorem vt_no_len {ts : List (Int × Int)} (h : ts.length < 1 ∨ 7 < ts.length) : vt ts = false := by
  rw [Bool.eq_false_iff]; intro h'
  obtain ⟨h1, h2, -⟩ := (vt_iff ts).1 h'
  omega
theorem vt_no_head {ts : List (Int × Int)} {x y : Int} (hx : ts.getD 0 (-1, 0) = (x, y)) (h : x ≠ -1 ∨ y ≠ 0) : vt ts = false := by
  rw [Bool.eq_false_iff]; intro h'
  obtain ⟨h1, h2, h3, h4, -⟩ := (vt_iff ts).1 h'
  rw [hx] at h3 h4
  simp only at h3 h4
  omega
theorem vt_no_at {ts : List (Int × Int)} {k : Nat} {x y : Int} (hk : 1 ≤ k) (hl : k < ts.length) (hx : ts.getD k (-1, 0) = (x, y)) (h : x < 0 ∨ (k : Int) ≤ x ∨ y < 1 ∨ 9 < y) : vt ts = false := by
  rw [Bool.eq_false_iff]; intro h'
  obtain ⟨h1, h2, h3, h4, h5⟩ := (vt_iff ts).1 h'
  have := h5 k hk hl
  rw [hx] at this
  simp only [okRoad, Bool.and_eq_true, decide_eq_true_eq] at this
  omega
/-- So far, all roads are fine. -/
def OkT (ts : List (Int × Int)) (k : Nat) : Prop := ∀ i, 1 ≤ i → i < k → okRoad i (ts.getD i (-1, 0)) = true
theorem OkT.step {ts : List (Int × Int)} {k : Nat} {x y : Int} (h : OkT ts k) (hx : ts.getD k (-1, 0) = (x, y)) (h1 : 0 ≤ x) (h2 : x < k) (h3 : 1 ≤ y) (h4 : y ≤ 9) : OkT ts (k + 1) := fun i hi hl => by
  by_cases e : i = k
  · subst e; rw [hx]; simp [okRoad, h1, h2, h3, h4]
  · exact h i hi (by omega)
theorem OkT.one (ts : List (Int × Int)) : OkT ts 1 := fun i h1 h2 => by omega
theorem OkT.step0 {ts : List (Int × Int)} (h : OkT ts 0) : OkT ts 1 := OkT.one ts
theorem vt_yes {ts : List (Int × Int)} {k : Nat} (h : OkT ts k) (h1 : 1 ≤ ts.length) (h7 : ts.length ≤ 7) (hk : ts.length ≤ k) (h0 : ts.getD 0 (-1, 0) = (-1, 0)) : vt ts = true :=
  (vt_iff ts).2 ⟨h1, h7, by rw [h0], by rw [h0], fun i hi hl => h i hi (by omega)⟩
end Go.Proofs.Ytdhelapgdgekfaa
