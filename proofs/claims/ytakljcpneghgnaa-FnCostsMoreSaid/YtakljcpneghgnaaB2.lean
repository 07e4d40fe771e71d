/-
  Nets: the table of shortest ways by streets; making it shorter street by street comes to an end.
  Conditions: as each theorem states.
-/
import Derived.Test.YtakljcpneghgnaaB1
import Derived.Test.YtakljcpneghgnaaT6
namespace Go.Proofs.Ytakljcpneghgnaa
open Go.ChangeShapes Go.WideShapes Go.ChangeAt Go.RowKit
set_option linter.unusedVariables false

/-- The streets, both ways. -/
def SE (ss : List Str) (u v : Nat) (L : Int) : Prop := ∃ p, p ∈ ss ∧ L = p.2.2 ∧ ((p.1 = u ∧ p.2.1 = v) ∨ (p.1 = v ∧ p.2.1 = u))
theorem SE.symm {ss : List Str} {u v : Nat} {L : Int} (h : SE ss u v L) : SE ss v u L := by
  obtain ⟨p, h1, h2, h3⟩ := h
  exact ⟨p, h1, h2, h3.symm⟩
theorem SE.pos {n : Int} {ss : List Str} (hv : vnet n ss = true) {u v : Nat} {L : Int} (h : SE ss u v L) : 1 ≤ L ∧ L ≤ 9 ∧ (u : Int) < n ∧ (v : Int) < n := by
  obtain ⟨p, h1, h2, h3⟩ := h
  have := ((vnet_iff n ss).1 hv).2.2 p h1
  unfold OkS at this
  omega

/-- How many nodes a row reaches. -/
def cntX (X : Nat → Nat → Int) (a : Nat) : Nat → Nat
  | 0 => 0
  | m + 1 => cntX X a m + (if 0 ≤ X a m then 1 else 0)
theorem cntX_le (X : Nat → Nat → Int) (a : Nat) : ∀ m, cntX X a m ≤ m
  | 0 => Nat.le_refl _
  | m + 1 => by have := cntX_le X a m; simp only [cntX]; split <;> omega
def up2 (X : Nat → Nat → Int) (a b : Nat) (v : Int) : Nat → Nat → Int := fun i j => if i = a ∧ j = b then v else X i j
theorem up2_at (X : Nat → Nat → Int) (a b : Nat) (v : Int) : up2 X a b v a b = v := if_pos ⟨rfl, rfl⟩
theorem up2_other (X : Nat → Nat → Int) {a b i j : Nat} (v : Int) (h : ¬ (i = a ∧ j = b)) : up2 X a b v i j = X i j := if_neg h
theorem cntX_row {X : Nat → Nat → Int} {a b i : Nat} {v : Int} (h : i ≠ a) : ∀ m, cntX (up2 X a b v) i m = cntX X i m
  | 0 => rfl
  | m + 1 => by simp only [cntX]; rw [cntX_row h m, up2_other _ _ (fun e => h e.1)]
theorem cntX_up {X : Nat → Nat → Int} {a b : Nat} {v : Int} (hv : 0 ≤ v) : ∀ m, cntX (up2 X a b v) a m = cntX X a m + (if b < m ∧ X a b < 0 then 1 else 0)
  | 0 => by simp [cntX]
  | m + 1 => by
    simp only [cntX]
    rw [cntX_up hv m]
    by_cases e : b = m
    · subst e
      rw [up2_at, if_pos hv]
      repeat' split
      all_goals omega
    · rw [up2_other _ _ (fun e' => e e'.2.symm)]
      repeat' split
      all_goals omega

/-- The table while it is made shorter: each entry is a way's length or -1. -/
structure Rlx (ss : List Str) (n : Nat) (X : Nat → Nat → Int) : Prop where
  zero : ∀ a, a < n → X a a = 0
  way : ∀ a b, a < n → b < n → X a b = -1 ∨ (0 ≤ X a b ∧ Wk (SE ss) n a b (X a b))
  bd : ∀ a b, a < n → b < n → X a b + 9 ≤ 9 * (cntX X a n : Int)
theorem Rlx.le {ss : List Str} {n : Nat} {X : Nat → Nat → Int} (h : Rlx ss n X) (hn : n ≤ 7) {a b : Nat} (ha : a < n) (hb : b < n) : -1 ≤ X a b ∧ X a b ≤ 54 := by
  have h1 := h.bd a b ha hb
  have h2 := cntX_le X a n
  rcases h.way a b ha hb with h3 | ⟨h3, -⟩ <;> omega
def ownX (a b : Nat) : Int := if a = b then 0 else -1
theorem cntX_own (a : Nat) : ∀ m, cntX ownX a m = if a < m then 1 else 0
  | 0 => rfl
  | m + 1 => by
    simp only [cntX]
    rw [cntX_own a m]
    unfold ownX
    by_cases h : a = m
    · subst h; simp
    · rw [if_neg h]
      by_cases h2 : a < m
      · rw [if_pos h2, if_neg (by omega), if_pos (by omega)]
      · rw [if_neg h2, if_neg (by omega), if_neg (by omega)]
theorem rlx_start (ss : List Str) (n : Nat) : Rlx ss n ownX where
  zero a _ := by simp [ownX]
  way a b ha hb := by
    unfold ownX
    by_cases h : a = b
    · subst h; rw [if_pos rfl]; exact .inr ⟨Int.le_refl _, Wk.nil ha⟩
    · rw [if_neg h]; exact .inl rfl
  bd a b ha hb := by rw [cntX_own, if_pos ha]; unfold ownX; split <;> omega
/-- One entry shorter. -/
theorem rlx_step {ss : List Str} {n : Nat} {X : Nat → Nat → Int} (h : Rlx ss n X) {at' u v : Nat} {L : Int} (ha : at' < n) (hu : u < n) (hv : v < n) (he : SE ss u v L) (hL : 1 ≤ L ∧ L ≤ 9) (h0 : 0 ≤ X at' u) (hc : X at' v < 0 ∨ X at' u + L < X at' v) :
    Rlx ss n (up2 X at' v (X at' u + L)) where
  zero a ha' := by
    by_cases e : a = at' ∧ a = v
    · obtain ⟨e1, e2⟩ := e
      subst e1
      rw [← e2, h.zero a ha'] at hc
      omega
    · rw [up2_other _ _ e]; exact h.zero a ha'
  way a b ha' hb := by
    by_cases e : a = at' ∧ b = v
    · obtain ⟨rfl, rfl⟩ := e
      rw [up2_at]
      rcases h.way a u ha hu with h1 | ⟨_, h1⟩
      · omega
      · exact .inr ⟨by omega, Wk.snoc _ _ _ _ h1 he hv⟩
    · rw [up2_other _ _ e]; exact h.way a b ha' hb
  bd a b ha' hb := by
    by_cases e1 : a = at'
    · subst e1
      rw [cntX_up (by omega)]
      have h1 := h.bd a u ha hu
      have h2 := h.bd a b ha hb
      have h3 := h.bd a v ha hv
      by_cases e : b = v
      · subst e
        rw [up2_at]
        by_cases hn : X a b < 0
        · rw [if_pos ⟨hb, hn⟩]; omega
        · rw [if_neg (by omega)]; omega
      · rw [up2_other _ _ (fun e' => e e'.2)]
        omega
    · rw [cntX_row e1, up2_other _ _ (fun e => e1 e.1)]; exact h.bd a b ha' hb

/-- What goes down with each step. -/
def sumR (f : Nat → Nat) : Nat → Nat
  | 0 => 0
  | m + 1 => sumR f m + f m
theorem sumR_congr {f g : Nat → Nat} : ∀ {m}, (∀ i, i < m → f i = g i) → sumR f m = sumR g m
  | 0, _ => rfl
  | m + 1, h => by simp only [sumR]; rw [sumR_congr fun i hi => h i (by omega), h m (by omega)]
theorem sumR_lt {f g : Nat → Nat} {k : Nat} : ∀ {m}, k < m → (∀ i, i < m → i ≠ k → f i = g i) → f k < g k → sumR f m < sumR g m
  | 0, h, _, _ => by omega
  | m + 1, h, he, hk => by
    simp only [sumR]
    by_cases e : k = m
    · subst e
      rw [sumR_congr fun i hi => he i (by omega) (by omega)]; omega
    · have := sumR_lt (m := m) (by omega) (fun i hi hne => he i (by omega) hne) hk
      rw [he m (by omega) (fun e' => e e'.symm)]; omega
def ent (x : Int) : Nat := if x < 0 then 64 else x.toNat
def totX (X : Nat → Nat → Int) (n : Nat) : Nat := sumR (fun a => sumR (fun b => ent (X a b)) n) n
theorem totX_step {X : Nat → Nat → Int} {n a b : Nat} {v : Int} (ha : a < n) (hb : b < n) (hv : 0 ≤ v ∧ v < 64) (h : X a b < 0 ∨ v < X a b) : totX (up2 X a b v) n < totX X n := by
  refine sumR_lt (k := a) ha (fun i hi hne => ?_) ?_
  · refine sumR_congr fun j hj => ?_
    rw [up2_other _ _ (fun e => hne e.1)]
  · refine sumR_lt (k := b) hb (fun j hj hne => ?_) ?_
    · rw [up2_other _ _ (fun e => hne e.2)]
    · rw [up2_at]; unfold ent; rw [if_neg (by omega)]; split <;> omega

/-- A street's way in one sense does not make row a shorter. -/
def Cz (X : Nat → Nat → Int) (a u v : Nat) (L : Int) : Prop := 0 ≤ X a u → 0 ≤ X a v ∧ X a v ≤ X a u + L
theorem rlx_short {ss : List Str} {n : Nat} {X : Nat → Nat → Int} (h : Rlx ss n X) (hs : ∀ p : Str, ∀ u v : Nat, p ∈ ss → p.1 = u → p.2.1 = v → u < n → v < n → ∀ a, a < n → Cz X a u v p.2.2 ∧ Cz X a v u p.2.2) (hN : ∀ u v L, SE ss u v L → u < n ∧ v < n) : Short (SE ss) n X where
  zero := h.zero
  step a u v L ha he hv h0 := by
    have hu := (hN u v L he).1
    obtain ⟨p, hp, rfl, ⟨h1, h2⟩ | ⟨h1, h2⟩⟩ := he
    · exact (hs p u v hp h1 h2 hu hv a ha).1 h0
    · exact (hs p v u hp h1 h2 hv hu a ha).2 h0
  way a b ha hb := h.way a b ha hb
theorem se_lt {n : Nat} {ss : List Str} (hv : vnet n ss = true) : ∀ u v L, SE ss u v L → u < n ∧ v < n := fun u v L h => by
  have := SE.pos hv h
  omega
theorem exists_short {n : Nat} {ss : List Str} (hv : vnet n ss = true) : ∀ (m : Nat) (X : Nat → Nat → Int), totX X n = m → Rlx ss n X → ∃ Y, Short (SE ss) n Y ∧ ∀ a b, a < n → b < n → -1 ≤ Y a b ∧ Y a b ≤ 54 := by
  intro m
  induction m using Nat.strongRecOn with
  | ind m ih =>
    intro X hm h
    have h7 := ((vnet_iff _ _).1 hv).1
    by_cases hc : ∃ a u v L, a < n ∧ u < n ∧ v < n ∧ SE ss u v L ∧ ¬ Cz X a u v L
    · obtain ⟨a, u, v, L, ha, hu, hv', he, hcz⟩ := hc
      have hL := SE.pos hv he
      have h0 : 0 ≤ X a u := by
        by_cases h0 : 0 ≤ X a u
        · exact h0
        · exact absurd (fun h1 => absurd h1 h0) hcz
      have hlt : X a v < 0 ∨ X a u + L < X a v := by
        by_cases h1 : X a v < 0 ∨ X a u + L < X a v
        · exact h1
        · exact absurd (fun _ => ⟨by omega, by omega⟩) hcz
      have hb := h.le (by omega) ha hu
      exact ih _ (by rw [← hm]; exact totX_step ha hv' (by omega) hlt) _ rfl (rlx_step h ha hu hv' he ⟨hL.1, hL.2.1⟩ h0 hlt)
    · refine ⟨X, rlx_short h (fun p u v hp h1 h2 hu hv' a ha => ⟨?_, ?_⟩) (se_lt hv), fun a b ha hb => h.le (by omega) ha hb⟩
      · by_cases hz : Cz X a u v p.2.2
        · exact hz
        · exact absurd ⟨a, u, v, _, ha, hu, hv', ⟨p, hp, rfl, .inl ⟨h1, h2⟩⟩, hz⟩ hc
      · by_cases hz : Cz X a v u p.2.2
        · exact hz
        · exact absurd ⟨a, v, u, _, ha, hv', hu, ⟨p, hp, rfl, .inr ⟨h1, h2⟩⟩, hz⟩ hc
open Classical in
/-- The table of shortest ways. -/
noncomputable def sht (n : Nat) (ss : List Str) : Nat → Nat → Int := if h : ∃ Y, Short (SE ss) n Y ∧ ∀ a b, a < n → b < n → -1 ≤ Y a b ∧ Y a b ≤ 54 then Classical.choose h else fun _ _ => 0
theorem sht_spec {n : Nat} {ss : List Str} (hv : vnet n ss = true) : Short (SE ss) n (sht n ss) ∧ ∀ a b, a < n → b < n → -1 ≤ sht n ss a b ∧ sht n ss a b ≤ 54 := by
  have h := exists_short hv _ ownX rfl (rlx_start ss n)
  unfold sht
  rw [dif_pos h]
  exact Classical.choose_spec h
theorem sht_is {n : Nat} {ss : List Str} (hv : vnet n ss = true) {X : Nat → Nat → Int} (h : Short (SE ss) n X) {a b : Nat} (ha : a < n) (hb : b < n) : X a b = sht n ss a b := h.unique (sht_spec hv).1 ha hb
end Go.Proofs.Ytakljcpneghgnaa
