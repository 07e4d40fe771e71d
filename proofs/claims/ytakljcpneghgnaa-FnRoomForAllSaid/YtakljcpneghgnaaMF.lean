/-
  Facts on what is taken and blocked: without the last call, at most all room, room for all.
  Conditions: as each theorem states.
-/
import Derived.Test.YtakljcpneghgnaaWD
import Derived.Test.YtakljcpneghgnaaTO
namespace Go.Proofs.Ytakljcpneghgnaa
open Go.ChangeShapes Go.WideShapes Go.ChangeAt Go.RowKit
set_option linter.unusedVariables false

theorem lbk_less {R : Nat → Int} {o : Nat → Nat → Bool} {H n : Nat} : ∀ S, lbk R o H n S ≤ lbk R o H (n + 1) S ∧ lbk R o H (n + 1) S ≤ lbk R o H n S + 1
  | 0 => by simp only [lbk]; omega
  | S + 1 => by
    have := lbk_less (R := R) (o := o) (H := H) (n := n) S
    simp only [lbk, blk]
    split <;> omega
theorem lbk_congr {R : Nat → Int} {o o' : Nat → Nat → Bool} {H n : Nat} (h : ∀ T i, i < n → o T i = o' T i) : ∀ S, lbk R o H n S = lbk R o' H n S
  | 0 => rfl
  | S + 1 => by simp only [lbk]; rw [lbk_congr h S, blk_congr fun i hi => h S i hi]
theorem getD_takeV {L : List (List Int)} {i k : Nat} (hi : i < k) : (L.take k).getD i [] = L.getD i [] := by
  simp only [List.getD, List.getElem?_take]
  rw [if_pos hi]
/-- One call fewer: as many, or one fewer. -/
theorem blv_take {room : List Int} {wish : List (List Int)} {n : Nat} (hn : wish.length = n + 1) (hv : vroom room wish = true) : blv room (wish.take n) = blv room wish ∨ blv room (wish.take n) = blv room wish - 1 := by
  have h := lbk_less (R := rR room) (o := oW wish) (H := room.length) (n := n) (2 ^ room.length)
  have e : (wish.take n).length = n := by rw [List.length_take]; omega
  unfold blv
  rw [if_pos hv, if_pos (vroom_take hv n), e, hn, lbk_congr (o := oW (wish.take n)) (o' := oW wish) fun T i hi => by unfold oW; rw [getD_takeV hi]]
  omega
theorem rsm_all {room : List Int} {H : Nat} : ∀ k, k ≤ H → rsm (rR room) (2 ^ H - 1) k = totI room k
  | 0, _ => rfl
  | k + 1, hk => by
    simp only [rsm, totI]
    rw [rsm_all k (by omega), Nat.testBit_two_pow_sub_one]
    have : decide (k < H) = true := decide_eq_true (by omega)
    rw [this]; rfl
theorem blk_none {o : Nat → Bool} : ∀ n, (∀ i, i < n → o i = false) → blk o n = 0
  | 0, _ => rfl
  | n + 1, h => by simp only [blk]; rw [blk_none n fun i hi => h i (by omega), h n (by omega)]; rfl
theorem blv_total {room : List Int} {wish : List (List Int)} (hv : vroom room wish = true) : blv room wish ≤ wish.length ∧ blv room wish ≤ totI room room.length := by
  obtain ⟨h4, h7, hR, hW⟩ := (vroom_iff _ _).1 hv
  unfold blv
  rw [if_pos hv]
  refine ⟨(lbk_bd (fun T => (rsm_bd T _ hR).1) _).2, ?_⟩
  have hp := Nat.two_pow_pos room.length
  have h := lbk_le (R := rR room) (o := oW wish) (H := room.length) (n := wish.length) (S := 2 ^ room.length) (T := 2 ^ room.length - 1) (by omega)
  rw [rsm_all _ (Nat.le_refl _), blk_none wish.length fun i hi => by
    rw [Bool.eq_false_iff]
    intro hc
    obtain ⟨x, h1, h2⟩ := (oW_iff hv _ i hi).1 hc
    have hx := mayW_lt hv i x hi h1
    rw [Nat.testBit_two_pow_sub_one] at h2
    exact h2 (decide_eq_true hx)] at h
  omega
theorem blv_nonneg {room : List Int} {wish : List (List Int)} (hv : vroom room wish = true) : 0 ≤ blv room wish := by
  obtain ⟨h4, h7, hR, hW⟩ := (vroom_iff _ _).1 hv
  unfold blv
  rw [if_pos hv]
  exact (lbk_bd (fun T => (rsm_bd T _ hR).1) _).1
theorem blv_no {room : List Int} {wish : List (List Int)} (hv : ¬ vroom room wish = true) : blv room wish = -1 := by unfold blv; rw [if_neg hv]
theorem blv_valid {room : List Int} {wish : List (List Int)} (h : 0 ≤ blv room wish) : vroom room wish = true := by
  by_cases hv : vroom room wish = true
  · exact hv
  · rw [blv_no hv] at h; omega
/-- Calls that some helper may take. -/
def neW (wish : List (List Int)) (i : Nat) : Bool := decide (0 < (wish.getD i []).length)
def neN (wish : List (List Int)) (k : Nat) : Nat := blk (neW wish) k
theorem rsm_zero {R : Nat → Int} : ∀ k, rsm R 0 k = 0
  | 0 => rfl
  | k + 1 => by simp only [rsm]; rw [rsm_zero k]; simp
theorem oW_zero {room : List Int} {wish : List (List Int)} (hv : vroom room wish = true) {i : Nat} (hi : i < wish.length) : oW wish 0 i = neW wish i := by
  rw [Bool.eq_iff_iff, oW_iff hv 0 i hi]
  unfold neW Outw mayW
  rw [decide_eq_true_iff]
  constructor
  · rintro ⟨h, ⟨k, hk, -⟩, -⟩; omega
  · intro h
    have := ((vroom_iff _ _).1 hv).2.2.2 i hi 0 h
    exact ⟨_, ⟨0, h, (Int.toNat_of_nonneg this.1).symm⟩, by simp⟩
theorem blv_le_ne {room : List Int} {wish : List (List Int)} (hv : vroom room wish = true) : blv room wish ≤ neN wish wish.length := by
  unfold blv
  rw [if_pos hv]
  have h := lbk_le (R := rR room) (o := oW wish) (H := room.length) (n := wish.length) (S := 2 ^ room.length) (T := 0) (Nat.two_pow_pos _)
  rw [rsm_zero, blk_congr (o' := neW wish) fun i hi => oW_zero hv hi] at h
  unfold neN
  omega
theorem getD_rep {H i : Nat} (hi : i < H) : (List.replicate H (7 : Int)).getD i 0 = 7 := by
  simp [List.getD, hi]
theorem rsm_seven {R : Nat → Int} {T h : Nat} (hT : T.testBit h = true) : ∀ H, h < H → (∀ i, i < H → R i = 7) → 7 ≤ rsm R T H
  | 0, hh, _ => by omega
  | k + 1, hh, hR => by
    have hpos : ∀ m, m ≤ k → 0 ≤ rsm R T m := by
      intro m
      induction m with
      | zero => intro _; simp [rsm]
      | succ m ih =>
        intro hm
        have := ih (by omega)
        have := hR m (by omega)
        simp only [rsm]; split <;> omega
    by_cases e : h = k
    · subst e
      have := hpos h (Nat.le_refl _)
      have := hR h (by omega)
      simp only [rsm]; rw [if_pos hT]; omega
    · have := rsm_seven (R := R) hT k (by omega) fun i hi => hR i (by omega)
      have := hR k (by omega)
      simp only [rsm]; split <;> omega
/-- Room for all: the same lists with room for 7 calls at each helper. -/
theorem wide_valid {room : List Int} {wish : List (List Int)} (hv : vroom room wish = true) : vroom (List.replicate room.length 7) wish = true := by
  obtain ⟨h4, h7, hR, hW⟩ := (vroom_iff _ _).1 hv
  refine (vroom_iff _ _).2 ⟨by simpa using h4, h7, fun i hi => ?_, by simpa using hW⟩
  rw [List.length_replicate] at hi
  rw [getD_rep hi]; omega
theorem blv_wide {room : List Int} {wish : List (List Int)} (hv : vroom room wish = true) : blv (List.replicate room.length 7) wish = neN wish wish.length := by
  have hw := wide_valid hv
  obtain ⟨h4, h7, hR, hW⟩ := (vroom_iff _ _).1 hv
  have h1 := blv_le_ne hw
  have hne : neN wish wish.length ≤ wish.length := blk_le _ _
  have h2 : ((neN wish wish.length : Nat) : Int) ≤ blv (List.replicate room.length 7) wish := by
    unfold blv
    rw [if_pos hw, List.length_replicate]
    refine le_lbk (by omega) _ fun T hT => ?_
    by_cases h0 : T = 0
    · subst h0
      rw [rsm_zero, blk_congr (o' := neW wish) fun i hi => oW_zero hw hi]
      show ((neN wish wish.length : Nat) : Int) ≤ 0 + (neN wish wish.length : Nat)
      omega
    · obtain ⟨h, hh⟩ := Nat.exists_testBit_of_ne_zero h0
      have hlt : h < room.length := by
        refine Nat.lt_of_not_le fun hc => ?_
        have h9 : T.testBit h = false := Nat.testBit_lt_two_pow (Nat.lt_of_lt_of_le hT (Nat.pow_le_pow_right (by omega) hc))
        rw [h9] at hh; cases hh
      have := rsm_seven (R := rR (List.replicate room.length 7)) hh room.length hlt fun i hi => getD_rep hi
      omega
  omega
end Go.Proofs.Ytakljcpneghgnaa
