/-
  The program's cover: nodes in the order of their depth; a walk marks who is near.
  Conditions: none beyond what each theorem states.
-/
import Derived.Test.YtggpdlcompokoaaV4
import Derived.Test.YtggpdlcompokoaaT7
import Derived.Test.YtggpdlcompokoaaC3
namespace Go.Proofs.Ytggpdlcompokoaa
open Go.ChangeShapes Go.WideShapes Go.ChangeAt Go.RowKit
set_option linter.unusedVariables false
set_option maxRecDepth 4000

/-- The farthest first, those as far in their order. -/
def Deep (t : List (Int × Int)) (n : Nat) (ord : List Nat) : Prop :=
  ord.length = n ∧ (∀ j, j < n → ord.getD j 0 < n) ∧ (∀ i, i < n → ∃ j, j < n ∧ ord.getD j 0 = i) ∧
    ∀ j k, j < k → k < n → dn t n 0 (ord.getD k 0) < dn t n 0 (ord.getD j 0) ∨ (dn t n 0 (ord.getD k 0) = dn t n 0 (ord.getD j 0) ∧ ord.getD j 0 < ord.getD k 0)
theorem deep_first {t : List (Int × Int)} {n k : Nat} {ord : List Nat} {has : Nat → Bool} (h : Deep t n ord) (hk : k < n) (hall : ∀ j, j < k → has (ord.getD j 0) = true) (hf : has (ord.getD k 0) = false) :
    fstC (dn t n 0) has n = ord.getD k 0 := by
  obtain ⟨h1, h2, h3, h4⟩ := h
  have hkn := h2 k hk
  rcases Int.lt_or_le (fstC (dn t n 0) has n) 0 with hn | hn
  · have := fstC_none hn (ord.getD k 0) hkn
    rw [this] at hf; cases hf
  · obtain ⟨a, ha⟩ := Int.eq_ofNat_of_zero_le hn
    obtain ⟨a1, a2, a3, a4⟩ := fstC_some ha
    obtain ⟨j, hj, hja⟩ := h3 a a1
    rw [ha]
    by_cases e : j = k
    · subst e; rw [hja]
    · by_cases hjk : j < k
      · have := hall j hjk
        rw [hja, a2] at this; cases this
      · have hle := a3 (ord.getD k 0) hkn hf
        rcases h4 k j (by omega) hj with hlt | ⟨heq, hlt⟩
        · rw [hja] at hlt; omega
        · rw [hja] at hlt heq
          have := a4 (ord.getD k 0) hlt hf
          omega
theorem deep_end {t : List (Int × Int)} {n : Nat} {ord : List Nat} {has : Nat → Bool} (h : Deep t n ord) (hall : ∀ j, j < n → has (ord.getD j 0) = true) : fstC (dn t n 0) has n < 0 := by
  obtain ⟨h1, h2, h3, h4⟩ := h
  rcases Int.lt_or_le (fstC (dn t n 0) has n) 0 with hn | hn
  · exact hn
  · obtain ⟨a, ha⟩ := Int.eq_ofNat_of_zero_le hn
    obtain ⟨a1, a2, a3, a4⟩ := fstC_some ha
    obtain ⟨j, hj, hja⟩ := h3 a a1
    have := hall j hj
    rw [hja, a2] at this; cases this
/-- What a walk from node z marks. -/
theorem mkC_walk {t : List (Int × Int)} {n z : Nat} {far : Int} {has : Nat → Bool} {L : List (Nat × Int)} (hway : ∀ y ∈ L, y.1 < n ∧ y.2 = dn t n z y.1) (hall : ∀ i, i < n → (i, dn t n z i) ∈ L) :
    hrow (mkC far has L) n = hrow (addC (dn t n) far has z) n := by
  refine hrow_congr fun i hi => ?_
  unfold mkC addC
  congr 1
  by_cases h : dn t n z i ≤ far
  · rw [decide_eq_true h, List.any_eq_true]
    exact ⟨_, hall i hi, by simp [h]⟩
  · rw [decide_eq_false h, List.any_eq_false]
    intro y hy
    simp only [Bool.and_eq_true, decide_eq_true_eq, not_and]
    intro e
    have := (hway y hy).2
    rw [this, e]; exact h
/-- A walk from node z marks all that are near. -/
theorem cover_walk {w4 : World} {P : Nat → Nat} {RV : Nat → Value} {B R fb sb n z : Nat} {far : Int} {has : Nat → Bool} {t : List (Int × Int)} (ht : Ahead t) (hn : t.length = n) (hn7 : n ≤ 7) (hk : z < n) (hlk : LkN w4 B n P RV t)
    (hR : w4.heap[R]? = some (.cells (hrow has n).toArray 4 (0, 0))) (hfb : fb ≠ R) (hsb : sb ≠ R) (hcf : w4.cell? ⟨fb, 0, none⟩ = some (.int .i64 far)) (hcs : w4.cell? ⟨sb, 0, none⟩ = some (.slice (some ⟨R, 0, none⟩) n n)) :
    Calls Try.prog 48 #[.pointer (some ⟨P z, 0, none⟩), .pointer none, .func (.func 72) #[] #[.pointer (some ⟨fb, 0, none⟩), .pointer (some ⟨sb, 0, none⟩)]] w4 fun e w' => e = .returned (.tuple #[]) ∧
      w'.heap[R]? = some (.cells (hrow (addC (dn t n) far has z) n).toArray 4 (0, 0)) ∧ w4.grownBy w' (some R) := by
  obtain ⟨M, hV, hs⟩ := walks_all ht n (by omega) z hk 0
  have hway := visited_way hs
  have hF : ∀ y ∈ (z, (0 : Int)) :: M, y.1 < n ∧ 0 ≤ y.2 ∧ y.2 ≤ 1000 := fun y hy => by
    obtain ⟨h1, _, h2⟩ := hway y hy
    have := dn_bd ht n z y.1 (by omega) hk h1
    omega
  have hvis := visitC_any w4 P RV B R fb sb n far has ((z, 0) :: M) t hlk ⟨_, hR⟩ hfb hsb hcf hcs hn7 hF
  refine (walkC_any w4 P RV B R n _ _ (covObj far has n) t ht (by omega) hn7 hlk ⟨_, _, _, hR, by decide, by decide⟩ (by unfold covObj; rw [mkC_nil]; exact hR) z none M hk (fun g e => by cases e) hV hvis (fun y hy => by have := hF y hy; omega)).mono ?_
  rintro e w' ⟨he, hh, hg⟩
  refine ⟨he, ?_, hg⟩
  rw [hh]
  unfold covObj
  rw [mkC_walk (t := t) (z := z) (fun y hy => by obtain ⟨h1, _, h2⟩ := hway y hy; exact ⟨h1, by omega⟩) (fun i hi => by
    have := visited_all hs hi trivial
    simpa using this)]
end Go.Proofs.Ytggpdlcompokoaa
