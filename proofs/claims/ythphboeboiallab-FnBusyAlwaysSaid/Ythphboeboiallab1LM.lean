/-
  What the laws of the mean share: the mean's bounds, spreads are spots, the contract with its answer named.
  Conditions: none beyond what each theorem states.
-/
import Derived.Test.Ythphboeboiallab1LT
import Derived.Test.Ythphboeboiallab1Z
import Derived.Test.Ythphboeboiallab1CB
namespace Go.Proofs.Ythphboeboiallab
open Go.ChangeShapes Go.WideShapes Go.ChangeAt Go.RowKit
set_option linter.unusedVariables false
set_option maxRecDepth 4000

theorem mn_bd {nr : Int → Int → Bool} {U D x y : Nat} {zs ss : List Int} (h : mnB nr U D zs ss = (x, y)) (hz : zs.length ≤ 10) (hs : ss.length ≤ 4) (h1 : 1 ≤ D) (hD : D ≤ 10) : x ≤ 100000 ∧ y ≤ 10000 ∧ 1 ≤ y := by
  have hp : D ^ ss.length ≤ 10000 := pow_le4 hD hs
  obtain ⟨l1, l2⟩ := mnB_low (nr := nr) (U := U) (D := D) zs ss
  have l3 := mnB_pos (nr := nr) (U := U) h1 zs ss
  rw [h] at l1 l2 l3
  have : zs.length * D ^ ss.length ≤ 10 * 10000 := Nat.mul_le_mul hz hp
  show x ≤ _ ∧ y ≤ _ ∧ 1 ≤ y
  simp only at l1 l2 l3
  omega
theorem okM_of {zs ss : List Int} {far : Int} {U D : Nat} (h1 : vh zs = true) (h2 : vh ss = true) (h3 : ss.length ≤ 4) (h4 : 0 ≤ far) (h5 : far ≤ 50) (hU : U ≤ D) (hD1 : 1 ≤ D) (hD : D ≤ 10) : okM zs ss far (U : Int) (D : Int) = true := by
  simp only [okM, vbB, vfar, chB, Bool.and_eq_true, decide_eq_true_eq]
  refine ⟨⟨h1, h2, h3, h4, h5⟩, ?_⟩
  omega
theorem vh_spread {zs ss : List Int} (h : vh zs = true) (ha : ascB ss) (hl : ss.length ≤ 4) (hm : ∀ u ∈ ss, u ∈ zs) : vh ss = true := vh_of ha (by omega) fun u hu => vh_bd h u (hm u hu)
/-- The contract, its answer named. -/
theorem MnC.yes {F : Nat} (h : MnC F) {zs ss : List Int} {far : Int} {U D x y : Nat} (hv : okM zs ss far U D = true) (hx : mnB (nrF far) U D zs ss = (x, y)) (A A' : Option Addr) (c c' n m : Nat) (W : World) (hp : PIn W A c n zs) (hq : PIn W A' c' m ss) (hr : PartQ W A' m c' ss) :
    Calls Try.prog F #[.slice A n c, .slice A' m c', .int .i64 far, .agg #[.int .i64 (U : Int), .int .i64 (D : Int)]] W (FrM x y true W) := by
  have := h A A' c c' n m zs ss far U D W hp hq hr
  rw [mrQ_yes hv, hv, hx] at this
  exact this
end Go.Proofs.Ythphboeboiallab
