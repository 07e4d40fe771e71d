/-
  Slices of streets in the exact laws, marked.
  Conditions: none.
-/
import Derived.Test.YtiblcmeoneolcaaUG
namespace Go.Proofs.Ytiblcmeoneolcaa
open Go.ChangeShapes Go.WideShapes Go.ChangeAt Go.RowKit
set_option linter.unusedVariables false
set_option maxRecDepth 4000

set_option maxHeartbeats 1600000 in
theorem markS_any (w : World) (B b n : Nat) (xs : List Value) (hown : w.ownsRow B 45 3 (.slice (some ⟨b, 0, none⟩) n n) n xs) (hn : n ≤ 1048576) :
    Calls Try.prog 26 #[.slice (some ⟨b, 0, none⟩) n n, .int .i64 1] w fun e w' => e = .returned (.int .i64 (1 + (n * 3 : Nat))) ∧ w.grownBy w' (some b) := by
  have Hown := Lib.hid hown
  clear hown
  go_enter Try.func26, Try.ntmps26
  go_wp2
  go_loopw [1, 5] (fun a i wr => ∃ j : Nat, ∃ xs, j ≤ n ∧ i = .int .i64 j ∧ a = .int .i64 (1 + (j * 3 : Nat)) ∧ wr.ownsRow B 45 3 (.slice (some ⟨b, 0, none⟩) n n) n xs ∧ w.grownBy wr (some b)) (fun _ i _ => n - (intOf i).toNat)
  case atStart => exact ⟨0, xs, by omega, rfl, by simp, Hown.out, ⟨rfl, rfl, rfl, Nat.le_refl _, fun _ _ _ => rfl⟩⟩
  case round =>
    obtain ⟨j, ys, hj, rfl, rfl, hown, hg⟩ := hrel
    by_cases hlt : j < n
    · obtain ⟨v, hv⟩ := own_cell hown (j := j * 3) (by omega) hown.1
      obtain ⟨v2, hv2⟩ := own_cell hown (j := j * 3 + 1) (by omega) hown.1
      obtain ⟨v3, hv3⟩ := own_cell hown (j := j * 3 + 2) (by omega) hown.1
      have hf := hown.frozenAt (j * 3)
      have hf2 := hown.frozenAt (j * 3 + 1)
      have hf3 := hown.frozenAt (j * 3 + 2)
      have h1 := hown.stored (j * 3) (.int .i64 (1 + (j * 3 : Nat)))
      have h2 := h1.1.stored (j * 3 + 1) (.int .i64 (1 + (j * 3 : Nat) + 1))
      have h3 := h2.1.stored (j * 3 + 2) (.int .i64 (1 + (j * 3 : Nat) + 1 + 1))
      have HO := Lib.hid h3.1
      have HG := Lib.hid (gb_trans (gb_trans (gb_trans hg h1.2 (.inl rfl)) h2.2 (.inl rfl)) h3.2 (.inl rfl))
      clear h1 h2 h3 hown hg
      go_wp2
      go_roundw
      case rel => exact ⟨j + 1, _, by omega, by go_num, by congr 1; omega, HO.out, HG.out⟩
      case measure => simp [intOf]; omega
    · have hjn : j = n := by omega
      subst hjn
      go_wp2
      go_ret
      exact ⟨rfl, hg⟩
end Go.Proofs.Ytiblcmeoneolcaa
