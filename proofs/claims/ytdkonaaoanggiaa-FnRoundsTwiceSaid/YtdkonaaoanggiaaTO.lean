/-
  The laws' total: the sum of a list.
  Conditions: fewer than 2^20 numbers of at most 2^32 each.
-/
import Derived.Test.YtdkonaaoanggiaaLR
import Derived.Test.YtdkonaaoanggiaaE0
namespace Go.Proofs.Ytdkonaaoanggiaa
open Go.ChangeShapes Go.WideShapes Go.ChangeAt Go.RowKit
set_option linter.unusedVariables false

/-- The sum of the first k numbers. -/
def totI (zs : List Int) : Nat → Int
  | 0 => 0
  | k + 1 => totI zs k + zs.getD k 0
theorem totI_bd {zs : List Int} {M : Int} (hM : 0 ≤ M) : ∀ k, (∀ i, i < k → -M ≤ zs.getD i 0 ∧ zs.getD i 0 ≤ M) → -(M * k) ≤ totI zs k ∧ totI zs k ≤ M * k
  | 0, _ => by simp [totI]
  | k + 1, h => by
    have h1 := totI_bd hM k fun i hi => h i (by omega)
    have h2 := h k (by omega)
    have e : M * ((k + 1 : Nat) : Int) = M * (k : Int) + M := by rw [Int.natCast_add, Int.mul_add]; simp
    simp only [totI]
    rw [e]
    omega
set_option maxHeartbeats 400000 in
theorem total_any (A : Option Addr) (c n : Nat) (zs : List Int) (w : World) (B : Nat) (hr : RdI w B A zs) (hn : zs.length = n) (hb : n ≤ 1048576) (hz : ∀ i, i < n → -4294967296 ≤ zs.getD i 0 ∧ zs.getD i 0 ≤ 4294967296) :
    Calls Try.prog 25 #[.slice A n c] w fun e w' => e = .returned (.int .i64 (totI zs n)) ∧ w = w' := by
  have Hn := Lib.hid hn
  have Hz := Lib.hid hz
  clear hn hz
  go_enter Try.func25, Try.ntmps25
  go_wp2
  go_loop [3, 4] (fun a i => ∃ k : Nat, k ≤ n ∧ a = .int .i64 (totI zs k) ∧ i = .int .i64 k) (fun _ i => n - (intOf i).toNat)
  case atStart => exact ⟨0, Nat.zero_le _, rfl, rfl⟩
  case round =>
    obtain ⟨k, hk, rfl, rfl⟩ := hrel
    by_cases hlt : k < n
    · obtain ⟨b, off, x, rfl, hbw, Hx, hc⟩ := hr.x (k := k) (by rw [Hn.out]; exact hlt)
      have ht := totI_bd (zs := zs) (M := 4294967296) (by omega) k fun i hi => Hz.out i (by omega)
      have hx := Hz.out k hlt
      rw [Hx.out] at hx
      obtain ⟨a, Ha⟩ : ∃ a, Hid (totI zs k = a) := ⟨_, rfl⟩
      rw [Ha.out] at ht ⊢
      have Ha2 : Hid (totI zs (k + 1) = a + x) := by show _ = _; simp only [totI]; rw [Ha.out, Hx.out]
      have hw : IntKind.i64.wrap (a + x) = a + x := IntWalk.i64_in _ (by omega)
      go_wp2
      go_round
      case rel => exact ⟨k + 1, by omega, by rw [Ha2.out], by go_num⟩
      case measure => simp [intOf]; omega
    · obtain rfl : k = n := by omega
      go_wp2
      go_ret
      exact ⟨rfl, rfl⟩
end Go.Proofs.Ytdkonaaoanggiaa
