/-
  The library's Mul at small numbers; Clone and Repeat of a slice of ints.
  Conditions: as each theorem states.
-/
import Derived.Test.YtoohfipicmdohabU2
import Derived.Shelf.Bits.Mul64
import Derived.Laws.CopyOwn
import Derived.WalkSpells
import Derived.Deep.AppendLies
namespace Go.Proofs.Ytoohfipicmdohab
open Go.ChangeShapes Go.WideShapes Go.ChangeAt Go.RowKit
set_option linter.unusedVariables false

theorem mask_small (a : Nat) (ha : a ≤ 1000000) : bits .and .u64 (a : Int) 4294967295 = (a : Int) := by
  rw [Mul64.maskN a (by omega), Nat.mod_eq_of_lt (by omega)]
theorem high_small (a : Nat) (ha : a ≤ 1000000) : (a : Int) / 4294967296 = 0 := by omega
theorem wrap_small (a : Nat) (ha : a ≤ 1000000) : IntKind.u64.wrap (a : Int) = (a : Int) := Mul64.wrapN a (by omega)
theorem mul_high (x y : Nat) (hx : x ≤ 1000) (hy : y ≤ 1000) : IntKind.u64.wrap (IntKind.u64.wrap (IntKind.u64.wrap ((x : Int) / 4294967296 * ((y : Int) / 4294967296)) + IntKind.u64.wrap (IntKind.u64.wrap ((x : Int) / 4294967296 * bits BinOp.and IntKind.u64 (y : Int) 4294967295) + IntKind.u64.wrap (bits BinOp.and IntKind.u64 (x : Int) 4294967295 * bits BinOp.and IntKind.u64 (y : Int) 4294967295) / 4294967296) / 4294967296) + IntKind.u64.wrap (bits BinOp.and IntKind.u64 (IntKind.u64.wrap (IntKind.u64.wrap ((x : Int) / 4294967296 * bits BinOp.and IntKind.u64 (y : Int) 4294967295) + IntKind.u64.wrap (bits BinOp.and IntKind.u64 (x : Int) 4294967295 * bits BinOp.and IntKind.u64 (y : Int) 4294967295) / 4294967296)) 4294967295 + IntKind.u64.wrap (bits BinOp.and IntKind.u64 (x : Int) 4294967295 * ((y : Int) / 4294967296))) / 4294967296) = 0 := by
  have hxy : x * y ≤ 1000 * 1000 := Nat.mul_le_mul hx hy
  have hm := mask_small 0 (by omega)
  have hw := wrap_small 0 (by omega)
  simp only [mask_small x (by omega), mask_small y (by omega), high_small x (by omega), high_small y (by omega), Mul64.mulN, wrap_small (x * y) (by omega), high_small (x * y) (by omega)]
  simp at hm hw ⊢
  simp [hm, hw]

set_option maxHeartbeats 1000000 in
theorem mul64_small (x y : Nat) (hx : x ≤ 1000) (hy : y ≤ 1000) (w : World) :
    Calls Try.prog 64 #[.int .u64 x, .int .u64 y] w fun e w' => e = .returned (.tuple #[.int .u64 0, .int .u64 ((x * y : Nat) : Int)]) ∧ w = w' := by
  have Hh := Lib.hid (mul_high x y hx hy)
  have hxy : x * y ≤ 1000 * 1000 := Nat.mul_le_mul hx hy
  go_enter Try.func64, Try.ntmps64
  go_wp2
  go_ret2
  refine ⟨?_, rfl⟩
  show Ending.returned (.tuple #[.int .u64 _, .int .u64 _]) = _
  rw [Hh.out, Mul64.mulN]
set_option maxHeartbeats 1000000 in
theorem mul_small (x y : Nat) (hx : x ≤ 1000) (hy : y ≤ 1000) (w : World) :
    Calls Try.prog 56 #[.int .u64 x, .int .u64 y] w fun e w' => e = .returned (.tuple #[.int .u64 0, .int .u64 ((x * y : Nat) : Int)]) ∧ w = w' := by
  obtain ⟨p, Hp⟩ : ∃ p, Hid (x * y = p) := ⟨_, rfl⟩
  have H := Lib.hid (mul64_small x y hx hy w)
  rw [Hp.out] at H ⊢
  go_enter Try.func56, Try.ntmps56
  go_wp2_with (go_at_call 64; refine H.out.mono ?_; rintro e w' ⟨rfl, rfl⟩)
  go_ret2
  exact ⟨rfl, rfl⟩
end Go.Proofs.Ytoohfipicmdohab
