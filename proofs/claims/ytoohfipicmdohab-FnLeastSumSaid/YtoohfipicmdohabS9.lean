/-
  SumTried: both sides' contracts under one value.
  Conditions: as each theorem states.
-/
import Derived.Test.YtoohfipicmdohabS8
import Derived.Test.YtoohfipicmdohabE0
namespace Go.Proofs.Ytoohfipicmdohab
open Go.ChangeShapes Go.WideShapes Go.ChangeAt Go.RowKit
set_option linter.unusedVariables false

theorem iSumTried_b (A : Option Addr) (c n : Nat) (zs : List Int) (k : Int) (w : World) (B : Nat) (hr : RdI w B A zs) (hn : zs.length = n) (hb : n ≤ 1048576) (hB : B ≤ w.heap.size) :
    Calls Try.prog 18 #[.slice A n c, .int .i64 k] w fun e w' => e = .returned (.int .i64 (stri zs k)) ∧ Below w.heap.size w w' := calls_same (iSumTried_any A c n zs k w B hr hn hb)
theorem sSumTried_b (A : Option Addr) (c n : Nat) (zs : List Int) (k : Int) (w : World) (B : Nat) (hr : RdI w B A zs) (hn : zs.length = n) (hb : n ≤ 1048576) (hB : B ≤ w.heap.size) :
    Calls Try.prog 21 #[.slice A n c, .int .i64 k] w fun e w' => e = .returned (.int .i64 (stri zs k)) ∧ Below w.heap.size w w' := by
  rw [stri_same]
  exact sSumTried_any A c n zs k w B hr hB hn hb
end Go.Proofs.Ytoohfipicmdohab
