/-
  Shops: the facts that hold of all lists of at most four shops in streets of at most nine houses, looked up one by one.
  Conditions: as each theorem states.
-/
import Derived.Test.Ythphboeboiallaa0A
namespace Go.Proofs.Ythphboeboiallaa
open Go.ChangeShapes Go.WideShapes Go.ChangeAt Go.RowKit
set_option linter.unusedVariables false
set_option maxRecDepth 4000

def revS (n : Nat) (ss : List Nat) : List Nat := ss.reverse.map fun s => n - 1 - s
theorem revS_length (n : Nat) (ss : List Nat) : (revS n ss).length = ss.length := by simp [revS]
def chkA (n : Nat) (ss : List Nat) : Bool := ascS 0 (revS n ss) && ((shL n ss).sum == 12 * n) && (shL n (revS n ss) == (shL n ss).reverse)
def chkB (n : Nat) (ss : List Nat) : Bool := ss.length == 4 || (List.range n).all fun p => ascS 0 (insS ss p) && decide (0 < adS n ss p)
def chkC (n : Nat) (ss : List Nat) : Bool := ss.length == 1 || (List.range ss.length).all fun i => ascS 0 (otS ss i)
def chkD (n : Nat) (ss : List Nat) : Bool := decide (ss.length < 2) || ((decide (ss.length ≠ 2) || (rstS n ss == (decide ((n - 1) / 2 ≤ ss.getD 0 0) && decide (ss.getD 1 0 ≤ n / 2)))) && (rstS n (revS n ss) == rstS n ss))
theorem allA : allS chkA = true := by decide +kernel
theorem allB : allS chkB = true := by decide +kernel
theorem allC : allS chkC = true := by decide +kernel
theorem allD : allS chkD = true := by decide +kernel

/-- A row ahead of another one as long. -/
def lsS : List Nat → List Nat → Bool
  | a :: r, b :: t => if a = b then lsS r t else decide (a < b)
  | _, _ => false
def chnS : List (List Nat) → Bool
  | a :: b :: r => lsS a b && chnS (b :: r)
  | _ => true
def chkR (n k : Nat) : Bool := chnS (rsS n k) && (decide (k ≠ 2) || ((rsS n k).length == 3 - 2 * (n % 2))) && (decide (k ≠ 3) || decide (n < 4) || (rsS n k).all fun l => l.getD 0 0 != l.getD 2 0)
theorem allR : ((List.range 9).all fun n => (List.range 3).all fun k => chkR (n + 1) (k + 2)) = true := by decide +kernel
/-- One shop, and two at one place. -/
theorem alone_all : ((List.range 10).all fun n => (List.range n).all fun p => (shL n [p] == [12 * n]) && (shL n [p, p] == [6 * n, 6 * n])) = true := by decide +kernel
end Go.Proofs.Ythphboeboiallaa
