/-
  ValidHomes: the program and the model answer the same: at most ten numbers in 0..50, none less than the one ahead of it.
  Conditions: fewer than 2^60 numbers.
-/
import Derived.Test.YthphboeboiallabLR
import Derived.Test.Ythphboeboiallab0I
import Derived.Test.YthphboeboiallabU2
namespace Go.Proofs.Ythphboeboiallab
open Go.ChangeShapes Go.WideShapes Go.ChangeAt Go.RowKit
set_option linter.unusedVariables false

/-- From a number on: none less than the one ahead, none over 50. -/
def okFrom (a : Int) : List Int → Bool
  | [] => true
  | x :: r => decide (a ≤ x) && (decide (x ≤ 50) && okFrom x r)
def vh (zs : List Int) : Bool := decide (zs.length ≤ 10) && okFrom 0 zs
theorem okFrom_step {zs : List Int} {k : Nat} {x a : Int} (hk : k < zs.length) (hx : zs.getD k 0 = x) (h : okFrom 0 zs = okFrom a (zs.drop k)) (h1 : a ≤ x) (h2 : x ≤ 50) :
    okFrom 0 zs = okFrom x (zs.drop (k + 1)) := by
  rw [h, drop_cons hk hx]; simp [okFrom, h1, h2]
theorem okFrom_no {zs : List Int} {k : Nat} {x a : Int} (hk : k < zs.length) (hx : zs.getD k 0 = x) (h : okFrom 0 zs = okFrom a (zs.drop k)) (h1 : x < a ∨ 50 < x) :
    vh zs = false := by
  unfold vh
  rw [h, drop_cons hk hx]
  rcases h1 with h1 | h1
  · have : ¬ a ≤ x := by omega
    simp [okFrom, this]
  · have : ¬ x ≤ 50 := by omega
    simp [okFrom, this]
theorem okFrom_end {zs : List Int} {k : Nat} {a : Int} (hk : zs.length ≤ k) (h : okFrom 0 zs = okFrom a (zs.drop k)) : okFrom 0 zs = true := by
  rw [h, List.drop_of_length_le hk]; rfl
theorem vh_long {zs : List Int} (h : 10 < zs.length) : vh zs = false := by unfold vh; simp; omega
theorem vh_short {zs : List Int} (h : zs.length ≤ 10) (h1 : okFrom 0 zs = true) : vh zs = true := by unfold vh; simp [h, h1]

theorem okUp_fifty : ∀ (zs : List Int) (a : Int), okUp 50 a zs = okFrom a zs
  | [], _ => rfl
  | x :: r, a => by simp only [okUp, okFrom]; rw [okUp_fifty r x]
theorem iValid_any (A : Option Addr) (c n : Nat) (zs : List Int) (w : World) (B : Nat) (hr : RdI w B A zs) (hn : zs.length = n) (hb : n ≤ 1152921504606846976) :
    Calls Try.prog 61 #[.slice A n c] w fun e w' => e = .returned (.bool (vh zs)) ∧ w = w' := by
  by_cases h10 : 10 < n
  · have Hs := Lib.hid (vh_long (zs := zs) (by omega))
    clear hn
    go_enter Try.func61, Try.ntmps61
    go_wp2
    go_ret
    exact ⟨ret_bool Hs.out.symm, rfl⟩
  · have H := Lib.hid (inOrder_any A c n zs 50 w B hr hn hb)
    have hs : vh zs = okUp 50 0 zs := by unfold vh; rw [okUp_fifty, hn]; simp; omega
    rw [hs]
    clear hn hs hr
    go_enter Try.func61, Try.ntmps61
    go_wp2_with fail
    refine H.out.mono ?_
    rintro e w' ⟨rfl, rfl⟩
    go_wp2
    go_ret
    exact ⟨ret_bool (by simp), rfl⟩
end Go.Proofs.Ythphboeboiallab
