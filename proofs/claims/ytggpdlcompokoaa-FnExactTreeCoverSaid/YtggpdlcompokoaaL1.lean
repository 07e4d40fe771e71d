/-
  ValidHomes: the program and the model answer the same: at most ten numbers in 0..50, none less than the one ahead of it.
  Conditions: fewer than 2^60 numbers.
-/
import Derived.Test.YtggpdlcompokoaaU2
namespace Go.Proofs.Ytggpdlcompokoaa
open Go.ChangeShapes Go.WideShapes Go.ChangeAt Go.RowKit
set_option linter.unusedVariables false

/-- A quiet call inside a region that draws its order, whatever has been drawn before it. -/
theorem quiet_gen {P : Program} {f : FuncId} {args : Array Value} {W : World} {v : Value} {R : Nat → World}
    (h : Calls P f args W fun e w' => e = .returned v ∧ W = w') (hW : ∃ m, W = R m) : Calls P f args W fun e w'' => e = .returned v ∧ ∃ m, w'' = R m :=
  h.mono fun _ _ ⟨he, hm⟩ => ⟨he, by obtain ⟨m, e⟩ := hW; exact ⟨m, hm.symm.trans e⟩⟩
theorem inRange_yes (n a b : Int) (w : World) (h1 : a ≤ n) (h2 : n ≤ b) :
    Calls Try.prog 52 #[.int .i64 n, .int .i64 a, .int .i64 b] w fun e w' => e = .returned (.bool true) ∧ w = w' :=
  (inRange_any n a b w).mono fun _ _ ⟨he, hw⟩ => ⟨by rw [he]; simp [h1, h2], hw⟩
theorem inRange_no (n a b : Int) (w : World) (h : n < a ∨ b < n) :
    Calls Try.prog 52 #[.int .i64 n, .int .i64 a, .int .i64 b] w fun e w' => e = .returned (.bool false) ∧ w = w' :=
  (inRange_any n a b w).mono fun _ _ ⟨he, hw⟩ => ⟨by rw [he]; rcases h with h | h <;> simp <;> omega, hw⟩

/-- From a number on: none less than the one ahead, none over 50. -/
def okFrom (a : Int) : List Int → Bool
  | [] => true
  | x :: r => decide (a ≤ x) && (decide (x ≤ 50) && okFrom x r)
def vh (zs : List Int) : Bool := decide (zs.length ≤ 10) && okFrom 0 zs
theorem drop_cons {zs : List Int} {k : Nat} {x : Int} (hk : k < zs.length) (hx : zs.getD k 0 = x) : zs.drop k = x :: zs.drop (k + 1) := by
  rw [List.drop_eq_getElem_cons hk]
  have e1 : zs.getD k 0 = zs[k] := by simp [List.getD, List.getElem?_eq_getElem hk]
  rw [← hx, e1]
theorem okFrom_step {zs : List Int} {k : Nat} {x a : Int} (hk : k < zs.length) (hx : zs.getD k 0 = x) (h : okFrom 0 zs = okFrom a (zs.drop k)) (h1 : a ≤ x) (h2 : x ≤ 50) :
    okFrom 0 zs = okFrom x (zs.drop (k + 1)) := by
  rw [h, drop_cons hk hx]; simp [okFrom, h1, h2]
theorem okFrom_no {zs : List Int} {k : Nat} {x a : Int} (hk : k < zs.length) (hx : zs.getD k 0 = x) (h : okFrom 0 zs = okFrom a (zs.drop k)) (h1 : x < a ∨ 50 < x) :
    vh zs = false := by
  unfold vh
  rw [h, drop_cons hk hx]
  rcases h1 with h1 | h1
  · have : ¬ a ≤ x := by omega
    simp [okFrom, this]
  · have : ¬ x ≤ 50 := by omega
    simp [okFrom, this]
theorem okFrom_end {zs : List Int} {k : Nat} {a : Int} (hk : zs.length ≤ k) (h : okFrom 0 zs = okFrom a (zs.drop k)) : okFrom 0 zs = true := by
  rw [h, List.drop_of_length_le hk]; rfl
theorem vh_long {zs : List Int} (h : 10 < zs.length) : vh zs = false := by unfold vh; simp; omega
theorem vh_short {zs : List Int} (h : zs.length ≤ 10) (h1 : okFrom 0 zs = true) : vh zs = true := by unfold vh; simp [h, h1]

set_option maxHeartbeats 400000 in
theorem iValid_any (A : Option Addr) (c n : Nat) (zs : List Int) (w : World) (B : Nat) (hr : RdI w B A zs) (hn : zs.length = n) (hb : n ≤ 1152921504606846976) :
    Calls Try.prog 60 #[.slice A n c] w fun e w' => e = .returned (.bool (vh zs)) ∧ w = w' := by
  by_cases h10 : 10 < n
  · have Hs := Lib.hid (vh_long (zs := zs) (by omega))
    clear hn
    go_enter Try.func60, Try.ntmps60
    go_wp2
    go_ret
    exact ⟨ret_bool Hs.out.symm, rfl⟩
  · have Hn := Lib.hid hn
    clear hn
    go_enter Try.func60, Try.ntmps60
    go_wp2
    go_loop [3, 11] (fun a i => ∃ k : Nat, ∃ y : Int, k ≤ n ∧ Hid (okFrom 0 zs = okFrom y (zs.drop k)) ∧ i = .int .i64 k ∧ a = .int .i64 y) (fun _ i => n - (intOf i).toNat)
    case atStart => exact ⟨0, 0, Nat.zero_le _, rfl, rfl, rfl⟩
    case round =>
      obtain ⟨k, y, hk, Ho, rfl, rfl⟩ := hrel
      by_cases hlt : k < n
      · obtain ⟨b, off, x, rfl, hbw, Hx, hc⟩ := hr.x (k := k) (by rw [Hn.out]; exact hlt)
        by_cases h1 : x < y ∨ 50 < x
        · have Hs := Lib.hid (okFrom_no (by rw [Hn.out]; exact hlt) Hx.out Ho.out h1)
          rcases h1 with h1 | h1
          · go_wp2
            go_ret
            exact ⟨ret_bool Hs.out.symm, rfl⟩
          · by_cases h2 : x < y
            all_goals
              go_wp2
              go_ret
              exact ⟨ret_bool Hs.out.symm, rfl⟩
        · have h2 : y ≤ x := by omega
          have h3 : x ≤ 50 := by omega
          have Hs := Lib.hid (okFrom_step (by rw [Hn.out]; exact hlt) Hx.out Ho.out h2 h3)
          go_wp2
          go_round
          case rel => exact ⟨k + 1, x, by omega, Hs, by go_num, rfl⟩
          case measure => simp [intOf]; omega
      · have Hs := Lib.hid (vh_short (by rw [Hn.out]; omega) (okFrom_end (by rw [Hn.out]; omega) Ho.out))
        go_wp2
        go_ret
        exact ⟨ret_bool Hs.out.symm, rfl⟩
end Go.Proofs.Ytggpdlcompokoaa
