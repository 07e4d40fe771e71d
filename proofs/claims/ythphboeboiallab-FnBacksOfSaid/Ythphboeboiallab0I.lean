/-
  inOrderUpTo: whether places are in 0..last, none less than the one ahead of it.
  Conditions: fewer than 2^60 numbers.
-/
import Derived.Test.YthphboeboiallabLR
namespace Go.Proofs.Ythphboeboiallab
open Go.ChangeShapes Go.WideShapes Go.ChangeAt Go.RowKit
set_option linter.unusedVariables false

/-- From a number on: none less than the one ahead, none over another number. -/
def okUp (u : Int) : Int → List Int → Bool
  | _, [] => true
  | a, x :: r => decide (a ≤ x) && (decide (x ≤ u) && okUp u x r)
theorem drop_cons {zs : List Int} {k : Nat} {x : Int} (hk : k < zs.length) (hx : zs.getD k 0 = x) : zs.drop k = x :: zs.drop (k + 1) := by
  rw [List.drop_eq_getElem_cons hk]
  have e1 : zs.getD k 0 = zs[k] := by simp [List.getD, List.getElem?_eq_getElem hk]
  rw [← hx, e1]
theorem okUp_step {u : Int} {zs : List Int} {k : Nat} {x a : Int} (hk : k < zs.length) (hx : zs.getD k 0 = x) (h : okUp u 0 zs = okUp u a (zs.drop k)) (h1 : a ≤ x) (h2 : x ≤ u) :
    okUp u 0 zs = okUp u x (zs.drop (k + 1)) := by
  rw [h, drop_cons hk hx]; simp [okUp, h1, h2]
theorem okUp_no {u : Int} {zs : List Int} {k : Nat} {x a : Int} (hk : k < zs.length) (hx : zs.getD k 0 = x) (h : okUp u 0 zs = okUp u a (zs.drop k)) (h1 : x < a ∨ u < x) :
    okUp u 0 zs = false := by
  rw [h, drop_cons hk hx]
  rcases h1 with h1 | h1
  · have : ¬ a ≤ x := by omega
    simp [okUp, this]
  · have : ¬ x ≤ u := by omega
    simp [okUp, this]
theorem okUp_end {u : Int} {zs : List Int} {k : Nat} {a : Int} (hk : zs.length ≤ k) (h : okUp u 0 zs = okUp u a (zs.drop k)) : okUp u 0 zs = true := by
  rw [h, List.drop_of_length_le hk]; rfl

set_option maxHeartbeats 400000 in
theorem inOrder_any (A : Option Addr) (c n : Nat) (zs : List Int) (u : Int) (w : World) (B : Nat) (hr : RdI w B A zs) (hn : zs.length = n) (hb : n ≤ 1152921504606846976) :
    Calls Try.prog 78 #[.slice A n c, .int .i64 u] w fun e w' => e = .returned (.bool (okUp u 0 zs)) ∧ w = w' := by
  have Hn := Lib.hid hn
  clear hn
  go_enter Try.func78, Try.ntmps78
  go_wp2
  go_loop [5, 10] (fun a i => ∃ k : Nat, ∃ y : Int, k ≤ n ∧ Hid (okUp u 0 zs = okUp u y (zs.drop k)) ∧ i = .int .i64 k ∧ a = .int .i64 y) (fun _ i => n - (intOf i).toNat)
  case atStart => exact ⟨0, 0, Nat.zero_le _, rfl, rfl, rfl⟩
  case round =>
    obtain ⟨k, y, hk, Ho, rfl, rfl⟩ := hrel
    by_cases hlt : k < n
    · obtain ⟨b, off, x, rfl, hbw, Hx, hc⟩ := hr.x (k := k) (by rw [Hn.out]; exact hlt)
      by_cases h1 : x < y ∨ u < x
      · have Hs := Lib.hid (okUp_no (by rw [Hn.out]; exact hlt) Hx.out Ho.out h1)
        rcases h1 with h1 | h1
        · go_wp2
          go_ret
          exact ⟨ret_bool Hs.out.symm, rfl⟩
        · by_cases h2 : x < y
          all_goals
            go_wp2
            go_ret
            exact ⟨ret_bool Hs.out.symm, rfl⟩
      · have h2 : y ≤ x := by omega
        have h3 : x ≤ u := by omega
        have Hs := Lib.hid (okUp_step (by rw [Hn.out]; exact hlt) Hx.out Ho.out h2 h3)
        go_wp2
        go_round
        case rel => exact ⟨k + 1, x, by omega, Hs, by go_num, rfl⟩
        case measure => simp [intOf]; omega
    · have Hs := Lib.hid (okUp_end (by rw [Hn.out]; omega) Ho.out)
      go_wp2
      go_ret
      exact ⟨ret_bool Hs.out.symm, rfl⟩
end Go.Proofs.Ythphboeboiallab
