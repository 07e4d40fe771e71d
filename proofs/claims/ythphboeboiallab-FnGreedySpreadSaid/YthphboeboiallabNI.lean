/-
  The laws' isIn.
  Conditions: none.
-/
import Derived.Test.YthphboeboiallabLR
import Derived.Test.YthphboeboiallabE0
namespace Go.Proofs.Ythphboeboiallab
open Go.ChangeShapes Go.WideShapes Go.ChangeAt Go.RowKit
set_option linter.unusedVariables false

theorem take_snoc_getD {zs : List Int} {j : Nat} (hj : j < zs.length) : zs.take (j + 1) = zs.take j ++ [zs.getD j 0] := by
  rw [List.take_succ_eq_append_getElem hj]
  simp [List.getD, List.getElem?_eq_getElem hj]
theorem RdI.take {w : World} {B : Nat} {A : Option Addr} {zs : List Int} (h : RdI w B A zs) (k : Nat) : RdI w B A (zs.take k) := fun hp => by
  have hl : (zs.take k).length ≤ zs.length := by rw [List.length_take]; omega
  obtain ⟨b, off, e, hb, hc⟩ := h (by omega)
  refine ⟨b, off, e, hb, fun i hi => ?_⟩
  have hik : i < k := by rw [List.length_take] at hi; omega
  rw [hc i (by omega)]
  simp [hik]
def hasB (l : List Int) (y : Int) : Bool := l.contains y
theorem isIn_step {zs : List Int} {k : Nat} {x y : Int} (hk : k < zs.length) (hx : zs.getD k 0 = x) (h : y ∉ zs.take k) (hne : ¬ x = y) : y ∉ zs.take (k + 1) := by
  rw [take_snoc_getD hk, hx]
  simp only [List.mem_append, List.mem_singleton, not_or]
  exact ⟨h, fun e => hne e.symm⟩
theorem isIn_yes {zs : List Int} {k : Nat} {y : Int} (hk : k < zs.length) (hx : zs.getD k 0 = y) : hasB zs y = true := by
  unfold hasB
  rw [List.contains_iff_mem, ← hx]
  simp [List.getD, List.getElem?_eq_getElem hk]
theorem isIn_no {zs : List Int} {k : Nat} {y : Int} (hk : zs.length ≤ k) (h : y ∉ zs.take k) : hasB zs y = false := by
  rw [List.take_of_length_le hk] at h
  unfold hasB
  simpa using h

set_option maxHeartbeats 400000 in
theorem isIn_any (A : Option Addr) (c n : Nat) (zs : List Int) (y : Int) (w : World) (B : Nat) (hr : RdI w B A zs) (hn : zs.length = n) (hb : n ≤ 1048576) :
    Calls Try.prog 27 #[.slice A n c, .int .i64 y] w fun e w' => e = .returned (.bool (hasB zs y)) ∧ w = w' := by
  have Hn := Lib.hid hn
  clear hn
  go_enter Try.func27, Try.ntmps27
  go_wp2
  go_loop [5] (fun i => ∃ k : Nat, k ≤ n ∧ Hid (y ∉ zs.take k) ∧ i = .int .i64 k) (fun i => n - (intOf i).toNat)
  case atStart => exact ⟨0, Nat.zero_le _, (by show y ∉ zs.take 0; simp), rfl⟩
  case round =>
    obtain ⟨k, hk, Hy, rfl⟩ := hrel
    by_cases hlt : k < n
    · obtain ⟨b, off, x, rfl, hbw, Hx, hc⟩ := hr.x (k := k) (by rw [Hn.out]; exact hlt)
      by_cases he : x = y
      · subst he
        have Hs := Lib.hid (isIn_yes (by rw [Hn.out]; exact hlt) Hx.out)
        go_wp2
        go_ret
        exact ⟨ret_bool Hs.out.symm, rfl⟩
      · have hb1 : (x == y) = false := by rw [beq_eq_false_iff_ne]; exact he
        have Hs := Lib.hid (isIn_step (by rw [Hn.out]; exact hlt) Hx.out Hy.out he)
        clear he
        go_wp2
        go_round
        case rel => exact ⟨k + 1, by omega, Hs, by go_num⟩
        case measure => simp [intOf]; omega
    · have Hs := Lib.hid (isIn_no (by rw [Hn.out]; omega) Hy.out)
      go_wp2
      go_ret
      exact ⟨ret_bool Hs.out.symm, rfl⟩
end Go.Proofs.Ythphboeboiallab
