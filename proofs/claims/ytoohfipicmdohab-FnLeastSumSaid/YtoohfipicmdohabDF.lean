/-
  The laws' different.
  Conditions: none.
-/
import Derived.Test.YtoohfipicmdohabLR
import Derived.Test.YtoohfipicmdohabE0
import Derived.Test.YtoohfipicmdohabNI
namespace Go.Proofs.Ytoohfipicmdohab
open Go.ChangeShapes Go.WideShapes Go.ChangeAt Go.RowKit
set_option linter.unusedVariables false

def diffc (zs : List Int) : Nat → Int
  | 0 => 0
  | i + 1 => if hasB (zs.take i) (zs.getD i 0) then diffc zs i else diffc zs i + 1
theorem diffc_bd (zs : List Int) : ∀ i, 0 ≤ diffc zs i ∧ diffc zs i ≤ i
  | 0 => by simp [diffc]
  | i + 1 => by have := diffc_bd zs i; simp only [diffc]; split <;> omega
theorem diffc_yes {zs : List Int} {k : Nat} {x : Int} (hx : zs.getD k 0 = x) (h : hasB (zs.take k) x = true) : diffc zs (k + 1) = diffc zs k := by
  simp only [diffc, hx, h, if_true]
theorem diffc_no {zs : List Int} {k : Nat} {x : Int} (hx : zs.getD k 0 = x) (h : hasB (zs.take k) x = false) : diffc zs (k + 1) = diffc zs k + 1 := by
  simp only [diffc, hx, h]; rfl

set_option maxHeartbeats 400000 in
theorem different_any (A : Option Addr) (c n : Nat) (zs : List Int) (w : World) (B : Nat) (hr : RdI w B A zs) (hn : zs.length = n) (hcap : n ≤ c) (hc63 : c ≤ 9223372036854775807) (hb : n ≤ 1000) :
    Calls Try.prog 28 #[.slice A n c] w fun e w' => e = .returned (.int .i64 (diffc zs zs.length)) ∧ ∃ q, w' = w.drewN q := by
  have Hn := Lib.hid hn
  clear hn
  go_enter Try.func28, Try.ntmps28
  go_wp2
  go_loopw [3, 4] (fun v i wr => ∃ k : Nat, ∃ q : Nat, k ≤ n ∧ i = .int .i64 k ∧ v = .int .i64 (diffc zs k) ∧ wr = w.drewN q) (fun _ i _ => n - (intOf i).toNat)
  case atStart => exact ⟨0, 0, Nat.zero_le _, rfl, rfl, rfl⟩
  case round =>
    obtain ⟨k, q, hk, rfl, rfl, rfl⟩ := hrel
    have hd := diffc_bd zs k
    by_cases hlt : k < n
    · obtain ⟨b, off, x, rfl, hbw, Hx, hc⟩ := hr.x (k := k) (by rw [Hn.out]; exact hlt)
      have hrk := hr.take k
      have hlk : (zs.take k).length = k := by rw [List.length_take, Hn.out]; omega
      have Hq := Lib.hid (fun W : World => fun h : RdI W B (some ⟨b, off, none⟩) (zs.take k) => isIn_any (some ⟨b, off, none⟩) c k (zs.take k) x W B h hlk (by omega))
      have hkc : k ≤ c := by omega
      clear hlk
      cases hin : hasB (zs.take k) x with
      | true =>
        have Hs := Lib.hid (diffc_yes Hx.out hin)
        rw [hin] at Hq
        clear hin
        go_wp2
        go_quiet ((go_at_call 51; exact quiet_gen (Hq.out _ hrk) ⟨_, rfl⟩))
        go_wp2
        go_roundw
        case rel => exact ⟨k + 1, _, by omega, by go_num, by rw [Hs.out], rfl⟩
        case measure => simp [intOf]; omega
      | false =>
        have Hs := Lib.hid (diffc_no Hx.out hin)
        rw [hin] at Hq
        clear hin
        go_wp2
        go_quiet ((go_at_call 51; exact quiet_gen (Hq.out _ hrk) ⟨_, rfl⟩))
        go_wp2
        go_roundw
        case rel => exact ⟨k + 1, _, by omega, by go_num, by rw [Hs.out], rfl⟩
        case measure => simp [intOf]; omega
    · obtain rfl : k = n := by omega
      go_wp2
      go_ret
      exact ⟨ret_int (by rw [Hn.out]), _, rfl⟩
end Go.Proofs.Ytoohfipicmdohab
