/-
  ValidNet of the model.
  Conditions: fewer than 2^60 streets.
-/
import Derived.Test.YtiblcmeoneolcaaB1
import Derived.Test.YtiblcmeoneolcaaLR
namespace Go.Proofs.Ytiblcmeoneolcaa
open Go.ChangeShapes Go.WideShapes Go.ChangeAt Go.RowKit
set_option linter.unusedVariables false

theorem wrap_pred {n : Int} (h1 : -9223372036854775808 ≤ n) (h2 : n ≤ 9223372036854775807) : (IntKind.i64.wrap (n - 1) = n - 1) ∨ (n = -9223372036854775808) := by
  by_cases e : n = -9223372036854775808
  · exact .inr e
  · exact .inl (IntWalk.i64_in _ (by omega))
theorem vnet_bad {n q : Int} {ss : List Str} {k : Nat} {x y z : Int} (hq : q = n - 1 ∨ n < 1) (hk : k < ss.length) (hx : ss.getD k str0 = (x, y, z)) (h : x < 0 ∨ q < x ∨ y < 0 ∨ q < y ∨ z < 1 ∨ 9 < z) : vnet n ss = false := by
  rcases hq with rfl | hq
  · exact vnet_no_at hk hx (by omega)
  · exact vnet_no_n (.inl hq)

set_option maxHeartbeats 800000 in
theorem sValidNet_in (A : Option Addr) (c m : Nat) (n : Int) (ss : List Str) (w : World) (B : Nat) (hr : RdS w B A ss) (hm : ss.length = m) (hb : m ≤ 1152921504606846976) (hwf : (Lit.int .i64 n).wf = true) :
    Calls Try.prog 52 #[.int .i64 n, .slice A m c] w fun e w' => e = .returned (.bool (vnet n ss)) ∧ w = w' := by
  obtain ⟨q, Hq⟩ : ∃ q, Hid (IntKind.i64.wrap (n - 1) = q) := ⟨_, rfl⟩
  have hnb := bounds_i64 hwf
  have hq : q = n - 1 ∨ n < 1 := by
    rcases wrap_pred hnb.1 hnb.2 with h | h
    · exact .inl (by rw [← Hq.out, h])
    · exact .inr (by omega)
  have hq' := Hq.out
  have Hm := Lib.hid hm
  clear hm
  go_enter Try.func52, Try.ntmps52
  go_wp2
  go_loop [5] (fun i => ∃ k : Nat, k ≤ m ∧ i = .int .i64 k ∧ Hid (OkN (q + 1) ss k)) (fun i => m - (intOf i).toNat)
  case atStart => exact ⟨0, Nat.zero_le _, rfl, OkN.zero _ _⟩
  case round =>
    obtain ⟨k, hk, rfl, Ho⟩ := hrel
    by_cases hlt : k < m
    · obtain ⟨b, off, x, y, z, rfl, -, Hx, hcx, hcy, hcz⟩ := hr.x (k := k) (by rw [Hm.out]; omega)
      by_cases h1 : x < 0 ∨ q < x
      · have Hs := Lib.hid (vnet_bad (k := k) hq (by rw [Hm.out]; omega) Hx.out (by omega))
        go_wp2_with fail
        refine (inRange_no _ _ _ w (by omega)).mono ?_
        rintro e w' ⟨rfl, rfl⟩
        go_wp2
        go_ret
        exact ⟨ret_bool Hs.out.symm, rfl⟩
      by_cases h2 : y < 0 ∨ q < y
      · have Hs := Lib.hid (vnet_bad (k := k) hq (by rw [Hm.out]; omega) Hx.out (by omega))
        go_wp2_with fail
        refine (inRange_yes _ _ _ w (by omega) (by omega)).mono ?_
        rintro e w' ⟨rfl, rfl⟩
        go_wp2_with fail
        refine (inRange_no _ _ _ w (by omega)).mono ?_
        rintro e w' ⟨rfl, rfl⟩
        go_wp2
        go_ret
        exact ⟨ret_bool Hs.out.symm, rfl⟩
      by_cases h3 : z < 1 ∨ 9 < z
      · have Hs := Lib.hid (vnet_bad (k := k) hq (by rw [Hm.out]; omega) Hx.out (by omega))
        go_wp2_with fail
        refine (inRange_yes _ _ _ w (by omega) (by omega)).mono ?_
        rintro e w' ⟨rfl, rfl⟩
        go_wp2_with fail
        refine (inRange_yes _ _ _ w (by omega) (by omega)).mono ?_
        rintro e w' ⟨rfl, rfl⟩
        go_wp2_with fail
        refine (inRange_no _ _ _ w (by omega)).mono ?_
        rintro e w' ⟨rfl, rfl⟩
        go_wp2
        go_ret
        exact ⟨ret_bool Hs.out.symm, rfl⟩
      · have Hs := Lib.hid (OkN.step Ho.out Hx.out (by omega) (by omega) (by omega) (by omega) (by omega) (by omega))
        go_wp2_with fail
        refine (inRange_yes _ _ _ w (by omega) (by omega)).mono ?_
        rintro e w' ⟨rfl, rfl⟩
        go_wp2_with fail
        refine (inRange_yes _ _ _ w (by omega) (by omega)).mono ?_
        rintro e w' ⟨rfl, rfl⟩
        go_wp2_with fail
        refine (inRange_yes _ _ _ w (by omega) (by omega)).mono ?_
        rintro e w' ⟨rfl, rfl⟩
        go_wp2
        go_round
        case rel => exact ⟨k + 1, by omega, by go_num, Hs⟩
        case measure => simp [intOf]; omega
    · clear hq'
      by_cases h0 : n < 1 ∨ 7 < n
      · have Hs := Lib.hid (vnet_no_n (ss := ss) h0)
        go_wp2_with fail
        refine (inRange_no _ _ _ w (by omega)).mono ?_
        rintro e w' ⟨rfl, rfl⟩
        go_wp2
        go_ret
        exact ⟨ret_bool Hs.out.symm, rfl⟩
      · by_cases h12 : 12 < m
        · have Hs := Lib.hid (vnet_no_len (n := n) (ss := ss) (by rw [Hm.out]; exact h12))
          go_wp2_with fail
          refine (inRange_yes _ _ _ w (by omega) (by omega)).mono ?_
          rintro e w' ⟨rfl, rfl⟩
          go_wp2
          go_ret
          exact ⟨ret_bool (by rw [Hs.out]; exact decide_eq_false (by omega)), rfl⟩
        · have hqn : q + 1 = n := by omega
          have Hs := Lib.hid (vnet_yes (n := n) (by rw [← hqn]; exact Ho.out) (by omega) (by omega) (by rw [Hm.out]; omega) (by rw [Hm.out]; omega))
          go_wp2_with fail
          refine (inRange_yes _ _ _ w (by omega) (by omega)).mono ?_
          rintro e w' ⟨rfl, rfl⟩
          go_wp2
          go_ret
          exact ⟨ret_bool (by rw [Hs.out]; exact decide_eq_true (by omega)), rfl⟩
end Go.Proofs.Ytiblcmeoneolcaa
