/-
  ValidRoom of the model, walked.
  Conditions: fewer than 2^60 numbers and calls.
-/
import Derived.Test.YtakljcpneghgnaaV5
import Derived.Test.YtakljcpneghgnaaLR
namespace Go.Proofs.Ytakljcpneghgnaa
open Go.ChangeShapes Go.WideShapes Go.ChangeAt Go.RowKit
set_option linter.unusedVariables false
set_option maxRecDepth 4000

set_option maxHeartbeats 800000 in
theorem sRoom_in (A A' : Option Addr) (c c' H n : Nat) (room : List Int) (wish : List (List Int)) (w : World) (B : Nat) (hr : RdI w B A room) (hH : room.length = H) (hw : RdV w B A' wish) (hn : wish.length = n) (hb : H ≤ 1152921504606846976) (hb2 : n ≤ 1152921504606846976) :
    Calls Try.prog 49 #[.slice A H c, .slice A' n c'] w fun e w' => e = .returned (.bool (vroom room wish)) ∧ ∃ q, w' = w.drewN q := by
  by_cases h4 : 4 < H
  · have Hs := Lib.hid (vroom_no_len (room := room) (wish := wish) (.inl (by omega)))
    clear hH hn
    go_enter Try.func49, Try.ntmps49
    go_wp2
    go_ret
    exact ⟨ret_bool Hs.out.symm, 0, rfl⟩
  by_cases h7 : 7 < n
  · have Hs := Lib.hid (vroom_no_len (room := room) (wish := wish) (.inr (by omega)))
    clear hH hn
    go_enter Try.func49, Try.ntmps49
    go_wp2
    go_ret
    exact ⟨ret_bool Hs.out.symm, 0, rfl⟩
  have HH := Lib.hid hH
  have Hn := Lib.hid hn
  clear hH hn
  go_enter Try.func49, Try.ntmps49
  go_wp2
  go_loop [5] (fun i => ∃ k : Nat, k ≤ H ∧ i = .int .i64 k ∧ Hid (OkR room k)) (fun i => H - (intOf i).toNat)
  case atStart => exact ⟨0, by omega, rfl, OkR.zero _⟩
  case round =>
    obtain ⟨k, hk, rfl, Ho⟩ := hrel
    by_cases hlt : k < H
    · obtain ⟨b, off, x, rfl, -, Hx, hcx⟩ := hr.x (k := k) (by rw [HH.out]; exact hlt)
      by_cases h1 : x < 0 ∨ 7 < x
      · have Hs := Lib.hid (vroom_no_room (wish := wish) (by rw [HH.out]; exact hlt) Hx.out h1)
        go_wp2_with fail
        refine (inRange_no _ _ _ w h1).mono ?_
        rintro e w' ⟨rfl, rfl⟩
        go_wp2
        go_ret
        exact ⟨ret_bool Hs.out.symm, 0, rfl⟩
      · have Hs := Lib.hid (Ho.out.step Hx.out (by omega) (by omega))
        go_wp2_with fail
        refine (inRange_yes _ _ _ w (by omega) (by omega)).mono ?_
        rintro e w' ⟨rfl, rfl⟩
        go_wp2
        go_round
        case rel => exact ⟨k + 1, by omega, by go_num, Hs⟩
        case measure => simp [intOf]; omega
    · obtain rfl : k = H := by omega
      have HR := Lib.hid Ho.out
      clear Ho
      go_wp2
      go_loopw [6] (fun i wr => ∃ j q : Nat, j ≤ n ∧ i = .int .i64 j ∧ Hid (OkW k wish j) ∧ wr = w.drewN q) (fun i _ => n - (intOf i).toNat)
      case atStart => exact ⟨0, 0, by omega, rfl, OkW.zero _ _, rfl⟩
      case round =>
        obtain ⟨j, q, hj, rfl, HW, rfl⟩ := hrel
        by_cases hltj : j < n
        · obtain ⟨bw, ow, a, ca, ls, rfl, hbw, Hl, hcl, hca, hcm, hrl⟩ := hw.x (k := j) (by rw [Hn.out]; exact hltj)
          obtain ⟨m, Hm⟩ : ∃ m, Hid (ls.length = m) := ⟨_, rfl⟩
          rw [Hm.out] at hcl hca
          have hm63 : m ≤ 9223372036854775807 := by omega
          go_wp2
          go_loopw [7] (fun i wr => ∃ t q : Nat, t ≤ m ∧ i = .int .i64 t ∧ Hid (AscL k ls t) ∧ wr = w.drewN q) (fun i _ => m - (intOf i).toNat)
          case atStart => exact ⟨0, q, by omega, rfl, AscL.zero _ _, rfl⟩
          case round =>
            obtain ⟨t, q, ht, rfl, HA, rfl⟩ := hrel
            by_cases hltt : t < m
            · obtain ⟨b, off, x, rfl, -, Hx, hcx⟩ := hrl.x (k := t) (by rw [Hm.out]; exact hltt)
              have w1 : IntKind.i64.wrap ((k : Int) - 1) = (k : Int) - 1 := IntWalk.i64_in _ (by omega)
              by_cases h1 : x < 0 ∨ (k : Int) - 1 < x
              · have Hs := Lib.hid (vroom_no_wish (room := room) (x := x) (by rw [Hn.out]; exact hltj) Hl.out (by rw [Hm.out]; exact hltt) Hx.out (by rw [HH.out]; omega))
                go_wp2
                go_quiet ((go_at_call 72; exact quiet_gen (inRange_no _ _ _ _ h1) ⟨_, rfl⟩))
                go_wp2
                go_ret
                exact ⟨ret_bool Hs.out.symm, _, World.drewN_drewN _ _ _⟩
              · have h2 : 0 ≤ x := by omega
                have h3 : x ≤ (k : Int) - 1 := by omega
                by_cases ht0 : t = 0
                · have Hs := Lib.hid (HA.out.step Hx.out h2 h3 (fun h => by omega))
                  have hg1 : decide ((t : Int) > 0) = false := decide_eq_false (by omega)
                  have hg2 : decide ((0 : Int) < (t : Int)) = false := decide_eq_false (by omega)
                  have hg3 : decide (0 < t) = false := decide_eq_false (by omega)
                  clear ht0
                  go_wp2
                  go_quiet ((go_at_call 72; exact quiet_gen (inRange_yes _ _ _ _ h2 h3) ⟨_, rfl⟩))
                  go_wp2
                  go_roundw
                  case rel => exact ⟨t + 1, _, by omega, by go_num, Hs, rfl⟩
                  case measure => simp [intOf]; omega
                · obtain ⟨p, rfl⟩ : ∃ p, t = p + 1 := ⟨t - 1, by omega⟩
                  obtain ⟨b', off', y, e', -, Hy, hcy⟩ := hrl.x (k := p) (by rw [Hm.out]; omega)
                  injection e' with e'
                  injection e' with e1 e2
                  subst e1 e2
                  have hpos : (0 : Int) < ((p + 1 : Nat) : Int) := by omega
                  have w2 : IntKind.i64.wrap (((p + 1 : Nat) : Int) - 1) = (p : Int) := by rw [IntWalk.i64_in _ (by omega)]; omega
                  by_cases hxy : x ≤ y
                  · have Hs := Lib.hid (vroom_no_wish (room := room) (x := x) (by rw [Hn.out]; exact hltj) Hl.out (by rw [Hm.out]; exact hltt) Hx.out (by rw [show p + 1 - 1 = p from rfl, Hy.out]; omega))
                    go_wp2
                    go_quiet ((go_at_call 72; exact quiet_gen (inRange_yes _ _ _ _ h2 h3) ⟨_, rfl⟩))
                    go_wp2
                    go_ret
                    exact ⟨ret_bool Hs.out.symm, _, World.drewN_drewN _ _ _⟩
                  · have hyx : y < x := by omega
                    have Hs := Lib.hid (HA.out.step Hx.out h2 h3 (fun h => by rw [show p + 1 - 1 = p from rfl, Hy.out]; exact hyx))
                    go_wp2
                    go_quiet ((go_at_call 72; exact quiet_gen (inRange_yes _ _ _ _ h2 h3) ⟨_, rfl⟩))
                    go_wp2
                    go_roundw
                    case rel => exact ⟨p + 1 + 1, _, by omega, by go_num, Hs, rfl⟩
                    case measure => simp [intOf]; omega
            · have Hs := Lib.hid (HW.out.step Hl.out (by rw [Hm.out, show m = t by omega]; exact HA.out))
              go_wp2
              go_roundw
              case rel => exact ⟨j + 1, _, by omega, by go_num, Hs, rfl⟩
              case measure => simp [intOf]; omega
        · have Hs := Lib.hid (vroom_yes (room := room) (wish := wish) (by rw [HH.out]; omega) (by rw [Hn.out]; omega) (by rw [HH.out]; exact HR.out) (by rw [HH.out, Hn.out, show n = j by omega]; exact HW.out))
          go_wp2
          go_ret
          exact ⟨ret_bool Hs.out.symm, _, rfl⟩
end Go.Proofs.Ytakljcpneghgnaa
