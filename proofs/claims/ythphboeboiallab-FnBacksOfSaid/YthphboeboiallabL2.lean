/-
  The model's validHomes answers the same test.
  Conditions: fewer than 2^60 numbers.
-/
import Derived.Test.YthphboeboiallabL1
namespace Go.Proofs.Ythphboeboiallab
open Go.ChangeShapes Go.WideShapes Go.ChangeAt Go.RowKit
set_option linter.unusedVariables false

/-- The number ahead of place k, 0 for none. -/
def ahead (zs : List Int) (k : Nat) : Int := if k = 0 then 0 else zs.getD (k - 1) 0
theorem ahead_zero (zs : List Int) : ahead zs 0 = 0 := rfl
theorem ahead_succ (zs : List Int) (j : Nat) : ahead zs (j + 1) = zs.getD j 0 := by simp [ahead]

set_option maxHeartbeats 400000 in
theorem sValid_any (A : Option Addr) (c n : Nat) (zs : List Int) (w : World) (B : Nat) (hr : RdI w B A zs) (hn : zs.length = n) (hb : n ≤ 1152921504606846976) :
    Calls Try.prog 63 #[.slice A n c] w fun e w' => e = .returned (.bool (vh zs)) ∧ ∃ q, w' = w.drewN q := by
  have Hn := Lib.hid hn
  clear hn
  go_enter Try.func63, Try.ntmps63
  go_wp2
  go_loopw [3] (fun i wr => ∃ k : Nat, ∃ q, k ≤ n ∧ Hid (okFrom 0 zs = okFrom (ahead zs k) (zs.drop k)) ∧ Hid (0 ≤ ahead zs k) ∧ i = .int .i64 k ∧ wr = w.drewN q) (fun i _ => n - (intOf i).toNat)
  case atStart => exact ⟨0, 0, Nat.zero_le _, rfl, (by show (0 : Int) ≤ ahead zs 0; rw [ahead_zero]; omega), rfl, rfl⟩
  case round =>
    obtain ⟨k, q, hk, Ho, Hp, rfl, rfl⟩ := hrel
    by_cases hlt : k < n
    · obtain ⟨b, off, x, rfl, hbw, Hx, hc⟩ := hr.x (k := k) (by rw [Hn.out]; exact hlt)
      by_cases h1 : x < 0 ∨ 50 < x
      · have Hs := Lib.hid (okFrom_no (a := ahead zs k) (by rw [Hn.out]; exact hlt) Hx.out Ho.out (by have := Hp.out; omega))
        go_wp2
        go_quiet ((go_at_call 64; exact quiet_gen (inRange_no _ _ _ _ h1) ⟨_, rfl⟩))
        go_wp2
        go_ret
        exact ⟨ret_bool Hs.out.symm, _, World.drewN_drewN _ _ _⟩
      · have h2 : 0 ≤ x := by omega
        have h3 : x ≤ 50 := by omega
        clear h1
        rcases Nat.eq_zero_or_pos k with hk0 | hk0
        · subst hk0
          rw [Nat.add_zero] at hc
          have Hs := Lib.hid (okFrom_step (by rw [Hn.out]; exact hlt) Hx.out Ho.out (by rw [ahead_zero]; exact h2) h3)
          go_wp2
          go_quiet ((go_at_call 64; exact quiet_gen (inRange_yes _ _ _ _ h2 h3) ⟨_, rfl⟩))
          go_wp2
          go_roundw
          case rel => exact ⟨1, _, by omega, (by show okFrom 0 zs = okFrom (ahead zs (0 + 1)) (zs.drop 1); rw [ahead_succ, Hx.out]; exact Hs.out), (by show 0 ≤ ahead zs (0 + 1); rw [ahead_succ, Hx.out]; exact h2), rfl, rfl⟩
          case measure => simp [intOf]; omega
        · obtain ⟨j, rfl⟩ : ∃ j, k = j + 1 := ⟨k - 1, by omega⟩
          obtain ⟨b', off', y, he, _, Hy, hcy⟩ := hr.x (k := j) (by rw [Hn.out]; omega)
          injection he with he
          injection he with he1 he2
          subst he1 he2
          have Ha := ahead_succ zs j
          rw [Hy.out] at Ha
          by_cases hxy : x < y
          · have Hs := Lib.hid (okFrom_no (a := ahead zs (j + 1)) (by rw [Hn.out]; exact hlt) Hx.out Ho.out (by rw [Ha]; exact .inl hxy))
            clear Ha
            go_wp2
            go_quiet ((go_at_call 64; exact quiet_gen (inRange_yes _ _ _ _ h2 h3) ⟨_, rfl⟩))
            go_wp2
            go_ret
            exact ⟨ret_bool Hs.out.symm, _, World.drewN_drewN _ _ _⟩
          · have Hs := Lib.hid (okFrom_step (by rw [Hn.out]; exact hlt) Hx.out Ho.out (by rw [Ha]; omega) h3)
            clear Ha
            go_wp2
            go_quiet ((go_at_call 64; exact quiet_gen (inRange_yes _ _ _ _ h2 h3) ⟨_, rfl⟩))
            go_wp2
            go_roundw
            case rel => exact ⟨j + 2, _, by omega, (by show okFrom 0 zs = okFrom (ahead zs (j + 1 + 1)) (zs.drop (j + 1 + 1)); rw [ahead_succ, Hx.out]; exact Hs.out), (by show 0 ≤ ahead zs (j + 1 + 1); rw [ahead_succ, Hx.out]; exact h2), by go_num, rfl⟩
            case measure => simp [intOf]; omega
    · have Ho' := okFrom_end (by rw [Hn.out]; omega) Ho.out
      by_cases h10 : n ≤ 10
      · have Hs := Lib.hid (vh_short (by rw [Hn.out]; omega) Ho')
        clear Ho'
        go_wp2
        go_ret
        exact ⟨ret_bool (by rw [Hs.out]; simp; omega), _, rfl⟩
      · have Hs := Lib.hid (vh_long (zs := zs) (by rw [Hn.out]; omega))
        clear Ho'
        go_wp2
        go_ret
        exact ⟨ret_bool (by rw [Hs.out]; simp; omega), _, rfl⟩
end Go.Proofs.Ythphboeboiallab
