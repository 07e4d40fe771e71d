/-
  nearest, and the sum over one choice of homes: what the model computes.
  Conditions: as each theorem states.
-/
import Derived.Test.YtoohfipicmdohabS5
import Derived.Test.YtoohfipicmdohabS3
namespace Go.Proofs.Ytoohfipicmdohab
open Go.ChangeShapes Go.WideShapes Go.ChangeAt Go.RowKit
set_option linter.unusedVariables false

/-- How far the nearest of the places 0 .. m is. -/
def nearL (ps : List Int) (x : Int) : Nat → Int
  | 0 => gapI (ps.getD 0 0) x
  | m + 1 => min (nearL ps x m) (gapI (ps.getD (m + 1) 0) x)
theorem nearL_next {ps : List Int} {x t y : Int} {m : Nat} (ht : nearL ps x m = t) (hy : ps.getD (m + 1) 0 = y) : nearL ps x (m + 1) = min t (gapI y x) := by
  simp only [nearL, ht, hy]
theorem nearL_bd {ps : List Int} {x : Int} (hp : InBd ps) (h1 : -1000 ≤ x) (h2 : x ≤ 1000) : ∀ m, m < ps.length → 0 ≤ nearL ps x m ∧ nearL ps x m ≤ 2000
  | 0, h => by
    obtain ⟨a, b⟩ := hp.get h rfl
    have := gapI_nonneg (ps.getD 0 0) x
    have := gapI_le (M := 1000) a b h1 h2
    simp only [nearL]; omega
  | m + 1, h => by
    have ih := nearL_bd hp h1 h2 m (by omega)
    have := gapI_nonneg (ps.getD (m + 1) 0) x
    simp only [nearL]; omega

set_option maxHeartbeats 400000 in
theorem nearest_any (A : Option Addr) (c n : Nat) (ps : List Int) (x : Int) (w : World) (B : Nat) (hr : RdI w B A ps) (hn : ps.length = n) (hb : n ≤ 1000) (hn1 : 1 ≤ n) (hbd : InBd ps) (hp1 : -1000 ≤ x) (hp2 : x ≤ 1000) :
    Calls Try.prog 48 #[.slice A n c, .int .i64 x] w fun e w' => e = .returned (.int .i64 (nearL ps x (n - 1))) ∧ w = w' := by
  have Hn := Lib.hid hn
  have Hbd := Lib.hid hbd
  clear hn hbd
  obtain ⟨b0, off0, y, rfl, _, Hy, hc⟩ := hr.x (k := 0) (by rw [Hn.out]; omega)
  obtain ⟨hy1, hy2⟩ := Hbd.out.get (by rw [Hn.out]; omega) Hy.out
  have H0 : Hid (nearL ps x 0 = gapI y x) := by show nearL ps x 0 = _; rw [← Hy.out]; rfl
  rw [Nat.add_zero] at hc
  go_enter Try.func48, Try.ntmps48
  go_wp2_with (go_at_call 62; refine (gap_any _ _ _ hy1 hy2 hp1 hp2).mono ?_; rintro e w' ⟨rfl, rfl⟩)
  go_loop [5, 6] (fun s i => ∃ m : Nat, ∃ t : Int, m < n ∧ Hid (nearL ps x m = t) ∧ i = .int .i64 ((m + 1 : Nat) : Int) ∧ s = .int .i64 t) (fun _ i => n - (intOf i).toNat)
  case atStart => exact ⟨0, gapI y x, by omega, H0, rfl, rfl⟩
  case round =>
    obtain ⟨m, t, hm, Ht, rfl, rfl⟩ := hrel
    clear hc Hy
    by_cases hlt : m + 1 < n
    · obtain ⟨b, off, z, he, _, Hz, hc⟩ := hr.x (k := m + 1) (by rw [Hn.out]; exact hlt)
      injection he with he
      injection he with he1 he2
      subst he1 he2
      obtain ⟨hz1, hz2⟩ := Hbd.out.get (by rw [Hn.out]; exact hlt) Hz.out
      have Hs := Lib.hid (nearL_next Ht.out Hz.out)
      generalize hi : m + 1 = i at *
      go_wp2_with (go_at_call 62; refine (gap_any _ _ _ hz1 hz2 hp1 hp2).mono ?_; rintro e w' ⟨rfl, rfl⟩)
      go_round
      case rel => exact ⟨i, _, hlt, Hs, by go_num, by rw [if_min]⟩
      case measure => simp [intOf]; omega
    · have hmn : m = n - 1 := by omega
      have Hs : Hid (nearL ps x (n - 1) = t) := by rw [← hmn]; exact Ht
      generalize hi : m + 1 = i at *
      have hin : i = n := by omega
      subst hin
      go_wp2
      go_ret
      exact ⟨ret_int Hs.out.symm, rfl⟩
end Go.Proofs.Ytoohfipicmdohab
