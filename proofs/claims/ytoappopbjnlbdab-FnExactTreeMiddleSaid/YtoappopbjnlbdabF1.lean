/-
  validFolk: the program and the model answer the same.
  Conditions: fewer than 2^60 numbers.
-/
import Derived.Test.YtoappopbjnlbdabR2
import Derived.Test.YtoappopbjnlbdabFO
namespace Go.Proofs.Ytoappopbjnlbdab
open Go.ChangeShapes Go.WideShapes Go.ChangeAt Go.RowKit
set_option linter.unusedVariables false
set_option maxRecDepth 4000

def fk (n : Nat) (fs : List Int) : Bool := decide (fs.length = n) && okF fs
theorem iValidFolk_any (A A' : Option Addr) (c c' n m : Nat) (fs : List Int) (w : World) (B : Nat) (hr : RdI w B A fs) (hn : fs.length = n) (hb : n ≤ 1152921504606846976) :
    Calls Try.prog 47 #[.slice A' m c', .slice A n c] w fun e w' => e = .returned (.bool (fk m fs)) ∧ w = w' := by
  by_cases hnm : n = m
  · have H := Lib.hid (areFolk_any A c n fs w B hr hn hb)
    have hfk : fk m fs = okF fs := by unfold fk; simp [hn, hnm]
    rw [hfk]
    have hb1 : ((n : Int) == (m : Int)) = true := by rw [beq_iff_eq]; omega
    clear hr hn hfk hnm
    go_enter Try.func47, Try.ntmps47
    go_wp2_with fail
    refine H.out.mono ?_
    rintro e w' ⟨rfl, rfl⟩
    go_wp2
    go_ret
    exact ⟨ret_bool (by simp), rfl⟩
  · have hfk : fk m fs = false := by unfold fk; simp [hn, hnm]
    rw [hfk]
    have hb1 : ((n : Int) == (m : Int)) = false := by rw [beq_eq_false_iff_ne]; omega
    clear hr hn hfk hnm
    go_enter Try.func47, Try.ntmps47
    go_wp2
    go_ret
    exact ⟨ret_bool rfl, rfl⟩
set_option maxHeartbeats 800000 in
theorem sValidFolk_any (A : Option Addr) (c n m : Nat) (fs : List Int) (w : World) (B : Nat) (hr : RdI w B A fs) (hn : fs.length = n) (hb : n ≤ 1152921504606846976) :
    Calls Try.prog 51 #[.int .i64 m, .slice A n c] w fun e w' => e = .returned (.bool (fk m fs)) ∧ w = w' := by
  have Hn := Lib.hid hn
  clear hn
  go_enter Try.func51, Try.ntmps51
  go_wp2
  go_loop [5] (fun i => ∃ k : Nat, k ≤ n ∧ i = .int .i64 k ∧ Hid (FineTo fs k)) (fun i => n - (intOf i).toNat)
  case atStart => exact ⟨0, by omega, rfl, fun i hi => by omega⟩
  case round =>
    obtain ⟨k, hk, rfl, Ho⟩ := hrel
    by_cases hlt : k < n
    · obtain ⟨b, off, x, rfl, -, Hx, hcx⟩ := hr.x (k := k) (by rw [Hn.out]; omega)
      by_cases h1 : x < 0 ∨ 20 < x
      · have Hs := Lib.hid (show fk m fs = false by unfold fk; rw [okF_no (by rw [Hn.out]; exact hlt) Hx.out h1]; simp)
        go_wp2_with fail
        refine (inRange_no _ _ _ w h1).mono ?_
        rintro e w' ⟨rfl, rfl⟩
        go_wp2
        go_ret
        exact ⟨ret_bool Hs.out.symm, rfl⟩
      · have Hs := Lib.hid (Ho.out.step Hx.out (by omega) (by omega))
        go_wp2_with fail
        refine (inRange_yes _ _ _ w (by omega) (by omega)).mono ?_
        rintro e w' ⟨rfl, rfl⟩
        go_wp2
        go_round
        case rel => exact ⟨k + 1, by omega, by go_num, Hs⟩
        case measure => simp [intOf]; omega
    · have Hs := Lib.hid (Ho.out.end_ (by rw [Hn.out]; omega))
      have Hf : Hid (decide ((n : Int) = (m : Int)) = fk m fs) := by
        show decide ((n : Int) = (m : Int)) = fk m fs
        unfold fk; rw [Hs.out, Hn.out]
        by_cases h : n = m <;> simp [h]
        omega
      go_wp2
      go_ret
      refine ⟨ret_bool ?_, rfl⟩
      rw [← Hf.out]
      rfl
end Go.Proofs.Ytoappopbjnlbdab
