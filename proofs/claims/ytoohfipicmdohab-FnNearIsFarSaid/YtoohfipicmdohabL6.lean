/-
  LeastFar of the model finds the same number.
  Conditions: fewer than 2^20 numbers.
-/
import Derived.Test.YtoohfipicmdohabL5
namespace Go.Proofs.Ytoohfipicmdohab
open Go.ChangeShapes Go.WideShapes Go.ChangeAt Go.RowKit
set_option linter.unusedVariables false

set_option maxHeartbeats 400000 in
theorem sLeastFar_any (A : Option Addr) (c n : Nat) (zs : List Int) (k : Int) (w : World) (B : Nat) (hr : RdI w B A zs) (hn : zs.length = n) (hb : n ≤ 1048576) :
    Calls Try.prog 31 #[.slice A n c, .int .i64 k] w fun e w' => e = .returned (.int .i64 (lfar zs k)) ∧ ∃ q, w' = w.drewN q := by
  have Hn := Lib.hid hn
  clear hn
  by_cases hv : vh zs = true
  · by_cases hf : k < 1 ∨ 4 < k
    · have Hs := Lib.hid (lfar_no' (zs := zs) (vk_no hf))
      go_enter Try.func31, Try.ntmps31
      go_wp2_with fail
      refine (sValid_any A c n zs w B hr Hn.out (by omega)).mono ?_
      rintro e w' ⟨rfl, q0, rfl⟩
      go_wp2_with (go_at_call 43; refine (inRange_no _ _ _ _ hf).mono ?_; rintro e w' ⟨rfl, rfl⟩)
      go_ret
      exact ⟨ret_int Hs.out.symm, _, rfl⟩
    · have h1 : 1 ≤ k := by omega
      have h2 : k ≤ 4 := by omega
      clear hf
      have Hs := Lib.hid (lfar_yes hv (vk_yes h1 h2))
      go_enter Try.func31, Try.ntmps31
      go_wp2_with fail
      refine (sValid_any A c n zs w B hr Hn.out (by omega)).mono ?_
      rintro e w' ⟨rfl, q0, rfl⟩
      have Hv := Lib.hid hv
      go_wp2_with (go_at_call 43; refine (inRange_yes _ _ _ _ h1 h2).mono ?_; rintro e w' ⟨rfl, rfl⟩)
      clear hv
      go_loopw [5] (fun r wr => ∃ f : Nat, ∃ far : Int, ∃ q,  0 ≤ far ∧ far ≤ 25 ∧ far + f = 50 ∧ Hid (lfar zs k = lfrom zs k f far) ∧ r = .int .i64 far ∧ wr = w.drewN q) (fun r _ => 50 - (intOf r).toNat)
      case atStart => exact ⟨50, 0, _, by omega, by omega, by omega, Hs, rfl, rfl⟩
      case round =>
        obtain ⟨f, far, q, hf1, hf2, hff, Ho, rfl, rfl⟩ := hrel
        have Hff := Lib.hid hff
        clear hff
        by_cases hk : k < fewest zs far
        · have hlt : far < 25 := by
            rcases Int.lt_or_le far 25 with h | h
            · exact h
            · have := fewest_big Hv.out h (by omega)
              omega
          obtain ⟨f', rfl⟩ : ∃ f', f = f' + 1 := ⟨f - 1, by have := Hff.out; omega⟩
          have Ht := Lib.hid (lfrom_step Ho.out hk)
          have hk' := hk
          go_wp2_with (go_at_call 24; refine (sFewest_any _ _ _ zs far (w.drewN q) B hr Hn.out hb).mono ?_; rintro e w' ⟨rfl, q1, rfl⟩)
          go_roundw
          case rel => exact ⟨f', far + 1, _, by omega, by omega, by have := Hff.out; omega, Ht, rfl, rfl⟩
          case measure => simp [intOf]; omega
        · have Ht := Lib.hid (lfrom_end Ho.out hk)
          go_wp2_with (go_at_call 24; refine (sFewest_any _ _ _ zs far (w.drewN q) B hr Hn.out hb).mono ?_; rintro e w' ⟨rfl, q1, rfl⟩)
          go_ret
          exact ⟨ret_int Ht.out.symm, _, (by first | rfl | exact World.drewN_drewN _ _ _)⟩
  · have hv' : vh zs = false := by simpa using hv
    clear hv
    have Hs := Lib.hid (lfar_no (k := k) hv')
    go_enter Try.func31, Try.ntmps31
    go_wp2_with fail
    refine (sValid_any A c n zs w B hr Hn.out (by omega)).mono ?_
    rintro e w' ⟨rfl, q0, rfl⟩
    go_wp2
    go_ret
    exact ⟨ret_int Hs.out.symm, _, rfl⟩

theorem iLeastFar_b (A : Option Addr) (c n : Nat) (zs : List Int) (k : Int) (w : World) (B : Nat) (hr : RdI w B A zs) (hn : zs.length = n) (hb : n ≤ 1048576) :
    Calls Try.prog 30 #[.slice A n c, .int .i64 k] w fun e w' => e = .returned (.int .i64 (lfar zs k)) ∧ Below w.heap.size w w' := calls_same (iLeastFar_any A c n zs k w B hr hn hb)
theorem sLeastFar_b (A : Option Addr) (c n : Nat) (zs : List Int) (k : Int) (w : World) (B : Nat) (hr : RdI w B A zs) (hn : zs.length = n) (hb : n ≤ 1048576) :
    Calls Try.prog 31 #[.slice A n c, .int .i64 k] w fun e w' => e = .returned (.int .i64 (lfar zs k)) ∧ Below w.heap.size w w' := calls_drawn (sLeastFar_any A c n zs k w B hr hn hb)
end Go.Proofs.Ytoohfipicmdohab
