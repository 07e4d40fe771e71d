/-
  FewestNear of the model counts the same helpers.
  Conditions: fewer than 2^20 numbers.
-/
import Derived.Test.YtoohfipicmdohabL3
import Derived.Test.YtoohfipicmdohabE0
namespace Go.Proofs.Ytoohfipicmdohab
open Go.ChangeShapes Go.WideShapes Go.ChangeAt Go.RowKit
set_option linter.unusedVariables false

set_option maxHeartbeats 400000 in
theorem sFewest_any (A : Option Addr) (c n : Nat) (zs : List Int) (far : Int) (w : World) (B : Nat) (hr : RdI w B A zs) (hn : zs.length = n) (hb : n ≤ 1048576) :
    Calls Try.prog 24 #[.slice A n c, .int .i64 far] w fun e w' => e = .returned (.int .i64 (fewest zs far)) ∧ ∃ q, w' = w.drewN q := by
  have Hn := Lib.hid hn
  clear hn
  by_cases hv : vh zs = true
  · by_cases hf : far < 0 ∨ 50 < far
    · have Hs := Lib.hid (fewest_no' (zs := zs) (vfar_no hf))
      go_enter Try.func24, Try.ntmps24
      go_wp2_with fail
      refine (sValid_any A c n zs w B hr Hn.out (by omega)).mono ?_
      rintro e w' ⟨rfl, q, rfl⟩
      go_wp2_with (go_at_call 43; refine (inRange_no _ _ _ _ hf).mono ?_; rintro e w' ⟨rfl, rfl⟩)
      go_ret
      exact ⟨ret_int Hs.out.symm, _, rfl⟩
    · have h1 : 0 ≤ far := by omega
      have h2 : far ≤ 50 := by omega
      clear hf
      have Hs := Lib.hid (fewest_yes hv (vfar_yes h1 h2))
      have Hl := vh_len hv
      rw [Hn.out] at Hl
      go_enter Try.func24, Try.ntmps24
      go_wp2_with fail
      refine (sValid_any A c n zs w B hr Hn.out (by omega)).mono ?_
      rintro e w' ⟨rfl, q, rfl⟩
      have Hv := Lib.hid hv
      go_wp2_with (go_at_call 43; refine (inRange_yes _ _ _ _ h1 h2).mono ?_; rintro e w' ⟨rfl, rfl⟩)
      clear hv
      go_loop [5, 6, 7] (fun h r i => ∃ k : Nat, ∃ a last : Int, k ≤ n ∧ 0 ≤ a ∧ a ≤ k ∧ -1 ≤ last ∧ last ≤ 150 ∧ Hid (a = 0 → last = -1) ∧ Hid (fewest zs far = a + few far last (zs.drop k)) ∧ i = .int .i64 k ∧ h = .int .i64 a ∧ r = .int .i64 last) (fun _ _ i => n - (intOf i).toNat)
      case atStart => exact ⟨0, 0, -1, Nat.zero_le _, by omega, by omega, by omega, by omega, fun _ => rfl, by rw [Hs.out]; show _ = 0 + few far (-1) zs; omega, rfl, rfl, rfl⟩
      case round =>
        obtain ⟨k, a, last, hk, ha1, ha2, hl1, hl2, Hz, Ho, rfl, rfl, rfl⟩ := hrel
        by_cases hlt : k < n
        · obtain ⟨b, off, x, rfl, hbw, Hx, hc⟩ := hr.x (k := k) (by rw [Hn.out]; exact hlt)
          obtain ⟨hx1, hx2⟩ := vh_get Hv.out (by rw [Hn.out]; exact hlt) Hx.out
          by_cases hlx : last < x
          · have Ht := Lib.hid (few_yes (by rw [Hn.out]; exact hlt) Hx.out Ho.out hlx)
            have Hz' : Hid (a + 1 = 0 → x + 2 * far = -1) := fun h => absurd h (by omega)
            by_cases ha0 : a = 0
            · subst ha0
              go_wp2
              go_round
              case rel => exact ⟨k + 1, 1, x + 2 * far, by omega, by omega, by omega, by omega, by omega, Hz', Ht, by go_num, rfl, rfl⟩
              case measure => simp [intOf]; omega
            · have ha3 : (a == 0) = false := by simpa using ha0
              clear ha0
              go_wp2
              go_round
              case rel => exact ⟨k + 1, a + 1, x + 2 * far, by omega, by omega, by omega, by omega, by omega, Hz', Ht, by go_num, rfl, rfl⟩
              case measure => simp [intOf]; omega
          · have Ht := Lib.hid (few_no (by rw [Hn.out]; exact hlt) Hx.out Ho.out (by omega))
            have ha3 : (a == 0) = false := by
              have := Hz.out
              rw [beq_eq_false_iff_ne]
              omega
            go_wp2
            go_round
            case rel => exact ⟨k + 1, a, last, by omega, by omega, by omega, by omega, by omega, Hz, Ht, by go_num, rfl, rfl⟩
            case measure => simp [intOf]; omega
        · have Ht := Lib.hid (few_end (by rw [Hn.out]; omega) Ho.out)
          go_wp2
          go_ret
          exact ⟨ret_int Ht.out.symm, _, rfl⟩
  · have hv' : vh zs = false := by simpa using hv
    clear hv
    have Hs := Lib.hid (fewest_no (far := far) hv')
    go_enter Try.func24, Try.ntmps24
    go_wp2_with fail
    refine (sValid_any A c n zs w B hr Hn.out (by omega)).mono ?_
    rintro e w' ⟨rfl, q, rfl⟩
    go_wp2
    go_ret
    exact ⟨ret_int Hs.out.symm, _, rfl⟩

theorem iFewest_b (A : Option Addr) (c n : Nat) (zs : List Int) (far : Int) (w : World) (B : Nat) (hr : RdI w B A zs) (hn : zs.length = n) (hb : n ≤ 1048576) :
    Calls Try.prog 23 #[.slice A n c, .int .i64 far] w fun e w' => e = .returned (.int .i64 (fewest zs far)) ∧ Below w.heap.size w w' := calls_same (iFewest_any A c n zs far w B hr hn hb)
theorem sFewest_b (A : Option Addr) (c n : Nat) (zs : List Int) (far : Int) (w : World) (B : Nat) (hr : RdI w B A zs) (hn : zs.length = n) (hb : n ≤ 1048576) :
    Calls Try.prog 24 #[.slice A n c, .int .i64 far] w fun e w' => e = .returned (.int .i64 (fewest zs far)) ∧ Below w.heap.size w w' := calls_drawn (sFewest_any A c n zs far w B hr hn hb)
end Go.Proofs.Ytoohfipicmdohab
