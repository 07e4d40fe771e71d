/-
  The copy of a slice of ints and the comparison of two slices, walked.
  Conditions: the slice is shorter than 2^20 elements.
-/
import Derived.Test.YthphboeboiallabUA
namespace Go.Proofs.Ythphboeboiallab
open Go.ChangeShapes Go.WideShapes Go.ChangeAt Go.RowKit
set_option linter.unusedVariables false

def EqRel (n k : Nat) (zs zs' : List Int) : Prop := k ≤ n ∧ zs.take k = zs'.take k
theorem eqRel_step {n k : Nat} {zs zs' : List Int} (h : EqRel n k zs zs') (hn : zs.length = n) (hn' : zs'.length = n) (hk : k < n) (e : zs.getD k 0 = zs'.getD k 0) : EqRel n (k + 1) zs zs' := by
  refine ⟨hk, ?_⟩
  rw [List.take_succ_eq_append_getElem (by omega), List.take_succ_eq_append_getElem (by omega), h.2]
  have e1 : zs.getD k 0 = zs[k]'(by omega) := by simp [List.getD, List.getElem?_eq_getElem (show k < zs.length by omega)]
  have e2 : zs'.getD k 0 = zs'[k]'(by omega) := by simp [List.getD, List.getElem?_eq_getElem (show k < zs'.length by omega)]
  rw [e1, e2] at e
  rw [e]
theorem eqRel_no {k : Nat} {zs zs' : List Int} (e : ¬ zs.getD k 0 = zs'.getD k 0) : (zs == zs') = false := by
  rw [beq_eq_false_iff_ne]
  rintro rfl
  exact e rfl
theorem eqRel_end {n k : Nat} {zs zs' : List Int} (h : EqRel n k zs zs') (hn : zs.length = n) (hn' : zs'.length = n) (hk : n ≤ k) : (zs == zs') = true := by
  have := h.2
  rw [List.take_of_length_le (by omega), List.take_of_length_le (by omega)] at this
  rw [this]; simp

set_option maxHeartbeats 400000 in
theorem eqInt_any (A A' : Option Addr) (c c' n n' : Nat) (zs zs' : List Int) (w : World) (B B' : Nat) (hr : RdI w B A zs) (hn : zs.length = n) (hr' : RdI w B' A' zs') (hn' : zs'.length = n') (hb : n ≤ 1048576) :
    Calls Try.prog 29 #[.slice A n c, .slice A' n' c'] w fun e w' => e = .returned (.bool (zs == zs')) ∧ ∃ q, w' = w.drewN q := by
  by_cases hnn : n = n'
  · subst hnn
    have Hn := Lib.hid hn
    have Hn' := Lib.hid hn'
    clear hn hn'
    go_enter Try.func29, Try.ntmps29
    go_wp2
    go_loopw [5] (fun i wr => ∃ k : Nat, ∃ q, EqRel n k zs zs' ∧ i = .int .i64 k ∧ wr = w.drewN q) (fun i wr => n - (intOf i).toNat)
    case atStart => exact ⟨0, 0, ⟨Nat.zero_le _, rfl⟩, rfl, rfl⟩
    case round =>
      obtain ⟨k, q, hk, rfl, rfl⟩ := hrel
      by_cases hlt : k < n
      · obtain ⟨b, off, x, rfl, hbw, Hx, hc⟩ := hr.x (k := k) (by rw [Hn.out]; exact hlt)
        obtain ⟨b', off', y, rfl, hbw', Hy, hc'⟩ := hr'.x (k := k) (by rw [Hn'.out]; exact hlt)
        by_cases he : x = y
        · have hs := eqRel_step hk Hn.out Hn'.out hlt (Hx.out.trans (he.trans Hy.out.symm))
          subst he
          have hb1 : (x != x) = false := by simp
          have Hs := Lib.hid hs
          clear hs
          go_wp2
          go_quiet (fail)
          go_wp2
          go_roundw
          case rel => exact ⟨k + 1, _, Hs.out, by go_num, rfl⟩
          case measure => simp [intOf]; omega
        · have hs : (zs == zs') = false := eqRel_no (k := k) (by rw [Hx.out, Hy.out]; exact he)
          have hb1 : (x != y) = true := by rw [bne_iff_ne]; exact he
          have Hs := Lib.hid hs
          clear hs he
          go_wp2
          go_quiet (fail)
          go_wp2
          go_ret
          exact ⟨ret_bool Hs.out.symm, _, World.drewN_drewN _ _ _⟩
      · have hs := eqRel_end hk Hn.out Hn'.out (by omega)
        have Hs := Lib.hid hs
        clear hs
        go_wp2
        go_ret
        exact ⟨ret_bool Hs.out.symm, _, rfl⟩
  · have hs : (zs == zs') = false := by
      rw [beq_eq_false_iff_ne]
      rintro rfl
      omega
    have hb1 : ((n : Int) != (n' : Int)) = true := by rw [bne_iff_ne]; omega
    have Hs := Lib.hid hs
    clear hs hn hn' hnn
    go_enter Try.func29, Try.ntmps29
    go_wp2
    go_ret
    exact ⟨ret_bool Hs.out.symm, 0, rfl⟩
end Go.Proofs.Ythphboeboiallab
