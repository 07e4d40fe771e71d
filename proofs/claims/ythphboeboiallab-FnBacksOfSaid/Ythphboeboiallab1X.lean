/-
  slices.Grow and slices.Concat of two empty lists: nil.
  Conditions: none.
-/
import Derived.Test.Ythphboeboiallab0R
namespace Go.Proofs.Ythphboeboiallab
open Go.ChangeShapes Go.WideShapes Go.ChangeAt Go.RowKit
set_option linter.unusedVariables false
set_option maxRecDepth 4000

theorem growQ_zero (w : World) : Calls Try.prog 79 #[.slice none 0 0, .int .i64 0] w fun e w' => e = .returned (.slice none 0 0) ∧ w = w' := by
  go_enter Try.func79, Try.ntmps79
  go_wp2
  go_ret
  exact ⟨rfl, rfl⟩
/-- Nothing is put behind nil. -/
theorem wpList_append_zeroQ {w : World} {ops : Array Oper} {rest : List Oper} {o : Oper} {a : Act} {Q : Exit → Act → World → Prop} {i0 : TypeInfo} (hi0 : Try.prog.info? 3 = some i0) (hz0 : i0.zero = some (.int .i64 0)) (hz1 : i0.size = 1) (hz2 : i0.bytes = 8)
    (hgd : o.guard = none) (s x : Operand) (ho : o.op = .call { callee := .builtin .append, args := #[s, x], argTypes := #[23, 23] }) (hs : a.eval s = .slice none 0 0) (A : Option Addr) (c : Nat) (hx : a.eval x = .slice A 0 c) (hc : A = none → c = 0)
    (h : ∀ w', Below w.heap.size w w' → wpList Try.prog ops Q rest (a.put o.dst (.slice none 0 0)) w') : wpList Try.prog ops Q (o :: rest) a w := by
  cases A with
  | none =>
    obtain rfl := hc rfl
    exact wpList_append_own_none hgd s x 23 ho w.heap.size 3 i0 1 Try.underlying23 hi0 (.slice none 0 0) 0 [] hs (World.ownsRow_nil _ _ _ _) hx (h w (Below.refl _ _))
  | some ad =>
    refine wpList_append_own w hgd s x 23 ho w.heap.size 3 i0 (.int .i64 0) 1 8 Try.underlying23 hi0 hz0 hz1 hz2 rfl (by decide) (.slice none 0 0) 0 [] hs (World.ownsRow_nil _ _ _ _) ad 0 c [] hx rfl (by simp) (by simp) (by unfold maxLen; omega) (by omega) (Nat.le_refl _) ?_
    intro v' w' _ hg hnil
    rw [hnil.2 ⟨rfl, rfl⟩]
    exact h w' ((Below.refl _ _).grown hg (Nat.le_refl _) fun k hk => by cases hk)
set_option maxHeartbeats 800000 in
theorem concatQ_zero (vb vc c0 c1 : Nat) (A0 A1 : Option Addr) (w : World) (hc0 : A0 = none → c0 = 0) (hc1 : A1 = none → c1 = 0)
    (hv : w.heap[vb]? = some (.cells #[.slice A0 0 c0, .slice A1 0 c1] 23 (0, 0))) :
    Calls Try.prog 67 #[.slice (some ⟨vb, 0, none⟩) 2 vc] w fun e w' => e = .returned (.slice none 0 0) ∧ Below w.heap.size w w' := by
  obtain ⟨i0, hi0, hz0, hz1, hz2⟩ := info_parts intInfo
  have HG := Lib.hid (growQ_zero)
  have hvlt : vb < w.heap.size := by
    rcases Nat.lt_or_ge vb w.heap.size with h | h
    · exact h
    · rw [Array.getElem?_eq_none h] at hv; cases hv
  have HV : Hid (∀ W, Below w.heap.size w W → W.cell? ⟨vb, 0, none⟩ = some (.slice A0 0 c0) ∧ W.cell? ⟨vb, 1, none⟩ = some (.slice A1 0 c1)) := fun W hb =>
    ⟨(hb.cell (p := ⟨vb, 0, none⟩) hvlt).trans ((cell_of_row _ _ _ _ _ _ hv).trans rfl), (hb.cell (p := ⟨vb, 1, none⟩) hvlt).trans ((cell_of_row _ _ _ _ _ _ hv).trans rfl)⟩
  have l0 := (HV.out w (Below.refl _ _)).1
  have l1 := (HV.out w (Below.refl _ _)).2
  have C0 := Lib.hid hc0
  have C1 := Lib.hid hc1
  clear hv hc0 hc1
  go_enter Try.func67, Try.ntmps67
  go_wp2
  go_loop [3, 11] (fun s i => ∃ k : Nat, k ≤ 2 ∧ i = .int .i64 ((k : Nat) : Int) ∧ s = .int .i64 0) (fun _ i => 2 - (intOf i).toNat)
  case atStart => exact ⟨0, by omega, rfl, rfl⟩
  case round =>
    obtain ⟨k, hk, rfl, rfl⟩ := hrel
    by_cases hk2 : k < 2
    · rcases (show k = 0 ∨ k = 1 by omega) with rfl | rfl
      · go_wp2
        go_round
        case rel => exact ⟨1, by omega, rfl, rfl⟩
        case measure => simp [intOf]
      · go_wp2
        go_round
        case rel => exact ⟨2, by omega, rfl, rfl⟩
        case measure => simp [intOf]
    · obtain rfl : k = 2 := by omega
      go_wp2_with fail
      refine (HG.out _).mono ?_
      rintro e w2 ⟨rfl, rfl⟩
      clear l0 l1
      go_wp2
      go_loopw [6, 27] (fun v i wr => ∃ k : Nat, k ≤ 2 ∧ i = .int .i64 ((k : Nat) : Int) ∧ v = .slice none 0 0 ∧ Hid (Below w.heap.size w wr)) (fun _ i _ => 2 - (intOf i).toNat)
      case atStart => exact ⟨0, by omega, rfl, rfl, Below.refl _ _⟩
      case round =>
        obtain ⟨k, hk, rfl, rfl, HB⟩ := hrel
        have l0 := (HV.out wr HB.out).1
        have l1 := (HV.out wr HB.out).2
        by_cases hk2 : k < 2
        · rcases (show k = 0 ∨ k = 1 by omega) with rfl | rfl
          · go_wp2_with (at_builtin; refine wpList_append_zeroQ hi0 hz0 hz1 hz2 rfl _ _ rfl rfl A0 c0 rfl C0.out ?_; intro w4 hb4)
            have HB4 : Hid (Below w.heap.size w w4) := HB.out.trans (hb4.mono HB.out.size)
            clear hb4 l0 l1
            go_wp2
            go_roundw
            case rel => exact ⟨1, by omega, rfl, rfl, HB4⟩
            case measure => simp [intOf]
          · go_wp2_with (at_builtin; refine wpList_append_zeroQ hi0 hz0 hz1 hz2 rfl _ _ rfl rfl A1 c1 rfl C1.out ?_; intro w4 hb4)
            have HB4 : Hid (Below w.heap.size w w4) := HB.out.trans (hb4.mono HB.out.size)
            clear hb4 l0 l1
            go_wp2
            go_roundw
            case rel => exact ⟨2, by omega, rfl, rfl, HB4⟩
            case measure => simp [intOf]
        · obtain rfl : k = 2 := by omega
          clear l0 l1
          go_wp2
          go_ret
          exact ⟨rfl, HB.out⟩
end Go.Proofs.Ythphboeboiallab
