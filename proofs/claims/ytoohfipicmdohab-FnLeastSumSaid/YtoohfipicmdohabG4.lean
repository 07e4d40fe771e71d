/-
  mirrored: the list seen from the other end, in a slice of the call's own.
  Conditions: at most 1000 numbers, each in -100..100.
-/
import Derived.Test.YtoohfipicmdohabM2
import Derived.Test.YtoohfipicmdohabG3
namespace Go.Proofs.Ytoohfipicmdohab
open Go.ChangeShapes Go.WideShapes Go.ChangeAt Go.RowKit
set_option linter.unusedVariables false

def Mirrored (w : World) (zs : List Int) (e : Ending) (w' : World) : Prop :=
  ∃ A c, e = .returned (.slice A zs.length c) ∧ zs.length ≤ c ∧ c ≤ 9223372036854775807 ∧ RdI w' w'.heap.size A (mirr zs) ∧ Below w.heap.size w w'
theorem mirr_step {zs : List Int} {k : Nat} {x : Int} (hk : k < zs.length) (hx : zs.getD k 0 = x) : mirr (zs.drop k) = mirr (zs.drop (k + 1)) ++ [50 - x] := by
  rw [drop_cons hk hx]
  simp [mirr]

set_option maxHeartbeats 400000 in
theorem mirrored_any (A : Option Addr) (c n : Nat) (zs : List Int) (w : World) (hr : RdI w w.heap.size A zs) (hn : zs.length = n) (hb : n ≤ 1000) (hbd : ∀ x ∈ zs, -100 ≤ x ∧ x ≤ 100) :
    Calls Try.prog 19 #[.slice A n c] w (Mirrored w zs) := by
  obtain ⟨i0, hi0, hz0, hz1, hz2⟩ := info_parts intInfo
  have Hn := Lib.hid hn
  have Hbd := Lib.hid hbd
  clear hn hbd
  go_enter Try.func19, Try.ntmps19
  go_wp2
  have hown0 : (w.alloc (.cells #[] 3)).ownsRow w.heap.size 3 1 (.slice (some ⟨w.heap.size, 0, none⟩) 0 0) 0 [] := World.ownsRow_lit w #[] 0 (Nat.le_refl _) (by decide) rfl
  have hnx0 : Below w.heap.size w (w.alloc (.cells #[] 3)) := (Below.refl _ _).alloc (Nat.le_refl _) _
  have Hown0 := Lib.hid hown0
  clear hown0
  go_loopw [3, 4] (fun v i wr => ∃ m : Int, ∃ j : Nat, j ≤ n ∧ Hid (m = (j : Int) - 1) ∧ -1 ≤ m ∧ m ≤ 1000 ∧ i = .int .i64 m ∧ wr.ownsRow w.heap.size 3 1 v (n - j) ((mirr (zs.drop j)).map (Value.int .i64)) ∧ Below w.heap.size w wr)
    (fun _ i _ => (intOf i + 1).toNat)
  case atStart => exact ⟨_, n, Nat.le_refl _, rfl, by omega, by omega, rfl, by rw [Nat.sub_self, List.drop_of_length_le (by rw [Hn.out]; exact Nat.le_refl _)]; exact Hown0.out, hnx0⟩
  case round =>
    clear hnx0 Hown0
    obtain ⟨m, j, hj, Hm, hm1, hm2, rfl, hown, hnx⟩ := hrel
    by_cases hpos : 0 ≤ m
    · obtain ⟨k, rfl⟩ := Int.eq_ofNat_of_zero_le hpos
      have hjk : j = k + 1 := by have := Hm.out; omega
      subst hjk
      obtain ⟨b, off, x, rfl, hbw, Hx, hc⟩ := (hr.below hnx).x (k := k) (by rw [Hn.out]; omega)
      have hxm : x ∈ zs := by rw [← Hx.out]; simp [List.getD, List.getElem?_eq_getElem (show k < zs.length by rw [Hn.out]; omega)]
      obtain ⟨hx1, hx2⟩ := Hbd.out x hxm
      have hsz : w.heap.size ≤ wr.heap.size := hnx.size
      have Hst := Lib.hid (mirr_step (zs := zs) (k := k) (by rw [Hn.out]; omega) Hx.out)
      clear hxm
      go_wp2_with (at_builtin; refine wpList_append_own _ rfl _ _ 23 rfl w.heap.size 3 i0 (.int .i64 0) 1 8 Try.underlying23 hi0 hz0 hz1 hz2 rfl (by decide) _ _ _ rfl (hown.alloc _) ⟨wr.heap.size, 0, none⟩ 1 1 [.int .i64 (50 - x)] rfl rfl ?c1 ?c2 ?c3 ?c4 ?c5 ?_)
      case c1 => exact cell_one_new _ _ _
      case c2 => intro u hu; simp at hu; subst hu; rfl
      case c3 => unfold maxLen; omega
      case c4 => omega
      case c5 => simp; omega
      intro v' w3 hown' hgrow _
      have hnx3 : Below w.heap.size w w3 := (hnx.alloc hsz _).grown hgrow (by simp; omega) (fun g h => (hown.lt g h).1)
      have Hown' := Lib.hid hown'
      clear hown' hgrow hown
      go_wp2
      go_roundw
      case rel => exact ⟨_, k, by omega, rfl, by omega, by omega, rfl, by rw [Hst.out, List.map_append, show n - k = n - (k + 1) + 1 by omega]; exact Hown'.out, hnx3⟩
      case measure => simp [intOf] <;> omega
    · have hj0 : j = 0 := by have := Hm.out; omega
      subst hj0
      have hml : (mirr (zs.drop 0)).length = n - 0 := by rw [mirr_length, List.drop_zero, Hn.out]; rfl
      obtain ⟨A', c', rfl, hc1, hc2, hrd⟩ := own_slice hown hml
      have Hml := Lib.hid hml
      have Hrd := Lib.hid hrd
      clear hml hrd hown
      go_wp2
      go_ret
      exact ⟨A', c', by rw [Hn.out]; rfl, by rw [Hn.out]; exact hc1, hc2, Hrd.out, hnx⟩
end Go.Proofs.Ytoohfipicmdohab
