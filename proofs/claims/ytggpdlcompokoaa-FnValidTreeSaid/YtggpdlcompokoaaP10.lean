/-
  The law FnValidTree: a tree without its last node is one.
  Conditions: none.
-/
import Derived.Test.YtggpdlcompokoaaD2
namespace Go.Proofs.Ytggpdlcompokoaa
open Go.ChangeShapes Go.WideShapes Go.ChangeAt Go.RowKit
set_option linter.unusedVariables false
set_option maxRecDepth 4000

theorem lawValidTree_walk (A : Option Addr) (c : Nat) (bs : List Int) (w : World) (hr : RdB w w.heap.size A bs) (hcap : bs.length ≤ c) (hm : c ≤ maxLen) :
    Calls Try.prog 3 #[.slice A bs.length c] w fun e w' => e = .returned (.bool true) ∧ Below w.heap.size w w' := by
  unfold maxLen at hm
  by_cases hb : 1048576 < bs.length
  · go_enter Try.func3, Try.ntmps3
    go_wp2
    go_ret
    exact ⟨rfl, Below.refl _ _⟩
  · have H := Lib.hid (drawValidTree_any A c bs.length bs w hr rfl hcap hm)
    go_enter Try.func3, Try.ntmps3
    go_wp2_with fail
    refine H.out.mono ?_
    rintro e w1 ⟨A', c', ts, rfl, hl, hc1, hc2, hrd, hnx1⟩
    go_wp2_with fail
    refine (iValidTree_any A' c' ts.length ts w1 _ hrd rfl hc1 (by omega) (Nat.le_refl _)).mono ?_
    rintro e w2 ⟨rfl, hnx2⟩
    have hnx12 := hnx1.trans (hnx2.mono hnx1.size)
    have hrd2 := hrd.below hnx2
    go_wp2_with fail
    refine (sValidTree_any A' c' ts.length ts w2 _ hrd2 rfl (by omega)).mono ?_
    rintro e w' ⟨rfl, rfl⟩
    by_cases hv : vt ts = true
    · have hl1 : 1 ≤ ts.length := ((vt_iff ts).1 hv).1
      have Hv := Lib.hid hv
      by_cases hz : ts.length = 1
      · have hzb : (((ts.length : Nat) : Int) == 1) = true := by rw [beq_iff_eq]; omega
        have Hz := Lib.hid hz
        clear hz
        go_wp2
        go_ret
        exact ⟨rfl, hnx12⟩
      · have hzb : (((ts.length : Nat) : Int) == 1) = false := by rw [beq_eq_false_iff_ne]; omega
        obtain ⟨n, Hn⟩ : ∃ n, Hid (ts.length = n + 1) := ⟨ts.length - 1, by show ts.length = _; omega⟩
        have hn1 : 1 ≤ n := by have := Hn.out; omega
        have Hv2 := Lib.hid (vt_take (k := n) hv hn1)
        rw [Hn.out] at hzb hc1 hl ⊢
        clear hz
        go_wp2_with fail
        refine (iValidTree_any A' c' n (ts.take n) w2 _ (hrd2.take n) (by rw [List.length_take, Hn.out]; omega) (by omega) (by omega) hnx2.size).mono ?_
        rintro e w3 ⟨rfl, hnx3⟩
        rw [Hv2.out]
        have hnx13 := hnx12.trans (hnx3.mono hnx12.size)
        go_wp2
        go_ret
        exact ⟨rfl, hnx13⟩
    · have hv' : vt ts = false := by simpa using hv
      clear hv
      go_wp2_with fail
      refine (sValidTree_any A' c' ts.length ts w2 _ hrd2 rfl (by omega)).mono ?_
      rintro e w' ⟨rfl, rfl⟩
      go_wp2
      go_ret
      exact ⟨rfl, hnx12⟩
end Go.Proofs.Ytggpdlcompokoaa
