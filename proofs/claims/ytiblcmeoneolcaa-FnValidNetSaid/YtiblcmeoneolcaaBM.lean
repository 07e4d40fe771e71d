/-
  The laws FnValidNet, FnNetCover, FnNetApart and FnNetFar follow from the functions' contracts.
  Conditions: none beyond the contracts'.
-/
import Derived.Test.YtiblcmeoneolcaaBH
import Derived.Test.YtiblcmeoneolcaaCT
import Derived.Test.YtiblcmeoneolcaaBV
import Derived.Test.YtiblcmeoneolcaaB8
namespace Go.Proofs.Ytiblcmeoneolcaa
open Go.ChangeShapes Go.WideShapes Go.ChangeAt Go.RowKit
set_option linter.unusedVariables false
set_option maxRecDepth 4000

set_option maxHeartbeats 1600000 in
theorem lawValidNet_of (HI : IBool 21) (A : Option Addr) (c : Nat) (bs : List Int) (w : World) (hr : RdB w w.heap.size A bs) (hcap : bs.length ≤ c) (hm : c ≤ maxLen) :
    Calls Try.prog 10 #[.slice A bs.length c] w fun e w' => e = .returned (.bool true) ∧ Below w.heap.size w w' := by
  unfold maxLen at hm
  by_cases hb : 1048576 < bs.length
  · clear HI
    go_enter Try.func10, Try.ntmps10
    go_wp2
    go_ret
    exact ⟨rfl, Below.refl _ _⟩
  · have H := Lib.hid (drawValidNet_any A c bs.length bs w hr rfl hcap hm)
    have HI' := Lib.hid HI
    clear HI
    go_enter Try.func10, Try.ntmps10
    go_wp2_with fail
    refine H.out.mono ?_
    rintro e w1 ⟨n, A', c', ss, rfl, hn0, hn8, hl, hc1, hc2, hrd, hnx1⟩
    have N1 := Lib.hid (show NetIn w1 A' c' ss.length n ss from ⟨hrd, rfl, ⟨hc1, hc2⟩, by omega, wf_small (by omega)⟩)
    clear hrd H
    obtain ⟨a, Ha⟩ : ∃ a, Hid (vnet n ss = a) := ⟨_, rfl⟩
    have hbn : ∀ x : Bool, (x != x) = false := fun x => by simp
    have hbe : ∀ x : Bool, (x == x) = true := fun x => by simp
    go_wp2_with fail
    refine (HI'.out _ _ _ n ss w1 N1.out).mono ?_
    rintro e w2 ⟨rfl, hq2⟩
    rw [Ha.out]
    have N2 := Lib.hid (N1.out.later hq2)
    have hnx2 := hnx1.trans (hq2.mono hnx1.size)
    clear hq2
    go_wp2_with fail
    refine (sValidNet_any _ _ _ n ss w2 _ N2.out.rd rfl (by omega) N2.out.wf).mono ?_
    rintro e w' ⟨rfl, rfl⟩
    rw [Ha.out]
    cases a with
    | false =>
      go_wp2_with fail
      refine (sValidNet_any _ _ _ n ss w2 _ N2.out.rd rfl (by omega) N2.out.wf).mono ?_
      rintro e w' ⟨rfl, rfl⟩
      rw [Ha.out]
      go_wp2
      go_ret
      exact ⟨rfl, hnx2⟩
    | true =>
      by_cases h0 : ss.length = 0
      · go_wp2
        go_ret
        exact ⟨rfl, hnx2⟩
      · have hl1 : (0 : Int) ≤ ((ss.length : Nat) : Int) - 1 := by omega
        have N3 : Hid (NetIn w2 A' c' (ss.length - 1) n (ss.take (ss.length - 1))) := ⟨N2.out.rd.take _, by rw [List.length_take]; omega, ⟨by omega, by omega⟩, by omega, N2.out.wf⟩
        have Hv := Lib.hid (vnet_take Ha.out (ss.length - 1))
        go_wp2_with fail
        refine (HI'.out _ _ _ n _ w2 N3.out).mono ?_
        rintro e w3 ⟨rfl, hq3⟩
        rw [Hv.out]
        have hnx3 := hnx2.trans (hq3.mono hnx2.size)
        go_wp2
        go_ret
        exact ⟨rfl, hnx3⟩
end Go.Proofs.Ytiblcmeoneolcaa
