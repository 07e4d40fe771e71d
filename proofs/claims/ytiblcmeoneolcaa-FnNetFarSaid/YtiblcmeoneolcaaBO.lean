/-
  The law FnNetFar follows from the functions' contracts.
  Conditions: none beyond the contracts'.
-/
import Derived.Test.YtiblcmeoneolcaaBH
import Derived.Test.YtiblcmeoneolcaaCT
import Derived.Test.YtiblcmeoneolcaaBE
namespace Go.Proofs.Ytiblcmeoneolcaa
open Go.ChangeShapes Go.WideShapes Go.ChangeAt Go.RowKit
set_option linter.unusedVariables false
set_option maxRecDepth 4000

set_option maxHeartbeats 1600000 in
theorem lawNetFar_of (HF : INum 36 nfr) (HV : IBool 21) (HC : INum 32 ncv) (A : Option Addr) (c : Nat) (bs : List Int) (w : World) (hr : RdB w w.heap.size A bs) (hcap : bs.length ≤ c) (hm : c ≤ maxLen) :
    Calls Try.prog 15 #[.slice A bs.length c] w fun e w' => e = .returned (.bool true) ∧ Below w.heap.size w w' := by
  unfold maxLen at hm
  by_cases hb : 1048576 < bs.length
  · clear HC HF HV
    go_enter Try.func15, Try.ntmps15
    go_wp2
    go_ret
    exact ⟨rfl, Below.refl _ _⟩
  · have H := Lib.hid (drawNetFar_any A c bs.length bs w hr rfl hcap hm)
    have HC' := Lib.hid HC
    have HV' := Lib.hid HV
    have HF' := Lib.hid HF
    clear HC HF HV
    go_enter Try.func15, Try.ntmps15
    go_wp2_with fail
    refine H.out.mono ?_
    rintro e w1 ⟨n, A', c', ss, k, rfl, hn0, hn8, hk1, hk2, hl, hc1, hc2, hrd, hnx1⟩
    have N1 := Lib.hid (show NetIn w1 A' c' ss.length n ss from ⟨hrd, rfl, ⟨hc1, hc2⟩, by omega, wf_small (by omega)⟩)
    have Hwk := Lib.hid (wf_small (n := k) (by omega))
    clear hrd H
    have hbn : ∀ x : Int, (x != x) = false := fun x => by simp
    have hbe : ∀ x : Int, (x == x) = true := fun x => by simp
    have hf := far_facts (n := n) (ss := ss) (k := k)
    have hbd := nfr_bd n ss k
    obtain ⟨a, Ha⟩ : ∃ a, Hid (nfr n ss k = a) := ⟨_, rfl⟩
    rw [Ha.out] at hf hbd
    obtain ⟨v, HVa⟩ : ∃ v, Hid (vnet n ss = v) := ⟨_, rfl⟩
    rw [HVa.out] at hf
    have Hf := Lib.hid hf
    clear hf
    go_wp2_with fail
    refine (HF'.out _ _ _ n ss k w1 N1.out Hwk.out).mono ?_
    rintro e w2 ⟨rfl, hq⟩
    rw [Ha.out]
    have N2 := Lib.hid (N1.out.later hq)
    have hnx2 := hnx1.trans (hq.mono hnx1.size)
    clear hq
    go_wp2_with fail
    refine (sNetFar_any _ _ _ n ss k w2 N2.out.rd rfl (by omega) N2.out.wf).mono ?_
    rintro e w3 ⟨rfl, hq⟩
    rw [Ha.out]
    have N3 := Lib.hid (N2.out.later hq)
    have hnx3 := hnx2.trans (hq.mono hnx2.size)
    clear hq
    go_wp2_with fail
    refine (HV'.out _ _ _ n ss w3 N3.out).mono ?_
    rintro e w4 ⟨rfl, hq⟩
    rw [HVa.out]
    have N4 := Lib.hid (N3.out.later hq)
    have hnx4 := hnx3.trans (hq.mono hnx3.size)
    clear hq
    cases v with
    | false =>
      clear Hf
      go_wp2_with fail
      refine (sNetFar_any _ _ _ n ss k w4 N4.out.rd rfl (by omega) N4.out.wf).mono ?_
      rintro e w5 ⟨rfl, hq⟩
      rw [Ha.out]
      have N5 := Lib.hid (N4.out.later hq)
      have hnx5 := hnx4.trans (hq.mono hnx4.size)
      clear hq
      go_wp2
      go_ret
      exact ⟨rfl, hnx5⟩
    | true =>
      by_cases hk : k < 1
      · clear Hf
        go_wp2_with fail
        refine (sNetFar_any _ _ _ n ss k w4 N4.out.rd rfl (by omega) N4.out.wf).mono ?_
        rintro e w5 ⟨rfl, hq⟩
        rw [Ha.out]
        have N5 := Lib.hid (N4.out.later hq)
        have hnx5 := hnx4.trans (hq.mono hnx4.size)
        clear hq
        go_wp2
        go_ret
        exact ⟨rfl, hnx5⟩
      by_cases hk4 : 4 < k
      · clear Hf
        go_wp2_with fail
        refine (sNetFar_any _ _ _ n ss k w4 N4.out.rd rfl (by omega) N4.out.wf).mono ?_
        rintro e w5 ⟨rfl, hq⟩
        rw [Ha.out]
        have N5 := Lib.hid (N4.out.later hq)
        have hnx5 := hnx4.trans (hq.mono hnx4.size)
        clear hq
        go_wp2
        go_ret
        exact ⟨rfl, hnx5⟩
      have hf := Hf.out rfl (by omega) (by omega)
      have Hf2 := Lib.hid hf
      clear Hf hf
      by_cases ha : a < 0
      · obtain ⟨m, Hm⟩ : ∃ m, Hid (ncv n ss 50 = m) := ⟨_, rfl⟩
        have hm50 : k < m := by have := Hf2.out 50 (by omega) (by omega); rw [Hm.out] at this; omega
        have Hw50 := Lib.hid (wf_small (n := 50) (by omega))
        clear Hf2
        go_wp2_with fail
        refine (HC'.out _ _ _ n ss 50 w4 N4.out Hw50.out).mono ?_
        rintro e w5 ⟨rfl, hq⟩
        rw [Hm.out]
        have N5 := Lib.hid (N4.out.later hq)
        have hnx5 := hnx4.trans (hq.mono hnx4.size)
        clear hq
        go_wp2
        go_ret
        exact ⟨ret_bool (by simp; try omega), hnx5⟩
      by_cases ha50 : 50 < a
      · clear Hf2
        go_wp2
        go_ret
        exact ⟨ret_bool (by simp; try omega), hnx4⟩
      obtain ⟨m, Hm⟩ : ∃ m, Hid (ncv n ss a = m) := ⟨_, rfl⟩
      have hma : m ≤ k := by have := Hf2.out a (by omega) (by omega); rw [Hm.out] at this; omega
      have Hwa := Lib.hid (wf_small (n := a) (by omega))
      by_cases ha0 : a = 0
      · clear Hf2
        subst ha0
        go_wp2_with fail
        refine (HC'.out _ _ _ n ss 0 w4 N4.out Hwa.out).mono ?_
        rintro e w5 ⟨rfl, hq⟩
        rw [Hm.out]
        have N5 := Lib.hid (N4.out.later hq)
        have hnx5 := hnx4.trans (hq.mono hnx4.size)
        clear hq
        go_wp2
        go_ret
        exact ⟨ret_bool (by simp; try omega), hnx5⟩
      · obtain ⟨m2, Hm2⟩ : ∃ m, Hid (ncv n ss (a - 1) = m) := ⟨_, rfl⟩
        have hma2 : k < m2 := by have := Hf2.out (a - 1) (by omega) (by omega); rw [Hm2.out] at this; omega
        have Hwa1 := Lib.hid (wf_small (n := a - 1) (by omega))
        have hab : (a == 0) = false := by rw [beq_eq_false_iff_ne]; exact ha0
        clear Hf2 ha0
        go_wp2_with fail
        refine (HC'.out _ _ _ n ss a w4 N4.out Hwa.out).mono ?_
        rintro e w5 ⟨rfl, hq⟩
        rw [Hm.out]
        have N5 := Lib.hid (N4.out.later hq)
        have hnx5 := hnx4.trans (hq.mono hnx4.size)
        clear hq
        go_wp2_with fail
        refine (HC'.out _ _ _ n ss (a - 1) w5 N5.out Hwa1.out).mono ?_
        rintro e w6 ⟨rfl, hq⟩
        rw [Hm2.out]
        have N6 := Lib.hid (N5.out.later hq)
        have hnx6 := hnx5.trans (hq.mono hnx5.size)
        clear hq
        go_wp2
        go_ret
        exact ⟨ret_bool (by simp; try omega), hnx6⟩
end Go.Proofs.Ytiblcmeoneolcaa
