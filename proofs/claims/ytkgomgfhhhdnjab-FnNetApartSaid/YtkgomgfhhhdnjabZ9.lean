/-
  The laws FnNetCover and FnNetApart follow from the functions' contracts.
  Conditions: none beyond the contracts'.
-/
import Derived.Test.YtkgomgfhhhdnjabZ3
import Derived.Test.YtkgomgfhhhdnjabZ5
import Derived.Test.YtkgomgfhhhdnjabZ8
namespace Go.Proofs.Ytkgomgfhhhdnjab
open Go.ChangeShapes Go.WideShapes Go.ChangeAt Go.RowKit
set_option linter.unusedVariables false
set_option maxRecDepth 4000

set_option maxHeartbeats 1600000 in
theorem lawNetCover_of (HC : INum 32 ncv)  (HA : INum 35 nap) (A : Option Addr) (c : Nat) (bs : List Int) (w : World) (hr : RdB w w.heap.size A bs) (hcap : bs.length ≤ c) (hm : c ≤ maxLen) :
    Calls Try.prog 7 #[.slice A bs.length c] w fun e w' => e = .returned (.bool true) ∧ Below w.heap.size w w' := by
  unfold maxLen at hm
  by_cases hb : 1048576 < bs.length
  · clear HC HA
    go_enter Try.func7, Try.ntmps7
    go_wp2
    go_ret
    exact ⟨rfl, Below.refl _ _⟩
  · have H := Lib.hid (drawNetCover_any A c bs.length bs w hr rfl hcap hm)
    have HC' := Lib.hid HC
    clear HC
    have HA' := Lib.hid HA
    clear HA
    go_enter Try.func7, Try.ntmps7
    go_wp2_with fail
    refine H.out.mono ?_
    rintro e w1 ⟨n, A', c', ss, far, rfl, hn0, hn8, hk1, hk2, hl, hc1, hc2, hrd, hnx1⟩
    have N1 := Lib.hid (show NetIn w1 A' c' ss.length n ss from ⟨hrd, rfl, ⟨hc1, hc2⟩, by omega, wf_small (by omega)⟩)
    have Hwk := Lib.hid (wf_small (n := far) (by omega))
    clear hrd H
    have hbn : ∀ x : Int, (x != x) = false := fun x => by simp
    have hbe : ∀ x : Int, (x == x) = true := fun x => by simp
    obtain ⟨a, Ha⟩ : ∃ a, Hid (ncv n ss far = a) := ⟨_, rfl⟩
    have hf := cover_facts (n := n) (ss := ss) (far := far)
    obtain ⟨b, Hb⟩ : ∃ b, Hid (nap n ss far = b) := ⟨_, rfl⟩
    obtain ⟨m, Hm⟩ : ∃ m, Hid (ncv n ss (far + 1) = m) := ⟨_, rfl⟩
    rw [Ha.out, Hb.out, Hm.out] at hf
    have Hf := Lib.hid hf
    clear hf
    go_wp2_with fail
    refine (HC'.out _ _ _ n ss far w1 N1.out Hwk.out).mono ?_
    rintro e w2 ⟨rfl, hq⟩
    rw [Ha.out]
    have N2 := Lib.hid (N1.out.later hq)
    have hnx2 := hnx1.trans (hq.mono hnx1.size)
    clear hq
    go_wp2_with fail
    refine (sNetCover_any _ _ _ n ss far w2 N2.out.rd rfl (by omega) N2.out.wf).mono ?_
    rintro e w3 ⟨rfl, hq⟩
    rw [Ha.out]
    have N3 := Lib.hid (N2.out.later hq)
    have hnx3 := hnx2.trans (hq.mono hnx2.size)
    clear hq
    by_cases ha : a < 0
    · clear Hf
      go_wp2_with fail
      refine (sNetCover_any _ _ _ n ss far w3 N3.out.rd rfl (by omega) N3.out.wf).mono ?_
      rintro e w4 ⟨rfl, hq⟩
      rw [Ha.out]
      have N4 := Lib.hid (N3.out.later hq)
      have hnx4 := hnx3.trans (hq.mono hnx3.size)
      clear hq
      go_wp2
      go_ret
      exact ⟨rfl, hnx4⟩
    · obtain ⟨hf1, hf2, hf3, hf4, hf5⟩ := Hf.out (by omega)
      clear Hf
      have Hwk1 := Lib.hid (wf_small (n := far + 1) (by omega))
      go_wp2_with fail
      refine (HC'.out _ _ _ n ss (far + 1) w3 N3.out Hwk1.out).mono ?_
      rintro e w4 ⟨rfl, hq⟩
      rw [Hm.out]
      have N4 := Lib.hid (N3.out.later hq)
      have hnx4 := hnx3.trans (hq.mono hnx3.size)
      clear hq
      go_wp2_with fail
      refine (HA'.out _ _ _ n ss far w4 N4.out Hwk.out).mono ?_
      rintro e w5 ⟨rfl, hq⟩
      rw [Hb.out]
      have N5 := Lib.hid (N4.out.later hq)
      have hnx5 := hnx4.trans (hq.mono hnx4.size)
      clear hq
      by_cases hm0 : m < 0
      · clear hf2
        have hf3' : 1 ≤ a := hf3
        go_wp2
        go_ret
        exact ⟨ret_bool (by simp), hnx5⟩
      · have hf2' : m ≤ a := by omega
        clear hf2
        go_wp2
        go_ret
        exact ⟨ret_bool (by simp), hnx5⟩

set_option maxHeartbeats 1600000 in
theorem lawNetApart_of (HC : INum 32 ncv)  (HA : INum 35 nap) (A : Option Addr) (c : Nat) (bs : List Int) (w : World) (hr : RdB w w.heap.size A bs) (hcap : bs.length ≤ c) (hm : c ≤ maxLen) :
    Calls Try.prog 8 #[.slice A bs.length c] w fun e w' => e = .returned (.bool true) ∧ Below w.heap.size w w' := by
  unfold maxLen at hm
  by_cases hb : 1048576 < bs.length
  · clear HC HA
    go_enter Try.func8, Try.ntmps8
    go_wp2
    go_ret
    exact ⟨rfl, Below.refl _ _⟩
  · have H := Lib.hid (drawNetApart_any A c bs.length bs w hr rfl hcap hm)
    have HC' := Lib.hid HC
    clear HC
    have HA' := Lib.hid HA
    clear HA
    go_enter Try.func8, Try.ntmps8
    go_wp2_with fail
    refine H.out.mono ?_
    rintro e w1 ⟨n, A', c', ss, far, rfl, hn0, hn8, hk1, hk2, hl, hc1, hc2, hrd, hnx1⟩
    have N1 := Lib.hid (show NetIn w1 A' c' ss.length n ss from ⟨hrd, rfl, ⟨hc1, hc2⟩, by omega, wf_small (by omega)⟩)
    have Hwk := Lib.hid (wf_small (n := far) (by omega))
    clear hrd H
    have hbn : ∀ x : Int, (x != x) = false := fun x => by simp
    have hbe : ∀ x : Int, (x == x) = true := fun x => by simp
    obtain ⟨a, Ha⟩ : ∃ a, Hid (nap n ss far = a) := ⟨_, rfl⟩
    have hf := apart_facts (n := n) (ss := ss) (far := far)
    obtain ⟨b, Hb⟩ : ∃ b, Hid (ncv n ss far = b) := ⟨_, rfl⟩
    obtain ⟨m, Hm⟩ : ∃ m, Hid (nap n ss 0 = m) := ⟨_, rfl⟩
    rw [Ha.out, Hb.out, Hm.out] at hf
    have Hf := Lib.hid hf
    have Hw0 := Lib.hid (wf_small (n := 0) (by omega))
    clear hf
    go_wp2_with fail
    refine (HA'.out _ _ _ n ss far w1 N1.out Hwk.out).mono ?_
    rintro e w2 ⟨rfl, hq⟩
    rw [Ha.out]
    have N2 := Lib.hid (N1.out.later hq)
    have hnx2 := hnx1.trans (hq.mono hnx1.size)
    clear hq
    go_wp2_with fail
    refine (sNetApart_any _ _ _ n ss far w2 N2.out.rd rfl (by omega) N2.out.wf).mono ?_
    rintro e w3 ⟨rfl, hq⟩
    rw [Ha.out]
    have N3 := Lib.hid (N2.out.later hq)
    have hnx3 := hnx2.trans (hq.mono hnx2.size)
    clear hq
    by_cases ha : a < 0
    · clear Hf
      go_wp2_with fail
      refine (sNetApart_any _ _ _ n ss far w3 N3.out.rd rfl (by omega) N3.out.wf).mono ?_
      rintro e w4 ⟨rfl, hq⟩
      rw [Ha.out]
      have N4 := Lib.hid (N3.out.later hq)
      have hnx4 := hnx3.trans (hq.mono hnx3.size)
      clear hq
      go_wp2
      go_ret
      exact ⟨rfl, hnx4⟩
    · obtain ⟨hf1, hf2, hf3⟩ := Hf.out (by omega)
      have Hmn := Lib.hid hf3
      clear Hf hf3
      go_wp2_with fail
      refine (HC'.out _ _ _ n ss far w3 N3.out Hwk.out).mono ?_
      rintro e w4 ⟨rfl, hq⟩
      rw [Hb.out]
      have N4 := Lib.hid (N3.out.later hq)
      have hnx4 := hnx3.trans (hq.mono hnx3.size)
      clear hq
      go_wp2_with fail
      refine (HA'.out _ _ _ n ss 0 w4 N4.out Hw0.out).mono ?_
      rintro e w5 ⟨rfl, hq⟩
      rw [Hm.out]
      have N5 := Lib.hid (N4.out.later hq)
      have hnx5 := hnx4.trans (hq.mono hnx4.size)
      clear hq
      rw [Hmn.out]
      go_wp2
      go_ret
      exact ⟨rfl, hnx5⟩
end Go.Proofs.Ytkgomgfhhhdnjab
