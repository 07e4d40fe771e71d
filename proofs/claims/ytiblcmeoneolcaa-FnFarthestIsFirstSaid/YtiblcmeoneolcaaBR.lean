/-
  The law FnFarthestIsFirst follows from the function's contract.
  Conditions: none beyond the contract's.
-/
import Derived.Test.YtiblcmeoneolcaaBH
import Derived.Test.YtiblcmeoneolcaaFZ
import Derived.Test.YtiblcmeoneolcaaB9
namespace Go.Proofs.Ytiblcmeoneolcaa
open Go.ChangeShapes Go.WideShapes Go.ChangeAt Go.RowKit
set_option linter.unusedVariables false
set_option maxRecDepth 4000

set_option maxHeartbeats 4000000 in
theorem lawFarthestIsFirst_of (HI : IRow 38) (A : Option Addr) (c : Nat) (bs : List Int) (w : World) (hr : RdB w w.heap.size A bs) (hcap : bs.length ≤ c) (hm : c ≤ maxLen) :
    Calls Try.prog 17 #[.slice A bs.length c] w fun e w' => e = .returned (.bool true) ∧ Below w.heap.size w w' := by
  unfold maxLen at hm
  by_cases hb : 1048576 < bs.length
  · clear HI
    go_enter Try.func17, Try.ntmps17
    go_wp2
    go_ret
    exact ⟨rfl, Below.refl _ _⟩
  · have H := Lib.hid (drawFarthestFirst_any A c bs.length bs w hr rfl hcap hm)
    have HI' := Lib.hid HI
    clear HI
    go_enter Try.func17, Try.ntmps17
    go_wp2_with fail
    refine H.out.mono ?_
    rintro e w1 ⟨n, A', c', ss, k, rfl, hn0, hn8, hk1, hk2, hl, hc1, hc2, hrd, hnx1⟩
    have N1 := Lib.hid (show NetIn w1 A' c' ss.length n ss from ⟨hrd, rfl, ⟨hc1, hc2⟩, by omega, wf_small (by omega)⟩)
    have Hwk := Lib.hid (wf_small (n := k) (by omega))
    have Hwk1 := Lib.hid (wf_small (n := k + 1) (by omega))
    have Hw1 := Lib.hid (wf_small (n := 1) (by omega))
    clear hrd H
    have hz4 := ffz_len n ss k
    have hz5 := ffz_len n ss (k + 1)
    have hnext := ffz_next (n := n) (ss := ss) (k := k)
    have hone := fun h => ffz_one (ffz_has (n := n) (ss := ss) (k := k) h).1
    obtain ⟨zs, Hz⟩ : ∃ zs, Hid (ffz n ss k = zs) := ⟨_, rfl⟩
    obtain ⟨zt, Hzt⟩ : ∃ zs, Hid (ffz n ss (k + 1) = zs) := ⟨_, rfl⟩
    rw [Hz.out] at hz4 hnext hone
    rw [Hzt.out] at hz5 hnext
    obtain ⟨m, Hm⟩ : ∃ m, Hid (zs.length = m) := ⟨_, rfl⟩
    obtain ⟨mt, Hmt⟩ : ∃ m, Hid (zt.length = m) := ⟨_, rfl⟩
    rw [Hm.out] at hz4 hnext
    rw [Hmt.out] at hz5 hnext
    have Hnext := Lib.hid hnext
    have Hone := Lib.hid hone
    clear hnext hone
    go_wp2_with fail
    refine (HI'.out _ _ _ n ss k w1 N1.out Hwk.out).mono ?_
    rintro e w2 hans
    have hans := ff_uni hans
    unfold FfUni at hans
    rw [Hz.out, Hm.out] at hans
    obtain ⟨A1, c1, rfl, -, hR1, hq⟩ := hans
    have R1 := Lib.hid hR1
    have N2 := Lib.hid (N1.out.later hq)
    have hnx2 := hnx1.trans (hq.mono hnx1.size)
    clear hR1 hq
    go_wp2_with fail
    refine (sFarthest_any _ _ _ n ss k w2 N2.out.rd rfl (by omega) N2.out.wf).mono ?_
    rintro e w3 hans
    have hans := ff_uni hans
    unfold FfUni at hans
    rw [Hz.out, Hm.out] at hans
    obtain ⟨A0, c0, rfl, -, hR0, hq⟩ := hans
    have R13 := Lib.hid ((R1.out.below hq).more hq.size)
    have R0 := Lib.hid hR0
    have N3 := Lib.hid (N2.out.later hq)
    have hnx3 := hnx2.trans (hq.mono hnx2.size)
    clear hR0 hq
    go_wp2_with fail
    refine (calls_drawn (eqLi_same _ _ _ _ _ _ zs w3 _ _ R13.out Hm.out R0.out Hm.out (by omega))).mono ?_
    rintro e w4 ⟨rfl, hq⟩
    have N4 := Lib.hid (N3.out.later hq)
    have hnx4 := hnx3.trans (hq.mono hnx3.size)
    clear hq
    go_wp2_with fail
    refine (HI'.out _ _ _ n ss k w4 N4.out Hwk.out).mono ?_
    rintro e w5 hans
    have hans := ff_uni hans
    unfold FfUni at hans
    rw [Hz.out, Hm.out] at hans
    obtain ⟨A2, c2, rfl, -, hR2, hq⟩ := hans
    have R2 := Lib.hid hR2
    have N5 := Lib.hid (N4.out.later hq)
    have hnx5 := hnx4.trans (hq.mono hnx4.size)
    clear hR2 hq
    by_cases hm0 : m = 0
    · subst hm0
      go_wp2
      go_ret
      exact ⟨rfl, hnx5⟩
    · have hzne : zs ≠ [] := fun h => hm0 (by rw [← Hm.out, h]; rfl)
      have hmb : ((m : Int) == 0) = false := by rw [beq_eq_false_iff_ne]; omega
      have Hone2 := Lib.hid (Hone.out hzne)
      have Hnext2 := Lib.hid (Hnext.out hzne)
      clear Hone Hnext hm0 hzne
      go_wp2_with fail
      refine (HI'.out _ _ _ n ss (k + 1) w5 N5.out Hwk1.out).mono ?_
      rintro e w6 hans
      have hans := ff_uni hans
      unfold FfUni at hans
      rw [Hzt.out, Hmt.out] at hans
      obtain ⟨A3, c3, rfl, hO3, hR3, hq⟩ := hans
      have hcc3 : mt ≤ c3 ∧ c3 ≤ 9223372036854775807 := by
        obtain ⟨_, _, he, h1, h2, _⟩ := own_sliceN hO3
        injection he with _ _ he3
        subst he3; exact ⟨h1, h2⟩
      have R26 := Lib.hid ((R2.out.below hq).more hq.size)
      have R3 := Lib.hid hR3
      have N6 := Lib.hid (N5.out.later hq)
      have hnx6 := hnx5.trans (hq.mono hnx5.size)
      clear hR3 hq hO3
      go_wp2_with fail
      refine (HI'.out _ _ _ n ss 1 w6 N6.out Hw1.out).mono ?_
      rintro e w7 hans
      have hans := ff_uni hans
      unfold FfUni at hans
      rw [Hone2.out] at hans
      obtain ⟨A4, c4, rfl, -, hR4, hq⟩ := hans
      have R27 := Lib.hid ((R26.out.below hq).more hq.size)
      have R37 := Lib.hid ((R3.out.below hq).more hq.size)
      have R4 := Lib.hid hR4
      have hnx7 := hnx6.trans (hq.mono hnx6.size)
      clear hR4 hq
      have hqa := (Below.refl w7.heap.size w7).alloc (Nat.le_refl _) (.cells #[.int .i64 0] 3)
      have L8 : Hid (RdI (w7.alloc (.cells #[.int .i64 0] 3)) (w7.alloc (.cells #[.int .i64 0] 3)).heap.size (some ⟨w7.heap.size, 0, none⟩) [0]) := rdI_of_own (World.ownsRow_lit w7 #[.int .i64 0] 1 (Nat.le_refl _) (by decide) rfl) rfl
      have R28 := Lib.hid ((R27.out.below hqa).more hqa.size)
      have R38 := Lib.hid ((R37.out.below hqa).more hqa.size)
      have R48 := Lib.hid ((R4.out.below hqa).more hqa.size)
      have hnx8 := hnx7.trans (hqa.mono hnx7.size)
      clear hqa
      go_wp2_with fail
      refine (calls_drawn (eqLi_same _ _ _ _ _ _ [0] _ _ _ R48.out rfl L8.out rfl (by decide))).mono ?_
      rintro e w9 ⟨rfl, hq⟩
      have R29 := Lib.hid ((R28.out.below hq).more hq.size)
      have R39 := Lib.hid ((R38.out.below hq).more hq.size)
      have hnx9 := hnx8.trans (hq.mono hnx8.size)
      clear hq R28 R38 R48 L8
      by_cases hmt0 : mt = 0
      · subst hmt0
        go_wp2
        go_ret
        exact ⟨rfl, hnx9⟩
      · have hmtb : ((mt : Int) == 0) = false := by rw [beq_eq_false_iff_ne]; omega
        obtain ⟨hle, htk⟩ : m ≤ mt ∧ zt.take m = zs := by
          rcases Hnext2.out with h | h
          · exfalso; have := Hmt.out; rw [h] at this; simp at this; omega
          · exact h
        have hleI : (m : Int) ≤ (mt : Int) := by omega
        have R3t : Hid (RdI w9 w9.heap.size A3 zs) := by
          show RdI _ _ _ _
          rw [← htk]; exact rdI_take R39.out m
        have Hm' : zs.length = m := Hm.out
        clear hmt0 htk Hnext2
        go_wp2_with fail
        refine (calls_drawn (eqLi_same A3 A2 _ _ m m zs w9 _ _ R3t.out Hm.out R29.out Hm.out (by omega))).mono ?_
        rintro e w10 ⟨rfl, hq⟩
        have hnx10 := hnx9.trans (hq.mono hnx9.size)
        go_wp2
        go_ret
        exact ⟨rfl, hnx10⟩
end Go.Proofs.Ytiblcmeoneolcaa
