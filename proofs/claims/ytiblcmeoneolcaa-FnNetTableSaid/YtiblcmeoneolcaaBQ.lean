/-
  The law FnNetTable follows from the functions' contracts.
  Conditions: none beyond the contracts'.
-/
import Derived.Test.YtiblcmeoneolcaaBP
import Derived.BigQuiet
namespace Go.Proofs.Ytiblcmeoneolcaa
open Go.ChangeShapes Go.WideShapes Go.ChangeAt Go.RowKit
set_option linter.unusedVariables false
set_option maxRecDepth 4000

set_option maxHeartbeats 16000000 in
theorem lawNetTable_of (HM : IRows 30) (HT : IRows 24) (A : Option Addr) (c : Nat) (bs : List Int) (w : World) (hr : RdB w w.heap.size A bs) (hcap : bs.length ≤ c) (hm : c ≤ maxLen) :
    Calls Try.prog 11 #[.slice A bs.length c] w fun e w' => e = .returned (.bool true) ∧ Below w.heap.size w w' := by
  unfold maxLen at hm
  by_cases hb : 1048576 < bs.length
  · clear HM HT
    go_enter Try.func11, Try.ntmps11
    go_wp2
    go_ret
    exact ⟨rfl, Below.refl _ _⟩
  · have H := Lib.hid (drawNetTable_any A c bs.length bs w hr rfl hcap hm)
    have HM' := Lib.hid HM
    have HT' := Lib.hid HT
    clear HM HT
    go_enter Try.func11, Try.ntmps11
    go_wp2_with fail
    refine H.out.mono ?_
    rintro e w1 ⟨n, A', c', ss, rfl, hn0, hn8, hl, hc1, hc2, hrd, hnx1⟩
    have N1 := Lib.hid (show NetIn w1 A' c' ss.length n ss from ⟨hrd, rfl, ⟨hc1, hc2⟩, by omega, wf_small (by omega)⟩)
    clear hrd H
    obtain ⟨hm7, hL1, hL7, hll⟩ := nm_bd n ss
    have Hll : Hid (∀ j, j < nm n ss → (rowX (sht n.toNat ss) n.toNat j).length ≤ 7) := fun j hj => by rw [hll j hj]; exact hL7
    obtain ⟨m, Hm⟩ : ∃ m, Hid (nm n ss = m) := ⟨_, rfl⟩
    obtain ⟨F, HF⟩ : ∃ F, Hid (rowX (sht n.toNat ss) n.toNat = F) := ⟨_, rfl⟩
    rw [Hm.out] at hm7
    rw [Hm.out, HF.out] at Hll
    clear hll hL1 hL7
    go_wp2_with fail
    refine (HT'.out _ _ _ n ss w1 N1.out).mono ?_
    rintro e w2 hans
    have hans := nab_uni hans
    unfold NabUni at hans
    rw [Hm.out, HF.out] at hans
    obtain ⟨A1, c1, VR1, rfl, hO1, hT1, hq⟩ := hans
    have O1 := Lib.hid hO1
    have T1 := Lib.hid hT1
    have N2 := Lib.hid (N1.out.later hq)
    have D2 := Lib.hid hq
    have hnx2 := hnx1.trans (hq.mono hnx1.size)
    clear hO1 hT1 hq
    go_wp2_with fail
    refine (sNetTable_any _ _ _ n ss w2 N2.out.rd rfl (by omega) N2.out.wf).mono ?_
    rintro e w3 hans
    have hans := nab_uni hans
    unfold NabUni at hans
    rw [Hm.out, HF.out] at hans
    obtain ⟨A0, c0, VR0, rfl, hO0, hT0, hq⟩ := hans
    have O13 := Lib.hid (O1.out.below hq)
    have T13 := Lib.hid (T1.out.below hq)
    have N3 := Lib.hid (N2.out.later hq)
    have D3 := Lib.hid (D2.out.trans (hq.mono D2.out.size))
    have hnx3 := hnx2.trans (hq.mono hnx2.size)
    clear O1 T1 hq
    go_wp2_with fail
    refine (eqLR_below w3 _ _ m c1 c0 A1 A0 VR1 VR0 F O13.out T13.out hO0 hT0 hm7 Hll.out).mono ?_
    rintro e w4 ⟨rfl, hq⟩
    have O14 := Lib.hid (O13.out.below hq)
    have T14 := Lib.hid (T13.out.below hq)
    have N4 := Lib.hid (N3.out.later hq)
    have D4 := Lib.hid (D3.out.trans (hq.mono D3.out.size))
    have hnx4 := hnx3.trans (hq.mono hnx3.size)
    clear O13 T13 hO0 hT0 hq
    by_cases hm0 : m = 0
    · subst hm0
      go_wp2_with fail
      refine (sNetTable_any _ _ _ n ss w4 N4.out.rd rfl (by omega) N4.out.wf).mono ?_
      rintro e w5 hans
      have hans := nab_uni hans
      unfold NabUni at hans
      rw [Hm.out, HF.out] at hans
      obtain ⟨A0, c0, VR0, rfl, hO0, hT0, hq⟩ := hans
      have O15 := Lib.hid (O14.out.below hq)
      have T15 := Lib.hid (T14.out.below hq)
      have hnx5 := hnx4.trans (hq.mono hnx4.size)
      go_wp2_with fail
      refine (eqLR_below w5 _ _ 0 c1 c0 A1 A0 VR1 VR0 F O15.out T15.out hO0 hT0 hm7 Hll.out).mono ?_
      rintro e w6 ⟨rfl, hq⟩
      have hnx6 := hnx5.trans (hq.mono hnx5.size)
      go_wp2
      go_ret
      exact ⟨rfl, hnx6⟩
    · have hv : vnet n ss = true := by
        by_cases h : vnet n ss = true
        · exact h
        · exfalso; have := Hm.out; unfold nm at this; rw [if_neg h] at this; omega
      obtain ⟨n, rfl, hn1, hn7⟩ := vnet_nat hv
      have hmn : m = n := by have := Hm.out; unfold nm at this; rw [if_pos hv] at this; omega
      subst hmn
      have HMet := Lib.hid (sht_met hv)
      obtain ⟨X, HX⟩ : ∃ X, Hid (sht m ss = X) := ⟨_, rfl⟩
      have HF2 : Hid (rowX X m = F) := by show _ = _; rw [← HX.out]; exact HF.out
      rw [HX.out] at HMet
      have hO4 := O14.out
      obtain ⟨Ag, cg, hAe, -, -, hA⟩ := own_sliceN hO4
      obtain ⟨g, hge, -, -⟩ := hA (by omega)
      injection hAe with e1 e2 e3
      subst e1 e3 hge
      have HX4 := Lib.hid (show TabX w1 w4 m g c1 VR1 X from ⟨O14.out, by rw [HF2.out]; exact T14.out, D4.out⟩)
      have Hl12 := Lib.hid hl
      obtain ⟨W, HW⟩ : ∃ W, Hid (w4 = W) := ⟨_, rfl⟩
      rw [HW.out] at HX4 N4 O14 T14 D4
      rw [HW.out] at hnx4
      have hmb : ((m : Int) == 0) = false := by rw [beq_eq_false_iff_ne]; omega
      clear hO4 e2 hA hv hm0
      go_wp2
      go_loopw [6] (fun v wi => ∃ a q : Nat, a ≤ m ∧ v = .int .i64 a ∧ wi = W.drewN q) (fun v _ => m - (intOf v).toNat)
      case atStart => exact ⟨0, 0, Nat.zero_le _, rfl, HW.out⟩
      case round =>
        clear HW
        obtain ⟨a, q, ha, rfl, rfl⟩ := hrel
        by_cases hlt : a < m
        · go_wp2
          go_loopw [7] (fun v wi => ∃ b q : Nat, b ≤ m ∧ v = .int .i64 b ∧ wi = W.drewN q) (fun v _ => m - (intOf v).toNat)
          case atStart => exact ⟨0, q, Nat.zero_le _, rfl, rfl⟩
          case round =>
            obtain ⟨b, q, hb, rfl, rfl⟩ := hrel
            by_cases hltb : b < m
            · go_wp2
              go_loopw [8] (fun v wi => ∃ c q : Nat, c ≤ m ∧ v = .int .i64 c ∧ wi = W.drewN q) (fun v _ => m - (intOf v).toNat)
              case atStart => exact ⟨0, q, Nat.zero_le _, rfl, rfl⟩
              case round =>
                obtain ⟨c, q, hc, rfl, rfl⟩ := hrel
                by_cases hltc : c < m
                · obtain ⟨ga, ca, hVa, aa1, aa2, -⟩ := HX4.out.cells hlt hltb
                  obtain ⟨gb, cb, hVb, bb1, bb2, -⟩ := HX4.out.cells hltb hlt
                  obtain ⟨gc, cc, hVc, cc1, cc2, -⟩ := HX4.out.cells hltc hltb
                  obtain ⟨-, ac2, -⟩ := HX4.out.cell hlt hltc hVa
                  rw [HMet.out.symm b a hltb hlt] at bb2
                  have htri := HMet.out.tri a b c hlt hltb hltc
                  have hbp := HMet.out.bd a c hlt hltc
                  have hbq := HMet.out.bd c b hltc hltb
                  obtain ⟨r, Hr⟩ : ∃ r, Hid (X a b = r) := ⟨_, rfl⟩
                  obtain ⟨p, Hp⟩ : ∃ p, Hid (X a c = p) := ⟨_, rfl⟩
                  obtain ⟨z, Hz⟩ : ∃ z, Hid (X c b = z) := ⟨_, rfl⟩
                  rw [Hr.out] at aa2 bb2 htri
                  rw [Hp.out] at ac2 htri hbp
                  rw [Hz.out] at cc2 htri hbq
                  have hrr : (r != r) = false := by simp
                  have w1 : IntKind.i64.wrap (p + z) = p + z := IntWalk.i64_in _ (by omega)
                  clear hVa hVb hVc
                  by_cases hp0 : p < 0
                  · have hd : decide (p ≥ 0) = false := decide_eq_false (by omega)
                    clear htri hbp hbq
                    go_wp2
                    refine wp_region_quiet_lit (by kernel_rfl) (by kernel_rfl) ?_
                    try simp only [List.append_eq, List.cons_append, List.nil_append]
                    repeat (go_big_quiet_step (fail))
                    refine wpQuiet_nil ?_
                    intro _ hw'
                    obtain ⟨nq, hw''⟩ := hw'
                    subst hw''
                    go_wp2
                    go_roundw
                    case rel => exact ⟨c + 1, _, by omega, by go_num, rfl⟩
                    case measure => simp [intOf]; omega
                  · have hp1 : 0 ≤ p := by omega
                    by_cases hz0 : z < 0
                    · have hd : decide (z ≥ 0) = false := decide_eq_false (by omega)
                      clear htri hbp hbq
                      go_wp2
                      refine wp_region_quiet_lit (by kernel_rfl) (by kernel_rfl) ?_
                      try simp only [List.append_eq, List.cons_append, List.nil_append]
                      repeat (go_big_quiet_step (fail))
                      refine wpQuiet_nil ?_
                      intro _ hw'
                      obtain ⟨nq, hw''⟩ := hw'
                      subst hw''
                      go_wp2
                      go_roundw
                      case rel => exact ⟨c + 1, _, by omega, by go_num, rfl⟩
                      case measure => simp [intOf]; omega
                    · have hz1 : 0 ≤ z := by omega
                      obtain ⟨hr0, hr1⟩ := htri hp1 hz1
                      have hd1 : decide (r < 0) = false := decide_eq_false (by omega)
                      have hd2 : decide (p + z < r) = false := decide_eq_false (by omega)
                      have hd3 : decide (r > p + z) = false := decide_eq_false (by omega)
                      clear htri hbp hbq
                      go_wp2
                      refine wp_region_quiet_lit (by kernel_rfl) (by kernel_rfl) ?_
                      try simp only [List.append_eq, List.cons_append, List.nil_append]
                      repeat (go_big_quiet_step (fail))
                      refine wpQuiet_nil ?_
                      intro _ hw'
                      obtain ⟨nq, hw''⟩ := hw'
                      subst hw''
                      go_wp2
                      go_roundw
                      case rel => exact ⟨c + 1, _, by omega, by go_num, rfl⟩
                      case measure => simp [intOf]; omega
                · go_wp2
                  go_roundw
                  case rel => exact ⟨b + 1, _, by omega, by go_num, rfl⟩
                  case measure => simp [intOf]; omega
            · obtain ⟨ga, ca, hVa, aa1, aa2, -⟩ := HX4.out.cells hlt hlt
              rw [HMet.out.zero a hlt] at aa2
              go_wp2
              go_roundw
              case rel => exact ⟨a + 1, _, by omega, by go_num, rfl⟩
              case measure => simp [intOf]; omega
        · have N5 : Hid (NetIn (W.drewN q) A' c' ss.length m ss) := ⟨N4.out.rd, rfl, N4.out.cap, N4.out.most, N4.out.wf⟩
          have hnx5 : Below w.heap.size w (W.drewN q) := below_drewN hnx4 q
          have O15 : Hid (Outer (W.drewN q) w1.heap.size m (.slice (some ⟨g, 0, none⟩) m c1) VR1) := O14.out.drewN q
          have T15 : Hid (TT (W.drewN q) w1.heap.size m VR1 F) := T14.out.drewN q
          clear HX4 HMet ha O14 T14 N4 hnx4
          generalize W.drewN q = w5 at N5 hnx5 O15 T15 ⊢
          go_wp2_with fail
          refine (HM'.out _ _ _ _ ss w5 N5.out).mono ?_
          rintro e w6 hans
          have hans := nab_uni hans
          unfold NabUni at hans
          rw [Hm.out, HF.out] at hans
          obtain ⟨A2, c2, VR2, rfl, hO2, hT2, hq⟩ := hans
          have hnx6 := hnx5.trans (hq.mono hnx5.size)
          go_wp2_with fail
          refine (eqLR_below w6 _ _ m c2 c1 A2 _ VR2 VR1 F hO2 hT2 (O15.out.below hq) (T15.out.below hq) hm7 Hll.out).mono ?_
          rintro e w7 ⟨rfl, hq7⟩
          have hnx7 := hnx6.trans (hq7.mono hnx6.size)
          go_wp2
          go_ret
          exact ⟨rfl, hnx7⟩
end Go.Proofs.Ytiblcmeoneolcaa
