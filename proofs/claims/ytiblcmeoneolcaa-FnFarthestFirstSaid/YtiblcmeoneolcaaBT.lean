/-
  The law FnFarthestFirst follows from the functions' contracts.
  Conditions: none beyond the contracts'.
-/
import Derived.Test.YtiblcmeoneolcaaBS
import Derived.Test.YtiblcmeoneolcaaBH
import Derived.Test.YtiblcmeoneolcaaB9
import Derived.Test.YtiblcmeoneolcaaE0
namespace Go.Proofs.Ytiblcmeoneolcaa
open Go.ChangeShapes Go.WideShapes Go.ChangeAt Go.RowKit
set_option linter.unusedVariables false
set_option maxRecDepth 4000

set_option maxHeartbeats 8000000 in
theorem lawFarthestFirst_of (HI : IRow 38) (HT : IRows 24) (HF : INum 36 nfr) (A : Option Addr) (c : Nat) (bs : List Int) (w : World) (hr : RdB w w.heap.size A bs) (hcap : bs.length ≤ c) (hm : c ≤ maxLen) :
    Calls Try.prog 16 #[.slice A bs.length c] w fun e w' => e = .returned (.bool true) ∧ Below w.heap.size w w' := by
  unfold maxLen at hm
  by_cases hb : 1048576 < bs.length
  · clear HI HT HF
    go_enter Try.func16, Try.ntmps16
    go_wp2
    go_ret
    exact ⟨rfl, Below.refl _ _⟩
  · have H := Lib.hid (drawFarthestFirst_any A c bs.length bs w hr rfl hcap hm)
    have HI' := Lib.hid HI
    have HT' := Lib.hid HT
    have HF' := Lib.hid HF
    clear HI HT HF
    go_enter Try.func16, Try.ntmps16
    go_wp2_with fail
    refine H.out.mono ?_
    rintro e w1 ⟨n, A', c', ss, k, rfl, hn0, hn8, hk1, hk2, hl, hc1, hc2, hrd, hnx1⟩
    have N1 := Lib.hid (show NetIn w1 A' c' ss.length n ss from ⟨hrd, rfl, ⟨hc1, hc2⟩, by omega, wf_small (by omega)⟩)
    have Hwk := Lib.hid (wf_small (n := k) (by omega))
    clear hrd H
    have hz4 := ffz_len n ss k
    have hfacts := first_facts (n := n) (ss := ss) (k := k)
    have hLb := nfr_bd n ss k
    obtain ⟨L, HL⟩ : ∃ L, Hid (nfr n ss k = L) := ⟨_, rfl⟩
    obtain ⟨zs, Hz⟩ : ∃ zs, Hid (ffz n ss k = zs) := ⟨_, rfl⟩
    rw [HL.out] at hLb hfacts
    rw [Hz.out] at hz4 hfacts
    obtain ⟨m, Hm⟩ : ∃ m, Hid (zs.length = m) := ⟨_, rfl⟩
    rw [Hm.out] at hz4
    have Hfacts := Lib.hid hfacts
    clear hfacts
    go_wp2_with fail
    refine (HI'.out _ _ _ n ss k w1 N1.out Hwk.out).mono ?_
    rintro e w2 hans
    have hans := ff_uni hans
    unfold FfUni at hans
    rw [Hz.out, Hm.out] at hans
    obtain ⟨A1, c1, rfl, hO1, hR1, hq⟩ := hans
    have hcc1 : m ≤ c1 ∧ c1 ≤ 9223372036854775807 := by
      obtain ⟨_, _, he, h1, h2, _⟩ := own_sliceN hO1
      injection he with _ _ he3
      subst he3; exact ⟨h1, h2⟩
    have R1 := Lib.hid hR1
    have N2 := Lib.hid (N1.out.later hq)
    have hnx2 := hnx1.trans (hq.mono hnx1.size)
    clear hR1 hq hO1
    go_wp2_with fail
    refine (sFarthest_any _ _ _ n ss k w2 N2.out.rd rfl (by omega) N2.out.wf).mono ?_
    rintro e w3 hans
    have hans := ff_uni hans
    unfold FfUni at hans
    rw [Hz.out, Hm.out] at hans
    obtain ⟨A0, c0, rfl, -, hR0, hq⟩ := hans
    have R13 := Lib.hid ((R1.out.below hq).more hq.size)
    have R0 := Lib.hid hR0
    have N3 := Lib.hid (N2.out.later hq)
    have hnx3 := hnx2.trans (hq.mono hnx2.size)
    clear hR0 hq
    go_wp2_with fail
    refine (calls_drawn (eqLi_same _ _ _ _ _ _ zs w3 _ _ R13.out Hm.out R0.out Hm.out (by omega))).mono ?_
    rintro e w4 ⟨rfl, hq⟩
    have R14 := Lib.hid ((R13.out.below hq).more hq.size)
    have N4 := Lib.hid (N3.out.later hq)
    have hnx4 := hnx3.trans (hq.mono hnx3.size)
    clear hq R13 R0 R1
    by_cases hm0 : m = 0
    · subst hm0
      go_wp2_with fail
      refine (sFarthest_any _ _ _ n ss k w4 N4.out.rd rfl (by omega) N4.out.wf).mono ?_
      rintro e w5 hans
      have hans := ff_uni hans
      unfold FfUni at hans
      rw [Hz.out, Hm.out] at hans
      obtain ⟨A2, c2, rfl, -, hR2, hq⟩ := hans
      have R15 := Lib.hid ((R14.out.below hq).more hq.size)
      have hnx5 := hnx4.trans (hq.mono hnx4.size)
      go_wp2_with fail
      refine (calls_drawn (eqLi_same _ _ _ _ _ _ zs w5 _ _ R15.out Hm.out hR2 Hm.out (by omega))).mono ?_
      rintro e w6 ⟨rfl, hq⟩
      have hnx6 := hnx5.trans (hq.mono hnx5.size)
      go_wp2
      go_ret
      exact ⟨rfl, hnx6⟩
    · have hzne : zs ≠ [] := fun h => hm0 (by rw [← Hm.out, h]; rfl)
      have hmb : ((m : Int) == 0) = false := by rw [beq_eq_false_iff_ne]; omega
      obtain ⟨j, K, J, rfl, rfl, hj1, hj7, hv, hzJ, hJl, hJn, hnd, hz0, hfar⟩ := Hfacts.out hzne
      have Hv := Lib.hid hv
      have HzJ := Lib.hid hzJ
      have HJn := Lib.hid hJn
      have Hnd : Hid (diffc zs zs.length = m) := by show _ = _; rw [diffc_nodup hnd _ (Nat.le_refl _), Hm.out]
      have Hz0 := Lib.hid hz0
      have hmp : 1 ≤ m := by omega
      have hmM : m = min K j := by rw [← Hm.out, hzJ, List.length_map, hJl]
      have HJl : Hid (J.length = m) := by show _ = _; rw [hJl, hmM]
      have HmM := Lib.hid hmM
      clear hmM
      obtain ⟨X, HX⟩ : ∃ X, Hid (sht j ss = X) := ⟨_, rfl⟩
      rw [HX.out] at hfar
      have Hfar := Lib.hid hfar
      have HMet : Hid (Met X j) := by show Met X j; rw [← HX.out]; exact sht_met hv
      clear hv hzJ hJn hnd hz0 hfar hzne hJl Hfacts hm0
      go_wp2_with fail
      refine (HT'.out _ _ _ _ ss w4 N4.out).mono ?_
      rintro e w5 hans
      obtain ⟨hv', hans⟩ : vnet j ss = true ∧ NTab w4 j (sht j ss) e w5 := by
        rcases hans with ⟨h, _⟩ | ⟨h1, h2⟩
        · have := Hv.out; rw [h] at this; cases this
        · exact ⟨h1, h2⟩
      rw [HX.out] at hans
      obtain ⟨vt, VR, rfl, hO, hT, hq⟩ := hans
      obtain ⟨Ag, cg, rfl, -, -, hA⟩ := own_sliceN hO
      obtain ⟨g, rfl, -, -⟩ := hA (by omega)
      have HX5 := Lib.hid (show TabX w4 w5 j g cg VR X from ⟨hO, hT, hq⟩)
      have R15 := Lib.hid ((R14.out.below hq).more hq.size)
      have N5 := Lib.hid (N4.out.later hq)
      have hnx5 := hnx4.trans (hq.mono hnx4.size)
      clear hO hT hq hA R14 hv'
      go_wp2_with fail
      refine (HF'.out _ _ _ _ ss _ w5 N5.out Hwk.out).mono ?_
      rintro e w6 ⟨rfl, hq⟩
      rw [HL.out]
      have HX6 := Lib.hid (show TabX w4 w6 j g cg VR X from ⟨HX5.out.out.below hq, HX5.out.row.below hq, HX5.out.bel.trans (hq.mono HX5.out.bel.size)⟩)
      have R16 := Lib.hid ((R15.out.below hq).more hq.size)
      have hnx6 := hnx5.trans (hq.mono hnx5.size)
      obtain ⟨W, HW⟩ : ∃ W, Hid (w6 = W) := ⟨_, rfl⟩
      rw [HW.out] at HX6 R16 hnx6
      clear hq R15 HX5 N5 N4 N3 N2 N1 hnx5 hnx4 hnx3 hnx2 hnx1
      go_wp2
      go_loopw [9, 10] (fun f v wi => ∃ u q : Nat, ∃ F : Int, u ≤ j ∧ v = .int .i64 u ∧ f = .int .i64 F ∧ 0 ≤ F ∧ F ≤ 54 ∧ (0 ≤ L → F ≤ 2 * L) ∧ wi = W.drewN q) (fun _ v _ => j - (intOf v).toNat)
      case atStart => exact ⟨0, 0, 0, Nat.zero_le _, rfl, rfl, by omega, by omega, by omega, HW.out⟩
      case round =>
        clear HW
        obtain ⟨u, q, F, hu, rfl, rfl, hF0, hF54, hFL, rfl⟩ := hrel
        have HFL := Lib.hid hFL
        clear hFL
        by_cases hun : u < j
        · obtain ⟨gr, cr2, hVu⟩ := HX6.out.rowAt hun
          have HVu := Lib.hid hVu
          clear hVu
          go_wp2
          go_loopw [11, 12] (fun a i wi => ∃ t q : Nat, t ≤ m ∧ i = .int .i64 t ∧ a = .int .i64 (pkL (X u) (J.take t) (-1)) ∧ wi = W.drewN q) (fun _ i _ => m - (intOf i).toNat)
          case atStart => exact ⟨0, q, Nat.zero_le _, rfl, rfl, rfl⟩
          case round =>
            obtain ⟨t, q, ht, rfl, rfl, rfl⟩ := hrel
            obtain ⟨N, HN⟩ : ∃ N, Hid (pkL (X u) (J.take t) (-1) = N) := ⟨_, rfl⟩
            rw [HN.out]
            by_cases htm : t < m
            · obtain ⟨b, off, x, rfl, hbw, Hx, hcx⟩ := R16.out.x (k := t) (by rw [Hm.out]; exact htm)
              have htJ : t < J.length := by rw [HJl.out]; exact htm
              obtain ⟨p, Hp⟩ : ∃ p, Hid (J.getD t 0 = p) := ⟨_, rfl⟩
              have hpn : p < j := by rw [← Hp.out]; exact HJn.out _ (getD_in J htJ)
              have hxp : x = (p : Int) := by
                have := Hx.out
                rw [HzJ.out] at this
                rw [← this, ← Hp.out]
                simp [List.getD, List.getElem?_eq_getElem htJ]
              subst hxp
              obtain ⟨cgu, cup, -⟩ := HX6.out.cell hun hpn HVu.out
              obtain ⟨y, Hy⟩ : ∃ y, Hid (X u p = y) := ⟨_, rfl⟩
              rw [Hy.out] at cup
              have hJi : Hid (J[t]? = some p) := by show _ = _; rw [getD_some J htJ, Hp.out]
              clear Hx
              by_cases hc : 0 ≤ y ∧ (N < 0 ∨ y < N)
              · obtain ⟨hy0, hyN⟩ := hc
                have Hn := Lib.hid (pkL_yes hJi.out HN.out Hy.out hy0 hyN)
                by_cases hN0 : N < 0
                rotate_left
                have hyN2 : y < N := by omega
                all_goals
                  clear hyN
                  go_wp2
                  go_quiet (fail)
                  go_wp2
                  go_roundw
                  case rel => exact ⟨t + 1, _, by omega, by go_num, by rw [Hn.out], rfl⟩
                  case measure => simp [intOf]; omega
              · have Hn := Lib.hid (pkL_no hJi.out HN.out Hy.out hc)
                by_cases hy0 : 0 ≤ y
                · have hN0 : ¬ N < 0 := by omega
                  have hyN : ¬ y < N := by omega
                  clear hc
                  go_wp2
                  go_quiet (fail)
                  go_wp2
                  go_roundw
                  case rel => exact ⟨t + 1, _, by omega, by go_num, by rw [Hn.out], rfl⟩
                  case measure => simp [intOf]; omega
                · have hy1 : y < 0 := by omega
                  have hy2 : decide (y ≥ 0) = false := decide_eq_false (by omega)
                  clear hc
                  go_wp2
                  go_quiet (fail)
                  go_wp2
                  go_roundw
                  case rel => exact ⟨t + 1, _, by omega, by go_num, by rw [Hn.out], rfl⟩
                  case measure => simp [intOf]; omega
            · obtain ⟨hn1, hn2⟩ := Hfar.out u hun
              have hwy : wy X u J = N := by
                have := HN.out
                rw [List.take_of_length_le (by rw [HJl.out]; omega)] at this
                exact this
              rw [hwy] at hn1 hn2
              have hN54 : N ≤ 54 := by
                rw [← hwy]; exact pkL_high (by omega) (fun x hx => (HMet.out.bd u x hun (HJn.out x hx)).2)
              clear hwy
              by_cases hN0 : N < 0
              · have hL0 : L < 0 := hn1 hN0
                have hnx7 : Below w.heap.size w (W.drewN q) := below_drewN hnx6 q
                clear hn1 hn2
                go_wp2
                go_ret
                exact ⟨ret_bool (by simp; try omega), hnx7⟩
              · clear hn1
                by_cases hFN : F < N
                · have Hh : Hid (0 ≤ L → N ≤ 2 * L) := hn2
                  clear hn2
                  go_wp2
                  go_roundw
                  case rel => exact ⟨u + 1, _, N, by omega, by go_num, rfl, by omega, by omega, Hh.out, rfl⟩
                  case measure => simp [intOf]; omega
                · clear hn2
                  go_wp2
                  go_roundw
                  case rel => exact ⟨u + 1, _, F, by omega, by go_num, rfl, by omega, by omega, HFL.out, rfl⟩
                  case measure => simp [intOf]; omega
        · have hnx7 : Below w.heap.size w (W.drewN q) := below_drewN hnx6 q
          have R17 : Hid (RdI (W.drewN q) W.heap.size A1 zs) := R16.out
          obtain ⟨b, off, x, rfl, hbw, Hx, hcx⟩ := R17.out.x (k := 0) (by rw [Hm.out]; omega)
          have hx0 : x = 0 := by rw [← Hx.out]; exact Hz0.out
          subst hx0
          have HD := Lib.hid (different_any _ _ _ zs (W.drewN q) _ R17.out Hm.out hcc1.1 hcc1.2 (by omega))
          rw [Hnd.out] at HD
          have HFL2 := HFL.out
          clear HX6 R16 R17 hnx6 Hx Hfar
          generalize W.drewN q = w7 at hnx7 hcx HD ⊢
          have hmM := HmM.out
          have hcx' : w7.cell? ⟨b, off, none⟩ = some (.int .i64 0) := by simpa using hcx
          clear hcx
          have hw2 : 0 ≤ L → IntKind.i64.wrap (2 * L) = 2 * L := fun h => IntWalk.i64_in _ (by omega)
          have hbe : ∀ x : Int, (x == x) = true := fun x => by simp
          have hnx8 : ∀ q, Below w.heap.size w (w7.drewN q) := fun q => below_drewN hnx7 q
          by_cases hKj : (j : Int) < (K : Int)
          · have hmj : (m : Int) = (j : Int) := by omega
            have hmjb : ((m : Int) == (j : Int)) = true := by rw [hmj]; simp
            by_cases hL0 : L < 0
            · clear hw2 hmM hmj
              go_wp2_with fail
              refine HD.out.mono ?_
              rintro e w8 ⟨rfl, q, rfl⟩
              go_wp2
              go_ret
              exact ⟨ret_bool (by simp; try omega), hnx8 _⟩
            · have hF2 : F ≤ 2 * L := HFL2 (by omega)
              have hw3 := hw2 (by omega)
              clear hw2 hmM hmj
              go_wp2_with fail
              refine HD.out.mono ?_
              rintro e w8 ⟨rfl, q, rfl⟩
              go_wp2
              go_ret
              exact ⟨ret_bool (by simp; try omega), hnx8 _⟩
          · have hmj : (m : Int) = (K : Int) := by omega
            have hmjb : ((m : Int) == (K : Int)) = true := by rw [hmj]; simp
            by_cases hL0 : L < 0
            · clear hw2 hmM hmj
              go_wp2_with fail
              refine HD.out.mono ?_
              rintro e w8 ⟨rfl, q, rfl⟩
              go_wp2
              go_ret
              exact ⟨ret_bool (by simp; try omega), hnx8 _⟩
            · have hF2 : F ≤ 2 * L := HFL2 (by omega)
              have hw3 := hw2 (by omega)
              clear hw2 hmM hmj
              go_wp2_with fail
              refine HD.out.mono ?_
              rintro e w8 ⟨rfl, q, rfl⟩
              go_wp2
              go_ret
              exact ⟨ret_bool (by simp; try omega), hnx8 _⟩
end Go.Proofs.Ytiblcmeoneolcaa
