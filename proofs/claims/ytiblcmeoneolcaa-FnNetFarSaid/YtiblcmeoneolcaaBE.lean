/-
  NetFar of the model.
  Conditions: fewer than 2^60 streets.
-/
import Derived.Test.YtiblcmeoneolcaaCT
import Derived.Test.YtiblcmeoneolcaaQ3
import Derived.Test.YtiblcmeoneolcaaS5
namespace Go.Proofs.Ytiblcmeoneolcaa
open Go.ChangeShapes Go.WideShapes Go.ChangeAt Go.RowKit
set_option linter.unusedVariables false
set_option maxRecDepth 4000

/-- A choice read. -/
theorem choice_at {n M t : Nat} {l : List Int} (h : (chd n M n)[t]? = some l) : ∃ J, l = J.map Int.ofNat ∧ Asc n M J := by
  have hm : l ∈ chd n M n := List.mem_of_getElem? h
  obtain ⟨J, h1, h2⟩ := (chd_mem n M n (Nat.le_refl _) l).1 hm
  exact ⟨J, h1, ascI_zero.1 h2⟩
theorem map_getD (J : List Nat) {j : Nat} (h : j < J.length) : (J.map Int.ofNat).getD j 0 = ((J.getD j 0 : Nat) : Int) := by
  simp [List.getD, List.getElem?_eq_getElem h]
theorem getD_some (J : List Nat) {j : Nat} (h : j < J.length) : J[j]? = some (J.getD j 0) := by
  simp [List.getD, List.getElem?_eq_getElem h]
theorem getD_in (J : List Nat) {j : Nat} (h : j < J.length) : J.getD j 0 ∈ J := List.mem_of_getElem? (getD_some J h)

set_option maxHeartbeats 4000000 in
theorem sNetFar_any (A : Option Addr) (c m : Nat) (n : Int) (ss : List Str) (k : Int) (w : World) (hr : RdS w w.heap.size A ss) (hm : ss.length = m) (hb : m ≤ 1152921504606846976) (hwf : (Lit.int .i64 n).wf = true) :
    Calls Try.prog 35 #[.int .i64 n, .slice A m c, .int .i64 k] w fun e w' => e = .returned (.int .i64 (nfr n ss k)) ∧ Below w.heap.size w w' := by
  by_cases hv : vnet n ss = true
  · have H1 := Lib.hid (sValidNet_is A c m n ss w _ hr hm hb hwf hv)
    by_cases hf : k < 1 ∨ 4 < k
    · have Hs := Lib.hid (nfr_no (n := n) (ss := ss) (.inr hf))
      have H2 := Lib.hid (inRange_no k 1 4 w hf)
      clear hv hf hr hm hwf
      go_enter Try.func35, Try.ntmps35
      go_wp2_with fail
      refine H1.out.mono ?_
      rintro e w' ⟨rfl, rfl⟩
      go_wp2_with fail
      refine H2.out.mono ?_
      rintro e w' ⟨rfl, rfl⟩
      go_wp2
      go_ret
      exact ⟨ret_int Hs.out.symm, Below.refl _ _⟩
    · obtain ⟨n, rfl, hn1, hn7⟩ := vnet_nat hv
      obtain ⟨k, rfl⟩ := Int.eq_ofNat_of_zero_le (show 0 ≤ k by omega)
      have H2 := Lib.hid (inRange_yes k 1 4 w (by omega) (by omega))
      have Hs := Lib.hid (nfr_yes hv (show 1 ≤ k by omega) (show k ≤ 4 by omega))
      have Ht := Lib.hid (netTable_any A c m n ss w hr hm hv)
      have Hbd := Lib.hid (sht_spec hv).2
      obtain ⟨X, HX⟩ : ∃ X, Hid (sht n ss = X) := ⟨_, rfl⟩
      rw [HX.out] at Ht Hs Hbd
      obtain ⟨M, HM⟩ : ∃ M, Hid (min k n = M) := ⟨_, rfl⟩
      have hM4 : M ≤ 4 := by have := HM.out; omega
      have Hch := Lib.hid (fun (kI : Int) (w : World) (hk : kI = M) => choices_any M 0 n kI n n w hn7 (Nat.le_refl _) hM4 (by omega) rfl hk)
      rw [HM.out] at Hs
      obtain ⟨L, HL⟩ : ∃ L, Hid (chd n M n = L) := ⟨_, rfl⟩
      have Hs2 : Hid (nfr n ss k = pkL (radI X n) L (-1)) := by show _ = _; rw [Hs.out]; unfold nfar; rw [HL.out]
      rw [HL.out] at Hch
      have Hat := Lib.hid (fun (t : Nat) (l : List Int) (h : L[t]? = some l) => choice_at (n := n) (M := M) (t := t) (l := l) (by rw [HL.out]; exact h))
      obtain ⟨R, HR⟩ : ∃ R, Hid (L.length = R) := ⟨_, rfl⟩
      have hR : R ≤ 128 := by rw [← HR.out, ← HL.out]; exact chd_len hn7 hM4 hn7
      clear hv hr hm hwf Hs
      by_cases hkn : (n : Int) < (k : Int)
      rotate_left
      have hkn2 : (k : Int) ≤ (n : Int) := by omega
      all_goals
        have hMk : Hid (M = min k n) := HM.out.symm
        go_enter Try.func35, Try.ntmps35
        go_wp2_with fail
        refine H1.out.mono ?_
        rintro e w' ⟨rfl, rfl⟩
        go_wp2_with fail
        refine H2.out.mono ?_
        rintro e w' ⟨rfl, rfl⟩
        go_wp2_with fail
        refine Ht.out.mono ?_
        rintro e w4 ⟨v, VR, rfl, hO, hT, hnx4⟩
        obtain ⟨Ag, cg, rfl, -, -, hA⟩ := own_sliceN hO
        obtain ⟨g, rfl, -, -⟩ := hA (by omega)
        have HO := Lib.hid hO
        have HT := Lib.hid hT
        have HB4 := Lib.hid hnx4
        clear hO hT hnx4 hA
        go_wp2_with fail
        refine (Hch.out _ w4 (by have := hMk.out; omega)).mono ?_
        rintro e w5 ⟨rv, vs, rfl, hown, hrd, hnx5⟩
        have HX5 := Lib.hid (show TabX w w5 n g cg VR X from ⟨ownN_below HO.out hnx5, HT.out.below hnx5, HB4.out.trans (hnx5.mono HB4.out.size)⟩)
        obtain ⟨Ar, cr, rfl, -, -, hgr⟩ := own_sliceN hown
        have Hgr := Lib.hid hgr
        have Hown := Lib.hid hown
        have Hrd := Lib.hid hrd
        rw [HR.out] at Hgr Hown ⊢
        clear hown hrd hnx5 hgr HO HT
        go_wp2
        go_loopw [9, 10] (fun b i wr => ∃ t q : Nat, t ≤ R ∧ i = .int .i64 t ∧ b = .int .i64 (pkL (radI X n) (L.take t) (-1)) ∧ wr = w5.drewN q) (fun _ i _ => R - (intOf i).toNat)
        case atStart => exact ⟨0, 0, Nat.zero_le _, rfl, rfl, rfl⟩
        case round =>
          obtain ⟨t, q, ht, rfl, rfl, rfl⟩ := hrel
          obtain ⟨p0, Hp0⟩ : ∃ p, Hid (pkL (radI X n) (L.take t) (-1) = p) := ⟨_, rfl⟩
          rw [Hp0.out]
          by_cases hlt : t < R
          · obtain ⟨gv, rfl, -, -⟩ := Hgr.out (by omega)
            obtain ⟨l, hl⟩ : ∃ l, L[t]? = some l := ⟨_, List.getElem?_eq_getElem (by rw [HR.out]; exact hlt)⟩
            obtain ⟨Al, cl, hvs, hlc, hrdl⟩ := Hrd.out.2 t l hl
            have hct := Hown.out.cellAt t (by omega)
            rw [hvs] at hct
            obtain ⟨J, rfl, hJ⟩ := Hat.out t l hl
            have HJ := Lib.hid hJ
            have Hl := Lib.hid hl
            have Hrdl := Lib.hid hrdl.rd
            rw [List.length_map, hJ.2.2] at hct
            clear hl hvs hlc hrdl hJ
            go_wp2
            go_loopw [11, 12] (fun f v wr => ∃ u q : Nat, u ≤ n ∧ v = .int .i64 u ∧ f = .int .i64 (radL X J u) ∧ wr = w5.drewN q) (fun _ v _ => n - (intOf v).toNat)
            case atStart => exact ⟨0, q, Nat.zero_le _, rfl, rfl, rfl⟩
            case round =>
              obtain ⟨u, q, hu, rfl, rfl, rfl⟩ := hrel
              obtain ⟨F, HF⟩ : ∃ F, Hid (radL X J u = F) := ⟨_, rfl⟩
              rw [HF.out]
              by_cases hgo : u < n ∧ 0 ≤ F
              · obtain ⟨hun, hF0⟩ := hgo
                have hun' : (u : Int) < (n : Int) := by omega
                obtain ⟨gr, cr2, hVu⟩ := HX5.out.rowAt hun
                have HVu := Lib.hid hVu
                clear hVu
                go_wp2
                go_loopw [13, 14] (fun a j wr => ∃ i q : Nat, i ≤ M ∧ j = .int .i64 i ∧ a = .int .i64 (pkL (X u) (J.take i) (-1)) ∧ wr = w5.drewN q) (fun _ j _ => M - (intOf j).toNat)
                case atStart => exact ⟨0, q, Nat.zero_le _, rfl, rfl, rfl⟩
                case round =>
                  obtain ⟨i, q, hi, rfl, rfl, rfl⟩ := hrel
                  obtain ⟨N, HN⟩ : ∃ N, Hid (pkL (X u) (J.take i) (-1) = N) := ⟨_, rfl⟩
                  rw [HN.out]
                  by_cases hiM : i < M
                  · have hiJ : i < J.length := by rw [HJ.out.2.2]; exact hiM
                    obtain ⟨p, Hp⟩ : ∃ p, Hid (J.getD i 0 = p) := ⟨_, rfl⟩
                    have hpn : p < n := by rw [← Hp.out]; exact HJ.out.2.1 _ (getD_in J hiJ)
                    obtain ⟨bl, ol, x, rfl, -, Hx, hcx⟩ := Hrdl.out.x (k := i) (by rw [List.length_map]; exact hiJ)
                    have hxp : x = (p : Int) := by rw [← Hx.out, map_getD J hiJ, Hp.out]
                    subst hxp
                    obtain ⟨cgu, cup, -⟩ := HX5.out.cell hun hpn HVu.out
                    obtain ⟨y, Hy⟩ : ∃ y, Hid (X u p = y) := ⟨_, rfl⟩
                    rw [Hy.out] at cup
                    have hJi : Hid (J[i]? = some p) := by show _ = _; rw [getD_some J hiJ, Hp.out]
                    by_cases hc : 0 ≤ y ∧ (N < 0 ∨ y < N)
                    · obtain ⟨hy0, hyN⟩ := hc
                      have Hn := Lib.hid (pkL_yes hJi.out HN.out Hy.out hy0 hyN)
                      by_cases hN0 : N < 0
                      rotate_left
                      have hyN2 : y < N := by omega
                      all_goals
                        clear hyN
                        go_wp2
                        go_quiet (fail)
                        go_wp2
                        go_roundw
                        case rel => exact ⟨i + 1, _, by omega, by go_num, by rw [Hn.out], rfl⟩
                        case measure => simp [intOf]; omega
                    · have Hn := Lib.hid (pkL_no hJi.out HN.out Hy.out hc)
                      by_cases hy0 : 0 ≤ y
                      · have hN0 : ¬ N < 0 := by omega
                        have hyN : ¬ y < N := by omega
                        clear hc
                        go_wp2
                        go_quiet (fail)
                        go_wp2
                        go_roundw
                        case rel => exact ⟨i + 1, _, by omega, by go_num, by rw [Hn.out], rfl⟩
                        case measure => simp [intOf]; omega
                      · have hy1 : y < 0 := by omega
                        have hy2 : decide (y ≥ 0) = false := decide_eq_false (by omega)
                        clear hc
                        go_wp2
                        go_quiet (fail)
                        go_wp2
                        go_roundw
                        case rel => exact ⟨i + 1, _, by omega, by go_num, by rw [Hn.out], rfl⟩
                        case measure => simp [intOf]; omega
                  · obtain rfl : M = i := by omega
                    have hwy : wy X u J = N := by
                      have := HN.out
                      rw [List.take_of_length_le (by rw [HJ.out.2.2]; exact Nat.le_refl _)] at this
                      exact this
                    by_cases hN0 : N < 0
                    · have Hn := Lib.hid (rad_none HF.out hF0 hwy hN0)
                      have hFN : ¬ F < N := by omega
                      clear hwy
                      go_wp2
                      go_roundw
                      case rel => exact ⟨u + 1, _, by omega, by go_num, by rw [Hn.out], rfl⟩
                      case measure => simp [intOf]; omega
                    · have Hn := Lib.hid (rad_some HF.out hF0 hwy (by omega))
                      clear hwy
                      by_cases hFN : F < N
                      · have Hn2 : Hid (radL X J (u + 1) = N) := by show _ = _; rw [Hn.out]; omega
                        go_wp2
                        go_roundw
                        case rel => exact ⟨u + 1, _, by omega, by go_num, by rw [Hn2.out], rfl⟩
                        case measure => simp [intOf]; omega
                      · have Hn2 : Hid (radL X J (u + 1) = F) := by show _ = _; rw [Hn.out]; omega
                        go_wp2
                        go_roundw
                        case rel => exact ⟨u + 1, _, by omega, by go_num, by rw [Hn2.out], rfl⟩
                        case measure => simp [intOf]; omega
              · have hrad : radI X n (J.map Int.ofNat) = F := by
                  unfold radI
                  rw [toNat_ofNat, ← HF.out]
                  by_cases hF0 : F < 0
                  · exact rad_stay (by rw [HF.out]; exact hF0) n hu
                  · have : n = u := by omega
                    subst this; rfl
                by_cases hc : 0 ≤ F ∧ (p0 < 0 ∨ F < p0)
                · obtain ⟨hF0, hFp⟩ := hc
                  obtain rfl : n = u := by omega
                  have Hn := Lib.hid (pkL_yes Hl.out Hp0.out hrad hF0 hFp)
                  clear hrad hgo
                  by_cases hp0 : p0 < 0
                  rotate_left
                  have hFp2 : F < p0 := by omega
                  all_goals
                    clear hFp
                    go_wp2
                    go_roundw
                    case rel => exact ⟨t + 1, _, by omega, by go_num, by rw [Hn.out], rfl⟩
                    case measure => simp [intOf]; omega
                · have Hn := Lib.hid (pkL_no Hl.out Hp0.out hrad hc)
                  clear hrad
                  by_cases hF0 : 0 ≤ F
                  · obtain rfl : n = u := by omega
                    have hp0 : ¬ p0 < 0 := by omega
                    have hFp : ¬ F < p0 := by omega
                    clear hc hgo
                    go_wp2
                    go_roundw
                    case rel => exact ⟨t + 1, _, by omega, by go_num, by rw [Hn.out], rfl⟩
                    case measure => simp [intOf]; omega
                  · have hF1 : F < 0 := by omega
                    have hF2 : decide (F ≥ 0) = false := decide_eq_false (by omega)
                    clear hc hgo
                    by_cases hun : (u : Int) < (n : Int)
                    all_goals
                      go_wp2
                      go_roundw
                      case rel => exact ⟨t + 1, _, by omega, by go_num, by rw [Hn.out], rfl⟩
                      case measure => simp [intOf]; omega
          · obtain rfl : R = t := by omega
            have Hend : Hid (nfr n ss k = p0) := by
              show _ = _
              rw [Hs2.out, ← Hp0.out, List.take_of_length_le (by rw [HR.out]; exact Nat.le_refl _)]
            go_wp2
            go_ret
            exact ⟨ret_int Hend.out.symm, below_drewN HX5.out.bel _⟩
  · have hv' : vnet n ss = false := by simpa using hv
    have Hs := Lib.hid (nfr_no (k := k) (.inl hv'))
    have H1 := Lib.hid (sValidNet_is A c m n ss w _ hr hm hb hwf hv')
    clear hv hv' hr hm hwf
    go_enter Try.func35, Try.ntmps35
    go_wp2_with fail
    refine H1.out.mono ?_
    rintro e w' ⟨rfl, rfl⟩
    go_wp2
    go_ret
    exact ⟨ret_int Hs.out.symm, Below.refl _ _⟩
end Go.Proofs.Ytiblcmeoneolcaa
