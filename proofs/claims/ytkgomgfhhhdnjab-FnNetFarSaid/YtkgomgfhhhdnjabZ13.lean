/-
  NetFar of the program, walked: the least of how far the farthest is, over all sets of so many nodes.
  Conditions: at most 2^20 streets.
-/
import Derived.Test.YtkgomgfhhhdnjabZ10
import Derived.Test.YtkgomgfhhhdnjabZ12
namespace Go.Proofs.Ytkgomgfhhhdnjab
open Go.ChangeShapes Go.WideShapes Go.ChangeAt Go.RowKit
set_option linter.unusedVariables false
set_option maxRecDepth 4000

theorem helpK_yes (k : Int) (w : World) (h1 : 1 ≤ k) (h2 : k ≤ 4) : Calls Try.prog 88 #[.int .i64 k] w fun e w' => e = .returned (.bool true) ∧ w = w' := by
  go_enter Try.func88, Try.ntmps88
  go_wp2
  go_ret
  exact ⟨ret_bool (by simp), rfl⟩
theorem helpK_no (k : Int) (w : World) (h : k < 1 ∨ 4 < k) : Calls Try.prog 88 #[.int .i64 k] w fun e w' => e = .returned (.bool false) ∧ w = w' := by
  by_cases h1 : 1 ≤ k
  · have h2 : ¬ k ≤ 4 := by omega
    go_enter Try.func88, Try.ntmps88
    go_wp2
    go_ret
    exact ⟨ret_bool (by simp; try omega), rfl⟩
  · have h3 : decide (k ≥ 1) = false := decide_eq_false h1
    go_enter Try.func88, Try.ntmps88
    go_wp2
    go_ret
    exact ⟨ret_bool (by simp; try omega), rfl⟩

set_option maxHeartbeats 1600000 in
theorem iNetFar_ok : INum 39 nfr := by
  intro A c m n ss k w hin hwk
  by_cases hv : vnet n ss = true
  · have H1 := Lib.hid (iValidNet_is A c m n ss w hin hv)
    by_cases hf : k < 1 ∨ 4 < k
    · have Hs := Lib.hid (nfr_no (n := n) (ss := ss) (.inr hf))
      have H2 := Lib.hid (fun W => helpK_no k W hf)
      clear hv hf hin
      go_enter Try.func39, Try.ntmps39
      go_wp2_with fail
      refine H1.out.mono ?_
      rintro e w2 ⟨rfl, hnx2⟩
      go_wp2_with fail
      refine (H2.out w2).mono ?_
      rintro e w' ⟨rfl, rfl⟩
      go_wp2
      go_ret
      exact ⟨ret_int Hs.out.symm, hnx2⟩
    · have H2 := Lib.hid (fun W => helpK_yes k W (by omega) (by omega))
      obtain ⟨n, rfl, hn1, hn7⟩ := vnet_nat hv
      obtain ⟨k, rfl⟩ := Int.eq_ofNat_of_zero_le (show 0 ≤ k by omega)
      have Hbd : Hid (Bd54 (sht n ss) n) := (sht_spec hv).2
      have Hs0 : nfr n ss k = nfS (sht n ss) n (min k n) (2 ^ n) := by
        rw [nfr_yes hv (by omega) (by omega)]
        exact nf_unique (nfar_is _ _ _) (nfS_is hn7)
      obtain ⟨M, HM⟩ : ∃ M, Hid (min k n = M) := ⟨_, rfl⟩
      rw [HM.out] at Hs0
      have Hs := Lib.hid Hs0
      have Hin := Lib.hid hin
      have Hv := Lib.hid hv
      have hM4 : M ≤ 4 := by have := HM.out; omega
      clear hv hin Hs0
      by_cases hkn : (n : Int) < (k : Int)
      · have hMk : M = n := by have := HM.out; omega
        go_enter Try.func39, Try.ntmps39
        go_wp2_with fail
        refine H1.out.mono ?_
        rintro e w2 ⟨rfl, hnx2⟩
        have HB2 := Lib.hid hnx2
        have Ht := Lib.hid (iNetTable_ok A c m n ss w2 (Hin.out.later hnx2))
        clear hnx2
        go_wp2_with fail
        refine (H2.out w2).mono ?_
        rintro e w' ⟨rfl, rfl⟩
        go_wp2_with fail
        refine Ht.out.mono ?_
        rintro e w4 (⟨hno, -, -⟩ | ⟨-, v, VR, rfl, hO, hT, hnx4⟩)
        · exact absurd (Hv.out.symm.trans hno) (by decide)
        obtain ⟨Ag, cg, rfl, -, -, hA⟩ := own_sliceN hO
        obtain ⟨g, rfl, -, -⟩ := hA (by omega)
        have HX : Hid (TabX w2 w4 n g cg VR (sht n ss)) := ⟨hO, hT, hnx4⟩
        have HB4 := Lib.hid (HB2.out.trans (hnx4.mono HB2.out.size))
        clear hO hT hnx4 hA
        have h128 : 2 ^ n ≤ 128 := Nat.pow_le_pow_right (show 2 > 0 by omega) hn7
        have hwp := wrap_pow8 ⟨n, by omega⟩
        simp only at hwp
        obtain ⟨P, HP⟩ : ∃ P : Nat, Hid (2 ^ n = P) := ⟨_, rfl⟩
        rw [HP.out] at h128 hwp Hs
        have Hfar : Hid (∀ S, S < 128 → Calls Try.prog 91 #[.slice (some ⟨g, 0, none⟩) n cg, .int .u64 (S : Nat)] w4 fun e w' => e = .returned (.int .i64 (ffI (sht n ss) (memL S n) n : Nat)) ∧ w' = w4) := fun S hS => farthest_any w2 w4 n g cg S VR _ hn1 hn7 hS HX.out Hbd.out
        have Hway : Hid (∀ S v gr cr, S < 128 → v < n → VR v = .slice (some ⟨gr, 0, none⟩) n cr → Calls Try.prog 90 #[.slice (some ⟨gr, 0, none⟩) n cr, .int .u64 (S : Nat)] w4 fun e w' => e = .returned (.int .i64 (wy (sht n ss) v (memL S n))) ∧ w' = w4) := fun S v gr cr hS hv he =>
          wayTo_any gr n cr v S (sht n ss) w4 hn7 hS (fun j hj => (HX.out.cell hv hj he).2.1) (fun j hj => (Hbd.out v j hv hj).1)
        have Hones : Hid (∀ S, S < 128 → Calls Try.prog 89 #[.int .u64 (S : Nat)] w4 fun e w' => e = .returned (.int .i64 (bc 7 S : Nat)) ∧ w4 = w') := fun S hS => by
          have h := ones_small S hS w4
          rw [ones_bc ⟨S, hS⟩] at h
          exact h
        obtain ⟨W4, HW4⟩ : ∃ W, Hid (w4 = W) := ⟨_, rfl⟩
        rw [HW4.out] at HX HB4 Hfar Hway Hones ⊢
        clear HW4
        go_wp2
        go_loopw [8, 25] (fun f s wr => ∃ S : Nat, S ≤ P ∧ s = .int .u64 S ∧ f = .int .i64 (nfS (sht n ss) n M S) ∧ wr = W4) (fun _ s _ => P - (intOf s).toNat)
        case atStart => exact ⟨0, Nat.zero_le _, rfl, rfl, rfl⟩
        case round =>
          obtain ⟨S, hSP, rfl, rfl, rfl⟩ := hrel
          obtain ⟨F, HF⟩ : ∃ F, Hid (nfS (sht n ss) n M S = F) := ⟨_, rfl⟩
          rw [HF.out]
          by_cases hlt : S < P
          · have Ho := Lib.hid (Hones.out S (by omega))
            have hC7 := bc_le 7 S
            by_cases hCM : bc 7 S = M
            · have Hf := Lib.hid (Hfar.out S (by omega))
              have hfl := ffI_lt (sht n ss) (memL S n) hn1 n (Nat.le_refl _)
              have Hrad := Lib.hid (wy_far (L := memL S n) Hbd.out memL_lt hn1)
              have hrb := rad_bd (L := memL S n) Hbd.out memL_lt hn1
              obtain ⟨R, HR⟩ : ∃ R, Hid (radL (sht n ss) (memL S n) n = R) := ⟨_, rfl⟩
              rw [HR.out] at Hrad hrb
              have Hnx := Lib.hid (nfS_take hCM HF.out HR.out hrb.1)
              obtain ⟨q, Hq⟩ : ∃ q, Hid (ffI (sht n ss) (memL S n) n = q) := ⟨_, rfl⟩
              rw [Hq.out] at Hf hfl Hrad
              obtain ⟨gq, cq, hVq⟩ := HX.out.rowAt hfl
              obtain ⟨cgq, -, -⟩ := HX.out.cell hfl hfl hVq
              have Hw := Lib.hid (Hway.out S q gq cq (by omega) hfl hVq)
              rw [Hrad.out] at Hw
              rw [hCM] at Ho hC7
              have hb1 : ((M : Int) != (n : Int)) = false := by rw [bne_eq_false_iff_eq]; omega
              clear hCM hVq
              by_cases hs : ShW R F
              · have Hn2 : Hid (nfS (sht n ss) n M (S + 1) = R) := by show _ = _; rw [Hnx.out, if_pos hs]
                have Hsh := Lib.hid (isSh_yes R F wr hs)
                clear hs Hnx
                go_wp2_with fail
                refine Ho.out.mono ?_
                rintro e w' ⟨rfl, rfl⟩
                go_wp2_with fail
                refine Hf.out.mono ?_
                rintro e w' ⟨rfl, rfl⟩
                go_wp2_with fail
                refine Hw.out.mono ?_
                rintro e w' ⟨rfl, rfl⟩
                go_wp2_with fail
                refine Hsh.out.mono ?_
                rintro e w' ⟨rfl, rfl⟩
                go_wp2
                go_roundw
                case rel => exact ⟨S + 1, by omega, by go_num, by rw [Hn2.out], trivial⟩
                case measure => simp [intOf]; omega
              · have Hn2 : Hid (nfS (sht n ss) n M (S + 1) = F) := by show _ = _; rw [Hnx.out, if_neg hs]
                have Hsh := Lib.hid (isSh_no R F wr hs)
                clear hs Hnx
                go_wp2_with fail
                refine Ho.out.mono ?_
                rintro e w' ⟨rfl, rfl⟩
                go_wp2_with fail
                refine Hf.out.mono ?_
                rintro e w' ⟨rfl, rfl⟩
                go_wp2_with fail
                refine Hw.out.mono ?_
                rintro e w' ⟨rfl, rfl⟩
                go_wp2_with fail
                refine Hsh.out.mono ?_
                rintro e w' ⟨rfl, rfl⟩
                go_wp2
                go_roundw
                case rel => exact ⟨S + 1, by omega, by go_num, by rw [Hn2.out], trivial⟩
                case measure => simp [intOf]; omega
            · have Hn2 : Hid (nfS (sht n ss) n M (S + 1) = F) := (nfS_skip hCM).trans HF.out
              obtain ⟨C, HC⟩ : ∃ C, Hid (bc 7 S = C) := ⟨_, rfl⟩
              rw [HC.out] at Ho hCM
              have hb1 : ((C : Int) != (n : Int)) = true := by rw [bne_iff_ne]; omega
              clear hCM
              go_wp2_with fail
              refine Ho.out.mono ?_
              rintro e w' ⟨rfl, rfl⟩
              go_wp2
              go_roundw
              case rel => exact ⟨S + 1, by omega, by go_num, by rw [Hn2.out], trivial⟩
              case measure => simp [intOf]; omega
          · obtain rfl : S = P := by omega
            have Hs2 := Lib.hid (Hs.out.trans HF.out)
            go_wp2
            go_ret
            exact ⟨ret_int Hs2.out.symm, HB4.out⟩
      · have hkn2 : (k : Int) ≤ (n : Int) := by omega
        have hMk : M = k := by have := HM.out; omega
        go_enter Try.func39, Try.ntmps39
        go_wp2_with fail
        refine H1.out.mono ?_
        rintro e w2 ⟨rfl, hnx2⟩
        have HB2 := Lib.hid hnx2
        have Ht := Lib.hid (iNetTable_ok A c m n ss w2 (Hin.out.later hnx2))
        clear hnx2
        go_wp2_with fail
        refine (H2.out w2).mono ?_
        rintro e w' ⟨rfl, rfl⟩
        go_wp2_with fail
        refine Ht.out.mono ?_
        rintro e w4 (⟨hno, -, -⟩ | ⟨-, v, VR, rfl, hO, hT, hnx4⟩)
        · exact absurd (Hv.out.symm.trans hno) (by decide)
        obtain ⟨Ag, cg, rfl, -, -, hA⟩ := own_sliceN hO
        obtain ⟨g, rfl, -, -⟩ := hA (by omega)
        have HX : Hid (TabX w2 w4 n g cg VR (sht n ss)) := ⟨hO, hT, hnx4⟩
        have HB4 := Lib.hid (HB2.out.trans (hnx4.mono HB2.out.size))
        clear hO hT hnx4 hA
        have h128 : 2 ^ n ≤ 128 := Nat.pow_le_pow_right (show 2 > 0 by omega) hn7
        have hwp := wrap_pow8 ⟨n, by omega⟩
        simp only at hwp
        obtain ⟨P, HP⟩ : ∃ P : Nat, Hid (2 ^ n = P) := ⟨_, rfl⟩
        rw [HP.out] at h128 hwp Hs
        have Hfar : Hid (∀ S, S < 128 → Calls Try.prog 91 #[.slice (some ⟨g, 0, none⟩) n cg, .int .u64 (S : Nat)] w4 fun e w' => e = .returned (.int .i64 (ffI (sht n ss) (memL S n) n : Nat)) ∧ w' = w4) := fun S hS => farthest_any w2 w4 n g cg S VR _ hn1 hn7 hS HX.out Hbd.out
        have Hway : Hid (∀ S v gr cr, S < 128 → v < n → VR v = .slice (some ⟨gr, 0, none⟩) n cr → Calls Try.prog 90 #[.slice (some ⟨gr, 0, none⟩) n cr, .int .u64 (S : Nat)] w4 fun e w' => e = .returned (.int .i64 (wy (sht n ss) v (memL S n))) ∧ w' = w4) := fun S v gr cr hS hv he =>
          wayTo_any gr n cr v S (sht n ss) w4 hn7 hS (fun j hj => (HX.out.cell hv hj he).2.1) (fun j hj => (Hbd.out v j hv hj).1)
        have Hones : Hid (∀ S, S < 128 → Calls Try.prog 89 #[.int .u64 (S : Nat)] w4 fun e w' => e = .returned (.int .i64 (bc 7 S : Nat)) ∧ w4 = w') := fun S hS => by
          have h := ones_small S hS w4
          rw [ones_bc ⟨S, hS⟩] at h
          exact h
        obtain ⟨W4, HW4⟩ : ∃ W, Hid (w4 = W) := ⟨_, rfl⟩
        rw [HW4.out] at HX HB4 Hfar Hway Hones ⊢
        clear HW4
        go_wp2
        go_loopw [8, 25] (fun f s wr => ∃ S : Nat, S ≤ P ∧ s = .int .u64 S ∧ f = .int .i64 (nfS (sht n ss) n M S) ∧ wr = W4) (fun _ s _ => P - (intOf s).toNat)
        case atStart => exact ⟨0, Nat.zero_le _, rfl, rfl, rfl⟩
        case round =>
          obtain ⟨S, hSP, rfl, rfl, rfl⟩ := hrel
          obtain ⟨F, HF⟩ : ∃ F, Hid (nfS (sht n ss) n M S = F) := ⟨_, rfl⟩
          rw [HF.out]
          by_cases hlt : S < P
          · have Ho := Lib.hid (Hones.out S (by omega))
            have hC7 := bc_le 7 S
            by_cases hCM : bc 7 S = M
            · have Hf := Lib.hid (Hfar.out S (by omega))
              have hfl := ffI_lt (sht n ss) (memL S n) hn1 n (Nat.le_refl _)
              have Hrad := Lib.hid (wy_far (L := memL S n) Hbd.out memL_lt hn1)
              have hrb := rad_bd (L := memL S n) Hbd.out memL_lt hn1
              obtain ⟨R, HR⟩ : ∃ R, Hid (radL (sht n ss) (memL S n) n = R) := ⟨_, rfl⟩
              rw [HR.out] at Hrad hrb
              have Hnx := Lib.hid (nfS_take hCM HF.out HR.out hrb.1)
              obtain ⟨q, Hq⟩ : ∃ q, Hid (ffI (sht n ss) (memL S n) n = q) := ⟨_, rfl⟩
              rw [Hq.out] at Hf hfl Hrad
              obtain ⟨gq, cq, hVq⟩ := HX.out.rowAt hfl
              obtain ⟨cgq, -, -⟩ := HX.out.cell hfl hfl hVq
              have Hw := Lib.hid (Hway.out S q gq cq (by omega) hfl hVq)
              rw [Hrad.out] at Hw
              rw [hCM] at Ho hC7
              have hb1 : ((M : Int) != (k : Int)) = false := by rw [bne_eq_false_iff_eq]; omega
              clear hCM hVq
              by_cases hs : ShW R F
              · have Hn2 : Hid (nfS (sht n ss) n M (S + 1) = R) := by show _ = _; rw [Hnx.out, if_pos hs]
                have Hsh := Lib.hid (isSh_yes R F wr hs)
                clear hs Hnx
                go_wp2_with fail
                refine Ho.out.mono ?_
                rintro e w' ⟨rfl, rfl⟩
                go_wp2_with fail
                refine Hf.out.mono ?_
                rintro e w' ⟨rfl, rfl⟩
                go_wp2_with fail
                refine Hw.out.mono ?_
                rintro e w' ⟨rfl, rfl⟩
                go_wp2_with fail
                refine Hsh.out.mono ?_
                rintro e w' ⟨rfl, rfl⟩
                go_wp2
                go_roundw
                case rel => exact ⟨S + 1, by omega, by go_num, by rw [Hn2.out], trivial⟩
                case measure => simp [intOf]; omega
              · have Hn2 : Hid (nfS (sht n ss) n M (S + 1) = F) := by show _ = _; rw [Hnx.out, if_neg hs]
                have Hsh := Lib.hid (isSh_no R F wr hs)
                clear hs Hnx
                go_wp2_with fail
                refine Ho.out.mono ?_
                rintro e w' ⟨rfl, rfl⟩
                go_wp2_with fail
                refine Hf.out.mono ?_
                rintro e w' ⟨rfl, rfl⟩
                go_wp2_with fail
                refine Hw.out.mono ?_
                rintro e w' ⟨rfl, rfl⟩
                go_wp2_with fail
                refine Hsh.out.mono ?_
                rintro e w' ⟨rfl, rfl⟩
                go_wp2
                go_roundw
                case rel => exact ⟨S + 1, by omega, by go_num, by rw [Hn2.out], trivial⟩
                case measure => simp [intOf]; omega
            · have Hn2 : Hid (nfS (sht n ss) n M (S + 1) = F) := (nfS_skip hCM).trans HF.out
              obtain ⟨C, HC⟩ : ∃ C, Hid (bc 7 S = C) := ⟨_, rfl⟩
              rw [HC.out] at Ho hCM
              have hb1 : ((C : Int) != (k : Int)) = true := by rw [bne_iff_ne]; omega
              clear hCM
              go_wp2_with fail
              refine Ho.out.mono ?_
              rintro e w' ⟨rfl, rfl⟩
              go_wp2
              go_roundw
              case rel => exact ⟨S + 1, by omega, by go_num, by rw [Hn2.out], trivial⟩
              case measure => simp [intOf]; omega
          · obtain rfl : S = P := by omega
            have Hs2 := Lib.hid (Hs.out.trans HF.out)
            go_wp2
            go_ret
            exact ⟨ret_int Hs2.out.symm, HB4.out⟩
  · have hv' : vnet n ss = false := by simpa using hv
    have Hs := Lib.hid (nfr_no (k := k) (.inl hv'))
    have H1 := Lib.hid (iValidNet_is A c m n ss w hin hv')
    clear hv hv' hin
    go_enter Try.func39, Try.ntmps39
    go_wp2_with fail
    refine H1.out.mono ?_
    rintro e w2 ⟨rfl, hnx2⟩
    go_wp2
    go_ret
    exact ⟨ret_int Hs.out.symm, hnx2⟩
end Go.Proofs.Ytkgomgfhhhdnjab
