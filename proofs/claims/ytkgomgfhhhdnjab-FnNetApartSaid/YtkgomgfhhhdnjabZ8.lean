/-
  NetApart and NetCover of the model.
  Conditions: fewer than 2^60 streets.
-/
import Derived.Test.YtkgomgfhhhdnjabZ5
import Derived.Test.YtkgomgfhhhdnjabZ6
import Derived.Test.YtkgomgfhhhdnjabZ7
import Derived.Test.YtkgomgfhhhdnjabZ4
namespace Go.Proofs.Ytkgomgfhhhdnjab
open Go.ChangeShapes Go.WideShapes Go.ChangeAt Go.RowKit
set_option linter.unusedVariables false
set_option maxRecDepth 4000

set_option maxHeartbeats 800000 in
theorem sNetApart_any (A : Option Addr) (c m : Nat) (n : Int) (ss : List Str) (far : Int) (w : World) (hr : RdS w w.heap.size A ss) (hm : ss.length = m) (hb : m ≤ 1152921504606846976) (hwf : (Lit.int .i64 n).wf = true) :
    Calls Try.prog 37 #[.int .i64 n, .slice A m c, .int .i64 far] w fun e w' => e = .returned (.int .i64 (nap n ss far)) ∧ Below w.heap.size w w' := by
  by_cases hv : vnet n ss = true
  · have H1 := Lib.hid (sValidNet_is A c m n ss w _ hr hm hb hwf hv)
    by_cases hf : far < 0 ∨ 50 < far
    · have Hs := Lib.hid (nap_no (n := n) (ss := ss) (.inr hf))
      have H2 := Lib.hid (inRange_no far 0 50 w hf)
      clear hv hf hr hm hwf
      go_enter Try.func37, Try.ntmps37
      go_wp2_with fail
      refine H1.out.mono ?_
      rintro e w' ⟨rfl, rfl⟩
      go_wp2_with fail
      refine H2.out.mono ?_
      rintro e w' ⟨rfl, rfl⟩
      go_wp2
      go_ret
      exact ⟨ret_int Hs.out.symm, Below.refl _ _⟩
    · obtain ⟨n, rfl, hn1, hn7⟩ := vnet_nat hv
      have H2 := Lib.hid (inRange_yes far 0 50 w (by omega) (by omega))
      have Hs := Lib.hid (nap_yes hv (show 0 ≤ far by omega) (show far ≤ 50 by omega))
      have Ht := Lib.hid (netTable_any A c m n ss w hr hm hv)
      clear hv hf hr hm hwf
      go_enter Try.func37, Try.ntmps37
      go_wp2_with fail
      refine H1.out.mono ?_
      rintro e w' ⟨rfl, rfl⟩
      go_wp2_with fail
      refine H2.out.mono ?_
      rintro e w' ⟨rfl, rfl⟩
      go_wp2_with fail
      refine Ht.out.mono ?_
      rintro e w4 ⟨v, VR, rfl, hO, hT, hnx4⟩
      obtain ⟨Ag, cg, rfl, -, -, hA⟩ := own_sliceN hO
      obtain ⟨g, rfl, -, -⟩ := hA (by omega)
      have Hp := Lib.hid (packX_any w4 w.heap.size n g cg far VR (sht n ss) hn1 hn7 hO hT)
      have HB4 := Lib.hid hnx4
      clear hO hT hnx4 hA
      go_wp2_with fail
      refine Hp.out.mono ?_
      rintro e w' ⟨rfl, rfl⟩
      go_wp2
      go_ret
      exact ⟨ret_int Hs.out.symm, HB4.out⟩
  · have hv' : vnet n ss = false := by simpa using hv
    have Hs := Lib.hid (nap_no (far := far) (.inl hv'))
    have H1 := Lib.hid (sValidNet_is A c m n ss w _ hr hm hb hwf hv')
    clear hv hv' hr hm hwf
    go_enter Try.func37, Try.ntmps37
    go_wp2_with fail
    refine H1.out.mono ?_
    rintro e w' ⟨rfl, rfl⟩
    go_wp2
    go_ret
    exact ⟨ret_int Hs.out.symm, Below.refl _ _⟩

set_option maxHeartbeats 2000000 in
theorem sNetCover_any (A : Option Addr) (c m : Nat) (n : Int) (ss : List Str) (far : Int) (w : World) (hr : RdS w w.heap.size A ss) (hm : ss.length = m) (hb : m ≤ 1152921504606846976) (hwf : (Lit.int .i64 n).wf = true) :
    Calls Try.prog 34 #[.int .i64 n, .slice A m c, .int .i64 far] w fun e w' => e = .returned (.int .i64 (ncv n ss far)) ∧ Below w.heap.size w w' := by
  by_cases hv : vnet n ss = true
  · have H1 := Lib.hid (sValidNet_is A c m n ss w _ hr hm hb hwf hv)
    by_cases hf : far < 0 ∨ 50 < far
    · have Hs := Lib.hid (ncv_no (n := n) (ss := ss) (.inr hf))
      have H2 := Lib.hid (inRange_no far 0 50 w hf)
      clear hv hf hr hm hwf
      go_enter Try.func34, Try.ntmps34
      go_wp2_with fail
      refine H1.out.mono ?_
      rintro e w' ⟨rfl, rfl⟩
      go_wp2_with fail
      refine H2.out.mono ?_
      rintro e w' ⟨rfl, rfl⟩
      go_wp2
      go_ret
      exact ⟨ret_int Hs.out.symm, Below.refl _ _⟩
    · obtain ⟨n, rfl, hn1, hn7⟩ := vnet_nat hv
      have H2 := Lib.hid (inRange_yes far 0 50 w (by omega) (by omega))
      have Hs := Lib.hid (ncv_yes hv (show 0 ≤ far by omega) (show far ≤ 50 by omega))
      have Ht := Lib.hid (netTable_any A c m n ss w hr hm hv)
      obtain ⟨X, HX⟩ : ∃ X, Hid (sht n ss = X) := ⟨_, rfl⟩
      rw [HX.out] at Ht Hs
      have hP7 : 2 ^ n ≤ 128 := (Nat.pow_le_pow_right (by omega) hn7 : 2 ^ n ≤ 2 ^ 7)
      have HPW := Lib.hid (fun w : World => power_any n w hn7)
      obtain ⟨P, HP⟩ : ∃ P : Nat, Hid (2 ^ n = P) := ⟨2 ^ n, rfl⟩
      rw [HP.out] at HPW hP7 Hs
      clear hv hf hr hm hwf
      go_enter Try.func34, Try.ntmps34
      go_wp2_with fail
      refine H1.out.mono ?_
      rintro e w' ⟨rfl, rfl⟩
      go_wp2_with fail
      refine H2.out.mono ?_
      rintro e w' ⟨rfl, rfl⟩
      go_wp2_with fail
      refine Ht.out.mono ?_
      rintro e w4 ⟨v, VR, rfl, hO, hT, hnx4⟩
      obtain ⟨Ag, cg, rfl, -, -, hA⟩ := own_sliceN hO
      obtain ⟨g, rfl, -, -⟩ := hA (by omega)
      have HO := Lib.hid hO
      have HT := Lib.hid hT
      have HB4 := Lib.hid hnx4
      clear hO hT hnx4 hA
      go_wp2
      go_loop [8, 9] (fun b s => ∃ S : Nat, S ≤ P ∧ s = .int .i64 S ∧ b = .int .i64 ((cvN X far n S : Nat) : Int)) (fun _ s => P - (intOf s).toNat)
      case atStart => exact ⟨0, Nat.zero_le _, rfl, rfl⟩
      case round =>
        obtain ⟨S, hS, rfl, rfl⟩ := hrel
        by_cases hlt : S < P
        · have hS128 : S < 128 := by omega
          obtain ⟨K, HK⟩ : ∃ K, Hid (cvN X far n S = K) := ⟨_, rfl⟩
          have hK7 := cvN_bd X far n S
          rw [HK.out] at hK7 ⊢
          go_wp2_with fail
          refine (HPW.out _).mono ?_
          rintro e w' ⟨rfl, rfl⟩
          go_wp2
          go_loop [10, 11] (fun f v => ∃ k : Nat, k ≤ n ∧ v = .int .i64 k ∧ f = .bool (cvF X far S n k)) (fun _ v => n - (intOf v).toNat)
          case atStart => exact ⟨0, Nat.zero_le _, rfl, rfl⟩
          case round =>
            obtain ⟨v, hv, rfl, rfl⟩ := hrel
            obtain ⟨F, HF⟩ : ∃ F, Hid (cvF X far S n v = F) := ⟨_, rfl⟩
            rw [HF.out]
            by_cases hvn : v < n
            · cases F with
              | true =>
                obtain ⟨Av, cv, ev, hrv⟩ := HT.out.row hvn
                have cc := Outer.cell HO.out hvn
                rw [ev, rowX_len] at cc
                have HRV := Lib.hid hrv
                clear ev hrv
                go_wp2
                go_loop [12, 13] (fun a i => ∃ k : Nat, k ≤ n ∧ i = .int .i64 k ∧ a = .bool (nbB X far S v k)) (fun _ i => n - (intOf i).toNat)
                case atStart => exact ⟨0, Nat.zero_le _, rfl, rfl⟩
                case round =>
                  obtain ⟨k, hk, rfl, rfl⟩ := hrel
                  obtain ⟨R, HR⟩ : ∃ R, Hid (nbB X far S v k = R) := ⟨_, rfl⟩
                  rw [HR.out]
                  by_cases hkn : k < n
                  · cases R with
                    | true =>
                      have hnx : Hid (nbB X far S v (k + 1) = true) := by show _ = _; simp only [nbB]; rw [HR.out]; rfl
                      go_wp2
                      go_round
                      case rel => exact ⟨k + 1, by omega, by go_num, by rw [hnx.out]⟩
                      case measure => simp [intOf]; omega
                    | false =>
                      obtain ⟨b, off, x, rfl, -, Hx, hcx⟩ := HRV.out.x (k := k) (by rw [rowX_len]; exact hkn)
                      have hx := Hx.out
                      rw [rowX_get X hkn] at hx
                      have Hbit := Lib.hid (fun w : World => bit_any S k w hS128 (by omega))
                      by_cases hb : S.testBit k = true
                      · rw [if_pos hb] at Hbit
                        by_cases hx0 : 0 ≤ x
                        · by_cases hf : x ≤ far
                          · have hnx : Hid (nbB X far S v (k + 1) = true) := by show _ = _; simp only [nbB]; rw [HR.out, hx, hb, decide_eq_true hx0, decide_eq_true hf]; rfl
                            clear hb hx
                            go_wp2_with fail
                            refine (Hbit.out _).mono ?_
                            rintro e w' ⟨rfl, rfl⟩
                            go_wp2
                            go_round
                            case rel => exact ⟨k + 1, by omega, by go_num, by rw [hnx.out]⟩
                            case measure => simp [intOf]; omega
                          · have hnx : Hid (nbB X far S v (k + 1) = false) := by show _ = _; simp only [nbB]; rw [HR.out, hx, hb, decide_eq_true hx0, decide_eq_false hf]; rfl
                            have hf' : decide (x ≤ far) = false := decide_eq_false hf
                            clear hb hx
                            go_wp2_with fail
                            refine (Hbit.out _).mono ?_
                            rintro e w' ⟨rfl, rfl⟩
                            go_wp2
                            go_round
                            case rel => exact ⟨k + 1, by omega, by go_num, by rw [hnx.out]⟩
                            case measure => simp [intOf]; omega
                        · have hx0' : x < 0 := by omega
                          have hnx : Hid (nbB X far S v (k + 1) = false) := by show _ = _; simp only [nbB]; rw [HR.out, hx, decide_eq_false hx0, Bool.false_and, Bool.and_false]; rfl
                          clear hb hx
                          go_wp2_with fail
                          refine (Hbit.out _).mono ?_
                          rintro e w' ⟨rfl, rfl⟩
                          go_wp2
                          go_round
                          case rel => exact ⟨k + 1, by omega, by go_num, by rw [hnx.out]⟩
                          case measure => simp [intOf]; omega
                      · rw [if_neg hb] at Hbit
                        have hb' : S.testBit k = false := by simpa using hb
                        have hnx : Hid (nbB X far S v (k + 1) = false) := by show _ = _; simp only [nbB]; rw [HR.out, hb', Bool.false_and]; rfl
                        clear hb hb' hx
                        go_wp2_with fail
                        refine (Hbit.out _).mono ?_
                        rintro e w' ⟨rfl, rfl⟩
                        go_wp2
                        go_round
                        case rel => exact ⟨k + 1, by omega, by go_num, by rw [hnx.out]⟩
                        case measure => simp [intOf]; omega
                  · obtain rfl : n = k := by omega
                    have hnf : Hid (cvF X far S n (v + 1) = R) := by show _ = _; simp only [cvF]; rw [HF.out, HR.out, Bool.true_and]
                    go_wp2
                    go_round
                    case rel => exact ⟨v + 1, by omega, by go_num, by rw [hnf.out]⟩
                    case measure => simp [intOf]; omega
              | false =>
                have hff := Lib.hid (cvF_false HF.out n hv)
                have hpk : Hid (cvN X far n (S + 1) = K) := by show _ = _; simp only [cvN]; rw [if_neg (by rw [hff.out]; simp), HK.out]
                go_wp2
                go_round
                case rel => exact ⟨S + 1, by omega, by go_num, by rw [hpk.out]⟩
                case measure => simp [intOf]; omega
            · obtain rfl : n = v := by omega
              cases F with
              | true =>
                have Hbs := Lib.hid (fun w : World => bits_any S w hS128)
                have hpk : Hid (cvN X far n (S + 1) = min K (bc 7 S)) := by show _ = _; simp only [cvN]; rw [if_pos HF.out, HK.out]
                obtain ⟨C, HC⟩ : ∃ C, Hid (bc 7 S = C) := ⟨_, rfl⟩
                rw [HC.out] at Hbs hpk
                by_cases hKC : C < K
                · have hpk2 : Hid (cvN X far n (S + 1) = C) := by show _ = _; rw [hpk.out]; omega
                  have hKC' : (C : Int) < (K : Int) := by omega
                  go_wp2_with fail
                  refine (Hbs.out _).mono ?_
                  rintro e w' ⟨rfl, rfl⟩
                  go_wp2
                  go_round
                  case rel => exact ⟨S + 1, by omega, by go_num, by rw [hpk2.out]⟩
                  case measure => simp [intOf]; omega
                · have hpk2 : Hid (cvN X far n (S + 1) = K) := by show _ = _; rw [hpk.out]; omega
                  have hKC' : ¬ (C : Int) < (K : Int) := by omega
                  go_wp2_with fail
                  refine (Hbs.out _).mono ?_
                  rintro e w' ⟨rfl, rfl⟩
                  go_wp2
                  go_round
                  case rel => exact ⟨S + 1, by omega, by go_num, by rw [hpk2.out]⟩
                  case measure => simp [intOf]; omega
              | false =>
                have hpk : Hid (cvN X far n (S + 1) = K) := by show _ = _; simp only [cvN]; rw [if_neg (by rw [HF.out]; simp), HK.out]
                go_wp2
                go_round
                case rel => exact ⟨S + 1, by omega, by go_num, by rw [hpk.out]⟩
                case measure => simp [intOf]; omega
        · obtain rfl : P = S := by omega
          go_wp2_with fail
          refine (HPW.out _).mono ?_
          rintro e w' ⟨rfl, rfl⟩
          go_wp2
          go_ret
          exact ⟨ret_int Hs.out.symm, HB4.out⟩
  · have hv' : vnet n ss = false := by simpa using hv
    have Hs := Lib.hid (ncv_no (far := far) (.inl hv'))
    have H1 := Lib.hid (sValidNet_is A c m n ss w _ hr hm hb hwf hv')
    clear hv hv' hr hm hwf
    go_enter Try.func34, Try.ntmps34
    go_wp2_with fail
    refine H1.out.mono ?_
    rintro e w' ⟨rfl, rfl⟩
    go_wp2
    go_ret
    exact ⟨ret_int Hs.out.symm, Below.refl _ _⟩
end Go.Proofs.Ytkgomgfhhhdnjab
