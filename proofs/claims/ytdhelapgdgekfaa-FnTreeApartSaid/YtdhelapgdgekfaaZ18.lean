/-
  NetCover and NetApart of the program, walked.
  Conditions: at most 2^20 streets.
-/
import Derived.Test.YtdhelapgdgekfaaZ7
import Derived.Test.YtdhelapgdgekfaaZ17
import Derived.Test.YtdhelapgdgekfaaZ16
namespace Go.Proofs.Ytdhelapgdgekfaa
open Go.ChangeShapes Go.WideShapes Go.ChangeAt Go.RowKit
set_option linter.unusedVariables false
set_option maxRecDepth 4000

theorem NetIn.on {w w' : World} {A : Option Addr} {c m : Nat} {n : Int} {ss : List Str} (h : NetIn w A c m n ss) (hb : Below w.heap.size w w') : NetIn w' A c m n ss :=
  ⟨(h.rd.below hb).more hb.size, h.len, h.cap, h.most, h.wf⟩
theorem nmk_128 {d : Nat → Nat → Int} {far : Int} {n : Nat} (h7 : n ≤ 7) (i : Nat) : nmk d far i n < 128 := pow_128 h7 (nmk_lt _ _ _ _)
/-- The sets of near nodes stay readable. -/
theorem sets_read {d : Nat → Nat → Int} {far : Int} {n g B : Nat} {w : World} (h : w.ownsRow B 86 1 (.slice (some ⟨g, 0, none⟩) n n) n (Ms d far n n 0)) : RdU w (some ⟨g, 0, none⟩) (fun i => nmk d far i n) 0 n := fun _ =>
  ⟨g, 0, rfl, fun i hi => by
    rw [Nat.zero_add, h.cellAt i (by omega)]
    simp [Ms, hi]⟩

set_option maxHeartbeats 1600000 in
theorem iNetApart_ok : INum 28 nap := by
  intro A c m n ss far w hin hwk
  by_cases hv : vnet n ss = true
  · have H1 := Lib.hid (iValidNet_is A c m n ss w hin hv)
    by_cases hf : far < 0 ∨ 50 < far
    · have Hs := Lib.hid (nap_no (n := n) (ss := ss) (.inr hf))
      have H2 := Lib.hid (fun W => farOk_no far W hf)
      clear hv hf hin
      go_enter Try.func28, Try.ntmps28
      go_wp2_with fail
      refine H1.out.mono ?_
      rintro e w2 ⟨rfl, hnx2⟩
      go_wp2_with fail
      refine (H2.out w2).mono ?_
      rintro e w' ⟨rfl, rfl⟩
      go_wp2
      go_ret
      exact ⟨ret_int Hs.out.symm, hnx2⟩
    · have H2 := Lib.hid (fun W => farOk_yes far W (by omega) (by omega))
      obtain ⟨n, rfl, hn1, hn7⟩ := vnet_nat hv
      have hbd := (sht_spec hv).2
      have Hs := Lib.hid (show nap n ss far = ((mw (fun i => nmk (sht n ss) far i n) n 0 0 : Nat) : Int) by
        rw [nap_yes hv (by omega) (by omega), mw_pkR (d := sht n ss) (far := far) hn7 (fun i hi v => by
          rw [nmk_iff (fun a b ha hb => (hbd a b ha hb).1) hi]
          have hs := (sht_met hv).symm
          constructor
          · rintro ⟨h1, h2, h3⟩; rw [hs i v hi h1] at h2 h3; exact ⟨h1, h2, h3⟩
          · rintro ⟨h1, h2, h3⟩; rw [hs v i h1 hi] at h2 h3; exact ⟨h1, h2, h3⟩)])
      have Hin := Lib.hid hin
      have Hv := Lib.hid hv
      clear hv hf hin hbd
      go_enter Try.func28, Try.ntmps28
      go_wp2_with fail
      refine H1.out.mono ?_
      rintro e w2 ⟨rfl, hnx2⟩
      have HB2 := Lib.hid hnx2
      have Ht := Lib.hid (iNetTable_ok A c m n ss w2 (Hin.out.on hnx2))
      clear hnx2
      go_wp2_with fail
      refine (H2.out w2).mono ?_
      rintro e w' ⟨rfl, rfl⟩
      go_wp2_with fail
      refine Ht.out.mono ?_
      rintro e w4 (⟨hno, -, -⟩ | ⟨-, v, VR, rfl, hO, hT, hnx4⟩)
      · exact absurd (Hv.out.symm.trans hno) (by decide)
      obtain ⟨Ag, cg, rfl, -, -, hA⟩ := own_sliceN hO
      obtain ⟨g, rfl, -, -⟩ := hA (by omega)
      have Hns := Lib.hid (nearSets_any w4 w2.heap.size n g cg far VR (sht n ss) hn1 hn7 hO hT)
      have HB4 := Lib.hid (HB2.out.trans (hnx4.mono HB2.out.size))
      clear hO hT hnx4 hA
      go_wp2_with fail
      refine Hns.out.mono ?_
      rintro e w5 ⟨g5, rfl, hown5, hnx5⟩
      have HB5 := Lib.hid (HB4.out.trans (hnx5.mono HB4.out.size))
      have Hm := Lib.hid (mostW_any (fun i => nmk (sht n ss) far i n) (nmk_128 hn7) n 0 0 n (some ⟨g5, 0, none⟩) w5 (sets_read hown5) (Nat.le_refl _) hn7 (by omega))
      clear hown5 hnx5
      go_wp2_with fail
      refine Hm.out.mono ?_
      rintro e w6 ⟨rfl, q, rfl⟩
      go_wp2
      go_ret
      exact ⟨ret_int Hs.out.symm, below_drewN HB5.out _⟩
  · have hv' : vnet n ss = false := by simpa using hv
    have Hs := Lib.hid (nap_no (far := far) (.inl hv'))
    have H1 := Lib.hid (iValidNet_is A c m n ss w hin hv')
    clear hv hv' hin
    go_enter Try.func28, Try.ntmps28
    go_wp2_with fail
    refine H1.out.mono ?_
    rintro e w2 ⟨rfl, hnx2⟩
    go_wp2
    go_ret
    exact ⟨ret_int Hs.out.symm, hnx2⟩

set_option maxHeartbeats 1600000 in
theorem iNetCover_ok : INum 25 ncv := by
  intro A c m n ss far w hin hwk
  by_cases hv : vnet n ss = true
  · have H1 := Lib.hid (iValidNet_is A c m n ss w hin hv)
    by_cases hf : far < 0 ∨ 50 < far
    · have Hs := Lib.hid (ncv_no (n := n) (ss := ss) (.inr hf))
      have H2 := Lib.hid (fun W => farOk_no far W hf)
      clear hv hf hin
      go_enter Try.func25, Try.ntmps25
      go_wp2_with fail
      refine H1.out.mono ?_
      rintro e w2 ⟨rfl, hnx2⟩
      go_wp2_with fail
      refine (H2.out w2).mono ?_
      rintro e w' ⟨rfl, rfl⟩
      go_wp2
      go_ret
      exact ⟨ret_int Hs.out.symm, hnx2⟩
    · have H2 := Lib.hid (fun W => farOk_yes far W (by omega) (by omega))
      obtain ⟨n, rfl, hn1, hn7⟩ := vnet_nat hv
      have hbd := (sht_spec hv).2
      have Hs := Lib.hid (ncv_yes (far := far) hv (by omega) (by omega))
      have Hcv : Hid (∀ S, cvF (sht n ss) far S n n = hits (fun i => nmk (sht n ss) far i n) S n) := fun S => cover_hits (fun a b ha hb => (hbd a b ha hb).1)
      have Hin := Lib.hid hin
      have Hv := Lib.hid hv
      clear hv hf hin hbd
      go_enter Try.func25, Try.ntmps25
      go_wp2_with fail
      refine H1.out.mono ?_
      rintro e w2 ⟨rfl, hnx2⟩
      have HB2 := Lib.hid hnx2
      have Ht := Lib.hid (iNetTable_ok A c m n ss w2 (Hin.out.on hnx2))
      clear hnx2
      go_wp2_with fail
      refine (H2.out w2).mono ?_
      rintro e w' ⟨rfl, rfl⟩
      go_wp2_with fail
      refine Ht.out.mono ?_
      rintro e w4 (⟨hno, -, -⟩ | ⟨-, v, VR, rfl, hO, hT, hnx4⟩)
      · exact absurd (Hv.out.symm.trans hno) (by decide)
      obtain ⟨Ag, cg, rfl, -, -, hA⟩ := own_sliceN hO
      obtain ⟨g, rfl, -, -⟩ := hA (by omega)
      have Hns := Lib.hid (nearSets_any w4 w2.heap.size n g cg far VR (sht n ss) hn1 hn7 hO hT)
      have HB4 := Lib.hid (HB2.out.trans (hnx4.mono HB2.out.size))
      clear hO hT hnx4 hA
      go_wp2_with fail
      refine Hns.out.mono ?_
      rintro e w5 ⟨g5, rfl, hown5, hnx5⟩
      have HB5 := Lib.hid (HB4.out.trans (hnx5.mono HB4.out.size))
      have Hha : Hid (∀ wr S, Below w5.heap.size w5 wr → S < 128 → Calls Try.prog 71 #[.slice (some ⟨g5, 0, none⟩) n n, .int .u64 (S : Nat)] wr fun e w' => e = .returned (.bool (hits (fun i => nmk (sht n ss) far i n) S n)) ∧ Below wr.heap.size wr w') := fun wr S hb hS =>
        hasAll_any (fun i => nmk (sht n ss) far i n) (some ⟨g5, 0, none⟩) n n S wr (nmk_128 hn7) hS hn7 (fun w' h => sets_read (ownN_below hown5 (hb.trans (h.mono hb.size))))
      clear hown5 hnx5
      have h128 : 2 ^ n ≤ 128 := Nat.pow_le_pow_right (show 2 > 0 by omega) hn7
      have hwp := wrap_pow8 ⟨n, by omega⟩
      simp only at hwp
      obtain ⟨P, HP⟩ : ∃ P : Nat, Hid (2 ^ n = P) := ⟨_, rfl⟩
      rw [HP.out] at h128 hwp Hs
      go_wp2
      go_loopw [8, 27] (fun f s wr => ∃ S : Nat, S ≤ P ∧ s = .int .u64 S ∧ f = .int .i64 (cvN (sht n ss) far n S : Nat) ∧ Below w5.heap.size w5 wr) (fun _ s _ => P - (intOf s).toNat)
      case atStart => exact ⟨0, Nat.zero_le _, rfl, rfl, Below.refl _ _⟩
      case round =>
        obtain ⟨S, hSP, rfl, rfl, hbl⟩ := hrel
        obtain ⟨F, HF⟩ : ∃ F, Hid (cvN (sht n ss) far n S = F) := ⟨_, rfl⟩
        have hF7 := cvN_bd (sht n ss) far n S
        rw [HF.out] at hF7 ⊢
        by_cases hlt : S < P
        · have Hh := Lib.hid (Hha.out wr S hbl (by omega))
          have Ho := Lib.hid (fun W => ones_small S (by omega) W)
          rw [ones_bc ⟨S, by omega⟩] at Ho
          by_cases hc : cvF (sht n ss) far S n n = true
          · have hc2 := (Hcv.out S).symm.trans hc
            rw [hc2] at Hh
            obtain ⟨C, HC⟩ : ∃ C, Hid (bc 7 S = C) := ⟨_, rfl⟩
            simp only at Ho
            rw [HC.out] at Ho
            have Hnx : Hid (cvN (sht n ss) far n (S + 1) = min F C) := by show _ = _; simp only [cvN]; rw [if_pos hc, HF.out, HC.out]
            have hC7 : C ≤ 7 := by rw [← HC.out]; exact bc_bd 7 S
            clear hc hc2
            by_cases hfc : F ≤ C
            · have Hnx2 : Hid (cvN (sht n ss) far n (S + 1) = F) := by show _ = _; rw [Hnx.out]; omega
              go_wp2_with fail
              refine Hh.out.mono ?_
              rintro e w6 ⟨rfl, hnx6⟩
              go_wp2_with fail
              refine (Ho.out w6).mono ?_
              rintro e w' ⟨rfl, rfl⟩
              go_wp2
              go_roundw
              case rel => exact ⟨S + 1, by omega, by go_num, by rw [Hnx2.out], hbl.trans (hnx6.mono hbl.size)⟩
              case measure => simp [intOf]; omega
            · have Hnx2 : Hid (cvN (sht n ss) far n (S + 1) = C) := by show _ = _; rw [Hnx.out]; omega
              go_wp2_with fail
              refine Hh.out.mono ?_
              rintro e w6 ⟨rfl, hnx6⟩
              go_wp2_with fail
              refine (Ho.out w6).mono ?_
              rintro e w' ⟨rfl, rfl⟩
              go_wp2
              go_roundw
              case rel => exact ⟨S + 1, by omega, by go_num, by rw [Hnx2.out], hbl.trans (hnx6.mono hbl.size)⟩
              case measure => simp [intOf]; omega
          · have hc1 : cvF (sht n ss) far S n n = false := by simpa using hc
            have hc2 := (Hcv.out S).symm.trans hc1
            rw [hc2] at Hh
            have Hnx2 : Hid (cvN (sht n ss) far n (S + 1) = F) := by show _ = _; simp only [cvN]; rw [if_neg hc, HF.out]
            clear hc hc1 hc2
            go_wp2_with fail
            refine Hh.out.mono ?_
            rintro e w6 ⟨rfl, hnx6⟩
            go_wp2
            go_roundw
            case rel => exact ⟨S + 1, by omega, by go_num, by rw [Hnx2.out], hbl.trans (hnx6.mono hbl.size)⟩
            case measure => simp [intOf]; omega
        · obtain rfl : S = P := by omega
          have Hs2 := Lib.hid (Hs.out.trans (by rw [HF.out]))
          go_wp2
          go_ret
          exact ⟨ret_int Hs2.out.symm, HB5.out.trans (hbl.mono HB5.out.size)⟩
  · have hv' : vnet n ss = false := by simpa using hv
    have Hs := Lib.hid (ncv_no (far := far) (.inl hv'))
    have H1 := Lib.hid (iValidNet_is A c m n ss w hin hv')
    clear hv hv' hin
    go_enter Try.func25, Try.ntmps25
    go_wp2_with fail
    refine H1.out.mono ?_
    rintro e w2 ⟨rfl, hnx2⟩
    go_wp2
    go_ret
    exact ⟨ret_int Hs.out.symm, hnx2⟩
end Go.Proofs.Ytdhelapgdgekfaa
