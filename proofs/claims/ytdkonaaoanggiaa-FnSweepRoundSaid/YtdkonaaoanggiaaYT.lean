/-
  The laws FnSweepRound and FnSweepsShared, walked.
  Conditions: none.
-/
import Derived.Test.YtdkonaaoanggiaaYR
namespace Go.Proofs.Ytdkonaaoanggiaa
open Go.ChangeShapes Go.WideShapes Go.ChangeAt Go.RowKit
set_option linter.unusedVariables false
set_option maxRecDepth 4000

theorem sr_facts {n : Int} {L : Nat} (h : (srY n).length = L) (h0 : L ≠ 0) : 1 ≤ n ∧ n ≤ 8 ∧ vrY n (srY n) = true ∧ (L : Int) = max (2 * (n - 1)) 1 ∧ wgY n (srY n) = max (2 * (n - 1)) 1 := by
  by_cases hn : 1 ≤ n ∧ n ≤ 8
  · have hs : srY n = swY n.toNat := by unfold srY; rw [if_pos hn]
    obtain ⟨n, rfl⟩ := Int.eq_ofNat_of_zero_le (show 0 ≤ n by omega)
    rw [Int.toNat_natCast] at hs
    have hf := sweep_round n (by omega) (by omega)
    have hv : vrY (n : Int) (srY n) = true := by rw [hs]; exact vrY_yes hf.1
    refine ⟨hn.1, hn.2, hv, ?_, ?_⟩
    · rw [← hf.2.1, ← hs, h]
    · have hw : wgY (n : Int) (srY n) = wrY (gpY n (swY n) 0) := by unfold wgY; rw [if_pos hv, Int.toNat_natCast, hs]
      rw [hw]; exact hf.2.2
  · have hs : srY n = [] := by unfold srY; rw [if_neg hn]
    rw [hs] at h
    exact absurd h.symm h0
theorem ss_facts {n : Int} {L : Nat} (h : (srY n).length = L) (h2 : 2 ≤ L) : tgY n (srY n) (L / 2 : Nat) ≤ wgY n (srY n) ∧ wgY n (srY n) ≤ 2 * tgY n (srY n) (L / 2 : Nat) ∧ wgY n (srY n) ≤ 14 ∧ L ≤ 14 := by
  obtain ⟨h1, h8, hv, hL, hw⟩ := sr_facts h (by omega)
  have hs : srY n = swY n.toNat := by unfold srY; rw [if_pos ⟨h1, h8⟩]
  obtain ⟨n, rfl⟩ := Int.eq_ofNat_of_zero_le (show 0 ≤ n by omega)
  rw [Int.toNat_natCast] at hs
  have hf := sweep_shared n (by omega) (by omega)
  have ht : tgY (n : Int) (srY n) (L / 2 : Nat) = wrY (gpY n (swY n) (L / 2)) := by unfold tgY; rw [if_pos ⟨hv, by omega, by omega⟩, Int.toNat_natCast, Int.toNat_natCast, hs]
  have hw2 : wgY (n : Int) (srY n) = wrY (gpY n (swY n) 0) := by unfold wgY; rw [if_pos hv, Int.toNat_natCast, hs]
  have hl : (swY n).length = L := by rw [← hs]; exact h
  rw [hl] at hf
  refine ⟨?_, ?_, by rw [hw]; omega, by omega⟩
  · rw [ht, hw2]; exact hf.1
  · rw [ht, hw2]; exact hf.2

set_option maxHeartbeats 1600000 in
theorem lawSweepRound_walk (A : Option Addr) (c : Nat) (bs : List Int) (w : World) (hr : RdB w w.heap.size A bs) (hcap : bs.length ≤ c) (hm : c ≤ maxLen) :
    Calls Try.prog 7 #[.slice A bs.length c] w fun e w' => e = .returned (.bool true) ∧ Below w.heap.size w w' := by
  unfold maxLen at hm
  by_cases hb : 1048576 < bs.length
  · go_enter Try.func7, Try.ntmps7
    go_wp2
    go_ret
    exact ⟨rfl, Below.refl _ _⟩
  · have HD := Lib.hid (drawSweepRound_any A c bs.length bs w hr rfl hcap hm)
    have HI0 := Lib.hid iSweepRound_ok
    have HS0 := Lib.hid sSweepRound_ok
    have HV := Lib.hid iValidRound_ok
    have HW := Lib.hid iWorstGap_ok
    go_enter Try.func7, Try.ntmps7
    go_wp2_with fail
    refine HD.out.mono ?_
    rintro e w1 ⟨n, rfl, hn0, hn9, B1⟩
    clear HD hr hb hcap hm
    have hbe : ∀ x : Int, (x == x) = true := fun x => by simp
    have hbn : ∀ x : Int, (x != x) = false := fun x => by simp
    have hbb : ∀ x : Bool, (x == x) = true := fun x => by simp
    have hbx : ∀ x : Bool, (x != x) = false := fun x => by simp
    have hL16 := srY_len n
    obtain ⟨L, HL⟩ : ∃ L, Hid ((srY n).length = L) := ⟨_, rfl⟩
    rw [HL.out] at hL16
    have Hf : Hid (L ≠ 0 → 1 ≤ n ∧ n ≤ 8 ∧ vrY n (srY n) = true ∧ (L : Int) = max (2 * (n - 1)) 1 ∧ wgY n (srY n) = max (2 * (n - 1)) 1) := fun h => sr_facts HL.out h
    obtain ⟨xs, Hx⟩ : ∃ xs, Hid (srY n = xs) := ⟨_, rfl⟩
    rw [Hx.out] at Hf HL
    have HI : Hid (∀ W, Calls Try.prog 35 #[.int .i64 n] W (RowAt xs L W)) := fun W => (HI0.out n W).mono (fun e w' hr => by rw [Hx.out] at hr; exact hr.at_ HL.out (by omega))
    have HS : Hid (∀ W, Calls Try.prog 36 #[.int .i64 n] W (RowAt xs L W)) := fun W => (HS0.out n W).mono (fun e w' hr => by rw [Hx.out] at hr; exact hr.at_ HL.out (by omega))
    clear HI0 HS0
    go_wp2_with fail
    refine (HI.out w1).mono ?_
    rintro e w2 ⟨A2, c2, rfl, G2, hq⟩
    have B2 := Lib.hid (B1.out.trans (hq.out.mono B1.out.size))
    clear hq
    go_wp2_with fail
    refine (HS.out w2).mono ?_
    rintro e w3 ⟨A3, c3, rfl, S3, hq⟩
    have G3 := Lib.hid (G2.out.later hq.out)
    have B3 := Lib.hid (B2.out.trans (hq.out.mono B2.out.size))
    clear hq
    go_wp2_with fail
    refine (calls_drawn (eqLi_same A2 A3 c2 c3 L L xs w3 _ _ G3.out.rd G3.out.len S3.out.rd S3.out.len (by omega))).mono ?_
    rintro e w4 ⟨rfl, hq⟩
    have G4 := Lib.hid (G3.out.later hq)
    have S4 := Lib.hid (S3.out.later hq)
    have B4 := Lib.hid (B3.out.trans (hq.mono B3.out.size))
    clear hq
    by_cases h0 : L = 0
    · subst h0
      clear Hf
      go_wp2_with fail
      refine (HS.out w4).mono ?_
      rintro e w5 ⟨A4, c4, rfl, S5, hq⟩
      have G5 := Lib.hid (G4.out.later hq.out)
      have B5 := Lib.hid (B4.out.trans (hq.out.mono B4.out.size))
      clear hq
      go_wp2_with fail
      refine (calls_drawn (eqLi_same A2 A4 c2 c4 0 0 xs w5 _ _ G5.out.rd G5.out.len S5.out.rd S5.out.len (by omega))).mono ?_
      rintro e w6 ⟨rfl, hq⟩
      have G6 := Lib.hid (G5.out.later hq)
      have S6 := Lib.hid (S5.out.later hq)
      have B6 := Lib.hid (B5.out.trans (hq.mono B5.out.size))
      clear hq
      go_wp2
      go_ret
      exact ⟨rfl, B6.out⟩
    · obtain ⟨hn1, hn8, hv, hL, hw⟩ := Hf.out h0
      have hl0 : ((L : Int) == 0) = false := by rw [beq_eq_false_iff_ne]; omega
      obtain ⟨M, HM⟩ : ∃ M, Hid (max (2 * (n - 1)) 1 = M) := ⟨_, rfl⟩
      rw [HM.out] at hL hw
      have Hv := Lib.hid hv
      have Hw := Lib.hid hw
      have HLM := Lib.hid hL
      have hwn : IntKind.i64.wrap (n - 1) = n - 1 := IntWalk.i64_in _ (by omega)
      have hwm : IntKind.i64.wrap (2 * (n - 1)) = 2 * (n - 1) := IntWalk.i64_in _ (by omega)
      clear hv hL hw Hf h0
      go_wp2_with fail
      refine (HV.out n _ _ _ xs w4 G4.out).mono ?_
      rintro e w5 ⟨rfl, hq⟩
      rw [Hv.out]
      have G5 := Lib.hid (G4.out.later hq)
      have B5 := Lib.hid (B4.out.trans (hq.mono B4.out.size))
      clear hq
      go_wp2_with fail
      refine (HW.out n _ _ _ xs w5 G5.out).mono ?_
      rintro e w6 ⟨rfl, hq⟩
      rw [Hw.out]
      have G6 := Lib.hid (G5.out.later hq)
      have B6 := Lib.hid (B5.out.trans (hq.mono B5.out.size))
      clear hq
      by_cases h1 : 2 * (n - 1) < 1
      · have hM1 : M = 1 := by have := HM.out; omega
        have hLM1 : (L : Int) = 1 := by have := HLM.out; omega
        obtain rfl : L = 1 := by omega
        subst hM1
        go_wp2
        all_goals
          go_ret
          exact ⟨ret_bool (by first | rfl | (simp; omega) | omega), B6.out⟩
      · have hM1 : M = 2 * (n - 1) := by have := HM.out; omega
        have hLM1 : (L : Int) = 2 * (n - 1) := by have := HLM.out; omega
        have hLb : ((L : Int) == 2 * (n - 1)) = true := by rw [beq_iff_eq]; exact hLM1
        subst hM1
        clear hLM1
        go_wp2
        all_goals
          go_ret
          exact ⟨ret_bool (by first | rfl | (simp; omega) | omega), B6.out⟩

set_option maxHeartbeats 1600000 in
theorem lawSweepsShared_walk (A : Option Addr) (c : Nat) (bs : List Int) (w : World) (hr : RdB w w.heap.size A bs) (hcap : bs.length ≤ c) (hm : c ≤ maxLen) :
    Calls Try.prog 9 #[.slice A bs.length c] w fun e w' => e = .returned (.bool true) ∧ Below w.heap.size w w' := by
  unfold maxLen at hm
  by_cases hb : 1048576 < bs.length
  · go_enter Try.func9, Try.ntmps9
    go_wp2
    go_ret
    exact ⟨rfl, Below.refl _ _⟩
  · have HD := Lib.hid (drawSweepRound_any A c bs.length bs w hr rfl hcap hm)
    have HI0 := Lib.hid iSweepRound_ok
    have HS0 := Lib.hid sSweepRound_ok
    have HT := Lib.hid iTwoGap_ok
    have HW := Lib.hid iWorstGap_ok
    go_enter Try.func9, Try.ntmps9
    go_wp2_with fail
    refine HD.out.mono ?_
    rintro e w1 ⟨n, rfl, hn0, hn9, B1⟩
    clear HD hr hb hcap hm
    have hbe : ∀ x : Int, (x == x) = true := fun x => by simp
    have hbn : ∀ x : Int, (x != x) = false := fun x => by simp
    have hbb : ∀ x : Bool, (x == x) = true := fun x => by simp
    have hbx : ∀ x : Bool, (x != x) = false := fun x => by simp
    have hL16 := srY_len n
    obtain ⟨L, HL⟩ : ∃ L, Hid ((srY n).length = L) := ⟨_, rfl⟩
    rw [HL.out] at hL16
    obtain ⟨x, Hw⟩ : ∃ x, Hid (wgY n (srY n) = x) := ⟨_, rfl⟩
    obtain ⟨h, Hh⟩ : ∃ h, Hid (L / 2 = h) := ⟨_, rfl⟩
    obtain ⟨t, Ht⟩ : ∃ t, Hid (tgY n (srY n) (h : Nat) = t) := ⟨_, rfl⟩
    have Hf : Hid (2 ≤ L → t ≤ x ∧ x ≤ 2 * t ∧ x ≤ 14 ∧ L ≤ 14) := fun h2 => by
      have hf := ss_facts HL.out h2
      rw [Hh.out, Ht.out, Hw.out] at hf
      exact hf
    have hq : (L : Int).tdiv 2 = (h : Int) := by rw [← Hh.out]; exact (Int.ofNat_tdiv L 2).symm
    obtain ⟨xs, Hx⟩ : ∃ xs, Hid (srY n = xs) := ⟨_, rfl⟩
    rw [Hx.out] at Ht Hw HL
    have HI : Hid (∀ W, Calls Try.prog 35 #[.int .i64 n] W (RowAt xs L W)) := fun W => (HI0.out n W).mono (fun e w' hr => by rw [Hx.out] at hr; exact hr.at_ HL.out (by omega))
    have HS : Hid (∀ W, Calls Try.prog 36 #[.int .i64 n] W (RowAt xs L W)) := fun W => (HS0.out n W).mono (fun e w' hr => by rw [Hx.out] at hr; exact hr.at_ HL.out (by omega))
    clear HI0 HS0
    go_wp2_with fail
    refine (HI.out w1).mono ?_
    rintro e w2 ⟨A2, c2, rfl, G2, hq⟩
    have B2 := Lib.hid (B1.out.trans (hq.out.mono B1.out.size))
    clear hq
    go_wp2_with fail
    refine (HS.out w2).mono ?_
    rintro e w3 ⟨A3, c3, rfl, S3, hq⟩
    have G3 := Lib.hid (G2.out.later hq.out)
    have B3 := Lib.hid (B2.out.trans (hq.out.mono B2.out.size))
    clear hq
    go_wp2_with fail
    refine (calls_drawn (eqLi_same A2 A3 c2 c3 L L xs w3 _ _ G3.out.rd G3.out.len S3.out.rd S3.out.len (by omega))).mono ?_
    rintro e w4 ⟨rfl, hq⟩
    have G4 := Lib.hid (G3.out.later hq)
    have S4 := Lib.hid (S3.out.later hq)
    have B4 := Lib.hid (B3.out.trans (hq.mono B3.out.size))
    clear hq
    go_wp2_with fail
    refine (HI.out w4).mono ?_
    rintro e w5 ⟨A4, c4, rfl, G5, hq⟩
    have B5 := Lib.hid (B4.out.trans (hq.out.mono B4.out.size))
    clear hq
    by_cases h2 : L < 2
    · clear Hf
      go_wp2
      go_ret
      exact ⟨rfl, B5.out⟩
    · obtain ⟨h3, h4, h5, h6⟩ := Hf.out (by omega)
      have hh7 : h ≤ 7 := by rw [← Hh.out]; omega
      have hwh : IntKind.i64.wrap (h : Int) = (h : Int) := IntWalk.i64_in _ (by omega)
      have hw2 : IntKind.i64.wrap (2 * t) = 2 * t := IntWalk.i64_in _ (by omega)
      clear Hf
      go_wp2_with fail
      refine (HW.out n _ _ _ xs w5 G5.out).mono ?_
      rintro e w6 ⟨rfl, hq⟩
      rw [Hw.out]
      have G6 := Lib.hid (G5.out.later hq)
      have B6 := Lib.hid (B5.out.trans (hq.mono B5.out.size))
      clear hq
      go_wp2_with fail
      refine (HT.out n _ _ _ xs (h : Int) w6 G6.out).mono ?_
      rintro e w7 ⟨rfl, hq⟩
      rw [Ht.out]
      have G7 := Lib.hid (G6.out.later hq)
      have B7 := Lib.hid (B6.out.trans (hq.mono B6.out.size))
      clear hq
      go_wp2_with fail
      refine (HT.out n _ _ _ xs (h : Int) w7 G7.out).mono ?_
      rintro e w8 ⟨rfl, hq⟩
      rw [Ht.out]
      have G8 := Lib.hid (G7.out.later hq)
      have B8 := Lib.hid (B7.out.trans (hq.mono B7.out.size))
      clear hq
      go_wp2
      go_ret
      exact ⟨rfl, B8.out⟩
end Go.Proofs.Ytdkonaaoanggiaa
