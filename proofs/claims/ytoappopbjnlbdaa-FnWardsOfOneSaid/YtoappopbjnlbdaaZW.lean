/-
  The laws FnValidWards, FnFewestWards, FnLeastGreatest, FnGreatestByParts and FnGreatestLeast of chapter 8, walked.
  Conditions: none.
-/
import Derived.Test.YtoappopbjnlbdaaZV
namespace Go.Proofs.Ytoappopbjnlbdaa
open Go.ChangeShapes Go.WideShapes Go.ChangeAt Go.RowKit
set_option linter.unusedVariables false
set_option maxRecDepth 4000

theorem fwA_rev (zs : List Int) (m : Int) : fwA zs.reverse m = fwA zs m := by
  by_cases h : vw zs = true ∧ 0 ≤ m ∧ m ≤ 1000
  · have hw := vw_iff.1 h.1
    rw [fwA_yes hw h.2.1 h.2.2, fwA_yes hw.rev h.2.1 h.2.2, fwV_rev hw.ge0 hw.ne]
  · rw [fwA_no h, fwA_no (by rw [vw_rev]; exact h)]
theorem fwA_in {zs : List Int} {m : Int} (h : ¬ fwA zs m < 0) : Wd zs ∧ 0 ≤ m ∧ m ≤ 1000 ∧ cbc zs m = true ∧ fwA zs m = ((ctT m zs zs.length).length : Int) + 1 := by
  by_cases hc : vw zs = true ∧ 0 ≤ m ∧ m ≤ 1000
  · have hw := vw_iff.1 hc.1
    by_cases hb : cbc zs m = true
    · exact ⟨hw, hc.2.1, hc.2.2, hb, by unfold fwA; rw [if_pos hb]⟩
    · have : fwA zs m = -1 := by unfold fwA; rw [if_neg hb]
      rw [this] at h; omega
  · rw [fwA_no hc] at h; omega
theorem fwA_more {zs : List Int} {m : Int} (h : ¬ fwA zs m < 0) : fwA zs (m + 1) < 0 ∨ fwA zs (m + 1) ≤ fwA zs m := by
  obtain ⟨hw, h0, h1, -, -⟩ := fwA_in h
  by_cases h2 : m + 1 ≤ 1000
  · right
    rw [fwA_yes hw h0 h1] at h ⊢
    rw [fwA_yes hw (by omega) h2]
    exact fwV_mono hw.ge0 hw.ne (by omega)
  · left
    rw [fwA_no (by omega)]; omega
theorem vk_rev (zs : List Int) (k : Int) : vk zs.reverse k = vk zs k := by unfold vk; rw [vw_rev]
theorem lgA_in {zs : List Int} {k : Int} (h : ¬ lgA zs k < 0) : vk zs k = true := by
  by_cases hv : vk zs k = true
  · exact hv
  · have : lgA zs k = -1 := by unfold lgA; rw [if_neg hv]
    rw [this] at h; omega
theorem glA_in {zs : List Int} {k : Int} (h : ¬ glA zs k < 0) : vk zs k = true ∧ k ≤ zs.length := by
  by_cases hv : vk zs k = true ∧ k ≤ zs.length
  · exact hv
  · have : glA zs k = -1 := by unfold glA; rw [if_neg hv]
    rw [this] at h; omega
theorem lgA_rev (zs : List Int) (k : Int) : lgA zs.reverse k = lgA zs k := by
  by_cases hv : vk zs k = true
  · exact (lg_least (by rw [vk_rev]; exact hv)).eq (isLeast_rev (lg_least hv))
  · unfold lgA; rw [if_neg hv, if_neg (by rw [vk_rev]; exact hv)]
theorem glA_rev (zs : List Int) (k : Int) : glA zs.reverse k = glA zs k := by
  by_cases hv : vk zs k = true ∧ k ≤ zs.length
  · exact (gl_most (by rw [vk_rev]; exact hv.1) (by rw [List.length_reverse]; exact hv.2)).eq (isMost_rev (gl_most hv.1 hv.2))
  · unfold glA; rw [if_neg hv, if_neg (by rw [vk_rev, List.length_reverse]; exact hv)]
theorem mul_bd {v k : Int} (h0 : 0 ≤ v) (h1 : v ≤ 200) (h2 : 1 ≤ k) (h3 : k ≤ 4) : 0 ≤ v * k ∧ v * k ≤ 800 := by
  refine ⟨Int.mul_nonneg h0 (by omega), ?_⟩
  have h4 : v * k ≤ 200 * k := Int.mul_le_mul_of_nonneg_right h1 (by omega)
  omega
theorem lg_facts {zs : List Int} {k : Int} (h : ¬ lgA zs k < 0) : Wd zs ∧ 1 ≤ k ∧ k ≤ 4 ∧ 0 ≤ lgA zs k ∧ lgA zs k ≤ 200 ∧ gM zs ≤ lgA zs k ∧ sm zs ≤ lgA zs k * k ∧ fwA zs (lgA zs k) ≤ k ∧
    (lgA zs k = 0 ∨ fwA zs (lgA zs k - 1) < 0 ∨ k < fwA zs (lgA zs k - 1)) := by
  have hv := lgA_in h
  obtain ⟨hw, h1, h4⟩ := vk_iff.1 hv
  have hL := lg_least hv
  obtain ⟨hb1, hb2⟩ := least_bd hw (by omega) hL
  have h0 := leK_pos hw.ge0 hw.ne hL.1
  have ht := leK_total hw.ge0 hw.ne hL.1
  rw [show ((k.toNat : Nat) : Int) = k by omega, Int.mul_comm] at ht
  have hf := (fw_leK hw.ge0 hw.ne).1 hL.1
  rw [show ((k.toNat : Nat) : Int) = k by omega] at hf
  refine ⟨hw, h1, h4, h0, hb2, hb1, ht, by rw [fwA_yes hw h0 (by omega)]; exact hf.2, ?_⟩
  by_cases hz : lgA zs k = 0
  · exact .inl hz
  · right
    have hn : ¬ LeK zs k.toNat (lgA zs k - 1) := fun hh => by have := hL.2 _ hh; omega
    rw [fw_leK hw.ge0 hw.ne, show ((k.toNat : Nat) : Int) = k by omega] at hn
    rw [fwA_yes hw (by omega) (by omega)]
    omega
theorem gl_facts {zs : List Int} {k : Int} (h : ¬ glA zs k < 0) : Wd zs ∧ 1 ≤ k ∧ k ≤ 4 ∧ 0 ≤ glA zs k ∧ glA zs k ≤ 200 ∧ glA zs k * k ≤ sm zs ∧ glA zs k ≤ lgA zs k := by
  obtain ⟨hv, hkn⟩ := glA_in h
  obtain ⟨hw, h1, h4⟩ := vk_iff.1 hv
  have hM := gl_most hv hkn
  have hL := lg_least hv
  have ht := geK_total hM.1
  rw [show ((k.toNat : Nat) : Int) = k by omega, Int.mul_comm] at ht
  have hle := geK_le_leK hw.ge0 hw.ne (by omega) hM.1 hL.1
  have hb := least_bd hw (by omega) hL
  exact ⟨hw, h1, h4, by omega, by omega, ht, hle⟩

set_option maxHeartbeats 1600000 in
theorem lawValidWards_walk (A : Option Addr) (c : Nat) (bs : List Int) (w : World) (hr : RdB w w.heap.size A bs) (hcap : bs.length ≤ c) (hm : c ≤ maxLen) :
    Calls Try.prog 3 #[.slice A bs.length c] w fun e w' => e = .returned (.bool true) ∧ Below w.heap.size w w' := by
  unfold maxLen at hm
  by_cases hb : 1048576 < bs.length
  · go_enter Try.func3, Try.ntmps3
    go_wp2
    go_ret
    exact ⟨rfl, Below.refl _ _⟩
  · have HD := Lib.hid (drawValidWards_any A c bs.length bs w hr rfl hcap hm)
    have HI := Lib.hid iValidWards_ok
    have HS := Lib.hid sValidWards_ok
    go_enter Try.func3, Try.ntmps3
    go_wp2_with fail
    refine HD.out.mono ?_
    rintro e w1 ⟨A1, c1, m, zs, rfl, hm10, N1, B1⟩
    clear HD hr hb hcap hm
    have hbe : ∀ x : Int, (x == x) = true := fun x => by simp
    have hbn : ∀ x : Int, (x != x) = false := fun x => by simp
    have hbb : ∀ x : Bool, (x == x) = true := fun x => by simp
    have hbx : ∀ x : Bool, (x != x) = false := fun x => by simp
    obtain ⟨v, Hv⟩ : ∃ v, Hid (vw zs = v) := ⟨_, rfl⟩
    go_wp2_with fail
    refine (HI.out _ _ _ zs w1 N1.out).mono ?_
    rintro e w2 ⟨rfl, hq⟩
    rw [Hv.out]
    have N2 := Lib.hid (N1.out.later hq)
    have B2 := Lib.hid (B1.out.trans (hq.mono B1.out.size))
    clear hq
    go_wp2_with fail
    refine (HS.out _ _ _ zs w2 N2.out).mono ?_
    rintro e w3 ⟨rfl, hq⟩
    rw [Hv.out]
    have N3 := Lib.hid (N2.out.later hq)
    have B3 := Lib.hid (B2.out.trans (hq.mono B2.out.size))
    clear hq
    cases v with
    | false =>
      go_wp2_with fail
      refine (HS.out _ _ _ zs w3 N3.out).mono ?_
      rintro e w4 ⟨rfl, hq⟩
      rw [Hv.out]
      have N4 := Lib.hid (N3.out.later hq)
      have B4 := Lib.hid (B3.out.trans (hq.mono B3.out.size))
      clear hq
      go_wp2
      go_ret
      exact ⟨rfl, B4.out⟩
    | true =>
      have Hr : Hid (vw zs.reverse = true) := by show _ = _; rw [vw_rev]; exact Hv.out
      go_wp2_with fail
      refine (backwards_any A1 c1 m zs w3 N3.out (by omega)).mono ?_
      rintro e w4 ⟨A2, c2, rfl, R4, hq⟩
      have N4 := Lib.hid (N3.out.later hq.out)
      have B4 := Lib.hid (B3.out.trans (hq.out.mono B3.out.size))
      clear hq
      go_wp2_with fail
      refine (HI.out _ _ _ zs.reverse w4 R4.out).mono ?_
      rintro e w5 ⟨rfl, hq⟩
      rw [Hr.out]
      have N5 := Lib.hid (N4.out.later hq)
      have R5 := Lib.hid (R4.out.later hq)
      have B5 := Lib.hid (B4.out.trans (hq.mono B4.out.size))
      clear hq
      go_wp2
      go_ret
      exact ⟨rfl, B5.out⟩

set_option maxHeartbeats 1600000 in
theorem lawFewestWards_walk (A : Option Addr) (c : Nat) (bs : List Int) (w : World) (hr : RdB w w.heap.size A bs) (hcap : bs.length ≤ c) (hm : c ≤ maxLen) :
    Calls Try.prog 4 #[.slice A bs.length c] w fun e w' => e = .returned (.bool true) ∧ Below w.heap.size w w' := by
  unfold maxLen at hm
  by_cases hb : 1048576 < bs.length
  · go_enter Try.func4, Try.ntmps4
    go_wp2
    go_ret
    exact ⟨rfl, Below.refl _ _⟩
  · have HD := Lib.hid (drawFewestWards_any A c bs.length bs w hr rfl hcap hm)
    have HI := Lib.hid iFewestWards_ok
    have HS := Lib.hid sFewestWards_ok
    have HC := Lib.hid iFirstCuts_ok
    go_enter Try.func4, Try.ntmps4
    go_wp2_with fail
    refine HD.out.mono ?_
    rintro e w1 ⟨A1, c1, m, zs, k, rfl, hm10, hk0, hk1, N1, B1⟩
    clear HD hr hb hcap hm
    have hbe : ∀ x : Int, (x == x) = true := fun x => by simp
    have hbn : ∀ x : Int, (x != x) = false := fun x => by simp
    have hbb : ∀ x : Bool, (x == x) = true := fun x => by simp
    have hbx : ∀ x : Bool, (x != x) = false := fun x => by simp
    obtain ⟨v, Hv⟩ : ∃ v, Hid (fwA zs k = v) := ⟨_, rfl⟩
    go_wp2_with fail
    refine (HI.out _ _ _ zs k w1 N1.out).mono ?_
    rintro e w2 ⟨rfl, hq⟩
    rw [Hv.out]
    have N2 := Lib.hid (N1.out.later hq)
    have B2 := Lib.hid (B1.out.trans (hq.mono B1.out.size))
    clear hq
    go_wp2_with fail
    refine (HS.out _ _ _ zs k w2 N2.out).mono ?_
    rintro e w3 ⟨rfl, hq⟩
    rw [Hv.out]
    have N3 := Lib.hid (N2.out.later hq)
    have B3 := Lib.hid (B2.out.trans (hq.mono B2.out.size))
    clear hq
    by_cases hneg : v < 0
    · skip
      go_wp2_with fail
      refine (HS.out _ _ _ zs k w3 N3.out).mono ?_
      rintro e w4 ⟨rfl, hq⟩
      rw [Hv.out]
      have N4 := Lib.hid (N3.out.later hq)
      have B4 := Lib.hid (B3.out.trans (hq.mono B3.out.size))
      clear hq
      go_wp2
      go_ret
      exact ⟨rfl, B4.out⟩
    · skip
      have hn : ¬ fwA zs k < 0 := by rw [Hv.out]; exact hneg
      obtain ⟨hw, hq0, hq1, hc, hct⟩ := fwA_in hn
      have hmore := fwA_more hn
      have hrv : Hid (fwA zs.reverse k = v) := (fwA_rev zs k).trans Hv.out
      rw [Hv.out] at hct hmore
      obtain ⟨g, Hg⟩ : ∃ g, Hid (fwA zs (k + 1) = g) := ⟨_, rfl⟩
      rw [Hg.out] at hmore
      have hcl := cutRow_len zs k
      obtain ⟨xs, Hx⟩ : ∃ xs, Hid (cutRow zs k = xs) := ⟨_, rfl⟩
      have hxl : cutRow zs k = ctT k zs zs.length := by unfold cutRow; rw [if_pos hc]
      rw [← hxl] at hct
      rw [Hx.out] at hct hcl
      obtain ⟨L, HL⟩ : ∃ L, Hid (xs.length = L) := ⟨_, rfl⟩
      rw [HL.out] at hct hcl
      have Hc := Lib.hid hc
      have hwk : IntKind.i64.wrap (k + 1) = k + 1 := IntWalk.i64_in _ (by omega)
      have hwl : IntKind.i64.wrap ((L : Int) + 1) = (L : Int) + 1 := IntWalk.i64_in _ (by omega)
      have Hct := Lib.hid hct
      have HC2 : Hid (∀ A c W, LIn W A c m zs → Calls Try.prog 23 #[.slice A m c, .int .i64 k] W fun e w' => ∃ A' c', e = .returned (.tuple #[.slice A' L c', .bool true]) ∧ Hid (Below W.heap.size W w')) := fun A c W h =>
        (HC.out A c m zs k W h).mono fun e w' hh => by obtain ⟨A', c', h1, h2, h3⟩ := cutsAre_row Hx.out HL.out Hc.out hh; exact ⟨A', c', h1, h3⟩
      clear hn hw hc hct hxl hcl
      go_wp2_with fail
      refine (HC2.out _ _ w3 N3.out).mono ?_
      rintro e w4 ⟨A2, c2, rfl, hq⟩
      have N4 := Lib.hid (N3.out.later hq.out)
      have B4 := Lib.hid (B3.out.trans (hq.out.mono B3.out.size))
      clear hq
      go_wp2_with fail
      refine (HI.out _ _ _ zs (k + 1) w4 N4.out).mono ?_
      rintro e w5 ⟨rfl, hq⟩
      rw [Hg.out]
      have N5 := Lib.hid (N4.out.later hq)
      have B5 := Lib.hid (B4.out.trans (hq.mono B4.out.size))
      clear hq
      have hvl : v = (L : Int) + 1 := Hct.out
      subst hvl
      go_wp2_with fail
      refine (backwards_any A1 c1 m zs w5 N5.out (by omega)).mono ?_
      rintro e w6 ⟨A3, c3, rfl, R6, hq⟩
      have N6 := Lib.hid (N5.out.later hq.out)
      have B6 := Lib.hid (B5.out.trans (hq.out.mono B5.out.size))
      clear hq
      go_wp2_with fail
      refine (HI.out _ _ _ zs.reverse k w6 R6.out).mono ?_
      rintro e w7 ⟨rfl, hq⟩
      rw [hrv.out]
      have N7 := Lib.hid (N6.out.later hq)
      have R7 := Lib.hid (R6.out.later hq)
      have B7 := Lib.hid (B6.out.trans (hq.mono B6.out.size))
      clear hq
      by_cases hg0 : g < 0
      · skip
        go_wp2
        go_ret
        exact ⟨rfl, B7.out⟩
      · have hg1 : g ≤ (L : Int) + 1 := by omega
        go_wp2
        go_ret
        exact ⟨rfl, B7.out⟩

set_option maxHeartbeats 1600000 in
theorem lawLeastGreatest_walk (A : Option Addr) (c : Nat) (bs : List Int) (w : World) (hr : RdB w w.heap.size A bs) (hcap : bs.length ≤ c) (hm : c ≤ maxLen) :
    Calls Try.prog 5 #[.slice A bs.length c] w fun e w' => e = .returned (.bool true) ∧ Below w.heap.size w w' := by
  unfold maxLen at hm
  by_cases hb : 1048576 < bs.length
  · go_enter Try.func5, Try.ntmps5
    go_wp2
    go_ret
    exact ⟨rfl, Below.refl _ _⟩
  · have HD := Lib.hid (drawLeastGreatest_any A c bs.length bs w hr rfl hcap hm)
    have HI := Lib.hid iLeastGreatest_ok
    have HS := Lib.hid sLeastGreatest_ok
    have HF := Lib.hid iFewestWards_ok
    have HG := Lib.hid iGreatestByParts_ok
    go_enter Try.func5, Try.ntmps5
    go_wp2_with fail
    refine HD.out.mono ?_
    rintro e w1 ⟨A1, c1, m, zs, k, rfl, hm10, hk0, hk1, N1, B1⟩
    clear HD hr hb hcap hm
    have hbe : ∀ x : Int, (x == x) = true := fun x => by simp
    have hbn : ∀ x : Int, (x != x) = false := fun x => by simp
    have hbb : ∀ x : Bool, (x == x) = true := fun x => by simp
    have hbx : ∀ x : Bool, (x != x) = false := fun x => by simp
    obtain ⟨v, Hv⟩ : ∃ v, Hid (lgA zs k = v) := ⟨_, rfl⟩
    go_wp2_with fail
    refine (HI.out _ _ _ zs k w1 N1.out).mono ?_
    rintro e w2 ⟨rfl, hq⟩
    rw [Hv.out]
    have N2 := Lib.hid (N1.out.later hq)
    have B2 := Lib.hid (B1.out.trans (hq.mono B1.out.size))
    clear hq
    go_wp2_with fail
    refine (HS.out _ _ _ zs k w2 N2.out).mono ?_
    rintro e w3 ⟨rfl, hq⟩
    rw [Hv.out]
    have N3 := Lib.hid (N2.out.later hq)
    have B3 := Lib.hid (B2.out.trans (hq.mono B2.out.size))
    clear hq
    by_cases hneg : v < 0
    · skip
      go_wp2_with fail
      refine (HS.out _ _ _ zs k w3 N3.out).mono ?_
      rintro e w4 ⟨rfl, hq⟩
      rw [Hv.out]
      have N4 := Lib.hid (N3.out.later hq)
      have B4 := Lib.hid (B3.out.trans (hq.mono B3.out.size))
      clear hq
      go_wp2
      go_ret
      exact ⟨rfl, B4.out⟩
    · skip
      have hn : ¬ lgA zs k < 0 := by rw [Hv.out]; exact hneg
      obtain ⟨hw, hk1', hk4, hv0, hv200, hgm, hsm, hfk, hor⟩ := lg_facts hn
      rw [Hv.out] at hv0 hv200 hgm hsm hfk hor
      obtain ⟨g, Hg⟩ : ∃ g, Hid (fwA zs (v - 1) = g) := ⟨_, rfl⟩
      obtain ⟨f, Hf⟩ : ∃ f, Hid (fwA zs v = f) := ⟨_, rfl⟩
      obtain ⟨x, Hx⟩ : ∃ x, Hid (gM zs = x) := ⟨_, rfl⟩
      obtain ⟨t, Ht⟩ : ∃ t, Hid (sm zs = t) := ⟨_, rfl⟩
      obtain ⟨y, Hy⟩ : ∃ y, Hid (v * k = y) := ⟨_, rfl⟩
      have hyb := mul_bd hv0 hv200 hk1' hk4
      rw [Hg.out] at hor
      rw [Hf.out] at hfk
      rw [Hx.out] at hgm
      rw [Ht.out, Hy.out] at hsm
      rw [Hy.out] at hyb
      have HP := Lib.hid (show P20 zs from fun x hx => hw.ok x hx)
      have hwy : IntKind.i64.wrap (v * k) = y := by rw [Hy.out]; exact IntWalk.i64_in _ (by omega)
      have hwk : IntKind.i64.wrap (v - 1) = v - 1 := IntWalk.i64_in _ (by omega)
      have hm20 : m ≤ 1048576 := by omega
      clear hn hw
      go_wp2_with fail
      refine (HF.out _ _ _ zs (v - 1) w3 N3.out).mono ?_
      rintro e w4 ⟨rfl, hq⟩
      rw [Hg.out]
      have N4 := Lib.hid (N3.out.later hq)
      have B4 := Lib.hid (B3.out.trans (hq.mono B3.out.size))
      clear hq
      go_wp2_with fail
      refine (HG.out _ _ _ zs k w4 N4.out).mono ?_
      rintro e w5 ⟨rfl, hq⟩
      rw [Hv.out]
      have N5 := Lib.hid (N4.out.later hq)
      have B5 := Lib.hid (B4.out.trans (hq.mono B4.out.size))
      clear hq
      go_wp2_with fail
      refine (greatestOf_any A1 c1 m zs w5 _ N5.out.rd N5.out.len hm20).mono ?_
      rintro e w9 ⟨rfl, rfl⟩
      rw [Hx.out]
      go_wp2_with fail
      refine (lTotal_any A1 c1 m zs w5 _ N5.out.rd N5.out.len hm10 HP.out).mono ?_
      rintro e w9 ⟨rfl, rfl⟩
      rw [Ht.out]
      go_wp2_with fail
      refine (HF.out _ _ _ zs v w5 N5.out).mono ?_
      rintro e w6 ⟨rfl, hq⟩
      rw [Hf.out]
      have N6 := Lib.hid (N5.out.later hq)
      have B6 := Lib.hid (B5.out.trans (hq.mono B5.out.size))
      clear hq
      by_cases hv1 : v = 0
      · have hvb : (v == 0) = true := by rw [beq_iff_eq]; exact hv1
        clear hv1 hor
        go_wp2
        go_ret
        exact ⟨rfl, B6.out⟩
      · have hvb : (v == 0) = false := by rw [beq_eq_false_iff_ne]; exact hv1
        by_cases hg0 : g < 0
        · clear hor hv1
          go_wp2
          go_ret
          exact ⟨rfl, B6.out⟩
        · have hg1 : k < g := by omega
          clear hor hv1
          go_wp2
          go_ret
          exact ⟨rfl, B6.out⟩

set_option maxHeartbeats 1600000 in
theorem lawGreatestByParts_walk (A : Option Addr) (c : Nat) (bs : List Int) (w : World) (hr : RdB w w.heap.size A bs) (hcap : bs.length ≤ c) (hm : c ≤ maxLen) :
    Calls Try.prog 6 #[.slice A bs.length c] w fun e w' => e = .returned (.bool true) ∧ Below w.heap.size w w' := by
  unfold maxLen at hm
  by_cases hb : 1048576 < bs.length
  · go_enter Try.func6, Try.ntmps6
    go_wp2
    go_ret
    exact ⟨rfl, Below.refl _ _⟩
  · have HD := Lib.hid (drawGreatestByParts_any A c bs.length bs w hr rfl hcap hm)
    have HI := Lib.hid iGreatestByParts_ok
    have HS := Lib.hid sGreatestByParts_ok
    have HL := Lib.hid iLeastGreatest_ok
    go_enter Try.func6, Try.ntmps6
    go_wp2_with fail
    refine HD.out.mono ?_
    rintro e w1 ⟨A1, c1, m, zs, k, rfl, hm10, hk0, hk1, N1, B1⟩
    clear HD hr hb hcap hm
    have hbe : ∀ x : Int, (x == x) = true := fun x => by simp
    have hbn : ∀ x : Int, (x != x) = false := fun x => by simp
    have hbb : ∀ x : Bool, (x == x) = true := fun x => by simp
    have hbx : ∀ x : Bool, (x != x) = false := fun x => by simp
    obtain ⟨v, Hv⟩ : ∃ v, Hid (lgA zs k = v) := ⟨_, rfl⟩
    go_wp2_with fail
    refine (HI.out _ _ _ zs k w1 N1.out).mono ?_
    rintro e w2 ⟨rfl, hq⟩
    rw [Hv.out]
    have N2 := Lib.hid (N1.out.later hq)
    have B2 := Lib.hid (B1.out.trans (hq.mono B1.out.size))
    clear hq
    go_wp2_with fail
    refine (HS.out _ _ _ zs k w2 N2.out).mono ?_
    rintro e w3 ⟨rfl, hq⟩
    rw [Hv.out]
    have N3 := Lib.hid (N2.out.later hq)
    have B3 := Lib.hid (B2.out.trans (hq.mono B2.out.size))
    clear hq
    by_cases hneg : v < 0
    · skip
      go_wp2_with fail
      refine (HS.out _ _ _ zs k w3 N3.out).mono ?_
      rintro e w4 ⟨rfl, hq⟩
      rw [Hv.out]
      have N4 := Lib.hid (N3.out.later hq)
      have B4 := Lib.hid (B3.out.trans (hq.mono B3.out.size))
      clear hq
      go_wp2
      go_ret
      exact ⟨rfl, B4.out⟩
    · skip
      have hrv : Hid (lgA zs.reverse k = v) := (lgA_rev zs k).trans Hv.out
      go_wp2_with fail
      refine (HL.out _ _ _ zs k w3 N3.out).mono ?_
      rintro e w4 ⟨rfl, hq⟩
      rw [Hv.out]
      have N4 := Lib.hid (N3.out.later hq)
      have B4 := Lib.hid (B3.out.trans (hq.mono B3.out.size))
      clear hq
      go_wp2_with fail
      refine (backwards_any A1 c1 m zs w4 N4.out (by omega)).mono ?_
      rintro e w5 ⟨A3, c3, rfl, R5, hq⟩
      have N5 := Lib.hid (N4.out.later hq.out)
      have B5 := Lib.hid (B4.out.trans (hq.out.mono B4.out.size))
      clear hq
      go_wp2_with fail
      refine (HI.out _ _ _ zs.reverse k w5 R5.out).mono ?_
      rintro e w6 ⟨rfl, hq⟩
      rw [hrv.out]
      have N6 := Lib.hid (N5.out.later hq)
      have R6 := Lib.hid (R5.out.later hq)
      have B6 := Lib.hid (B5.out.trans (hq.mono B5.out.size))
      clear hq
      go_wp2
      go_ret
      exact ⟨rfl, B6.out⟩

set_option maxHeartbeats 1600000 in
theorem lawGreatestLeast_walk (A : Option Addr) (c : Nat) (bs : List Int) (w : World) (hr : RdB w w.heap.size A bs) (hcap : bs.length ≤ c) (hm : c ≤ maxLen) :
    Calls Try.prog 7 #[.slice A bs.length c] w fun e w' => e = .returned (.bool true) ∧ Below w.heap.size w w' := by
  unfold maxLen at hm
  by_cases hb : 1048576 < bs.length
  · go_enter Try.func7, Try.ntmps7
    go_wp2
    go_ret
    exact ⟨rfl, Below.refl _ _⟩
  · have HD := Lib.hid (drawGreatestLeast_any A c bs.length bs w hr rfl hcap hm)
    have HI := Lib.hid iGreatestLeast_ok
    have HS := Lib.hid sGreatestLeast_ok
    have HL := Lib.hid iLeastGreatest_ok
    go_enter Try.func7, Try.ntmps7
    go_wp2_with fail
    refine HD.out.mono ?_
    rintro e w1 ⟨A1, c1, m, zs, k, rfl, hm10, hk0, hk1, N1, B1⟩
    clear HD hr hb hcap hm
    have hbe : ∀ x : Int, (x == x) = true := fun x => by simp
    have hbn : ∀ x : Int, (x != x) = false := fun x => by simp
    have hbb : ∀ x : Bool, (x == x) = true := fun x => by simp
    have hbx : ∀ x : Bool, (x != x) = false := fun x => by simp
    obtain ⟨v, Hv⟩ : ∃ v, Hid (glA zs k = v) := ⟨_, rfl⟩
    go_wp2_with fail
    refine (HI.out _ _ _ zs k w1 N1.out).mono ?_
    rintro e w2 ⟨rfl, hq⟩
    rw [Hv.out]
    have N2 := Lib.hid (N1.out.later hq)
    have B2 := Lib.hid (B1.out.trans (hq.mono B1.out.size))
    clear hq
    go_wp2_with fail
    refine (HS.out _ _ _ zs k w2 N2.out).mono ?_
    rintro e w3 ⟨rfl, hq⟩
    rw [Hv.out]
    have N3 := Lib.hid (N2.out.later hq)
    have B3 := Lib.hid (B2.out.trans (hq.mono B2.out.size))
    clear hq
    by_cases hneg : v < 0
    · skip
      go_wp2_with fail
      refine (HS.out _ _ _ zs k w3 N3.out).mono ?_
      rintro e w4 ⟨rfl, hq⟩
      rw [Hv.out]
      have N4 := Lib.hid (N3.out.later hq)
      have B4 := Lib.hid (B3.out.trans (hq.mono B3.out.size))
      clear hq
      go_wp2
      go_ret
      exact ⟨rfl, B4.out⟩
    · skip
      have hn : ¬ glA zs k < 0 := by rw [Hv.out]; exact hneg
      obtain ⟨hw, hk1', hk4, hv0, hv200, hsm, hle⟩ := gl_facts hn
      rw [Hv.out] at hv0 hv200 hsm hle
      have hrv : Hid (glA zs.reverse k = v) := (glA_rev zs k).trans Hv.out
      obtain ⟨f, Hf⟩ : ∃ f, Hid (lgA zs k = f) := ⟨_, rfl⟩
      obtain ⟨t, Ht⟩ : ∃ t, Hid (sm zs = t) := ⟨_, rfl⟩
      obtain ⟨y, Hy⟩ : ∃ y, Hid (v * k = y) := ⟨_, rfl⟩
      have hyb := mul_bd hv0 hv200 hk1' hk4
      rw [Hf.out] at hle
      rw [Ht.out, Hy.out] at hsm
      rw [Hy.out] at hyb
      have HP := Lib.hid (show P20 zs from fun x hx => hw.ok x hx)
      have hwy : IntKind.i64.wrap (v * k) = y := by rw [Hy.out]; exact IntWalk.i64_in _ (by omega)
      clear hn hw
      go_wp2_with fail
      refine (lTotal_any A1 c1 m zs w3 _ N3.out.rd N3.out.len hm10 HP.out).mono ?_
      rintro e w9 ⟨rfl, rfl⟩
      rw [Ht.out]
      go_wp2_with fail
      refine (HL.out _ _ _ zs k w3 N3.out).mono ?_
      rintro e w4 ⟨rfl, hq⟩
      rw [Hf.out]
      have N4 := Lib.hid (N3.out.later hq)
      have B4 := Lib.hid (B3.out.trans (hq.mono B3.out.size))
      clear hq
      go_wp2_with fail
      refine (backwards_any A1 c1 m zs w4 N4.out (by omega)).mono ?_
      rintro e w5 ⟨A3, c3, rfl, R5, hq⟩
      have N5 := Lib.hid (N4.out.later hq.out)
      have B5 := Lib.hid (B4.out.trans (hq.out.mono B4.out.size))
      clear hq
      go_wp2_with fail
      refine (HI.out _ _ _ zs.reverse k w5 R5.out).mono ?_
      rintro e w6 ⟨rfl, hq⟩
      rw [hrv.out]
      have N6 := Lib.hid (N5.out.later hq)
      have R6 := Lib.hid (R5.out.later hq)
      have B6 := Lib.hid (B5.out.trans (hq.mono B5.out.size))
      clear hq
      go_wp2
      go_ret
      exact ⟨rfl, B6.out⟩
end Go.Proofs.Ytoappopbjnlbdaa
