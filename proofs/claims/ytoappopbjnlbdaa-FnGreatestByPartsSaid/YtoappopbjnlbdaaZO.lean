/-
  GreatestByParts and GreatestLeast of the program.
  Conditions: fewer than 2^20 numbers.
-/
import Derived.Test.YtoappopbjnlbdaaZN
namespace Go.Proofs.Ytoappopbjnlbdaa
open Go.ChangeShapes Go.WideShapes Go.ChangeAt Go.RowKit Go.Shelf
set_option linter.unusedVariables false
set_option maxRecDepth 4000

def glA (zs : List Int) (k : Int) : Int := if vk zs k = true ∧ k ≤ zs.length then mlV (k.toNat - 1) zs else -1
theorem gl_most {zs : List Int} {k : Int} (h : vk zs k = true) (hk : k ≤ zs.length) : IsMost zs k.toNat (glA zs k) := by
  obtain ⟨hw, h1, h4⟩ := vk_iff.1 h
  unfold glA
  rw [if_pos ⟨h, hk⟩]
  have := mlV_most (k.toNat - 1) zs hw.ge0 (by omega)
  rwa [show k.toNat - 1 + 1 = k.toNat by omega] at this
theorem opt_first {f : List Int → Int} {zs d : List Int} {kk n : Nat} (hw : Wd zs) (h : Opt f zs kk n d) (hk : 1 ≤ kk) : 0 ≤ d.getD 0 0 ∧ d.getD 0 0 ≤ 200 := by
  have := cut_bdZ hw h.1 _ (getD_mem (zs := d) (k := 0) (by rw [h.2.1]; omega))
  exact this

set_option maxHeartbeats 1600000 in
theorem iGreatestByParts_any (A : Option Addr) (c n : Nat) (zs : List Int) (k : Int) (w : World) (h : LIn w A c n zs) :
    Calls Try.prog 27 #[.slice A n c, .int .i64 k] w fun e w' => e = .returned (.int .i64 (lgA zs k)) ∧ Below w.heap.size w w' := by
  have H1 := Lib.hid (iValidWards_any A c n zs w h)
  have H2 := Lib.hid (validHelpers_any k w)
  by_cases hv : vw zs = true
  · by_cases hk : 1 ≤ k ∧ k ≤ 4
    · have hw := vw_iff.1 hv
      have hvk : vk zs k = true := vk_iff.2 ⟨hw, hk⟩
      have hL := lg_least hvk
      obtain ⟨v, Hv⟩ : ∃ v, Hid (lgA zs k = v) := ⟨_, rfl⟩
      rw [Hv.out] at hL ⊢
      obtain ⟨hk1, hk4⟩ := hk
      obtain ⟨kn, rfl⟩ := Int.eq_ofNat_of_zero_le (show 0 ≤ k by omega)
      rw [Int.toNat_natCast] at hL
      have hlen := h.len
      have hn1 := hw.n1
      have hn10 := hw.n10
      rw [hlen] at hn1 hn10
      have HC : ∀ kk : Nat, kk = min kn n → Hid (Calls Try.prog 55 #[.slice A n c, .int .i64 (kk : Int), .func (.func 56) #[] #[]] w (fun e w' => ∃ g c' d, e = .returned (.slice (some ⟨g, 0, none⟩) kk c') ∧ Hid (d.length = kk) ∧ 1 ≤ kk ∧ kk ≤ 10 ∧ Hid (0 ≤ d.getD 0 0) ∧ Hid (gM d = v) ∧ Hid (RowZ w' g d) ∧ Hid (Below w.heap.size w w'))) := fun kk hkk =>
        (bestDistricts_any gM keyOk_M _ better_M A c n kk zs w h hw (by omega) (by omega)).mono fun e w' ⟨g, c', d, h1, h2, h3, h4, h5⟩ =>
          ⟨g, c', d, h1, h2, by omega, by omega, (opt_first hw h3 (by omega)).1, (opt_least hw.ge0 hw.ne (by omega) (by rw [hlen, ← hkk]; exact h3)).eq hL, h4, h5⟩
      rw [hv] at H1
      rw [show (decide (1 ≤ (kn : Int)) && decide ((kn : Int) ≤ 4)) = true by simp [hk1, hk4]] at H2
      clear hw hv hvk hL h hlen
      by_cases hmin : kn ≤ n
      · have HK := HC kn (by omega)
        have hm1 : (kn : Int) ≤ (n : Int) := by omega
        clear HC hmin
        go_enter Try.func27, Try.ntmps27
        go_wp2_with fail
        refine H1.out.mono ?_
        rintro e w' ⟨rfl, rfl⟩
        go_wp2_with fail
        refine H2.out.mono ?_
        rintro e w' ⟨rfl, rfl⟩
        go_wp2_with fail
        refine HK.out.mono ?_
        rintro e w4 ⟨g, c4, d, rfl, Hd, hd1, hd10, H0, Hg, HRow, HB⟩
        have HM := Lib.hid (maxZ_any (some ⟨g, 0, none⟩) c4 kn d w4 _ (HRow.out.rd HRow.out.lt) Hd.out hd1 (by omega) H0.out)
        rw [Hg.out] at HM
        go_wp2_with fail
        refine HM.out.mono ?_
        rintro e w5 ⟨rfl, rfl⟩
        go_wp2
        go_ret
        exact ⟨rfl, HB.out⟩
      · have HK := HC n (by omega)
        have hm1 : (n : Int) < (kn : Int) := by omega
        clear HC hmin
        go_enter Try.func27, Try.ntmps27
        go_wp2_with fail
        refine H1.out.mono ?_
        rintro e w' ⟨rfl, rfl⟩
        go_wp2_with fail
        refine H2.out.mono ?_
        rintro e w' ⟨rfl, rfl⟩
        go_wp2_with fail
        refine HK.out.mono ?_
        rintro e w4 ⟨g, c4, d, rfl, Hd, hd1, hd10, H0, Hg, HRow, HB⟩
        have HM := Lib.hid (maxZ_any (some ⟨g, 0, none⟩) c4 n d w4 _ (HRow.out.rd HRow.out.lt) Hd.out hd1 (by omega) H0.out)
        rw [Hg.out] at HM
        go_wp2_with fail
        refine HM.out.mono ?_
        rintro e w5 ⟨rfl, rfl⟩
        go_wp2
        go_ret
        exact ⟨rfl, HB.out⟩
    · have hvk : ¬ vk zs k = true := fun hh => hk (vk_iff.1 hh).2
      have HV : Hid (lgA zs k = -1) := by show _ = _; unfold lgA; rw [if_neg hvk]
      rw [HV.out]
      rw [hv] at H1
      rw [show (decide (1 ≤ k) && decide (k ≤ 4)) = false by rw [Bool.and_eq_false_iff, decide_eq_false_iff_not, decide_eq_false_iff_not]; omega] at H2
      clear hv hk hvk h
      go_enter Try.func27, Try.ntmps27
      go_wp2_with fail
      refine H1.out.mono ?_
      rintro e w' ⟨rfl, rfl⟩
      go_wp2_with fail
      refine H2.out.mono ?_
      rintro e w' ⟨rfl, rfl⟩
      go_wp2
      go_ret
      exact ⟨rfl, Below.refl _ _⟩
  · have hv' : vw zs = false := by simpa using hv
    have hvk : ¬ vk zs k = true := fun hh => hv (vw_iff.2 (vk_iff.1 hh).1)
    have HV : Hid (lgA zs k = -1) := by show _ = _; unfold lgA; rw [if_neg hvk]
    rw [HV.out]
    rw [hv'] at H1
    clear hv hv' hvk h H2
    go_enter Try.func27, Try.ntmps27
    go_wp2_with fail
    refine H1.out.mono ?_
    rintro e w' ⟨rfl, rfl⟩
    go_wp2
    go_ret
    exact ⟨rfl, Below.refl _ _⟩
set_option maxHeartbeats 1600000 in
theorem iGreatestLeast_any (A : Option Addr) (c n : Nat) (zs : List Int) (k : Int) (w : World) (h : LIn w A c n zs) :
    Calls Try.prog 33 #[.slice A n c, .int .i64 k] w fun e w' => e = .returned (.int .i64 (glA zs k)) ∧ Below w.heap.size w w' := by
  have H1 := Lib.hid (iValidWards_any A c n zs w h)
  have H2 := Lib.hid (validHelpers_any k w)
  by_cases hv : vw zs = true
  · by_cases hk : 1 ≤ k ∧ k ≤ 4
    · have hw := vw_iff.1 hv
      have hvk : vk zs k = true := vk_iff.2 ⟨hw, hk⟩
      obtain ⟨hk1, hk4⟩ := hk
      have hlen := h.len
      obtain ⟨kn, rfl⟩ := Int.eq_ofNat_of_zero_le (show 0 ≤ k by omega)
      rw [hv] at H1
      rw [show (decide (1 ≤ (kn : Int)) && decide ((kn : Int) ≤ 4)) = true by simp [hk1, hk4]] at H2
      by_cases hmin : kn ≤ n
      · have hL := gl_most hvk (by omega)
        obtain ⟨v, Hv⟩ : ∃ v, Hid (glA zs (kn : Int) = v) := ⟨_, rfl⟩
        rw [Hv.out] at hL ⊢
        rw [Int.toNat_natCast] at hL
        have hn10 := hw.n10
        rw [hlen] at hn10
        have HK : Hid (Calls Try.prog 55 #[.slice A n c, .int .i64 (kn : Int), .func (.func 58) #[] #[]] w (fun e w' => ∃ g c' d, e = .returned (.slice (some ⟨g, 0, none⟩) kn c') ∧ Hid (d.length = kn) ∧ 1 ≤ kn ∧ kn ≤ 10 ∧ Hid (d.getD 0 0 ≤ 100000) ∧ Hid (gN d = v) ∧ Hid (RowZ w' g d) ∧ Hid (Below w.heap.size w w'))) :=
          (bestDistricts_any fN keyOk_N _ better_N A c n kn zs w h hw (by omega) hmin).mono fun e w' ⟨g, c', d, h1, h2, h3, h4, h5⟩ =>
            ⟨g, c', d, h1, h2, by omega, by omega, by have := (opt_first hw h3 (by omega)).2; show _ ≤ _; omega, (opt_most hw.ge0 (by have := hw.sm; omega) (by omega) (by rw [hlen]; exact h3)).eq hL, h4, h5⟩
        have hm1 : ¬ (n : Int) < (kn : Int) := by omega
        have hm2 : decide ((n : Int) < (kn : Int)) = false := by rw [decide_eq_false_iff_not]; omega
        clear hw hv hvk hL h hlen hmin
        go_enter Try.func33, Try.ntmps33
        go_wp2_with fail
        refine H1.out.mono ?_
        rintro e w' ⟨rfl, rfl⟩
        go_wp2_with fail
        refine H2.out.mono ?_
        rintro e w' ⟨rfl, rfl⟩
        go_wp2_with fail
        refine HK.out.mono ?_
        rintro e w4 ⟨g, c4, d, rfl, Hd, hd1, hd10, H0, Hg, HRow, HB⟩
        have HM := Lib.hid (minZ_any (some ⟨g, 0, none⟩) c4 kn d w4 _ (HRow.out.rd HRow.out.lt) Hd.out hd1 (by omega) H0.out)
        rw [Hg.out] at HM
        go_wp2_with fail
        refine HM.out.mono ?_
        rintro e w5 ⟨rfl, rfl⟩
        go_wp2
        go_ret
        exact ⟨rfl, HB.out⟩
      · have HV : Hid (glA zs (kn : Int) = -1) := by show _ = _; unfold glA; rw [if_neg (by rw [hlen]; omega)]
        rw [HV.out]
        have hm1 : (n : Int) < (kn : Int) := by omega
        clear hw hv hvk h hlen hmin
        go_enter Try.func33, Try.ntmps33
        go_wp2_with fail
        refine H1.out.mono ?_
        rintro e w' ⟨rfl, rfl⟩
        go_wp2_with fail
        refine H2.out.mono ?_
        rintro e w' ⟨rfl, rfl⟩
        go_wp2
        go_ret
        exact ⟨rfl, Below.refl _ _⟩
    · have hvk : ¬ vk zs k = true := fun hh => hk (vk_iff.1 hh).2
      have HV : Hid (glA zs k = -1) := by show _ = _; unfold glA; rw [if_neg (fun hh => hvk hh.1)]
      rw [HV.out]
      rw [hv] at H1
      rw [show (decide (1 ≤ k) && decide (k ≤ 4)) = false by rw [Bool.and_eq_false_iff, decide_eq_false_iff_not, decide_eq_false_iff_not]; omega] at H2
      clear hv hk hvk h
      go_enter Try.func33, Try.ntmps33
      go_wp2_with fail
      refine H1.out.mono ?_
      rintro e w' ⟨rfl, rfl⟩
      go_wp2_with fail
      refine H2.out.mono ?_
      rintro e w' ⟨rfl, rfl⟩
      go_wp2
      go_ret
      exact ⟨rfl, Below.refl _ _⟩
  · have hv' : vw zs = false := by simpa using hv
    have hvk : ¬ vk zs k = true := fun hh => hv (vw_iff.2 (vk_iff.1 hh).1)
    have HV : Hid (glA zs k = -1) := by show _ = _; unfold glA; rw [if_neg (fun hh => hvk hh.1)]
    rw [HV.out]
    rw [hv'] at H1
    clear hv hv' hvk h H2
    go_enter Try.func33, Try.ntmps33
    go_wp2_with fail
    refine H1.out.mono ?_
    rintro e w' ⟨rfl, rfl⟩
    go_wp2
    go_ret
    exact ⟨rfl, Below.refl _ _⟩
end Go.Proofs.Ytoappopbjnlbdaa
