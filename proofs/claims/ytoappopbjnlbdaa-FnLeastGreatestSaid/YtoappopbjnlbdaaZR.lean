/-
  The contracts of chapter 8's functions; those of the model.
  Conditions: fewer than 2^20 numbers.
-/
import Derived.Test.YtoappopbjnlbdaaZQ
import Derived.Test.YtoappopbjnlbdaaZF
import Derived.Deep.AppendLies
namespace Go.Proofs.Ytoappopbjnlbdaa
open Go.ChangeShapes Go.WideShapes Go.ChangeAt Go.RowKit
set_option linter.unusedVariables false
set_option maxRecDepth 4000

def ZBool (F : Nat) : Prop := ∀ (A : Option Addr) (c n : Nat) (zs : List Int) (w : World), LIn w A c n zs →
  Calls Try.prog F #[.slice A n c] w fun e w' => e = .returned (.bool (vw zs)) ∧ Below w.heap.size w w'
def ZNum (F : Nat) (ans : List Int → Int → Int) : Prop := ∀ (A : Option Addr) (c n : Nat) (zs : List Int) (k : Int) (w : World), LIn w A c n zs →
  Calls Try.prog F #[.slice A n c, .int .i64 k] w fun e w' => e = .returned (.int .i64 (ans zs k)) ∧ Below w.heap.size w w'
def ZCuts (F : Nat) : Prop := ∀ (A : Option Addr) (c n : Nat) (zs : List Int) (m : Int) (w : World), LIn w A c n zs →
  Calls Try.prog F #[.slice A n c, .int .i64 m] w (CutsAre zs m w)
theorem iValidWards_ok : ZBool 17 := fun A c n zs w h => (iValidWards_any A c n zs w h).mono fun _ _ ⟨h1, h2⟩ => ⟨h1, h2 ▸ Below.refl _ _⟩
theorem sValidWards_ok : ZBool 18 := fun A c n zs w h => (sValidWards_any A c n zs w h).mono fun _ _ ⟨h1, h2⟩ => ⟨h1, h2 ▸ Below.refl _ _⟩
theorem iFewestWards_ok : ZNum 21 fwA := fun A c n zs k w h => iFewestWards_any A c n zs k w h
theorem iLeastGreatest_ok : ZNum 25 lgA := fun A c n zs k w h => iLeastGreatest_any A c n zs k w h
theorem iGreatestByParts_ok : ZNum 27 lgA := fun A c n zs k w h => iGreatestByParts_any A c n zs k w h
theorem iGreatestLeast_ok : ZNum 33 glA := fun A c n zs k w h => iGreatestLeast_any A c n zs k w h
theorem iFirstCuts_ok : ZCuts 23 := fun A c n zs m w h => iFirstCuts_any A c n zs m w h

theorem cbc_fw {zs : List Int} {m : Int} (hw : Wd zs) (h0 : 0 ≤ m) (h1 : m ≤ 1000) : cbc zs m = decide (0 ≤ fwV zs m) := by
  rw [Bool.eq_iff_iff, cbc_iff, decide_eq_true_eq]
  unfold fwV
  constructor
  · rintro ⟨_, h, _⟩; rw [if_pos h]; omega
  · intro h
    by_cases hh : ∀ x, x ∈ zs → x ≤ m
    · exact ⟨hw, hh, h1⟩
    · rw [if_neg hh] at h; omega
theorem fwA_yes {zs : List Int} {m : Int} (hw : Wd zs) (h0 : 0 ≤ m) (h1 : m ≤ 1000) : fwA zs m = fwV zs m := by
  unfold fwA fwV
  by_cases hh : ∀ x, x ∈ zs → x ≤ m
  · rw [if_pos hh, if_pos (cbc_iff.2 ⟨hw, hh, h1⟩)]
  · rw [if_neg hh, if_neg (fun h => hh (cbc_iff.1 h).2.1)]
theorem cbc_no {zs : List Int} {m : Int} (h : ¬ (vw zs = true ∧ 0 ≤ m ∧ m ≤ 1000)) : cbc zs m = false := by
  rw [Bool.eq_false_iff]
  intro hc
  obtain ⟨hw, h1, h2⟩ := cbc_iff.1 hc
  refine h ⟨vw_iff.2 hw, ?_, h2⟩
  have h3 := h1 _ (getD_mem (zs := zs) (k := 0) hw.n1)
  have h4 := hw.at_ hw.n1
  omega
theorem fwA_no {zs : List Int} {m : Int} (h : ¬ (vw zs = true ∧ 0 ≤ m ∧ m ≤ 1000)) : fwA zs m = -1 := by
  unfold fwA; rw [if_neg]; rw [cbc_no h]; decide
theorem fwV_bd {zs : List Int} {m : Int} (hw : Wd zs) : -1 ≤ fwV zs m ∧ fwV zs m ≤ 11 := by
  unfold fwV
  have := ctT_len m zs zs.length
  have := hw.n10
  split <;> omega

set_option maxHeartbeats 800000 in
theorem sFewestWards_ok : ZNum 22 fwA := by
  intro A c n zs m w h
  have HV := Lib.hid (sValidWards_in A c n zs w h)
  by_cases hv : vw zs = true
  · rw [hv] at HV
    by_cases hm : 0 ≤ m ∧ m ≤ 1000
    · have hw := vw_iff.1 hv
      have HF := Lib.hid (sFewest_in A c n zs m w _ h.rd h.len hw hm.1 hm.2)
      have HI := Lib.hid (inRange_yes m 0 1000 w hm.1 hm.2)
      rw [fwA_yes hw hm.1 hm.2]
      generalize fwV zs m = f at HF ⊢
      clear h hv hm hw
      go_enter Try.func22, Try.ntmps22
      go_wp2_with fail
      refine HV.out.mono ?_
      rintro e w' ⟨rfl, rfl⟩
      go_wp2_with fail
      refine HI.out.mono ?_
      rintro e w' ⟨rfl, rfl⟩
      go_wp2_with fail
      refine HF.out.mono ?_
      rintro e w' ⟨rfl, rfl⟩
      go_wp2
      go_ret
      exact ⟨rfl, Below.refl _ _⟩
    · have HI := Lib.hid (inRange_no m 0 1000 w (by omega))
      rw [fwA_no (fun hh => hm hh.2)]
      clear h hv hm
      go_enter Try.func22, Try.ntmps22
      go_wp2_with fail
      refine HV.out.mono ?_
      rintro e w' ⟨rfl, rfl⟩
      go_wp2_with fail
      refine HI.out.mono ?_
      rintro e w' ⟨rfl, rfl⟩
      go_wp2
      go_ret
      exact ⟨rfl, Below.refl _ _⟩
  · have hv' : vw zs = false := by simpa using hv
    rw [hv'] at HV
    rw [fwA_no (fun hh => hv hh.1)]
    clear h hv hv'
    go_enter Try.func22, Try.ntmps22
    go_wp2_with fail
    refine HV.out.mono ?_
    rintro e w' ⟨rfl, rfl⟩
    go_wp2
    go_ret
    exact ⟨rfl, Below.refl _ _⟩

set_option maxHeartbeats 800000 in
theorem sGreatestByParts_ok : ZNum 31 lgA := by
  intro A c n zs k w h
  have HV := Lib.hid (sValidWards_in A c n zs w h)
  by_cases hv : vw zs = true
  · rw [hv] at HV
    by_cases hm : 1 ≤ k ∧ k ≤ 4
    · have hw := vw_iff.1 hv
      have hn1 := hw.n1
      have hn10 := hw.n10
      rw [h.len] at hn1 hn10
      have HF := Lib.hid (byParts_any (k.toNat - 1) A c n zs k w _ h.rd h.len h.cap.1 h.cap.2 hn1 hn10 (fun x hx => hw.ok x hx) (by omega) (by omega))
      have HI := Lib.hid (inRange_yes k 1 4 w hm.1 hm.2)
      have HE : Hid (lgA zs k = bpV (k.toNat - 1) zs) := by show _ = _; unfold lgA; rw [if_pos (vk_iff.2 ⟨hw, hm⟩)]
      rw [HE.out]
      generalize bpV (k.toNat - 1) zs = f at HF ⊢
      clear h hv hm hw HE
      go_enter Try.func31, Try.ntmps31
      go_wp2_with fail
      refine HV.out.mono ?_
      rintro e w' ⟨rfl, rfl⟩
      go_wp2_with fail
      refine HI.out.mono ?_
      rintro e w' ⟨rfl, rfl⟩
      go_wp2_with fail
      refine HF.out.mono ?_
      rintro e w' ⟨rfl, q, rfl⟩
      go_wp2
      go_ret
      exact ⟨rfl, below_drewN (Below.refl _ _) q⟩
    · have HI := Lib.hid (inRange_no k 1 4 w (by omega))
      have HE : Hid (lgA zs k = -1) := by show _ = _; unfold lgA; rw [if_neg (fun hh => hm (vk_iff.1 hh).2)]
      rw [HE.out]
      clear h hv hm
      go_enter Try.func31, Try.ntmps31
      go_wp2_with fail
      refine HV.out.mono ?_
      rintro e w' ⟨rfl, rfl⟩
      go_wp2_with fail
      refine HI.out.mono ?_
      rintro e w' ⟨rfl, rfl⟩
      go_wp2
      go_ret
      exact ⟨rfl, Below.refl _ _⟩
  · have hv' : vw zs = false := by simpa using hv
    rw [hv'] at HV
    have HE : Hid (lgA zs k = -1) := by show _ = _; unfold lgA; rw [if_neg (fun hh => hv (vw_iff.2 (vk_iff.1 hh).1))]
    rw [HE.out]
    clear h hv hv'
    go_enter Try.func31, Try.ntmps31
    go_wp2_with fail
    refine HV.out.mono ?_
    rintro e w' ⟨rfl, rfl⟩
    go_wp2
    go_ret
    exact ⟨rfl, Below.refl _ _⟩

set_option maxHeartbeats 800000 in
theorem sGreatestLeast_ok : ZNum 34 glA := by
  intro A c n zs k w h
  have HV := Lib.hid (sValidWards_in A c n zs w h)
  by_cases hv : vw zs = true
  · rw [hv] at HV
    by_cases hm : 1 ≤ k ∧ k ≤ 4
    · have hw := vw_iff.1 hv
      have hn10 := hw.n10
      have hlen := h.len
      rw [hlen] at hn10
      have HI := Lib.hid (inRange_yes k 1 4 w hm.1 hm.2)
      by_cases hkn : k ≤ n
      · have HF := Lib.hid (mostLeast_any (k.toNat - 1) A c n zs k w _ h.rd h.len h.cap.1 h.cap.2 (by omega) hn10 (fun x hx => hw.ok x hx) (by omega) (by omega))
        have HE : Hid (glA zs k = mlV (k.toNat - 1) zs) := by show _ = _; unfold glA; rw [if_pos ⟨vk_iff.2 ⟨hw, hm⟩, by rw [hlen]; exact hkn⟩]
        rw [HE.out]
        generalize mlV (k.toNat - 1) zs = f at HF ⊢
        have hm1 : ¬ (n : Int) < k := by omega
        have hm2 : decide ((n : Int) < k) = false := by rw [decide_eq_false_iff_not]; omega
        clear h hv hm hw HE hlen
        go_enter Try.func34, Try.ntmps34
        go_wp2_with fail
        refine HV.out.mono ?_
        rintro e w' ⟨rfl, rfl⟩
        go_wp2_with fail
        refine HI.out.mono ?_
        rintro e w' ⟨rfl, rfl⟩
        go_wp2_with fail
        refine HF.out.mono ?_
        rintro e w' ⟨rfl, q, rfl⟩
        go_wp2
        go_ret
        exact ⟨rfl, below_drewN (Below.refl _ _) q⟩
      · have HE : Hid (glA zs k = -1) := by show _ = _; unfold glA; rw [if_neg (fun hh => hkn (by have := hh.2; rw [hlen] at this; exact this))]
        rw [HE.out]
        have hm1 : (n : Int) < k := by omega
        clear h hv hm hw hlen hkn
        go_enter Try.func34, Try.ntmps34
        go_wp2_with fail
        refine HV.out.mono ?_
        rintro e w' ⟨rfl, rfl⟩
        go_wp2_with fail
        refine HI.out.mono ?_
        rintro e w' ⟨rfl, rfl⟩
        go_wp2
        go_ret
        exact ⟨rfl, Below.refl _ _⟩
    · have HI := Lib.hid (inRange_no k 1 4 w (by omega))
      have HE : Hid (glA zs k = -1) := by show _ = _; unfold glA; rw [if_neg (fun hh => hm (vk_iff.1 hh.1).2)]
      rw [HE.out]
      clear h hv hm
      go_enter Try.func34, Try.ntmps34
      go_wp2_with fail
      refine HV.out.mono ?_
      rintro e w' ⟨rfl, rfl⟩
      go_wp2_with fail
      refine HI.out.mono ?_
      rintro e w' ⟨rfl, rfl⟩
      go_wp2
      go_ret
      exact ⟨rfl, Below.refl _ _⟩
  · have hv' : vw zs = false := by simpa using hv
    rw [hv'] at HV
    have HE : Hid (glA zs k = -1) := by show _ = _; unfold glA; rw [if_neg (fun hh => hv (vw_iff.2 (vk_iff.1 hh.1).1))]
    rw [HE.out]
    clear h hv hv'
    go_enter Try.func34, Try.ntmps34
    go_wp2_with fail
    refine HV.out.mono ?_
    rintro e w' ⟨rfl, rfl⟩
    go_wp2
    go_ret
    exact ⟨rfl, Below.refl _ _⟩

set_option maxHeartbeats 1600000 in
theorem sLeastGreatest_ok : ZNum 26 lgA := by
  intro A c n zs k w h
  have HV := Lib.hid (sValidWards_in A c n zs w h)
  by_cases hv : vw zs = true
  · rw [hv] at HV
    by_cases hm : 1 ≤ k ∧ k ≤ 4
    · have hw := vw_iff.1 hv
      have HI := Lib.hid (inRange_yes k 1 4 w hm.1 hm.2)
      have hL := lg_least (vk_iff.2 ⟨hw, hm⟩)
      obtain ⟨v, Hv⟩ : ∃ v, Hid (lgA zs k = v) := ⟨_, rfl⟩
      rw [Hv.out] at hL ⊢
      have hbd := least_bd hw (by omega) hL
      have hv0 := leK_pos hw.ge0 hw.ne hL.1
      have hv200 := hbd.2
      have HF := Lib.hid (fun (q : Int) (h0 : 0 ≤ q) (h1 : q ≤ 1000) => sFewest_in A c n zs q w _ h.rd h.len hw h0 h1)
      have HT := Lib.hid (fun (q : Int) (h1 : q ≤ v) => show (0 ≤ fwV zs q ∧ fwV zs q ≤ k) ↔ q = v from by
        have h2 := fw_leK (zs := zs) (k := k.toNat) (u := q) hw.ge0 hw.ne
        rw [show ((k.toNat : Nat) : Int) = k by omega] at h2
        rw [← h2]
        exact ⟨fun h3 => by have := hL.2 q h3; omega, fun h3 => h3 ▸ hL.1⟩)
      have HBd := Lib.hid (fun (q : Int) => fwV_bd (m := q) hw)
      have hk1 := hm.1
      have hk4 := hm.2
      clear h hv hm hw hL hbd
      go_enter Try.func26, Try.ntmps26
      go_wp2_with fail
      refine HV.out.mono ?_
      rintro e w' ⟨rfl, rfl⟩
      go_wp2_with fail
      refine HI.out.mono ?_
      rintro e w' ⟨rfl, rfl⟩
      go_wp2
      go_loop [5] (fun a => ∃ q : Int, a = .int .i64 q ∧ 0 ≤ q ∧ q ≤ v) (fun a => (v - intOf a).toNat)
      case atStart => exact ⟨0, rfl, by omega, hv0⟩
      case round =>
        obtain ⟨q, rfl, hq1, hq2⟩ := hrel
        have HF2 := Lib.hid (HF.out q hq1 (by omega))
        have ht := HT.out q hq2
        have hb := HBd.out q
        obtain ⟨f, Hf⟩ : ∃ f, Hid (fwV zs q = f) := ⟨_, rfl⟩
        rw [Hf.out] at HF2 ht hb
        have hb1 := hb.1
        have hb2 := hb.2
        clear hb
        by_cases hqv : q = v
        · obtain ⟨h1, h2⟩ := ht.2 hqv
          subst hqv
          clear ht
          go_wp2_with fail
          refine HF2.out.mono ?_
          rintro e w2 ⟨rfl, rfl⟩
          go_wp2
          go_ret
          exact ⟨rfl, Below.refl _ _⟩
        · have hno : ¬ (0 ≤ f ∧ f ≤ k) := fun hh => hqv (ht.1 hh)
          have hq3 : q < v := by omega
          clear ht hqv
          by_cases hf0 : 0 ≤ f
          · have hf1 : ¬ f ≤ k := fun hh => hno ⟨hf0, hh⟩
            have hf2 : k < f := by omega
            clear hno
            go_wp2_with fail
            refine HF2.out.mono ?_
            rintro e w2 ⟨rfl, rfl⟩
            go_wp2
            go_round
            case rel => exact ⟨q + 1, by go_num, by omega, by omega⟩
            case measure => simp [intOf]; omega
          · have hf2 : f < 0 := by omega
            clear hno
            go_wp2_with fail
            refine HF2.out.mono ?_
            rintro e w2 ⟨rfl, rfl⟩
            go_wp2
            go_round
            case rel => exact ⟨q + 1, by go_num, by omega, by omega⟩
            case measure => simp [intOf]; omega
    · have HI := Lib.hid (inRange_no k 1 4 w (by omega))
      have HE : Hid (lgA zs k = -1) := by show _ = _; unfold lgA; rw [if_neg (fun hh => hm (vk_iff.1 hh).2)]
      rw [HE.out]
      clear h hv hm
      go_enter Try.func26, Try.ntmps26
      go_wp2_with fail
      refine HV.out.mono ?_
      rintro e w' ⟨rfl, rfl⟩
      go_wp2_with fail
      refine HI.out.mono ?_
      rintro e w' ⟨rfl, rfl⟩
      go_wp2
      go_ret
      exact ⟨rfl, Below.refl _ _⟩
  · have hv' : vw zs = false := by simpa using hv
    rw [hv'] at HV
    have HE : Hid (lgA zs k = -1) := by show _ = _; unfold lgA; rw [if_neg (fun hh => hv (vw_iff.2 (vk_iff.1 hh).1))]
    rw [HE.out]
    clear h hv hv'
    go_enter Try.func26, Try.ntmps26
    go_wp2_with fail
    refine HV.out.mono ?_
    rintro e w' ⟨rfl, rfl⟩
    go_wp2
    go_ret
    exact ⟨rfl, Below.refl _ _⟩
end Go.Proofs.Ytoappopbjnlbdaa
