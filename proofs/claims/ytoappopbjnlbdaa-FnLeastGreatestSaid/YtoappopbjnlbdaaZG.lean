/-
  LeastGreatest of the program.
  Conditions: fewer than 2^20 numbers.
-/
import Derived.Test.YtoappopbjnlbdaaZE
namespace Go.Proofs.Ytoappopbjnlbdaa
open Go.ChangeShapes Go.WideShapes Go.ChangeAt Go.RowKit
set_option linter.unusedVariables false
set_option maxRecDepth 4000

/-- Whether streets and a number of districts are valid; the answers. -/
def vk (zs : List Int) (k : Int) : Bool := vw zs && (decide (1 ≤ k) && decide (k ≤ 4))
def lgA (zs : List Int) (k : Int) : Int := if vk zs k = true then bpV (k.toNat - 1) zs else -1
theorem vk_iff {zs : List Int} {k : Int} : vk zs k = true ↔ Wd zs ∧ 1 ≤ k ∧ k ≤ 4 := by
  unfold vk
  simp only [Bool.and_eq_true, decide_eq_true_eq, vw_iff]
theorem lg_least {zs : List Int} {k : Int} (h : vk zs k = true) : IsLeast zs k.toNat (lgA zs k) := by
  obtain ⟨hw, h1, h4⟩ := vk_iff.1 h
  unfold lgA
  rw [if_pos h]
  have := bpV_least (k.toNat - 1) zs hw.ge0 hw.ne
  rwa [show k.toNat - 1 + 1 = k.toNat by omega] at this
theorem least_bd {zs : List Int} {k : Nat} {v : Int} (hw : Wd zs) (hk : 1 ≤ k) (h : IsLeast zs k v) : gM zs ≤ v ∧ v ≤ 200 := by
  refine ⟨(gM_le_iff hw).2 (leK_street hw.ge0 h.1), ?_⟩
  have := h.2 (sm zs) ⟨_, cut_whole hw.ne, by simpa using hk, by simp⟩
  have := hw.sm
  omega
theorem fwA_iff {zs : List Int} {k : Nat} {v q : Int} (hw : Wd zs) (hk : 1 ≤ k) (h : IsLeast zs k v) (h1 : gM zs ≤ q) (h2 : q ≤ v) : 1 ≤ fwA zs q ∧ fwA zs q ≤ 11 ∧ (fwA zs q ≤ k ↔ q = v) := by
  have hb := least_bd hw hk h
  have hall := (gM_le_iff hw).1 h1
  have hc : cbc zs q = true := cbc_iff.2 ⟨hw, hall, by omega⟩
  have e : fwA zs q = ((ctT q zs zs.length).length : Int) + 1 := by unfold fwA; rw [if_pos hc]
  have hl := ctT_len q zs zs.length
  have := hw.n10
  rw [e]
  refine ⟨by omega, by omega, ?_⟩
  constructor
  · intro hle
    have := h.2 q ((leK_iff hw.ge0 hw.ne).2 ⟨hall, by omega⟩)
    omega
  · intro hq
    have := ((leK_iff hw.ge0 hw.ne).1 (hq ▸ h.1)).2
    omega

theorem validHelpers_any (k : Int) (w : World) : Calls Try.prog 53 #[.int .i64 k] w fun e w' => e = .returned (.bool (decide (1 ≤ k) && decide (k ≤ 4))) ∧ w = w' := by
  by_cases h1 : 1 ≤ k <;> by_cases h2 : k ≤ 4
  all_goals
    go_enter Try.func53, Try.ntmps53
    go_wp2
    go_ret
    exact ⟨ret_bool (by simp <;> omega), rfl⟩

set_option maxHeartbeats 1600000 in
theorem iLeastGreatest_any (A : Option Addr) (c n : Nat) (zs : List Int) (k : Int) (w : World) (h : LIn w A c n zs) :
    Calls Try.prog 25 #[.slice A n c, .int .i64 k] w fun e w' => e = .returned (.int .i64 (lgA zs k)) ∧ Below w.heap.size w w' := by
  have H1 := Lib.hid (iValidWards_any A c n zs w h)
  have H2 := Lib.hid (validHelpers_any k w)
  by_cases hv : vw zs = true
  · by_cases hk : 1 ≤ k ∧ k ≤ 4
    · have hw := vw_iff.1 hv
      have hvk : vk zs k = true := vk_iff.2 ⟨hw, hk⟩
      have hL := lg_least hvk
      obtain ⟨v, Hv⟩ : ∃ v, Hid (lgA zs k = v) := ⟨_, rfl⟩
      rw [Hv.out] at hL ⊢
      have hk1 := hk.1
      have hk4 := hk.2
      have hbd := least_bd hw (by omega) hL
      have hg0 : 0 ≤ gM zs := by have h1 := gM_ge _ (getD_mem (zs := zs) (k := 0) hw.n1); have h2 := hw.at_ hw.n1; omega
      have hn1 := hw.n1
      rw [h.len] at hn1
      have H3 := Lib.hid (maxZ_any A c n zs w _ h.rd h.len hn1 h.most (hw.at_ hw.n1).1)
      have HF := Lib.hid (fun (q : Int) (h1 : gM zs ≤ q) (h2 : q ≤ v) => fwA_iff hw (k := k.toNat) (by omega) hL h1 h2)
      have HI := Lib.hid (fun (W : World) (hb : Below w.heap.size w W) (q : Int) => iFewestWards_any A c n zs q W (h.later hb))
      obtain ⟨g, Hg⟩ : ∃ g, Hid (gM zs = g) := ⟨_, rfl⟩
      rw [Hg.out] at hbd hg0 H3 HF
      have hbd1 := hbd.1
      have hbd2 := hbd.2
      rw [hv] at H1
      rw [show (decide (1 ≤ k) && decide (k ≤ 4)) = true by simp [hk]] at H2
      clear hw hv hk hvk hL h hbd
      go_enter Try.func25, Try.ntmps25
      go_wp2_with fail
      refine H1.out.mono ?_
      rintro e w' ⟨rfl, rfl⟩
      go_wp2_with fail
      refine H2.out.mono ?_
      rintro e w' ⟨rfl, rfl⟩
      go_wp2_with fail
      refine H3.out.mono ?_
      rintro e w' ⟨rfl, rfl⟩
      go_wp2
      go_loopw [5] (fun a wr => ∃ q : Int, a = .int .i64 q ∧ g ≤ q ∧ q ≤ v ∧ Hid (Below w.heap.size w wr)) (fun a _ => (v - intOf a).toNat)
      case atStart => exact ⟨g, rfl, by omega, hbd1, Below.refl _ _⟩
      case round =>
        obtain ⟨q, rfl, hq1, hq2, HB⟩ := hrel
        obtain ⟨h1, h2, h3⟩ := HF.out q hq1 hq2
        have HI2 := Lib.hid (HI.out wr HB.out q)
        obtain ⟨f, Hf⟩ : ∃ f, Hid (fwA zs q = f) := ⟨_, rfl⟩
        rw [Hf.out] at h1 h2 h3 HI2
        by_cases hqv : q = v
        · have hle : f ≤ k := by have := h3.2 hqv; omega
          subst hqv
          clear h3
          go_wp2_with fail
          refine HI2.out.mono ?_
          rintro e w2 ⟨rfl, hb2⟩
          have HB2 := Lib.hid (HB.out.trans (hb2.mono HB.out.size))
          clear hb2
          go_wp2
          go_ret
          exact ⟨rfl, HB2.out⟩
        · have hle : k < f := by
            rcases Int.lt_or_le k f with h | h
            · exact h
            · exact absurd (h3.1 (by omega)) hqv
          have hq3 : q < v := by omega
          clear h3 hqv
          go_wp2_with fail
          refine HI2.out.mono ?_
          rintro e w2 ⟨rfl, hb2⟩
          have HB2 := Lib.hid (HB.out.trans (hb2.mono HB.out.size))
          clear hb2
          go_wp2
          go_roundw
          case rel => exact ⟨q + 1, by go_num, by omega, by omega, HB2⟩
          case measure => simp [intOf]; omega
    · have hvk : ¬ vk zs k = true := fun hh => hk (vk_iff.1 hh).2
      have HV : Hid (lgA zs k = -1) := by show _ = _; unfold lgA; rw [if_neg hvk]
      rw [HV.out]
      rw [hv] at H1
      rw [show (decide (1 ≤ k) && decide (k ≤ 4)) = false by rw [Bool.and_eq_false_iff, decide_eq_false_iff_not, decide_eq_false_iff_not]; omega] at H2
      clear hv hk hvk h
      go_enter Try.func25, Try.ntmps25
      go_wp2_with fail
      refine H1.out.mono ?_
      rintro e w' ⟨rfl, rfl⟩
      go_wp2_with fail
      refine H2.out.mono ?_
      rintro e w' ⟨rfl, rfl⟩
      go_wp2
      go_ret
      exact ⟨rfl, Below.refl _ _⟩
  · have hv' : vw zs = false := by simpa using hv
    have hvk : ¬ vk zs k = true := fun hh => hv (vw_iff.2 (vk_iff.1 hh).1)
    have HV : Hid (lgA zs k = -1) := by show _ = _; unfold lgA; rw [if_neg hvk]
    rw [HV.out]
    rw [hv'] at H1
    clear hv hv' hvk h H2
    go_enter Try.func25, Try.ntmps25
    go_wp2_with fail
    refine H1.out.mono ?_
    rintro e w' ⟨rfl, rfl⟩
    go_wp2
    go_ret
    exact ⟨rfl, Below.refl _ _⟩
end Go.Proofs.Ytoappopbjnlbdaa
