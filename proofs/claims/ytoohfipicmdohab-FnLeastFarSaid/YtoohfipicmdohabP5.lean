/-
  The laws FnLeastFar and FnNearIsFar: least far is enough and no less; one helper stands in the middle.
  Conditions: none.
-/
import Derived.Test.YtoohfipicmdohabP2
import Derived.Test.YtoohfipicmdohabM3
import Derived.Test.YtoohfipicmdohabL6
namespace Go.Proofs.Ytoohfipicmdohab
open Go.ChangeShapes Go.WideShapes Go.ChangeAt Go.RowKit
set_option linter.unusedVariables false

theorem lfrom_prop {zs : List Int} {k : Int} (hv : vh zs = true) (hk : 1 ≤ k) : ∀ (f : Nat) (far : Int), 0 ≤ far → far ≤ 25 → far + f = 50 →
    far ≤ lfrom zs k f far ∧ lfrom zs k f far ≤ 25 ∧ fewest zs (lfrom zs k f far) ≤ k ∧ (far < lfrom zs k f far → k < fewest zs (lfrom zs k f far - 1))
  | 0, far, _, h2, h3 => by omega
  | f + 1, far, h1, h2, h3 => by
    by_cases h : k < fewest zs far
    · have e : lfrom zs k (f + 1) far = lfrom zs k f (far + 1) := lfrom_step rfl h
      have hlt : far < 25 := by
        rcases Int.lt_or_le far 25 with h' | h'
        · exact h'
        · have := fewest_big hv h' (by omega); omega
      have ih := lfrom_prop hv hk f (far + 1) (by omega) (by omega) (by omega)
      rw [e]
      refine ⟨by omega, ih.2.1, ih.2.2.1, fun _ => ?_⟩
      by_cases h4 : far + 1 < lfrom zs k f (far + 1)
      · exact ih.2.2.2 h4
      · have : lfrom zs k f (far + 1) - 1 = far := by omega
        rw [this]; exact h
    · have e : lfrom zs k (f + 1) far = far := lfrom_end rfl h
      rw [e]
      exact ⟨Int.le_refl _, h2, by omega, fun h => by omega⟩
theorem lfar_prop {zs : List Int} {k : Int} (hv : vh zs = true) (hk : vk k = true) :
    0 ≤ lfar zs k ∧ lfar zs k ≤ 25 ∧ fewest zs (lfar zs k) ≤ k ∧ (0 < lfar zs k → k < fewest zs (lfar zs k - 1)) := by
  rw [lfar_yes hv hk]
  unfold vk at hk
  simp at hk
  exact lfrom_prop hv hk.1 50 0 (by omega) (by omega) (by omega)
theorem lfar_neg {zs : List Int} {k : Int} (h : ¬ (vh zs = true ∧ vk k = true)) : lfar zs k = -1 := by simp [lfar, h]
theorem few_pos {far last : Int} : ∀ {l : List Int}, ∀ y ∈ l, last < y → 0 ≤ far → 1 ≤ few far last l
  | [], y, h, _, _ => by cases h
  | x :: r, y, h, hl, hf => by
    simp only [few]
    split
    · have := few_nonneg (far := far) (l := r) (last := x + 2 * far); omega
    · rcases List.mem_cons.1 h with rfl | h
      · omega
      · exact few_pos y h hl hf
theorem fewest_one {zs : List Int} {far : Int} (hv : vh zs = true) (hf : vfar far = true) (hn : 0 < zs.length) : fewest zs far ≤ 1 ↔ zs.getD (zs.length - 1) 0 ≤ zs.getD 0 0 + 2 * far := by
  have hh := vh_iff.1 hv
  have hf0 : 0 ≤ far := by unfold vfar at hf; simp at hf; exact hf.1
  have hle : ∀ y ∈ zs, y ≤ zs.getD (zs.length - 1) 0 := fun y hy => by
    obtain ⟨i, hi, rfl⟩ := List.mem_iff_getElem.1 hy
    have := pw_getD hh.2.1 (i := i) (j := zs.length - 1) (by omega) (by omega)
    simpa [List.getD, List.getElem?_eq_getElem hi] using this
  have hlast : zs.getD (zs.length - 1) 0 ∈ zs := by simp [List.getD, List.getElem?_eq_getElem (show zs.length - 1 < zs.length by omega)]
  rw [fewest_yes hv hf]
  generalize zs.getD (zs.length - 1) 0 = b at hle hlast ⊢
  cases zs with
  | nil => simp at hn
  | cons x r =>
    have hx := hh.2.2 x (by simp)
    have e0 : (x :: r).getD 0 0 = x := rfl
    rw [e0]
    simp only [few]
    rw [if_pos (by omega)]
    constructor
    · intro h
      rcases Int.lt_or_le (x + 2 * far) b with h1 | h1
      · rcases List.mem_cons.1 hlast with rfl | hbr
        · omega
        · have := few_pos (far := far) (last := x + 2 * far) b hbr h1 hf0; omega
      · exact h1
    · intro h
      rw [few_zero (fun y hy => by have := hle y (by simp [hy]); omega)]
      omega
theorem lfar_one {zs : List Int} (hv : vh zs = true) (hn : 0 < zs.length) : lfar zs 1 = (zs.getD (zs.length - 1) 0 - zs.getD 0 0 + 1) / 2 := by
  have h := lfar_prop (k := 1) hv (by decide)
  have hs := pw_getD (vh_iff.1 hv).2.1 (i := 0) (j := zs.length - 1) (by omega) (by omega)
  generalize lfar zs 1 = o at h ⊢
  have h1 := (fewest_one (far := o) hv (vfar_yes h.1 (by omega)) hn).1 h.2.2.1
  by_cases ho : 0 < o
  · have h2 := h.2.2.2 ho
    have h3 : ¬ zs.getD (zs.length - 1) 0 ≤ zs.getD 0 0 + 2 * (o - 1) := fun h' => by
      have := (fewest_one (far := o - 1) hv (vfar_yes (by omega) (by omega)) hn).2 h'
      omega
    omega
  · omega

set_option maxHeartbeats 800000 in
theorem lawLeastFar_walk (A : Option Addr) (c : Nat) (bs : List Int) (w : World) (hr : RdB w w.heap.size A bs) (hcap : bs.length ≤ c) (hm : c ≤ maxLen) :
    Calls Try.prog 7 #[.slice A bs.length c] w fun e w' => e = .returned (.bool true) ∧ Below w.heap.size w w' := by
  unfold maxLen at hm
  by_cases hb : 1048576 < bs.length
  · go_enter Try.func7, Try.ntmps7
    go_wp2
    go_ret
    exact ⟨rfl, Below.refl _ _⟩
  · have H := Lib.hid (drawLeastFar_any A c bs.length bs w hr rfl hcap hm)
    go_enter Try.func7, Try.ntmps7
    go_wp2_with fail
    refine H.out.mono ?_
    rintro e w1 ⟨A', c', xs, k, rfl, hk1, hk2, hl, hc1, hc2, hrd, hnx⟩
    by_cases hv : vh xs = true ∧ vk k = true
    · have Hbd := Lib.hid (vh_bd hv.1)
      obtain ⟨ho1, ho2, ho3, ho4⟩ := lfar_prop hv.1 hv.2
      obtain ⟨o, Ho⟩ : ∃ o, Hid (lfar xs k = o) := ⟨_, rfl⟩
      have Hm := Lib.hid (lfar_mirr (k := k) hv.1)
      rw [Ho.out] at ho1 ho2 ho3 ho4
      obtain ⟨p, Hp⟩ : ∃ p, Hid (fewest xs o = p) := ⟨_, rfl⟩
      obtain ⟨p', Hp'⟩ : ∃ p', Hid (fewest xs (o - 1) = p') := ⟨_, rfl⟩
      rw [Hp.out] at ho3
      rw [Hp'.out] at ho4
      clear hv
      go_wp2_with fail
      refine (iLeastFar_any A' c' xs.length xs k w1 _ hrd rfl (by omega)).mono ?_
      rintro e w' ⟨rfl, rfl⟩
      rw [Ho.out]
      go_wp2_with fail
      refine (sLeastFar_any A' c' xs.length xs k w1 _ hrd rfl (by omega)).mono ?_
      rintro e w' ⟨rfl, q, rfl⟩
      rw [Ho.out]
      go_wp2_with fail
      refine (iFewest_any A' c' xs.length xs o (w1.drewN q) _ hrd rfl (by omega)).mono ?_
      rintro e w' ⟨rfl, rfl⟩
      rw [Hp.out]
      by_cases h0 : o = 0
      · have h0b : (o == 0) = true := by rw [beq_iff_eq]; exact h0
        have H0 := Lib.hid h0
        clear h0 ho4
        go_wp2_with fail
        refine (mirrored_any A' c' xs.length xs (w1.drewN q) hrd rfl (by omega) Hbd.out).mono ?_
        rintro e w3 ⟨A4, c4, rfl, hc41, hc42, hrd4, hnx4⟩
        have hnx4' := below_from hnx4
        go_wp2_with fail
        refine (iLeastFar_any A4 c4 xs.length (mirr xs) k w3 _ hrd4 (mirr_length xs) (by omega)).mono ?_
        rintro e w' ⟨rfl, rfl⟩
        rw [Hm.out, Ho.out]
        go_wp2
        go_ret
        exact ⟨ret_bool (by simp), hnx.trans (hnx4'.mono hnx.size)⟩
      · have h0b : (o == 0) = false := by rw [beq_eq_false_iff_ne]; exact h0
        have ho5 := ho4 (by omega)
        have H0 := Lib.hid h0
        clear h0 ho4
        go_wp2_with fail
        refine (iFewest_any A' c' xs.length xs (o - 1) (w1.drewN q) _ hrd rfl (by omega)).mono ?_
        rintro e w' ⟨rfl, rfl⟩
        rw [Hp'.out]
        go_wp2_with fail
        refine (mirrored_any A' c' xs.length xs (w1.drewN q) hrd rfl (by omega) Hbd.out).mono ?_
        rintro e w3 ⟨A4, c4, rfl, hc41, hc42, hrd4, hnx4⟩
        have hnx4' := below_from hnx4
        go_wp2_with fail
        refine (iLeastFar_any A4 c4 xs.length (mirr xs) k w3 _ hrd4 (mirr_length xs) (by omega)).mono ?_
        rintro e w' ⟨rfl, rfl⟩
        rw [Hm.out, Ho.out]
        go_wp2
        go_ret
        exact ⟨ret_bool (by simp), hnx.trans (hnx4'.mono hnx.size)⟩
    · have Ho := Lib.hid (lfar_neg hv)
      clear hv
      go_wp2_with fail
      refine (iLeastFar_any A' c' xs.length xs k w1 _ hrd rfl (by omega)).mono ?_
      rintro e w' ⟨rfl, rfl⟩
      rw [Ho.out]
      go_wp2_with fail
      refine (sLeastFar_any A' c' xs.length xs k w1 _ hrd rfl (by omega)).mono ?_
      rintro e w' ⟨rfl, q, rfl⟩
      rw [Ho.out]
      go_wp2_with fail
      refine (sLeastFar_any A' c' xs.length xs k (w1.drewN q) _ hrd rfl (by omega)).mono ?_
      rintro e w' ⟨rfl, q2, rfl⟩
      rw [Ho.out]
      go_wp2
      go_ret
      exact ⟨rfl, below_drewN hnx _⟩
end Go.Proofs.Ytoohfipicmdohab
