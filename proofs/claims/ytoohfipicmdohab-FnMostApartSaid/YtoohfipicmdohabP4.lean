/-
  The law FnMostApart, walked.
  Conditions: none.
-/
import Derived.Test.YtoohfipicmdohabP2
import Derived.Test.YtoohfipicmdohabP3
namespace Go.Proofs.Ytoohfipicmdohab
open Go.ChangeShapes Go.WideShapes Go.ChangeAt Go.RowKit
set_option linter.unusedVariables false

/-- Of no way: the reach is the last home. -/
theorem gst_zero {zs : List Int} (hp : zs.Pairwise (· ≤ ·)) (h0 : ∀ x ∈ zs, 0 ≤ x) : ∀ i, i ≤ zs.length →
    (gst 0 (zs.take i)).1 = diffc zs i ∧ (∀ y ∈ zs.take i, y ≤ (gst 0 (zs.take i)).2) ∧ ((gst 0 (zs.take i)).2 ∈ zs.take i ∨ (gst 0 (zs.take i)).2 = -1)
  | 0, _ => by simp [gst, diffc]
  | i + 1, hi => by
    have hil : i < zs.length := by omega
    obtain ⟨h1, h2, h3⟩ := gst_zero hp h0 i (by omega)
    have hle := pw_le hp hil
    have hm : zs.getD i 0 ∈ zs := by simp [List.getD, List.getElem?_eq_getElem hil]
    have hx0 := h0 _ hm
    rw [take_snoc_getD hil, gst_snoc]
    have hdef : diffc zs (i + 1) = if hasB (zs.take i) (zs.getD i 0) then diffc zs i else diffc zs i + 1 := rfl
    rw [hdef]
    generalize zs.getD i 0 = x at *
    unfold gstep
    by_cases hlt : (gst 0 (zs.take i)).2 < x
    · have hno : hasB (zs.take i) x = false := by
        unfold hasB
        rw [List.contains_eq_mem, decide_eq_false_iff_not]
        intro hx
        have := h2 x hx
        omega
      rw [if_pos hlt, hno]
      refine ⟨by simp [h1], fun y hy => ?_, .inl (by simp)⟩
      rw [List.mem_append, List.mem_singleton] at hy
      rcases hy with hy | rfl
      · have := hle y hy; simp; exact this
      · simp
    · rw [if_neg hlt]
      have hin : (gst 0 (zs.take i)).2 ∈ zs.take i := by
        rcases h3 with h3 | h3
        · exact h3
        · omega
      have hxe : (gst 0 (zs.take i)).2 = x := by
        have := hle _ hin
        omega
      rw [hxe] at hin h2 ⊢
      have hyes : hasB (zs.take i) x = true := by
        unfold hasB
        rw [List.contains_iff_mem]
        exact hin
      rw [hyes]
      refine ⟨by simp [h1], fun y hy => ?_, .inl (by simp)⟩
      rw [List.mem_append, List.mem_singleton] at hy
      rcases hy with hy | rfl
      · exact h2 y hy
      · exact Int.le_refl _
theorem different_most {zs : List Int} (h : vh zs = true) : mapart zs 0 = diffc zs zs.length := by
  have hh := vh_iff.1 h
  rw [mapart_fewest, fewest_yes h (by decide), ← gst_cnt]
  have := (gst_zero hh.2.1 (fun x hx => (hh.2.2 x hx).1) zs.length (Nat.le_refl _)).1
  rw [List.take_length] at this
  exact this
theorem mapart_neg {zs : List Int} {far : Int} (h : ¬ (vh zs = true ∧ vfar far = true)) : mapart zs far = -1 := by simp [mapart, h]

set_option maxHeartbeats 800000 in
theorem lawMostApart_walk (A : Option Addr) (c : Nat) (bs : List Int) (w : World) (hr : RdB w w.heap.size A bs) (hcap : bs.length ≤ c) (hm : c ≤ maxLen) :
    Calls Try.prog 6 #[.slice A bs.length c] w fun e w' => e = .returned (.bool true) ∧ Below w.heap.size w w' := by
  unfold maxLen at hm
  by_cases hb : 1048576 < bs.length
  · go_enter Try.func6, Try.ntmps6
    go_wp2
    go_ret
    exact ⟨rfl, Below.refl _ _⟩
  · have H := Lib.hid (drawMostApart_any A c bs.length bs w hr rfl hcap hm)
    go_enter Try.func6, Try.ntmps6
    go_wp2_with fail
    refine H.out.mono ?_
    rintro e w1 ⟨A', c', xs, far, rfl, hk1, hk2, hl, hc1, hc2, hrd, hnx⟩
    by_cases hv : vh xs = true ∧ vfar far = true
    · have ho := fewest_ge hv.1 hv.2
      obtain ⟨o, Ho⟩ : ∃ o, Hid (fewest xs far = o) := ⟨_, rfl⟩
      have Hd := Lib.hid (different_most hv.1)
      rw [Ho.out] at ho
      clear hv
      go_wp2_with fail
      refine (iMost_any A' c' xs.length xs far w1 _ hrd (Nat.le_refl _) rfl hc1 hc2 (by omega)).mono ?_
      rintro e w2 ⟨rfl, hq2⟩
      rw [mapart_fewest, Ho.out]
      have hnx2 := hnx.trans (hq2.mono hnx.size)
      have hrd2 := (hrd.below hq2).more hq2.size
      clear hq2
      go_wp2_with fail
      refine (sMost_any A' c' xs.length xs far w2 _ hrd2 (Nat.le_refl _) rfl (by omega)).mono ?_
      rintro e w3 ⟨rfl, hq3⟩
      rw [mapart_fewest, Ho.out]
      have hnx3 := hnx2.trans (hq3.mono hnx2.size)
      have hrd3 := (hrd2.below hq3).more hq3.size
      clear hq3
      go_wp2_with fail
      refine (iFewest_any A' c' xs.length xs far w3 _ hrd3 rfl (by omega)).mono ?_
      rintro e w' ⟨rfl, rfl⟩
      rw [Ho.out]
      go_wp2_with fail
      refine (iMost_any A' c' xs.length xs 0 w3 _ hrd3 (Nat.le_refl _) rfl hc1 hc2 (by omega)).mono ?_
      rintro e w4 ⟨rfl, hq4⟩
      rw [Hd.out]
      have hnx4 := hnx3.trans (hq4.mono hnx3.size)
      have hrd4 := (hrd3.below hq4).more hq4.size
      clear hq4
      go_wp2_with fail
      refine (different_any A' c' xs.length xs w4 _ hrd4 rfl hc1 hc2 (by omega)).mono ?_
      rintro e w' ⟨rfl, q, rfl⟩
      go_wp2
      go_ret
      exact ⟨ret_bool (by simp), below_drewN hnx4 _⟩
    · have Ho := Lib.hid (mapart_neg hv)
      clear hv
      go_wp2_with fail
      refine (iMost_any A' c' xs.length xs far w1 _ hrd (Nat.le_refl _) rfl hc1 hc2 (by omega)).mono ?_
      rintro e w2 ⟨rfl, hq2⟩
      rw [Ho.out]
      have hnx2 := hnx.trans (hq2.mono hnx.size)
      have hrd2 := (hrd.below hq2).more hq2.size
      clear hq2
      go_wp2_with fail
      refine (sMost_any A' c' xs.length xs far w2 _ hrd2 (Nat.le_refl _) rfl (by omega)).mono ?_
      rintro e w3 ⟨rfl, hq3⟩
      rw [Ho.out]
      have hnx3 := hnx2.trans (hq3.mono hnx2.size)
      have hrd3 := (hrd2.below hq3).more hq3.size
      clear hq3
      go_wp2_with fail
      refine (sMost_any A' c' xs.length xs far w3 _ hrd3 (Nat.le_refl _) rfl (by omega)).mono ?_
      rintro e w4 ⟨rfl, hq4⟩
      rw [Ho.out]
      have hnx4 := hnx3.trans (hq4.mono hnx3.size)
      clear hq4
      go_wp2
      go_ret
      exact ⟨rfl, hnx4⟩
end Go.Proofs.Ytoohfipicmdohab
