/-
  The law FnSumsAreEnds: one helper halves the homes.
  Conditions: none.
-/
import Derived.Test.YtoohfipicmdohabK10
import Derived.Test.YtoohfipicmdohabM3
import Derived.Test.YtoohfipicmdohabD1
namespace Go.Proofs.Ytoohfipicmdohab
open Go.ChangeShapes Go.WideShapes Go.ChangeAt Go.RowKit Go.Maps
set_option linter.unusedVariables false

def ends (zs : List Int) : Nat → Int
  | 0 => 0
  | i + 1 => ends zs i + zs.getD (zs.length - 1 - i) 0 - zs.getD i 0
theorem seg_ends {zs : List Int} {i j : Nat} (h : i < j) (hj : j < zs.length) : seg zs i (j + 1) = zs.getD i 0 :: (seg zs (i + 1) j ++ [zs.getD j 0]) := by
  unfold seg
  have h1 : zs.drop i = zs.getD i 0 :: zs.drop (i + 1) := by
    rw [List.drop_eq_getElem_cons (by omega)]
    simp [List.getD, List.getElem?_eq_getElem (show i < zs.length by omega)]
  rw [h1, show j + 1 - i = (j - i) + 1 by omega, List.take_succ_cons, show j - i = (j - (i + 1)) + 1 by omega]
  congr 1
  rw [List.take_succ_eq_append_getElem (by rw [List.length_drop]; omega), List.getElem_drop]
  congr 2
  simp only [List.getD_eq_getElem?_getD]
  rw [List.getElem?_eq_getElem hj, Option.getD_some]
  congr 1
  omega
theorem sumNear_append (a b : List Int) (p : Int) : sumNear (a ++ b) p = sumNear a p + sumNear b p := by simp [sumNear]
theorem ends_inv {zs : List Int} (hp : zs.Pairwise (· ≤ ·)) : ∀ i, i ≤ zs.length / 2 → sumNear (seg zs i (zs.length - i)) (zs.getD (zs.length / 2) 0) + ends zs i = sumNear zs (zs.getD (zs.length / 2) 0)
  | 0, _ => by simp [ends, seg]
  | i + 1, hi => by
    have ih := ends_inv hp i (by omega)
    have e : zs.length - i = (zs.length - 1 - i) + 1 := by omega
    rw [e, seg_ends (by omega) (by omega), sumNear_cons, sumNear_append] at ih
    have h1 := pw_getD hp (i := i) (j := zs.length / 2) (by omega) (by omega)
    have h2 := pw_getD hp (i := zs.length / 2) (j := zs.length - 1 - i) (by omega) (by omega)
    have e2 : zs.length - (i + 1) = zs.length - 1 - i := by omega
    rw [e2]
    simp only [ends]
    have h3 : sumNear [zs.getD (zs.length - 1 - i) 0] (zs.getD (zs.length / 2) 0) = gapI (zs.getD (zs.length - 1 - i) 0) (zs.getD (zs.length / 2) 0) := by simp [sumNear]
    rw [h3] at ih
    generalize zs.getD (zs.length / 2) 0 = p at *
    generalize zs.getD (zs.length - 1 - i) 0 = y at *
    generalize zs.getD i 0 = x at *
    generalize sumNear (seg zs (i + 1) (zs.length - 1 - i)) p = s at *
    unfold gapI at ih
    split at ih <;> split at ih <;> omega
theorem ends_all {zs : List Int} (hp : zs.Pairwise (· ≤ ·)) : ends zs (zs.length / 2) = sumNear zs (zs.getD (zs.length / 2) 0) := by
  have h := ends_inv hp (zs.length / 2) (Nat.le_refl _)
  have h0 : sumNear (seg zs (zs.length / 2) (zs.length - zs.length / 2)) (zs.getD (zs.length / 2) 0) = 0 := by
    by_cases h1 : zs.length % 2 = 0
    · have : seg zs (zs.length / 2) (zs.length - zs.length / 2) = [] := by
        unfold seg
        rw [show zs.length - zs.length / 2 - zs.length / 2 = 0 by omega, List.take_zero]
      rw [this]; rfl
    · have hl : zs.length / 2 < zs.length := by omega
      have : seg zs (zs.length / 2) (zs.length - zs.length / 2) = [zs.getD (zs.length / 2) 0] := by
        unfold seg
        rw [show zs.length - zs.length / 2 - zs.length / 2 = 1 by omega, List.drop_eq_getElem_cons hl, List.take_succ_cons, List.take_zero]
        simp [List.getD, List.getElem?_eq_getElem hl]
      rw [this]
      simp [sumNear, gapI]
  omega
theorem lsum_one {zs : List Int} (hv : vh zs = true) : lsum zs 1 = ends zs (zs.length / 2) := by
  have hh := vh_iff.1 hv
  rw [lsum_eq, slsum_yes hv (by decide), ends_all hh.2.1]
  show scut zs 1 zs.length = _
  rw [scut_one]
  by_cases h : zs.length ≤ 1
  · rw [if_pos h]
    match zs, h with
    | [], _ => rfl
    | [x], _ => simp [sumNear, gapI]
  · rw [if_neg h, cost_eq (f := 0) (n := zs.length) (m := zs.length / 2) (by omega) (Nat.le_refl _) (by rw [Nat.zero_add]) rfl]
    simp [seg]
theorem lsum_nonneg {zs : List Int} {k : Int} (h : vh zs = true) (h' : vk k = true) : 0 ≤ lsum zs k := by
  rw [lsum_eq, slsum_yes h h']; exact scut_nonneg _ _ _
theorem ends_next {zs : List Int} {i : Nat} {a b t : Int} (ha : zs.getD (zs.length - 1 - i) 0 = a) (hb : zs.getD i 0 = b) (ht : ends zs i = t) : ends zs (i + 1) = t + a - b := by
  simp only [ends]; rw [ha, hb, ht]

set_option maxHeartbeats 1000000 in
theorem lawSumsAreEnds_walk (A : Option Addr) (c : Nat) (bs : List Int) (w : World) (hr : RdB w w.heap.size A bs) (hcap : bs.length ≤ c) (hm : c ≤ maxLen) :
    Calls Try.prog 9 #[.slice A bs.length c] w fun e w' => e = .returned (.bool true) ∧ Below w.heap.size w w' := by
  unfold maxLen at hm
  by_cases hb : 1048576 < bs.length
  · go_enter Try.func9, Try.ntmps9
    go_wp2
    go_ret
    exact ⟨rfl, Below.refl _ _⟩
  · have H := Lib.hid (drawLeastSum_any A c bs.length bs w hr rfl hcap hm)
    go_enter Try.func9, Try.ntmps9
    go_wp2_with fail
    refine H.out.mono ?_
    rintro e w1 ⟨A', c', xs, k, rfl, hk1, hk2, hl, hc1, hc2, hrd, hnx⟩
    obtain ⟨o, Ho⟩ : ∃ o, Hid (lsum xs k = o) := ⟨_, rfl⟩
    have Ho' : Hid (slsum xs k = o) := by rw [← lsum_eq]; exact Ho
    go_wp2_with fail
    refine (iLeastSum_any A' c' xs.length xs k w1 _ hrd (Nat.le_refl _) rfl hc1 hc2 (by omega)).mono ?_
    rintro e w2 ⟨rfl, hnx2⟩
    rw [Ho.out]
    have hrd2 := (hrd.below hnx2).more hnx2.size
    have hnxa := hnx.trans (hnx2.mono hnx.size)
    go_wp2_with fail
    refine (sLeastSum_any A' c' xs.length xs k w2 _ hrd2 rfl hc1 hc2 (by omega)).mono ?_
    rintro e w' ⟨rfl, q, rfl⟩
    rw [Ho'.out]
    go_wp2_with fail
    refine (iLeastSum_any A' c' xs.length xs k (w2.drewN q) _ hrd2 (Nat.le_refl _) rfl hc1 hc2 (by omega)).mono ?_
    rintro e w3 ⟨rfl, hnx3'⟩
    rw [Ho.out]
    have hnx3 := below_from hnx3'
    have hrd3 := (hrd2.below hnx3).more hnx3.size
    have hnxb := hnxa.trans (hnx3.mono hnxa.size)
    clear hnx2 hnx3' hnx3 hnx hnxa hrd hrd2
    by_cases hv : vh xs = true ∧ vk k = true
    · have ho1 := lsum_nonneg hv.1 hv.2
      rw [Ho.out] at ho1
      have Hv := Lib.hid hv.1
      clear hv
      obtain ⟨n, Hn⟩ : ∃ n, Hid (xs.length = n) := ⟨_, rfl⟩
      have Hone := Lib.hid (lsum_one Hv.out)
      rw [Hn.out] at hl hc1 Hone ⊢
      obtain ⟨h, Hh⟩ : ∃ h, Hid (n / 2 = h) := ⟨_, rfl⟩
      have hhn : h * 2 ≤ n := by have := Hh.out; omega
      have hh2 : n ≤ h * 2 + 1 := by have := Hh.out; omega
      go_wp2
      go_loopw [5, 6] (fun s i wr => ∃ j : Nat, ∃ t : Int, ∃ q : Nat, j ≤ h ∧ Hid (ends xs j = t) ∧ -50 * (j : Int) ≤ t ∧ t ≤ 50 * (j : Int) ∧ i = .int .i64 j ∧ s = .int .i64 t ∧ wr = w3.drewN q) (fun _ i _ => h - (intOf i).toNat)
      case atStart => exact ⟨0, 0, 0, Nat.zero_le _, rfl, by omega, by omega, rfl, rfl, rfl⟩
      case round =>
        obtain ⟨j, t, q3, hj, Ht, ht0, ht1, rfl, rfl, rfl⟩ := hrel
        have ed : (n : Int) / 2 = (h : Int) := by rw [← Hh.out]; omega
        by_cases hlt : j < h
        · obtain ⟨m, Hm⟩ : ∃ m, Hid (n - 1 - j = m) := ⟨_, rfl⟩
          have hmn : m < n := by have := Hm.out; omega
          obtain ⟨b, off, y, rfl, hbw, Hy, hcy⟩ := hrd3.x (k := m) (by rw [Hn.out]; exact hmn)
          obtain ⟨b', off', x, he, hbw', Hx, hcx⟩ := hrd3.x (k := j) (by rw [Hn.out]; omega)
          injection he with he
          injection he with he1 he2
          subst he1 he2
          have hy := vh_get Hv.out (by rw [Hn.out]; exact hmn) Hy.out
          have hx := vh_get Hv.out (by rw [Hn.out]; omega) Hx.out
          have Hnx := Lib.hid (ends_next (zs := xs) (i := j) (a := y) (b := x) (t := t) (by rw [Hn.out, Hm.out]; exact Hy.out) Hx.out Ht.out)
          have w1 : IntKind.i64.wrap ((n : Int) - 1) = (n : Int) - 1 := IntWalk.i64_in _ (by omega)
          have w2 : IntKind.i64.wrap ((n : Int) - 1 - (j : Int)) = (m : Int) := by rw [IntWalk.i64_in _ (by omega)]; exact (by have := Hm.out; omega : (n : Int) - 1 - (j : Int) = (m : Int))
          have w3 : IntKind.i64.wrap (t + y) = t + y := IntWalk.i64_in _ (by omega)
          have w4 : IntKind.i64.wrap (t + y - x) = t + y - x := IntWalk.i64_in _ (by omega)
          have hlI : (j : Int) < (h : Int) := by omega
          have hjn : j < n := by omega
          clear ed
          have ed2 : (n : Int) / 2 = (h : Int) := by rw [← Hh.out]; omega
          go_wp2
          go_quiet (fail)
          clear w1 w2 w3 w4
          go_wp2
          go_roundw
          case rel => exact ⟨j + 1, t + y - x, _, by omega, Hnx.out, by omega, by omega, by go_num, rfl, rfl⟩
          case measure => simp [intOf]; omega
        · have hjh : j = h := by omega
          have Hfin : Hid (lsum xs 1 = t) := by
            have h1 := Hone.out
            rw [Hh.out, ← hjh, Ht.out] at h1
            exact h1
          have hlI : ¬ (j : Int) < (h : Int) := by omega
          have hj1 : n / 2 ≤ j := by omega
          go_wp2_with fail
          refine (iLeastSum_any A' c' n xs 1 (w3.drewN q3) _ hrd3 (Nat.le_refl _) Hn.out hc1 hc2 (by omega)).mono ?_
          rintro e w4 ⟨rfl, hnx4'⟩
          rw [Hfin.out]
          have hnx4 := below_from hnx4'
          go_wp2
          go_ret
          exact ⟨ret_bool (by simp), hnxb.trans (hnx4.mono hnxb.size)⟩
    · have hoe : o = -1 := by rw [← Ho.out]; exact lsum_no hv
      subst hoe
      clear hv
      go_wp2
      go_ret
      exact ⟨rfl, hnxb⟩
end Go.Proofs.Ytoohfipicmdohab
