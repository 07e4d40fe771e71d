/-
  The copy of a slice of ints in the exact laws.
  Conditions: the slice is shorter than 2^20 elements.
-/
import Derived.Test.YthphboeboiallaaU2
namespace Go.Proofs.Ythphboeboiallaa
open Go.ChangeShapes Go.WideShapes Go.ChangeAt Go.RowKit
set_option linter.unusedVariables false

theorem toI_step {w : World} {b k n : Nat} {zs : List Int} {cap B : Nat} (hn : zs.length = n) (hk : k < n)
    (hown : w.ownsRow B 3 1 (.slice (some ⟨b, 0, none⟩) n cap) n ((zs.take k).map (Value.int .i64) ++ List.replicate (n - k) (Value.int .i64 0))) :
    (w.setCell ⟨b, k, none⟩ (Value.int .i64 (zs.getD k 0))).ownsRow B 3 1 (.slice (some ⟨b, 0, none⟩) n cap) n ((zs.take (k + 1)).map (Value.int .i64) ++ List.replicate (n - (k + 1)) (Value.int .i64 0)) := by
  have h := hown.stored k (Value.int .i64 (zs.getD k 0))
  have e : ((zs.take k).map (Value.int .i64) ++ List.replicate (n - k) (Value.int .i64 0)).set k (Value.int .i64 (zs.getD k 0)) = (zs.take (k + 1)).map (Value.int .i64) ++ List.replicate (n - (k + 1)) (Value.int .i64 0) := by
    have hl : ((zs.take k).map (Value.int .i64)).length = k := by simp; omega
    rw [List.set_append_right _ _ (by omega), hl, Nat.sub_self]
    have hr : List.replicate (n - k) (Value.int .i64 0) = Value.int .i64 0 :: List.replicate (n - (k + 1)) (Value.int .i64 0) := by
      rw [show n - k = (n - (k + 1)) + 1 by omega]; rfl
    rw [hr, List.set_cons_zero, List.take_succ_eq_append_getElem (by omega), List.map_append]
    have hg : zs.getD k 0 = zs[k]'(by omega) := by simp [List.getD, List.getElem?_eq_getElem (show k < zs.length by omega)]
    rw [hg]; simp
  rw [e] at h
  exact h.1

theorem copied_mk {w w' : World} {n : Nat} {zs : List Int} (hn : zs.length = n)
    (hown : w'.ownsRow w.heap.size 3 1 (.slice (some ⟨w.heap.size, 0, none⟩) n n) n (zs.map (Value.int .i64) ++ List.replicate 0 (Value.int .i64 0))) (hnx : Below w.heap.size w w') :
    Copied w zs (.returned (.slice (some ⟨w.heap.size, 0, none⟩) n n)) w' := by
  subst hn
  simp only [List.replicate_zero, List.append_nil] at hown
  exact ⟨w.heap.size, rfl, Nat.le_refl _, rdI_of_own hown rfl, hnx, hown⟩

set_option maxHeartbeats 400000 in
theorem toInt_any (A : Option Addr) (c : Nat) (n : Nat) (zs : List Int) (w : World) (hr : RdI w w.heap.size A zs) (hn : zs.length = n) (hb : n ≤ 1048576) :
    Calls Try.prog 37 #[.slice A n c] w (Copied w zs) := by
  obtain ⟨i0, hi0, hz0, hz1, hz2⟩ := info_parts intInfo
  have Hn := Lib.hid hn
  clear hn
  go_enter Try.func37, Try.ntmps37
  go_wp2_with (at_make; refine wpList_make_full _ rfl _ _ 23 rfl w.heap.size 3 i0 _ 1 Try.underlying23 hi0 hz0 hz1 _ _ _ _ n rfl rfl rfl rfl (by rw [hz2]; omega) (by unfold maxLen; omega) (Nat.le_refl _) ?_; intro w1 hown1 hg1)
  have hs1 : w.heap.size < w1.heap.size := (hown1.lt w.heap.size rfl).2
  have hnx1 : Below w.heap.size w w1 := (Below.refl _ _).grown hg1 (Nat.le_refl _) (fun j hj => by cases hj)
  rw [made_ints] at hown1
  go_loopw [4] (fun i wr => ∃ k : Nat, k ≤ n ∧ i = .int .i64 k ∧ wr.ownsRow w.heap.size 3 1 (.slice (some ⟨w.heap.size, 0, none⟩) n n) n ((zs.take k).map (Value.int .i64) ++ List.replicate (n - k) (Value.int .i64 0)) ∧ Below w.heap.size w wr)
    (fun i _ => n - (intOf i).toNat)
  case atStart => exact ⟨0, Nat.zero_le _, rfl, by simpa using hown1, hnx1⟩
  case round =>
    obtain ⟨k, hk, rfl, hown, hnx⟩ := hrel
    by_cases hlt : k < n
    · obtain ⟨b, off, rfl, hbw, hc⟩ := (hr.below hnx).at_ (k := k) (by rw [Hn.out]; exact hlt)
      have hst := toI_step Hn.out hlt hown
      have hcell : ∃ v, wr.cell? ⟨w.heap.size, k, none⟩ = some v := by
        rw [hown.cellAt k (by omega)]
        exact ⟨_, List.getElem?_eq_getElem (by simp [Hn.out]; omega)⟩
      obtain ⟨v, hv⟩ := hcell
      have hfz := hown.frozenAt k
      have Hst := Lib.hid hst
      clear hst
      go_wp2
      go_roundw
      case rel => exact ⟨k + 1, by omega, by go_num, Hst.out, hnx.setCell (Nat.le_refl _) _⟩
      case measure => simp [intOf]; omega
    · have hkn : k = n := by omega
      have hnn : n - k = 0 := by omega
      rw [hnn, List.take_of_length_le (by rw [Hn.out]; omega)] at hown
      have HO := Lib.hid hown
      clear hown hnn
      clear hkn
      go_wp2
      go_ret
      exact copied_mk Hn.out HO.out hnx
end Go.Proofs.Ythphboeboiallaa
