/-
  Repeat of a slice of ints.
  Conditions: as each theorem states.
-/
import Derived.Test.YtoohfipicmdohabK4
namespace Go.Proofs.Ytoohfipicmdohab
open Go.ChangeShapes Go.WideShapes Go.ChangeAt Go.RowKit
set_option linter.unusedVariables false
set_option maxRecDepth 20000

def OwnedList (w : World) (zs : List Int) (e : Ending) (w' : World) : Prop :=
  ∃ v, e = .returned v ∧ w'.ownsRow w.heap.size 3 1 v zs.length (zs.map (Value.int .i64)) ∧ Below w.heap.size w w'

theorem splice_rep (x : Int) (L m j : Nat) (hm : m + j ≤ L) : splice (List.replicate m (Value.int .i64 x) ++ List.replicate (L - m) (Value.int .i64 0)) m (List.replicate j (Value.int .i64 x)) = List.replicate (m + j) (Value.int .i64 x) ++ List.replicate (L - (m + j)) (Value.int .i64 0) := by
  unfold splice
  rw [List.take_append_of_le_length (by simp), List.take_of_length_le (by simp), List.drop_append]
  simp only [List.length_replicate, List.drop_replicate]
  rw [show m - (m + j) = 0 by omega, show L - m - (m + j - m) = L - (m + j) by omega]
  simp only [List.replicate_zero, List.nil_append]
  rw [← List.append_assoc, List.replicate_append_replicate]
theorem mul_one_any (L : Nat) (hL : L ≤ 1000) (w : World) :
    Calls Try.prog 56 #[.int .u64 1, .int .u64 L] w fun e w' => e = .returned (.tuple #[.int .u64 0, .int .u64 (L : Int)]) ∧ w = w' := by
  have h := mul_small 1 L (by omega) hL w
  rw [Nat.one_mul] at h
  exact h

theorem own_block {w : World} {B b n : Nat} {xs : List Value} (h : w.ownsRow B 3 1 (.slice (some ⟨b, 0, none⟩) n n) n xs) : w.heap[b]? = some (.cells xs.toArray 3 (0, 0)) := by
  obtain ⟨h0, h1⟩ := h
  rcases h1 with ⟨h1, _⟩ | ⟨g, cap, cur, hv, _, hh, _, _, hs, ht⟩
  · cases h1
  · injection hv with h1 h2 h3
    injection h1 with h1
    injection h1 with h1
    subst h1 h3
    have : cur = xs.toArray := by
      rw [List.take_of_length_le (by rw [Array.length_toList, hs]; exact Nat.le_refl _)] at ht
      rw [← ht]
    rw [← this]
    exact hh
theorem intSize : (Try.prog.info? 3).map (·.size) = some 1 := by kernel_rfl
theorem rep_min {L : Nat} (h : 1 ≤ L) {x : Int} : ([Value.int .i64 x]).length = Nat.min 1 L := by
  show 1 = min 1 L
  omega
theorem rep_fit {L : Nat} (h : 1 ≤ L) {x : Int} : 0 + ([Value.int .i64 x]).length ≤ (List.replicate L (Value.int .i64 0)).length := by simp; omega
theorem one_cell {w : World} {g : Nat} {x : Int} (h : w.cell? ⟨g, 0, none⟩ = some (.int .i64 x)) : ∀ j v, ([Value.int .i64 x])[j]? = some v → w.cell? ((⟨g, 0, none⟩ : Addr).add j) = some v := by
  intro j v hj
  match j, hj with
  | 0, hj => simp at hj; subst hj; simpa [Addr.add] using h
theorem one_one (x : Int) : ∀ v ∈ [Value.int .i64 x], v.oneCell' = true := by intro v hv; simp at hv; subst hv; rfl

theorem rep_made {w w1 : World} {L g : Nat} {x : Int} (hown1 : w1.ownsRow w.heap.size 3 1 (.slice (some ⟨w.heap.size, 0, none⟩) L L) L (madeCells (Value.int .i64 0).cells (L * 1)).toList) (hg1 : w.grownBy w1 none)
    (hg : g < w.heap.size) (hc : w.cell? ⟨g, 0, none⟩ = some (.int .i64 x)) :
    Hid (w1.heap[w.heap.size]? = some (.cells (List.replicate L (Value.int .i64 0)).toArray 3 (0, 0))) ∧ Hid (w1.cell? ⟨g, 0, none⟩ = some (.int .i64 x)) ∧ Below w.heap.size w w1 := by
  have hblk := own_block hown1
  rw [made_ints] at hblk
  have hnx1 : Below w.heap.size w w1 := (Below.refl _ _).grown hg1 (Nat.le_refl _) (fun j hj => by cases hj)
  exact ⟨hblk, (hnx1.cell (p := ⟨g, 0, none⟩) hg).trans hc, hnx1⟩

def reps (x : Int) (L m : Nat) : List Value := List.replicate m (Value.int .i64 x) ++ List.replicate (L - m) (Value.int .i64 0)
theorem reps_one (x : Int) {L : Nat} (h : 1 ≤ L) : splice (List.replicate L (Value.int .i64 0)) 0 [.int .i64 x] = reps x L 1 := by
  have := splice_rep x L 0 1 (by omega)
  simpa [reps] using this
theorem reps_length (x : Int) {L m : Nat} (h : m ≤ L) : (reps x L m).length = L := by simp [reps]; omega
theorem reps_min (x : Int) (m L : Nat) : (List.replicate (min m (L - m)) (Value.int .i64 x)).length = Nat.min m (L - m) := by exact List.length_replicate
theorem reps_fit (x : Int) {m L : Nat} (h : m ≤ L) : m + (List.replicate (min m (L - m)) (Value.int .i64 x)).length ≤ (reps x L m).length := by
  rw [reps_length x h, List.length_replicate]; omega
theorem reps_oneCell (x : Int) (j : Nat) : ∀ v ∈ List.replicate j (Value.int .i64 x), v.oneCell' = true := by
  intro v hv; rw [List.eq_of_mem_replicate hv]; rfl
theorem reps_cells {w : World} {b L m j : Nat} {x : Int} (h : w.heap[b]? = some (.cells (reps x L m).toArray 3 (0, 0))) (hj : j ≤ m) :
    ∀ i v, (List.replicate j (Value.int .i64 x))[i]? = some v → w.cell? ((⟨b, 0, none⟩ : Addr).add i) = some v := by
  intro i v hv
  have hi : i < j := by have := (List.getElem?_eq_some_iff.1 hv).1; simpa using this
  have he : (⟨b, 0, none⟩ : Addr).add i = ⟨b, i, none⟩ := by unfold Addr.add; split <;> simp_all
  rw [List.getElem?_replicate, if_pos hi] at hv
  rw [he, cell_of_row _ _ _ _ _ _ h, ← hv]
  simp [reps, List.getElem?_append_left (show i < (List.replicate m (Value.int .i64 x)).length by simp; omega), show i < m by omega]

theorem reps_done {w wr : World} {x : Int} {m : Nat} (h : wr.heap[w.heap.size]? = some (.cells (reps x m m).toArray 3 (0, 0))) (hnx : Below w.heap.size w wr) (hm : m ≤ 1000) :
    OwnedList w (List.replicate m x) (.returned (.slice (some ⟨w.heap.size, 0, none⟩) m m)) wr := by
  have e : reps x m m = (List.replicate m x).map (Value.int .i64) := by simp [reps]
  refine ⟨_, rfl, ⟨by simp, .inr ⟨w.heap.size, m, _, by simp, Nat.le_refl _, h, by simp, by unfold maxLen; omega, ?_, ?_⟩⟩, hnx⟩
  · rw [List.size_toArray, reps_length x (Nat.le_refl _), Nat.mul_one]
  · rw [e]
    rw [List.take_of_length_le (by simp)]

set_option maxHeartbeats 400000 in
theorem repeat_any (g L : Nat) (x : Int) (w : World) (hL : 1 ≤ L) (hL2 : L ≤ 1000) (hg : g < w.heap.size) (hc : w.cell? ⟨g, 0, none⟩ = some (.int .i64 x)) :
    Calls Try.prog 40 #[.slice (some ⟨g, 0, none⟩) 1 1, .int .i64 (L : Int)] w (OwnedList w (List.replicate L x)) := by
  obtain ⟨i0, hi0, hz0, hz1, hz2⟩ := info_parts intInfo
  go_enter Try.func40, Try.ntmps40
  go_wp2_with fail
  refine (mul_one_any L hL2 w).mono ?_
  rintro e w' ⟨rfl, rfl⟩
  go_wp2_with (first
    | (at_make; refine wpList_make_full _ rfl _ _ 23 rfl w.heap.size 3 i0 _ 1 Try.underlying23 hi0 hz0 hz1 _ _ _ _ L rfl rfl rfl rfl (by rw [hz2]; omega) (by unfold maxLen; omega) (Nat.le_refl _) ?_; intro w1 hown1 hg1; obtain ⟨Hblk, Hcx, hnx1⟩ := rep_made hown1 hg1 hg hc; clear hown1 hg1)
    | (with_reducible refine wpList_copy_splice rfl (.tmp 31) (.tmp 32) 23 23 rfl 3 Try.underlying23 intSize _ _ L L 1 1 rfl rfl w.heap.size 0 (List.replicate L (Value.int .i64 0)) 3 Hblk.out [.int .i64 x] (rep_min hL) (fun _ => ⟨rfl, _, rfl, one_cell Hcx.out⟩) (rep_fit hL) (one_one x) w.heap.size w hnx1 (Nat.le_refl _) ?_; intro w2 hb2 hnx2))
  have hb2' : w2.heap[w.heap.size]? = some (.cells (reps x L 1).toArray 3 (0, 0)) := by rw [← reps_one x hL]; exact hb2
  have Hb2 := Lib.hid hb2'
  clear hb2 hb2'
  go_loopw [8] (fun i wr => ∃ m : Nat, 1 ≤ m ∧ m ≤ L ∧ i = .int .i64 m ∧ Hid (wr.heap[w.heap.size]? = some (.cells (reps x L m).toArray 3 (0, 0))) ∧ Below w.heap.size w wr) (fun i _ => L - (intOf i).toNat)
  case atStart => exact ⟨1, Nat.le_refl _, hL, rfl, Hb2, hnx2⟩
  case round =>
    clear Hb2 hnx2
    obtain ⟨m, hm1, hm2, rfl, Hb, hnx⟩ := hrel
    by_cases hlt : m < L
    · have hLm : ¬ L = m := by omega
      have hj : min m (L - m) ≤ L - m := Nat.min_le_right _ _
      have hj1 : 1 ≤ min m (L - m) := by omega
      have HbD : Hid (wr.drew.heap[w.heap.size]? = some (.cells (reps x L m).toArray 3 (0, 0))) := Hb
      go_wp2
      go_region_law (refine step_copy_splice rfl (.tmp 41) (.tmp 44) 23 23 rfl 3 Try.underlying23 intSize (some ⟨w.heap.size, m, none⟩) (some ⟨w.heap.size, 0, none⟩) (L - m) (L - m) m L (by go_simp) (by go_simp) w.heap.size m (reps x L m) 3 HbD.out (List.replicate (min m (L - m)) (Value.int .i64 x)) (reps_min x m L) (fun _ => ⟨rfl, _, rfl, reps_cells HbD.out (Nat.min_le_left _ _)⟩) (reps_fit x hm2) (reps_oneCell x _) w.heap.size w hnx.drew (Nat.le_refl _) ?_; intro w4 hg4 hb4)
      have hb5 : w4.heap[w.heap.size]? = some (.cells (reps x L (m + min m (L - m))).toArray 3 (0, 0)) := by
        have h := hg4.out
        rw [show splice (reps x L m) m (List.replicate (min m (L - m)) (Value.int .i64 x)) = reps x L (m + min m (L - m)) from splice_rep x L m _ (by omega)] at h
        exact h
      have Hb5 := Lib.hid hb5
      clear hb5 hg4
      generalize hjj : min m (L - m) = j at *
      have Hjj := Lib.hid hjj
      clear hjj
      have hw : IntKind.i64.wrap ((m : Int) + (j : Int)) = (m : Int) + (j : Int) := IntWalk.i64_in _ (by omega)
      rw [hw]
      clear hw
      go_simp
      go_wp2
      go_roundw
      case rel => exact ⟨m + j, by omega, by omega, by go_num, Hb5, hb4⟩
      case measure => simp [intOf]; omega
    · obtain rfl : m = L := by omega
      go_wp2
      go_ret
      exact reps_done Hb.out hnx hL2
end Go.Proofs.Ytoohfipicmdohab
