/-
  Slices of roads in the exact laws: how many there may be, their copy, their comparison.
  Conditions: the slice is shorter than 2^20 elements.
-/
import Derived.Test.YtoappopbjnlbdabUG
import Derived.Test.YtoappopbjnlbdabR2
import Derived.Deep.RegionWith
namespace Go.Proofs.Ytoappopbjnlbdab
open Go.ChangeShapes Go.WideShapes Go.ChangeAt Go.RowKit
set_option linter.unusedVariables false

theorem szR_any (A : Option Addr) (c n : Nat) (left : Int) (w : World) (hn : n ≤ 9223372036854775807) (hl : 0 ≤ left ∧ left ≤ 1048576) :
    Calls Try.prog 28 #[.slice A n c, .int .i64 left] w fun e w' => e = .returned (.int .i64 (if left < n then -1 else left - n)) ∧ w = w' := by
  by_cases h : left < n
  · have h' : left - n < 0 := by omega
    rw [if_pos h]
    go_enter Try.func28, Try.ntmps28
    go_wp2
    go_ret
    exact ⟨rfl, rfl⟩
  · have h' : ¬ left - n < 0 := by omega
    rw [if_neg h]
    go_enter Try.func28, Try.ntmps28
    go_wp2
    go_ret
    exact ⟨rfl, rfl⟩

theorem toRoad_any (x y : Int) (w : World) :
    Calls Try.prog 66 #[.agg #[.int .i64 x, .int .i64 y]] w fun e w' => e = .returned (.agg #[.int .i64 x, .int .i64 y]) ∧ Below w.heap.size w w' := by
  go_enter Try.func66, Try.ntmps66
  go_wp2
  exact bodyPost_ret (v := .agg #[.int .i64 x, .int .i64 y]) (by simp [results, Try.results66, go_sem]) rfl ⟨rfl, (((Below.refl _ _).alloc (Nat.le_refl _) _).alloc (by simp [go_sem]) _).alloc (by simp [go_sem]; omega) _⟩

theorem eqRoad_any (x y x' y' : Int) (w : World) :
    Calls Try.prog 67 #[.agg #[.int .i64 x, .int .i64 y], .agg #[.int .i64 x', .int .i64 y']] w fun e w' => e = .returned (.bool (decide (x = x') && decide (y = y'))) ∧ Below w.heap.size w w' := by
  by_cases h1 : x = x' <;> by_cases h2 : y = y'
  all_goals
    have g1 : (x != x') = !(decide (x = x')) := by by_cases h : x = x' <;> simp [h]
    have g2 : (y != y') = !(decide (y = y')) := by by_cases h : y = y' <;> simp [h]
    simp only [h1, h2, decide_true, decide_false, Bool.not_true, Bool.not_false] at g1 g2
    go_enter Try.func67, Try.ntmps67
    go_wp2
    go_ret
    exact ⟨ret_bool (by simp [h1, h2]), ((Below.refl _ _).alloc (Nat.le_refl _) _).alloc (by simp [go_sem]) _⟩

theorem eqRoad_yes (x y x' y' : Int) (w : World) (h1 : x = x') (h2 : y = y') :
    Calls Try.prog 67 #[.agg #[.int .i64 x, .int .i64 y], .agg #[.int .i64 x', .int .i64 y']] w fun e w' => e = .returned (.bool true) ∧ Below w.heap.size w w' :=
  (eqRoad_any x y x' y' w).mono fun _ _ ⟨he, hw⟩ => ⟨by rw [he]; simp [h1, h2], hw⟩
theorem eqRoad_no (x y x' y' : Int) (w : World) (h : x ≠ x' ∨ y ≠ y') :
    Calls Try.prog 67 #[.agg #[.int .i64 x, .int .i64 y], .agg #[.int .i64 x', .int .i64 y']] w fun e w' => e = .returned (.bool false) ∧ Below w.heap.size w w' :=
  (eqRoad_any x y x' y' w).mono fun _ _ ⟨he, hw⟩ => ⟨by rw [he]; rcases h with h | h <;> simp [h], hw⟩
/-- A copy of roads in a new block. -/
def CopiedR (w : World) (ts : List (Int × Int)) (e : Ending) (w' : World) : Prop :=
  ∃ b, e = .returned (.slice (some ⟨b, 0, none⟩) ts.length ts.length) ∧ w.heap.size ≤ b ∧ RdR w' w'.heap.size (some ⟨b, 0, none⟩) ts ∧ Below w.heap.size w w' ∧ w'.ownsRow w.heap.size 34 2 (.slice (some ⟨b, 0, none⟩) ts.length ts.length) ts.length ((flat ts).map (Value.int .i64))
theorem roadInfo : (Try.prog.info? 34).map (fun i => (i.zero, i.size, i.bytes)) = some (some (.agg #[.int .i64 0, .int .i64 0]), 2, 16) := by kernel_rfl
theorem made_two (n : Nat) : (madeCells (Value.agg #[.int .i64 0, .int .i64 0]).cells (n * 2)).toList = List.replicate (n * 2) (Value.int .i64 0) := by
  apply List.ext_getElem?
  intro j
  by_cases hj : j < n * 2
  · have h2 : j % 2 = 0 ∨ j % 2 = 1 := by omega
    rcases h2 with h2 | h2 <;> simp [madeCells, Value.cells, hj, h2]
  · simp [madeCells, hj]
set_option maxHeartbeats 400000 in
theorem toR_any (A : Option Addr) (c : Nat) (n : Nat) (ts : List (Int × Int)) (w : World) (hr : RdR w w.heap.size A ts) (hn : ts.length = n) (hb : n ≤ 1048576) :
    Calls Try.prog 29 #[.slice A n c] w (CopiedR w ts) := by
  obtain ⟨i0, hi0, hz0, hz1, hz2⟩ := info_parts roadInfo
  have Hn := Lib.hid hn
  have HL := Lib.hid (show (flat ts).length = n * 2 by rw [flat_len, hn])
  clear hn
  go_enter Try.func29, Try.ntmps29
  go_wp2_with (at_make; refine wpList_make_full _ rfl _ _ 23 rfl w.heap.size 34 i0 _ 2 Try.underlying23 hi0 hz0 hz1 _ _ _ _ n rfl rfl rfl rfl (by rw [hz2]; omega) (by unfold maxLen; omega) (Nat.le_refl _) ?_; intro w1 hown1 hg1)
  have hs1 : w.heap.size < w1.heap.size := (hown1.lt w.heap.size rfl).2
  have hnx1 : Below w.heap.size w w1 := (Below.refl _ _).grown hg1 (Nat.le_refl _) (fun j hj => by cases hj)
  rw [made_two] at hown1
  go_loopw [4] (fun i wr => ∃ k : Nat, k ≤ n ∧ i = .int .i64 k ∧ wr.ownsRow w.heap.size 34 2 (.slice (some ⟨w.heap.size, 0, none⟩) n n) n (fillL (flat ts) (k * 2)) ∧ Below w.heap.size w wr)
    (fun i _ => n - (intOf i).toNat)
  case atStart => exact ⟨0, Nat.zero_le _, rfl, by simpa [fillL, HL.out] using hown1, hnx1⟩
  case round =>
    obtain ⟨k, hk, rfl, hown, hnx⟩ := hrel
    by_cases hlt : k < n
    · obtain ⟨b, off, x, y, rfl, hbw, Hx, hcx, hcy⟩ := (hr.below hnx).x (k := k) (by rw [Hn.out]; exact hlt)
      go_wp2_with fail
      refine (toRoad_any x y wr).mono ?_
      rintro e wr2 ⟨rfl, hnx2⟩
      have hnx3 := hnx.trans (hnx2.mono hnx.size)
      have hown2 : wr2.ownsRow w.heap.size 34 2 (.slice (some ⟨w.heap.size, 0, none⟩) n n) n (fillL (flat ts) (k * 2)) := ownN_below hown hnx2
      obtain ⟨v1, hv1⟩ := own_cell hown2 (j := k * 2) (by omega) (by rw [fillL_len _ (by rw [HL.out]; omega)]; exact HL.out)
      obtain ⟨v2, hv2⟩ := own_cell hown2 (j := k * 2 + 1) (by omega) (by rw [fillL_len _ (by rw [HL.out]; omega)]; exact HL.out)
      have hf1 := hown2.frozenAt (k * 2)
      have hf2 := hown2.frozenAt (k * 2 + 1)
      have HS := Lib.hid (fill_step (by rw [HL.out]; omega) (fill_step (by rw [HL.out]; omega) hown2))
      have HB := Lib.hid hnx3
      clear hown2 hnx3 hnx2 hown hnx hcx hcy
      go_wp2
      go_roundw
      case rel => exact ⟨k + 1, by omega, by go_num, by have h := HS.out; rw [flat_to _ _ (by rw [Hn.out]; omega), flat_long _ _ (by rw [Hn.out]; omega), Hx.out] at h; rw [show (k + 1) * 2 = k * 2 + 1 + 1 by omega]; exact h, (HB.out.setCell (Nat.le_refl _) _).setCell (Nat.le_refl _) _⟩
      case measure => simp [intOf]; omega
    · have HO := Lib.hid hown
      clear hown
      go_wp2
      go_ret
      have hkn : k = n := by omega
      subst hkn
      have ho := HO.out
      rw [fillL_all _ (by rw [HL.out]; omega)] at ho
      have hn := Hn.out
      subst hn
      exact ⟨w.heap.size, rfl, Nat.le_refl _, rdI_of_ownN ho HL.out, hnx, ho⟩

theorem eqRd_no {k : Nat} {ts ts' : List (Int × Int)} (e : ¬ ts.getD k (-1, 0) = ts'.getD k (-1, 0)) : (ts == ts') = false := by
  rw [beq_eq_false_iff_ne]
  rintro rfl
  exact e rfl
theorem eqRd_end {n k : Nat} {ts ts' : List (Int × Int)} (h : ∀ i, i < k → ts.getD i (-1, 0) = ts'.getD i (-1, 0)) (hn : ts.length = n) (hn' : ts'.length = n) (hk : n ≤ k) : (ts == ts') = true := by
  have e : ts = ts' := by
    apply List.ext_getElem (by omega)
    intro i h1 h2
    have := h i (by omega)
    simpa [List.getD, List.getElem?_eq_getElem h1, List.getElem?_eq_getElem h2] using this
  rw [e]; simp

set_option maxHeartbeats 800000 in
theorem eqR_any (A A' : Option Addr) (c c' n n' : Nat) (ts ts' : List (Int × Int)) (w : World) (B B' : Nat) (hr : RdR w B A ts) (hn : ts.length = n) (hr' : RdR w B' A' ts') (hn' : ts'.length = n') (hb : n ≤ 1048576) (hB : B ≤ w.heap.size) (hB' : B' ≤ w.heap.size) :
    Calls Try.prog 30 #[.slice A n c, .slice A' n' c'] w fun e w' => e = .returned (.bool (ts == ts')) ∧ Below w.heap.size w w' := by
  by_cases hnn : n = n'
  · subst hnn
    have Hn := Lib.hid hn
    have Hn' := Lib.hid hn'
    clear hn hn'
    go_enter Try.func30, Try.ntmps30
    go_wp2
    go_loopw [5] (fun i wr => ∃ k : Nat, k ≤ n ∧ Hid (∀ i, i < k → ts.getD i (-1, 0) = ts'.getD i (-1, 0)) ∧ i = .int .i64 k ∧ Below w.heap.size w wr) (fun i wr => n - (intOf i).toNat)
    case atStart => exact ⟨0, Nat.zero_le _, fun i hi => by omega, rfl, Below.refl _ _⟩
    case round =>
      obtain ⟨k, hk, Hk, rfl, hnx⟩ := hrel
      by_cases hlt : k < n
      · obtain ⟨b, off, x, y, rfl, hbw, Hx, hcx, hcy⟩ := (hr.below (hnx.mono hB)).x (k := k) (by rw [Hn.out]; exact hlt)
        obtain ⟨b', off', x', y', rfl, hbw', Hy, hcx', hcy'⟩ := (hr'.below (hnx.mono hB')).x (k := k) (by rw [Hn'.out]; exact hlt)
        go_wp2_with fail
        by_cases he : x = x' ∧ y = y'
        · have Hs := Lib.hid (show ∀ i, i < k + 1 → ts.getD i (-1, 0) = ts'.getD i (-1, 0) from fun i hi => by
            by_cases e : i = k
            · rw [e, Hx.out, Hy.out, he.1, he.2]
            · exact Hk.out i (by omega))
          obtain ⟨rfl, rfl⟩ := he
          go_region_with (go_at_call 67; refine (eqRoad_yes x y x y _ rfl rfl).mono ?_; rintro e wr2 ⟨rfl, hnx2⟩)
          all_goals
            have hnx3 := hnx.trans ((belowd hnx2).mono hnx.size)
            go_wp2
            go_roundw
            case rel => exact ⟨k + 1, by omega, Hs, by go_num, hnx3⟩
            case measure => simp [intOf]; omega
        · have Hs := Lib.hid (eqRd_no (ts := ts) (ts' := ts') (k := k) (by rw [Hx.out, Hy.out]; intro h; exact he ⟨congrArg Prod.fst h, congrArg Prod.snd h⟩))
          have he' := Lib.hid (show x ≠ x' ∨ y ≠ y' by omega)
          clear he
          go_region_with (go_at_call 67; refine (eqRoad_no x y x' y' _ he'.out).mono ?_; rintro e wr2 ⟨rfl, hnx2⟩)
          all_goals
            have hnx3 := hnx.trans ((belowd hnx2).mono hnx.size)
            go_wp2
            go_ret
            exact ⟨ret_bool Hs.out.symm, hnx3⟩
      · have hs := eqRd_end Hk.out Hn.out Hn'.out (by omega)
        have Hs := Lib.hid hs
        clear hs
        go_wp2
        go_ret
        exact ⟨ret_bool Hs.out.symm, hnx⟩
  · have hs : (ts == ts') = false := by
      rw [beq_eq_false_iff_ne]
      rintro rfl
      omega
    have hb1 : ((n : Int) != (n' : Int)) = true := by rw [bne_iff_ne]; omega
    have Hs := Lib.hid hs
    clear hs hn hn' hnn
    go_enter Try.func30, Try.ntmps30
    go_wp2
    go_ret
    exact ⟨ret_bool Hs.out.symm, Below.refl _ _⟩
end Go.Proofs.Ytoappopbjnlbdab
