/-
  Slices of streets in the exact laws: how many there may be, their copy, their comparison.
  Conditions: the slice is shorter than 2^20 elements.
-/
import Derived.Test.YtiblcmeoneolcaaUG
import Derived.Test.YtiblcmeoneolcaaB1
import Derived.Deep.RegionWith
namespace Go.Proofs.Ytiblcmeoneolcaa
open Go.ChangeShapes Go.WideShapes Go.ChangeAt Go.RowKit
set_option linter.unusedVariables false

theorem szS_any (A : Option Addr) (c n : Nat) (left : Int) (w : World) (hn : n ≤ 9223372036854775807) (hl : 0 ≤ left ∧ left ≤ 1048576) :
    Calls Try.prog 18 #[.slice A n c, .int .i64 left] w fun e w' => e = .returned (.int .i64 (if left < n then -1 else left - n)) ∧ w = w' := by
  by_cases h : left < n
  · have h' : left - n < 0 := by omega
    rw [if_pos h]
    go_enter Try.func18, Try.ntmps18
    go_wp2
    go_ret
    exact ⟨rfl, rfl⟩
  · have h' : ¬ left - n < 0 := by omega
    rw [if_neg h]
    go_enter Try.func18, Try.ntmps18
    go_wp2
    go_ret
    exact ⟨rfl, rfl⟩

theorem toStr_any (x y z : Int) (w : World) :
    Calls Try.prog 53 #[.agg #[.int .i64 x, .int .i64 y, .int .i64 z]] w fun e w' => e = .returned (.agg #[.int .i64 x, .int .i64 y, .int .i64 z]) ∧ Below w.heap.size w w' := by
  go_enter Try.func53, Try.ntmps53
  go_wp2
  exact bodyPost_ret (v := .agg #[.int .i64 x, .int .i64 y, .int .i64 z]) (by simp [results, Try.results53, go_sem]) rfl ⟨rfl, (((Below.refl _ _).alloc (Nat.le_refl _) _).alloc (by simp [go_sem]) _).alloc (by simp [go_sem]; omega) _⟩

theorem eqStr_any (x y z x' y' z' : Int) (w : World) :
    Calls Try.prog 57 #[.agg #[.int .i64 x, .int .i64 y, .int .i64 z], .agg #[.int .i64 x', .int .i64 y', .int .i64 z']] w fun e w' => e = .returned (.bool (decide (x = x') && (decide (y = y') && decide (z = z')))) ∧ Below w.heap.size w w' := by
  by_cases h1 : x = x' <;> by_cases h2 : y = y' <;> by_cases h3 : z = z'
  all_goals
    have g1 : (x != x') = !(decide (x = x')) := by by_cases h : x = x' <;> simp [h]
    have g2 : (y != y') = !(decide (y = y')) := by by_cases h : y = y' <;> simp [h]
    have g3 : (z != z') = !(decide (z = z')) := by by_cases h : z = z' <;> simp [h]
    simp only [h1, h2, h3, decide_true, decide_false, Bool.not_true, Bool.not_false] at g1 g2 g3
    go_enter Try.func57, Try.ntmps57
    go_wp2
    go_ret
    exact ⟨ret_bool (by simp [h1, h2, h3]), ((Below.refl _ _).alloc (Nat.le_refl _) _).alloc (by simp [go_sem]) _⟩

theorem eqStr_yes (x y z x' y' z' : Int) (w : World) (h1 : x = x') (h2 : y = y') (h3 : z = z') :
    Calls Try.prog 57 #[.agg #[.int .i64 x, .int .i64 y, .int .i64 z], .agg #[.int .i64 x', .int .i64 y', .int .i64 z']] w fun e w' => e = .returned (.bool true) ∧ Below w.heap.size w w' :=
  (eqStr_any x y z x' y' z' w).mono fun _ _ ⟨he, hw⟩ => ⟨by rw [he]; simp [h1, h2, h3], hw⟩
theorem eqStr_no (x y z x' y' z' : Int) (w : World) (h : x ≠ x' ∨ y ≠ y' ∨ z ≠ z') :
    Calls Try.prog 57 #[.agg #[.int .i64 x, .int .i64 y, .int .i64 z], .agg #[.int .i64 x', .int .i64 y', .int .i64 z']] w fun e w' => e = .returned (.bool false) ∧ Below w.heap.size w w' :=
  (eqStr_any x y z x' y' z' w).mono fun _ _ ⟨he, hw⟩ => ⟨by rw [he]; rcases h with h | h | h <;> simp [h], hw⟩
/-- A copy of streets in a new block. -/
def CopiedS (w : World) (ts : List Str) (e : Ending) (w' : World) : Prop :=
  ∃ b, e = .returned (.slice (some ⟨b, 0, none⟩) ts.length ts.length) ∧ w.heap.size ≤ b ∧ RdS w' w'.heap.size (some ⟨b, 0, none⟩) ts ∧ Below w.heap.size w w' ∧ w'.ownsRow w.heap.size 45 3 (.slice (some ⟨b, 0, none⟩) ts.length ts.length) ts.length ((flat3 ts).map (Value.int .i64))
theorem strInfo : (Try.prog.info? 45).map (fun i => (i.zero, i.size, i.bytes)) = some (some (.agg #[.int .i64 0, .int .i64 0, .int .i64 0]), 3, 24) := by kernel_rfl
theorem made_three (n : Nat) : (madeCells (Value.agg #[.int .i64 0, .int .i64 0, .int .i64 0]).cells (n * 3)).toList = List.replicate (n * 3) (Value.int .i64 0) := by
  apply List.ext_getElem?
  intro j
  by_cases hj : j < n * 3
  · have h3 : j % 3 = 0 ∨ j % 3 = 1 ∨ j % 3 = 2 := by omega
    rcases h3 with h3 | h3 | h3 <;> simp [madeCells, Value.cells, hj, h3]
  · simp [madeCells, hj]
set_option maxHeartbeats 400000 in
theorem toS_any (A : Option Addr) (c : Nat) (n : Nat) (ts : List Str) (w : World) (hr : RdS w w.heap.size A ts) (hn : ts.length = n) (hb : n ≤ 1048576) :
    Calls Try.prog 20 #[.slice A n c] w (CopiedS w ts) := by
  obtain ⟨i0, hi0, hz0, hz1, hz2⟩ := info_parts strInfo
  have Hn := Lib.hid hn
  have HL := Lib.hid (show (flat3 ts).length = n * 3 by rw [flat3_len, hn])
  clear hn
  go_enter Try.func20, Try.ntmps20
  go_wp2_with (at_make; refine wpList_make_full _ rfl _ _ 25 rfl w.heap.size 45 i0 _ 3 Try.underlying25 hi0 hz0 hz1 _ _ _ _ n rfl rfl rfl rfl (by rw [hz2]; omega) (by unfold maxLen; omega) (Nat.le_refl _) ?_; intro w1 hown1 hg1)
  have hs1 : w.heap.size < w1.heap.size := (hown1.lt w.heap.size rfl).2
  have hnx1 : Below w.heap.size w w1 := (Below.refl _ _).grown hg1 (Nat.le_refl _) (fun j hj => by cases hj)
  rw [made_three] at hown1
  go_loopw [4] (fun i wr => ∃ k : Nat, k ≤ n ∧ i = .int .i64 k ∧ wr.ownsRow w.heap.size 45 3 (.slice (some ⟨w.heap.size, 0, none⟩) n n) n (fillL (flat3 ts) (k * 3)) ∧ Below w.heap.size w wr)
    (fun i _ => n - (intOf i).toNat)
  case atStart => exact ⟨0, Nat.zero_le _, rfl, by simpa [fillL, HL.out] using hown1, hnx1⟩
  case round =>
    obtain ⟨k, hk, rfl, hown, hnx⟩ := hrel
    by_cases hlt : k < n
    · obtain ⟨b, off, x, y, z, rfl, hbw, Hx, hcx, hcy, hcz⟩ := (hr.below hnx).x (k := k) (by rw [Hn.out]; exact hlt)
      go_wp2_with fail
      refine (toStr_any x y z wr).mono ?_
      rintro e wr2 ⟨rfl, hnx2⟩
      have hnx3 := hnx.trans (hnx2.mono hnx.size)
      have hown2 : wr2.ownsRow w.heap.size 45 3 (.slice (some ⟨w.heap.size, 0, none⟩) n n) n (fillL (flat3 ts) (k * 3)) := ownN_below hown hnx2
      obtain ⟨v1, hv1⟩ := own_cell hown2 (j := k * 3) (by omega) (by rw [fillL_len _ (by rw [HL.out]; omega)]; exact HL.out)
      obtain ⟨v2, hv2⟩ := own_cell hown2 (j := k * 3 + 1) (by omega) (by rw [fillL_len _ (by rw [HL.out]; omega)]; exact HL.out)
      obtain ⟨v3, hv3⟩ := own_cell hown2 (j := k * 3 + 2) (by omega) (by rw [fillL_len _ (by rw [HL.out]; omega)]; exact HL.out)
      have hf1 := hown2.frozenAt (k * 3)
      have hf2 := hown2.frozenAt (k * 3 + 1)
      have hf3 := hown2.frozenAt (k * 3 + 2)
      have HS := Lib.hid (fill_step (by rw [HL.out]; omega) (fill_step (by rw [HL.out]; omega) (fill_step (by rw [HL.out]; omega) hown2)))
      have HB := Lib.hid hnx3
      clear hown2 hnx3 hnx2 hown hnx hcx hcy hcz
      go_wp2
      go_roundw
      case rel => exact ⟨k + 1, by omega, by go_num, by have h := HS.out; rw [flat3_0 _ _ (by rw [Hn.out]; omega), flat3_1 _ _ (by rw [Hn.out]; omega), flat3_2 _ _ (by rw [Hn.out]; omega), Hx.out] at h; rw [show (k + 1) * 3 = k * 3 + 1 + 1 + 1 by omega]; exact h, ((HB.out.setCell (Nat.le_refl _) _).setCell (Nat.le_refl _) _).setCell (Nat.le_refl _) _⟩
      case measure => simp [intOf]; omega
    · have HO := Lib.hid hown
      clear hown
      go_wp2
      go_ret
      have hkn : k = n := by omega
      subst hkn
      have ho := HO.out
      rw [fillL_all _ (by rw [HL.out]; omega)] at ho
      have hn := Hn.out
      subst hn
      exact ⟨w.heap.size, rfl, Nat.le_refl _, rdI_of_ownN ho HL.out, hnx, ho⟩

theorem eqSt_no {k : Nat} {ts ts' : List Str} (e : ¬ ts.getD k str0 = ts'.getD k str0) : (ts == ts') = false := by
  rw [beq_eq_false_iff_ne]
  rintro rfl
  exact e rfl
theorem eqSt_end {n k : Nat} {ts ts' : List Str} (h : ∀ i, i < k → ts.getD i str0 = ts'.getD i str0) (hn : ts.length = n) (hn' : ts'.length = n) (hk : n ≤ k) : (ts == ts') = true := by
  have e : ts = ts' := by
    apply List.ext_getElem (by omega)
    intro i h1 h2
    have := h i (by omega)
    simpa [List.getD, List.getElem?_eq_getElem h1, List.getElem?_eq_getElem h2] using this
  rw [e]; simp

set_option maxHeartbeats 800000 in
theorem eqS_any (A A' : Option Addr) (c c' n n' : Nat) (ts ts' : List Str) (w : World) (B B' : Nat) (hr : RdS w B A ts) (hn : ts.length = n) (hr' : RdS w B' A' ts') (hn' : ts'.length = n') (hb : n ≤ 1048576) (hB : B ≤ w.heap.size) (hB' : B' ≤ w.heap.size) :
    Calls Try.prog 22 #[.slice A n c, .slice A' n' c'] w fun e w' => e = .returned (.bool (ts == ts')) ∧ Below w.heap.size w w' := by
  by_cases hnn : n = n'
  · subst hnn
    have Hn := Lib.hid hn
    have Hn' := Lib.hid hn'
    clear hn hn'
    go_enter Try.func22, Try.ntmps22
    go_wp2
    go_loopw [5] (fun i wr => ∃ k : Nat, k ≤ n ∧ Hid (∀ i, i < k → ts.getD i str0 = ts'.getD i str0) ∧ i = .int .i64 k ∧ Below w.heap.size w wr) (fun i wr => n - (intOf i).toNat)
    case atStart => exact ⟨0, Nat.zero_le _, fun i hi => by omega, rfl, Below.refl _ _⟩
    case round =>
      obtain ⟨k, hk, Hk, rfl, hnx⟩ := hrel
      by_cases hlt : k < n
      · obtain ⟨b, off, x, y, z, rfl, hbw, Hx, hcx, hcy, hcz⟩ := (hr.below (hnx.mono hB)).x (k := k) (by rw [Hn.out]; exact hlt)
        obtain ⟨b', off', x', y', z', rfl, hbw', Hy, hcx', hcy', hcz'⟩ := (hr'.below (hnx.mono hB')).x (k := k) (by rw [Hn'.out]; exact hlt)
        go_wp2_with fail
        by_cases he : x = x' ∧ y = y' ∧ z = z'
        · have Hs := Lib.hid (show ∀ i, i < k + 1 → ts.getD i str0 = ts'.getD i str0 from fun i hi => by
            by_cases e : i = k
            · rw [e, Hx.out, Hy.out, he.1, he.2.1, he.2.2]
            · exact Hk.out i (by omega))
          obtain ⟨rfl, rfl, rfl⟩ := he
          go_region_with (go_at_call 57; refine (eqStr_yes x y z x y z _ rfl rfl rfl).mono ?_; rintro e wr2 ⟨rfl, hnx2⟩)
          all_goals
            have hnx3 := hnx.trans ((belowd hnx2).mono hnx.size)
            go_wp2
            go_roundw
            case rel => exact ⟨k + 1, by omega, Hs, by go_num, hnx3⟩
            case measure => simp [intOf]; omega
        · have Hs := Lib.hid (eqSt_no (ts := ts) (ts' := ts') (k := k) (by rw [Hx.out, Hy.out]; intro h; exact he ⟨congrArg Prod.fst h, congrArg (fun p => p.2.1) h, congrArg (fun p => p.2.2) h⟩))
          have he' := Lib.hid (show x ≠ x' ∨ y ≠ y' ∨ z ≠ z' by omega)
          clear he
          go_region_with (go_at_call 57; refine (eqStr_no x y z x' y' z' _ he'.out).mono ?_; rintro e wr2 ⟨rfl, hnx2⟩)
          all_goals
            have hnx3 := hnx.trans ((belowd hnx2).mono hnx.size)
            go_wp2
            go_ret
            exact ⟨ret_bool Hs.out.symm, hnx3⟩
      · have hs := eqSt_end Hk.out Hn.out Hn'.out (by omega)
        have Hs := Lib.hid hs
        clear hs
        go_wp2
        go_ret
        exact ⟨ret_bool Hs.out.symm, hnx⟩
  · have hs : (ts == ts') = false := by
      rw [beq_eq_false_iff_ne]
      rintro rfl
      omega
    have hb1 : ((n : Int) != (n' : Int)) = true := by rw [bne_iff_ne]; omega
    have Hs := Lib.hid hs
    clear hs hn hn' hnn
    go_enter Try.func22, Try.ntmps22
    go_wp2
    go_ret
    exact ⟨ret_bool Hs.out.symm, Below.refl _ _⟩
theorem eqS_same (A A' : Option Addr) (c c' n n' : Nat) (ts : List Str) (w : World) (B B' : Nat) (hr : RdS w B A ts) (hn : ts.length = n) (hr' : RdS w B' A' ts) (hn' : ts.length = n') (hb : n ≤ 1048576) (hB : B ≤ w.heap.size) (hB' : B' ≤ w.heap.size) :
    Calls Try.prog 22 #[.slice A n c, .slice A' n' c'] w fun e w' => e = .returned (.bool true) ∧ Below w.heap.size w w' :=
  (eqS_any A A' c c' n n' ts ts w B B' hr hn hr' hn' hb hB hB').mono fun _ _ ⟨he, hw⟩ => ⟨by rw [he]; simp, hw⟩
theorem szS_big (A : Option Addr) (c n : Nat) (w : World) (hn : n ≤ 9223372036854775807) (h : 1048576 < n) :
    Calls Try.prog 18 #[.slice A n c, .int .i64 1048576] w fun e w' => e = .returned (.int .i64 (-1)) ∧ w = w' :=
  (szS_any A c n 1048576 w hn (by omega)).mono fun _ _ ⟨he, hw⟩ => ⟨by rw [he, if_pos (by omega)], hw⟩
theorem szS_fits (A : Option Addr) (c n : Nat) (w : World) (h : n ≤ 1048576) :
    Calls Try.prog 18 #[.slice A n c, .int .i64 1048576] w fun e w' => ∃ q : Int, 0 ≤ q ∧ e = .returned (.int .i64 q) ∧ w = w' :=
  (szS_any A c n 1048576 w (by omega) (by omega)).mono fun _ _ ⟨he, hw⟩ => ⟨1048576 - n, by omega, by rw [he, if_neg (by omega)], hw⟩

theorem rdS_own {w : World} {B n : Nat} {v : Value} {ss : List Str} (h : w.ownsRow B 45 3 v n ((flat3 ss).map (Value.int .i64))) (hn : ss.length = n) :
    ∃ A c, v = .slice A n c ∧ n ≤ c ∧ c ≤ 9223372036854775807 ∧ RdS w w.heap.size A ss := by
  have h0 := h
  rcases h.2 with ⟨rfl, rfl⟩ | ⟨g, cap, cur, rfl, _, _, hnc, hmx, _⟩
  · refine ⟨none, 0, rfl, Nat.le_refl _, by omega, fun hp => ?_⟩
    rw [flat3_len] at hp; omega
  · exact ⟨_, cap, rfl, hnc, hmx, rdI_of_ownN h0 (by rw [flat3_len, hn])⟩
end Go.Proofs.Ytiblcmeoneolcaa
