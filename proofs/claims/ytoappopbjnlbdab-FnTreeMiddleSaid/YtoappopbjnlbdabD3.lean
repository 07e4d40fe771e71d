/-
  People drawn; the drawn arguments of TreeSum and TreeMiddle.
  Conditions: none beyond what each theorem states.
-/
import Derived.Test.YtoappopbjnlbdabD2
namespace Go.Proofs.Ytoappopbjnlbdab
open Go.ChangeShapes Go.WideShapes Go.ChangeAt Go.RowKit
set_option linter.unusedVariables false
set_option maxRecDepth 4000

def FolkPost (B R k : Nat) (w : World) (e : Ending) (w' : World) : Prop :=
  ∃ v, ∃ fs : List Int, e = .returned v ∧ fs.length ≤ 8 ∧ w'.ownsRow w.heap.size 3 1 v fs.length (fs.map (Value.int .i64)) ∧ GR w' B R (k + 20) ∧ w.grownBy w' (some R)
def FolkRel (B R k n : Nat) (w : World) (v i : Value) (wr : World) : Prop :=
  ∃ fs : List Int, ∃ m : Nat, i = .int .i64 m ∧ m ≤ n ∧ fs.length = m ∧ wr.ownsRow w.heap.size 3 1 v fs.length (fs.map (Value.int .i64)) ∧ GR wr B R (k + m) ∧ w.grownBy wr (some R)
set_option maxHeartbeats 1600000 in
theorem someFolk_any (R B k n : Nat) (w : World) (hg : GR w B R k) (hk : k ≤ 80000) (hn : n ≤ 7) :
    Calls Try.prog 44 #[.pointer (some ⟨R, 0, none⟩), .int .i64 n] w (FolkPost B R k w) := by
  obtain ⟨i0, hi0, hz0, hz1, hz2⟩ := info_parts intInfo
  have hRlt := hg.lt
  have hga : GR (w.alloc (.cells #[] 3)) B R k := hg.kept (row := none) (World.grownBy_alloc _ _ _) (fun g h => by cases h)
  have hgba : w.grownBy (w.alloc (.cells #[] 3)) (some R) := World.grownBy_alloc _ _ _
  have hown0 : (w.alloc (.cells #[] 3)).ownsRow w.heap.size 3 1 (.slice (some ⟨w.heap.size, 0, none⟩) 0 0) 0 [] :=
    World.ownsRow_lit w #[] 0 (Nat.le_refl _) (by decide) rfl
  have Hga := Lib.hid hga
  have Hgba := Lib.hid hgba
  have Hown0 := Lib.hid hown0
  clear hga hgba hown0
  go_enter Try.func44, Try.ntmps44
  go_wp2
  go_loopw [5, 6] (fun v i wr => FolkRel B R k n w v i wr) (fun _ i _ => n - (intOf i).toNat)
  case atStart => exact ⟨[], 0, rfl, Nat.zero_le _, rfl, Hown0.out, Hga.out, Hgba.out⟩
  case round =>
    clear Hga Hgba Hown0
    obtain ⟨fs, m, rfl, hm, hfm, hown, hgr, hgb⟩ := hrel
    have hws := hgb.size
    have hwo := hown.lt
    have Hwo := Lib.hid hwo
    have Hown := Lib.hid hown
    have Hfm := Lib.hid hfm
    clear hown hwo hfm
    by_cases hlt : m < n
    · go_wp2_with fail
      refine (oneLitAt _ R B (k + m) [1, 2, 0, 3, 7, 20] 6 0 20 wr _ hgr (by omega) rfl (by omega) (by omega) rfl (by decide) rfl).mono ?_
      rintro e w6 ⟨x, rfl, hx0, hx1, hgr6, hgw6⟩
      have hgb6 := gb_trans hgb hgw6 (.inl rfl)
      have hown6 := Hown.out.kept hgw6 (.inr (fun e => by have := (Hwo.out R e).1; omega))
      have hws6 := hgb6.size
      have hsz : fs.length + 1 ≤ maxLen := by rw [Hfm.out]; unfold maxLen; omega
      have hsz2 : (fs.length + 1) * 8 ≤ 140737488355328 := by rw [Hfm.out]; omega
      have hsz3 : w.heap.size ≤ (w6.alloc (.cells #[.int .i64 x] 3)).heap.size := by rw [size_alloc1]; omega
      go_wp2_with (at_builtin; refine wpList_append_own _ rfl _ _ 27 rfl w.heap.size 3 i0 (.int .i64 0) 1 8 Try.underlying27 hi0 hz0 hz1 hz2 rfl (by decide) _ _ _ rfl (hown6.alloc _) ⟨w6.heap.size, 0, none⟩ 1 1 [.int .i64 x] rfl rfl (cell_one_new _ _ _) (by intro u hu; simp at hu; subst hu; rfl) hsz hsz2 hsz3 ?_; intro v' w3 hown' hgrow _)
      have hgr3 : GR w3 B R (k + m + 1) := (hgr6.kept (row := none) (World.grownBy_alloc _ _ _) (fun g h => by cases h)).kept hgrow (fun g h => by have := (hown6.lt g h).1; omega)
      have hgb3 : w.grownBy w3 (some R) := gb_trans (gb_trans hgb6 (World.grownBy_alloc w6 _ none) (.inr (fun g h => by cases h))) hgrow (.inr (fun g h => (hown6.lt g h).1))
      have Hown' := Lib.hid hown'
      clear hown' hgrow hown6 hgr6 hgb6 hws hgr hgb hsz hsz2 hsz3
      go_wp2
      go_roundw
      case rel => exact ⟨fs ++ [x], m + 1, by go_num, by omega, by simp [Hfm.out], by simpa using Hown'.out, hgr3, hgb3⟩
      case measure => simp [intOf]; omega
    · have hmn : m = n := by omega
      subst hmn
      go_wp2_with fail
      refine (pick_any R B (k + m) 30 wr hgr (by omega) (by omega) (by omega)).mono ?_
      rintro e w6 ⟨v6, rfl, hv0, hv1, -, hgr6, hgw6⟩
      have hgb6 := gb_trans hgb hgw6 (.inl rfl)
      have hown6 := Hown.out.kept hgw6 (.inr (fun e => by have := (Hwo.out R e).1; omega))
      have hws6 := hgb6.size
      have Hown6 := Lib.hid hown6
      clear hown6 hgw6 Hown hv1
      by_cases hv : v6 = 0
      · subst hv
        have hsz : fs.length + 1 ≤ maxLen := by rw [Hfm.out]; unfold maxLen; omega
        have hsz2 : (fs.length + 1) * 8 ≤ 140737488355328 := by rw [Hfm.out]; omega
        have hsz3 : w.heap.size ≤ (w6.alloc (.cells #[.int .i64 1] 3)).heap.size := by rw [size_alloc1]; omega
        go_wp2_with (at_builtin; refine wpList_append_own _ rfl _ _ 27 rfl w.heap.size 3 i0 (.int .i64 0) 1 8 Try.underlying27 hi0 hz0 hz1 hz2 rfl (by decide) _ _ _ rfl (Hown6.out.alloc _) ⟨w6.heap.size, 0, none⟩ 1 1 [.int .i64 1] rfl rfl (cell_one_new _ _ _) (by intro u hu; simp at hu; subst hu; rfl) hsz hsz2 hsz3 ?_; intro v' w3 hown' hgrow _)
        have hgr3 : GR w3 B R (k + m + 1) := (hgr6.kept (row := none) (World.grownBy_alloc _ _ _) (fun g h => by cases h)).kept hgrow (fun g h => by have := (Hown6.out.lt g h).1; omega)
        have hgb3 : w.grownBy w3 (some R) := gb_trans (gb_trans hgb6 (World.grownBy_alloc w6 _ none) (.inr (fun g h => by cases h))) hgrow (.inr (fun g h => (Hown6.out.lt g h).1))
        have Hown' := Lib.hid hown'
        clear hown' hgrow hgr6 hgb6 hws hgr hgb hsz hsz2 hsz3
        go_wp2
        go_ret
        exact ⟨_, fs ++ [1], rfl, by simp [Hfm.out]; omega, by simpa using Hown'.out, hgr3.more (by omega), hgb3⟩
      · have hvb : (v6 == 0) = false := by rw [beq_eq_false_iff_ne]; exact hv
        by_cases hv1 : v6 = 1 ∧ 0 < m
        · obtain ⟨rfl, hm0⟩ := hv1
          clear hv hvb
          go_wp2_with fail
          refine (oneLitAt _ R B (k + m + 1) [-1, 21] 2 (-1) 21 w6 _ hgr6 (by omega) rfl (by omega) (by omega) rfl (by decide) rfl).mono ?_
          rintro e w7 ⟨d, rfl, hd0, hd1, hgr7, hgw7⟩
          have hgb7 := gb_trans hgb6 hgw7 (.inl rfl)
          have hown7 := Hown6.out.kept hgw7 (.inr (fun e => by have := (Hwo.out R e).1; omega))
          rw [Hfm.out] at hown7
          obtain ⟨g, cap, he, hg1, hg2⟩ := hown7.form hm0
          subst he
          obtain ⟨v7, hv7⟩ := own_cell hown7 (j := 0) (by omega) (by simp [Hfm.out])
          have hf7 := hown7.frozenAt 0
          have hst := (hown7.stored 0 (.int .i64 d)).1
          have hgs := (hown7.stored 0 (.int .i64 d)).2
          have hgb8 := gb_trans hgb7 hgs (.inr (fun g' h' => by cases h'; exact hg1))
          have hgr8 := hgr7.kept hgs (fun g' h' => by cases h'; omega)
          have Hst := Lib.hid hst
          have Hgb8 := Lib.hid hgb8
          have Hgr8 := Lib.hid hgr8
          clear hst hgb8 hgr8 hown7 hgb7 hgb6 hgw7 hgs Hown6
          go_wp2
          go_ret
          exact ⟨_, fs.set 0 d, rfl, by rw [List.length_set, Hfm.out]; omega, by rw [List.length_set, Hfm.out, List.map_set]; exact Hst.out, Hgr8.out.more (by omega), Hgb8.out⟩
        · by_cases hv2 : v6 = 1
          · subst hv2
            have hm0 : m = 0 := by omega
            subst hm0
            clear hv hvb hv1
            go_wp2
            go_ret
            exact ⟨_, fs, rfl, by rw [Hfm.out]; omega, Hown6.out, hgr6.more (by omega), hgb6⟩
          · have hvb1 : (v6 == 1) = false := by rw [beq_eq_false_iff_ne]; exact hv2
            clear hv hv1 hv2
            go_wp2
            go_ret
            exact ⟨_, fs, rfl, by rw [Hfm.out]; omega, Hown6.out, hgr6.more (by omega), hgb6⟩
end Go.Proofs.Ytoappopbjnlbdab
