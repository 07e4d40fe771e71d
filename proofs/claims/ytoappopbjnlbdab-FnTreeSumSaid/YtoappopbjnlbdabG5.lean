/-
  A tree drawn, people drawn.
  Conditions: none beyond what each theorem states.
-/
import Derived.Test.YtoappopbjnlbdabUG
import Derived.Test.YtoappopbjnlbdabGL
import Derived.Test.YtoappopbjnlbdabR3
namespace Go.Proofs.Ytoappopbjnlbdab
open Go.ChangeShapes Go.WideShapes Go.ChangeAt Go.RowKit
set_option linter.unusedVariables false
set_option maxRecDepth 4000

def TreePost (B R k : Nat) (w : World) (e : Ending) (w' : World) : Prop :=
  ∃ v, ∃ ts : List (Int × Int), e = .returned v ∧ ts.length ≤ 7 ∧ w'.ownsRow w.heap.size 34 2 v ts.length ((flat ts).map (Value.int .i64)) ∧ GR w' B R (k + 40) ∧ w.grownBy w' (some R)
def TreeRel (B R k : Nat) (w : World) (v i : Value) (wr : World) : Prop :=
  ∃ ts : List (Int × Int), ∃ m : Int, ∃ q : Nat, i = .int .i64 m ∧ 0 ≤ m ∧ (ts.length : Int) + m ≤ 7 ∧ 1 ≤ ts.length ∧ (q : Int) + 3 * m ≤ k + 22 ∧
    wr.ownsRow w.heap.size 34 2 v ts.length ((flat ts).map (Value.int .i64)) ∧ GR wr B R q ∧ w.grownBy wr (some R)
theorem lit_two (w : World) (x y : Value) (t : TypeId) : ∀ j u, [x, y][j]? = some u → (w.alloc (.cells #[x, y] t)).cell? ((⟨w.heap.size, 0, none⟩ : Addr).add j) = some u := by
  intro j u hu
  rw [addr_add0, cell_of_row _ _ _ _ t (0, 0) (heap_alloc_new w _)]
  simpa using hu
set_option maxHeartbeats 1600000 in
theorem someTree_any (R B k : Nat) (w : World) (hg : GR w B R k) (hk : k ≤ 80000) :
    Calls Try.prog 41 #[.pointer (some ⟨R, 0, none⟩)] w (TreePost B R k w) := by
  obtain ⟨i0, hi0, hz0, hz1, hz2⟩ := info_parts roadInfo
  have hRlt := hg.lt
  go_enter Try.func41, Try.ntmps41
  go_wp2_with fail
  have hga : GR (w.alloc (.cells #[.int .i64 (-1), .int .i64 0] 34)) B R k := hg.kept (row := none) (World.grownBy_alloc _ _ _) (fun g h => by cases h)
  have hgba : w.grownBy (w.alloc (.cells #[.int .i64 (-1), .int .i64 0] 34)) (some R) := World.grownBy_alloc _ _ _
  have hown0 : (w.alloc (.cells #[.int .i64 (-1), .int .i64 0] 34)).ownsRow w.heap.size 34 2 (.slice (some ⟨w.heap.size, 0, none⟩) 1 1) 1 [.int .i64 (-1), .int .i64 0] :=
    World.ownsRow_lit w #[.int .i64 (-1), .int .i64 0] 1 (Nat.le_refl _) (by decide) rfl
  refine (oneLitAt _ R B k [4, 3, 5, 2, 6, 1, 0] 7 0 6 (w.alloc (.cells #[.int .i64 (-1), .int .i64 0] 34)) _ hga (by omega) rfl (by omega) (by omega) rfl (by decide) (size_alloc1 _ _)).mono ?_
  rintro e w1 ⟨m, rfl, hm0, hm1, hg1, hgr1⟩
  have hgb1 := gb_trans hgba hgr1 (.inl rfl)
  have hown1 := hown0.kept hgr1 (.inr (by simp [Value.ownBlock]; omega))
  have Hown1 := Lib.hid hown1
  clear hown1 hown0 hgba hga hgr1
  go_wp2_with fail
  go_loopw [3, 4] (fun v i wr => TreeRel B R k w v i wr) (fun _ i _ => (intOf i).toNat)
  case atStart => exact ⟨[(-1, 0)], m, k + 1, rfl, hm0, by simp; omega, by simp, by omega, Hown1.out, hg1, hgb1⟩
  case round =>
    clear hg1 Hown1 hgb1
    obtain ⟨ts, m', q, rfl, hm'0, hlm, hl1, hq1, hown, hgr, hgb⟩ := hrel
    have hws := hgb.size
    have hwo := hown.lt
    have Hwo := Lib.hid hwo
    have Hown := Lib.hid hown
    obtain ⟨A, c, rfl, hc1, hc2, -⟩ := own_sliceN hown
    clear hown hwo
    obtain ⟨n, Hn⟩ : ∃ n, Hid (ts.length = n) := ⟨_, rfl⟩
    by_cases hpos : 0 < m'
    · have hl0 : 0 ≤ ((ts.length : Nat) : Int) - 1 := by omega
      go_wp2_with fail
      refine (pick_any R B q ts.length wr hgr (by omega) (by omega) (by omega)).mono ?_
      rintro e w5 ⟨v, rfl, hv0, hv1, -, hgr5, hgw5⟩
      have hv2 := hv1 (by omega)
      clear hv1
      have hgb5 := gb_trans hgb hgw5 (.inl rfl)
      have hown5 := Hown.out.kept hgw5 (.inr (fun e => by have := (Hwo.out R e).1; omega))
      have Hown5 := Lib.hid hown5
      clear hown5 hgw5 Hown
      go_wp2_with fail
      refine (oneLitAt _ R B (q + 1) [v, ts.length - 1, 0] 3 0 7 w5 _ hgr5 (by omega) rfl (by omega) (by omega) rfl (by intro x hx; simp at hx; omega) rfl).mono ?_
      rintro e w6 ⟨x, rfl, hx0, hx1, hgr6, hgw6⟩
      have hgb6 := gb_trans hgb5 hgw6 (.inl rfl)
      have hown6 := Hown5.out.kept hgw6 (.inr (fun e => by have := (Hwo.out R e).1; omega))
      have Hown6 := Lib.hid hown6
      clear hown6 hgw6 Hown5 hgb5
      go_wp2_with fail
      refine (oneLitAt _ R B (q + 1 + 1) [1, 2, 3, 1, 5, 9] 6 1 9 w6 _ hgr6 (by omega) rfl (by omega) (by omega) rfl (by decide) rfl).mono ?_
      rintro e w7 ⟨y, rfl, hy0, hy1, hgr7, hgw7⟩
      have hgb7 := gb_trans hgb6 hgw7 (.inl rfl)
      have hown7 := Hown6.out.kept hgw7 (.inr (fun e => by have := (Hwo.out R e).1; omega))
      have hws7 := hgb7.size
      have Hn7 : Hid (ts.length + 1 ≤ 8) := by show ts.length + 1 ≤ 8; omega
      go_wp2_with (at_builtin; refine wpList_append_own _ rfl _ _ 23 rfl w.heap.size 34 i0 _ 2 16 Try.underlying23 hi0 hz0 hz1 hz2 rfl (by decide) _ _ _ rfl (hown7.alloc _) ⟨w7.heap.size, 0, none⟩ 1 1 [.int .i64 x, .int .i64 y] rfl rfl ?c1 ?c2 ?c3 ?c4 ?c5 ?_)
      case c1 => exact lit_two _ _ _ _
      case c2 => intro u hu; simp at hu; rcases hu with rfl | rfl <;> rfl
      case c3 => have := Hn7.out; unfold maxLen; omega
      case c4 => have := Hn7.out; omega
      case c5 => rw [size_alloc1]; omega
      intro v' w3 hown' hgrow _
      have hgr3 : GR w3 B R (q + 1 + 1 + 1) := (hgr7.kept (row := none) (World.grownBy_alloc _ _ _) (fun g h => by cases h)).kept hgrow (fun g h => by have := (hown7.lt g h).1; omega)
      have hgb3 : w.grownBy w3 (some R) := gb_trans (gb_trans hgb7 (World.grownBy_alloc w7 _ none) (.inr (fun g h => by cases h))) hgrow (.inr (fun g h => (hown7.lt g h).1))
      have Hown' := Lib.hid hown'
      clear hown' hgrow hown7 hgr7 hgb7 hws hgr hgb
      go_wp2
      go_roundw
      case rel => exact ⟨ts ++ [(x, y)], m' - 1, q + 1 + 1 + 1, rfl, by omega, by simp; omega, by simp, by omega, by simpa [flat_append, flat] using Hown'.out, hgr3, hgb3⟩
      case measure => simp [intOf]; omega
    · have hlen : (1 : Int) ≤ ((ts.length : Nat) : Int) := by omega
      go_wp2_with fail
      refine (pick_any R B q ts.length wr hgr (by omega) (by omega) (by omega)).mono ?_
      rintro e w5 ⟨j, rfl, hj0, hj1, -, hgr5, hgw5⟩
      have hj2 := hj1 (by omega)
      obtain ⟨j, rfl⟩ := Int.eq_ofNat_of_zero_le hj0
      clear hj1
      have hgb5 := gb_trans hgb hgw5 (.inl rfl)
      have hown5 := Hown.out.kept hgw5 (.inr (fun e => by have := (Hwo.out R e).1; omega))
      have Hown5 := Lib.hid hown5
      clear hown5 hgw5 Hown
      go_wp2_with fail
      refine (pick_any R B (q + 1) 30 w5 hgr5 (by omega) (by omega) (by omega)).mono ?_
      rintro e w6 ⟨v, rfl, hv0, hv1, -, hgr6, hgw6⟩
      have hgb6 := gb_trans hgb5 hgw6 (.inl rfl)
      have hown6 := Hown5.out.kept hgw6 (.inr (fun e => by have := (Hwo.out R e).1; omega))
      have Hown6 := Lib.hid hown6
      clear hown6 hgw6 Hown5 hgb5 hv1
      have hjl : j < ts.length := by omega
      by_cases hv : v = 0
      · subst hv
        go_wp2_with fail
        refine (oneLitAt _ R B (q + 1 + 1) [-1, j, 7] 3 (-1) 7 w6 _ hgr6 (by omega) rfl (by omega) (by omega) rfl (by intro x hx; simp at hx; omega) rfl).mono ?_
        rintro e w7 ⟨d, rfl, hd0, hd1, hgr7, hgw7⟩
        have hgb7 := gb_trans hgb6 hgw7 (.inl rfl)
        have hown7 := Hown6.out.kept hgw7 (.inr (fun e => by have := (Hwo.out R e).1; omega))
        obtain ⟨g, cap, he, hg1, hg2⟩ := hown7.form hl1
        injection he with he1 he2 he3
        subst he1 he3
        obtain ⟨v7, hv7⟩ := own_cell hown7 (j := j * 2) (by omega) (by simp [flat_len])
        have hf7 := hown7.frozenAt (j * 2)
        have hst := (hown7.stored (j * 2) (.int .i64 d)).1
        have hgs := (hown7.stored (j * 2) (.int .i64 d)).2
        have hgb8 := gb_trans hgb7 hgs (.inr (fun g' h' => by cases h'; exact hg1))
        have hgr8 := hgr7.kept hgs (fun g' h' => by cases h'; omega)
        have Hst := Lib.hid hst
        have Hgb8 := Lib.hid hgb8
        have Hgr8 := Lib.hid hgr8
        clear hst hgb8 hgr8 hown7 hgb7 hgb6 hgw7 hgs Hown6
        go_wp2
        go_ret
        exact ⟨_, ts.set j (d, (ts.getD j (-1, 0)).2), rfl, by rw [List.length_set]; omega, by rw [List.length_set, flat_set0 ts j hjl, List.map_set]; exact Hst.out, Hgr8.out.more (by omega), Hgb8.out⟩
      · have hvb : (v == 0) = false := by rw [beq_eq_false_iff_ne]; exact hv
        by_cases hv1 : v = 1
        · subst hv1
          clear hv hvb
          go_wp2_with fail
          refine (oneLitAt _ R B (q + 1 + 1) [0, 10, 1] 3 0 10 w6 _ hgr6 (by omega) rfl (by omega) (by omega) rfl (by decide) rfl).mono ?_
          rintro e w7 ⟨d, rfl, hd0, hd1, hgr7, hgw7⟩
          have hgb7 := gb_trans hgb6 hgw7 (.inl rfl)
          have hown7 := Hown6.out.kept hgw7 (.inr (fun e => by have := (Hwo.out R e).1; omega))
          obtain ⟨g, cap, he, hg1, hg2⟩ := hown7.form hl1
          injection he with he1 he2 he3
          subst he1 he3
          obtain ⟨v7, hv7⟩ := own_cell hown7 (j := j * 2 + 1) (by omega) (by simp [flat_len])
          have hf7 := hown7.frozenAt (j * 2 + 1)
          have hst := (hown7.stored (j * 2 + 1) (.int .i64 d)).1
          have hgs := (hown7.stored (j * 2 + 1) (.int .i64 d)).2
          have hgb8 := gb_trans hgb7 hgs (.inr (fun g' h' => by cases h'; exact hg1))
          have hgr8 := hgr7.kept hgs (fun g' h' => by cases h'; omega)
          have Hst := Lib.hid hst
          have Hgb8 := Lib.hid hgb8
          have Hgr8 := Lib.hid hgr8
          clear hst hgb8 hgr8 hown7 hgb7 hgb6 hgw7 hgs Hown6
          go_wp2
          go_ret
          exact ⟨_, ts.set j ((ts.getD j (-1, 0)).1, d), rfl, by rw [List.length_set]; omega, by rw [List.length_set, flat_set1 ts j hjl, List.map_set]; exact Hst.out, Hgr8.out.more (by omega), Hgb8.out⟩
        · have hvb1 : (v == 1) = false := by rw [beq_eq_false_iff_ne]; exact hv1
          by_cases hv2 : v = 2
          · subst hv2
            clear hv hvb hv1 hvb1
            have hgr8 : GR (w6.alloc (.cells #[] 34)) B R (k + 40) := (hgr6.kept (row := none) (World.grownBy_alloc _ _ _) (fun g h => by cases h)).more (by omega)
            have hgb8 := gb_trans hgb6 (World.grownBy_alloc w6 (.cells #[] 34) none) (.inr (fun g h => by cases h))
            have hown8 : (w6.alloc (.cells #[] 34)).ownsRow w.heap.size 34 2 (.slice (some ⟨w6.heap.size, 0, none⟩) 0 0) 0 [] :=
              World.ownsRow_lit w6 #[] 0 hgb6.size (by decide) rfl
            have Hown8 := Lib.hid hown8
            clear hown8
            go_wp2
            go_ret
            exact ⟨_, [], rfl, by simp, Hown8.out, hgr8, hgb8⟩
          · have hvb2 : (v == 2) = false := by rw [beq_eq_false_iff_ne]; exact hv2
            clear hv hv1 hv2
            go_wp2
            go_ret
            exact ⟨_, ts, rfl, by omega, Hown6.out, hgr6.more (by omega), hgb6⟩
end Go.Proofs.Ytoappopbjnlbdab
