/-
  Homes drawn, helpers drawn, how far drawn.
  Conditions: none beyond what each theorem states.
-/
import Derived.Test.YthphboeboiallabGL
import Derived.Test.YthphboeboiallabGF
import Derived.Deep.CutBlock
namespace Go.Proofs.Ythphboeboiallab
open Go.ChangeShapes Go.WideShapes Go.ChangeAt Go.RowKit
set_option linter.unusedVariables false
set_option maxRecDepth 4000

def HomesPost (B R k : Nat) (w : World) (e : Ending) (w' : World) : Prop :=
  ∃ v, ∃ xs : List Int, e = .returned v ∧ xs.length ≤ 10 ∧ (∀ x ∈ xs, -1 ≤ x ∧ x ≤ 51) ∧ w'.ownsRow w.heap.size 3 1 v xs.length (xs.map (Value.int .i64)) ∧ GR w' B R (k + 40) ∧ w.grownBy w' (some R)

def HomesRel (B R k : Nat) (w : World) (v a i : Value) (wr : World) : Prop :=
  ∃ xs : List Int, ∃ at' m : Int, ∃ q : Nat, i = .int .i64 m ∧ a = .int .i64 at' ∧ 0 ≤ at' ∧ at' ≤ 50 ∧ -10 ≤ m ∧ (xs.length : Int) + m ≤ 10 ∧ xs.length ≤ 10 ∧ (q : Int) + m ≤ k + 13 ∧ q ≤ k + 20 ∧ (∀ x ∈ xs, -1 ≤ x ∧ x ≤ 51) ∧
    wr.ownsRow w.heap.size 3 1 v xs.length (xs.map (Value.int .i64)) ∧ GR wr B R q ∧ w.grownBy wr (some R)

set_option maxHeartbeats 800000 in
theorem someHomes_any (R B k : Nat) (most : Int) (w : World) (hg : GR w B R k) (hk : k ≤ 90000) (hm0 : 0 ≤ most) (hm1 : most ≤ 10) :
    Calls Try.prog 35 #[.pointer (some ⟨R, 0, none⟩), .int .i64 most] w (HomesPost B R k w) := by
  obtain ⟨i0, hi0, hz0, hz1, hz2⟩ := info_parts intInfo
  have hRlt := hg.lt
  go_enter Try.func35, Try.ntmps35
  go_wp2_with fail
  have hga : GR (w.alloc (.cells #[] 3)) B R k := hg.kept (row := none) (World.grownBy_alloc _ _ _) (fun g h => by cases h)
  have hgba : w.grownBy (w.alloc (.cells #[] 3)) (some R) := World.grownBy_alloc _ _ _
  have hown0 : (w.alloc (.cells #[] 3)).ownsRow w.heap.size 3 1 (.slice (some ⟨w.heap.size, 0, none⟩) 0 0) 0 [] :=
    World.ownsRow_lit w #[] 0 (Nat.le_refl _) (by decide) rfl
  refine (pick_any R B k 6 _ hga (by omega) (by omega) (by omega)).mono ?_
  rintro e w1 ⟨a, rfl, ha0, ha1, -, hg1, hgr1⟩
  have ha2 := ha1 (by omega)
  clear ha1
  have hgb1 := gb_trans hgba hgr1 (.inl rfl)
  have hown1 := hown0.kept hgr1 (.inr (by simp [Value.ownBlock]; omega))
  have Hown1 := Lib.hid hown1
  clear hown1 hown0 hgba hga hgr1
  go_wp2_with fail
  refine (oneLit R B (k + 1) [5, 4, 6, 3, 7, 2, 10, 1, 0] 9 0 10 w1 _ hg1 (by omega) rfl (by omega) (by omega) rfl (by decide)).mono ?_
  rintro e w2 ⟨m, rfl, hm2, hm3, hg2, hgr2⟩
  have hgb2 := gb_trans hgb1 hgr2 (.inl rfl)
  have hown2 := Hown1.out.kept hgr2 (.inr (by simp [Value.ownBlock]; omega))
  have Hown2 := Lib.hid hown2
  clear hown2 hgr2 Hown1 hgb1 hg1
  go_upto_block 0 with fail
  have hM0 : 0 ≤ (if most < m then most else m) ∧ (if most < m then most else m) ≤ 10 := by split <;> omega
  generalize (if most < m then most else m) = M at hM0 ⊢
  go_wp2_with fail
  go_loopw [5, 6, 7] (fun v a i wr => HomesRel B R k w v a i wr) (fun _ _ i _ => (intOf i).toNat)
  case atStart => exact ⟨[], a, M, _, rfl, rfl, ha0, by omega, by omega, by simp; omega, by simp, by omega, by omega, by simp, Hown2.out, hg2, hgb2⟩
  case round =>
    clear hg2 Hown2 hgb2
    obtain ⟨xs, at', m', q, rfl, rfl, hat0, hat1, hm'0, hlm, hl10, hq1, hq2, Hxs, hown, hgr, hgb⟩ := hrel
    have Hxs' := Lib.hid Hxs
    clear Hxs
    have hws := hgb.size
    by_cases hpos : 0 < m'
    · go_wp2_with (at_builtin; refine wpList_append_own _ rfl _ _ 23 rfl w.heap.size 3 i0 (.int .i64 0) 1 8 Try.underlying23 hi0 hz0 hz1 hz2 rfl (by decide) _ _ _ rfl (hown.alloc _) ⟨wr.heap.size, 0, none⟩ 1 1 [.int .i64 at'] rfl rfl ?c1 ?c2 ?c3 ?c4 ?c5 ?_)
      case c1 => exact cell_one_new _ _ _
      case c2 => intro u hu; simp at hu; subst hu; rfl
      case c3 => unfold maxLen; omega
      case c4 => omega
      case c5 => simp; omega
      intro v' w3 hown' hgrow _
      have hgr3 : GR w3 B R q := (hgr.kept (row := none) (World.grownBy_alloc _ _ _) (fun g h => by cases h)).kept hgrow (fun g h => by have := (hown.lt g h).1; omega)
      have hgb3 : w.grownBy w3 (some R) := gb_trans (gb_trans hgb (World.grownBy_alloc wr _ none) (.inr (fun g h => by cases h))) hgrow (.inr (fun g h => (hown.lt g h).1))
      have hwo := hown'.lt
      have Hwo := Lib.hid hwo
      have Hown' := Lib.hid hown'
      clear hown' hgrow hown hgr hgb hws hwo
      go_wp2_with fail
      refine (oneLit R B q [1, 2, 3, 0, 5, 9, 12] 7 0 12 w3 _ hgr3 (by omega) rfl (by omega) (by omega) rfl (by decide)).mono ?_
      rintro e w4 ⟨d, rfl, hd0, hd1, hgr4, hgw4⟩
      have hgb4 := gb_trans hgb3 hgw4 (.inl rfl)
      have hown4 := Hown'.out.kept hgw4 (.inr (fun e => by have := (Hwo.out R e).1; omega))
      have Hown4 := Lib.hid hown4
      clear hown4 Hown' hgw4 hgb3 hgr3
      have Hxs2 : Hid (∀ x ∈ xs ++ [at'], -1 ≤ x ∧ x ≤ 51) := fun x hx => by
        rcases List.mem_append.1 hx with h | h
        · exact Hxs'.out x h
        · simp at h; omega
      go_wp2
      all_goals
        go_roundw
        case rel => exact ⟨xs ++ [at'], _, m' - 1, q + 1, rfl, rfl, by omega, by omega, by omega, by simp; omega, by simp; omega, by omega, by omega, Hxs2.out, by simpa using Hown4.out, hgr4, hgb4⟩
        case measure => simp [intOf]; omega
    · obtain ⟨A, c, rfl, hc1, hc2, hrd⟩ := own_slice hown rfl
      obtain ⟨n, Hn⟩ : ∃ n, Hid (xs.length = n) := ⟨_, rfl⟩
      have hgm : GR wr B R (k + 40) := hgr.more (by omega)
      have hwo := hown.lt
      have Hwo := Lib.hid hwo
      have Hown := Lib.hid hown
      clear hown hwo
      by_cases hx0 : xs.length = 0
      · have hx0' : ¬ (0 : Int) < ((xs.length : Nat) : Int) := by omega
        have Hx0 := Lib.hid hx0
        clear hx0
        go_wp2
        go_ret
        exact ⟨_, xs, rfl, hl10, Hxs'.out, Hown.out, hgm, hgb⟩
      · have hx1 : (0 : Int) < ((xs.length : Nat) : Int) := by omega
        have hx2 : 0 < xs.length := by omega
        clear hx0
        go_wp2_with fail
        refine (pick_any R B q 40 wr hgr (by omega) (by omega) (by omega)).mono ?_
        rintro e w5 ⟨v, rfl, hv0, hv1, -, hgr5, hgw5⟩
        have hgb5 := gb_trans hgb hgw5 (.inl rfl)
        have hown5 := Hown.out.kept hgw5 (.inr (fun e => by have := (Hwo.out R e).1; omega))
        have Hown5 := Lib.hid hown5
        clear hown5 hv1 hgw5 Hown
        by_cases hv : v = 0
        · subst hv
          go_wp2_with fail
          refine (pick_any R B (q + 1) xs.length w5 hgr5 (by omega) (by omega) (by omega)).mono ?_
          rintro e w6 ⟨i, rfl, hi0, hi1, -, hgr6, hgw6⟩
          have hgb6 := gb_trans hgb5 hgw6 (.inl rfl)
          have hown6 := Hown5.out.kept hgw6 (.inr (fun e => by have := (Hwo.out R e).1; omega))
          have Hown6 := Lib.hid hown6
          clear hown6 hgw6 Hown5 hgb5
          obtain ⟨i, rfl⟩ := Int.eq_ofNat_of_zero_le hi0
          have hil : i < xs.length := by have := hi1 (by omega); omega
          clear hi1
          go_wp2_with fail
          refine (oneLit R B (q + 1 + 1) [-1, 51, 0] 3 (-1) 51 w6 _ hgr6 (by omega) rfl (by omega) (by omega) rfl (by decide)).mono ?_
          rintro e w7 ⟨d, rfl, hd0, hd1, hgr7, hgw7⟩
          have hgb7 := gb_trans hgb6 hgw7 (.inl rfl)
          have hown7 := Hown6.out.kept hgw7 (.inr (fun e => by have := (Hwo.out R e).1; omega))
          obtain ⟨g, cap, he, hg1, hg2⟩ := hown7.form hx2
          injection he with he1 he2 he3
          subst he1 he3
          obtain ⟨v7, hv7⟩ : ∃ v7, w7.cell? ⟨g, i, none⟩ = some v7 := by
            rw [hown7.cellAt i (by omega)]
            exact ⟨_, List.getElem?_eq_getElem (by simpa using hil)⟩
          have hf7 := hown7.frozenAt i
          have hst := (hown7.stored i (.int .i64 d)).1
          have hgs := (hown7.stored i (.int .i64 d)).2
          have hgb8 := gb_trans hgb7 hgs (.inr (fun g' h' => by cases h'; exact hg1))
          have hgr8 := hgr7.kept hgs (fun g' h' => by cases h'; omega)
          have Hst := Lib.hid hst
          have Hgb8 := Lib.hid hgb8
          have Hgr8 := Lib.hid hgr8
          have Hxs2 : Hid (∀ x ∈ xs.set i d, -1 ≤ x ∧ x ≤ 51) := fun x hx => by
            rcases List.mem_or_eq_of_mem_set hx with h | h
            · exact Hxs'.out x h
            · omega
          clear hst hgb8 hgr8 hown7 hgb7 hgb6 hgw7 hgs Hown6
          go_wp2
          go_ret
          exact ⟨_, xs.set i d, rfl, by rw [List.length_set]; exact hl10, Hxs2.out, by rw [List.length_set, List.map_set]; exact Hst.out, Hgr8.out.more (by omega), Hgb8.out⟩
        · have hvb : (v == 0) = false := by rw [beq_eq_false_iff_ne]; exact hv
          clear hv
          go_wp2
          go_ret
          exact ⟨_, xs, rfl, hl10, Hxs'.out, Hown5.out, hgr5.more (by omega), hgb5⟩

end Go.Proofs.Ythphboeboiallab
