/-
  Streets drawn; the drawn arguments of chapter 8's laws.
  Conditions: none beyond what each theorem states.
-/
import Derived.Test.YtoappopbjnlbdaaZS
import Derived.Test.YtoappopbjnlbdaaGL
import Derived.Test.YtoappopbjnlbdaaGH
namespace Go.Proofs.Ytoappopbjnlbdaa
open Go.ChangeShapes Go.WideShapes Go.ChangeAt Go.RowKit
set_option linter.unusedVariables false
set_option maxRecDepth 4000

/-- What is drawn leaves a row of the call's own. -/
theorem OwnZ.drawn {w w' : World} {B R g c L : Nat} {xs : List Int} (h : OwnZ w B g c L xs) (hg : w.grownBy w' (some R)) (hR : R < B) : OwnZ w' B g c L xs :=
  ⟨h.1, World.ownsRow.kept h.2 hg (.inr (fun e => by have := (World.ownsRow.lt h.2 R e).1; omega))⟩
theorem lIn_own {w : World} {B m : Nat} {v : Value} {zs : List Int} (h : w.ownsRow B 3 1 v m (zs.map (Value.int .i64))) (hn : zs.length = m) (h20 : m ≤ 20) : ∃ A c, v = .slice A m c ∧ LIn w A c m zs ∧ ∀ b off, A = some ⟨b, off, none⟩ → B ≤ b := by
  obtain ⟨A, c, rfl, hc, hm, hrd⟩ := own_slice h hn
  exact ⟨A, c, rfl, ⟨hrd, hn, ⟨hc, hm⟩, by omega⟩, fun b off e => (World.ownsRow.lt h b (by rw [e]; rfl)).1⟩
def SomeWards (B R k : Nat) (w : World) (e : Ending) (w' : World) : Prop :=
  ∃ A c m, ∃ zs : List Int, e = .returned (.slice A m c) ∧ m ≤ 10 ∧ Hid (LIn w' A c m zs ∧ ∀ b off, A = some ⟨b, off, none⟩ → w.heap.size ≤ b) ∧ Hid (GR w' B R (k + 40)) ∧ Hid (w.grownBy w' (some R))
def SwRel (B R k : Nat) (w : World) (o v : Value) (wr : World) : Prop :=
  ∃ g c L j q : Nat, ∃ xs : List Int, o = .slice (some ⟨g, 0, none⟩) L c ∧ v = .int .i64 j ∧ L + j ≤ 10 ∧ q + j ≤ k + 20 ∧ Hid (OwnZ wr w.heap.size g c L xs) ∧ Hid (GR wr B R q) ∧ Hid (w.grownBy wr (some R))

set_option maxHeartbeats 4000000 in
theorem someWards_any (R B k : Nat) (w : World) (hg : GR w B R k) (hk : k ≤ 80000) :
    Calls Try.prog 42 #[.pointer (some ⟨R, 0, none⟩)] w (SomeWards B R k w) := by
  obtain ⟨i0, hi0, hz0, hz1, hz2⟩ := info_parts intInfo
  have hRlt := hg.lt
  have HG : Hid (GR (w.alloc (.cells #[] 3)) B R k) := hg.kept (row := none) (World.grownBy_alloc _ _ _) (fun g h => by cases h)
  have HO : Hid (OwnZ (w.alloc (.cells #[] 3)) w.heap.size w.heap.size 0 0 []) := ⟨rfl, World.ownsRow_lit w #[] 0 (Nat.le_refl _) (by decide) rfl⟩
  have HB : Hid (w.grownBy (w.alloc (.cells #[] 3)) (some R)) := World.grownBy_alloc _ _ _
  clear hg
  go_enter Try.func42, Try.ntmps42
  go_wp2_with fail
  refine (oneLitAt _ R B k [5, 4, 6, 3, 7, 2, 1, 10, 0] 9 0 10 _ _ HG.out (by omega) rfl (by omega) (by omega) rfl (by decide) (size_alloc1 _ _)).mono ?_
  rintro e w1 ⟨j, rfl, hj0, hj1, hg1, hgr1⟩
  obtain ⟨j, rfl⟩ := Int.eq_ofNat_of_zero_le hj0
  have HG1 := Lib.hid hg1
  have HO1 := Lib.hid (HO.out.drawn hgr1 hRlt)
  have HB1 := Lib.hid (gb_trans HB.out hgr1 (.inl rfl))
  clear hg1 hgr1 HG HO HB
  go_wp2
  go_loopw [3, 4] (fun o v wr => SwRel B R k w o v wr) (fun _ v _ => (intOf v).toNat)
  case atStart => exact ⟨_, _, 0, j, k + 1, [], rfl, rfl, by omega, by omega, HO1, HG1, HB1⟩
  case round =>
    clear HG1 HO1 HB1
    obtain ⟨g, c, L, j, q, xs, rfl, rfl, hLj, hq, HO, HG, HB⟩ := hrel
    by_cases hpos : 0 < j
    · go_wp2_with fail
      refine (oneLitAt _ R B q [3, 1, 5, 2, 8, 0, 20] 7 0 20 _ _ HG.out (by omega) rfl (by omega) (by omega) rfl (by decide) rfl).mono ?_
      rintro e w7 ⟨x, rfl, hx0, hx1, hgr7, hgw7⟩
      have HG7 := Lib.hid hgr7
      have HO7 := Lib.hid (HO.out.drawn hgw7 hRlt)
      have HB7 := Lib.hid (gb_trans HB.out hgw7 (.inl rfl))
      have Hlen := Lib.hid HO7.out.1
      have Hown := Lib.hid HO7.out.2
      have hsz : L + 1 ≤ maxLen := by unfold maxLen; omega
      have hsz2 : (L + 1) * 8 ≤ 140737488355328 := by omega
      have Hsz3 : Hid (∀ o, w.heap.size ≤ (w7.alloc o).heap.size) := fun o => by rw [size_alloc1]; have := HB7.out.size; omega
      clear hgr7 hgw7 HO7 HG HO HB
      go_wp2_with (at_builtin; refine wpList_append_lies _ rfl _ _ 23 rfl w.heap.size 3 i0 _ 1 8 Try.underlying23 hi0 hz0 hz1 hz2 rfl (by decide) _ _ _ rfl (Hown.out.alloc _) ⟨w7.heap.size, 0, none⟩ 1 1 [.int .i64 x] rfl rfl (cell_one_new _ _ _) (by intro u hu; simp at hu; subst hu; rfl) (by decide) hsz hsz2 (Hsz3.out _) _ rfl ?_; intro g3 c3 w8 hown8 hgrow8 hat8 hlt8)
      have HO8 : Hid (OwnZ w8 w.heap.size g3 c3 (L + 1) (xs ++ [x])) := ownZ_push Hlen.out hown8
      have HG8 : Hid (GR w8 B R (q + 1)) := (HG7.out.kept (row := none) (World.grownBy_alloc _ _ _) (fun g h => by cases h)).kept hgrow8 (fun g h => by have := (Hown.out.lt g h).1; omega)
      have HB8 : Hid (w.grownBy w8 (some R)) := gb_trans (gb_trans HB7.out (World.grownBy_alloc w7 _ none) (.inr (fun g h => by cases h))) hgrow8 (.inr (fun g h => (Hown.out.lt g h).1))
      clear hown8 hgrow8 hat8 hlt8 Hown HG7 HB7 Hlen hsz hsz2 Hsz3
      go_wp2
      go_roundw
      case rel => exact ⟨g3, c3, L + 1, j - 1, q + 1, xs ++ [x], rfl, by go_num, by omega, by omega, HO8, HG8, HB8⟩
      case measure => simp [intOf]; omega
    · obtain rfl : j = 0 := by omega
      obtain ⟨A', c', he, hin, hlo⟩ := lIn_own HO.out.2 HO.out.1 (by omega)
      injection he with he1 he2 he3
      subst he1 he3
      by_cases hL0 : L = 0
      · subst hL0
        have HIn : Hid (LIn wr (some ⟨g, 0, none⟩) c 0 xs ∧ ∀ b off, some ⟨g, 0, none⟩ = some (⟨b, off, none⟩ : Addr) → w.heap.size ≤ b) := ⟨hin, hlo⟩
        have HG1 := Lib.hid (HG.out.more (show q ≤ k + 40 by omega))
        clear HG HO hin hlo
        go_wp2
        go_ret
        exact ⟨_, _, 0, xs, rfl, by omega, HIn, HG1, HB⟩
      · have hL1 : 0 < L := by omega
        have hL2 : (0 : Int) < (L : Int) := by omega
        clear hin hlo he2
        go_wp2_with fail
        refine (pick_any R B q 40 wr HG.out (by omega) (by omega) (by omega)).mono ?_
        rintro e w5 ⟨u, rfl, hu0, -, -, hgr5, hgw5⟩
        have HG5 := Lib.hid hgr5
        have HO5 := Lib.hid (HO.out.drawn hgw5 hRlt)
        have HB5 := Lib.hid (gb_trans HB.out hgw5 (.inl rfl))
        clear hgr5 hgw5 HG HO HB
        by_cases hu : u = 0
        · subst hu
          go_wp2_with fail
          refine (oneLitAt _ R B (q + 1) [-1, 21] 2 (-1) 21 _ _ HG5.out (by omega) rfl (by omega) (by omega) rfl (by decide) rfl).mono ?_
          rintro e w7 ⟨x, rfl, hx0, hx1, hgr7, hgw7⟩
          have HG7 := Lib.hid hgr7
          have HO7 := Lib.hid (HO5.out.drawn hgw7 hRlt)
          have HB7 := Lib.hid (gb_trans HB5.out hgw7 (.inl rfl))
          have hlt7 := (World.ownsRow.lt HO7.out.2 g rfl)
          have hgl := hlt7.1
          have hgl2 := hlt7.2
          obtain ⟨v7, hv7⟩ : ∃ v7, w7.cell? ⟨g, 0, none⟩ = some v7 := by
            rw [HO7.out.2.cellAt 0 (by omega)]
            exact ⟨_, List.getElem?_eq_getElem (by simp [HO7.out.1]; omega)⟩
          have hf7 := HO7.out.2.frozenAt 0
          have hst := (HO7.out.2.stored 0 (.int .i64 x)).1
          have hgs := (HO7.out.2.stored 0 (.int .i64 x)).2
          have HB8 := Lib.hid (gb_trans HB7.out hgs (.inr (fun g' h' => by cases h'; exact hgl)))
          have HG8 := Lib.hid ((HG7.out.kept hgs (fun g' h' => by cases h'; omega)).more (show q + 1 + 1 ≤ k + 40 by omega))
          have e0 : (xs.map (Value.int .i64)).set 0 (.int .i64 x) = (xs.set 0 x).map (Value.int .i64) := by rw [List.map_set]
          rw [e0] at hst
          obtain ⟨A', c', he, hin, hlo⟩ := lIn_own hst (by rw [List.length_set]; exact HO7.out.1) (by omega)
          injection he with he1 he2 he3
          subst he1 he3
          have HIn := Lib.hid (And.intro hin hlo)
          clear hgr7 hgw7 HG5 HO5 HB5 HG7 HO7 HB7 hgs hst hin hlo he2 e0 hlt7
          go_wp2
          go_ret
          exact ⟨_, _, L, _, rfl, by omega, HIn, HG8, HB8⟩
        · have hub : (u == 0) = false := by rw [beq_eq_false_iff_ne]; exact hu
          obtain ⟨A', c', he, hin, hlo⟩ := lIn_own HO5.out.2 HO5.out.1 (by omega)
          injection he with he1 he2 he3
          subst he1 he3
          have HIn := Lib.hid (And.intro hin hlo)
          have HG1 := Lib.hid (HG5.out.more (show q + 1 ≤ k + 40 by omega))
          clear hu HG5 HO5 hin hlo he2
          go_wp2
          go_ret
          exact ⟨_, _, L, xs, rfl, by omega, HIn, HG1, HB5⟩
end Go.Proofs.Ytoappopbjnlbdaa
