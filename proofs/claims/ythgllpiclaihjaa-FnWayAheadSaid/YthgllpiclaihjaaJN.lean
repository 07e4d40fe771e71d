/-
  Two helpers and calls drawn; the drawn arguments of chapter 5's laws.
  Conditions: none beyond what each theorem states.
-/
import Derived.Test.YthgllpiclaihjaaGL
import Derived.Test.YthgllpiclaihjaaJF
namespace Go.Proofs.Ythgllpiclaihjaa
open Go.ChangeShapes Go.WideShapes Go.ChangeAt Go.RowKit
set_option linter.unusedVariables false
set_option maxRecDepth 4000

/-- Ints of the call's own. -/
def OwnJ (w : World) (B : Nat) (v : Value) (zs : List Int) : Prop := w.ownsRow B 3 1 v zs.length (zs.map (Value.int .i64))
theorem OwnJ.drawn {w w' : World} {B R : Nat} {v : Value} {zs : List Int} (h : OwnJ w B v zs) (hg : w.grownBy w' (some R)) (hR : R < B) : OwnJ w' B v zs :=
  World.ownsRow.kept h hg (.inr (fun e => by have := (World.ownsRow.lt h R e).1; omega))
def CallRelJ (B R k : Nat) (w : World) (o v : Value) (wr : World) : Prop :=
  ∃ m q : Nat, ∃ zs : List Int, (∃ g c, o = .slice (some ⟨g, 0, none⟩) zs.length c) ∧ v = .int .i64 m ∧ zs.length + m ≤ 8 ∧ q + 3 * m ≤ k + 27 ∧ Hid (OwnJ wr w.heap.size o zs) ∧ Hid (GR wr B R q) ∧ Hid (w.grownBy wr (some R))
/-- What someCalls answers. -/
def SomeCalls (B R k : Nat) (w : World) (e : Ending) (w' : World) : Prop :=
  ∃ a b A c n, ∃ zs : List Int, e = .returned (.tuple #[.int .i64 a, .int .i64 b, .slice A n c]) ∧ (-1 ≤ a ∧ a ≤ 51) ∧ (-1 ≤ b ∧ b ≤ 51) ∧ n ≤ 9 ∧ Hid (CallsIn w' A c n zs ∧ ∀ b off, A = some ⟨b, off, none⟩ → w.heap.size ≤ b) ∧ (∃ g, A = some ⟨g, 0, none⟩) ∧ Hid (GR w' B R (k + 30)) ∧ Hid (w.grownBy w' (some R))
theorem callsIn_own {w : World} {B n : Nat} {v : Value} {zs : List Int} (h : OwnJ w B v zs) (hn : zs.length = n) (h9 : n ≤ 9) : ∃ A c, v = .slice A n c ∧ CallsIn w A c n zs ∧ ∀ b off, A = some ⟨b, off, none⟩ → B ≤ b := by
  obtain ⟨A, c, rfl, hc, hm, hrd⟩ := own_slice h rfl
  exact ⟨A, c, by rw [hn], ⟨hrd, hn, ⟨by omega, hm⟩, by omega⟩, fun b off e => (World.ownsRow.lt h b (by rw [e]; rfl)).1⟩

set_option maxHeartbeats 4000000 in
theorem someCalls_any (R B k : Nat) (w : World) (hg : GR w B R k) (hk : k ≤ 80000) :
    Calls Try.prog 41 #[.pointer (some ⟨R, 0, none⟩)] w (SomeCalls B R k w) := by
  obtain ⟨i0, hi0, hz0, hz1, hz2⟩ := info_parts intInfo
  have hRlt := hg.lt
  have HG := Lib.hid hg
  clear hg
  go_enter Try.func41, Try.ntmps41
  go_wp2_with fail
  refine (oneLitAt _ R B k [10, 0, 5, 20, 25] 5 0 25 _ _ HG.out (by omega) rfl (by omega) (by omega) rfl (by decide) rfl).mono ?_
  rintro e w1 ⟨a, rfl, ha0, ha1, hg1, hgr1⟩
  have HG1 := Lib.hid hg1
  have HB1 := Lib.hid hgr1
  clear hg1 hgr1 HG
  go_wp2_with fail
  refine (oneLitAt _ R B (k + 1) [10, 5, 20, 1, 0, 30] 6 0 30 _ _ HG1.out (by omega) rfl (by omega) (by omega) rfl (by decide) rfl).mono ?_
  rintro e w2 ⟨b0, rfl, hb0, hb1, hg2, hgr2⟩
  have HG2 := Lib.hid hg2
  have HB2 := Lib.hid (gb_trans HB1.out hgr2 (.inl rfl))
  have hwb : IntKind.i64.wrap (a + b0) = a + b0 := IntWalk.i64_in _ (by omega)
  clear hg2 hgr2 HG1 HB1
  go_upto_region 3 with fail
  have hM0 : 0 ≤ (if (50 : Int) < a + b0 then 50 else a + b0) ∧ (if (50 : Int) < a + b0 then 50 else a + b0) ≤ 50 := by split <;> omega
  generalize (if (50 : Int) < a + b0 then 50 else a + b0) = b at hM0 ⊢
  obtain ⟨hb2, hb3⟩ := hM0
  clear hwb hb0 hb1
  have HG3 : Hid (GR (w2.alloc (.cells #[] 3)) B R (k + 1 + 1)) := HG2.out.kept (row := none) (World.grownBy_alloc _ _ _) (fun g h => by cases h)
  have HO3 : Hid (OwnJ (w2.alloc (.cells #[] 3)) w.heap.size (.slice (some ⟨w2.heap.size, 0, none⟩) 0 0) []) := World.ownsRow_lit w2 #[] 0 HB2.out.size (by decide) rfl
  have HB3 : Hid (w.grownBy (w2.alloc (.cells #[] 3)) (some R)) := gb_trans HB2.out (World.grownBy_alloc w2 _ none) (.inr (fun g h => by cases h))
  clear HG2 HB2
  go_wp2_with fail
  refine (oneLitAt _ R B (k + 1 + 1) [4, 3, 5, 6, 2, 8, 1, 0] 8 0 8 _ _ HG3.out (by omega) rfl (by omega) (by omega) rfl (by decide) (size_alloc1 _ _)).mono ?_
  rintro e w4 ⟨n, rfl, hn0, hn8, hg4, hgr4⟩
  obtain ⟨n, rfl⟩ := Int.eq_ofNat_of_zero_le hn0
  have HG4 := Lib.hid hg4
  have HO4 := Lib.hid (HO3.out.drawn hgr4 hRlt)
  have HB4 := Lib.hid (gb_trans HB3.out hgr4 (.inl rfl))
  clear hg4 hgr4 HG3 HO3 HB3
  go_wp2
  go_loopw [7, 8] (fun o v wr => CallRelJ B R k w o v wr) (fun _ v _ => (intOf v).toNat)
  case atStart => exact ⟨n, k + 3, [], ⟨_, _, rfl⟩, rfl, by simp; omega, by omega, HO4, HG4, HB4⟩
  case round =>
    clear HO4 HG4 HB4
    obtain ⟨m, q, zs, ⟨g, c, rfl⟩, rfl, hlm, hq, HO, HG, HB⟩ := hrel
    obtain ⟨L, HL⟩ : ∃ L, Hid (zs.length = L) := ⟨_, rfl⟩
    by_cases hpos : 0 < m
    · rw [HL.out] at hlm HO ⊢
      go_wp2_with fail
      refine (pick_any R B q 51 wr HG.out (by omega) (by omega) (by omega)).mono ?_
      rintro e w5 ⟨x, rfl, hx0, hx1, -, hg5, hgw5⟩
      have hx1 := hx1 (by omega)
      have HG5 := Lib.hid hg5
      have HO5 := Lib.hid (HO.out.drawn hgw5 hRlt)
      have HB5 := Lib.hid (gb_trans HB.out hgw5 (.inl rfl))
      clear hg5 hgw5 HG HO HB
      go_wp2_with fail
      refine (pick_any R B (q + 1) 51 w5 HG5.out (by omega) (by omega) (by omega)).mono ?_
      rintro e w6 ⟨y, rfl, hy0, hy1, -, hg6, hgw6⟩
      have hy1 := hy1 (by omega)
      have HG6 := Lib.hid hg6
      have HO6 := Lib.hid (HO5.out.drawn hgw6 hRlt)
      have HB6 := Lib.hid (gb_trans HB5.out hgw6 (.inl rfl))
      have hwab : IntKind.i64.wrap (a + b) = a + b := IntWalk.i64_in _ (by omega)
      have hq2 : 0 ≤ (a + b) / 2 ∧ (a + b) / 2 ≤ 50 := by omega
      have ht2 : (a + b).tdiv 2 = (a + b) / 2 := by rw [Int.tdiv_eq_ediv_of_nonneg (by omega)]
      have hwh : IntKind.i64.wrap ((a + b) / 2) = (a + b) / 2 := IntWalk.i64_in _ (by omega)
      clear hg6 hgw6 HG5 HO5 HB5
      go_wp2_with fail
      refine (oneLitAt _ R B (q + 1 + 1) [x, y, a, b, (a + b) / 2, 0, 50] 7 0 50 w6 _ HG6.out (by omega) rfl (by omega) (by omega) rfl (by intro z hz; simp at hz; omega) rfl).mono ?_
      rintro e w8 ⟨d, rfl, hd0, hd1, hg8, hgw8⟩
      have hown8 : w8.ownsRow w.heap.size 3 1 (.slice (some ⟨g, 0, none⟩) L c) L (zs.map (Value.int .i64)) := by
        have := HO6.out.drawn hgw8 hRlt
        unfold OwnJ at this
        rw [HL.out] at this
        exact this
      have Hown8 := Lib.hid hown8
      have HB8 := Lib.hid (gb_trans HB6.out hgw8 (.inl rfl))
      have HG8 := Lib.hid hg8
      have hsz : L + 1 ≤ maxLen := by unfold maxLen; omega
      have hsz2 : (L + 1) * 8 ≤ 140737488355328 := by omega
      have hsz3 : w.heap.size ≤ (w8.alloc (.cells #[.int .i64 d] 3)).heap.size := by rw [size_alloc1]; have := HB8.out.size; omega
      clear hown8 hg8 hgw8 HO6 HG6 HB6
      go_wp2_with (at_builtin; refine wpList_append_lies _ rfl _ _ 23 rfl w.heap.size 3 i0 _ 1 8 Try.underlying23 hi0 hz0 hz1 hz2 rfl (by decide) _ _ _ rfl (Hown8.out.alloc _) ⟨w8.heap.size, 0, none⟩ 1 1 [.int .i64 d] rfl rfl (cell_one_new _ _ _) (by intro u hu; simp at hu; subst hu; rfl) (by decide) hsz hsz2 hsz3 _ rfl ?_; intro g9 c9 w9 hown9 hgrow9 hat9 hlt9)
      have hl9 : Hid ((zs ++ [d]).length = L + 1) := by show _ = _; rw [List.length_append, HL.out]; rfl
      have HR9 : Hid (OwnJ w9 w.heap.size (.slice (some ⟨g9, 0, none⟩) (L + 1) c9) (zs ++ [d])) := by show World.ownsRow _ _ _ _ _ _ _; rw [hl9.out, List.map_append]; exact hown9
      have HG9 : Hid (GR w9 B R (q + 1 + 1 + 1)) := (HG8.out.kept (row := none) (World.grownBy_alloc _ _ _) (fun g h => by cases h)).kept hgrow9 (fun g h => by have := (Hown8.out.lt g h).1; omega)
      have HB9 : Hid (w.grownBy w9 (some R)) := gb_trans (gb_trans HB8.out (World.grownBy_alloc w8 _ none) (.inr (fun g h => by cases h))) hgrow9 (.inr (fun g h => (Hown8.out.lt g h).1))
      clear hown9 hgrow9 hat9 hlt9 Hown8 HG8 HB8 hsz hsz2 hsz3
      go_wp2
      go_roundw
      case rel => exact ⟨m - 1, q + 1 + 1 + 1, zs ++ [d], ⟨g9, c9, by rw [hl9.out]⟩, by go_num, by rw [hl9.out]; omega, by omega, HR9, HG9, HB9⟩
      case measure => simp [intOf]; omega
    · obtain rfl : m = 0 := by omega
      rw [HL.out] at hlm HO ⊢
      go_wp2_with fail
      refine (pick_any R B q 40 wr HG.out (by omega) (by omega) (by omega)).mono ?_
      rintro e w5 ⟨v, rfl, hv0, hv1, -, hg5, hgw5⟩
      have hv1 := hv1 (by omega)
      have HG5 := Lib.hid hg5
      have HO5 := Lib.hid (HO.out.drawn hgw5 hRlt)
      have HB5 := Lib.hid (gb_trans HB.out hgw5 (.inl rfl))
      have hwb1 : IntKind.i64.wrap (b + 1) = b + 1 := IntWalk.i64_in _ (by omega)
      clear hg5 hgw5 HG HO HB
      by_cases h0 : v = 0
      · subst h0
        obtain ⟨A', c', he, hin⟩ := callsIn_own HO5.out HL.out (by omega)
        injection he with he1 he2 he3
        subst he1 he3
        have HIn := Lib.hid hin
        have HG6 := Lib.hid (HG5.out.more (show q + 1 ≤ k + 30 by omega))
        clear hin he2 HO5 HG5
        go_wp2
        go_ret3
        exact ⟨b + 1, a, _, _, L, zs, rfl, by omega, by omega, by omega, HIn, ⟨_, rfl⟩, HG6, HB5⟩
      · have hv0b : (v == 0) = false := by rw [beq_eq_false_iff_ne]; exact h0
        by_cases h1 : v = 1
        · subst h1
          clear h0
          go_wp2_with fail
          refine (oneLitAt _ R B (q + 1) [-1, 51] 2 (-1) 51 w5 _ HG5.out (by omega) rfl (by omega) (by omega) rfl (by decide) rfl).mono ?_
          rintro e w8 ⟨d, rfl, hd0, hd1, hg8, hgw8⟩
          have hown8 : w8.ownsRow w.heap.size 3 1 (.slice (some ⟨g, 0, none⟩) L c) L (zs.map (Value.int .i64)) := by
            have := HO5.out.drawn hgw8 hRlt
            unfold OwnJ at this
            rw [HL.out] at this
            exact this
          have Hown8 := Lib.hid hown8
          have HB8 := Lib.hid (gb_trans HB5.out hgw8 (.inl rfl))
          have HG8 := Lib.hid hg8
          have hsz : L + 1 ≤ maxLen := by unfold maxLen; omega
          have hsz2 : (L + 1) * 8 ≤ 140737488355328 := by omega
          have hsz3 : w.heap.size ≤ (w8.alloc (.cells #[.int .i64 d] 3)).heap.size := by rw [size_alloc1]; have := HB8.out.size; omega
          clear hown8 hg8 hgw8 HO5 HG5 HB5
          go_wp2_with (at_builtin; refine wpList_append_lies _ rfl _ _ 23 rfl w.heap.size 3 i0 _ 1 8 Try.underlying23 hi0 hz0 hz1 hz2 rfl (by decide) _ _ _ rfl (Hown8.out.alloc _) ⟨w8.heap.size, 0, none⟩ 1 1 [.int .i64 d] rfl rfl (cell_one_new _ _ _) (by intro u hu; simp at hu; subst hu; rfl) (by decide) hsz hsz2 hsz3 _ rfl ?_; intro g9 c9 w9 hown9 hgrow9 hat9 hlt9)
          have hl9 : Hid ((zs ++ [d]).length = L + 1) := by show _ = _; rw [List.length_append, HL.out]; rfl
          have HR9 : Hid (OwnJ w9 w.heap.size (.slice (some ⟨g9, 0, none⟩) (L + 1) c9) (zs ++ [d])) := by show World.ownsRow _ _ _ _ _ _ _; rw [hl9.out, List.map_append]; exact hown9
          have HG9 : Hid (GR w9 B R (q + 1 + 1)) := (HG8.out.kept (row := none) (World.grownBy_alloc _ _ _) (fun g h => by cases h)).kept hgrow9 (fun g h => by have := (Hown8.out.lt g h).1; omega)
          have HB9 : Hid (w.grownBy w9 (some R)) := gb_trans (gb_trans HB8.out (World.grownBy_alloc w8 _ none) (.inr (fun g h => by cases h))) hgrow9 (.inr (fun g h => (Hown8.out.lt g h).1))
          clear hown9 hgrow9 hat9 hlt9 Hown8 HG8 HB8 hsz hsz2 hsz3
          obtain ⟨A', c', he, hin⟩ := callsIn_own HR9.out hl9.out (by omega)
          injection he with he1 he2 he3
          subst he1 he3
          have HIn := Lib.hid hin
          have HG6 := Lib.hid (HG9.out.more (show q + 1 + 1 ≤ k + 30 by omega))
          clear hin he2 HR9 HG9
          go_wp2
          go_ret3
          exact ⟨a, b, _, _, L + 1, zs ++ [d], rfl, by omega, by omega, by omega, HIn, ⟨_, rfl⟩, HG6, HB9⟩
        · have hv1b : (v == 1) = false := by rw [beq_eq_false_iff_ne]; exact h1
          obtain ⟨A', c', he, hin⟩ := callsIn_own HO5.out HL.out (by omega)
          injection he with he1 he2 he3
          subst he1 he3
          have HIn := Lib.hid hin
          have HG6 := Lib.hid (HG5.out.more (show q + 1 ≤ k + 30 by omega))
          clear hin he2 HO5 HG5
          go_wp2
          go_ret3
          exact ⟨a, b, _, _, L, zs, rfl, by omega, by omega, by omega, HIn, ⟨_, rfl⟩, HG6, HB5⟩
end Go.Proofs.Ythgllpiclaihjaa
