/-
  Shops drawn; the drawn arguments of chapter 10's laws.
  Conditions: none beyond what each theorem states.
-/
import Derived.Test.Ythphboeboiallaa0V
namespace Go.Proofs.Ythphboeboiallaa
open Go.ChangeShapes Go.WideShapes Go.ChangeAt Go.RowKit
set_option linter.unusedVariables false
set_option maxRecDepth 4000

/-- What is drawn leaves a row of the call's own. -/
theorem OwnQ.drawn {w w' : World} {B R g c L : Nat} {xs : List Int} (h : OwnQ w B g c L xs) (hg : w.grownBy w' (some R)) (hR : R < B) : OwnQ w' B g c L xs :=
  ⟨h.1, World.ownsRow.kept h.2 hg (.inr (fun e => by have := (World.ownsRow.lt h.2 R e).1; omega))⟩
theorem pIn_own {w : World} {B m : Nat} {v : Value} {zs : List Int} (h : w.ownsRow B 3 1 v m (zs.map (Value.int .i64))) (hn : zs.length = m) (h20 : m ≤ 20) : ∃ A c, v = .slice A m c ∧ PIn w A c m zs ∧ ∀ b off, A = some ⟨b, off, none⟩ → B ≤ b := by
  obtain ⟨A, c, rfl, hc, hm, hrd⟩ := own_slice h hn
  exact ⟨A, c, rfl, ⟨hrd, hn, ⟨hc, hm⟩, by omega⟩, fun b off e => (World.ownsRow.lt h b (by rw [e]; rfl)).1⟩
def SomeShops (B R k : Nat) (w : World) (e : Ending) (w' : World) : Prop :=
  ∃ n A c m, ∃ zs : List Int, e = .returned (.tuple #[.int .i64 ((n : Nat) : Int), .slice A m c]) ∧ n ≤ 10 ∧ 1 ≤ m ∧ m ≤ 4 ∧ Hid (PIn w' A c m zs ∧ ∀ b off, A = some ⟨b, off, none⟩ → w.heap.size ≤ b) ∧ Hid (GR w' B R (k + 40)) ∧ Hid (w.grownBy w' (some R))
def SqRel (B R k : Nat) (w : World) (o a v : Value) (wr : World) : Prop :=
  ∃ g c L j q t : Nat, ∃ xs : List Int, o = .slice (some ⟨g, 0, none⟩) L c ∧ a = .int .i64 ((t : Nat) : Int) ∧ v = .int .i64 ((j : Nat) : Int) ∧ 1 ≤ L + j ∧ L + j ≤ 4 ∧ t ≤ 10 + 4 * L ∧ q + j ≤ k + 10 ∧ Hid (OwnQ wr w.heap.size g c L xs) ∧ Hid (GR wr B R q) ∧ Hid (w.grownBy wr (some R))
set_option maxHeartbeats 4000000 in
theorem someShops_any (R B k : Nat) (w : World) (hg : GR w B R k) (hk : k ≤ 80000) :
    Calls Try.prog 45 #[.pointer (some ⟨R, 0, none⟩)] w (SomeShops B R k w) := by
  obtain ⟨i0, hi0, hz0, hz1, hz2⟩ := info_parts intInfo
  have hRlt := hg.lt
  have HG := Lib.hid hg
  clear hg
  go_enter Try.func45, Try.ntmps45
  go_wp2_with fail
  refine (oneLitAt _ R B k [5, 4, 6, 3, 7, 2, 9, 1] 8 1 9 _ _ HG.out (by omega) rfl (by omega) (by omega) rfl (by decide) rfl).mono ?_
  rintro e w0 ⟨n, rfl, hn1, hn9, hg0, hgr0⟩
  obtain ⟨n, rfl⟩ := Int.eq_ofNat_of_zero_le (show 0 ≤ n by omega)
  have HG0 : Hid (GR (w0.alloc (.cells #[] 3)) B R (k + 1)) := hg0.kept (row := none) (World.grownBy_alloc _ _ _) (fun g h => by cases h)
  have hs0 := hgr0.size
  have HO0 : Hid (OwnQ (w0.alloc (.cells #[] 3)) w.heap.size w0.heap.size 0 0 []) := ⟨rfl, World.ownsRow_lit w0 #[] 0 hs0 (by decide) rfl⟩
  have HB0 : Hid (w.grownBy (w0.alloc (.cells #[] 3)) (some R)) := gb_trans hgr0 (World.grownBy_alloc w0 _ none) (.inr (fun g h => by cases h))
  have hw1 : IntKind.i64.wrap ((n : Int) + 1) = (n : Int) + 1 := IntWalk.i64_in _ (by omega)
  obtain ⟨h, Hh⟩ : ∃ h, Hid ((n + 1) / 2 = h) := ⟨_, rfl⟩
  have hh := Hh.out
  have hd1 : ((n : Int) + 1).tdiv 2 = ((h : Nat) : Int) := by rw [← Hh.out, show (n : Int) + 1 = ((n + 1 : Nat) : Int) by omega]; exact (Int.ofNat_tdiv (n + 1) 2).symm
  have hd2 : ((n : Int) + 1) / 2 = ((h : Nat) : Int) := by omega
  have hh5 : h ≤ 5 := by omega
  clear hg0 hgr0 HG hh
  go_wp2_with fail
  refine (pick_any R B (k + 1) (h : Int) _ HG0.out (by omega) (by omega) (by omega)).mono ?_
  rintro e w1 ⟨t, rfl, ht0, ht1, ht2, hg1, hgr1⟩
  obtain ⟨t, rfl⟩ := Int.eq_ofNat_of_zero_le ht0
  have ht5 : t ≤ 10 := by
    by_cases hz : 1 ≤ (h : Int)
    · have := ht1 hz; omega
    · have := ht2 (by omega); omega
  have HG1 := Lib.hid hg1
  have HO1 := Lib.hid (HO0.out.drawn hgr1 hRlt)
  have HB1 := Lib.hid (gb_trans HB0.out hgr1 (.inl rfl))
  clear hg1 hgr1 HG0 HO0 HB0 ht0 ht1 ht2 hd1 hd2 hw1
  go_wp2_with fail
  refine (oneLitAt _ R B (k + 1 + 1) [2, 3, 2, 1, 4] 5 1 4 _ _ HG1.out (by omega) rfl (by omega) (by omega) rfl (by decide) rfl).mono ?_
  rintro e w2 ⟨j, rfl, hj1, hj4, hg2, hgr2⟩
  obtain ⟨j, rfl⟩ := Int.eq_ofNat_of_zero_le (show 0 ≤ j by omega)
  have HG2 := Lib.hid hg2
  have HO2 := Lib.hid (HO1.out.drawn hgr2 hRlt)
  have HB2 := Lib.hid (gb_trans HB1.out hgr2 (.inl rfl))
  clear hg2 hgr2 HG1 HO1 HB1
  go_wp2
  go_loopw [5, 6, 7] (fun o a v wr => SqRel B R k w o a v wr) (fun _ _ v _ => (intOf v).toNat)
  case atStart => exact ⟨_, _, 0, j, k + 1 + 1 + 1, t, [], rfl, rfl, rfl, by omega, by omega, by omega, by omega, HO2, HG2, HB2⟩
  case round =>
    clear HG2 HO2 HB2
    obtain ⟨g, c, L, j, q, t, xs, rfl, rfl, rfl, hL1, hLj, htL, hq, HO, HG, HB⟩ := hrel
    have hwn : IntKind.i64.wrap ((n : Int) - 1) = (n : Int) - 1 := IntWalk.i64_in _ (by omega)
    by_cases hpos : 0 < j
    · have Hlen := Lib.hid HO.out.1
      have Hown := Lib.hid HO.out.2
      have hsz : L + 1 ≤ maxLen := by unfold maxLen; omega
      have hsz2 : (L + 1) * 8 ≤ 140737488355328 := by omega
      have Hsz3 : Hid (∀ o, w.heap.size ≤ (wr.alloc o).heap.size) := fun o => by rw [size_alloc1]; have := HB.out.size; omega
      have HG' := Lib.hid HG.out
      clear HO HG
      have hpz : (0 : Int) < (j : Int) := by omega
      by_cases hmin : (t : Int) ≤ (n : Int) - 1
      all_goals
        go_wp2_with (at_builtin; refine wpList_append_lies _ rfl _ _ 23 rfl w.heap.size 3 i0 _ 1 8 Try.underlying23 hi0 hz0 hz1 hz2 rfl (by decide) _ _ _ rfl (Hown.out.alloc _) ⟨wr.heap.size, 0, none⟩ 1 1 [_] rfl rfl (cell_one_new _ _ _) (by intro u hu; simp at hu; subst hu; rfl) (by decide) hsz hsz2 (Hsz3.out _) _ rfl ?_; intro g3 c3 w8 hown8 hgrow8 hat8 hlt8)
        obtain ⟨ys, hys⟩ : ∃ ys : List Int, OwnQ w8 w.heap.size g3 c3 (L + 1) ys := ⟨_, ownQ_push Hlen.out hown8⟩
        have HO8 := Lib.hid hys
        have HG8 : Hid (GR w8 B R q) := (HG'.out.kept (row := none) (World.grownBy_alloc _ _ _) (fun g h => by cases h)).kept hgrow8 (fun g h => by have := (Hown.out.lt g h).1; omega)
        have HB8 : Hid (w.grownBy w8 (some R)) := gb_trans (gb_trans HB.out (World.grownBy_alloc wr _ none) (.inr (fun g h => by cases h))) hgrow8 (.inr (fun g h => (Hown.out.lt g h).1))
        clear hown8 hgrow8 hat8 hlt8 Hown HG' Hlen hsz hsz2 Hsz3 hys HB
        go_wp2_with fail
        refine (oneLitAt _ R B q [1, 0, 2, 3, 0] 5 0 3 _ _ HG8.out (by omega) rfl (by omega) (by omega) rfl (by decide) rfl).mono ?_
        rintro e w9 ⟨v, rfl, hv0, hv3, hgr9, hgw9⟩
        obtain ⟨v, rfl⟩ := Int.eq_ofNat_of_zero_le hv0
        have HG9 := Lib.hid hgr9
        have HO9 := Lib.hid (HO8.out.drawn hgw9 hRlt)
        have HB9 := Lib.hid (gb_trans HB8.out hgw9 (.inl rfl))
        have hwt : IntKind.i64.wrap ((t : Int) + (v : Int)) = ((t + v : Nat) : Int) := by rw [IntKind.wrap_i64]; omega
        have hwj : IntKind.i64.wrap ((j : Int) - 1) = ((j - 1 : Nat) : Int) := by rw [IntKind.wrap_i64]; omega
        clear hgr9 hgw9 HO8 HG8 HB8
        go_wp2
        go_roundw
        case rel => exact ⟨g3, c3, L + 1, j - 1, q + 1, t + v, ys, rfl, by first | rfl | go_num, by first | rfl | go_num, by omega, by omega, by omega, by omega, HO9, HG9, HB9⟩
        case measure => simp [intOf]; omega
    · obtain rfl : j = 0 := by omega
      have hL1 : 0 < L := by omega
      have hLz : (0 : Int) < (L : Int) := by omega
      go_wp2_with fail
      refine (pick_any R B q 40 wr HG.out (by omega) (by omega) (by omega)).mono ?_
      rintro e w5 ⟨u, rfl, hu0, -, -, hgr5, hgw5⟩
      have HG5 := Lib.hid hgr5
      have HO5 := Lib.hid (HO.out.drawn hgw5 hRlt)
      have HB5 := Lib.hid (gb_trans HB.out hgw5 (.inl rfl))
      clear hgr5 hgw5 HG HO HB
      by_cases hu : u = 0
      · subst hu
        go_wp2_with fail
        refine (oneLitAt _ R B (q + 1) [-1, (n : Int)] 2 (-1) 9 _ _ HG5.out (by omega) rfl (by omega) (by omega) rfl (by intro x hx; simp at hx; rcases hx with rfl | rfl <;> omega) rfl).mono ?_
        rintro e w7 ⟨x, rfl, hx0, hx1, hgr7, hgw7⟩
        have HG7 := Lib.hid hgr7
        have HO7 := Lib.hid (HO5.out.drawn hgw7 hRlt)
        have HB7 := Lib.hid (gb_trans HB5.out hgw7 (.inl rfl))
        have hlt7 := (World.ownsRow.lt HO7.out.2 g rfl)
        have hgl := hlt7.1
        have hgl2 := hlt7.2
        obtain ⟨v7, hv7⟩ : ∃ v7, w7.cell? ⟨g, 0, none⟩ = some v7 := by
          rw [HO7.out.2.cellAt 0 (by omega)]
          exact ⟨_, List.getElem?_eq_getElem (by simp [HO7.out.1]; omega)⟩
        have hf7 := HO7.out.2.frozenAt 0
        have hst := (HO7.out.2.stored 0 (.int .i64 x)).1
        have hgs := (HO7.out.2.stored 0 (.int .i64 x)).2
        have HB8 := Lib.hid (gb_trans HB7.out hgs (.inr (fun g' h' => by cases h'; exact hgl)))
        have HG8 := Lib.hid ((HG7.out.kept hgs (fun g' h' => by cases h'; omega)).more (show q + 1 + 1 ≤ k + 40 by omega))
        have e0 : (xs.map (Value.int .i64)).set 0 (.int .i64 x) = (xs.set 0 x).map (Value.int .i64) := by rw [List.map_set]
        rw [e0] at hst
        obtain ⟨A', c', he, hin, hlo⟩ := pIn_own hst (by rw [List.length_set]; exact HO7.out.1) (by omega)
        injection he with he1 he2 he3
        subst he1 he3
        have HIn := Lib.hid (And.intro hin hlo)
        clear hgr7 hgw7 HG5 HO5 HB5 HG7 HO7 HB7 hgs hst hin hlo he2 e0 hlt7
        go_wp2
        go_ret2
        exact ⟨n, _, _, L, _, rfl, by omega, by omega, by omega, HIn, HG8, HB8⟩
      · have hub : (u == 0) = false := by rw [beq_eq_false_iff_ne]; exact hu
        obtain ⟨A', c', he, hin, hlo⟩ := pIn_own HO5.out.2 HO5.out.1 (by omega)
        injection he with he1 he2 he3
        subst he1 he3
        by_cases hu1 : u = 1
        · subst hu1
          have HO6 := Lib.hid HO5.out
          clear hin hlo he2
          go_wp2_with fail
          refine (oneLitAt _ R B (q + 1) [0, 10] 2 0 10 _ _ HG5.out (by omega) rfl (by omega) (by omega) rfl (by decide) rfl).mono ?_
          rintro e w7 ⟨x, rfl, hx0, hx1, hgr7, hgw7⟩
          obtain ⟨x, rfl⟩ := Int.eq_ofNat_of_zero_le hx0
          have HG7 := Lib.hid (hgr7.more (show q + 1 + 1 ≤ k + 40 by omega))
          have HO7 := Lib.hid (HO6.out.drawn hgw7 hRlt)
          have HB7 := Lib.hid (gb_trans HB5.out hgw7 (.inl rfl))
          obtain ⟨A', c', he, hin, hlo⟩ := pIn_own HO7.out.2 HO7.out.1 (by omega)
          injection he with he1 he2 he3
          subst he1 he3
          have HIn := Lib.hid (And.intro hin hlo)
          clear hgr7 hgw7 HG5 HO5 HB5 HO6 HO7 hin hlo he2
          go_wp2
          go_ret2
          exact ⟨x, _, _, L, xs, rfl, by omega, by omega, by omega, HIn, HG7, HB7⟩
        · have hub1 : (u == 1) = false := by rw [beq_eq_false_iff_ne]; exact hu1
          have HIn := Lib.hid (And.intro hin hlo)
          have HG1 := Lib.hid (HG5.out.more (show q + 1 ≤ k + 40 by omega))
          clear hu hu1 HG5 HO5 hin hlo he2
          go_wp2
          go_ret2
          exact ⟨n, _, _, L, xs, rfl, by omega, by omega, by omega, HIn, HG1, HB5⟩

theorem gb_belowQ {R B : Nat} {a b : World} (h : a.grownBy b (some R)) (hB : B ≤ R) (hR : R ≤ a.heap.size) : Below B a b :=
  ⟨h.os, h.tape, h.output, h.size, fun i hi => h.block i (by omega) (by intro e; injection e with e; omega)⟩
theorem PIn.drawn {w w' : World} {R : Nat} {A : Option Addr} {c m : Nat} {zs : List Int} (h : PIn w A c m zs) (hA : ∀ b off, A = some ⟨b, off, none⟩ → b ≠ R) (hg : w.grownBy w' (some R)) : PIn w' A c m zs := by
  refine ⟨fun hp => ?_, h.len, h.cap, h.most⟩
  obtain ⟨b, off, e, hb, hc⟩ := h.rd hp
  exact ⟨b, off, e, Nat.lt_of_lt_of_le hb hg.size, fun i hi => (World.cell?_of_block (hg.block b hb (fun e' => hA b off e (by injection e')))).trans (hc i hi)⟩
def DrawnP (w : World) (e : Ending) (w' : World) : Prop :=
  ∃ n A c m, ∃ zs : List Int, e = .returned (.tuple #[.int .i64 ((n : Nat) : Int), .slice A m c]) ∧ n ≤ 10 ∧ 1 ≤ m ∧ m ≤ 4 ∧ Hid (PIn w' A c m zs) ∧ Hid (Below w.heap.size w w')
def DrawnNK (w : World) (e : Ending) (w' : World) : Prop :=
  ∃ n k : Int, e = .returned (.tuple #[.int .i64 n, .int .i64 k]) ∧ 0 ≤ n ∧ n ≤ 10 ∧ 1 ≤ k ∧ k ≤ 5 ∧ Hid (Below w.heap.size w w')
set_option maxHeartbeats 1600000 in
theorem drawValidShops_any (A : Option Addr) (c n : Nat) (bs : List Int) (w : World) (hr : RdB w w.heap.size A bs) (hn : bs.length = n) (hc : n ≤ c) (hm : c ≤ 9223372036854775807) :
    Calls Try.prog 15 #[.slice A n c] w (DrawnP w) := by
  have H := Lib.hid (newReader_any A c n bs w hr hn hc hm)
  clear hn
  go_enter Try.func15, Try.ntmps15
  go_wp2_with fail
  refine H.out.mono ?_
  rintro e w1 ⟨rfl, hg1, hnx1⟩
  have hlt := hg1.lt
  go_wp2_with fail
  refine (someShops_any w.heap.size w.heap.size 0 w1 hg1 (by omega)).mono ?_
  rintro e w2 ⟨d, A2, c2, m, zs, rfl, hd10, hm1, hm4, hin, hg2, hb⟩
  have HB2 : Hid (Below w.heap.size w w2) := hnx1.trans (gb_belowQ hb.out (Nat.le_refl _) (Nat.le_of_lt hlt))
  have HA : Hid (∀ b off, A2 = some ⟨b, off, none⟩ → b ≠ w.heap.size) := fun b off e => by have := hin.out.2 b off e; omega
  have HI2 : Hid (PIn w2 A2 c2 m zs) := hin.out.1
  clear hb hin
  go_wp2_with fail
  refine (pick_any w.heap.size w.heap.size (0 + 40) 3 w2 hg2.out (by omega) (by omega) (by omega)).mono ?_
  rintro e w3 ⟨u, rfl, hu0, -, -, -, hgw3⟩
  have HB3 : Hid (Below w.heap.size w w3) := HB2.out.trans (gb_belowQ hgw3 (Nat.le_refl _) (by have := hg2.out.lt; omega))
  have HI3 := Lib.hid (HI2.out.drawn HA.out hgw3)
  clear hgw3 HB2 HI2 HA hg2
  by_cases hu : u = 0
  · subst hu
    by_cases hd : 1 < d
    · obtain ⟨p, Hp⟩ : ∃ p, Hid ((d - 1) / 2 = p) := ⟨_, rfl⟩
      obtain ⟨q, Hq⟩ : ∃ q, Hid (d / 2 = q) := ⟨_, rfl⟩
      have hp := Hp.out
      have hq := Hq.out
      have hw1 : IntKind.i64.wrap ((d : Int) - 1) = ((d - 1 : Nat) : Int) := by rw [IntKind.wrap_i64]; omega
      have e1 : (((d - 1 : Nat) : Int)).tdiv 2 = ((p : Nat) : Int) := by rw [← Hp.out]; exact (Int.ofNat_tdiv (d - 1) 2).symm
      have e2 : (((d - 1 : Nat) : Int)) / 2 = ((p : Nat) : Int) := by omega
      have e5 : ((d : Int) - 1) / 2 = ((p : Nat) : Int) := by omega
      have e6 : ((d : Int) - 1).tdiv 2 = ((p : Nat) : Int) := by rw [show (d : Int) - 1 = ((d - 1 : Nat) : Int) by omega]; exact e1
      have e3 : ((d : Int)).tdiv 2 = ((q : Nat) : Int) := by rw [← Hq.out]; exact (Int.ofNat_tdiv d 2).symm
      have e4 : ((d : Int)) / 2 = ((q : Nat) : Int) := by omega
      have hd1 : (1 : Int) < (d : Int) := by omega
      have HI4 : Hid (PIn (w3.alloc (.cells #[.int .i64 ((p : Nat) : Int), .int .i64 ((q : Nat) : Int)] 3)) (some ⟨w3.heap.size, 0, none⟩) 2 2 [(p : Int), (q : Int)]) :=
        ⟨fun _ => ⟨w3.heap.size, 0, rfl, by rw [size_alloc1]; omega, fun i hi => by
          rw [cell_of_row _ _ _ _ _ _ (heap_alloc_new w3 _)]
          rcases (show i = 0 ∨ i = 1 by simp at hi; omega) with rfl | rfl <;> rfl⟩, rfl, ⟨Nat.le_refl _, by omega⟩, by omega⟩
      have HB4 : Hid (Below w.heap.size w (w3.alloc (.cells #[.int .i64 ((p : Nat) : Int), .int .i64 ((q : Nat) : Int)] 3))) := HB3.out.alloc HB3.out.size _
      clear hp hq HB3 HI3
      go_wp2
      go_ret2
      exact ⟨d, _, _, 2, _, rfl, hd10, by omega, by omega, HI4, HB4⟩
    · have hd1 : ¬ (1 : Int) < (d : Int) := by omega
      go_wp2
      go_ret2
      exact ⟨d, A2, c2, m, zs, rfl, hd10, hm1, hm4, HI3, HB3⟩
  · have hub : (u == 0) = false := by rw [beq_eq_false_iff_ne]; exact hu
    clear hu
    go_wp2
    go_ret2
    exact ⟨d, A2, c2, m, zs, rfl, hd10, hm1, hm4, HI3, HB3⟩
set_option maxHeartbeats 1600000 in
theorem drawSharesOf_any (A : Option Addr) (c n : Nat) (bs : List Int) (w : World) (hr : RdB w w.heap.size A bs) (hn : bs.length = n) (hc : n ≤ c) (hm : c ≤ 9223372036854775807) :
    Calls Try.prog 19 #[.slice A n c] w (DrawnP w) := by
  have H := Lib.hid (newReader_any A c n bs w hr hn hc hm)
  clear hn
  go_enter Try.func19, Try.ntmps19
  go_wp2_with fail
  refine H.out.mono ?_
  rintro e w1 ⟨rfl, hg1, hnx1⟩
  have hlt := hg1.lt
  go_wp2_with fail
  refine (someShops_any w.heap.size w.heap.size 0 w1 hg1 (by omega)).mono ?_
  rintro e w2 ⟨d, A2, c2, m, zs, rfl, hd10, hm1, hm4, hin, hg2, hb⟩
  have HB2 : Hid (Below w.heap.size w w2) := hnx1.trans (gb_belowQ hb.out (Nat.le_refl _) (Nat.le_of_lt hlt))
  have HA : Hid (∀ b off, A2 = some ⟨b, off, none⟩ → b ≠ w.heap.size) := fun b off e => by have := hin.out.2 b off e; omega
  have HI2 : Hid (PIn w2 A2 c2 m zs) := hin.out.1
  clear hb hin
  go_wp2_with fail
  refine (pick_any w.heap.size w.heap.size (0 + 40) 3 w2 hg2.out (by omega) (by omega) (by omega)).mono ?_
  rintro e w3 ⟨u, rfl, hu0, -, -, -, hgw3⟩
  have HB3 : Hid (Below w.heap.size w w3) := HB2.out.trans (gb_belowQ hgw3 (Nat.le_refl _) (by have := hg2.out.lt; omega))
  have HI3 := Lib.hid (HI2.out.drawn HA.out hgw3)
  clear hgw3 HB2 HI2 HA hg2
  by_cases hu : u = 0
  · subst hu
    by_cases hd : 1 < d
    · obtain ⟨p, Hp⟩ : ∃ p, Hid ((d - 1) / 2 = p) := ⟨_, rfl⟩
      obtain ⟨q, Hq⟩ : ∃ q, Hid (d / 2 = q) := ⟨_, rfl⟩
      have hp := Hp.out
      have hq := Hq.out
      have hw1 : IntKind.i64.wrap ((d : Int) - 1) = ((d - 1 : Nat) : Int) := by rw [IntKind.wrap_i64]; omega
      have e1 : (((d - 1 : Nat) : Int)).tdiv 2 = ((p : Nat) : Int) := by rw [← Hp.out]; exact (Int.ofNat_tdiv (d - 1) 2).symm
      have e2 : (((d - 1 : Nat) : Int)) / 2 = ((p : Nat) : Int) := by omega
      have e5 : ((d : Int) - 1) / 2 = ((p : Nat) : Int) := by omega
      have e6 : ((d : Int) - 1).tdiv 2 = ((p : Nat) : Int) := by rw [show (d : Int) - 1 = ((d - 1 : Nat) : Int) by omega]; exact e1
      have e3 : ((d : Int)).tdiv 2 = ((q : Nat) : Int) := by rw [← Hq.out]; exact (Int.ofNat_tdiv d 2).symm
      have e4 : ((d : Int)) / 2 = ((q : Nat) : Int) := by omega
      have hd1 : (1 : Int) < (d : Int) := by omega
      have HI4 : Hid (PIn (w3.alloc (.cells #[.int .i64 ((p : Nat) : Int), .int .i64 ((q : Nat) : Int)] 3)) (some ⟨w3.heap.size, 0, none⟩) 2 2 [(p : Int), (q : Int)]) :=
        ⟨fun _ => ⟨w3.heap.size, 0, rfl, by rw [size_alloc1]; omega, fun i hi => by
          rw [cell_of_row _ _ _ _ _ _ (heap_alloc_new w3 _)]
          rcases (show i = 0 ∨ i = 1 by simp at hi; omega) with rfl | rfl <;> rfl⟩, rfl, ⟨Nat.le_refl _, by omega⟩, by omega⟩
      have HB4 : Hid (Below w.heap.size w (w3.alloc (.cells #[.int .i64 ((p : Nat) : Int), .int .i64 ((q : Nat) : Int)] 3))) := HB3.out.alloc HB3.out.size _
      clear hp hq HB3 HI3
      go_wp2
      go_ret2
      exact ⟨d, _, _, 2, _, rfl, hd10, by omega, by omega, HI4, HB4⟩
    · have hd1 : ¬ (1 : Int) < (d : Int) := by omega
      go_wp2
      go_ret2
      exact ⟨d, A2, c2, m, zs, rfl, hd10, hm1, hm4, HI3, HB3⟩
  · have hub : (u == 0) = false := by rw [beq_eq_false_iff_ne]; exact hu
    clear hu
    go_wp2
    go_ret2
    exact ⟨d, A2, c2, m, zs, rfl, hd10, hm1, hm4, HI3, HB3⟩
set_option maxHeartbeats 1600000 in
theorem drawBestPlace_any (A : Option Addr) (c n : Nat) (bs : List Int) (w : World) (hr : RdB w w.heap.size A bs) (hn : bs.length = n) (hc : n ≤ c) (hm : c ≤ 9223372036854775807) :
    Calls Try.prog 25 #[.slice A n c] w (DrawnP w) := by
  have H := Lib.hid (newReader_any A c n bs w hr hn hc hm)
  clear hn
  go_enter Try.func25, Try.ntmps25
  go_wp2_with fail
  refine H.out.mono ?_
  rintro e w1 ⟨rfl, hg1, hnx1⟩
  have hlt := hg1.lt
  go_wp2_with fail
  refine (someShops_any w.heap.size w.heap.size 0 w1 hg1 (by omega)).mono ?_
  rintro e w2 ⟨d, A2, c2, m, zs, rfl, hd10, hm1, hm4, hin, hg2, hb⟩
  have HB2 : Hid (Below w.heap.size w w2) := hnx1.trans (gb_belowQ hb.out (Nat.le_refl _) (Nat.le_of_lt hlt))
  have HA : Hid (∀ b off, A2 = some ⟨b, off, none⟩ → b ≠ w.heap.size) := fun b off e => by have := hin.out.2 b off e; omega
  have HI2 : Hid (PIn w2 A2 c2 m zs) := hin.out.1
  clear hb hin
  go_wp2_with fail
  refine (pick_any w.heap.size w.heap.size (0 + 40) 3 w2 hg2.out (by omega) (by omega) (by omega)).mono ?_
  rintro e w3 ⟨u, rfl, hu0, -, -, -, hgw3⟩
  have HB3 : Hid (Below w.heap.size w w3) := HB2.out.trans (gb_belowQ hgw3 (Nat.le_refl _) (by have := hg2.out.lt; omega))
  have HI3 := Lib.hid (HI2.out.drawn HA.out hgw3)
  clear hgw3 HB2 HI2 HA hg2
  by_cases hu : u = 0
  · subst hu
    by_cases hd : 1 < d
    · obtain ⟨p, Hp⟩ : ∃ p, Hid ((d - 1) / 2 = p) := ⟨_, rfl⟩
      obtain ⟨q, Hq⟩ : ∃ q, Hid (d / 2 = q) := ⟨_, rfl⟩
      have hp := Hp.out
      have hq := Hq.out
      have hw1 : IntKind.i64.wrap ((d : Int) - 1) = ((d - 1 : Nat) : Int) := by rw [IntKind.wrap_i64]; omega
      have e1 : (((d - 1 : Nat) : Int)).tdiv 2 = ((p : Nat) : Int) := by rw [← Hp.out]; exact (Int.ofNat_tdiv (d - 1) 2).symm
      have e2 : (((d - 1 : Nat) : Int)) / 2 = ((p : Nat) : Int) := by omega
      have e5 : ((d : Int) - 1) / 2 = ((p : Nat) : Int) := by omega
      have e6 : ((d : Int) - 1).tdiv 2 = ((p : Nat) : Int) := by rw [show (d : Int) - 1 = ((d - 1 : Nat) : Int) by omega]; exact e1
      have e3 : ((d : Int)).tdiv 2 = ((q : Nat) : Int) := by rw [← Hq.out]; exact (Int.ofNat_tdiv d 2).symm
      have e4 : ((d : Int)) / 2 = ((q : Nat) : Int) := by omega
      have hd1 : (1 : Int) < (d : Int) := by omega
      have HI4 : Hid (PIn (w3.alloc (.cells #[.int .i64 ((p : Nat) : Int), .int .i64 ((q : Nat) : Int)] 3)) (some ⟨w3.heap.size, 0, none⟩) 2 2 [(p : Int), (q : Int)]) :=
        ⟨fun _ => ⟨w3.heap.size, 0, rfl, by rw [size_alloc1]; omega, fun i hi => by
          rw [cell_of_row _ _ _ _ _ _ (heap_alloc_new w3 _)]
          rcases (show i = 0 ∨ i = 1 by simp at hi; omega) with rfl | rfl <;> rfl⟩, rfl, ⟨Nat.le_refl _, by omega⟩, by omega⟩
      have HB4 : Hid (Below w.heap.size w (w3.alloc (.cells #[.int .i64 ((p : Nat) : Int), .int .i64 ((q : Nat) : Int)] 3))) := HB3.out.alloc HB3.out.size _
      clear hp hq HB3 HI3
      go_wp2
      go_ret2
      exact ⟨d, _, _, 2, _, rfl, hd10, by omega, by omega, HI4, HB4⟩
    · have hd1 : ¬ (1 : Int) < (d : Int) := by omega
      go_wp2
      go_ret2
      exact ⟨d, A2, c2, m, zs, rfl, hd10, hm1, hm4, HI3, HB3⟩
  · have hub : (u == 0) = false := by rw [beq_eq_false_iff_ne]; exact hu
    clear hu
    go_wp2
    go_ret2
    exact ⟨d, A2, c2, m, zs, rfl, hd10, hm1, hm4, HI3, HB3⟩
set_option maxHeartbeats 1600000 in
theorem drawIsRest_any (A : Option Addr) (c n : Nat) (bs : List Int) (w : World) (hr : RdB w w.heap.size A bs) (hn : bs.length = n) (hc : n ≤ c) (hm : c ≤ 9223372036854775807) :
    Calls Try.prog 29 #[.slice A n c] w (DrawnP w) := by
  have H := Lib.hid (newReader_any A c n bs w hr hn hc hm)
  clear hn
  go_enter Try.func29, Try.ntmps29
  go_wp2_with fail
  refine H.out.mono ?_
  rintro e w1 ⟨rfl, hg1, hnx1⟩
  have hlt := hg1.lt
  go_wp2_with fail
  refine (someShops_any w.heap.size w.heap.size 0 w1 hg1 (by omega)).mono ?_
  rintro e w2 ⟨d, A2, c2, m, zs, rfl, hd10, hm1, hm4, hin, hg2, hb⟩
  have HB2 : Hid (Below w.heap.size w w2) := hnx1.trans (gb_belowQ hb.out (Nat.le_refl _) (Nat.le_of_lt hlt))
  have HA : Hid (∀ b off, A2 = some ⟨b, off, none⟩ → b ≠ w.heap.size) := fun b off e => by have := hin.out.2 b off e; omega
  have HI2 : Hid (PIn w2 A2 c2 m zs) := hin.out.1
  clear hb hin
  go_wp2_with fail
  refine (pick_any w.heap.size w.heap.size (0 + 40) 3 w2 hg2.out (by omega) (by omega) (by omega)).mono ?_
  rintro e w3 ⟨u, rfl, hu0, -, -, -, hgw3⟩
  have HB3 : Hid (Below w.heap.size w w3) := HB2.out.trans (gb_belowQ hgw3 (Nat.le_refl _) (by have := hg2.out.lt; omega))
  have HI3 := Lib.hid (HI2.out.drawn HA.out hgw3)
  clear hgw3 HB2 HI2 HA hg2
  by_cases hu : u = 0
  · subst hu
    by_cases hd : 1 < d
    · obtain ⟨p, Hp⟩ : ∃ p, Hid ((d - 1) / 2 = p) := ⟨_, rfl⟩
      obtain ⟨q, Hq⟩ : ∃ q, Hid (d / 2 = q) := ⟨_, rfl⟩
      have hp := Hp.out
      have hq := Hq.out
      have hw1 : IntKind.i64.wrap ((d : Int) - 1) = ((d - 1 : Nat) : Int) := by rw [IntKind.wrap_i64]; omega
      have e1 : (((d - 1 : Nat) : Int)).tdiv 2 = ((p : Nat) : Int) := by rw [← Hp.out]; exact (Int.ofNat_tdiv (d - 1) 2).symm
      have e2 : (((d - 1 : Nat) : Int)) / 2 = ((p : Nat) : Int) := by omega
      have e5 : ((d : Int) - 1) / 2 = ((p : Nat) : Int) := by omega
      have e6 : ((d : Int) - 1).tdiv 2 = ((p : Nat) : Int) := by rw [show (d : Int) - 1 = ((d - 1 : Nat) : Int) by omega]; exact e1
      have e3 : ((d : Int)).tdiv 2 = ((q : Nat) : Int) := by rw [← Hq.out]; exact (Int.ofNat_tdiv d 2).symm
      have e4 : ((d : Int)) / 2 = ((q : Nat) : Int) := by omega
      have hd1 : (1 : Int) < (d : Int) := by omega
      have HI4 : Hid (PIn (w3.alloc (.cells #[.int .i64 ((p : Nat) : Int), .int .i64 ((q : Nat) : Int)] 3)) (some ⟨w3.heap.size, 0, none⟩) 2 2 [(p : Int), (q : Int)]) :=
        ⟨fun _ => ⟨w3.heap.size, 0, rfl, by rw [size_alloc1]; omega, fun i hi => by
          rw [cell_of_row _ _ _ _ _ _ (heap_alloc_new w3 _)]
          rcases (show i = 0 ∨ i = 1 by simp at hi; omega) with rfl | rfl <;> rfl⟩, rfl, ⟨Nat.le_refl _, by omega⟩, by omega⟩
      have HB4 : Hid (Below w.heap.size w (w3.alloc (.cells #[.int .i64 ((p : Nat) : Int), .int .i64 ((q : Nat) : Int)] 3))) := HB3.out.alloc HB3.out.size _
      clear hp hq HB3 HI3
      go_wp2
      go_ret2
      exact ⟨d, _, _, 2, _, rfl, hd10, by omega, by omega, HI4, HB4⟩
    · have hd1 : ¬ (1 : Int) < (d : Int) := by omega
      go_wp2
      go_ret2
      exact ⟨d, A2, c2, m, zs, rfl, hd10, hm1, hm4, HI3, HB3⟩
  · have hub : (u == 0) = false := by rw [beq_eq_false_iff_ne]; exact hu
    clear hu
    go_wp2
    go_ret2
    exact ⟨d, A2, c2, m, zs, rfl, hd10, hm1, hm4, HI3, HB3⟩
theorem drawRestsOf_any (A : Option Addr) (c n : Nat) (bs : List Int) (w : World) (hr : RdB w w.heap.size A bs) (hn : bs.length = n) (hc : n ≤ c) (hm : c ≤ 9223372036854775807) :
    Calls Try.prog 32 #[.slice A n c] w (DrawnNK w) := by
  have H := Lib.hid (newReader_any A c n bs w hr hn hc hm)
  clear hn
  go_enter Try.func32, Try.ntmps32
  go_wp2_with fail
  refine H.out.mono ?_
  rintro e w1 ⟨rfl, hg1, hnx1⟩
  have hlt := hg1.lt
  have HG1 := Lib.hid hg1
  have HB1 := Lib.hid hnx1
  clear hg1 hnx1
  go_wp2_with fail
  refine (oneLitAt _ w.heap.size w.heap.size 0 [5, 4, 6, 3, 7, 2, 1, 8, 0, 10] 10 0 10 _ _ HG1.out (by omega) rfl (by omega) (by omega) rfl (by decide) rfl).mono ?_
  rintro e w2 ⟨d, rfl, hd0, hd10, hg2, hgr2⟩
  have HG2 := Lib.hid hg2
  have HB2 : Hid (Below w.heap.size w w2) := HB1.out.trans (gb_belowQ hgr2 (Nat.le_refl _) (Nat.le_of_lt hlt))
  have hlt2 : w.heap.size < w2.heap.size := hg2.lt
  clear hg2 hgr2 HG1 HB1
  go_wp2_with fail
  refine (oneLitAt _ w.heap.size w.heap.size (0 + 1) [2, 3, 2, 1, 5, 2] 6 1 5 _ _ HG2.out (by omega) rfl (by omega) (by omega) rfl (by decide) rfl).mono ?_
  rintro e w3 ⟨k, rfl, hk1, hk5, -, hgr3⟩
  have HB3 : Hid (Below w.heap.size w w3) := HB2.out.trans (gb_belowQ hgr3 (Nat.le_refl _) (Nat.le_of_lt hlt2))
  clear hgr3 HG2 HB2
  go_wp2
  go_ret2
  exact ⟨d, k, rfl, hd0, hd10, hk1, hk5, HB3⟩
end Go.Proofs.Ythphboeboiallaa
