/-
  Shops drawn; the drawn arguments of chapter 10's laws.
  Conditions: none beyond what each theorem states.
  fromEnd of the laws; FnValidShops and FnIsRest, walked.
  Conditions: as each theorem states.
-/
import Derived.Test.YtoohfipicmdohaaZ1
import Derived.Test.YtoohfipicmdohaaZ5
namespace Go.Proofs.Ytoohfipicmdohaa
open Go.ChangeShapes Go.WideShapes Go.ChangeAt Go.RowKit
set_option linter.unusedVariables false
set_option maxRecDepth 4000

/-- What is drawn leaves a row of the call's own. -/
theorem OwnQ.drawn {w w' : World} {B R g c L : Nat} {xs : List Int} (h : OwnQ w B g c L xs) (hg : w.grownBy w' (some R)) (hR : R < B) : OwnQ w' B g c L xs :=
  ⟨h.1, World.ownsRow.kept h.2 hg (.inr (fun e => by have := (World.ownsRow.lt h.2 R e).1; omega))⟩
theorem pIn_own {w : World} {B m : Nat} {v : Value} {zs : List Int} (h : w.ownsRow B 3 1 v m (zs.map (Value.int .i64))) (hn : zs.length = m) (h20 : m ≤ 20) : ∃ A c, v = .slice A m c ∧ PIn w A c m zs ∧ ∀ b off, A = some ⟨b, off, none⟩ → B ≤ b := by
  obtain ⟨A, c, rfl, hc, hm, hrd⟩ := own_slice h hn
  exact ⟨A, c, rfl, ⟨hrd, hn, ⟨hc, hm⟩, by omega⟩, fun b off e => (World.ownsRow.lt h b (by rw [e]; rfl)).1⟩
def SomeShops (B R k : Nat) (w : World) (e : Ending) (w' : World) : Prop :=
  ∃ n A c m, ∃ zs : List Int, e = .returned (.tuple #[.int .i64 ((n : Nat) : Int), .slice A m c]) ∧ n ≤ 10 ∧ 1 ≤ m ∧ m ≤ 4 ∧ Hid (PIn w' A c m zs ∧ ∀ b off, A = some ⟨b, off, none⟩ → w.heap.size ≤ b) ∧ Hid (GR w' B R (k + 40)) ∧ Hid (w.grownBy w' (some R))
def SqRel (B R k : Nat) (w : World) (o a v : Value) (wr : World) : Prop :=
  ∃ g c L j q t : Nat, ∃ xs : List Int, o = .slice (some ⟨g, 0, none⟩) L c ∧ a = .int .i64 ((t : Nat) : Int) ∧ v = .int .i64 ((j : Nat) : Int) ∧ 1 ≤ L + j ∧ L + j ≤ 4 ∧ t ≤ 10 + 4 * L ∧ q + j ≤ k + 10 ∧ Hid (OwnQ wr w.heap.size g c L xs) ∧ Hid (GR wr B R q) ∧ Hid (w.grownBy wr (some R))
set_option maxHeartbeats 4000000 in
theorem someShops_any (R B k : Nat) (w : World) (hg : GR w B R k) (hk : k ≤ 80000) :
    Calls Try.prog 45 #[.pointer (some ⟨R, 0, none⟩)] w (SomeShops B R k w) := by
  obtain ⟨i0, hi0, hz0, hz1, hz2⟩ := info_parts intInfo
  have hRlt := hg.lt
  have HG := Lib.hid hg
  clear hg
  go_enter Try.func45, Try.ntmps45
  go_wp2_with fail
  refine (oneLitAt _ R B k [5, 4, 6, 3, 7, 2, 9, 1] 8 1 9 _ _ HG.out (by omega) rfl (by omega) (by omega) rfl (by decide) rfl).mono ?_
  rintro e w0 ⟨n, rfl, hn1, hn9, hg0, hgr0⟩
  obtain ⟨n, rfl⟩ := Int.eq_ofNat_of_zero_le (show 0 ≤ n by omega)
  have HG0 : Hid (GR (w0.alloc (.cells #[] 3)) B R (k + 1)) := hg0.kept (row := none) (World.grownBy_alloc _ _ _) (fun g h => by cases h)
  have hs0 := hgr0.size
  have HO0 : Hid (OwnQ (w0.alloc (.cells #[] 3)) w.heap.size w0.heap.size 0 0 []) := ⟨rfl, World.ownsRow_lit w0 #[] 0 hs0 (by decide) rfl⟩
  have HB0 : Hid (w.grownBy (w0.alloc (.cells #[] 3)) (some R)) := gb_trans hgr0 (World.grownBy_alloc w0 _ none) (.inr (fun g h => by cases h))
  have hw1 : IntKind.i64.wrap ((n : Int) + 1) = (n : Int) + 1 := IntWalk.i64_in _ (by omega)
  obtain ⟨h, Hh⟩ : ∃ h, Hid ((n + 1) / 2 = h) := ⟨_, rfl⟩
  have hh := Hh.out
  have hd1 : ((n : Int) + 1).tdiv 2 = ((h : Nat) : Int) := by rw [← Hh.out, show (n : Int) + 1 = ((n + 1 : Nat) : Int) by omega]; exact (Int.ofNat_tdiv (n + 1) 2).symm
  have hd2 : ((n : Int) + 1) / 2 = ((h : Nat) : Int) := by omega
  have hh5 : h ≤ 5 := by omega
  clear hg0 hgr0 HG hh
  go_wp2_with fail
  refine (pick_any R B (k + 1) (h : Int) _ HG0.out (by omega) (by omega) (by omega)).mono ?_
  rintro e w1 ⟨t, rfl, ht0, ht1, ht2, hg1, hgr1⟩
  obtain ⟨t, rfl⟩ := Int.eq_ofNat_of_zero_le ht0
  have ht5 : t ≤ 10 := by
    by_cases hz : 1 ≤ (h : Int)
    · have := ht1 hz; omega
    · have := ht2 (by omega); omega
  have HG1 := Lib.hid hg1
  have HO1 := Lib.hid (HO0.out.drawn hgr1 hRlt)
  have HB1 := Lib.hid (gb_trans HB0.out hgr1 (.inl rfl))
  clear hg1 hgr1 HG0 HO0 HB0 ht0 ht1 ht2 hd1 hd2 hw1
  go_wp2_with fail
  refine (oneLitAt _ R B (k + 1 + 1) [2, 3, 2, 1, 4] 5 1 4 _ _ HG1.out (by omega) rfl (by omega) (by omega) rfl (by decide) rfl).mono ?_
  rintro e w2 ⟨j, rfl, hj1, hj4, hg2, hgr2⟩
  obtain ⟨j, rfl⟩ := Int.eq_ofNat_of_zero_le (show 0 ≤ j by omega)
  have HG2 := Lib.hid hg2
  have HO2 := Lib.hid (HO1.out.drawn hgr2 hRlt)
  have HB2 := Lib.hid (gb_trans HB1.out hgr2 (.inl rfl))
  clear hg2 hgr2 HG1 HO1 HB1
  go_wp2
  go_loopw [5, 6, 7] (fun o a v wr => SqRel B R k w o a v wr) (fun _ _ v _ => (intOf v).toNat)
  case atStart => exact ⟨_, _, 0, j, k + 1 + 1 + 1, t, [], rfl, rfl, rfl, by omega, by omega, by omega, by omega, HO2, HG2, HB2⟩
  case round =>
    clear HG2 HO2 HB2
    obtain ⟨g, c, L, j, q, t, xs, rfl, rfl, rfl, hL1, hLj, htL, hq, HO, HG, HB⟩ := hrel
    have hwn : IntKind.i64.wrap ((n : Int) - 1) = (n : Int) - 1 := IntWalk.i64_in _ (by omega)
    by_cases hpos : 0 < j
    · have Hlen := Lib.hid HO.out.1
      have Hown := Lib.hid HO.out.2
      have hsz : L + 1 ≤ maxLen := by unfold maxLen; omega
      have hsz2 : (L + 1) * 8 ≤ 140737488355328 := by omega
      have Hsz3 : Hid (∀ o, w.heap.size ≤ (wr.alloc o).heap.size) := fun o => by rw [size_alloc1]; have := HB.out.size; omega
      have HG' := Lib.hid HG.out
      clear HO HG
      have hpz : (0 : Int) < (j : Int) := by omega
      by_cases hmin : (t : Int) ≤ (n : Int) - 1
      all_goals
        go_wp2_with (at_builtin; refine wpList_append_lies _ rfl _ _ 23 rfl w.heap.size 3 i0 _ 1 8 Try.underlying23 hi0 hz0 hz1 hz2 rfl (by decide) _ _ _ rfl (Hown.out.alloc _) ⟨wr.heap.size, 0, none⟩ 1 1 [_] rfl rfl (cell_one_new _ _ _) (by intro u hu; simp at hu; subst hu; rfl) (by decide) hsz hsz2 (Hsz3.out _) _ rfl ?_; intro g3 c3 w8 hown8 hgrow8 hat8 hlt8)
        obtain ⟨ys, hys⟩ : ∃ ys : List Int, OwnQ w8 w.heap.size g3 c3 (L + 1) ys := ⟨_, ownQ_push Hlen.out hown8⟩
        have HO8 := Lib.hid hys
        have HG8 : Hid (GR w8 B R q) := (HG'.out.kept (row := none) (World.grownBy_alloc _ _ _) (fun g h => by cases h)).kept hgrow8 (fun g h => by have := (Hown.out.lt g h).1; omega)
        have HB8 : Hid (w.grownBy w8 (some R)) := gb_trans (gb_trans HB.out (World.grownBy_alloc wr _ none) (.inr (fun g h => by cases h))) hgrow8 (.inr (fun g h => (Hown.out.lt g h).1))
        clear hown8 hgrow8 hat8 hlt8 Hown HG' Hlen hsz hsz2 Hsz3 hys HB
        go_wp2_with fail
        refine (oneLitAt _ R B q [1, 0, 2, 3, 0] 5 0 3 _ _ HG8.out (by omega) rfl (by omega) (by omega) rfl (by decide) rfl).mono ?_
        rintro e w9 ⟨v, rfl, hv0, hv3, hgr9, hgw9⟩
        obtain ⟨v, rfl⟩ := Int.eq_ofNat_of_zero_le hv0
        have HG9 := Lib.hid hgr9
        have HO9 := Lib.hid (HO8.out.drawn hgw9 hRlt)
        have HB9 := Lib.hid (gb_trans HB8.out hgw9 (.inl rfl))
        have hwt : IntKind.i64.wrap ((t : Int) + (v : Int)) = ((t + v : Nat) : Int) := by rw [IntKind.wrap_i64]; omega
        have hwj : IntKind.i64.wrap ((j : Int) - 1) = ((j - 1 : Nat) : Int) := by rw [IntKind.wrap_i64]; omega
        clear hgr9 hgw9 HO8 HG8 HB8
        go_wp2
        go_roundw
        case rel => exact ⟨g3, c3, L + 1, j - 1, q + 1, t + v, ys, rfl, by first | rfl | go_num, by first | rfl | go_num, by omega, by omega, by omega, by omega, HO9, HG9, HB9⟩
        case measure => simp [intOf]; omega
    · obtain rfl : j = 0 := by omega
      have hL1 : 0 < L := by omega
      have hLz : (0 : Int) < (L : Int) := by omega
      go_wp2_with fail
      refine (pick_any R B q 40 wr HG.out (by omega) (by omega) (by omega)).mono ?_
      rintro e w5 ⟨u, rfl, hu0, -, -, hgr5, hgw5⟩
      have HG5 := Lib.hid hgr5
      have HO5 := Lib.hid (HO.out.drawn hgw5 hRlt)
      have HB5 := Lib.hid (gb_trans HB.out hgw5 (.inl rfl))
      clear hgr5 hgw5 HG HO HB
      by_cases hu : u = 0
      · subst hu
        go_wp2_with fail
        refine (oneLitAt _ R B (q + 1) [-1, (n : Int)] 2 (-1) 9 _ _ HG5.out (by omega) rfl (by omega) (by omega) rfl (by intro x hx; simp at hx; rcases hx with rfl | rfl <;> omega) rfl).mono ?_
        rintro e w7 ⟨x, rfl, hx0, hx1, hgr7, hgw7⟩
        have HG7 := Lib.hid hgr7
        have HO7 := Lib.hid (HO5.out.drawn hgw7 hRlt)
        have HB7 := Lib.hid (gb_trans HB5.out hgw7 (.inl rfl))
        have hlt7 := (World.ownsRow.lt HO7.out.2 g rfl)
        have hgl := hlt7.1
        have hgl2 := hlt7.2
        obtain ⟨v7, hv7⟩ : ∃ v7, w7.cell? ⟨g, 0, none⟩ = some v7 := by
          rw [HO7.out.2.cellAt 0 (by omega)]
          exact ⟨_, List.getElem?_eq_getElem (by simp [HO7.out.1]; omega)⟩
        have hf7 := HO7.out.2.frozenAt 0
        have hst := (HO7.out.2.stored 0 (.int .i64 x)).1
        have hgs := (HO7.out.2.stored 0 (.int .i64 x)).2
        have HB8 := Lib.hid (gb_trans HB7.out hgs (.inr (fun g' h' => by cases h'; exact hgl)))
        have HG8 := Lib.hid ((HG7.out.kept hgs (fun g' h' => by cases h'; omega)).more (show q + 1 + 1 ≤ k + 40 by omega))
        have e0 : (xs.map (Value.int .i64)).set 0 (.int .i64 x) = (xs.set 0 x).map (Value.int .i64) := by rw [List.map_set]
        rw [e0] at hst
        obtain ⟨A', c', he, hin, hlo⟩ := pIn_own hst (by rw [List.length_set]; exact HO7.out.1) (by omega)
        injection he with he1 he2 he3
        subst he1 he3
        have HIn := Lib.hid (And.intro hin hlo)
        clear hgr7 hgw7 HG5 HO5 HB5 HG7 HO7 HB7 hgs hst hin hlo he2 e0 hlt7
        go_wp2
        go_ret2
        exact ⟨n, _, _, L, _, rfl, by omega, by omega, by omega, HIn, HG8, HB8⟩
      · have hub : (u == 0) = false := by rw [beq_eq_false_iff_ne]; exact hu
        obtain ⟨A', c', he, hin, hlo⟩ := pIn_own HO5.out.2 HO5.out.1 (by omega)
        injection he with he1 he2 he3
        subst he1 he3
        by_cases hu1 : u = 1
        · subst hu1
          have HO6 := Lib.hid HO5.out
          clear hin hlo he2
          go_wp2_with fail
          refine (oneLitAt _ R B (q + 1) [0, 10] 2 0 10 _ _ HG5.out (by omega) rfl (by omega) (by omega) rfl (by decide) rfl).mono ?_
          rintro e w7 ⟨x, rfl, hx0, hx1, hgr7, hgw7⟩
          obtain ⟨x, rfl⟩ := Int.eq_ofNat_of_zero_le hx0
          have HG7 := Lib.hid (hgr7.more (show q + 1 + 1 ≤ k + 40 by omega))
          have HO7 := Lib.hid (HO6.out.drawn hgw7 hRlt)
          have HB7 := Lib.hid (gb_trans HB5.out hgw7 (.inl rfl))
          obtain ⟨A', c', he, hin, hlo⟩ := pIn_own HO7.out.2 HO7.out.1 (by omega)
          injection he with he1 he2 he3
          subst he1 he3
          have HIn := Lib.hid (And.intro hin hlo)
          clear hgr7 hgw7 HG5 HO5 HB5 HO6 HO7 hin hlo he2
          go_wp2
          go_ret2
          exact ⟨x, _, _, L, xs, rfl, by omega, by omega, by omega, HIn, HG7, HB7⟩
        · have hub1 : (u == 1) = false := by rw [beq_eq_false_iff_ne]; exact hu1
          have HIn := Lib.hid (And.intro hin hlo)
          have HG1 := Lib.hid (HG5.out.more (show q + 1 ≤ k + 40 by omega))
          clear hu hu1 HG5 HO5 hin hlo he2
          go_wp2
          go_ret2
          exact ⟨n, _, _, L, xs, rfl, by omega, by omega, by omega, HIn, HG1, HB5⟩

theorem gb_belowQ {R B : Nat} {a b : World} (h : a.grownBy b (some R)) (hB : B ≤ R) (hR : R ≤ a.heap.size) : Below B a b :=
  ⟨h.os, h.tape, h.output, h.size, fun i hi => h.block i (by omega) (by intro e; injection e with e; omega)⟩
theorem PIn.drawn {w w' : World} {R : Nat} {A : Option Addr} {c m : Nat} {zs : List Int} (h : PIn w A c m zs) (hA : ∀ b off, A = some ⟨b, off, none⟩ → b ≠ R) (hg : w.grownBy w' (some R)) : PIn w' A c m zs := by
  refine ⟨fun hp => ?_, h.len, h.cap, h.most⟩
  obtain ⟨b, off, e, hb, hc⟩ := h.rd hp
  exact ⟨b, off, e, Nat.lt_of_lt_of_le hb hg.size, fun i hi => (World.cell?_of_block (hg.block b hb (fun e' => hA b off e (by injection e')))).trans (hc i hi)⟩
def DrawnP (w : World) (e : Ending) (w' : World) : Prop :=
  ∃ n A c m, ∃ zs : List Int, e = .returned (.tuple #[.int .i64 ((n : Nat) : Int), .slice A m c]) ∧ n ≤ 10 ∧ 1 ≤ m ∧ m ≤ 4 ∧ Hid (PIn w' A c m zs) ∧ Hid (Below w.heap.size w w')
def DrawnNK (w : World) (e : Ending) (w' : World) : Prop :=
  ∃ n k : Int, e = .returned (.tuple #[.int .i64 n, .int .i64 k]) ∧ 0 ≤ n ∧ n ≤ 10 ∧ 1 ≤ k ∧ k ≤ 5 ∧ Hid (Below w.heap.size w w')
set_option maxHeartbeats 1600000 in
theorem drawValidShops_any (A : Option Addr) (c n : Nat) (bs : List Int) (w : World) (hr : RdB w w.heap.size A bs) (hn : bs.length = n) (hc : n ≤ c) (hm : c ≤ 9223372036854775807) :
    Calls Try.prog 15 #[.slice A n c] w (DrawnP w) := by
  have H := Lib.hid (newReader_any A c n bs w hr hn hc hm)
  clear hn
  go_enter Try.func15, Try.ntmps15
  go_wp2_with fail
  refine H.out.mono ?_
  rintro e w1 ⟨rfl, hg1, hnx1⟩
  have hlt := hg1.lt
  go_wp2_with fail
  refine (someShops_any w.heap.size w.heap.size 0 w1 hg1 (by omega)).mono ?_
  rintro e w2 ⟨d, A2, c2, m, zs, rfl, hd10, hm1, hm4, hin, hg2, hb⟩
  have HB2 : Hid (Below w.heap.size w w2) := hnx1.trans (gb_belowQ hb.out (Nat.le_refl _) (Nat.le_of_lt hlt))
  have HA : Hid (∀ b off, A2 = some ⟨b, off, none⟩ → b ≠ w.heap.size) := fun b off e => by have := hin.out.2 b off e; omega
  have HI2 : Hid (PIn w2 A2 c2 m zs) := hin.out.1
  clear hb hin
  go_wp2_with fail
  refine (pick_any w.heap.size w.heap.size (0 + 40) 3 w2 hg2.out (by omega) (by omega) (by omega)).mono ?_
  rintro e w3 ⟨u, rfl, hu0, -, -, -, hgw3⟩
  have HB3 : Hid (Below w.heap.size w w3) := HB2.out.trans (gb_belowQ hgw3 (Nat.le_refl _) (by have := hg2.out.lt; omega))
  have HI3 := Lib.hid (HI2.out.drawn HA.out hgw3)
  clear hgw3 HB2 HI2 HA hg2
  by_cases hu : u = 0
  · subst hu
    by_cases hd : 1 < d
    · obtain ⟨p, Hp⟩ : ∃ p, Hid ((d - 1) / 2 = p) := ⟨_, rfl⟩
      obtain ⟨q, Hq⟩ : ∃ q, Hid (d / 2 = q) := ⟨_, rfl⟩
      have hp := Hp.out
      have hq := Hq.out
      have hw1 : IntKind.i64.wrap ((d : Int) - 1) = ((d - 1 : Nat) : Int) := by rw [IntKind.wrap_i64]; omega
      have e1 : (((d - 1 : Nat) : Int)).tdiv 2 = ((p : Nat) : Int) := by rw [← Hp.out]; exact (Int.ofNat_tdiv (d - 1) 2).symm
      have e2 : (((d - 1 : Nat) : Int)) / 2 = ((p : Nat) : Int) := by omega
      have e5 : ((d : Int) - 1) / 2 = ((p : Nat) : Int) := by omega
      have e6 : ((d : Int) - 1).tdiv 2 = ((p : Nat) : Int) := by rw [show (d : Int) - 1 = ((d - 1 : Nat) : Int) by omega]; exact e1
      have e3 : ((d : Int)).tdiv 2 = ((q : Nat) : Int) := by rw [← Hq.out]; exact (Int.ofNat_tdiv d 2).symm
      have e4 : ((d : Int)) / 2 = ((q : Nat) : Int) := by omega
      have hd1 : (1 : Int) < (d : Int) := by omega
      have HI4 : Hid (PIn (w3.alloc (.cells #[.int .i64 ((p : Nat) : Int), .int .i64 ((q : Nat) : Int)] 3)) (some ⟨w3.heap.size, 0, none⟩) 2 2 [(p : Int), (q : Int)]) :=
        ⟨fun _ => ⟨w3.heap.size, 0, rfl, by rw [size_alloc1]; omega, fun i hi => by
          rw [cell_of_row _ _ _ _ _ _ (heap_alloc_new w3 _)]
          rcases (show i = 0 ∨ i = 1 by simp at hi; omega) with rfl | rfl <;> rfl⟩, rfl, ⟨Nat.le_refl _, by omega⟩, by omega⟩
      have HB4 : Hid (Below w.heap.size w (w3.alloc (.cells #[.int .i64 ((p : Nat) : Int), .int .i64 ((q : Nat) : Int)] 3))) := HB3.out.alloc HB3.out.size _
      clear hp hq HB3 HI3
      go_wp2
      go_ret2
      exact ⟨d, _, _, 2, _, rfl, hd10, by omega, by omega, HI4, HB4⟩
    · have hd1 : ¬ (1 : Int) < (d : Int) := by omega
      go_wp2
      go_ret2
      exact ⟨d, A2, c2, m, zs, rfl, hd10, hm1, hm4, HI3, HB3⟩
  · have hub : (u == 0) = false := by rw [beq_eq_false_iff_ne]; exact hu
    clear hu
    go_wp2
    go_ret2
    exact ⟨d, A2, c2, m, zs, rfl, hd10, hm1, hm4, HI3, HB3⟩
set_option maxHeartbeats 1600000 in
theorem drawSharesOf_any (A : Option Addr) (c n : Nat) (bs : List Int) (w : World) (hr : RdB w w.heap.size A bs) (hn : bs.length = n) (hc : n ≤ c) (hm : c ≤ 9223372036854775807) :
    Calls Try.prog 19 #[.slice A n c] w (DrawnP w) := by
  have H := Lib.hid (newReader_any A c n bs w hr hn hc hm)
  clear hn
  go_enter Try.func19, Try.ntmps19
  go_wp2_with fail
  refine H.out.mono ?_
  rintro e w1 ⟨rfl, hg1, hnx1⟩
  have hlt := hg1.lt
  go_wp2_with fail
  refine (someShops_any w.heap.size w.heap.size 0 w1 hg1 (by omega)).mono ?_
  rintro e w2 ⟨d, A2, c2, m, zs, rfl, hd10, hm1, hm4, hin, hg2, hb⟩
  have HB2 : Hid (Below w.heap.size w w2) := hnx1.trans (gb_belowQ hb.out (Nat.le_refl _) (Nat.le_of_lt hlt))
  have HA : Hid (∀ b off, A2 = some ⟨b, off, none⟩ → b ≠ w.heap.size) := fun b off e => by have := hin.out.2 b off e; omega
  have HI2 : Hid (PIn w2 A2 c2 m zs) := hin.out.1
  clear hb hin
  go_wp2_with fail
  refine (pick_any w.heap.size w.heap.size (0 + 40) 3 w2 hg2.out (by omega) (by omega) (by omega)).mono ?_
  rintro e w3 ⟨u, rfl, hu0, -, -, -, hgw3⟩
  have HB3 : Hid (Below w.heap.size w w3) := HB2.out.trans (gb_belowQ hgw3 (Nat.le_refl _) (by have := hg2.out.lt; omega))
  have HI3 := Lib.hid (HI2.out.drawn HA.out hgw3)
  clear hgw3 HB2 HI2 HA hg2
  by_cases hu : u = 0
  · subst hu
    by_cases hd : 1 < d
    · obtain ⟨p, Hp⟩ : ∃ p, Hid ((d - 1) / 2 = p) := ⟨_, rfl⟩
      obtain ⟨q, Hq⟩ : ∃ q, Hid (d / 2 = q) := ⟨_, rfl⟩
      have hp := Hp.out
      have hq := Hq.out
      have hw1 : IntKind.i64.wrap ((d : Int) - 1) = ((d - 1 : Nat) : Int) := by rw [IntKind.wrap_i64]; omega
      have e1 : (((d - 1 : Nat) : Int)).tdiv 2 = ((p : Nat) : Int) := by rw [← Hp.out]; exact (Int.ofNat_tdiv (d - 1) 2).symm
      have e2 : (((d - 1 : Nat) : Int)) / 2 = ((p : Nat) : Int) := by omega
      have e5 : ((d : Int) - 1) / 2 = ((p : Nat) : Int) := by omega
      have e6 : ((d : Int) - 1).tdiv 2 = ((p : Nat) : Int) := by rw [show (d : Int) - 1 = ((d - 1 : Nat) : Int) by omega]; exact e1
      have e3 : ((d : Int)).tdiv 2 = ((q : Nat) : Int) := by rw [← Hq.out]; exact (Int.ofNat_tdiv d 2).symm
      have e4 : ((d : Int)) / 2 = ((q : Nat) : Int) := by omega
      have hd1 : (1 : Int) < (d : Int) := by omega
      have HI4 : Hid (PIn (w3.alloc (.cells #[.int .i64 ((p : Nat) : Int), .int .i64 ((q : Nat) : Int)] 3)) (some ⟨w3.heap.size, 0, none⟩) 2 2 [(p : Int), (q : Int)]) :=
        ⟨fun _ => ⟨w3.heap.size, 0, rfl, by rw [size_alloc1]; omega, fun i hi => by
          rw [cell_of_row _ _ _ _ _ _ (heap_alloc_new w3 _)]
          rcases (show i = 0 ∨ i = 1 by simp at hi; omega) with rfl | rfl <;> rfl⟩, rfl, ⟨Nat.le_refl _, by omega⟩, by omega⟩
      have HB4 : Hid (Below w.heap.size w (w3.alloc (.cells #[.int .i64 ((p : Nat) : Int), .int .i64 ((q : Nat) : Int)] 3))) := HB3.out.alloc HB3.out.size _
      clear hp hq HB3 HI3
      go_wp2
      go_ret2
      exact ⟨d, _, _, 2, _, rfl, hd10, by omega, by omega, HI4, HB4⟩
    · have hd1 : ¬ (1 : Int) < (d : Int) := by omega
      go_wp2
      go_ret2
      exact ⟨d, A2, c2, m, zs, rfl, hd10, hm1, hm4, HI3, HB3⟩
  · have hub : (u == 0) = false := by rw [beq_eq_false_iff_ne]; exact hu
    clear hu
    go_wp2
    go_ret2
    exact ⟨d, A2, c2, m, zs, rfl, hd10, hm1, hm4, HI3, HB3⟩
set_option maxHeartbeats 1600000 in
theorem drawBestPlace_any (A : Option Addr) (c n : Nat) (bs : List Int) (w : World) (hr : RdB w w.heap.size A bs) (hn : bs.length = n) (hc : n ≤ c) (hm : c ≤ 9223372036854775807) :
    Calls Try.prog 25 #[.slice A n c] w (DrawnP w) := by
  have H := Lib.hid (newReader_any A c n bs w hr hn hc hm)
  clear hn
  go_enter Try.func25, Try.ntmps25
  go_wp2_with fail
  refine H.out.mono ?_
  rintro e w1 ⟨rfl, hg1, hnx1⟩
  have hlt := hg1.lt
  go_wp2_with fail
  refine (someShops_any w.heap.size w.heap.size 0 w1 hg1 (by omega)).mono ?_
  rintro e w2 ⟨d, A2, c2, m, zs, rfl, hd10, hm1, hm4, hin, hg2, hb⟩
  have HB2 : Hid (Below w.heap.size w w2) := hnx1.trans (gb_belowQ hb.out (Nat.le_refl _) (Nat.le_of_lt hlt))
  have HA : Hid (∀ b off, A2 = some ⟨b, off, none⟩ → b ≠ w.heap.size) := fun b off e => by have := hin.out.2 b off e; omega
  have HI2 : Hid (PIn w2 A2 c2 m zs) := hin.out.1
  clear hb hin
  go_wp2_with fail
  refine (pick_any w.heap.size w.heap.size (0 + 40) 3 w2 hg2.out (by omega) (by omega) (by omega)).mono ?_
  rintro e w3 ⟨u, rfl, hu0, -, -, -, hgw3⟩
  have HB3 : Hid (Below w.heap.size w w3) := HB2.out.trans (gb_belowQ hgw3 (Nat.le_refl _) (by have := hg2.out.lt; omega))
  have HI3 := Lib.hid (HI2.out.drawn HA.out hgw3)
  clear hgw3 HB2 HI2 HA hg2
  by_cases hu : u = 0
  · subst hu
    by_cases hd : 1 < d
    · obtain ⟨p, Hp⟩ : ∃ p, Hid ((d - 1) / 2 = p) := ⟨_, rfl⟩
      obtain ⟨q, Hq⟩ : ∃ q, Hid (d / 2 = q) := ⟨_, rfl⟩
      have hp := Hp.out
      have hq := Hq.out
      have hw1 : IntKind.i64.wrap ((d : Int) - 1) = ((d - 1 : Nat) : Int) := by rw [IntKind.wrap_i64]; omega
      have e1 : (((d - 1 : Nat) : Int)).tdiv 2 = ((p : Nat) : Int) := by rw [← Hp.out]; exact (Int.ofNat_tdiv (d - 1) 2).symm
      have e2 : (((d - 1 : Nat) : Int)) / 2 = ((p : Nat) : Int) := by omega
      have e5 : ((d : Int) - 1) / 2 = ((p : Nat) : Int) := by omega
      have e6 : ((d : Int) - 1).tdiv 2 = ((p : Nat) : Int) := by rw [show (d : Int) - 1 = ((d - 1 : Nat) : Int) by omega]; exact e1
      have e3 : ((d : Int)).tdiv 2 = ((q : Nat) : Int) := by rw [← Hq.out]; exact (Int.ofNat_tdiv d 2).symm
      have e4 : ((d : Int)) / 2 = ((q : Nat) : Int) := by omega
      have hd1 : (1 : Int) < (d : Int) := by omega
      have HI4 : Hid (PIn (w3.alloc (.cells #[.int .i64 ((p : Nat) : Int), .int .i64 ((q : Nat) : Int)] 3)) (some ⟨w3.heap.size, 0, none⟩) 2 2 [(p : Int), (q : Int)]) :=
        ⟨fun _ => ⟨w3.heap.size, 0, rfl, by rw [size_alloc1]; omega, fun i hi => by
          rw [cell_of_row _ _ _ _ _ _ (heap_alloc_new w3 _)]
          rcases (show i = 0 ∨ i = 1 by simp at hi; omega) with rfl | rfl <;> rfl⟩, rfl, ⟨Nat.le_refl _, by omega⟩, by omega⟩
      have HB4 : Hid (Below w.heap.size w (w3.alloc (.cells #[.int .i64 ((p : Nat) : Int), .int .i64 ((q : Nat) : Int)] 3))) := HB3.out.alloc HB3.out.size _
      clear hp hq HB3 HI3
      go_wp2
      go_ret2
      exact ⟨d, _, _, 2, _, rfl, hd10, by omega, by omega, HI4, HB4⟩
    · have hd1 : ¬ (1 : Int) < (d : Int) := by omega
      go_wp2
      go_ret2
      exact ⟨d, A2, c2, m, zs, rfl, hd10, hm1, hm4, HI3, HB3⟩
  · have hub : (u == 0) = false := by rw [beq_eq_false_iff_ne]; exact hu
    clear hu
    go_wp2
    go_ret2
    exact ⟨d, A2, c2, m, zs, rfl, hd10, hm1, hm4, HI3, HB3⟩
set_option maxHeartbeats 1600000 in
theorem drawIsRest_any (A : Option Addr) (c n : Nat) (bs : List Int) (w : World) (hr : RdB w w.heap.size A bs) (hn : bs.length = n) (hc : n ≤ c) (hm : c ≤ 9223372036854775807) :
    Calls Try.prog 29 #[.slice A n c] w (DrawnP w) := by
  have H := Lib.hid (newReader_any A c n bs w hr hn hc hm)
  clear hn
  go_enter Try.func29, Try.ntmps29
  go_wp2_with fail
  refine H.out.mono ?_
  rintro e w1 ⟨rfl, hg1, hnx1⟩
  have hlt := hg1.lt
  go_wp2_with fail
  refine (someShops_any w.heap.size w.heap.size 0 w1 hg1 (by omega)).mono ?_
  rintro e w2 ⟨d, A2, c2, m, zs, rfl, hd10, hm1, hm4, hin, hg2, hb⟩
  have HB2 : Hid (Below w.heap.size w w2) := hnx1.trans (gb_belowQ hb.out (Nat.le_refl _) (Nat.le_of_lt hlt))
  have HA : Hid (∀ b off, A2 = some ⟨b, off, none⟩ → b ≠ w.heap.size) := fun b off e => by have := hin.out.2 b off e; omega
  have HI2 : Hid (PIn w2 A2 c2 m zs) := hin.out.1
  clear hb hin
  go_wp2_with fail
  refine (pick_any w.heap.size w.heap.size (0 + 40) 3 w2 hg2.out (by omega) (by omega) (by omega)).mono ?_
  rintro e w3 ⟨u, rfl, hu0, -, -, -, hgw3⟩
  have HB3 : Hid (Below w.heap.size w w3) := HB2.out.trans (gb_belowQ hgw3 (Nat.le_refl _) (by have := hg2.out.lt; omega))
  have HI3 := Lib.hid (HI2.out.drawn HA.out hgw3)
  clear hgw3 HB2 HI2 HA hg2
  by_cases hu : u = 0
  · subst hu
    by_cases hd : 1 < d
    · obtain ⟨p, Hp⟩ : ∃ p, Hid ((d - 1) / 2 = p) := ⟨_, rfl⟩
      obtain ⟨q, Hq⟩ : ∃ q, Hid (d / 2 = q) := ⟨_, rfl⟩
      have hp := Hp.out
      have hq := Hq.out
      have hw1 : IntKind.i64.wrap ((d : Int) - 1) = ((d - 1 : Nat) : Int) := by rw [IntKind.wrap_i64]; omega
      have e1 : (((d - 1 : Nat) : Int)).tdiv 2 = ((p : Nat) : Int) := by rw [← Hp.out]; exact (Int.ofNat_tdiv (d - 1) 2).symm
      have e2 : (((d - 1 : Nat) : Int)) / 2 = ((p : Nat) : Int) := by omega
      have e5 : ((d : Int) - 1) / 2 = ((p : Nat) : Int) := by omega
      have e6 : ((d : Int) - 1).tdiv 2 = ((p : Nat) : Int) := by rw [show (d : Int) - 1 = ((d - 1 : Nat) : Int) by omega]; exact e1
      have e3 : ((d : Int)).tdiv 2 = ((q : Nat) : Int) := by rw [← Hq.out]; exact (Int.ofNat_tdiv d 2).symm
      have e4 : ((d : Int)) / 2 = ((q : Nat) : Int) := by omega
      have hd1 : (1 : Int) < (d : Int) := by omega
      have HI4 : Hid (PIn (w3.alloc (.cells #[.int .i64 ((p : Nat) : Int), .int .i64 ((q : Nat) : Int)] 3)) (some ⟨w3.heap.size, 0, none⟩) 2 2 [(p : Int), (q : Int)]) :=
        ⟨fun _ => ⟨w3.heap.size, 0, rfl, by rw [size_alloc1]; omega, fun i hi => by
          rw [cell_of_row _ _ _ _ _ _ (heap_alloc_new w3 _)]
          rcases (show i = 0 ∨ i = 1 by simp at hi; omega) with rfl | rfl <;> rfl⟩, rfl, ⟨Nat.le_refl _, by omega⟩, by omega⟩
      have HB4 : Hid (Below w.heap.size w (w3.alloc (.cells #[.int .i64 ((p : Nat) : Int), .int .i64 ((q : Nat) : Int)] 3))) := HB3.out.alloc HB3.out.size _
      clear hp hq HB3 HI3
      go_wp2
      go_ret2
      exact ⟨d, _, _, 2, _, rfl, hd10, by omega, by omega, HI4, HB4⟩
    · have hd1 : ¬ (1 : Int) < (d : Int) := by omega
      go_wp2
      go_ret2
      exact ⟨d, A2, c2, m, zs, rfl, hd10, hm1, hm4, HI3, HB3⟩
  · have hub : (u == 0) = false := by rw [beq_eq_false_iff_ne]; exact hu
    clear hu
    go_wp2
    go_ret2
    exact ⟨d, A2, c2, m, zs, rfl, hd10, hm1, hm4, HI3, HB3⟩
theorem drawRestsOf_any (A : Option Addr) (c n : Nat) (bs : List Int) (w : World) (hr : RdB w w.heap.size A bs) (hn : bs.length = n) (hc : n ≤ c) (hm : c ≤ 9223372036854775807) :
    Calls Try.prog 32 #[.slice A n c] w (DrawnNK w) := by
  have H := Lib.hid (newReader_any A c n bs w hr hn hc hm)
  clear hn
  go_enter Try.func32, Try.ntmps32
  go_wp2_with fail
  refine H.out.mono ?_
  rintro e w1 ⟨rfl, hg1, hnx1⟩
  have hlt := hg1.lt
  have HG1 := Lib.hid hg1
  have HB1 := Lib.hid hnx1
  clear hg1 hnx1
  go_wp2_with fail
  refine (oneLitAt _ w.heap.size w.heap.size 0 [5, 4, 6, 3, 7, 2, 1, 8, 0, 10] 10 0 10 _ _ HG1.out (by omega) rfl (by omega) (by omega) rfl (by decide) rfl).mono ?_
  rintro e w2 ⟨d, rfl, hd0, hd10, hg2, hgr2⟩
  have HG2 := Lib.hid hg2
  have HB2 : Hid (Below w.heap.size w w2) := HB1.out.trans (gb_belowQ hgr2 (Nat.le_refl _) (Nat.le_of_lt hlt))
  have hlt2 : w.heap.size < w2.heap.size := hg2.lt
  clear hg2 hgr2 HG1 HB1
  go_wp2_with fail
  refine (oneLitAt _ w.heap.size w.heap.size (0 + 1) [2, 3, 2, 1, 5, 2] 6 1 5 _ _ HG2.out (by omega) rfl (by omega) (by omega) rfl (by decide) rfl).mono ?_
  rintro e w3 ⟨k, rfl, hk1, hk5, -, hgr3⟩
  have HB3 : Hid (Below w.heap.size w w3) := HB2.out.trans (gb_belowQ hgr3 (Nat.le_refl _) (Nat.le_of_lt hlt2))
  clear hgr3 HG2 HB2
  go_wp2
  go_ret2
  exact ⟨d, k, rfl, hd0, hd10, hk1, hk5, HB3⟩
end Go.Proofs.Ytoohfipicmdohaa
namespace Go.Proofs.Ytoohfipicmdohaa
open Go.ChangeShapes Go.WideShapes Go.ChangeAt Go.RowKit
set_option linter.unusedVariables false
set_option maxRecDepth 4000

theorem revS_cons (n x : Nat) (r : List Nat) : revS n (x :: r) = revS n r ++ [n - 1 - x] := by simp [revS]
def FeRel (n m : Nat) (ss : List Nat) (w : World) (o i : Value) (wr : World) : Prop :=
  ∃ j g c L : Nat, j ≤ m ∧ L + j = m ∧ o = .slice (some ⟨g, 0, none⟩) L c ∧ i = .int .i64 ((j : Int) - 1) ∧ Hid (OwnQ wr w.heap.size g c L (cI (revS n (ss.drop j)))) ∧ Hid (Below w.heap.size w wr)
set_option maxHeartbeats 800000 in
theorem fromEnd_any (n c m : Nat) (A : Option Addr) (ss : List Nat) (w : World) (h : PIn w A c m (cI ss)) (hS : Sh n ss) :
    Calls Try.prog 18 #[.int .i64 (n : Int), .slice A m c] w (RowQ (cI (revS n ss)) w) := by
  obtain ⟨i0, hi0, hz0, hz1, hz2⟩ := info_parts intInfo
  have hm0 : ss.length = m := by rw [← cI_length]; exact h.len
  have hn1 := hS.n1
  have hn9 := hS.n9
  have hl4 := hS.l4
  have Hm := Lib.hid hm0
  have hm4 : m ≤ 4 := by omega
  have HR := Lib.hid h.rd
  have Hlt : Hid (∀ k, k < m → ss.getD k 0 < n) := fun k hk => hS.at_ (by omega)
  have HO0 : Hid (OwnQ (w.alloc (.cells #[] 3)) w.heap.size w.heap.size 0 0 (cI (revS n (ss.drop m)))) := by
    show OwnQ _ _ _ _ _ _
    rw [List.drop_of_length_le (by omega)]
    exact ⟨rfl, World.ownsRow_lit w #[] 0 (Nat.le_refl _) (by decide) rfl⟩
  have HB0 : Hid (Below w.heap.size w (w.alloc (.cells #[] 3))) := (Below.refl _ _).alloc (Nat.le_refl _) _
  have hwn : IntKind.i64.wrap ((n : Int) - 1) = (n : Int) - 1 := IntWalk.i64_in _ (by omega)
  clear h hS hm0 hl4
  go_enter Try.func18, Try.ntmps18
  go_wp2
  go_loopw [5, 6] (fun o i wr => FeRel n m ss w o i wr) (fun _ i _ => (intOf i + 1).toNat)
  case atStart => exact ⟨m, _, _, 0, by omega, by omega, rfl, rfl, HO0, HB0⟩
  case round =>
    clear HO0 HB0
    obtain ⟨j, g, c2, L, hj, hL, rfl, rfl, HO, HB⟩ := hrel
    by_cases hpos : 0 < j
    · obtain ⟨i, rfl⟩ : ∃ i, j = i + 1 := ⟨j - 1, by omega⟩
      obtain ⟨b, off, x, rfl, hbw, Hx, hcx⟩ := (HR.out.below HB.out).q (k := i) (by rw [Hm.out]; omega)
      have hxn := Hlt.out i (by omega)
      rw [Hx.out] at hxn
      have hic : ((i + 1 : Nat) : Int) - 1 = (i : Int) := by omega
      rw [hic]
      obtain ⟨y, Hy⟩ : ∃ y, Hid (n - 1 - x = y) := ⟨_, rfl⟩
      have hy := Hy.out
      have hyv : IntKind.i64.wrap ((n : Int) - 1 - (x : Int)) = ((y : Nat) : Int) := by rw [IntKind.wrap_i64]; omega
      have hyv2 : (n : Int) - 1 - (x : Int) = ((y : Nat) : Int) := by omega
      have Hlen := Lib.hid HO.out.1
      have Hown := Lib.hid HO.out.2
      have hsz : L + 1 ≤ maxLen := by unfold maxLen; omega
      have hsz2 : (L + 1) * 8 ≤ 140737488355328 := by omega
      have hsz3 : w.heap.size ≤ (wr.alloc (.cells #[.int .i64 ((y : Nat) : Int)] 3)).heap.size := by rw [size_alloc1]; have := HB.out.size; omega
      clear hic hy
      go_wp2_with (at_builtin; refine wpList_append_lies _ rfl _ _ 23 rfl w.heap.size 3 i0 _ 1 8 Try.underlying23 hi0 hz0 hz1 hz2 rfl (by decide) _ _ _ rfl (Hown.out.alloc _) ⟨wr.heap.size, 0, none⟩ 1 1 [.int .i64 ((y : Nat) : Int)] rfl rfl (cell_one_new _ _ _) (by intro u hu; simp at hu; subst hu; rfl) (by decide) hsz hsz2 hsz3 _ rfl ?_; intro g3 c3 w3 hown3 hgrow3 hat3 hlt3)
      have HO3 : Hid (OwnQ w3 w.heap.size g3 c3 (L + 1) (cI (revS n (ss.drop i)))) := by
        show OwnQ _ _ _ _ _ _
        have e : ss.drop i = x :: ss.drop (i + 1) := by
          rw [List.drop_eq_getElem_cons (show i < ss.length by rw [Hm.out]; omega), ← Hx.out]
          simp [List.getD, show i < ss.length by rw [Hm.out]; omega]
        rw [e, revS_cons, Hy.out, cI_append]
        exact ownQ_push Hlen.out hown3
      have HB3 : Hid (Below w.heap.size w w3) := (HB.out.alloc HB.out.size _).grown hgrow3 hsz3 (fun q hq => (Hown.out.lt q hq).1)
      clear hown3 hgrow3 hat3 hlt3 Hown HO HB hsz hsz2 hsz3 hcx
      go_wp2
      go_roundw
      case rel => exact ⟨i, g3, c3, L + 1, by omega, by omega, rfl, by go_num, HO3, HB3⟩
      case measure => first | (simp [intOf]; done) | (simp [intOf]; omega)
    · obtain rfl : j = 0 := by omega
      have hown := HO.out
      rw [List.drop_zero] at hown
      have HE := Lib.hid (hown.row (Nat.le_refl _) HB.out)
      clear hown
      go_wp2
      go_ret
      exact HE.out
/-- The list seen from the other end, as shops. -/
theorem RowQ.shops {n : Nat} {ss : List Nat} {w : World} {e : Ending} {w' : World} (h : RowQ (cI ss) w e w') (hl : ss.length ≤ 100) : ∃ A c m, e = .returned (.slice A m c) ∧ PIn w' A c m (cI ss) ∧ Below w.heap.size w w' := by
  obtain ⟨A, c, he, ho, hb⟩ := h
  obtain ⟨A2, c2, e2, h1, h2, h3⟩ := own_slice ho.out rfl
  injection e2 with e2 _ e3
  subst e2 e3
  exact ⟨A, c, _, he, ⟨h3, rfl, ⟨h1, h2⟩, by rw [cI_length]; omega⟩, hb.out⟩

set_option maxHeartbeats 800000 in
theorem lawValidShops_walk (A : Option Addr) (c : Nat) (bs : List Int) (w : World) (hr : RdB w w.heap.size A bs) (hcap : bs.length ≤ c) (hm : c ≤ maxLen) :
    Calls Try.prog 3 #[.slice A bs.length c] w fun e w' => e = .returned (.bool true) ∧ Below w.heap.size w w' := by
  unfold maxLen at hm
  obtain ⟨n, Hn⟩ : ∃ n, Hid (bs.length = n) := ⟨_, rfl⟩
  rw [Hn.out] at hcap ⊢
  have HD := Lib.hid (drawValidShops_any A c n bs w hr Hn.out hcap (by omega))
  have HI := Lib.hid iValidShops_any
  have HS := Lib.hid sValidShops_ok
  clear hr
  by_cases hb : 1048576 < n
  · go_enter Try.func3, Try.ntmps3
    go_wp2
    go_ret
    exact ⟨rfl, Below.refl _ _⟩
  · go_enter Try.func3, Try.ntmps3
    go_wp2_with fail
    refine HD.out.mono ?_
    rintro e w1 ⟨d, A1, c1, m, zs, rfl, hd, hm1, hm4, hin, hb1⟩
    have HIn := Lib.hid hin.out
    have HB1 := Lib.hid hb1.out
    clear hin hb1
    go_wp2_with fail
    refine (HI.out (d : Int) A1 c1 m zs w1 HIn.out).mono ?_
    rintro e w2 ⟨rfl, rfl⟩
    go_wp2_with fail
    refine (HS.out (d : Int) A1 c1 m zs w1 HIn.out).mono ?_
    rintro e w2 ⟨rfl, hb2⟩
    have HB2 := Lib.hid (HB1.out.trans (hb2.mono HB1.out.size))
    have HIn2 := Lib.hid (HIn.out.later hb2)
    clear hb2 HIn
    obtain ⟨r, Hr⟩ : ∃ r, Hid (vsh (d : Int) zs = r) := ⟨_, rfl⟩
    rw [Hr.out]
    have hne : (r != r) = false := by simp
    have heq : (r == r) = true := by simp
    cases r with
    | false =>
      go_wp2_with fail
      refine (HS.out (d : Int) A1 c1 m zs w2 HIn2.out).mono ?_
      rintro e w3 ⟨rfl, hb3⟩
      rw [Hr.out]
      have HB3 := Lib.hid (HB2.out.trans (hb3.mono HB2.out.size))
      clear hb3
      go_wp2
      go_ret
      exact ⟨rfl, HB3.out⟩
    | true =>
      obtain ⟨n', ss, hdn, rfl, hS⟩ := vsh_get Hr.out
      obtain rfl : d = n' := by omega
      have HF := Lib.hid (fromEnd_any d c1 m A1 ss w2 HIn2.out hS)
      have hrev := hS.rev
      have HV := Lib.hid (hrev.vsh)
      have hl4 := hrev.l4
      clear hdn hS hrev
      go_wp2_with fail
      refine HF.out.mono ?_
      intro e w3 hq
      obtain ⟨A3, c3, m3, rfl, hp3, hb3⟩ := hq.shops (n := d) (by omega)
      have HP3 := Lib.hid hp3
      have HB3 := Lib.hid (HB2.out.trans (hb3.mono HB2.out.size))
      clear hq hp3 hb3
      go_wp2_with fail
      refine (HI.out (d : Int) A3 c3 m3 _ w3 HP3.out).mono ?_
      rintro e w4 ⟨rfl, rfl⟩
      rw [HV.out]
      go_wp2
      go_ret
      exact ⟨rfl, HB3.out⟩
end Go.Proofs.Ytoohfipicmdohaa
