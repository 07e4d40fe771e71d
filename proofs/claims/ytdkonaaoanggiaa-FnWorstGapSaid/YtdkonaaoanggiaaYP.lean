/-
  A round of a row drawn.
  Conditions: none beyond what each theorem states.
-/
import Derived.Test.YtdkonaaoanggiaaYI
import Derived.Test.YtdkonaaoanggiaaGL
import Derived.Deep.RegionHeld3
namespace Go.Proofs.Ytdkonaaoanggiaa
open Go.ChangeShapes Go.WideShapes Go.ChangeAt Go.RowKit
set_option linter.unusedVariables false
set_option maxRecDepth 4000

theorem GR.belowY {w w' : World} {B R k : Nat} (h : GR w B R k) (hb : Below w.heap.size w w') : GR w' B R k :=
  h.kept (row := none) ⟨hb.os, hb.tape, hb.output, hb.size, fun i hi _ => hb.block i hi⟩ (fun g e => by cases e)
theorem gbY_of_below {w w' : World} {R : Nat} (hb : Below w.heap.size w w') : w.grownBy w' (some R) := ⟨hb.os, hb.tape, hb.output, hb.size, fun i hi _ => hb.block i hi⟩
theorem grown_undrewY {w w' : World} {row : Option Nat} (h : w.drew.grownBy w' row) : w.grownBy w' row := ⟨h.os, h.tape, h.output, h.size, h.block⟩
theorem gr_drewN {w : World} {B R k : Nat} (h : GR w B R k) (q : Nat) : GR (w.drewN q) B R k := h
theorem gb_drewN {w w' : World} {row : Option Nat} (h : w.grownBy w' row) (q : Nat) : w.grownBy (w'.drewN q) row := ⟨h.os, h.tape, h.output, h.size, h.block⟩
theorem grownBy_setY (w : World) (a : Addr) (u : Value) : w.grownBy (w.setCell a u) (some a.block) :=
  ⟨rfl, rfl, rfl, by simp [World.setCell], fun i hi hne => Below.heap_setCell w _ _ i (by rintro rfl; exact hne rfl)⟩
/-- What is drawn leaves a row of the call's own. -/
theorem OwnY.drawn {w w' : World} {B R g c L : Nat} {xs : List Int} (h : OwnY w B g c L xs) (hg : w.grownBy w' (some R)) (hR : R < B) : OwnY w' B g c L xs :=
  ⟨h.1, World.ownsRow.kept h.2 hg (.inr (fun e => by have := (World.ownsRow.lt h.2 R e).1; omega))⟩
theorem OwnY.at_ {w : World} {B g c L : Nat} {xs : List Int} (h : OwnY w B g c L xs) {i : Nat} (hi : i < L) : ∃ x, Hid (xs.getD i 0 = x) ∧ w.cell? ⟨g, i, none⟩ = some (.int .i64 x) ∧ g < w.heap.size ∧ B ≤ g := by
  refine ⟨_, rfl, ?_, (World.ownsRow.lt h.2 g rfl).2, (World.ownsRow.lt h.2 g rfl).1⟩
  rw [h.2.cellAt i (by omega), List.getElem?_map]
  simp [List.getD, List.getElem?_eq_getElem (show i < xs.length by rw [h.1]; exact hi)]
/-- All numbers of a row near the spots. -/
def NearY (xs : List Int) (M : Int) : Prop := ∀ i, i < xs.length → -M ≤ xs.getD i 0 ∧ xs.getD i 0 ≤ M
theorem nearY_push {xs : List Int} {M M' x : Int} (h : NearY xs M) (hM : M ≤ M') (h1 : -M' ≤ x) (h2 : x ≤ M') : NearY (xs ++ [x]) M' := by
  intro i hi
  rw [List.length_append] at hi
  by_cases e : i < xs.length
  · have := h i e
    simp only [List.getD] at this ⊢
    rw [List.getElem?_append_left e]
    omega
  · have e2 : i = xs.length := by simp at hi; omega
    subst e2
    simp [List.getD]
    omega
def SomeRound (B R k : Nat) (w : World) (e : Ending) (w' : World) : Prop :=
  ∃ n A c m, ∃ zs : List Int, e = .returned (.tuple #[.int .i64 n, .slice A m c]) ∧ (1 ≤ m ∧ m ≤ 20) ∧ Hid (RoundIn w' A c m zs ∧ ∀ b off, A = some ⟨b, off, none⟩ → w.heap.size ≤ b) ∧ Hid (GR w' B R (k + 40)) ∧ Hid (w.grownBy w' (some R))
theorem roundIn_own {w : World} {B m : Nat} {v : Value} {zs : List Int} (h : w.ownsRow B 3 1 v m (zs.map (Value.int .i64))) (hn : zs.length = m) (h20 : m ≤ 20) : ∃ A c, v = .slice A m c ∧ RoundIn w A c m zs ∧ ∀ b off, A = some ⟨b, off, none⟩ → B ≤ b := by
  obtain ⟨A, c, rfl, hc, hm, hrd⟩ := own_slice h hn
  exact ⟨A, c, rfl, ⟨hrd, hn, ⟨hc, hm⟩, by omega⟩, fun b off e => (World.ownsRow.lt h b (by rw [e]; rfl)).1⟩
/-- The first loop: so many more spots. -/
def StRel (B R k : Nat) (w : World) (o v : Value) (wr : World) : Prop :=
  ∃ g c L j q : Nat, ∃ xs : List Int, o = .slice (some ⟨g, 0, none⟩) L c ∧ v = .int .i64 j ∧ 1 ≤ L ∧ L + j ≤ 13 ∧ q + j ≤ k + 20 ∧ Hid (NearY xs 8) ∧ Hid (OwnY wr w.heap.size g c L xs) ∧ Hid (GR wr B R q) ∧ Hid (w.grownBy wr (some R))
/-- The second loop: back to where the round begins. -/
def BkRel (B R k : Nat) (w : World) (f : Nat) (o : Value) (wr : World) : Prop :=
  ∃ g c L : Nat, ∃ xs : List Int, o = .slice (some ⟨g, 0, none⟩) L c ∧ 1 ≤ L ∧ L + f = 20 ∧ Hid (NearY xs (28 - f)) ∧ Hid (OwnY wr w.heap.size g c L xs) ∧ Hid (GR wr B R (k + 20)) ∧ Hid (w.grownBy wr (some R))

set_option maxHeartbeats 4000000 in
theorem someRound_any (R B k : Nat) (w : World) (hg : GR w B R k) (hk : k ≤ 80000) :
    Calls Try.prog 45 #[.pointer (some ⟨R, 0, none⟩)] w (SomeRound B R k w) := by
  obtain ⟨i0, hi0, hz0, hz1, hz2⟩ := info_parts intInfo
  have hRlt := hg.lt
  have HG := Lib.hid hg
  clear hg
  go_enter Try.func45, Try.ntmps45
  go_wp2_with fail
  refine (oneLitAt _ R B k [4, 3, 5, 2, 6, 1, 8] 7 1 8 _ _ HG.out (by omega) rfl (by omega) (by omega) rfl (by decide) rfl).mono ?_
  rintro e w1 ⟨n, rfl, hn0, hn1, hg1, hgr1⟩
  have HG1 := Lib.hid hg1
  have HB1 := Lib.hid hgr1
  clear hg1 hgr1 HG
  go_wp2_with fail
  refine (pick_any R B (k + 1) 3 w1 HG1.out (by omega) (by omega) (by omega)).mono ?_
  rintro e w2 ⟨u, rfl, -, -, -, hg2, hgr2⟩
  have HG2 := Lib.hid hg2
  have HB2 := Lib.hid (gb_trans HB1.out hgr2 (.inl rfl))
  clear hg2 hgr2 HG1 HB1
  by_cases hu : u = 0
  · subst hu
    go_wp2_with fail
    refine (sSweepRound_ok n w2).mono ?_
    rintro e w3 ⟨A', c', rfl, hO, hB⟩
    have hlen : 1 ≤ (srY n).length ∧ (srY n).length ≤ 16 := by
      unfold srY
      rw [if_pos ⟨hn0, hn1⟩, swY_is, List.length_append, upY_len, dnY_len]; omega
    obtain ⟨A2, c2, he, hin, hlo⟩ := roundIn_own hO.out rfl (by omega)
    injection he with he1 he2 he3
    subst he1 he3
    have HIn : Hid (RoundIn w3 A' c' (srY n).length (srY n) ∧ ∀ b off, A' = some ⟨b, off, none⟩ → w.heap.size ≤ b) := ⟨hin, fun b off e => Nat.le_trans HB2.out.size (hlo b off e)⟩
    have HG3 := Lib.hid ((HG2.out.belowY hB.out).more (show k + 1 + 1 ≤ k + 40 by omega))
    have HB3 := Lib.hid (gb_trans HB2.out (gbY_of_below hB.out) (.inl rfl))
    obtain ⟨m, Hm⟩ : ∃ m, Hid ((srY n).length = m) := ⟨_, rfl⟩
    rw [Hm.out] at HIn hlen ⊢
    clear hO hB hin hlo he2
    go_wp2
    go_ret2
    exact ⟨n, _, _, m, _, rfl, by omega, HIn, HG3, HB3⟩
  · have hub : (u == 0) = false := by rw [beq_eq_false_iff_ne]; exact hu
    clear hu
    go_wp2_with fail
    refine (pick_any R B (k + 1 + 1) n w2 HG2.out (by omega) (by omega) (by omega)).mono ?_
    rintro e w3 ⟨x, rfl, hx0, hx1, -, hg3, hgr3⟩
    have hx1 := hx1 (by omega)
    have HB3 := Lib.hid (gb_trans HB2.out hgr3 (.inl rfl))
    have HG4 : Hid (GR (w3.alloc (.cells #[.int .i64 x] 3)) B R (k + 1 + 1 + 1)) := hg3.kept (row := none) (World.grownBy_alloc _ _ _) (fun g h => by cases h)
    have HO4 : Hid (OwnY (w3.alloc (.cells #[.int .i64 x] 3)) w.heap.size w3.heap.size 1 1 [x]) := ⟨rfl, World.ownsRow_lit w3 #[.int .i64 x] 1 HB3.out.size (by decide) rfl⟩
    have HN4 : Hid (NearY [x] 8) := fun i hi => by
      have : i = 0 := by simp at hi; omega
      subst this
      simp; omega
    have HB4 : Hid (w.grownBy (w3.alloc (.cells #[.int .i64 x] 3)) (some R)) := gb_trans HB3.out (World.grownBy_alloc w3 _ none) (.inr (fun g h => by cases h))
    clear hg3 hgr3 HG2 HB2 HB3
    go_wp2_with fail
    refine (oneLitAt _ R B (k + 1 + 1 + 1) [7, 5, 9, 3, 12, 1, 0] 7 0 12 _ _ HG4.out (by omega) rfl (by omega) (by omega) rfl (by decide) (size_alloc1 _ _)).mono ?_
    rintro e w5 ⟨j, rfl, hj0, hj1, hg5, hgr5⟩
    obtain ⟨j, rfl⟩ := Int.eq_ofNat_of_zero_le hj0
    have HG5 := Lib.hid hg5
    have HO5 := Lib.hid (HO4.out.drawn hgr5 hRlt)
    have HB5 := Lib.hid (gb_trans HB4.out hgr5 (.inl rfl))
    clear hg5 hgr5 HG4 HO4 HB4
    go_wp2
    go_loopw [5, 6] (fun o v wr => StRel B R k w o v wr) (fun _ v _ => (intOf v).toNat)
    case atStart => exact ⟨_, _, 1, j, k + 1 + 1 + 1 + 1, [x], rfl, rfl, by omega, by omega, by omega, HN4, HO5, HG5, HB5⟩
    case round =>
      clear HN4 HO5 HG5 HB5
      obtain ⟨g, c, L, j, q, xs, rfl, rfl, hL1, hLj, hq, HN, HO, HG, HB⟩ := hrel
      obtain ⟨K, rfl⟩ : ∃ K, L = K + 1 := ⟨L - 1, by omega⟩
      by_cases hpos : 0 < j
      · obtain ⟨z, Hz, hcz, hgl, hgB⟩ := HO.out.at_ (i := K) (by omega)
        have hzn := HN.out K (by rw [HO.out.1]; omega)
        rw [Hz.out] at hzn
        have Hcz := Lib.hid hcz
        have hgR : some g ≠ some R := fun e => by injection e with e; omega
        have hkc : ((K + 1 : Nat) : Int) - 1 = (K : Int) := by omega
        have hkl : (K : Int) < ((K + 1 : Nat) : Int) := by omega
        have hkl2 : (K : Int) < (K : Int) + 1 := by omega
        have hkl3 : K < K + 1 := by omega
        have hkl4 : ¬ (K : Int) + 1 ≤ (K : Int) := by omega
        have hkl5 : decide ((K : Int) < (K : Int) + 1) = true := decide_eq_true hkl2
        have hkl6 : ¬ (K : Int) < 0 := by omega
        have hwk : IntKind.i64.wrap (K : Int) = (K : Int) := IntWalk.i64_in _ (by omega)
        have hwk2 : IntKind.i64.wrap (((K + 1 : Nat) : Int) - 1) = (K : Int) := by rw [hkc]; exact hwk
        go_wp2_with fail
        go_region_held3 (fun w' => w'.cell? ⟨g, K, none⟩ = some (.int .i64 z))
          (first
            | go_keep
            | exact (World.cell?_of_block (hgw7.block g hgl hgR)).trans Hcz.out)
          (first
            | (go_at_call 54
               refine (oneLitAt _ R B q [1, -1, 1, 0, -1, 1] 6 (-1) 1 wr.drew _ HG.out (by omega) rfl (by omega) (by omega) rfl (by decide) rfl).mono ?_
               rintro e w7 ⟨d, rfl, hd0, hd1, hgr7, hgw7⟩
               have hwzd : IntKind.i64.wrap (z + d) = z + d := IntWalk.i64_in _ (by omega)))
        have HG7 := Lib.hid hgr7
        have HO7 := Lib.hid (HO.out.drawn (grown_undrewY hgw7) hRlt)
        have HB7 := Lib.hid (gb_trans HB.out (grown_undrewY hgw7) (.inl rfl))
        have HN7 := Lib.hid HN.out
        clear hgr7 hgw7 HG HO HB HN Hcz hcz hkc hkl hkl2 hkl3 hkl4 hkl5 hkl6 hwk hwk2 hgR Hz hwzd
        obtain ⟨at', Hat⟩ : ∃ a, Hid (z + d = a) := ⟨_, rfl⟩
        have ha : -20 ≤ at' ∧ at' ≤ 20 := by have := Hat.out; omega
        rw [Hat.out]
        clear hd0 hd1 hzn Hat
        have hwn1 : IntKind.i64.wrap (n - 1) = n - 1 := IntWalk.i64_in _ (by omega)
        have Hlen := Lib.hid HO7.out.1
        have Hown := Lib.hid HO7.out.2
        have hsz : K + 1 + 1 ≤ maxLen := by unfold maxLen; omega
        have hsz2 : (K + 1 + 1) * 8 ≤ 140737488355328 := by omega
        have Hsz3 : Hid (∀ o, w.heap.size ≤ (w7.alloc o).heap.size) := fun o => by rw [size_alloc1]; have := HB7.out.size; omega
        clear HO7
        go_wp2_with (at_builtin; refine wpList_append_lies _ rfl _ _ 23 rfl w.heap.size 3 i0 _ 1 8 Try.underlying23 hi0 hz0 hz1 hz2 rfl (by decide) _ _ _ rfl (Hown.out.alloc _) ⟨w7.heap.size, 0, none⟩ 1 1 [_] rfl rfl (cell_one_new _ _ _) (by intro u hu; simp at hu; subst hu; rfl) (by decide) hsz hsz2 (Hsz3.out _) _ rfl ?_; intro g3 c3 w8 hown8 hgrow8 hat8 hlt8)
        all_goals
          have h8 := ownY_push Hlen.out hown8
          have HX : Hid (∃ ys, OwnY w8 w.heap.size g3 c3 (K + 1 + 1) ys ∧ NearY ys 8) := ⟨_, h8, nearY_push HN7.out (Int.le_refl _) (by omega) (by omega)⟩
          have HG8 : Hid (GR w8 B R (q + 1)) := (HG7.out.kept (row := none) (World.grownBy_alloc _ _ _) (fun g h => by cases h)).kept hgrow8 (fun g h => by have := (Hown.out.lt g h).1; omega)
          have HB8 : Hid (w.grownBy w8 (some R)) := gb_trans (gb_trans HB7.out (World.grownBy_alloc w7 _ none) (.inr (fun g h => by cases h))) hgrow8 (.inr (fun g h => (Hown.out.lt g h).1))
          obtain ⟨ys, hO8, hN8⟩ := HX.out
          have HO8 := Lib.hid hO8
          have HN8 := Lib.hid hN8
          clear h8 HX hO8 hN8 hown8 hgrow8 hat8 hlt8 Hown HG7 HB7 HN7 Hlen hsz hsz2 Hsz3
          go_wp2
          go_roundw
          case rel => exact ⟨g3, c3, K + 1 + 1, j - 1, q + 1, ys, rfl, by go_num, by omega, by omega, by omega, HN8, HO8, HG8, HB8⟩
          case measure => simp [intOf]; omega
      · obtain rfl : j = 0 := by omega
        have HN1 : Hid (NearY xs (28 - ((19 - K : Nat) : Int))) := fun i hi => by have := HN.out i hi; omega
        have HG1 := Lib.hid (HG.out.more (show q ≤ k + 20 by omega))
        clear HN HG
        go_wp2
        go_loopg [5] (19 - K) (fun f o wr => BkRel B R k w f o wr)
        case atStart => exact ⟨g, c, K + 1, xs, rfl, by omega, by omega, HN1, HO, HG1, HB⟩
        case round =>
          clear HN1 HO HG1 HB
          obtain ⟨g, c, L, xs, rfl, hL1, hLf, HN, HO, HG, HB⟩ := hrel
          obtain ⟨K, rfl⟩ : ∃ K, L = K + 1 := ⟨L - 1, by omega⟩
          obtain ⟨z, Hz, hcz, hgl, hgB⟩ := HO.out.at_ (i := K) (by omega)
          obtain ⟨y, Hy, hcy, -, -⟩ := HO.out.at_ (i := 0) (by omega)
          have hzn := HN.out K (by rw [HO.out.1]; omega)
          have hyn := HN.out 0 (by rw [HO.out.1]; omega)
          rw [Hz.out] at hzn
          rw [Hy.out] at hyn
          obtain ⟨d, Hd⟩ : ∃ d, Hid (gapI z y = d) := ⟨_, rfl⟩
          have HGp : Hid (∀ W, Calls Try.prog 57 #[.int .i64 z, .int .i64 y] W fun e w' => e = .returned (.int .i64 d) ∧ W = w') := fun W => by
            have := gap_any z y W (by omega) (by omega) (by omega) (by omega)
            rw [Hd.out] at this
            exact this
          by_cases hK : K + 1 < 20
          · have hK2 : (K : Int) + 1 < 20 := by omega
            have hkc : ((K + 1 : Nat) : Int) - 1 = (K : Int) := by omega
            have hkl : (K : Int) < ((K + 1 : Nat) : Int) := by omega
            have hkl2 : (K : Int) < (K : Int) + 1 := by omega
            have hkl4 : ¬ (K : Int) + 1 ≤ (K : Int) := by omega
            have hkl5 : decide ((K : Int) < (K : Int) + 1) = true := decide_eq_true hkl2
            have hkl6 : ¬ (K : Int) < 0 := by omega
            have hk01 : (0 : Int) < (K : Int) + 1 := by omega
            have hwk : IntKind.i64.wrap (K : Int) = (K : Int) := IntWalk.i64_in _ (by omega)
            have hwk2 : IntKind.i64.wrap (((K + 1 : Nat) : Int) - 1) = (K : Int) := by rw [hkc]; exact hwk
            by_cases hd : 1 < d
            · go_wp2_with fail
              go_quiet (exact Calls.mono (HGp.out _) (fun _ _ h => ⟨h.1, _, h.2.symm⟩))
              have HOq : Hid (OwnY (wr.drewN nq) w.heap.size g c (K + 1) xs) := HO.out
              have HGq : Hid (GR (wr.drewN nq) B R (k + 20)) := HG.out
              have HBq : Hid (w.grownBy (wr.drewN nq) (some R)) := gb_drewN HB.out nq
              clear HO HG HB hcz hcy
              generalize wr.drewN nq = W at HOq HGq HBq ⊢
              obtain ⟨-, -, hcz, -, -⟩ := HOq.out.at_ (i := K) (by omega)
              have hcz2 : W.cell? ⟨g, K, none⟩ = some (.int .i64 z) := by
                obtain ⟨z', Hz', h', -, -⟩ := HOq.out.at_ (i := K) (by omega)
                rw [← Hz.out, Hz'.out]; exact h'
              have hcy2 : W.cell? ⟨g, 0, none⟩ = some (.int .i64 y) := by
                obtain ⟨z', Hz', h', -, -⟩ := HOq.out.at_ (i := 0) (by omega)
                rw [← Hy.out, Hz'.out]; exact h'
              have Hlen := Lib.hid HOq.out.1
              have Hown := Lib.hid HOq.out.2
              have hsz : K + 1 + 1 ≤ maxLen := by unfold maxLen; omega
              have hsz2 : (K + 1 + 1) * 8 ≤ 140737488355328 := by omega
              have Hsz3 : Hid (∀ o, w.heap.size ≤ (W.alloc o).heap.size) := fun o => by rw [size_alloc1]; have := HBq.out.size; omega
              go_wp2_with (at_builtin; refine wpList_append_lies _ rfl _ _ 23 rfl w.heap.size 3 i0 _ 1 8 Try.underlying23 hi0 hz0 hz1 hz2 rfl (by decide) _ _ _ rfl (Hown.out.alloc _) ⟨W.heap.size, 0, none⟩ 1 1 [_] rfl rfl (cell_one_new _ _ _) (by intro u hu; simp at hu; subst hu; rfl) (by decide) hsz hsz2 (Hsz3.out _) _ rfl ?_; intro g3 c3 w8 hown8 hgrow8 hat8 hlt8)
              all_goals
                have h8 := ownY_push Hlen.out hown8
                have HX : Hid (∃ ys, OwnY w8 w.heap.size g3 c3 (K + 1 + 1) ys ∧ NearY ys (28 - ((gk - 1 : Nat) : Int))) := ⟨_, h8, nearY_push HN.out (by omega) (by omega) (by omega)⟩
                have HG8 : Hid (GR w8 B R (k + 20)) := (HGq.out.kept (row := none) (World.grownBy_alloc _ _ _) (fun g h => by cases h)).kept hgrow8 (fun g h => by have := (Hown.out.lt g h).1; omega)
                have HB8 : Hid (w.grownBy w8 (some R)) := gb_trans (gb_trans HBq.out (World.grownBy_alloc W _ none) (.inr (fun g h => by cases h))) hgrow8 (.inr (fun g h => (Hown.out.lt g h).1))
                obtain ⟨ys, hO8, hN8⟩ := HX.out
                have HO8 := Lib.hid hO8
                have HN8 := Lib.hid hN8
                clear h8 HX hO8 hN8 hown8 hgrow8 hat8 hlt8 Hown HGq HBq HOq HN Hlen hsz hsz2 Hsz3
                go_wp2
                go_roundg (gk - 1)
                case rel => exact ⟨g3, c3, K + 1 + 1, ys, rfl, by omega, by omega, HN8, HO8, HG8, HB8⟩
                case measure => omega
            · go_wp2_with fail
              go_quiet (exact Calls.mono (HGp.out _) (fun _ _ h => ⟨h.1, _, h.2.symm⟩))
              have HOq : Hid (OwnY (wr.drewN nq) w.heap.size g c (K + 1) xs) := HO.out
              have HGq : Hid (GR (wr.drewN nq) B R (k + 20)) := HG.out
              have HBq : Hid (w.grownBy (wr.drewN nq) (some R)) := gb_drewN HB.out nq
              clear HO HG HB hcz hcy
              generalize wr.drewN nq = W at HOq HGq HBq ⊢
              have HO := Lib.hid HOq.out
              have HG := Lib.hid HGq.out
              have HB := Lib.hid HBq.out
              clear HOq HGq HBq
              clear hkc hkl hkl2 hkl4 hkl5 hkl6 hk01 hwk hwk2
              go_wp2_with fail
              refine (pick_any R B (k + 20) 30 W HG.out (by omega) (by omega) (by omega)).mono ?_
              rintro e w2 ⟨v, rfl, hv0, hv1, -, hg2, hgr2⟩
              have HG2 := Lib.hid hg2
              have HO2 := Lib.hid (HO.out.drawn hgr2 hRlt)
              have HB2 := Lib.hid (gb_trans HB.out hgr2 (.inl rfl))
              clear hg2 hgr2 HG HO HB HN
              by_cases h0 : v = 0
              · subst h0
                go_wp2_with fail
                refine (pick_any R B (k + 20 + 1) _ w2 HG2.out (by omega) (by omega) (by omega)).mono ?_
                rintro e w3 ⟨i, rfl, hi0', hi1', -, hg3, hgr3⟩
                have hi1' := hi1' (by omega)
                have HG3 := Lib.hid hg3
                have HO3 := Lib.hid (HO2.out.drawn hgr3 hRlt)
                have HB3 := Lib.hid (gb_trans HB2.out hgr3 (.inl rfl))
                clear hg3 hgr3 HG2 HO2 HB2
                obtain ⟨i, rfl⟩ := Int.eq_ofNat_of_zero_le hi0'
                have hiK : i < K + 1 := by omega
                go_wp2_with fail
                refine (oneLitAt _ R B (k + 20 + 1 + 1) [-1, n, 0] 3 (-1) 8 w3 _ HG3.out (by omega) rfl (by omega) (by omega) rfl (by intro z hz; simp at hz; omega) rfl).mono ?_
                rintro e w4 ⟨d, rfl, -, -, hg4, hgr4⟩
                have HO4 := HO3.out.drawn hgr4 hRlt
                obtain ⟨z, -, hcz, hgl, hgB⟩ := HO4.at_ hiK
                have hfz := HO4.2.frozenAt i
                have Hst := Lib.hid (HO4.2.stored i (.int .i64 d)).1
                have hxs : (xs.set i d).length = K + 1 := by rw [List.length_set]; exact HO4.1
                rw [← List.map_set] at Hst
                obtain ⟨A', c', he, hin, hlo⟩ := roundIn_own Hst.out hxs (by omega)
                injection he with he1 he2 he3
                subst he1 he3
                have HIn : Hid (RoundIn (w4.setCell ⟨g, i, none⟩ (.int .i64 d)) (some ⟨g, 0, none⟩) c (K + 1) (xs.set i d) ∧ ∀ b off, some (⟨g, 0, none⟩ : Addr) = some ⟨b, off, none⟩ → w.heap.size ≤ b) := ⟨hin, hlo⟩
                have HG5 : Hid (GR (w4.setCell ⟨g, i, none⟩ (.int .i64 d)) B R (k + 40)) := (hg4.kept (grownBy_setY w4 _ _) (fun g' h => by injection h with h; have : g = g' := h; omega)).more (by omega)
                have HB5 : Hid (w.grownBy (w4.setCell ⟨g, i, none⟩ (.int .i64 d)) (some R)) := gb_trans (gb_trans HB3.out hgr4 (.inl rfl)) (grownBy_setY w4 _ _) (.inr (fun g' h => by injection h with h; have : g = g' := h; omega))
                clear HO4 Hst hin hlo hg4 hgr4 HG3 HO3 HB3 he2
                go_wp2
                go_ret2
                exact ⟨n, _, _, K + 1, _, rfl, by omega, HIn, HG5, HB5⟩
              · have hv0b : (v == 0) = false := by rw [beq_eq_false_iff_ne]; exact h0
                obtain ⟨A', c', he, hin, hlo⟩ := roundIn_own HO2.out.2 HO2.out.1 (by omega)
                injection he with he1 he2 he3
                subst he1 he3
                clear he2
                by_cases h1 : v = 1
                · subst h1
                  clear h0
                  go_wp2_with fail
                  refine (oneLitAt _ R B (k + 20 + 1) [0, 9, n] 3 0 9 w2 _ HG2.out (by omega) rfl (by omega) (by omega) rfl (by intro z hz; simp at hz; omega) rfl).mono ?_
                  rintro e w4 ⟨d, rfl, -, -, hg4, hgr4⟩
                  obtain ⟨A', c', he, hin, hlo⟩ := roundIn_own (HO2.out.drawn hgr4 hRlt).2 HO2.out.1 (by omega)
                  injection he with he1 he2 he3
                  subst he1 he3
                  have HIn : Hid (RoundIn w4 (some ⟨g, 0, none⟩) c (K + 1) xs ∧ ∀ b off, some (⟨g, 0, none⟩ : Addr) = some ⟨b, off, none⟩ → w.heap.size ≤ b) := ⟨hin, hlo⟩
                  have HG5 := Lib.hid (hg4.more (show k + 20 + 1 + 1 ≤ k + 40 by omega))
                  have HB5 := Lib.hid (gb_trans HB2.out hgr4 (.inl rfl))
                  clear hg4 hgr4 hin hlo HG2 HO2 HB2 he2
                  go_wp2
                  go_ret2
                  exact ⟨d, _, _, K + 1, _, rfl, by omega, HIn, HG5, HB5⟩
                · have hv1b : (v == 1) = false := by rw [beq_eq_false_iff_ne]; exact h1
                  have HIn : Hid (RoundIn w2 (some ⟨g, 0, none⟩) c (K + 1) xs ∧ ∀ b off, some (⟨g, 0, none⟩ : Addr) = some ⟨b, off, none⟩ → w.heap.size ≤ b) := ⟨hin, hlo⟩
                  have HG5 := Lib.hid (HG2.out.more (show k + 20 + 1 ≤ k + 40 by omega))
                  clear h0 h1 hin hlo HG2 HO2
                  go_wp2
                  go_ret2
                  exact ⟨n, _, _, K + 1, _, rfl, by omega, HIn, HG5, HB2⟩
          · obtain rfl : K = 19 := by omega
            go_wp2_with fail
            go_quiet (fail)
            have HOq : Hid (OwnY (wr.drewN nq) w.heap.size g c (19 + 1) xs) := HO.out
            have HGq : Hid (GR (wr.drewN nq) B R (k + 20)) := HG.out
            have HBq : Hid (w.grownBy (wr.drewN nq) (some R)) := gb_drewN HB.out nq
            clear HO HG HB hcz hcy
            generalize wr.drewN nq = W at HOq HGq HBq ⊢
            have HO := Lib.hid HOq.out
            have HG := Lib.hid HGq.out
            have HB := Lib.hid HBq.out
            clear HOq HGq HBq
            go_wp2_with fail
            refine (pick_any R B (k + 20) 30 W HG.out (by omega) (by omega) (by omega)).mono ?_
            rintro e w2 ⟨v, rfl, hv0, hv1, -, hg2, hgr2⟩
            have HG2 := Lib.hid hg2
            have HO2 := Lib.hid (HO.out.drawn hgr2 hRlt)
            have HB2 := Lib.hid (gb_trans HB.out hgr2 (.inl rfl))
            clear hg2 hgr2 HG HO HB HN
            by_cases h0 : v = 0
            · subst h0
              go_wp2_with fail
              refine (pick_any R B (k + 20 + 1) _ w2 HG2.out (by omega) (by omega) (by omega)).mono ?_
              rintro e w3 ⟨i, rfl, hi0', hi1', -, hg3, hgr3⟩
              have hi1' := hi1' (by omega)
              have HG3 := Lib.hid hg3
              have HO3 := Lib.hid (HO2.out.drawn hgr3 hRlt)
              have HB3 := Lib.hid (gb_trans HB2.out hgr3 (.inl rfl))
              clear hg3 hgr3 HG2 HO2 HB2
              obtain ⟨i, rfl⟩ := Int.eq_ofNat_of_zero_le hi0'
              have hiK : i < 19 + 1 := by omega
              go_wp2_with fail
              refine (oneLitAt _ R B (k + 20 + 1 + 1) [-1, n, 0] 3 (-1) 8 w3 _ HG3.out (by omega) rfl (by omega) (by omega) rfl (by intro z hz; simp at hz; omega) rfl).mono ?_
              rintro e w4 ⟨d, rfl, -, -, hg4, hgr4⟩
              have HO4 := HO3.out.drawn hgr4 hRlt
              obtain ⟨z, -, hcz, hgl, hgB⟩ := HO4.at_ hiK
              have hfz := HO4.2.frozenAt i
              have Hst := Lib.hid (HO4.2.stored i (.int .i64 d)).1
              have hxs : (xs.set i d).length = 19 + 1 := by rw [List.length_set]; exact HO4.1
              rw [← List.map_set] at Hst
              obtain ⟨A', c', he, hin, hlo⟩ := roundIn_own Hst.out hxs (by omega)
              injection he with he1 he2 he3
              subst he1 he3
              have HIn : Hid (RoundIn (w4.setCell ⟨g, i, none⟩ (.int .i64 d)) (some ⟨g, 0, none⟩) c (19 + 1) (xs.set i d) ∧ ∀ b off, some (⟨g, 0, none⟩ : Addr) = some ⟨b, off, none⟩ → w.heap.size ≤ b) := ⟨hin, hlo⟩
              have HG5 : Hid (GR (w4.setCell ⟨g, i, none⟩ (.int .i64 d)) B R (k + 40)) := (hg4.kept (grownBy_setY w4 _ _) (fun g' h => by injection h with h; have : g = g' := h; omega)).more (by omega)
              have HB5 : Hid (w.grownBy (w4.setCell ⟨g, i, none⟩ (.int .i64 d)) (some R)) := gb_trans (gb_trans HB3.out hgr4 (.inl rfl)) (grownBy_setY w4 _ _) (.inr (fun g' h => by injection h with h; have : g = g' := h; omega))
              clear HO4 Hst hin hlo hg4 hgr4 HG3 HO3 HB3 he2
              go_wp2
              go_ret2
              exact ⟨n, _, _, 19 + 1, _, rfl, by omega, HIn, HG5, HB5⟩
            · have hv0b : (v == 0) = false := by rw [beq_eq_false_iff_ne]; exact h0
              obtain ⟨A', c', he, hin, hlo⟩ := roundIn_own HO2.out.2 HO2.out.1 (by omega)
              injection he with he1 he2 he3
              subst he1 he3
              clear he2
              by_cases h1 : v = 1
              · subst h1
                clear h0
                go_wp2_with fail
                refine (oneLitAt _ R B (k + 20 + 1) [0, 9, n] 3 0 9 w2 _ HG2.out (by omega) rfl (by omega) (by omega) rfl (by intro z hz; simp at hz; omega) rfl).mono ?_
                rintro e w4 ⟨d, rfl, -, -, hg4, hgr4⟩
                obtain ⟨A', c', he, hin, hlo⟩ := roundIn_own (HO2.out.drawn hgr4 hRlt).2 HO2.out.1 (by omega)
                injection he with he1 he2 he3
                subst he1 he3
                have HIn : Hid (RoundIn w4 (some ⟨g, 0, none⟩) c (19 + 1) xs ∧ ∀ b off, some (⟨g, 0, none⟩ : Addr) = some ⟨b, off, none⟩ → w.heap.size ≤ b) := ⟨hin, hlo⟩
                have HG5 := Lib.hid (hg4.more (show k + 20 + 1 + 1 ≤ k + 40 by omega))
                have HB5 := Lib.hid (gb_trans HB2.out hgr4 (.inl rfl))
                clear hg4 hgr4 hin hlo HG2 HO2 HB2 he2
                go_wp2
                go_ret2
                exact ⟨d, _, _, 19 + 1, _, rfl, by omega, HIn, HG5, HB5⟩
              · have hv1b : (v == 1) = false := by rw [beq_eq_false_iff_ne]; exact h1
                have HIn : Hid (RoundIn w2 (some ⟨g, 0, none⟩) c (19 + 1) xs ∧ ∀ b off, some (⟨g, 0, none⟩ : Addr) = some ⟨b, off, none⟩ → w.heap.size ≤ b) := ⟨hin, hlo⟩
                have HG5 := Lib.hid (HG2.out.more (show k + 20 + 1 ≤ k + 40 by omega))
                clear h0 h1 hin hlo HG2 HO2
                go_wp2
                go_ret2
                exact ⟨n, _, _, 19 + 1, _, rfl, by omega, HIn, HG5, HB2⟩
end Go.Proofs.Ytdkonaaoanggiaa
