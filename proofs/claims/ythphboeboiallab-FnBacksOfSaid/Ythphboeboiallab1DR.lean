/-
  The drawn arguments of chapter 11's laws: homes, spots, how far, a chance.
  Conditions: none beyond what each theorem states.
-/
import Derived.Test.YthphboeboiallabG3
import Derived.Test.YthphboeboiallabGF
import Derived.Test.Ythphboeboiallab1MD
namespace Go.Proofs.Ythphboeboiallab
open Go.ChangeShapes Go.WideShapes Go.ChangeAt Go.RowKit
set_option linter.unusedVariables false
set_option maxRecDepth 4000

theorem gb_belowU {R B : Nat} {a b : World} (h : a.grownBy b (some R)) (hB : B ≤ R) (hR : R ≤ a.heap.size) : Below B a b :=
  ⟨h.os, h.tape, h.output, h.size, fun i hi => h.block i (by omega) (by intro e; injection e with e; omega)⟩
theorem below_grownU {w w' : World} (h : Below w.heap.size w w') (row : Option Nat) : w.grownBy w' row := ⟨h.os, h.tape, h.output, h.size, fun k hk _ => h.block k hk⟩
theorem PIn.drawnU {w w' : World} {R : Nat} {A : Option Addr} {c m : Nat} {zs : List Int} (h : PIn w A c m zs) (hA : ∀ b off, A = some ⟨b, off, none⟩ → b ≠ R) (hg : w.grownBy w' (some R)) : PIn w' A c m zs := by
  refine ⟨fun hp => ?_, h.len, h.cap, h.most⟩
  obtain ⟨b, off, e, hb, hc⟩ := h.rd hp
  exact ⟨b, off, e, Nat.lt_of_lt_of_le hb hg.size, fun i hi => (World.cell?_of_block (hg.block b hb (fun e' => hA b off e (by injection e')))).trans (hc i hi)⟩
theorem own_pinU {w : World} {B n c : Nat} {A : Option Addr} {xs : List Int} (h : w.ownsRow B 3 1 (.slice A n c) n (xs.map (Value.int .i64))) (hn : xs.length = n) (hm : n ≤ 1048576) : PIn w A c n xs := by
  obtain ⟨A', c', e, h1, h2, hr⟩ := own_slice h hn
  injection e with e1 _ e3
  subst e1 e3
  exact ⟨hr, hn, ⟨h1, h2⟩, hm⟩
/-- A chance drawn. -/
def ChPost (B R k : Nat) (w : World) (e : Ending) (w' : World) : Prop :=
  ∃ u d : Int, e = .returned (.agg #[.int .i64 u, .int .i64 d]) ∧ (-1 ≤ u ∧ u ≤ 12) ∧ (0 ≤ d ∧ d ≤ 12) ∧ Hid (GR w' B R (k + 5)) ∧ Hid (w.grownBy w' (some R))
theorem blk_kept {w w' : World} {R p : Nat} {o : Obj} (h : w.heap[p]? = some o) (hg : w.grownBy w' (some R)) (hp : p ≠ R) : w'.heap[p]? = some o := by
  have hlt : p < w.heap.size := by
    rcases Nat.lt_or_ge p w.heap.size with hh | hh
    · exact hh
    · simp [Array.getElem?_eq_none hh] at h
  exact (hg.block p hlt (fun e => hp (Option.some.inj e))).trans h
theorem struct_at {W : World} {p ty : Nat} {a b : Value} (h : W.heap[p]? = some (.cells #[a, b] ty (0, 0))) : W.cell? ⟨p, 0, none⟩ = some a ∧ W.cell? ⟨p, 1, none⟩ = some b ∧ W.frozen? ⟨p, 0, none⟩ = false ∧ W.frozen? ⟨p, 1, none⟩ = false := by
  refine ⟨(cell_of_row _ _ _ _ _ _ h).trans rfl, (cell_of_row _ _ _ _ _ _ h).trans rfl, ?_, ?_⟩ <;> simp [World.frozen?, h]
theorem struct_set {W : World} {p ty : Nat} {a b : Value} (h : W.heap[p]? = some (.cells #[a, b] ty (0, 0))) (x : Value) : (W.setCell ⟨p, 0, none⟩ x).heap[p]? = some (.cells #[x, b] ty (0, 0)) := by
  simp [World.setCell, Array.getElem?_modify, h]
theorem grownBy_setU (w : World) (a : Addr) (u : Value) : w.grownBy (w.setCell a u) (some a.block) :=
  ⟨rfl, rfl, rfl, by simp [World.setCell], fun i hi hne => Below.heap_setCell w _ _ i (by rintro rfl; exact hne rfl)⟩
theorem set_struct {W : World} {p ty : Nat} {a b : Value} {fz : Nat × Nat} (h : W.heap[p]? = some (.cells #[a, b] ty fz)) (x y : Value) : ((W.setCell ⟨p, 0, none⟩ x).setCell ⟨p, 1, none⟩ y).cell? ⟨p, 0, none⟩ = some x ∧ ((W.setCell ⟨p, 0, none⟩ x).setCell ⟨p, 1, none⟩ y).cell? ⟨p, 1, none⟩ = some y := by
  have c0 : W.cell? ⟨p, 0, none⟩ = some a := (cell_of_row _ _ _ _ _ _ h).trans rfl
  have c1 : W.cell? ⟨p, 1, none⟩ = some b := (cell_of_row _ _ _ _ _ _ h).trans rfl
  have n01 : (⟨p, 1, none⟩ : Addr) ≠ ⟨p, 0, none⟩ := by intro e; injection e with e1 e2; omega
  refine ⟨?_, ?_⟩
  · rw [World.cell?_setCell_other _ ⟨p, 1, none⟩ _ _ (by intro e; injection e with e1 e2; omega)]
    exact World.cell?_setCell_same _ ⟨p, 0, none⟩ x c0
  · refine World.cell?_setCell_same _ ⟨p, 1, none⟩ y (u := b) ?_
    rw [World.cell?_setCell_other _ ⟨p, 0, none⟩ _ _ (by intro e; injection e with e1 e2; omega)]
    exact c1
set_option maxHeartbeats 1600000 in
theorem aChance_any (R B k : Nat) (w : World) (hg : GR w B R k) (hk : k ≤ 90000) :
    Calls Try.prog 42 #[.pointer (some ⟨R, 0, none⟩)] w (ChPost B R k w) := by
  have hRlt := hg.lt
  have HG := Lib.hid hg
  clear hg
  go_enter Try.func42, Try.ntmps42
  go_wp2_with fail
  obtain ⟨p, Hp⟩ : ∃ p, Hid (w.heap.size = p) := ⟨_, rfl⟩
  have hpR : p ≠ R := by have := Hp.out; omega
  obtain ⟨W0, HW0⟩ : ∃ W0, Hid (w.alloc (.cells #[.int .i64 0, .int .i64 0] 30) = W0) := ⟨_, rfl⟩
  have HG0 : Hid (GR W0 B R k) := by rw [← HW0.out]; exact HG.out.kept (row := none) (World.grownBy_alloc _ _ _) (fun g h => by cases h)
  have HB0 : Hid (w.grownBy W0 (some R)) := by rw [← HW0.out]; exact World.grownBy_alloc _ _ _
  have hs0 : W0.heap.size = p + 1 := by rw [← HW0.out, size_alloc1, Hp.out]
  have HP0 : Hid (W0.heap[p]? = some (.cells #[.int .i64 0, .int .i64 0] 30 (0, 0))) := by rw [← HW0.out, ← Hp.out]; exact heap_alloc_new _ _
  rw [HW0.out, Hp.out]
  clear HG
  refine (oneLitAt _ R B k [2, 3, 4, 10, 1, 5] 6 1 10 W0 _ HG0.out (by omega) rfl (by omega) (by omega) rfl (by decide) hs0).mono ?_
  rintro e w1 ⟨d, rfl, hd0, hd1, hg1, hgr1⟩
  have HG1 := Lib.hid hg1
  have HB1 := Lib.hid (gb_trans HB0.out hgr1 (.inl rfl))
  have HP1 := Lib.hid (blk_kept HP0.out hgr1 hpR)
  clear hg1 hgr1 HG0 HB0 HP0
  go_wp2_with fail
  refine (pick_any R B (k + 1) (d + 1) w1 HG1.out (by omega) (by omega) (by omega)).mono ?_
  rintro e w2 ⟨t, rfl, ht0, ht1, -, hg2, hgr2⟩
  have ht2 := ht1 (by omega)
  have HG2 := Lib.hid hg2
  have HB2 := Lib.hid (gb_trans HB1.out hgr2 (.inl rfl))
  have HP2 := Lib.hid (blk_kept HP1.out hgr2 hpR)
  have hs2 := HB2.out.size
  clear hg2 hgr2 HG1 HB1 HP1 ht1
  go_wp2_with fail
  obtain ⟨q, Hq⟩ : ∃ q, Hid (w2.heap.size = q) := ⟨_, rfl⟩
  have hqs := Hq.out
  have hqR : q ≠ R := by omega
  obtain ⟨W3, HW3⟩ : ∃ W3, Hid (w2.alloc (.cells #[.int .i64 t, .int .i64 d] 30) = W3) := ⟨_, rfl⟩
  have HG3 : Hid (GR W3 B R (k + 1 + 1)) := by rw [← HW3.out]; exact HG2.out.kept (row := none) (World.grownBy_alloc _ _ _) (fun g h => by cases h)
  have HB3 : Hid (w.grownBy W3 (some R)) := by rw [← HW3.out]; exact gb_trans HB2.out (World.grownBy_alloc _ _ none) (.inr (fun g h => by cases h))
  have HP3 : Hid (W3.heap[p]? = some (.cells #[.int .i64 0, .int .i64 0] 30 (0, 0))) := by rw [← HW3.out]; exact (blk_kept HP2.out (World.grownBy_alloc _ _ (some R)) hpR)
  have HQ3 : Hid (W3.heap[q]? = some (.cells #[.int .i64 t, .int .i64 d] 30 (0, 0))) := by rw [← HW3.out, ← Hq.out]; exact heap_alloc_new _ _
  have hs3 : W3.heap.size = q + 1 := by rw [← HW3.out, size_alloc1, Hq.out]
  rw [HW3.out, Hq.out]
  clear HG2 HB2 HP2 hqs
  refine (pick_any R B (k + 1 + 1) 30 W3 HG3.out (by omega) (by omega) (by omega)).mono ?_
  rintro e w4 ⟨v, rfl, hv0, -, -, hg4, hgr4⟩
  have HG4 := Lib.hid hg4
  have HB4 := Lib.hid (gb_trans HB3.out hgr4 (.inl rfl))
  have HP4 := Lib.hid (blk_kept HP3.out hgr4 hpR)
  have HQ4 := Lib.hid (blk_kept HQ3.out hgr4 hqR)
  have hs4 := HB4.out.size
  clear hg4 hgr4 HG3 HB3 HP3 HQ3
  by_cases hv : v = 0
  · subst hv
    clear HQ4
    go_wp2_with fail
    refine (oneLit R B (k + 1 + 1 + 1) [-1, d + 1, 0] 3 (-1) 11 w4 _ HG4.out (by omega) rfl (by omega) (by omega) rfl (by intro z hz; simp at hz; omega)).mono ?_
    rintro e w5 ⟨u', rfl, hu0, hu1, hg5, hgr5⟩
    have HG5 := Lib.hid hg5
    have HB5 := Lib.hid (gb_trans HB4.out hgr5 (.inl rfl))
    have HP5 := Lib.hid (blk_kept HP4.out hgr5 hpR)
    clear hg5 hgr5 HG4 HB4 HP4
    go_wp2_with fail
    refine (oneLit R B (k + 1 + 1 + 1 + 1) [d, 0, 11] 3 0 11 w5 _ HG5.out (by omega) rfl (by omega) (by omega) rfl (by intro z hz; simp at hz; omega)).mono ?_
    rintro e w6 ⟨d', rfl, hd'0, hd'1, hg6, hgr6⟩
    have HG6 : Hid (GR w6 B R (k + 5)) := hg6.more (by omega)
    have HB6 := Lib.hid (gb_trans HB5.out hgr6 (.inl rfl))
    have HP6 := Lib.hid (blk_kept HP5.out hgr6 hpR)
    clear hg6 hgr6 HG5 HB5 HP5
    obtain ⟨c0, c1, f0, f1⟩ := struct_at HP6.out
    have HP7 := Lib.hid (struct_set HP6.out (.int .i64 u'))
    obtain ⟨d0, d1, j0, j1⟩ := struct_at HP7.out
    obtain ⟨e0, e1⟩ := set_struct HP6.out (.int .i64 u') (.int .i64 d')
    have HG8 : Hid (GR ((w6.setCell ⟨p, 0, none⟩ (.int .i64 u')).setCell ⟨p, 1, none⟩ (.int .i64 d')) B R (k + 5)) := (HG6.out.kept (grownBy_setU _ _ _) (fun g h => by injection h with h; have : p = g := h; have := Hp.out; omega)).kept (grownBy_setU _ _ _) (fun g h => by injection h with h; have : p = g := h; have := Hp.out; omega)
    have HB8 : Hid (w.grownBy ((w6.setCell ⟨p, 0, none⟩ (.int .i64 u')).setCell ⟨p, 1, none⟩ (.int .i64 d')) (some R)) := gb_trans (gb_trans HB6.out (grownBy_setU _ _ _) (.inr fun g h => by injection h with h; have : p = g := h; have := Hp.out; omega)) (grownBy_setU _ _ _) (.inr fun g h => by injection h with h; have : p = g := h; have := Hp.out; omega)
    go_wp2
    exact bodyPost_ret (v := .agg #[.int .i64 u', .int .i64 d']) (by simp [results, Try.results42, go_sem, e0, e1]) rfl ⟨u', d', rfl, ⟨by omega, by omega⟩, ⟨by omega, by omega⟩, HG8, HB8⟩
  · have hvb : (v == 0) = false := by rw [beq_eq_false_iff_ne]; exact hv
    clear hv
    obtain ⟨c0, c1, f0, f1⟩ := struct_at HP4.out
    obtain ⟨q0, q1, -, -⟩ := struct_at HQ4.out
    have HP7 := Lib.hid (struct_set HP4.out (.int .i64 t))
    obtain ⟨d0, d1, j0, j1⟩ := struct_at HP7.out
    obtain ⟨e0, e1⟩ := set_struct HP4.out (.int .i64 t) (.int .i64 d)
    have HG8 : Hid (GR ((w4.setCell ⟨p, 0, none⟩ (.int .i64 t)).setCell ⟨p, 1, none⟩ (.int .i64 d)) B R (k + 5)) := ((HG4.out.kept (grownBy_setU _ _ _) (fun g h => by injection h with h; have : p = g := h; have := Hp.out; omega)).kept (grownBy_setU _ _ _) (fun g h => by injection h with h; have : p = g := h; have := Hp.out; omega)).more (by omega)
    have HB8 : Hid (w.grownBy ((w4.setCell ⟨p, 0, none⟩ (.int .i64 t)).setCell ⟨p, 1, none⟩ (.int .i64 d)) (some R)) := gb_trans (gb_trans HB4.out (grownBy_setU _ _ _) (.inr fun g h => by injection h with h; have : p = g := h; have := Hp.out; omega)) (grownBy_setU _ _ _) (.inr fun g h => by injection h with h; have : p = g := h; have := Hp.out; omega)
    go_wp2
    exact bodyPost_ret (v := .agg #[.int .i64 t, .int .i64 d]) (by simp [results, Try.results42, go_sem, e0, e1]) rfl ⟨t, d, rfl, ⟨by omega, by omega⟩, ⟨by omega, by omega⟩, HG8, HB8⟩
/-- Spots drawn. -/
def SpotsPost (B R k : Nat) (w : World) (e : Ending) (w' : World) : Prop :=
  ∃ g c L, ∃ ss : List Int, e = .returned (.slice (some ⟨g, 0, none⟩) L c) ∧ L ≤ 4 ∧ Hid (OwnQ w' w.heap.size g c L ss) ∧ Hid (GR w' B R (k + 20)) ∧ Hid (w.grownBy w' (some R))
def SptRel (B R k n : Nat) (A : Option Addr) (c0 : Nat) (zs : List Int) (w : World) (o v : Value) (wr : World) : Prop :=
  ∃ g c L j q : Nat, ∃ ss : List Int, o = .slice (some ⟨g, 0, none⟩) L c ∧ v = .int .i64 ((j : Nat) : Int) ∧ L + j ≤ 4 ∧ q + 3 * j ≤ k + 14 ∧ Hid (PIn wr A c0 n zs) ∧ Hid (OwnQ wr w.heap.size g c L ss) ∧ Hid (GR wr B R q) ∧ Hid (w.grownBy wr (some R))
theorem OwnQ.drawnU {w w' : World} {B R g c L : Nat} {xs : List Int} (h : OwnQ w B g c L xs) (hg : w.grownBy w' (some R)) (hR : R < B) : OwnQ w' B g c L xs :=
  ⟨h.1, World.ownsRow.kept h.2 hg (.inr (fun e => by have := (World.ownsRow.lt h.2 R e).1; omega))⟩
theorem own_formU {w' : World} {B L : Nat} {A : Option Addr} {c : Nat} {xs : List Int} (h : w'.ownsRow B 3 1 (.slice A L c) L (xs.map (Value.int .i64))) (hn : xs.length = L) (hL : 0 < L) : ∃ g, A = some ⟨g, 0, none⟩ ∧ OwnQ w' B g c L xs := by
  obtain ⟨g, cap, he, hg1, hg2⟩ := h.form hL
  injection he with h1 h2 h3
  subst h1
  exact ⟨g, rfl, hn, h⟩
set_option maxHeartbeats 3200000 in
theorem spotsOf_any (R B k n : Nat) (A : Option Addr) (c0 : Nat) (zs : List Int) (w : World) (hg : GR w B R k) (hk : k ≤ 80000) (hin : PIn w A c0 n zs) (hA : ∀ b off, A = some ⟨b, off, none⟩ → b ≠ R) (hn10 : n ≤ 10) :
    Calls Try.prog 36 #[.pointer (some ⟨R, 0, none⟩), .slice A n c0] w (SpotsPost B R k w) := by
  have hRlt := hg.lt
  have HG := Lib.hid hg
  have HI := Lib.hid hin
  have HA := Lib.hid hA
  clear hg hin hA
  go_enter Try.func36, Try.ntmps36
  go_wp2_with fail
  obtain ⟨W0, HW0⟩ : ∃ W0, Hid (w.alloc (.cells #[] 3) = W0) := ⟨_, rfl⟩
  have HG0 : Hid (GR W0 B R k) := by rw [← HW0.out]; exact HG.out.kept (row := none) (World.grownBy_alloc _ _ _) (fun g h => by cases h)
  have HB0 : Hid (w.grownBy W0 (some R)) := by rw [← HW0.out]; exact World.grownBy_alloc _ _ _
  have HO0 : Hid (OwnQ W0 w.heap.size w.heap.size 0 0 []) := by rw [← HW0.out]; exact ⟨rfl, World.ownsRow_lit w #[] 0 (Nat.le_refl _) (by decide) rfl⟩
  have HI0 : Hid (PIn W0 A c0 n zs) := HI.out.drawnU HA.out HB0.out
  have hs0 : W0.heap.size = w.heap.size + 1 := by rw [← HW0.out, size_alloc1]
  rw [HW0.out]
  clear HG HI
  refine (oneLitAt _ R B k [2, 3, 1, 0, 4] 5 0 4 W0 _ HG0.out (by omega) rfl (by omega) (by omega) rfl (by decide) hs0).mono ?_
  rintro e w1 ⟨j, rfl, hj0, hj1, hg1, hgr1⟩
  obtain ⟨j, rfl⟩ := Int.eq_ofNat_of_zero_le hj0
  have HG1 := Lib.hid hg1
  have HB1 := Lib.hid (gb_trans HB0.out hgr1 (.inl rfl))
  have HO1 := Lib.hid (HO0.out.drawnU hgr1 hRlt)
  have HI1 := Lib.hid (HI0.out.drawnU HA.out hgr1)
  clear hg1 hgr1 HG0 HB0 HO0 HI0
  go_wp2_with fail
  go_loopw [5, 6] (fun o v wr => SptRel B R k n A c0 zs w o v wr) (fun _ v _ => (intOf v).toNat)
  case atStart => exact ⟨_, _, 0, j, k + 1, [], rfl, rfl, by omega, by omega, HI1, HO1, HG1, HB1⟩
  case round =>
    clear HG1 HB1 HO1 HI1
    obtain ⟨g, c, L, j, q, ss, rfl, rfl, hLj, hq, HI, HO, HG, HB⟩ := hrel
    by_cases hpos : 0 < j
    · have hpz : (0 : Int) < (j : Int) := by omega
      go_wp2_with fail
      refine (pick_any R B q 51 wr HG.out (by omega) (by omega) (by omega)).mono ?_
      rintro e w2 ⟨a, rfl, ha0, -, -, hg2, hgr2⟩
      have HG2 := Lib.hid hg2
      have HB2 := Lib.hid (gb_trans HB.out hgr2 (.inl rfl))
      have HO2 := Lib.hid (HO.out.drawnU hgr2 hRlt)
      have HI2 := Lib.hid (HI.out.drawnU HA.out hgr2)
      clear hg2 hgr2 HG HB HO HI
      have fin : Hid (∀ (p : Int) (W : World) (Q : Nat), GR W B R Q → Q ≤ q + 3 → w.grownBy W (some R) → OwnQ W w.heap.size g c L ss → PIn W A c0 n zs → Calls Try.prog 59 #[.slice (some ⟨g, 0, none⟩) L c, .int .i64 p] W (fun e w' => ∃ g' c', e = .returned (.slice (some ⟨g', 0, none⟩) (L + 1) c') ∧ Hid (OwnQ w' w.heap.size g' c' (L + 1) (wsI ss p)) ∧ Hid (GR w' B R (q + 3)) ∧ Hid (w.grownBy w' (some R)) ∧ Hid (PIn w' A c0 n zs))) := fun p W Q hG hQ hB hO hI => by
        refine (withSpot_any g 0 c L p ss W (own_pinU hO.2 hO.1 (by omega)) (by omega)).mono ?_
        rintro e w' ⟨A', c', rfl, ho, hb⟩
        have hl : (wsI ss p).length = L + 1 := by rw [wsI_len, hO.1]
        rw [hl] at ho ⊢
        have hws := hB.size
        obtain ⟨g', rfl, ho'⟩ := own_formU (own_lowQ ho.out hws) hl (by omega)
        have hgb := below_grownU hb.out (some R)
        exact ⟨g', c', rfl, ho', (hG.kept (row := none) (below_grownU hb.out none) (fun g h => by cases h)).more hQ, gb_trans hB hgb (.inl rfl), hI.drawnU HA.out hgb⟩
      have done : ∀ (p : Int) (W : World) (Q : Nat), GR W B R Q → Q ≤ q + 3 → w.grownBy W (some R) → OwnQ W w.heap.size g c L ss → PIn W A c0 n zs → True := fun _ _ _ _ _ _ _ _ => trivial
      clear done
      by_cases hn : 0 < n
      · have hnz : (0 : Int) < (n : Int) := by omega
        go_wp2_with fail
        refine (pick_any R B (q + 1) 3 w2 HG2.out (by omega) (by omega) (by omega)).mono ?_
        rintro e w3 ⟨v, rfl, hv0, -, -, hg3, hgr3⟩
        have HG3 := Lib.hid hg3
        have HB3 := Lib.hid (gb_trans HB2.out hgr3 (.inl rfl))
        have HO3 := Lib.hid (HO2.out.drawnU hgr3 hRlt)
        have HI3 := Lib.hid (HI2.out.drawnU HA.out hgr3)
        clear hg3 hgr3 HG2 HB2 HO2 HI2
        by_cases hv : 0 < v
        · go_wp2_with fail
          refine (pick_any R B (q + 1 + 1) n w3 HG3.out (by omega) (by omega) (by omega)).mono ?_
          rintro e w4 ⟨i, rfl, hi0, hi1, -, hg4, hgr4⟩
          have hi2 := hi1 (by omega)
          obtain ⟨i, rfl⟩ := Int.eq_ofNat_of_zero_le hi0
          have HG4 := Lib.hid hg4
          have HB4 := Lib.hid (gb_trans HB3.out hgr4 (.inl rfl))
          have HO4 := Lib.hid (HO3.out.drawnU hgr4 hRlt)
          have HI4 := Lib.hid (HI3.out.drawnU HA.out hgr4)
          clear hg4 hgr4 HG3 HB3 HO3 HI3 hi1 hi0
          have hin : i < n := by omega
          have hlen := HI4.out.len
          obtain ⟨bA, offA, rfl, hbA, hcA⟩ := HI4.out.rd (by omega)
          have hca := hcA i (by omega)
          clear hcA
          go_wp2_with fail
          refine (fin.out _ _ _ HG4.out (by omega) HB4.out HO4.out HI4.out).mono ?_
          rintro e w5 ⟨g5, c5, rfl, HO5, HG5, HB5, HI5⟩
          clear HG4 HB4 HO4 HI4 fin
          go_wp2
          go_roundw
          case rel => exact ⟨g5, c5, L + 1, j - 1, q + 3, _, rfl, by congr 1; omega, by omega, by omega, HI5, HO5, HG5, HB5⟩
          case measure => simp [intOf]; omega
        · go_wp2_with fail
          refine (fin.out _ _ _ HG3.out (by omega) HB3.out HO3.out HI3.out).mono ?_
          rintro e w5 ⟨g5, c5, rfl, HO5, HG5, HB5, HI5⟩
          clear HG3 HB3 HO3 HI3 fin
          go_wp2
          go_roundw
          case rel => exact ⟨g5, c5, L + 1, j - 1, q + 3, _, rfl, by congr 1; omega, by omega, by omega, HI5, HO5, HG5, HB5⟩
          case measure => simp [intOf]; omega
      · obtain rfl : n = 0 := by omega
        go_wp2_with fail
        refine (fin.out _ _ _ HG2.out (by omega) HB2.out HO2.out HI2.out).mono ?_
        rintro e w5 ⟨g5, c5, rfl, HO5, HG5, HB5, HI5⟩
        clear HG2 HB2 HO2 HI2 fin
        go_wp2
        go_roundw
        case rel => exact ⟨g5, c5, L + 1, j - 1, q + 3, _, rfl, by congr 1; omega, by omega, by omega, HI5, HO5, HG5, HB5⟩
        case measure => simp [intOf]; omega
    · obtain rfl : j = 0 := by omega
      go_wp2
      go_ret
      exact ⟨g, c, L, ss, rfl, by omega, HO, HG.out.more (by omega), HB⟩
/-- The drawn arguments of BacksOf: homes, spots, how far. -/
def DrawnB (w : World) (e : Ending) (w' : World) : Prop :=
  ∃ A c n, ∃ zs : List Int, ∃ g c' m, ∃ ss : List Int, ∃ far : Int, e = .returned (.tuple #[.slice A n c, .slice (some ⟨g, 0, none⟩) m c', .int .i64 far]) ∧ n ≤ 10 ∧ m ≤ 4 ∧ (-1 ≤ far ∧ far ≤ 51) ∧ Hid (PIn w' A c n zs) ∧ Hid (OwnQ w' w.heap.size g c' m ss) ∧ Hid (Below w.heap.size w w')
set_option maxHeartbeats 1600000 in
theorem drawBacksOf_any (A : Option Addr) (c n : Nat) (bs : List Int) (w : World) (hr : RdB w w.heap.size A bs) (hn : bs.length = n) (hc : n ≤ c) (hm : c ≤ 9223372036854775807) :
    Calls Try.prog 13 #[.slice A n c] w (DrawnB w) := by
  have H := Lib.hid (newReader_any A c n bs w hr hn hc hm)
  clear hn hr
  go_enter Try.func13, Try.ntmps13
  go_wp2_with fail
  refine H.out.mono ?_
  rintro e w1 ⟨rfl, hg1, hnx1⟩
  have hlt := hg1.lt
  clear H
  go_wp2_with fail
  refine (someHomes_any w.heap.size w.heap.size 0 10 w1 hg1 (by omega) (by omega) (by omega)).mono ?_
  rintro e w2 ⟨v, zs, rfl, hl, hx, hown, hg2, hgb2⟩
  have Hlt2 : Hid (∀ b, v.ownBlock = some b → w1.heap.size ≤ b) := fun b e => (hown.lt b e).1
  obtain ⟨A2, c2, rfl, hc1, hc2, hrd⟩ := own_slice hown rfl
  obtain ⟨n2, Hn2⟩ : ∃ n2, Hid (zs.length = n2) := ⟨_, rfl⟩
  rw [Hn2.out] at hl hc1
  have HP2 : Hid (PIn w2 A2 c2 n2 zs) := ⟨hrd, Hn2.out, ⟨hc1, hc2⟩, by omega⟩
  have HA2 : Hid (∀ b off, A2 = some ⟨b, off, none⟩ → b ≠ w.heap.size) := fun b off e => by have := Hlt2.out b (by rw [e]; rfl); omega
  have HG2 := Lib.hid hg2
  have HB2 : Hid (Below w.heap.size w w2) := hnx1.trans (gb_belowU hgb2 (Nat.le_refl _) (Nat.le_of_lt hlt))
  have hs2 := HB2.out.size
  rw [Hn2.out]
  clear hg2 hgb2 hown hrd hx hg1 hnx1 Hlt2
  go_wp2_with fail
  refine (spotsOf_any w.heap.size w.heap.size (0 + 40) n2 A2 c2 zs w2 HG2.out (by omega) HP2.out HA2.out (by omega)).mono ?_
  rintro e w3 ⟨g, c3, m, ss, rfl, hm4, hO3, hG3, hgb3⟩
  have hO3' := Lib.hid (show OwnQ w3 (w.heap.size + 1) g c3 m ss from ⟨hO3.out.1, own_lowQ hO3.out.2 (by have := HG2.out.lt; omega)⟩)
  have HP3 := Lib.hid (HP2.out.drawnU HA2.out hgb3.out)
  have HB3 : Hid (Below w.heap.size w w3) := HB2.out.trans (gb_belowU hgb3.out (Nat.le_refl _) (Nat.le_of_lt HG2.out.lt))
  clear hO3 hgb3 HP2 HB2 HG2
  go_wp2_with fail
  refine (aFar_any w.heap.size w.heap.size (0 + 40 + 20) w3 hG3.out (by omega)).mono ?_
  rintro e w4 ⟨far, rfl, hf0, hf1, hg4, hgr4⟩
  have HP4 := Lib.hid (HP3.out.drawnU HA2.out hgr4)
  have HO4 : Hid (OwnQ w4 w.heap.size g c3 m ss) := by
    have := hO3'.out.drawnU hgr4 (Nat.lt_succ_self _)
    exact ⟨this.1, own_lowQ this.2 (Nat.le_succ _)⟩
  have HB4 : Hid (Below w.heap.size w w4) := HB3.out.trans (gb_belowU hgr4 (Nat.le_refl _) (Nat.le_of_lt hG3.out.lt))
  clear hO3' HP3 HB3 hG3 hg4 hgr4 HA2
  go_wp2
  go_ret3
  exact ⟨A2, c2, n2, zs, g, c3, m, ss, far, rfl, hl, hm4, ⟨hf0, hf1⟩, HP4, HO4, HB4⟩
/-- The drawn arguments of MeanReached: those and a chance. -/
def DrawnM (w : World) (e : Ending) (w' : World) : Prop :=
  ∃ A c n, ∃ zs : List Int, ∃ g c' m, ∃ ss : List Int, ∃ far u d : Int, e = .returned (.tuple #[.slice A n c, .slice (some ⟨g, 0, none⟩) m c', .int .i64 far, .agg #[.int .i64 u, .int .i64 d]]) ∧ n ≤ 10 ∧ m ≤ 4 ∧ (-1 ≤ far ∧ far ≤ 51) ∧ ((-1 ≤ u ∧ u ≤ 12) ∧ (0 ≤ d ∧ d ≤ 12)) ∧ Hid (PIn w' A c n zs) ∧ Hid (OwnQ w' w.heap.size g c' m ss) ∧ Hid (Below w.heap.size w w')
/-- The drawn arguments of the spreads: homes, how many helpers, how far, a chance. -/
def DrawnS (w : World) (e : Ending) (w' : World) : Prop :=
  ∃ A c n, ∃ zs : List Int, ∃ k far u d : Int, e = .returned (.tuple #[.slice A n c, .int .i64 k, .int .i64 far, .agg #[.int .i64 u, .int .i64 d]]) ∧ n ≤ 10 ∧ (-1 ≤ k ∧ k ≤ 5) ∧ (-1 ≤ far ∧ far ≤ 51) ∧ ((-1 ≤ u ∧ u ≤ 12) ∧ (0 ≤ d ∧ d ≤ 12)) ∧ Hid (PIn w' A c n zs) ∧ Hid (Below w.heap.size w w')
set_option maxHeartbeats 3200000 in
theorem drawMeanReached_any (A : Option Addr) (c n : Nat) (bs : List Int) (w : World) (hr : RdB w w.heap.size A bs) (hn : bs.length = n) (hc : n ≤ c) (hm : c ≤ 9223372036854775807) :
    Calls Try.prog 17 #[.slice A n c] w (DrawnM w) := by
  go_enter Try.func17, Try.ntmps17
  go_wp2_with fail
  obtain ⟨p, Hp⟩ : ∃ p, Hid (w.heap.size = p) := ⟨_, rfl⟩
  obtain ⟨W0, HW0⟩ : ∃ W0, Hid (w.alloc (.cells #[.int .i64 0, .int .i64 0] 30) = W0) := ⟨_, rfl⟩
  have HB0 : Hid (Below w.heap.size w W0) := by rw [← HW0.out]; exact (Below.refl _ _).alloc (Nat.le_refl _) _
  have hs0 : W0.heap.size = p + 1 := by rw [← HW0.out, size_alloc1, Hp.out]
  have HP0 : Hid (W0.heap[p]? = some (.cells #[.int .i64 0, .int .i64 0] 30 (0, 0))) := by rw [← HW0.out, ← Hp.out]; exact heap_alloc_new _ _
  have H := Lib.hid (newReader_any A c n bs W0 ((hr.below HB0.out).more HB0.out.size) hn hc hm)
  obtain ⟨R, HR⟩ : ∃ R, Hid (p + 1 = R) := ⟨_, rfl⟩
  rw [HR.out] at hs0
  unfold MadeReader at H
  rw [hs0] at H
  rw [HW0.out, Hp.out]
  have hpR : p ≠ R := by have := HR.out; omega
  clear hn hr
  refine H.out.mono ?_
  rintro e w1 ⟨rfl, hg1, hnx1⟩
  have hlt := hg1.lt
  have HK1 : Hid (w1.heap[p]? = some (.cells #[.int .i64 0, .int .i64 0] 30 (0, 0))) := (hnx1.block p (by have := HR.out; omega)).trans HP0.out
  have HB1 : Hid (Below w.heap.size w w1) := HB0.out.trans (hnx1.mono (by have := HR.out; have := Hp.out; omega))
  clear H HP0 HB0 hnx1
  go_wp2_with fail
  refine (someHomes_any R R 0 10 w1 hg1 (by omega) (by omega) (by omega)).mono ?_
  rintro e w2 ⟨v, zs, rfl, hl, hx, hown, hg2, hgb2⟩
  have Hlt2 : Hid (∀ b, v.ownBlock = some b → w1.heap.size ≤ b) := fun b e => (hown.lt b e).1
  obtain ⟨A2, c2, rfl, hc1, hc2, hrd⟩ := own_slice hown rfl
  obtain ⟨n2, Hn2⟩ : ∃ n2, Hid (zs.length = n2) := ⟨_, rfl⟩
  rw [Hn2.out] at hl hc1
  have HP2 : Hid (PIn w2 A2 c2 n2 zs) := ⟨hrd, Hn2.out, ⟨hc1, hc2⟩, by omega⟩
  have HA2 : Hid (∀ b off, A2 = some ⟨b, off, none⟩ → b ≠ R) := fun b off e => by have := Hlt2.out b (by rw [e]; rfl); omega
  have HA3 : Hid (∀ b off, A2 = some ⟨b, off, none⟩ → b ≠ p) := fun b off e => by have := Hlt2.out b (by rw [e]; rfl); have := HR.out; omega
  have HG2 := Lib.hid hg2
  have HK2 := Lib.hid (blk_kept HK1.out hgb2 hpR)
  have HB2 : Hid (Below w.heap.size w w2) := HB1.out.trans (gb_belowU hgb2 (by have := HR.out; have := Hp.out; omega) (Nat.le_of_lt hlt))
  have hs2 := HB2.out.size
  rw [Hn2.out]
  clear hg2 hgb2 hown hrd hx hg1 Hlt2 HK1 HB1
  go_wp2_with fail
  refine (spotsOf_any R R (0 + 40) n2 A2 c2 zs w2 HG2.out (by omega) HP2.out HA2.out (by omega)).mono ?_
  rintro e w3 ⟨g, c3, m, ss, rfl, hm4, hO3, hG3, hgb3⟩
  have hO3' := Lib.hid (show OwnQ w3 (R + 1) g c3 m ss from ⟨hO3.out.1, own_lowQ hO3.out.2 (by have := HG2.out.lt; omega)⟩)
  have HP3 := Lib.hid (HP2.out.drawnU HA2.out hgb3.out)
  have HK3 := Lib.hid (blk_kept HK2.out hgb3.out hpR)
  have HB3 : Hid (Below w.heap.size w w3) := HB2.out.trans (gb_belowU hgb3.out (by have := HR.out; have := Hp.out; omega) (Nat.le_of_lt HG2.out.lt))
  clear hO3 hgb3 HP2 HB2 HG2 HK2
  go_wp2_with fail
  refine (aFar_any R R (0 + 40 + 20) w3 hG3.out (by omega)).mono ?_
  rintro e w4 ⟨far, rfl, hf0, hf1, hg4, hgr4⟩
  have HP4 := Lib.hid (HP3.out.drawnU HA2.out hgr4)
  have HK4 := Lib.hid (blk_kept HK3.out hgr4 hpR)
  have HO4 := Lib.hid (hO3'.out.drawnU hgr4 (Nat.lt_succ_self _))
  clear hO3'
  have HG4 := Lib.hid hg4
  have HB4 : Hid (Below w.heap.size w w4) := HB3.out.trans (gb_belowU hgr4 (by have := HR.out; have := Hp.out; omega) (Nat.le_of_lt hG3.out.lt))
  clear HP3 HB3 hG3 hg4 hgr4 HK3
  go_wp2_with fail
  refine (aChance_any R R (0 + 40 + 20 + 1) w4 HG4.out (by omega)).mono ?_
  rintro e w5 ⟨u, d, rfl, hu, hd, hG5, hgr5⟩
  have HP5 := Lib.hid (HP4.out.drawnU HA2.out hgr5.out)
  have HK5 := Lib.hid (blk_kept HK4.out hgr5.out hpR)
  have HO5 := Lib.hid (HO4.out.drawnU hgr5.out (Nat.lt_succ_self _))
  clear HO4
  have HB5 : Hid (Below w.heap.size w w5) := HB4.out.trans (gb_belowU hgr5.out (by have := HR.out; have := Hp.out; omega) (Nat.le_of_lt HG4.out.lt))
  clear HP4 HB4 HG4 hgr5 HK4 hG5
  obtain ⟨c0, c1, f0, f1⟩ := struct_at HK5.out
  have HK7 := Lib.hid (struct_set HK5.out (.int .i64 u))
  obtain ⟨d0, d1, j0, j1⟩ := struct_at HK7.out
  obtain ⟨e0, e1⟩ := set_struct HK5.out (.int .i64 u) (.int .i64 d)
  have hpw : w.heap.size ≤ p := by have := Hp.out; omega
  have HB7 : Hid (Below w.heap.size w ((w5.setCell ⟨p, 0, none⟩ (.int .i64 u)).setCell ⟨p, 1, none⟩ (.int .i64 d))) := (HB5.out.setCell hpw _).setCell hpw _
  have HP7 : Hid (PIn ((w5.setCell ⟨p, 0, none⟩ (.int .i64 u)).setCell ⟨p, 1, none⟩ (.int .i64 d)) A2 c2 n2 zs) := (HP5.out.drawnU HA3.out (grownBy_setU _ _ _)).drawnU HA3.out (grownBy_setU _ _ _)
  have HO7 : Hid (OwnQ ((w5.setCell ⟨p, 0, none⟩ (.int .i64 u)).setCell ⟨p, 1, none⟩ (.int .i64 d)) w.heap.size g c3 m ss) := by
    have := (HO5.out.drawnU (grownBy_setU w5 ⟨p, 0, none⟩ (.int .i64 u)) (show p < R + 1 by have := HR.out; omega)).drawnU (grownBy_setU _ ⟨p, 1, none⟩ (.int .i64 d)) (show p < R + 1 by have := HR.out; omega)
    exact ⟨this.1, own_lowQ this.2 (by have := HR.out; have := Hp.out; omega)⟩
  clear HO5
  clear HP5 HB5 HK5 HK7 HA2 HA3
  go_wp2
  exact bodyPost_ret (v := .tuple #[.slice A2 n2 c2, .slice (some ⟨g, 0, none⟩) m c3, .int .i64 far, .agg #[.int .i64 u, .int .i64 d]]) (by simp [results, Try.results17, go_sem, e0, e1]) rfl ⟨A2, c2, n2, zs, g, c3, m, ss, far, u, d, rfl, hl, hm4, ⟨hf0, hf1⟩, ⟨hu, hd⟩, HP7, HO7, HB7⟩
set_option maxHeartbeats 3200000 in
theorem drawBestSpread_any (A : Option Addr) (c n : Nat) (bs : List Int) (w : World) (hr : RdB w w.heap.size A bs) (hn : bs.length = n) (hc : n ≤ c) (hm : c ≤ 9223372036854775807) :
    Calls Try.prog 21 #[.slice A n c] w (DrawnS w) := by
  go_enter Try.func21, Try.ntmps21
  go_wp2_with fail
  obtain ⟨p, Hp⟩ : ∃ p, Hid (w.heap.size = p) := ⟨_, rfl⟩
  obtain ⟨W0, HW0⟩ : ∃ W0, Hid (w.alloc (.cells #[.int .i64 0, .int .i64 0] 30) = W0) := ⟨_, rfl⟩
  have HB0 : Hid (Below w.heap.size w W0) := by rw [← HW0.out]; exact (Below.refl _ _).alloc (Nat.le_refl _) _
  have hs0 : W0.heap.size = p + 1 := by rw [← HW0.out, size_alloc1, Hp.out]
  have HP0 : Hid (W0.heap[p]? = some (.cells #[.int .i64 0, .int .i64 0] 30 (0, 0))) := by rw [← HW0.out, ← Hp.out]; exact heap_alloc_new _ _
  have H := Lib.hid (newReader_any A c n bs W0 ((hr.below HB0.out).more HB0.out.size) hn hc hm)
  obtain ⟨R, HR⟩ : ∃ R, Hid (p + 1 = R) := ⟨_, rfl⟩
  rw [HR.out] at hs0
  unfold MadeReader at H
  rw [hs0] at H
  rw [HW0.out, Hp.out]
  have hpR : p ≠ R := by have := HR.out; omega
  clear hn hr
  refine H.out.mono ?_
  rintro e w1 ⟨rfl, hg1, hnx1⟩
  have hlt := hg1.lt
  have HK1 : Hid (w1.heap[p]? = some (.cells #[.int .i64 0, .int .i64 0] 30 (0, 0))) := (hnx1.block p (by have := HR.out; omega)).trans HP0.out
  have HB1 : Hid (Below w.heap.size w w1) := HB0.out.trans (hnx1.mono (by have := HR.out; have := Hp.out; omega))
  clear H HP0 HB0 hnx1
  go_wp2_with fail
  refine (someHomes_any R R 0 6 w1 hg1 (by omega) (by omega) (by omega)).mono ?_
  rintro e w2 ⟨v, zs, rfl, hl, hx, hown, hg2, hgb2⟩
  have Hlt2 : Hid (∀ b, v.ownBlock = some b → w1.heap.size ≤ b) := fun b e => (hown.lt b e).1
  obtain ⟨A2, c2, rfl, hc1, hc2, hrd⟩ := own_slice hown rfl
  obtain ⟨n2, Hn2⟩ : ∃ n2, Hid (zs.length = n2) := ⟨_, rfl⟩
  rw [Hn2.out] at hl hc1
  have HP2 : Hid (PIn w2 A2 c2 n2 zs) := ⟨hrd, Hn2.out, ⟨hc1, hc2⟩, by omega⟩
  have HA2 : Hid (∀ b off, A2 = some ⟨b, off, none⟩ → b ≠ R) := fun b off e => by have := Hlt2.out b (by rw [e]; rfl); omega
  have HA3 : Hid (∀ b off, A2 = some ⟨b, off, none⟩ → b ≠ p) := fun b off e => by have := Hlt2.out b (by rw [e]; rfl); have := HR.out; omega
  have HG2 := Lib.hid hg2
  have HK2 := Lib.hid (blk_kept HK1.out hgb2 hpR)
  have HB2 : Hid (Below w.heap.size w w2) := HB1.out.trans (gb_belowU hgb2 (by have := HR.out; have := Hp.out; omega) (Nat.le_of_lt hlt))
  have hs2 := HB2.out.size
  rw [Hn2.out]
  clear hg2 hgb2 hown hrd hx hg1 Hlt2 HK1 HB1
  go_wp2_with fail
  refine (oneLit R R (0 + 40) [2, 1, 3, 2, 0, 5, -1] 7 (-1) 5 w2 _ HG2.out (by omega) rfl (by omega) (by omega) rfl (by decide)).mono ?_
  rintro e w3 ⟨k, rfl, hk0, hk1, hg3, hgb3⟩
  have hG3 : Hid (GR w3 R R (0 + 40 + 20)) := hg3.more (by omega)
  have HP3 := Lib.hid (HP2.out.drawnU HA2.out hgb3)
  have HK3 := Lib.hid (blk_kept HK2.out hgb3 hpR)
  have HB3 : Hid (Below w.heap.size w w3) := HB2.out.trans (gb_belowU hgb3 (by have := HR.out; have := Hp.out; omega) (Nat.le_of_lt HG2.out.lt))
  clear hg3 hgb3 HP2 HB2 HG2 HK2
  go_wp2_with fail
  refine (aFar_any R R (0 + 40 + 20) w3 hG3.out (by omega)).mono ?_
  rintro e w4 ⟨far, rfl, hf0, hf1, hg4, hgr4⟩
  have HP4 := Lib.hid (HP3.out.drawnU HA2.out hgr4)
  have HK4 := Lib.hid (blk_kept HK3.out hgr4 hpR)
  have HG4 := Lib.hid hg4
  have HB4 : Hid (Below w.heap.size w w4) := HB3.out.trans (gb_belowU hgr4 (by have := HR.out; have := Hp.out; omega) (Nat.le_of_lt hG3.out.lt))
  clear HP3 HB3 hG3 hg4 hgr4 HK3
  go_wp2_with fail
  refine (aChance_any R R (0 + 40 + 20 + 1) w4 HG4.out (by omega)).mono ?_
  rintro e w5 ⟨u, d, rfl, hu, hd, hG5, hgr5⟩
  have HP5 := Lib.hid (HP4.out.drawnU HA2.out hgr5.out)
  have HK5 := Lib.hid (blk_kept HK4.out hgr5.out hpR)
  have HB5 : Hid (Below w.heap.size w w5) := HB4.out.trans (gb_belowU hgr5.out (by have := HR.out; have := Hp.out; omega) (Nat.le_of_lt HG4.out.lt))
  clear HP4 HB4 HG4 hgr5 HK4 hG5
  obtain ⟨c0, c1, f0, f1⟩ := struct_at HK5.out
  have HK7 := Lib.hid (struct_set HK5.out (.int .i64 u))
  obtain ⟨d0, d1, j0, j1⟩ := struct_at HK7.out
  obtain ⟨e0, e1⟩ := set_struct HK5.out (.int .i64 u) (.int .i64 d)
  have hpw : w.heap.size ≤ p := by have := Hp.out; omega
  have HB7 : Hid (Below w.heap.size w ((w5.setCell ⟨p, 0, none⟩ (.int .i64 u)).setCell ⟨p, 1, none⟩ (.int .i64 d))) := (HB5.out.setCell hpw _).setCell hpw _
  have HP7 : Hid (PIn ((w5.setCell ⟨p, 0, none⟩ (.int .i64 u)).setCell ⟨p, 1, none⟩ (.int .i64 d)) A2 c2 n2 zs) := (HP5.out.drawnU HA3.out (grownBy_setU _ _ _)).drawnU HA3.out (grownBy_setU _ _ _)
  clear HP5 HB5 HK5 HK7 HA2 HA3
  go_wp2
  exact bodyPost_ret (v := .tuple #[.slice A2 n2 c2, .int .i64 k, .int .i64 far, .agg #[.int .i64 u, .int .i64 d]]) (by simp [results, Try.results21, go_sem, e0, e1]) rfl ⟨A2, c2, n2, zs, k, far, u, d, rfl, hl, ⟨hk0, hk1⟩, ⟨hf0, hf1⟩, ⟨hu, hd⟩, HP7, HB7⟩
set_option maxHeartbeats 3200000 in
theorem drawGreedySpread_any (A : Option Addr) (c n : Nat) (bs : List Int) (w : World) (hr : RdB w w.heap.size A bs) (hn : bs.length = n) (hc : n ≤ c) (hm : c ≤ 9223372036854775807) :
    Calls Try.prog 25 #[.slice A n c] w (DrawnS w) := by
  go_enter Try.func25, Try.ntmps25
  go_wp2_with fail
  obtain ⟨p, Hp⟩ : ∃ p, Hid (w.heap.size = p) := ⟨_, rfl⟩
  obtain ⟨W0, HW0⟩ : ∃ W0, Hid (w.alloc (.cells #[.int .i64 0, .int .i64 0] 30) = W0) := ⟨_, rfl⟩
  have HB0 : Hid (Below w.heap.size w W0) := by rw [← HW0.out]; exact (Below.refl _ _).alloc (Nat.le_refl _) _
  have hs0 : W0.heap.size = p + 1 := by rw [← HW0.out, size_alloc1, Hp.out]
  have HP0 : Hid (W0.heap[p]? = some (.cells #[.int .i64 0, .int .i64 0] 30 (0, 0))) := by rw [← HW0.out, ← Hp.out]; exact heap_alloc_new _ _
  have H := Lib.hid (newReader_any A c n bs W0 ((hr.below HB0.out).more HB0.out.size) hn hc hm)
  obtain ⟨R, HR⟩ : ∃ R, Hid (p + 1 = R) := ⟨_, rfl⟩
  rw [HR.out] at hs0
  unfold MadeReader at H
  rw [hs0] at H
  rw [HW0.out, Hp.out]
  have hpR : p ≠ R := by have := HR.out; omega
  clear hn hr
  refine H.out.mono ?_
  rintro e w1 ⟨rfl, hg1, hnx1⟩
  have hlt := hg1.lt
  have HK1 : Hid (w1.heap[p]? = some (.cells #[.int .i64 0, .int .i64 0] 30 (0, 0))) := (hnx1.block p (by have := HR.out; omega)).trans HP0.out
  have HB1 : Hid (Below w.heap.size w w1) := HB0.out.trans (hnx1.mono (by have := HR.out; have := Hp.out; omega))
  clear H HP0 HB0 hnx1
  go_wp2_with fail
  refine (someHomes_any R R 0 6 w1 hg1 (by omega) (by omega) (by omega)).mono ?_
  rintro e w2 ⟨v, zs, rfl, hl, hx, hown, hg2, hgb2⟩
  have Hlt2 : Hid (∀ b, v.ownBlock = some b → w1.heap.size ≤ b) := fun b e => (hown.lt b e).1
  obtain ⟨A2, c2, rfl, hc1, hc2, hrd⟩ := own_slice hown rfl
  obtain ⟨n2, Hn2⟩ : ∃ n2, Hid (zs.length = n2) := ⟨_, rfl⟩
  rw [Hn2.out] at hl hc1
  have HP2 : Hid (PIn w2 A2 c2 n2 zs) := ⟨hrd, Hn2.out, ⟨hc1, hc2⟩, by omega⟩
  have HA2 : Hid (∀ b off, A2 = some ⟨b, off, none⟩ → b ≠ R) := fun b off e => by have := Hlt2.out b (by rw [e]; rfl); omega
  have HA3 : Hid (∀ b off, A2 = some ⟨b, off, none⟩ → b ≠ p) := fun b off e => by have := Hlt2.out b (by rw [e]; rfl); have := HR.out; omega
  have HG2 := Lib.hid hg2
  have HK2 := Lib.hid (blk_kept HK1.out hgb2 hpR)
  have HB2 : Hid (Below w.heap.size w w2) := HB1.out.trans (gb_belowU hgb2 (by have := HR.out; have := Hp.out; omega) (Nat.le_of_lt hlt))
  have hs2 := HB2.out.size
  rw [Hn2.out]
  clear hg2 hgb2 hown hrd hx hg1 Hlt2 HK1 HB1
  go_wp2_with fail
  refine (oneLit R R (0 + 40) [2, 1, 3, 2, 0, 5, -1] 7 (-1) 5 w2 _ HG2.out (by omega) rfl (by omega) (by omega) rfl (by decide)).mono ?_
  rintro e w3 ⟨k, rfl, hk0, hk1, hg3, hgb3⟩
  have hG3 : Hid (GR w3 R R (0 + 40 + 20)) := hg3.more (by omega)
  have HP3 := Lib.hid (HP2.out.drawnU HA2.out hgb3)
  have HK3 := Lib.hid (blk_kept HK2.out hgb3 hpR)
  have HB3 : Hid (Below w.heap.size w w3) := HB2.out.trans (gb_belowU hgb3 (by have := HR.out; have := Hp.out; omega) (Nat.le_of_lt HG2.out.lt))
  clear hg3 hgb3 HP2 HB2 HG2 HK2
  go_wp2_with fail
  refine (aFar_any R R (0 + 40 + 20) w3 hG3.out (by omega)).mono ?_
  rintro e w4 ⟨far, rfl, hf0, hf1, hg4, hgr4⟩
  have HP4 := Lib.hid (HP3.out.drawnU HA2.out hgr4)
  have HK4 := Lib.hid (blk_kept HK3.out hgr4 hpR)
  have HG4 := Lib.hid hg4
  have HB4 : Hid (Below w.heap.size w w4) := HB3.out.trans (gb_belowU hgr4 (by have := HR.out; have := Hp.out; omega) (Nat.le_of_lt hG3.out.lt))
  clear HP3 HB3 hG3 hg4 hgr4 HK3
  go_wp2_with fail
  refine (aChance_any R R (0 + 40 + 20 + 1) w4 HG4.out (by omega)).mono ?_
  rintro e w5 ⟨u, d, rfl, hu, hd, hG5, hgr5⟩
  have HP5 := Lib.hid (HP4.out.drawnU HA2.out hgr5.out)
  have HK5 := Lib.hid (blk_kept HK4.out hgr5.out hpR)
  have HB5 : Hid (Below w.heap.size w w5) := HB4.out.trans (gb_belowU hgr5.out (by have := HR.out; have := Hp.out; omega) (Nat.le_of_lt HG4.out.lt))
  clear HP4 HB4 HG4 hgr5 HK4 hG5
  obtain ⟨c0, c1, f0, f1⟩ := struct_at HK5.out
  have HK7 := Lib.hid (struct_set HK5.out (.int .i64 u))
  obtain ⟨d0, d1, j0, j1⟩ := struct_at HK7.out
  obtain ⟨e0, e1⟩ := set_struct HK5.out (.int .i64 u) (.int .i64 d)
  have hpw : w.heap.size ≤ p := by have := Hp.out; omega
  have HB7 : Hid (Below w.heap.size w ((w5.setCell ⟨p, 0, none⟩ (.int .i64 u)).setCell ⟨p, 1, none⟩ (.int .i64 d))) := (HB5.out.setCell hpw _).setCell hpw _
  have HP7 : Hid (PIn ((w5.setCell ⟨p, 0, none⟩ (.int .i64 u)).setCell ⟨p, 1, none⟩ (.int .i64 d)) A2 c2 n2 zs) := (HP5.out.drawnU HA3.out (grownBy_setU _ _ _)).drawnU HA3.out (grownBy_setU _ _ _)
  clear HP5 HB5 HK5 HK7 HA2 HA3
  go_wp2
  exact bodyPost_ret (v := .tuple #[.slice A2 n2 c2, .int .i64 k, .int .i64 far, .agg #[.int .i64 u, .int .i64 d]]) (by simp [results, Try.results25, go_sem, e0, e1]) rfl ⟨A2, c2, n2, zs, k, far, u, d, rfl, hl, ⟨hk0, hk1⟩, ⟨hf0, hf1⟩, ⟨hu, hd⟩, HP7, HB7⟩
end Go.Proofs.Ythphboeboiallab
