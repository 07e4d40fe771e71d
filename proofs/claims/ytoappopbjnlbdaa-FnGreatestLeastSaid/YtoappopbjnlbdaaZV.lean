/-
  The drawn arguments of chapter 8's laws; the laws' backwards, greatestOf and total.
  Conditions: none beyond what each theorem states.
-/
import Derived.Test.YtoappopbjnlbdaaZU
import Derived.Test.YtoappopbjnlbdaaZT
namespace Go.Proofs.Ytoappopbjnlbdaa
open Go.ChangeShapes Go.WideShapes Go.ChangeAt Go.RowKit
set_option linter.unusedVariables false
set_option maxRecDepth 4000

theorem gb_belowZ {R B : Nat} {a b : World} (h : a.grownBy b (some R)) (hB : B ≤ R) (hR : R ≤ a.heap.size) : Below B a b :=
  ⟨h.os, h.tape, h.output, h.size, fun i hi => h.block i (by omega) (by intro e; injection e with e; omega)⟩
theorem LIn.drawn {w w' : World} {R : Nat} {A : Option Addr} {c m : Nat} {zs : List Int} (h : LIn w A c m zs) (hA : ∀ b off, A = some ⟨b, off, none⟩ → b ≠ R) (hg : w.grownBy w' (some R)) : LIn w' A c m zs := by
  refine ⟨fun hp => ?_, h.len, h.cap, h.most⟩
  obtain ⟨b, off, e, hb, hc⟩ := h.rd hp
  exact ⟨b, off, e, Nat.lt_of_lt_of_le hb hg.size, fun i hi => (World.cell?_of_block (hg.block b hb (fun e' => hA b off e (by injection e')))).trans (hc i hi)⟩
def DrawnW (w : World) (e : Ending) (w' : World) : Prop :=
  ∃ A c m, ∃ zs : List Int, e = .returned (.slice A m c) ∧ m ≤ 10 ∧ Hid (LIn w' A c m zs) ∧ Hid (Below w.heap.size w w')
def DrawnW2 (w : World) (e : Ending) (w' : World) : Prop :=
  ∃ A c m, ∃ zs : List Int, ∃ k : Int, e = .returned (.tuple #[.slice A m c, .int .i64 k]) ∧ m ≤ 10 ∧ -1 ≤ k ∧ k ≤ 1001 ∧ Hid (LIn w' A c m zs) ∧ Hid (Below w.heap.size w w')

theorem drawValidWards_any (A : Option Addr) (c n : Nat) (bs : List Int) (w : World) (hr : RdB w w.heap.size A bs) (hn : bs.length = n) (hc : n ≤ c) (hm : c ≤ 9223372036854775807) :
    Calls Try.prog 16 #[.slice A n c] w (DrawnW w) := by
  have H := Lib.hid (newReader_any A c n bs w hr hn hc hm)
  clear hn
  go_enter Try.func16, Try.ntmps16
  go_wp2_with fail
  refine H.out.mono ?_
  rintro e w1 ⟨rfl, hg1, hnx1⟩
  have hlt := hg1.lt
  go_wp2_with fail
  refine (someWards_any w.heap.size w.heap.size 0 w1 hg1 (by omega)).mono ?_
  rintro e w2 ⟨A2, c2, m, zs, rfl, hm10, hin, -, hb⟩
  have Hb : Hid (Below w.heap.size w w2) := hnx1.trans (gb_belowZ hb.out (Nat.le_refl _) (Nat.le_of_lt hlt))
  have Hin : Hid (LIn w2 A2 c2 m zs) := hin.out.1
  clear hb hin
  go_wp2
  go_ret
  exact ⟨A2, c2, m, zs, rfl, hm10, Hin, Hb⟩

set_option maxHeartbeats 800000 in
theorem drawFewestWards_any (A : Option Addr) (c n : Nat) (bs : List Int) (w : World) (hr : RdB w w.heap.size A bs) (hn : bs.length = n) (hc : n ≤ c) (hm : c ≤ 9223372036854775807) :
    Calls Try.prog 20 #[.slice A n c] w (DrawnW2 w) := by
  have H := Lib.hid (newReader_any A c n bs w hr hn hc hm)
  clear hn
  go_enter Try.func20, Try.ntmps20
  go_wp2_with fail
  refine H.out.mono ?_
  rintro e w1 ⟨rfl, hg1, hnx1⟩
  have hlt := hg1.lt
  go_wp2_with fail
  refine (someWards_any w.heap.size w.heap.size 0 w1 hg1 (by omega)).mono ?_
  rintro e w2 ⟨A2, c2, m, zs, rfl, hm10, hin, hg2, hb⟩
  have HB2 : Hid (Below w.heap.size w w2) := hnx1.trans (gb_belowZ hb.out (Nat.le_refl _) (Nat.le_of_lt hlt))
  have HA : Hid (∀ b off, A2 = some ⟨b, off, none⟩ → b ≠ w.heap.size) := fun b off e => by have := hin.out.2 b off e; omega
  have HI2 : Hid (LIn w2 A2 c2 m zs) := hin.out.1
  clear hb hin
  go_wp2_with fail
  refine (oneLitAt _ w.heap.size w.heap.size (0 + 40) [8, 10, 5, 20, 12, 3, 0, 1000, 1001, -1] 10 (-1) 1001 _ _ hg2.out (by omega) rfl (by omega) (by omega) rfl (by decide) rfl).mono ?_
  rintro e w3 ⟨l, rfl, hl0, hl1, -, hgr⟩
  have HI3 : Hid (LIn w3 A2 c2 m zs) := HI2.out.drawn HA.out hgr
  have HB3 : Hid (Below w.heap.size w w3) := HB2.out.trans (gb_belowZ (B := w.heap.size) hgr (Nat.le_refl _) (Nat.le_of_lt hg2.out.lt))
  clear hgr
  go_wp2
  go_ret2
  exact ⟨A2, c2, m, zs, l, rfl, hm10, by omega, by omega, HI3, HB3⟩

set_option maxHeartbeats 800000 in
theorem drawFirstCuts_any (A : Option Addr) (c n : Nat) (bs : List Int) (w : World) (hr : RdB w w.heap.size A bs) (hn : bs.length = n) (hc : n ≤ c) (hm : c ≤ 9223372036854775807) :
    Calls Try.prog 35 #[.slice A n c] w (DrawnW2 w) := by
  have H := Lib.hid (newReader_any A c n bs w hr hn hc hm)
  clear hn
  go_enter Try.func35, Try.ntmps35
  go_wp2_with fail
  refine H.out.mono ?_
  rintro e w1 ⟨rfl, hg1, hnx1⟩
  have hlt := hg1.lt
  go_wp2_with fail
  refine (someWards_any w.heap.size w.heap.size 0 w1 hg1 (by omega)).mono ?_
  rintro e w2 ⟨A2, c2, m, zs, rfl, hm10, hin, hg2, hb⟩
  have HB2 : Hid (Below w.heap.size w w2) := hnx1.trans (gb_belowZ hb.out (Nat.le_refl _) (Nat.le_of_lt hlt))
  have HA : Hid (∀ b off, A2 = some ⟨b, off, none⟩ → b ≠ w.heap.size) := fun b off e => by have := hin.out.2 b off e; omega
  have HI2 : Hid (LIn w2 A2 c2 m zs) := hin.out.1
  clear hb hin
  go_wp2_with fail
  refine (oneLitAt _ w.heap.size w.heap.size (0 + 40) [8, 10, 5, 20, 12, 3, 0, 1000, 1001, -1] 10 (-1) 1001 _ _ hg2.out (by omega) rfl (by omega) (by omega) rfl (by decide) rfl).mono ?_
  rintro e w3 ⟨l, rfl, hl0, hl1, -, hgr⟩
  have HI3 : Hid (LIn w3 A2 c2 m zs) := HI2.out.drawn HA.out hgr
  have HB3 : Hid (Below w.heap.size w w3) := HB2.out.trans (gb_belowZ (B := w.heap.size) hgr (Nat.le_refl _) (Nat.le_of_lt hg2.out.lt))
  clear hgr
  go_wp2
  go_ret2
  exact ⟨A2, c2, m, zs, l, rfl, hm10, by omega, by omega, HI3, HB3⟩

set_option maxHeartbeats 800000 in
theorem drawLeastGreatest_any (A : Option Addr) (c n : Nat) (bs : List Int) (w : World) (hr : RdB w w.heap.size A bs) (hn : bs.length = n) (hc : n ≤ c) (hm : c ≤ 9223372036854775807) :
    Calls Try.prog 24 #[.slice A n c] w (DrawnW2 w) := by
  have H := Lib.hid (newReader_any A c n bs w hr hn hc hm)
  clear hn
  go_enter Try.func24, Try.ntmps24
  go_wp2_with fail
  refine H.out.mono ?_
  rintro e w1 ⟨rfl, hg1, hnx1⟩
  have hlt := hg1.lt
  go_wp2_with fail
  refine (someWards_any w.heap.size w.heap.size 0 w1 hg1 (by omega)).mono ?_
  rintro e w2 ⟨A2, c2, m, zs, rfl, hm10, hin, hg2, hb⟩
  have HB2 : Hid (Below w.heap.size w w2) := hnx1.trans (gb_belowZ hb.out (Nat.le_refl _) (Nat.le_of_lt hlt))
  have HA : Hid (∀ b off, A2 = some ⟨b, off, none⟩ → b ≠ w.heap.size) := fun b off e => by have := hin.out.2 b off e; omega
  have HI2 : Hid (LIn w2 A2 c2 m zs) := hin.out.1
  clear hb hin
  go_wp2_with fail
  refine (helpers_any w.heap.size w.heap.size (0 + 40) w2 hg2.out (by omega)).mono ?_
  rintro e w3 ⟨l, rfl, hl0, hl1, -, hgr⟩
  have HI3 : Hid (LIn w3 A2 c2 m zs) := HI2.out.drawn HA.out hgr
  have HB3 : Hid (Below w.heap.size w w3) := HB2.out.trans (gb_belowZ (B := w.heap.size) hgr (Nat.le_refl _) (Nat.le_of_lt hg2.out.lt))
  clear hgr
  go_wp2
  go_ret2
  exact ⟨A2, c2, m, zs, l, rfl, hm10, by omega, by omega, HI3, HB3⟩

set_option maxHeartbeats 800000 in
theorem drawGreatestByParts_any (A : Option Addr) (c n : Nat) (bs : List Int) (w : World) (hr : RdB w w.heap.size A bs) (hn : bs.length = n) (hc : n ≤ c) (hm : c ≤ 9223372036854775807) :
    Calls Try.prog 30 #[.slice A n c] w (DrawnW2 w) := by
  have H := Lib.hid (newReader_any A c n bs w hr hn hc hm)
  clear hn
  go_enter Try.func30, Try.ntmps30
  go_wp2_with fail
  refine H.out.mono ?_
  rintro e w1 ⟨rfl, hg1, hnx1⟩
  have hlt := hg1.lt
  go_wp2_with fail
  refine (someWards_any w.heap.size w.heap.size 0 w1 hg1 (by omega)).mono ?_
  rintro e w2 ⟨A2, c2, m, zs, rfl, hm10, hin, hg2, hb⟩
  have HB2 : Hid (Below w.heap.size w w2) := hnx1.trans (gb_belowZ hb.out (Nat.le_refl _) (Nat.le_of_lt hlt))
  have HA : Hid (∀ b off, A2 = some ⟨b, off, none⟩ → b ≠ w.heap.size) := fun b off e => by have := hin.out.2 b off e; omega
  have HI2 : Hid (LIn w2 A2 c2 m zs) := hin.out.1
  clear hb hin
  go_wp2_with fail
  refine (helpers_any w.heap.size w.heap.size (0 + 40) w2 hg2.out (by omega)).mono ?_
  rintro e w3 ⟨l, rfl, hl0, hl1, -, hgr⟩
  have HI3 : Hid (LIn w3 A2 c2 m zs) := HI2.out.drawn HA.out hgr
  have HB3 : Hid (Below w.heap.size w w3) := HB2.out.trans (gb_belowZ (B := w.heap.size) hgr (Nat.le_refl _) (Nat.le_of_lt hg2.out.lt))
  clear hgr
  go_wp2
  go_ret2
  exact ⟨A2, c2, m, zs, l, rfl, hm10, by omega, by omega, HI3, HB3⟩

set_option maxHeartbeats 800000 in
theorem drawGreatestLeast_any (A : Option Addr) (c n : Nat) (bs : List Int) (w : World) (hr : RdB w w.heap.size A bs) (hn : bs.length = n) (hc : n ≤ c) (hm : c ≤ 9223372036854775807) :
    Calls Try.prog 32 #[.slice A n c] w (DrawnW2 w) := by
  have H := Lib.hid (newReader_any A c n bs w hr hn hc hm)
  clear hn
  go_enter Try.func32, Try.ntmps32
  go_wp2_with fail
  refine H.out.mono ?_
  rintro e w1 ⟨rfl, hg1, hnx1⟩
  have hlt := hg1.lt
  go_wp2_with fail
  refine (someWards_any w.heap.size w.heap.size 0 w1 hg1 (by omega)).mono ?_
  rintro e w2 ⟨A2, c2, m, zs, rfl, hm10, hin, hg2, hb⟩
  have HB2 : Hid (Below w.heap.size w w2) := hnx1.trans (gb_belowZ hb.out (Nat.le_refl _) (Nat.le_of_lt hlt))
  have HA : Hid (∀ b off, A2 = some ⟨b, off, none⟩ → b ≠ w.heap.size) := fun b off e => by have := hin.out.2 b off e; omega
  have HI2 : Hid (LIn w2 A2 c2 m zs) := hin.out.1
  clear hb hin
  go_wp2_with fail
  refine (helpers_any w.heap.size w.heap.size (0 + 40) w2 hg2.out (by omega)).mono ?_
  rintro e w3 ⟨l, rfl, hl0, hl1, -, hgr⟩
  have HI3 : Hid (LIn w3 A2 c2 m zs) := HI2.out.drawn HA.out hgr
  have HB3 : Hid (Below w.heap.size w w3) := HB2.out.trans (gb_belowZ (B := w.heap.size) hgr (Nat.le_refl _) (Nat.le_of_lt hg2.out.lt))
  clear hgr
  go_wp2
  go_ret2
  exact ⟨A2, c2, m, zs, l, rfl, hm10, by omega, by omega, HI3, HB3⟩

/-! ### the laws' own small functions -/
/-- A row of ints that is read only. -/
def RowAt (xs : List Int) (L : Nat) (w : World) (e : Ending) (w' : World) : Prop := ∃ A' c', e = .returned (.slice A' L c') ∧ Hid (LIn w' A' c' L xs) ∧ Hid (Below w.heap.size w w')
theorem rowAt_own {xs : List Int} {L : Nat} {w w' : World} {v : Value} (hL : xs.length = L) (hm : L ≤ 1048576) (hO : w'.ownsRow w.heap.size 3 1 v L (xs.map (Value.int .i64))) (hB : Below w.heap.size w w') : RowAt xs L w (.returned v) w' := by
  obtain ⟨A2, c2, rfl, hc, hmx, hrd⟩ := own_slice hO hL
  exact ⟨A2, c2, rfl, ⟨hrd, hL, ⟨hc, hmx⟩, hm⟩, hB⟩
theorem rev_push {zs : List Int} {j m : Nat} (hm : zs.length = m) (hj : j < m) : (zs.drop (j + 1)).reverse ++ [zs.getD j 0] = (zs.drop j).reverse := by
  rw [List.drop_eq_getElem_cons (show j < zs.length by omega), List.reverse_cons]
  simp [List.getD, List.getElem?_eq_getElem (show j < zs.length by omega)]
def BwRel (m : Nat) (zs : List Int) (w : World) (o i : Value) (wr : World) : Prop :=
  ∃ j g c L : Nat, j ≤ m ∧ L + j = m ∧ o = .slice (some ⟨g, 0, none⟩) L c ∧ i = .int .i64 ((j : Int) - 1) ∧ Hid (OwnZ wr w.heap.size g c L (zs.drop j).reverse) ∧ Hid (Below w.heap.size w wr)
set_option maxHeartbeats 800000 in
theorem backwards_any (A : Option Addr) (c m : Nat) (zs : List Int) (w : World) (h : LIn w A c m zs) (hm : m ≤ 1000) :
    Calls Try.prog 19 #[.slice A m c] w (RowAt zs.reverse m w) := by
  obtain ⟨i0, hi0, hz0, hz1, hz2⟩ := info_parts intInfo
  have Hn := Lib.hid h.len
  have HR := Lib.hid h.rd
  have HO0 : Hid (OwnZ (w.alloc (.cells #[] 3)) w.heap.size w.heap.size 0 0 (zs.drop m).reverse) := by
    show OwnZ _ _ _ _ _ _
    rw [List.drop_of_length_le (by rw [Hn.out]; omega)]
    exact ⟨rfl, World.ownsRow_lit w #[] 0 (Nat.le_refl _) (by decide) rfl⟩
  have HB0 : Hid (Below w.heap.size w (w.alloc (.cells #[] 3))) := (Below.refl _ _).alloc (Nat.le_refl _) _
  clear h
  go_enter Try.func19, Try.ntmps19
  go_wp2
  go_loopw [3, 4] (fun o i wr => BwRel m zs w o i wr) (fun _ i _ => (intOf i + 1).toNat)
  case atStart => exact ⟨m, _, _, 0, by omega, by omega, rfl, rfl, HO0, HB0⟩
  case round =>
    clear HO0 HB0
    obtain ⟨j, g, c2, L, hj, hL, rfl, rfl, HO, HB⟩ := hrel
    by_cases hpos : 0 < j
    · obtain ⟨i, rfl⟩ : ∃ i, j = i + 1 := ⟨j - 1, by omega⟩
      obtain ⟨b, off, x, rfl, hbw, Hx, hcx⟩ := (HR.out.below HB.out).x (k := i) (by rw [Hn.out]; omega)
      have hic : ((i + 1 : Nat) : Int) - 1 = (i : Int) := by omega
      rw [hic]
      have Hlen := Lib.hid HO.out.1
      have Hown := Lib.hid HO.out.2
      have hsz : L + 1 ≤ maxLen := by unfold maxLen; omega
      have hsz2 : (L + 1) * 8 ≤ 140737488355328 := by omega
      have hsz3 : w.heap.size ≤ (wr.alloc (.cells #[.int .i64 x] 3)).heap.size := by rw [size_alloc1]; have := HB.out.size; omega
      clear hic
      go_wp2_with (at_builtin; refine wpList_append_lies _ rfl _ _ 23 rfl w.heap.size 3 i0 _ 1 8 Try.underlying23 hi0 hz0 hz1 hz2 rfl (by decide) _ _ _ rfl (Hown.out.alloc _) ⟨wr.heap.size, 0, none⟩ 1 1 [.int .i64 x] rfl rfl (cell_one_new _ _ _) (by intro u hu; simp at hu; subst hu; rfl) (by decide) hsz hsz2 hsz3 _ rfl ?_; intro g3 c3 w3 hown3 hgrow3 hat3 hlt3)
      have HO3 : Hid (OwnZ w3 w.heap.size g3 c3 (L + 1) (zs.drop i).reverse) := by
        show OwnZ _ _ _ _ _ _
        rw [← rev_push Hn.out (show i < m by omega), Hx.out]
        exact ownZ_push Hlen.out hown3
      have HB3 : Hid (Below w.heap.size w w3) := (HB.out.alloc HB.out.size _).grown hgrow3 hsz3 (fun q hq => (Hown.out.lt q hq).1)
      clear hown3 hgrow3 hat3 hlt3 Hown HO HB hsz hsz2 hsz3 hcx
      go_wp2
      go_roundw
      case rel => exact ⟨i, g3, c3, L + 1, by omega, by omega, rfl, by go_num, HO3, HB3⟩
      case measure => first | (simp [intOf]; done) | (simp [intOf]; omega)
    · obtain rfl : j = 0 := by omega
      obtain rfl : L = m := by omega
      have hown := HO.out.2
      have hlen := HO.out.1
      rw [List.drop_zero] at hown hlen
      have HE : Hid (RowAt zs.reverse L w (.returned (.slice (some ⟨g, 0, none⟩) L c2)) wr) := rowAt_own hlen (by omega) hown HB.out
      clear HO hown hlen
      go_wp2
      go_ret
      exact HE.out
set_option maxHeartbeats 800000 in
theorem greatestOf_any (A : Option Addr) (c n : Nat) (gs : List Int) (w : World) (B : Nat) (hr : RdI w B A gs) (hn : gs.length = n) (hb : n ≤ 1048576) :
    Calls Try.prog 28 #[.slice A n c] w fun e w' => e = .returned (.int .i64 (gM gs)) ∧ w = w' := by
  have Hn := Lib.hid hn
  have HR := Lib.hid hr
  have HE : Hid (gM (gs.take n) = gM gs) := by show _ = _; rw [← hn, List.take_length]
  clear hn hr
  go_enter Try.func28, Try.ntmps28
  go_wp2
  go_loop [3, 4] (fun a i => ∃ k : Nat, ∃ g : Int, k ≤ n ∧ a = .int .i64 g ∧ Hid (gM (gs.take k) = g) ∧ i = .int .i64 k) (fun _ i => n - (intOf i).toNat)
  case atStart => exact ⟨0, 0, by omega, rfl, rfl, rfl⟩
  case round =>
    obtain ⟨k, g, hk, rfl, Hg, rfl⟩ := hrel
    by_cases hlt : k < n
    · obtain ⟨b, off, y, rfl, -, Hy, hcy⟩ := HR.out.x (k := k) (by rw [Hn.out]; exact hlt)
      have Hs : Hid (gM (gs.take (k + 1)) = if g < y then y else g) := by show _ = _; rw [take_snoc (by rw [Hn.out]; exact hlt), gM_snoc, Hg.out, Hy.out]; split <;> omega
      go_wp2
      all_goals
        go_round
        case rel => exact ⟨k + 1, _, by omega, rfl, by show _ = _; rw [Hs.out]; try (split <;> omega), by go_num⟩
        case measure => simp [intOf]; omega
    · obtain rfl : k = n := by omega
      go_wp2
      go_ret
      exact ⟨ret_int (by rw [← HE.out]; exact Hg.out.symm), rfl⟩
set_option maxHeartbeats 800000 in
theorem lTotal_any (A : Option Addr) (c n : Nat) (zs : List Int) (w : World) (B : Nat) (hr : RdI w B A zs) (hn : zs.length = n) (h10 : n ≤ 10) (hz : P20 zs) :
    Calls Try.prog 29 #[.slice A n c] w fun e w' => e = .returned (.int .i64 (sm zs)) ∧ w = w' := by
  have Hn := Lib.hid hn
  have Hz := Lib.hid hz
  have HE : Hid (sm (zs.take n) = sm zs) := by show _ = _; rw [← hn, List.take_length]
  have HB : Hid (∀ k, k ≤ n → 0 ≤ sm (zs.take k) ∧ sm (zs.take k) ≤ 200) := fun k hk => (hz.take k).bd (by rw [List.length_take]; omega)
  clear hn hz
  go_enter Try.func29, Try.ntmps29
  go_wp2
  go_loop [3, 4] (fun a i => ∃ k : Nat, ∃ g : Int, k ≤ n ∧ a = .int .i64 g ∧ Hid (sm (zs.take k) = g) ∧ i = .int .i64 k) (fun _ i => n - (intOf i).toNat)
  case atStart => exact ⟨0, 0, Nat.zero_le _, rfl, by show _ = _; simp [sm], rfl⟩
  case round =>
    obtain ⟨k, g, hk, rfl, Hg, rfl⟩ := hrel
    by_cases hlt : k < n
    · obtain ⟨b, off, x, rfl, hbw, Hx, hc⟩ := hr.x (k := k) (by rw [Hn.out]; exact hlt)
      have h1 := HB.out k hk
      have h2 := Hz.out _ (getD_mem (zs := zs) (k := k) (by rw [Hn.out]; exact hlt))
      rw [Hx.out] at h2
      rw [Hg.out] at h1
      have Ha2 : Hid (sm (zs.take (k + 1)) = g + x) := by show _ = _; rw [take_snoc (by rw [Hn.out]; exact hlt), sm_app, sm_one, Hg.out, Hx.out]
      have hw : IntKind.i64.wrap (g + x) = g + x := IntWalk.i64_in _ (by omega)
      go_wp2
      go_round
      case rel => exact ⟨k + 1, g + x, by omega, rfl, Ha2, by go_num⟩
      case measure => simp [intOf]; omega
    · obtain rfl : k = n := by omega
      go_wp2
      go_ret
      exact ⟨ret_int (by rw [← HE.out]; exact Hg.out.symm), rfl⟩

end Go.Proofs.Ytoappopbjnlbdaa
