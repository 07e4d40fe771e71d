/-
  The drawn arguments of chapter 7's laws; the laws' backwards and greatestOf.
  Conditions: none beyond what each theorem states.
-/
import Derived.Test.YtdkonaaoanggiaaYP
import Derived.Test.YtdkonaaoanggiaaYG
import Derived.Test.YtdkonaaoanggiaaLR
import Derived.Test.YtdkonaaoanggiaaE0
namespace Go.Proofs.Ytdkonaaoanggiaa
open Go.ChangeShapes Go.WideShapes Go.ChangeAt Go.RowKit
set_option linter.unusedVariables false
set_option maxRecDepth 4000

theorem gb_belowY {R B : Nat} {a b : World} (h : a.grownBy b (some R)) (hB : B ≤ R) (hR : R ≤ a.heap.size) : Below B a b :=
  ⟨h.os, h.tape, h.output, h.size, fun i hi => h.block i (by omega) (by intro e; injection e with e; omega)⟩
def DrawnRound (w : World) (e : Ending) (w' : World) : Prop :=
  ∃ n A c m, ∃ zs : List Int, e = .returned (.tuple #[.int .i64 n, .slice A m c]) ∧ (1 ≤ m ∧ m ≤ 20) ∧ Hid (RoundIn w' A c m zs) ∧ Hid (Below w.heap.size w w')

theorem drawValidRound_any (A : Option Addr) (c n : Nat) (bs : List Int) (w : World) (hr : RdB w w.heap.size A bs) (hn : bs.length = n) (hc : n ≤ c) (hm : c ≤ 9223372036854775807) :
    Calls Try.prog 17 #[.slice A n c] w (DrawnRound w) := by
  have H := Lib.hid (newReader_any A c n bs w hr hn hc hm)
  clear hn
  go_enter Try.func17, Try.ntmps17
  go_wp2_with fail
  refine H.out.mono ?_
  rintro e w1 ⟨rfl, hg1, hnx1⟩
  have hlt := hg1.lt
  go_wp2_with fail
  refine (someRound_any w.heap.size w.heap.size 0 w1 hg1 (by omega)).mono ?_
  rintro e w2 ⟨n1, A2, c2, m, zs, rfl, hm20, hin, -, hb⟩
  have Hb : Hid (Below w.heap.size w w2) := hnx1.trans (gb_belowY hb.out (Nat.le_refl _) (Nat.le_of_lt hlt))
  have Hin : Hid (RoundIn w2 A2 c2 m zs) := hin.out.1
  clear hb hin
  go_wp2
  go_ret2
  exact ⟨n1, A2, c2, m, zs, rfl, hm20, Hin, Hb⟩

theorem drawVisitsOf_any (A : Option Addr) (c n : Nat) (bs : List Int) (w : World) (hr : RdB w w.heap.size A bs) (hn : bs.length = n) (hc : n ≤ c) (hm : c ≤ 9223372036854775807) :
    Calls Try.prog 21 #[.slice A n c] w (DrawnRound w) := by
  have H := Lib.hid (newReader_any A c n bs w hr hn hc hm)
  clear hn
  go_enter Try.func21, Try.ntmps21
  go_wp2_with fail
  refine H.out.mono ?_
  rintro e w1 ⟨rfl, hg1, hnx1⟩
  have hlt := hg1.lt
  go_wp2_with fail
  refine (someRound_any w.heap.size w.heap.size 0 w1 hg1 (by omega)).mono ?_
  rintro e w2 ⟨n1, A2, c2, m, zs, rfl, hm20, hin, -, hb⟩
  have Hb : Hid (Below w.heap.size w w2) := hnx1.trans (gb_belowY hb.out (Nat.le_refl _) (Nat.le_of_lt hlt))
  have Hin : Hid (RoundIn w2 A2 c2 m zs) := hin.out.1
  clear hb hin
  go_wp2
  go_ret2
  exact ⟨n1, A2, c2, m, zs, rfl, hm20, Hin, Hb⟩

theorem drawGapsOf_any (A : Option Addr) (c n : Nat) (bs : List Int) (w : World) (hr : RdB w w.heap.size A bs) (hn : bs.length = n) (hc : n ≤ c) (hm : c ≤ 9223372036854775807) :
    Calls Try.prog 26 #[.slice A n c] w (DrawnRound w) := by
  have H := Lib.hid (newReader_any A c n bs w hr hn hc hm)
  clear hn
  go_enter Try.func26, Try.ntmps26
  go_wp2_with fail
  refine H.out.mono ?_
  rintro e w1 ⟨rfl, hg1, hnx1⟩
  have hlt := hg1.lt
  go_wp2_with fail
  refine (someRound_any w.heap.size w.heap.size 0 w1 hg1 (by omega)).mono ?_
  rintro e w2 ⟨n1, A2, c2, m, zs, rfl, hm20, hin, -, hb⟩
  have Hb : Hid (Below w.heap.size w w2) := hnx1.trans (gb_belowY hb.out (Nat.le_refl _) (Nat.le_of_lt hlt))
  have Hin : Hid (RoundIn w2 A2 c2 m zs) := hin.out.1
  clear hb hin
  go_wp2
  go_ret2
  exact ⟨n1, A2, c2, m, zs, rfl, hm20, Hin, Hb⟩

theorem drawWorstGap_any (A : Option Addr) (c n : Nat) (bs : List Int) (w : World) (hr : RdB w w.heap.size A bs) (hn : bs.length = n) (hc : n ≤ c) (hm : c ≤ 9223372036854775807) :
    Calls Try.prog 29 #[.slice A n c] w (DrawnRound w) := by
  have H := Lib.hid (newReader_any A c n bs w hr hn hc hm)
  clear hn
  go_enter Try.func29, Try.ntmps29
  go_wp2_with fail
  refine H.out.mono ?_
  rintro e w1 ⟨rfl, hg1, hnx1⟩
  have hlt := hg1.lt
  go_wp2_with fail
  refine (someRound_any w.heap.size w.heap.size 0 w1 hg1 (by omega)).mono ?_
  rintro e w2 ⟨n1, A2, c2, m, zs, rfl, hm20, hin, -, hb⟩
  have Hb : Hid (Below w.heap.size w w2) := hnx1.trans (gb_belowY hb.out (Nat.le_refl _) (Nat.le_of_lt hlt))
  have Hin : Hid (RoundIn w2 A2 c2 m zs) := hin.out.1
  clear hb hin
  go_wp2
  go_ret2
  exact ⟨n1, A2, c2, m, zs, rfl, hm20, Hin, Hb⟩

def DrawnSpots (w : World) (e : Ending) (w' : World) : Prop := ∃ n : Int, e = .returned (.int .i64 n) ∧ 0 ≤ n ∧ n ≤ 9 ∧ Hid (Below w.heap.size w w')
theorem drawSweepRound_any (A : Option Addr) (c n : Nat) (bs : List Int) (w : World) (hr : RdB w w.heap.size A bs) (hn : bs.length = n) (hc : n ≤ c) (hm : c ≤ 9223372036854775807) :
    Calls Try.prog 34 #[.slice A n c] w (DrawnSpots w) := by
  have H := Lib.hid (newReader_any A c n bs w hr hn hc hm)
  clear hn
  go_enter Try.func34, Try.ntmps34
  go_wp2_with fail
  refine H.out.mono ?_
  rintro e w1 ⟨rfl, hg1, hnx1⟩
  have hlt := hg1.lt
  go_wp2_with fail
  refine (oneLitAt _ w.heap.size w.heap.size 0 [3, 4, 2, 5, 8, 1, 0, 9, 6, 7] 10 0 9 w1 _ hg1 (by omega) rfl (by omega) (by omega) rfl (by decide) rfl).mono ?_
  rintro e w2 ⟨x, rfl, hx0, hx1, -, hb⟩
  have Hb : Hid (Below w.heap.size w w2) := hnx1.trans (gb_belowY hb (Nat.le_refl _) (Nat.le_of_lt hlt))
  clear hb
  go_wp2
  go_ret
  exact ⟨x, rfl, hx0, hx1, Hb⟩
theorem RoundIn.drawnY {w w' : World} {R : Nat} {A : Option Addr} {c m : Nat} {zs : List Int} (h : RoundIn w A c m zs) (hA : ∀ b off, A = some ⟨b, off, none⟩ → b ≠ R) (hg : w.grownBy w' (some R)) : RoundIn w' A c m zs := by
  refine ⟨fun hp => ?_, h.len, h.cap, h.most⟩
  obtain ⟨b, off, e, hb, hc⟩ := h.rd hp
  have hne := hA b off e
  exact ⟨b, off, e, Nat.lt_of_lt_of_le hb hg.size, fun i hi => (World.cell?_of_block (hg.block b hb (by intro e; injection e with e; exact hne e))).trans (hc i hi)⟩
def DrawnTwo (w : World) (e : Ending) (w' : World) : Prop :=
  ∃ n A c m l, ∃ zs : List Int, e = .returned (.tuple #[.int .i64 n, .slice A m c, .int .i64 l]) ∧ (1 ≤ m ∧ m ≤ 20) ∧ Hid (RoundIn w' A c m zs) ∧ Hid (Below w.heap.size w w')
set_option maxHeartbeats 800000 in
theorem drawTwoGap_any (A : Option Addr) (c n : Nat) (bs : List Int) (w : World) (hr : RdB w w.heap.size A bs) (hn : bs.length = n) (hc : n ≤ c) (hm : c ≤ 9223372036854775807) :
    Calls Try.prog 37 #[.slice A n c] w (DrawnTwo w) := by
  have H := Lib.hid (newReader_any A c n bs w hr hn hc hm)
  clear hn
  go_enter Try.func37, Try.ntmps37
  go_wp2_with fail
  refine H.out.mono ?_
  rintro e w1 ⟨rfl, hg1, hnx1⟩
  have hlt := hg1.lt
  go_wp2_with fail
  refine (someRound_any w.heap.size w.heap.size 0 w1 hg1 (by omega)).mono ?_
  rintro e w2 ⟨n1, A2, c2, m, zs, rfl, hm20, hin, hg2, hb⟩
  have HB2 : Hid (Below w.heap.size w w2) := hnx1.trans (gb_belowY hb.out (Nat.le_refl _) (Nat.le_of_lt hlt))
  have HI2 : Hid (RoundIn w2 A2 c2 m zs) := hin.out.1
  have HAR : Hid (∀ b off, A2 = some ⟨b, off, none⟩ → b ≠ w.heap.size) := fun b off e => by have := hin.out.2 b off e; omega
  obtain ⟨h, Hh⟩ : ∃ h : Nat, Hid (m / 2 = h) := ⟨_, rfl⟩
  have ht : (m : Int).tdiv 2 = (h : Int) := by rw [← Hh.out]; exact (Int.ofNat_tdiv m 2).symm
  have hh : h ≤ 10 := by rw [← Hh.out]; omega
  have hwh : IntKind.i64.wrap (h : Int) = (h : Int) := IntWalk.i64_in _ (by omega)
  clear hb hin hg1 hnx1
  go_wp2_with fail
  refine (oneLitAt _ w.heap.size w.heap.size (0 + 40) [(h : Int), 1, 0, 3, 20, 21, -1, 2] 8 (-1) 21 w2 _ hg2.out (by omega) rfl (by omega) (by omega) rfl (by intro z hz; simp at hz; omega) rfl).mono ?_
  rintro e w3 ⟨l, rfl, -, -, -, hgr⟩
  have HI3 := Lib.hid (HI2.out.drawnY HAR.out hgr)
  have HB3 : Hid (Below w.heap.size w w3) := HB2.out.trans (gb_belowY (B := w.heap.size) hgr (Nat.le_refl _) (Nat.le_of_lt hg2.out.lt))
  clear hgr
  go_wp2
  go_ret3
  exact ⟨n1, A2, c2, m, l, zs, rfl, hm20, HI3, HB3⟩

/-! ### the laws' own small functions -/
/-- A row of ints that is read only. -/
def RowAt (xs : List Int) (L : Nat) (w : World) (e : Ending) (w' : World) : Prop := ∃ A' c', e = .returned (.slice A' L c') ∧ Hid (RoundIn w' A' c' L xs) ∧ Hid (Below w.heap.size w w')
theorem RowIs.at_ {xs : List Int} {L : Nat} {w : World} {e : Ending} {w' : World} (h : RowIs xs w e w') (hL : xs.length = L) (hm : L ≤ 1048576) : RowAt xs L w e w' := by
  subst hL
  obtain ⟨A', c', rfl, hO, hB⟩ := h
  obtain ⟨A2, c2, he, hc, hmx, hrd⟩ := own_slice hO.out rfl
  injection he with he1 he2 he3
  subst he1 he3
  exact ⟨A', c', rfl, ⟨hrd, rfl, ⟨hc, hmx⟩, hm⟩, hB⟩
theorem rev_push {zs : List Int} {j m : Nat} (hm : zs.length = m) (hj : j < m) : (zs.drop (j + 1)).reverse ++ [zs.getD j 0] = (zs.drop j).reverse := by
  rw [List.drop_eq_getElem_cons (show j < zs.length by omega), List.reverse_cons]
  simp [List.getD, List.getElem?_eq_getElem (show j < zs.length by omega)]
def BwRel (m : Nat) (zs : List Int) (w : World) (o i : Value) (wr : World) : Prop :=
  ∃ j g c L : Nat, j ≤ m ∧ L + j = m ∧ o = .slice (some ⟨g, 0, none⟩) L c ∧ i = .int .i64 ((j : Int) - 1) ∧ Hid (OwnY wr w.heap.size g c L (zs.drop j).reverse) ∧ Hid (Below w.heap.size w wr)
set_option maxHeartbeats 800000 in
theorem backwards_any (A : Option Addr) (c m : Nat) (zs : List Int) (w : World) (h : RoundIn w A c m zs) (hm : m ≤ 1000) :
    Calls Try.prog 20 #[.slice A m c] w (RowAt zs.reverse m w) := by
  obtain ⟨i0, hi0, hz0, hz1, hz2⟩ := info_parts intInfo
  have Hn := Lib.hid h.len
  have HR := Lib.hid h.rd
  have HO0 : Hid (OwnY (w.alloc (.cells #[] 3)) w.heap.size w.heap.size 0 0 (zs.drop m).reverse) := by
    show OwnY _ _ _ _ _ _
    rw [List.drop_of_length_le (by rw [Hn.out]; omega)]
    exact ⟨rfl, World.ownsRow_lit w #[] 0 (Nat.le_refl _) (by decide) rfl⟩
  have HB0 : Hid (Below w.heap.size w (w.alloc (.cells #[] 3))) := (Below.refl _ _).alloc (Nat.le_refl _) _
  clear h
  go_enter Try.func20, Try.ntmps20
  go_wp2
  go_loopw [3, 4] (fun o i wr => BwRel m zs w o i wr) (fun _ i _ => (intOf i + 1).toNat)
  case atStart => exact ⟨m, _, _, 0, by omega, by omega, rfl, rfl, HO0, HB0⟩
  case round =>
    clear HO0 HB0
    obtain ⟨j, g, c2, L, hj, hL, rfl, rfl, HO, HB⟩ := hrel
    by_cases hpos : 0 < j
    · obtain ⟨i, rfl⟩ : ∃ i, j = i + 1 := ⟨j - 1, by omega⟩
      obtain ⟨b, off, x, rfl, hbw, Hx, hcx⟩ := (HR.out.below HB.out).x (k := i) (by rw [Hn.out]; omega)
      have hic : ((i + 1 : Nat) : Int) - 1 = (i : Int) := by omega
      rw [hic]
      have Hlen := Lib.hid HO.out.1
      have Hown := Lib.hid HO.out.2
      have hsz : L + 1 ≤ maxLen := by unfold maxLen; omega
      have hsz2 : (L + 1) * 8 ≤ 140737488355328 := by omega
      have hsz3 : w.heap.size ≤ (wr.alloc (.cells #[.int .i64 x] 3)).heap.size := by rw [size_alloc1]; have := HB.out.size; omega
      clear hic
      go_wp2_with (at_builtin; refine wpList_append_lies _ rfl _ _ 23 rfl w.heap.size 3 i0 _ 1 8 Try.underlying23 hi0 hz0 hz1 hz2 rfl (by decide) _ _ _ rfl (Hown.out.alloc _) ⟨wr.heap.size, 0, none⟩ 1 1 [.int .i64 x] rfl rfl (cell_one_new _ _ _) (by intro u hu; simp at hu; subst hu; rfl) (by decide) hsz hsz2 hsz3 _ rfl ?_; intro g3 c3 w3 hown3 hgrow3 hat3 hlt3)
      have HO3 : Hid (OwnY w3 w.heap.size g3 c3 (L + 1) (zs.drop i).reverse) := by
        show OwnY _ _ _ _ _ _
        rw [← rev_push Hn.out (show i < m by omega), Hx.out]
        exact ownY_push Hlen.out hown3
      have HB3 : Hid (Below w.heap.size w w3) := (HB.out.alloc HB.out.size _).grown hgrow3 hsz3 (fun q hq => (Hown.out.lt q hq).1)
      clear hown3 hgrow3 hat3 hlt3 Hown HO HB hsz hsz2 hsz3 hcx
      go_wp2
      go_roundw
      case rel => exact ⟨i, g3, c3, L + 1, by omega, by omega, rfl, by go_num, HO3, HB3⟩
      case measure => first | (simp [intOf]; done) | (simp [intOf]; omega)
    · obtain rfl : j = 0 := by omega
      obtain rfl : L = m := by omega
      have hown := HO.out.2
      have hlen := HO.out.1
      rw [List.drop_zero] at hown hlen
      have HE : Hid (RowAt zs.reverse L w (.returned (.slice (some ⟨g, 0, none⟩) L c2)) wr) := RowIs.at_ ⟨_, _, by rw [hlen], by rw [hlen]; exact hown, HB⟩ hlen (by omega)
      clear HO hown hlen
      go_wp2
      go_ret
      exact HE.out
set_option maxHeartbeats 800000 in
theorem greatestOf_any (A : Option Addr) (c n : Nat) (gs : List Int) (w : World) (B : Nat) (hr : RdI w B A gs) (hn : gs.length = n) (hb : n ≤ 1048576) :
    Calls Try.prog 33 #[.slice A n c] w fun e w' => e = .returned (.int .i64 (mxI gs n)) ∧ w = w' := by
  have Hn := Lib.hid hn
  have HR := Lib.hid hr
  clear hn hr
  go_enter Try.func33, Try.ntmps33
  go_wp2
  go_loop [3, 4] (fun a i => ∃ k : Nat, ∃ g : Int, k ≤ n ∧ a = .int .i64 g ∧ Hid (mxI gs k = g) ∧ i = .int .i64 k) (fun _ i => n - (intOf i).toNat)
  case atStart => exact ⟨0, 0, by omega, rfl, rfl, rfl⟩
  case round =>
    obtain ⟨k, g, hk, rfl, Hg, rfl⟩ := hrel
    by_cases hlt : k < n
    · obtain ⟨b, off, y, rfl, -, Hy, hcy⟩ := HR.out.x (k := k) (by rw [Hn.out]; exact hlt)
      have Hs : Hid (mxI gs (k + 1) = if g < y then y else g) := by show _ = _; simp only [mxI]; rw [Hg.out, Hy.out]; split <;> omega
      go_wp2
      all_goals
        go_round
        case rel => exact ⟨k + 1, _, by omega, rfl, by show _ = _; rw [Hs.out]; try (split <;> omega), by go_num⟩
        case measure => simp [intOf]; omega
    · obtain rfl : k = n := by omega
      go_wp2
      go_ret
      exact ⟨ret_int Hg.out.symm, rfl⟩
end Go.Proofs.Ytdkonaaoanggiaa
