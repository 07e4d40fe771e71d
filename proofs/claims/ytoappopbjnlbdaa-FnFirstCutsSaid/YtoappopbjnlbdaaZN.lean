/-
  bestDistricts, GreatestByParts and GreatestLeast of the program.
  Conditions: fewer than 2^20 numbers.
-/
import Derived.Test.YtoappopbjnlbdaaZM
namespace Go.Proofs.Ytoappopbjnlbdaa
open Go.ChangeShapes Go.WideShapes Go.ChangeAt Go.RowKit Go.Shelf
set_option linter.unusedVariables false
set_option maxRecDepth 4000

theorem better_M : BetterZ gM 56 := by
  refine ⟨enters_of Try.func56 (by kernel_rfl) rfl, ?_⟩
  intro d1 d2 n A1 A2 c1 c2 W h1 h2 hn hn10 hb1 hb2 hr1 hr2
  have H1 := Lib.hid (maxZ_any A1 c1 n d1 W _ hr1 h1 hn (by omega) (hb1 _ (getD_mem (by omega))).1)
  have H2 := Lib.hid (maxZ_any A2 c2 n d2 W _ hr2 h2 hn (by omega) (hb2 _ (getD_mem (by omega))).1)
  generalize gM d1 = x at H1 ⊢
  generalize gM d2 = y at H2 ⊢
  clear hr1 hr2 h1 h2 hb1 hb2
  go_enter Try.func56, Try.ntmps56
  go_wp2_with fail
  refine H1.out.mono ?_
  rintro e w' ⟨rfl, rfl⟩
  go_wp2_with fail
  refine H2.out.mono ?_
  rintro e w' ⟨rfl, rfl⟩
  go_wp2
  go_ret
  exact ⟨rfl, rfl⟩
theorem better_N : BetterZ fN 58 := by
  refine ⟨enters_of Try.func58 (by kernel_rfl) rfl, ?_⟩
  intro d1 d2 n A1 A2 c1 c2 W h1 h2 hn hn10 hb1 hb2 hr1 hr2
  have H1 := Lib.hid (minZ_any A1 c1 n d1 W _ hr1 h1 hn (by omega) (by have := hb1 _ (getD_mem (zs := d1) (k := 0) (by omega)); omega))
  have H2 := Lib.hid (minZ_any A2 c2 n d2 W _ hr2 h2 hn (by omega) (by have := hb2 _ (getD_mem (zs := d2) (k := 0) (by omega)); omega))
  unfold fN
  generalize gN d1 = x at H1 ⊢
  generalize gN d2 = y at H2 ⊢
  have HD : Hid (decide (-x < -y) = decide (y < x)) := by show _ = _; rw [decide_eq_decide]; omega
  rw [HD.out]
  clear hr1 hr2 h1 h2 hb1 hb2
  go_enter Try.func58, Try.ntmps58
  go_wp2_with fail
  refine H1.out.mono ?_
  rintro e w' ⟨rfl, rfl⟩
  go_wp2_with fail
  refine H2.out.mono ?_
  rintro e w' ⟨rfl, rfl⟩
  go_wp2
  go_ret
  exact ⟨rfl, rfl⟩

/-- The rows before the first district. -/
def O0 (i : Nat) : Option (List Int) := if i = 0 then some [] else none
theorem rows_zero {W : World} {f : List Int → Int} {zs : List Int} {n g h : Nat} (hn : n ≤ zs.length) (hg : W.heap[g]? = some (.cells ((List.replicate (n + 1) (Value.slice none 0 0)).toArray.setIfInBounds 0 (.slice (some ⟨h, 0, none⟩) 0 0)) 23 (0, 0))) (hh : W.heap[h]? = some (.cells #[] 3 (0, 0))) :
    RowsZ W g n 0 f zs O0 ((List.replicate (n + 1) (Value.slice none 0 0)).toArray.setIfInBounds 0 (.slice (some ⟨h, 0, none⟩) 0 0)) := by
  refine ⟨hg, by simp, fun i hi => ?_, fun i hi => ?_⟩
  · by_cases h0 : i = 0
    · subst h0
      exact ⟨.slice (some ⟨h, 0, none⟩) 0 0, by simp, h, 0, rfl, trivial, #[], hh, fun i hi => by simp at hi⟩
    · refine ⟨.slice none 0 0, ?_, ?_⟩
      · rw [Array.getElem?_setIfInBounds, if_neg (by omega)]
        simp [show i < n + 1 by omega]
      · show CellZ _ _ _ (O0 i)
        unfold O0; rw [if_neg h0]; rfl
  · unfold O0
    by_cases h0 : i = 0
    · subst h0; exact opt_zero f zs
    · rw [if_neg h0]; exact opt_zero_none f zs (by omega) (by omega)
theorem empty_row (w : World) : (w.alloc (.cells #[] 3)).heap[w.heap.size]? = some (.cells #[] 3 (0, 0)) := World.alloc_heap_new w _

theorem rows_madeZ {w w2 : World} {m : Nat} (h : w2.ownsRow w.heap.size 23 1 (.slice (some ⟨w.heap.size, 0, none⟩) (m + 1) (m + 1)) (m + 1) (madeCells (Value.slice none 0 0).cells ((m + 1) * 1)).toList) :
    w2.heap[w.heap.size]? = some (.cells (List.replicate (m + 1) (Value.slice none 0 0)).toArray 23 (0, 0)) ∧ w2.cell? ⟨w.heap.size, 0, none⟩ = some (.slice none 0 0) := by
  have e : (madeCells (Value.slice none 0 0).cells ((m + 1) * 1)).toList = List.replicate (m + 1) (.slice none 0 0) := by
    rw [show (Value.slice none 0 0).cells = #[Value.slice none 0 0] from rfl, Nat.mul_one, toList_madeCells_one]
  rw [e] at h
  have hb := rows_blockZ h
  exact ⟨hb, by rw [cell_of_row _ _ _ _ _ _ hb]; simp⟩
/-- The best districts, as a row of ints. -/
def BestAns (f : List Int → Int) (zs : List Int) (kk n : Nat) (w : World) (e : Ending) (w' : World) : Prop :=
  ∃ g c d, e = .returned (.slice (some ⟨g, 0, none⟩) kk c) ∧ d.length = kk ∧ Opt f zs kk n d ∧ RowZ w' g d ∧ Below w.heap.size w w'
set_option maxHeartbeats 1600000 in
theorem bestDistricts_any (f : List Int → Int) (hf : KeyOk f) (bf : Nat) (hbet : BetterZ f bf) (A : Option Addr) (c n kk : Nat) (zs : List Int) (w : World)
    (h : LIn w A c n zs) (hw : Wd zs) (hk1 : 1 ≤ kk) (hkn : kk ≤ n) :
    Calls Try.prog 55 #[.slice A n c, .int .i64 (kk : Int), .func (.func bf) #[] #[]] w (BestAns f zs kk n w) := by
  obtain ⟨i0, hi0, hz0, hz1, hz2⟩ := info_parts rowInfoZ
  have hn10 := hw.n10
  rw [h.len] at hn10
  have HH := Lib.hid h
  have HW := Lib.hid hw
  have HBet := Lib.hid hbet
  clear h hw hbet
  go_enter Try.func55, Try.ntmps55
  go_wp2_with (at_make; refine wpList_make_full _ rfl _ _ 52 rfl w.heap.size 23 i0 _ 1 Try.underlying52 hi0 hz0 hz1 _ _ _ _ (n + 1) rfl rfl (by omega) (by omega) (by rw [hz2]; omega) (by unfold maxLen; omega) (Nat.le_refl _) ?_; intro w2 hown2 hg2; have hc2 := rows_madeZ hown2; have hf2 := frozen_of_row _ _ 0 _ _ hc2.1; have hc20 := hc2.2; have hs2 := hown2.lt _ rfl)
  have hblk3 : ((w2.setCell ⟨w.heap.size, 0, none⟩ (.slice (some ⟨w2.heap.size, 0, none⟩) 0 0)).alloc (.cells #[] 3)).heap[w.heap.size]? = some (.cells ((List.replicate (n + 1) (Value.slice none 0 0)).toArray.setIfInBounds 0 (.slice (some ⟨w2.heap.size, 0, none⟩) 0 0)) 23 (0, 0)) :=
    (Below.heap_alloc _ _ _ (by simp; omega)).trans (heap_setCell_same _ _ _ _ _ _ hc2.1)
  have hrow3 : ((w2.setCell ⟨w.heap.size, 0, none⟩ (.slice (some ⟨w2.heap.size, 0, none⟩) 0 0)).alloc (.cells #[] 3)).heap[w2.heap.size]? = some (.cells #[] 3 (0, 0)) := by
    have := World.alloc_heap_new (w2.setCell ⟨w.heap.size, 0, none⟩ (.slice (some ⟨w2.heap.size, 0, none⟩) 0 0)) (.cells #[] 3)
    rwa [World.size_setCell] at this
  have HR0 : Hid (RowsZ ((w2.setCell ⟨w.heap.size, 0, none⟩ (.slice (some ⟨w2.heap.size, 0, none⟩) 0 0)).alloc (.cells #[] 3)) w.heap.size n 0 f zs O0 ((List.replicate (n + 1) (Value.slice none 0 0)).toArray.setIfInBounds 0 (.slice (some ⟨w2.heap.size, 0, none⟩) 0 0))) :=
    rows_zero (by rw [HH.out.len]; exact Nat.le_refl _) hblk3 hrow3
  have HB0 : Hid (Below w.heap.size w ((w2.setCell ⟨w.heap.size, 0, none⟩ (.slice (some ⟨w2.heap.size, 0, none⟩) 0 0)).alloc (.cells #[] 3))) :=
    (((Below.refl _ w).grown hg2 (Nat.le_refl _) (fun j hj => by cases hj)).setCell (Nat.le_refl _) _).alloc (by simp; omega) _
  clear hown2 hg2 hc2 hf2 hc20 hblk3 hrow3
  go_loopw [7, 16] (fun a i wr => ∃ j g ca O va, j ≤ kk ∧ a = .slice (some ⟨g, 0, none⟩) (n + 1) ca ∧ n + 1 ≤ ca ∧ i = .int .i64 (j : Nat) ∧ Hid (RowsZ wr g n j f zs O va) ∧ Hid (Below w.heap.size w wr)) (fun _ i _ => kk - (intOf i).toNat)
  case atStart => exact ⟨0, _, _, _, _, Nat.zero_le _, rfl, Nat.le_refl _, rfl, HR0, HB0⟩
  case round =>
    clear HR0 HB0 hs2
    obtain ⟨j, g, ca, O, va, hj, rfl, hca, rfl, HR, HB⟩ := hrel
    by_cases hlt : j < kk
    · have HC := Lib.hid (withOne_any f hf bf HBet.out A c n g ca j zs O va wr (HH.out.later HB.out) HW.out (by omega) HR.out hca)
      go_wp2_with fail
      refine HC.out.mono ?_
      rintro e w4 ⟨g4, c4, O4, v4, rfl, hc4, hR4, hB4⟩
      have HR4 := Lib.hid hR4
      have HB4 := Lib.hid (HB.out.trans (hB4.mono HB.out.size))
      clear hR4 hB4
      go_wp2
      go_roundw
      case rel => exact ⟨j + 1, g4, c4, O4, v4, by omega, rfl, hc4, by go_num, HR4, HB4⟩
      case measure => simp [intOf]; omega
    · obtain rfl : j = kk := by omega
      obtain ⟨v, hv, hcell⟩ := HR.out.cell n (Nat.le_refl _)
      have ho := HR.out.opt n (Nat.le_refl _)
      have hlen := HH.out.len
      rw [← hlen] at ho
      obtain ⟨d, hd, hopt⟩ := opt_end hk1 (by rw [hlen]; exact hkn) ho
      rw [hlen] at hd hopt
      rw [hd] at hcell
      obtain ⟨gd, cd, rfl, -, hrow⟩ := hcell
      have hdl := hopt.2.1
      rw [hdl] at hv
      have hcv : wr.cell? ⟨g, n, none⟩ = some (.slice (some ⟨gd, 0, none⟩) j cd) := by rw [cell_of_row _ _ _ _ _ _ HR.out.blk]; exact hv
      have HE : Hid (BestAns f zs j n w (.returned (.slice (some ⟨gd, 0, none⟩) j cd)) wr) := ⟨gd, cd, d, rfl, hdl, hopt, hrow, HB.out⟩
      have hx1 : (n : Int) < (n : Int) + 1 := by omega
      clear hv hrow hopt hd ho hdl hlen
      go_wp2
      go_ret
      exact HE.out
end Go.Proofs.Ytoappopbjnlbdaa
