/-
  A slice of streets that came in, as the frame of a law hands it over.
  Conditions: none.
  The exact law of NetCover.
  Conditions: as the contracts state.
-/
import Derived.Test.YtkgomgfhhhdnjabZ2
import Derived.Test.YtkgomgfhhhdnjabZ5
import Derived.Test.YtkgomgfhhhdnjabZ8
import Derived.Deep.SlicePairs
namespace Go.Proofs.Ytkgomgfhhhdnjab
open Go.ChangeShapes Go.WideShapes Go.ChangeAt Go.RowKit Go.Deep
set_option linter.unusedVariables false
set_option maxRecDepth 4000

def asIntS : Value → Int
  | .int _ n => n
  | _ => 0
theorem cells_lstreet : Try.prog.cellsOf 107 = 3 := by kernel_rfl
theorem cells_intS : Try.prog.cellsOf 3 = 1 := by kernel_rfl
theorem addr_addS {b off k : Nat} : (⟨b, off, none⟩ : Addr).add k = ⟨b, off + k, none⟩ := by unfold Addr.add; split <;> simp_all
theorem flat3_range (f g h : Nat → Int) : ∀ n i, i < n * 3 → (flat3 ((List.range n).map fun i => (f i, g i, h i))).getD i 0 = if i % 3 = 0 then f (i / 3) else if i % 3 = 1 then g (i / 3) else h (i / 3) := by
  intro n i hi
  have hl : i / 3 < n := by omega
  have hlen : i / 3 < ((List.range n).map fun i => (f i, g i, h i)).length := by simpa using hl
  have hg : ((List.range n).map fun i => (f i, g i, h i)).getD (i / 3) str0 = (f (i / 3), g (i / 3), h (i / 3)) := by simp [List.getD, hl]
  by_cases h0 : i % 3 = 0
  · rw [if_pos h0]
    have := flat3_0 _ _ hlen
    rw [hg, show i / 3 * 3 = i by omega] at this
    exact this
  · rw [if_neg h0]
    by_cases h1 : i % 3 = 1
    · rw [if_pos h1]
      have := flat3_1 _ _ hlen
      rw [hg, show i / 3 * 3 + 1 = i by omega] at this
      exact this
    · rw [if_neg h1]
      have := flat3_2 _ _ hlen
      rw [hg, show i / 3 * 3 + 2 = i by omega] at this
      exact this
theorem open_streets {H : Type} {enc : TypeId × Value → H} {w : World} {base : Nat} {spare : Nat → Bool} {held : Bool} {fuel : Nat} {a : Option Addr} {len cap : Nat} {x : DataW H × List MemPlace}
    (h : DataW.trod enc Try.prog w base spare held fuel 53 [.slice a len cap] = some x) : ∃ ss, RdS w w.heap.size a ss ∧ ss.length = len ∧ ss.length ≤ maxLen := by
  rcases open_slice Try.underlying53 h with ⟨hc, hx⟩ | ⟨x, l, c, m, n, D, Pl, hc, _, hl, hm, hmm, hx, hall⟩
  · simp at hc
    obtain ⟨rfl, rfl, rfl⟩ := hc
    exact ⟨[], RdS.nil _ _ _, rfl, by simp⟩
  · simp at hc
    obtain ⟨rfl, rfl, rfl⟩ := hc
    have hlm : len ≤ m := by rw [hmm]; split <;> omega
    have each : ∀ i, i < m → ∃ q : Int × Int × Int, w.cell? (x.add (i * 3)) = some (.int .i64 q.1) ∧ w.cell? (x.add (i * 3 + 1)) = some (.int .i64 q.2.1) ∧ w.cell? (x.add (i * 3 + 2)) = some (.int .i64 q.2.2) := by
      intro i hi
      obtain ⟨cs', h1, h2⟩ := hall i hi
      rw [cells_lstreet] at h1
      obtain ⟨_, hlen, hcell⟩ := World.cells?_some h1
      obtain ⟨xs, k, hk, hxy, _, hxl, hf⟩ := DataW.trod_struct Try.underlying107 h2
      match cs', hlen with
      | [v0, v1, v2], _ =>
        have e0 := hcell 0 (by omega)
        have e1 := hcell 1 (by omega)
        have e2 := hcell 2 (by omega)
        rw [add_add] at e0 e1 e2
        match xs, hxl with
        | [y0, y1, y2], _ =>
          have g0 := hf 0 _ rfl
          have g1 := hf 1 _ rfl
          have g2 := hf 2 _ rfl
          simp [cells_intS] at g0 g1 g2
          obtain ⟨n0, a0, -, -⟩ := DataW.trod_int Try.underlying3 g0
          obtain ⟨n1, a1, -, -⟩ := DataW.trod_int Try.underlying3 g1
          obtain ⟨n2, a2, -, -⟩ := DataW.trod_int Try.underlying3 g2
          simp only [List.cons.injEq, and_true] at a0 a1 a2
          subst a0 a1 a2
          exact ⟨(n0, n1, n2), by simpa using e0, by simpa using e1, by simpa using e2⟩
    obtain ⟨q, hq⟩ := choose_lt each
    refine ⟨(List.range len).map fun i => ((q i).1, (q i).2.1, (q i).2.2), ?_, by simp, by simp; omega⟩
    intro hp
    rw [flat3_len, List.length_map, List.length_range] at hp
    obtain ⟨c0, -, -⟩ := hq 0 (by omega)
    obtain ⟨b, off, spot⟩ := x
    have hspot : spot = none := by simpa [Addr.add] using World.cell?_spot c0
    subst hspot
    refine ⟨b, off, rfl, World.block_lt_of_cell? w _ (by simpa [Addr.add] using c0), fun i hi => ?_⟩
    rw [flat3_len, List.length_map, List.length_range] at hi
    obtain ⟨e0, e1, e2⟩ := hq (i / 3) (by omega)
    rw [addr_addS] at e0 e1 e2
    rw [flat3_range (fun i => (q i).1) (fun i => (q i).2.1) (fun i => (q i).2.2) len i hi]
    by_cases h0 : i % 3 = 0
    · rw [if_pos h0, show off + i = off + i / 3 * 3 by omega]; exact e0
    · rw [if_neg h0]
      by_cases h1 : i % 3 = 1
      · rw [if_pos h1, show off + i = off + (i / 3 * 3 + 1) by omega]; exact e1
      · rw [if_neg h1, show off + i = off + (i / 3 * 3 + 2) by omega]; exact e2
end Go.Proofs.Ytkgomgfhhhdnjab
namespace Go.Proofs.Ytkgomgfhhhdnjab
open Go.ChangeShapes Go.WideShapes Go.ChangeAt Go.RowKit
set_option linter.unusedVariables false
set_option maxRecDepth 4000

set_option maxHeartbeats 1600000 in
theorem exNetCover_of (HI : INum 32 ncv) (n : Int) (A : Option Addr) (c : Nat) (ss : List Str) (k : Int) (w : World) (hwn : (Lit.int .i64 n).wf = true) (hr : RdS w w.heap.size A ss) (hm : ss.length ≤ maxLen) (hwk : (Lit.int .i64 k).wf = true) :
    Calls Try.prog 15 #[.int .i64 n, .slice A ss.length c, .int .i64 k] w fun e w' => e = .returned (.bool true) ∧ Below w.heap.size w w' := by
  unfold maxLen at hm
  by_cases hb : 1048576 < ss.length
  · clear hwn hwk
    go_enter Try.func15, Try.ntmps15
    go_wp2_with fail
    refine (szS_big A c _ w hm hb).mono ?_
    rintro e w' ⟨rfl, rfl⟩
    go_wp2
    go_ret
    exact ⟨rfl, Below.refl _ _⟩
  · have Hwn := Lib.hid hwn
    have Hwk := Lib.hid hwk
    have HI' := Lib.hid HI
    obtain ⟨a, Ha⟩ : ∃ a, Hid (ncv n ss k = a) := ⟨_, rfl⟩
    clear hwn hwk HI
    go_enter Try.func15, Try.ntmps15
    go_wp2_with fail
    refine (szS_fits A c _ w (by omega)).mono ?_
    rintro e w' ⟨q, hq, rfl, rfl⟩
    go_wp2_with fail
    refine (toS_any A c _ ss w hr rfl (by omega)).mono ?_
    rintro e w1 ⟨b1, rfl, hb1, hr1, hnx1, -⟩
    have hra1 := (hr.below hnx1).more hnx1.size
    go_wp2_with fail
    refine (sNetCover_any _ _ _ n ss k w1 hr1 rfl (by omega) Hwn.out).mono ?_
    rintro e w3 ⟨rfl, hnx3⟩
    rw [Ha.out]
    have h13 := hnx1.trans (hnx3.mono hnx1.size)
    have hra3 := (hra1.below hnx3).more hnx3.size
    go_wp2_with fail
    refine (toS_any A c _ ss w3 hra3 rfl (by omega)).mono ?_
    rintro e w4 ⟨b4, rfl, hb4, hr4, hnx4, -⟩
    have h14 := h13.trans (hnx4.mono h13.size)
    have hra4 := (hra3.below hnx4).more hnx4.size
    go_wp2_with fail
    refine (HI'.out _ _ _ n ss k w4 ⟨hr4, rfl, ⟨Nat.le_refl _, by omega⟩, by omega, Hwn.out⟩ Hwk.out).mono ?_
    rintro e w6 ⟨rfl, hnx6⟩
    rw [Ha.out]
    have h16 := h14.trans (hnx6.mono h14.size)
    have hr6 := (hr4.below hnx6).more hnx6.size
    have hra6 := (hra4.below hnx6).more hnx6.size
    have hbn : ∀ x : Int, (x != x) = false := fun x => by simp
    go_wp2_with fail
    refine (toS_any A c _ ss w6 hra6 rfl (by omega)).mono ?_
    rintro e w7 ⟨b7, rfl, hb7, hr7, hnx7, -⟩
    have h17 := h16.trans (hnx7.mono h16.size)
    go_wp2_with fail
    refine (eqS_same _ _ _ _ _ _ ss w7 _ _ ((hr6.below hnx7).more hnx7.size) rfl hr7 rfl (by omega) (Nat.le_refl _) (Nat.le_refl _)).mono ?_
    rintro e w8 ⟨rfl, hnx8⟩
    have h18 := h17.trans (hnx8.mono h17.size)
    go_wp2
    go_ret
    exact ⟨rfl, h18⟩
end Go.Proofs.Ytkgomgfhhhdnjab
