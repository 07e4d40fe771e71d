/-
  Words for arrays: two arrays of a hundred ints held against each other; cells by number.
  Conditions: as each theorem states.
  The arrays of how many are near each cell, of the program, walked.
  Conditions: at most ten columns and rows.
  IsPerfect and SlantCells of the program, walked.
  Conditions: at most 2^20 numbers.
  Whether a number is in a range, and calls inside a region that draws its order.
  Conditions: none beyond what each theorem states.
  The model's small functions on grids, walked: valid grids, steps, cells near a cell, slanting cells.
  Conditions: as each theorem states.
  The model's powers of two, bits of a set, and how many there are.
  Conditions: at most seven, sets below 128.
-/
import Derived.Test.YtkgomgfhhhdnjaaZ0
import Derived.Test.YtkgomgfhhhdnjaaZ3
import Derived.Test.YtkgomgfhhhdnjaaZ5
import Derived.Test.YtkgomgfhhhdnjaaZ2
import Derived.ChangeKeysEq
import Derived.Deep.WholeRow
namespace Go.Proofs.Ytkgomgfhhhdnjaa
open Go.ChangeShapes Go.WideShapes Go.ChangeAt Go.RowKit
set_option linter.unusedVariables false
set_option maxRecDepth 4000

theorem eqItems_ints (d : Nat) {e : TypeId} (he : Try.prog.plainKey e = true) (hu : Try.prog.underlying e = some (.int .i64)) (W : World) (xs ys : Array Value) (f g : Nat → Int) : ∀ (is : List Nat), (∀ i ∈ is, xs[i]? = some (.int .i64 (f i)) ∧ ys[i]? = some (.int .i64 (g i))) →
    (Op.eqItems (d + 1) e 1 xs ys is).run Try.prog W = .ok (is.all fun i => f i == g i) W
  | [], _ => by simp [Op.eqItems]
  | i :: is, h => by
    obtain ⟨h1, h2⟩ := h i (by simp)
    have ih := eqItems_ints d he hu W xs ys f g is fun j hj => h j (by simp [hj])
    simp only [Op.eqItems, Nat.mul_one, Sem.run_bind, run_part_plain W he h1, run_part_plain W he h2, Result.andThen_ok, run_equalIn_int W d e .i64 .i64 (f i) (g i) hu]
    by_cases hc : (f i == g i) = true
    · rw [hc]
      simp only [Bool.not_true, Bool.false_eq_true, if_false, List.all_cons, hc, Bool.true_and]
      exact ih
    · have hc' : (f i == g i) = false := by simpa using hc
      rw [hc']
      simp [hc']
theorem eql_counts (W : World) (xs ys : Array Value) (f g : Nat → Int) (h : ∀ i, i < 100 → xs[i]? = some (.int .i64 (f i)) ∧ ys[i]? = some (.int .i64 (g i))) :
    (binOp .eql 71 (.agg xs) (.agg ys)).run Try.prog W = .ok (.bool ((List.range 100).all fun i => f i == g i)) W := by
  obtain ⟨ii, hii, -⟩ := info_parts (show (Try.prog.info? 3).map (fun i => (i.zero, i.size, i.bytes)) = some (some (.int .i64 0), 1, 8) by kernel_rfl)
  have hc : Try.prog.cellsOf 3 = 1 := by kernel_rfl
  rw [run_eql_struct, run_equalIn_array W 9999 xs ys (t := 71) (e := 3) (n := 100) Try.underlying71 hii, hc, eqItems_ints 9998 (e := 3) (by kernel_rfl) Try.underlying3 W xs ys f g (List.range 100) fun i hi => h i (List.mem_range.1 hi)]
  rfl
end Go.Proofs.Ytkgomgfhhhdnjaa
namespace Go.Proofs.Ytkgomgfhhhdnjaa
open Go.ChangeShapes Go.WideShapes Go.ChangeAt Go.RowKit
set_option linter.unusedVariables false
set_option maxRecDepth 4000

/-- A hundred numbers as an array's cells. -/
def cA (f : Nat → Nat) : Array Value := ((List.range 100).map fun i => Value.int .i64 ((f i : Nat) : Int)).toArray
theorem cA_size (f : Nat → Nat) : (cA f).size = 100 := by simp [cA]
theorem cA_get {f : Nat → Nat} {i : Nat} (h : i < 100) : (cA f)[i]? = some (.int .i64 ((f i : Nat) : Int)) := by simp [cA, h]
theorem cA_set {f : Nat → Nat} {i v : Nat} (h : i < 100) : (cA f).setIfInBounds i (.int .i64 ((v : Nat) : Int)) = cA (fun j => if j = i then v else f j) := by
  unfold cA
  apply Array.ext_getElem?
  intro j
  rw [Array.getElem?_setIfInBounds]
  by_cases hj : j < 100
  · by_cases e : i = j
    · subst e; simp [h]
    · simp [hj, e, show ¬ j = i from fun h => e h.symm]
  · simp [hj]; omega
theorem cA_congr {f g : Nat → Nat} (h : ∀ i, i < 100 → f i = g i) : cA f = cA g := by
  unfold cA
  congr 1
  refine List.map_congr_left fun i hi => ?_
  rw [h i (List.mem_range.1 hi)]
theorem cA_one (f : Nat → Nat) : (cA f).all (·.oneCell') = true := by
  rw [Array.all_eq_true]
  intro i hi
  have h1 := cA_get (f := f) (i := i) (by rwa [cA_size] at hi)
  rw [Array.getElem?_eq_getElem hi] at h1
  injection h1 with h1
  rw [h1]; rfl
theorem countsInfo : (Try.prog.info? 71).map (fun i => (i.zero, i.size)) = some (some (.agg (cA fun _ => 0)), 100) := by kernel_rfl
def CntPost (f : Nat → Nat) (W : World) (e : Ending) (w' : World) : Prop := e = .returned (.agg (cA f)) ∧ Below W.heap.size W w'
structure Arrs (W w : World) (o : Obj) (a b : Array Value) : Prop where
  g : w.heap[W.heap.size]? = some o
  r : w.heap[W.heap.size + 1]? = some (.cells a 71 (0, 0))
  c : w.heap[W.heap.size + 2]? = some (.cells b 71 (0, 0))
  b : Below W.heap.size W w
  lt : W.heap.size + 3 ≤ w.heap.size
theorem arrs_made (c : Obj) (W : World) (Z : Array Value) : Arrs W (((W.alloc c).alloc (.cells Z 71)).alloc (.cells Z 71)) c Z Z := by
  have e1 : (W.alloc c).heap.size = W.heap.size + 1 := size_alloc1 _ _
  have h1 := heap_alloc2_old (W.alloc c) (.cells Z 71) (.cells Z 71)
  have h2 := heap_alloc2_new (W.alloc c) (.cells Z 71) (.cells Z 71)
  rw [e1] at h1 h2
  have h0 : (((W.alloc c).alloc (.cells Z 71)).alloc (.cells Z 71)).heap[W.heap.size]? = some c := by
    rw [heap_alloc_old _ _ (by simp; omega), heap_alloc_old _ _ (by simp), heap_alloc_new]
  exact ⟨h0, h1, h2, (((Below.refl _ _).alloc (Nat.le_refl _) _).alloc (by simp) _).alloc (by simp; omega) _, by rw [size_alloc1, size_alloc1, size_alloc1]; omega⟩
theorem Arrs.below {W w w' : World} {o : Obj} {a b : Array Value} (h : Arrs W w o a b) (hb : Below w.heap.size w w') : Arrs W w' o a b :=
  ⟨(hb.block _ (by have := h.lt; omega)).trans h.g, (hb.block _ (by have := h.lt; omega)).trans h.r, (hb.block _ (by have := h.lt; omega)).trans h.c, h.b.trans (hb.mono h.b.size), Nat.le_trans h.lt hb.size⟩
theorem Arrs.set {W w : World} {o : Obj} {a : Array Value} {f : Nat → Nat} (h : Arrs W w o a (cA f)) {k v : Nat} (hk : k < 100) : Arrs W (w.setCell ⟨W.heap.size + 2, k, none⟩ (.int .i64 ((v : Nat) : Int))) o a (cA fun j => if j = k then v else f j) := by
  refine ⟨?_, ?_, ?_, h.b.setCell (by show W.heap.size ≤ W.heap.size + 2; omega) _, ?_⟩
  · rw [heap_setCell_other _ _ _ _ (by show W.heap.size ≠ W.heap.size + 2; omega)]; exact h.g
  · rw [heap_setCell_other _ _ _ _ (by show W.heap.size + 1 ≠ W.heap.size + 2; omega)]; exact h.r
  · rw [heap_setCell_same _ _ _ _ _ _ h.c, cA_set hk]
  · have : (w.setCell ⟨W.heap.size + 2, k, none⟩ (.int .i64 ((v : Nat) : Int))).heap.size = w.heap.size := by simp [World.setCell]
    rw [this]; exact h.lt
theorem Arrs.cell {W w : World} {o : Obj} {a : Array Value} {f : Nat → Nat} (h : Arrs W w o a (cA f)) {k : Nat} (hk : k < 100) : w.cell? ⟨W.heap.size + 2, k, none⟩ = some (.int .i64 ((f k : Nat) : Int)) := (cell_of_row _ _ _ _ _ _ h.c).trans (cA_get hk)
theorem Arrs.frozen {W w : World} {o : Obj} {a b : Array Value} (h : Arrs W w o a b) (k : Nat) : w.frozen? ⟨W.heap.size + 2, k, none⟩ = false := frozen_of_row _ _ _ _ _ h.c
theorem below_setRow9 {B g : Nat} {a w : World} {cs : Array Value} (h : Below B a w) (hg : B ≤ g) : Below B a (w.setRow g cs) :=
  ⟨h.os, h.tape, h.output, by rw [size_setRow]; exact h.size, fun k hk => (setRow_other w g k cs (by omega)).trans (h.block k hk)⟩
set_option maxHeartbeats 1600000 in
theorem oneEach_any (w h n : Nat) (cl : Bool) (W : World) (hw1 : 1 ≤ w) (hw : w ≤ 10) (hh : h ≤ 10) (hn : w * h = n) :
    Calls Try.prog 62 #[.agg #[.int .i64 w, .int .i64 h, .bool cl]] W (CntPost (fun i => if i < n then 1 else 0) W) := by
  have hn100 : n ≤ 100 := by rw [← hn]; exact Nat.mul_le_mul hw hh
  have HN := Lib.hid (fun V => iCells_any w h cl V hw hh hn)
  obtain ⟨hz, hi⟩ := zero_of_info countsInfo
  have Hi := Lib.hid hi
  clear hi
  obtain ⟨Z, HZ⟩ : ∃ Z, Hid (cA (fun _ => 0) = Z) := ⟨_, rfl⟩
  rw [HZ.out] at hz
  have HAr := Lib.hid (arrs_made (.cells #[.int .i64 w, .int .i64 h, .bool cl] 57) W Z)
  obtain ⟨W3, HW3⟩ : ∃ W3, Hid (((W.alloc (.cells #[.int .i64 w, .int .i64 h, .bool cl] 57)).alloc (.cells Z 71)).alloc (.cells Z 71) = W3) := ⟨_, rfl⟩
  rw [HW3.out] at HAr
  go_enter Try.func62, Try.ntmps62
  go_wp2_with fail
  rw [HW3.out]
  refine (HN.out _).mono ?_
  rintro e V ⟨rfl, hV⟩
  have HA0 : Hid (Arrs W V (.cells #[.int .i64 w, .int .i64 h, .bool cl] 57) Z (cA fun i => if i < 0 then 1 else 0)) := by
    have := HAr.out.below hV
    show Arrs _ _ _ _ _
    rw [cA_congr (g := fun _ => 0) (fun i _ => if_neg (by omega)), HZ.out]; exact this
  clear hV
  go_wp2
  go_loopw [7] (fun i wr => ∃ k : Nat, k ≤ n ∧ i = .int .i64 k ∧ Hid (Arrs W wr (.cells #[.int .i64 w, .int .i64 h, .bool cl] 57) Z (cA fun i => if i < k then 1 else 0))) (fun i _ => n - (intOf i).toNat)
  case atStart => exact ⟨0, by omega, rfl, HA0⟩
  case round =>
    clear HA0
    obtain ⟨k, hk, rfl, HA⟩ := hrel
    by_cases hlt : k < n
    · have cs := HA.out.cell (k := k) (by omega)
      have fs := HA.out.frozen k
      have hst := HA.out.set (k := k) (v := 1) (by omega)
      have HST : Hid (Arrs W (wr.setCell ⟨W.heap.size + 2, k, none⟩ (.int .i64 1)) (.cells #[.int .i64 w, .int .i64 h, .bool cl] 57) Z (cA fun i => if i < k + 1 then 1 else 0)) := by
        show Arrs _ _ _ _ _
        rw [cA_congr (g := fun j => if j = k then 1 else if j < k then 1 else 0) (fun i _ => by
          by_cases e : i = k
          · rw [if_pos e, if_pos (by omega)]
          · rw [if_neg e]
            by_cases e2 : i < k
            · rw [if_pos e2, if_pos (by omega)]
            · rw [if_neg e2, if_neg (by omega)])]
        exact hst
      clear hst HA
      have hk100 : k < 100 := by omega
      go_wp2
      go_roundw
      case rel => exact ⟨k + 1, by omega, by go_num, HST⟩
      case measure => simp [intOf]; omega
    · obtain rfl : k = n := by omega
      obtain ⟨O, HO⟩ : ∃ O, Hid (cA (fun i => if i < k then 1 else 0) = O) := ⟨_, rfl⟩
      have hAr2 := HA.out
      rw [HO.out] at hAr2
      clear HA
      have hZs : Z.size = 100 := by rw [← HZ.out]; exact cA_size _
      have hOs : O.size = 100 := by rw [← HO.out]; exact cA_size _
      have hO1 : O.all (·.oneCell') = true := by rw [← HO.out]; exact cA_one _
      have HI3 : Hid ((Try.prog.info? 71).map (·.size) = some O.size) := by show _ = _; rw [hOs]; exact Hi.out
      have HC := Lib.hid hAr2.c
      have HR := Lib.hid hAr2.r
      have HB := Lib.hid hAr2.b
      have HZO : Hid (Z.size = O.size) := hZs.trans hOs.symm
      have HO1 := Lib.hid hO1
      clear hAr2 hZs hOs hO1
      go_wp2_with (first
        | (refine wpList_load_row rfl 71 (.tmp 3) rfl (W.heap.size + 1 + 1) rfl 71 O (0, 0) _ HC.out Try.underlying71 rfl HI3.out ?_)
        | (refine wpList_store_row rfl 71 (.tmp 2) (.tmp 13) rfl (W.heap.size + 1) O rfl rfl 71 Z HR.out HI3.out HZO.out HO1.out ?_))
      exact bodyPost_ret (v := .agg O) (results_cell_row Try.results62 _ _ (W.heap.size + 1) 71 O (0, 0) _ rfl (setRow_heap _ _ _ _ _ _ HR.out) Try.underlying71 rfl HI3.out) rfl ⟨by rw [HO.out], below_setRow9 HB.out (by omega)⟩
theorem sr_st (w h z c : Nat) : stA true w h (z % w) (z / w) (c % w) (c / w) = srN w h c z := by
  unfold stA axN srN
  rw [if_pos rfl, if_pos rfl, rsN_comm w, rsN_comm h, Nat.add_comm]
/-- The cells near a cell of a closed grid. -/
def rbL (w h n : Nat) (far : Int) (z : Nat) : List Nat := (List.range n).filter fun c => decide (((srN w h c z : Nat) : Int) ≤ far)
theorem cw_ring {w h n z : Nat} {far : Int} : cwL (fun x y => decide (((stA true w h (z % w) (z / w) x y : Nat) : Int) ≤ far)) w n = (rbL w h n far z).map fun i : Nat => (i : Int) := by
  unfold cwL rbL
  congr 1
  refine List.filter_congr fun i _ => ?_
  simp only [sr_st]
theorem rbL_mem {w h n z c : Nat} {far : Int} : c ∈ rbL w h n far z ↔ c < n ∧ ((srN w h c z : Nat) : Int) ≤ far := by simp [rbL]
theorem rbL_len (w h n : Nat) (far : Int) (z : Nat) : (rbL w h n far z).length ≤ n := by
  have := List.length_filter_le (fun c => decide (((srN w h c z : Nat) : Int) ≤ far)) (List.range n)
  rwa [List.length_range] at this
theorem rbL_count {w h n z c : Nat} {far : Int} : (rbL w h n far z).count c = if c < n ∧ ((srN w h c z : Nat) : Int) ≤ far then 1 else 0 := by
  have hnd : (rbL w h n far z).Nodup := List.Pairwise.filter _ List.nodup_range
  by_cases hc : c ∈ rbL w h n far z
  · rw [if_pos (rbL_mem.1 hc), hnd.count, if_pos hc]
  · rw [if_neg (fun e => hc (rbL_mem.2 e)), List.count_eq_zero_of_not_mem hc]
/-- How many are near each cell, of the first m of a list and the first j of those near one more. -/
def cnF (w h n : Nat) (far : Int) (zs : List Int) (m : Nat) (c : Nat) : Nat := if c < n then nrC w h far c (zs.take m) else 0
theorem cnF_next {w h n m : Nat} {far : Int} {zs : List Int} {z : Int} (hm : m < zs.length) (hz : zs.getD m 0 = z) (c : Nat) : cnF w h n far zs (m + 1) c = cnF w h n far zs m c + (rbL w h n far z.toNat).count c := by
  unfold cnF
  rw [rbL_count]
  by_cases hc : c < n
  · rw [if_pos hc, if_pos hc, nrC_take hm hz]
    by_cases hf : ((srN w h c z.toNat : Nat) : Int) ≤ far
    · rw [if_pos hf, if_pos ⟨hc, hf⟩]
    · rw [if_neg hf, if_neg (fun e => hf e.2)]
  · rw [if_neg hc, if_neg hc, if_neg (fun e => hc e.1)]
theorem cnF_le {w h n m : Nat} {far : Int} {zs : List Int} (c : Nat) : cnF w h n far zs m c ≤ zs.length := by
  unfold cnF
  split
  · have := nrC_le w h far c (zs.take m)
    rw [List.length_take] at this
    omega
  · omega
set_option maxHeartbeats 1600000 in
theorem nearCounts_any (w h n : Nat) (far : Int) (A : Option Addr) (c ln : Nat) (zs : List Int) (W : World) (hw1 : 1 ≤ w) (hw : w ≤ 10) (hh : h ≤ 10) (hn : w * h = n) (hr : RdI W W.heap.size A zs) (hl : zs.length = ln) (hl2 : ln ≤ 1048576) (hz : ∀ z ∈ zs, 0 ≤ z ∧ z < (n : Int)) :
    Calls Try.prog 61 #[.agg #[.int .i64 w, .int .i64 h, .bool true], .slice A ln c, .int .i64 far] W (CntPost (cnF w h n far zs ln) W) := by
  have hn100 : n ≤ 100 := by rw [← hn]; exact Nat.mul_le_mul hw hh
  have HBall := Lib.hid (fun (k : Nat) (V : World) (hk : k < n) => by have := iBall_any w h n k true far V hw1 hw hh hn hk; rw [cw_ring] at this; exact this)
  obtain ⟨hz0, hi⟩ := zero_of_info countsInfo
  have Hi := Lib.hid hi
  have HR := Lib.hid hr
  have Hl := Lib.hid hl
  have Hz := Lib.hid hz
  clear hi hr hl hz hn
  obtain ⟨Z, HZ⟩ : ∃ Z, Hid (cA (fun _ => 0) = Z) := ⟨_, rfl⟩
  rw [HZ.out] at hz0
  have HAr := Lib.hid (arrs_made (.cells #[.int .i64 w, .int .i64 h, .bool true] 57) W Z)
  obtain ⟨W3, HW3⟩ : ∃ W3, Hid (((W.alloc (.cells #[.int .i64 w, .int .i64 h, .bool true] 57)).alloc (.cells Z 71)).alloc (.cells Z 71) = W3) := ⟨_, rfl⟩
  rw [HW3.out] at HAr
  have HA0 : Hid (Arrs W W3 (.cells #[.int .i64 w, .int .i64 h, .bool true] 57) Z (cA (cnF w h n far zs 0))) := by
    show Arrs _ _ _ _ _
    rw [cA_congr (g := fun _ => 0) (fun i _ => by unfold cnF nrC; simp), HZ.out]; exact HAr.out
  go_enter Try.func61, Try.ntmps61
  go_wp2
  rw [HW3.out]
  go_loopw [14] (fun i wr => ∃ m : Nat, m ≤ ln ∧ i = .int .i64 m ∧ Hid (Arrs W wr (.cells #[.int .i64 w, .int .i64 h, .bool true] 57) Z (cA (cnF w h n far zs m)))) (fun i _ => ln - (intOf i).toNat)
  case atStart => exact ⟨0, by omega, rfl, HA0⟩
  case round =>
    clear HA0
    obtain ⟨m, hm, rfl, HA⟩ := hrel
    by_cases hlt : m < ln
    · have hmz : m < zs.length := by rw [Hl.out]; exact hlt
      obtain ⟨b, off, z, rfl, hbw, Hx, hcx⟩ := (HR.out.below HA.out.b).x (k := m) hmz
      have hzr := Hz.out z (by rw [← Hx.out]; simp [List.getD, List.getElem?_eq_getElem hmz])
      obtain ⟨y, rfl⟩ := Int.eq_ofNat_of_zero_le hzr.1
      have hyn : y < n := by omega
      have l0 : wr.cell? ⟨W.heap.size, 0, none⟩ = some (.int .i64 w) := (cell_of_row _ _ _ _ _ _ HA.out.g).trans rfl
      have l1 : wr.cell? ⟨W.heap.size, 1, none⟩ = some (.int .i64 h) := (cell_of_row _ _ _ _ _ _ HA.out.g).trans rfl
      have l2 : wr.cell? ⟨W.heap.size, 2, none⟩ = some (.bool true) := (cell_of_row _ _ _ _ _ _ HA.out.g).trans rfl
      have Hnx : Hid (∀ c, cnF w h n far zs (m + 1) c = cnF w h n far zs m c + (rbL w h n far y).count c) := fun c => cnF_next hmz Hx.out c
      have hcl : ∀ c, cnF w h n far zs m c ≤ 1048576 := fun c => Nat.le_trans (cnF_le c) (by rw [Hl.out]; exact hl2)
      obtain ⟨f, Hf⟩ : ∃ f, Hid (cnF w h n far zs m = f) := ⟨_, rfl⟩
      rw [Hf.out] at HA hcl
      have Hcl := Lib.hid hcl
      obtain ⟨bl, Hbl⟩ : ∃ bl, Hid (rbL w h n far y = bl) := ⟨_, rfl⟩
      have hbm : ∀ i ∈ bl, i < n := fun i hi => by rw [← Hbl.out] at hi; exact (rbL_mem.1 hi).1
      have Hbm := Lib.hid hbm
      have hL100 : bl.length ≤ n := by rw [← Hbl.out]; exact rbL_len _ _ _ _ _
      have HBk := Lib.hid (fun V => HBall.out y V hyn)
      rw [Hbl.out] at HBk
      obtain ⟨L, HL⟩ : ∃ L, Hid (bl.length = L) := ⟨_, rfl⟩
      have HBk2 : Hid (∀ V, Calls Try.prog 48 #[.agg #[.int .i64 w, .int .i64 h, .bool true], .int .i64 y, .int .i64 far] V fun e w' => ∃ A' c', e = .returned (.slice A' L c') ∧ Hid (w'.ownsRow V.heap.size 3 1 (.slice A' L c') L ((bl.map fun i : Nat => (i : Int)).map (Value.int .i64))) ∧ Hid (Below V.heap.size V w')) := fun V => by
        have := HBk.out V
        unfold RowG at this
        rw [List.length_map, HL.out] at this
        exact this
      rw [HL.out] at hL100
      clear HBk hbm hcl hmz hzr
      go_wp2_with fail
      refine (HBk2.out _).mono ?_
      rintro e w5 ⟨A', c', rfl, hR, hB5⟩
      obtain ⟨B, HB⟩ : ∃ B, Hid (wr.heap.size = B) := ⟨_, rfl⟩
      have HBlt : Hid (W.heap.size + 3 ≤ B) := by show _ ≤ _; rw [← HB.out]; exact HA.out.lt
      have HA5 : Hid (Arrs W w5 (.cells #[.int .i64 w, .int .i64 h, .bool true] 57) Z (cA fun c => f c + (bl.take 0).count c)) := by
        show Arrs _ _ _ _ _
        rw [cA_congr (g := f) (fun i _ => by simp)]
        exact HA.out.below hB5.out
      have HR5 := Lib.hid hR.out
      rw [HB.out] at HR5
      clear HA hR hB5 l0 l1 l2 HBk2 hcx
      go_wp2
      go_loopw [23] (fun i wr => ∃ j : Nat, j ≤ L ∧ i = .int .i64 j ∧ Hid (Arrs W wr (.cells #[.int .i64 w, .int .i64 h, .bool true] 57) Z (cA fun c => f c + (bl.take j).count c)) ∧ Hid (wr.ownsRow B 3 1 (.slice A' L c') L ((bl.map fun i : Nat => (i : Int)).map (Value.int .i64)))) (fun i _ => L - (intOf i).toNat)
      case atStart => exact ⟨0, by omega, rfl, HA5, HR5⟩
      case round =>
        clear HA5 HR5
        obtain ⟨j, hj, rfl, HA, HRw⟩ := hrel
        by_cases hlj : j < L
        · have hjb : j < bl.length := by rw [HL.out]; exact hlj
          obtain ⟨A2, c2, he2, -, -, hRd⟩ := own_slice HRw.out (by rw [List.length_map, HL.out])
          injection he2 with he1 he2 he3
          subst he1 he3
          obtain ⟨b2, off2, x, rfl, hbw2, Hx2, hcx2⟩ := hRd.x (k := j) (by rw [List.length_map]; exact hjb)
          obtain ⟨v, hv⟩ : ∃ v, bl[j] = v := ⟨_, rfl⟩
          have hxv : x = (v : Int) := by rw [← Hx2.out, ← hv]; simp [List.getD, List.getElem?_eq_getElem hjb]
          subst hxv
          have hvn : v < n := by rw [← hv]; exact Hbm.out _ (List.getElem_mem hjb)
          have hv100 : v < 100 := by omega
          have Htk : Hid (∀ c, (bl.take (j + 1)).count c = (bl.take j).count c + if v = c then 1 else 0) := fun c => by
            rw [List.take_succ_eq_append_getElem hjb, hv, List.count_append, List.count_singleton]
            congr 1
            by_cases e : v = c <;> simp [e]
          have hcnt : (bl.take j).count v ≤ L := by
            have := List.count_le_length (a := v) (l := bl.take j)
            rw [List.length_take, HL.out] at this
            omega
          have hfv := Hcl.out v
          have cs := HA.out.cell (k := v) hv100
          have fs := HA.out.frozen v
          obtain ⟨u, Hu⟩ : ∃ u, Hid (f v + (bl.take j).count v = u) := ⟨_, rfl⟩
          have hu : u ≤ 1048776 := by rw [← Hu.out]; omega
          have hst := HA.out.set (k := v) (v := u + 1) hv100
          simp only [Hu.out] at cs
          have hwp : IntKind.i64.wrap ((u : Int) + 1) = ((u + 1 : Nat) : Int) := by rw [IntWalk.i64_in _ (by omega)]; omega
          have HST : Hid (Arrs W (wr.setCell ⟨W.heap.size + 2, v, none⟩ (.int .i64 ((u + 1 : Nat) : Int))) (.cells #[.int .i64 w, .int .i64 h, .bool true] 57) Z (cA fun c => f c + (bl.take (j + 1)).count c)) := by
            show Arrs _ _ _ _ _
            rw [cA_congr (g := fun i => if i = v then u + 1 else f i + (bl.take j).count i) (fun i _ => by
              rw [Htk.out i]
              by_cases e : i = v
              · subst e; rw [if_pos rfl, if_pos rfl, ← Hu.out]; omega
              · rw [if_neg e, if_neg (fun e2 => e e2.symm)]; rfl)]
            exact hst
          have HRw2 := Lib.hid (ownsRow_setCell_below HRw.out (a := ⟨W.heap.size + 2, v, none⟩) (by show W.heap.size + 2 < B; have := HBlt.out; omega) (.int .i64 ((u + 1 : Nat) : Int)))
          clear hst HA HRw hRd hbw2 hcnt hfv hv hjb
          go_wp2
          go_roundw
          case rel => exact ⟨j + 1, by omega, by go_num, HST, HRw2⟩
          case measure => simp [intOf]; omega
        · obtain rfl : j = L := by omega
          have HA2 : Hid (Arrs W wr (.cells #[.int .i64 w, .int .i64 h, .bool true] 57) Z (cA (cnF w h n far zs (m + 1)))) := by
            show Arrs _ _ _ _ _
            have := HA.out
            rw [← HL.out, List.take_length] at this
            rw [cA_congr (g := fun c => f c + bl.count c) (fun i _ => by rw [Hnx.out i, Hf.out, Hbl.out])]
            exact this
          clear HA HRw
          go_wp2
          go_roundw
          case rel => exact ⟨m + 1, by omega, by go_num, HA2⟩
          case measure => simp [intOf]; omega
    · obtain rfl : m = ln := by omega
      obtain ⟨O, HO⟩ : ∃ O, Hid (cA (cnF w h n far zs m) = O) := ⟨_, rfl⟩
      have hAr2 := HA.out
      have hZs : Z.size = 100 := by rw [← HZ.out]; exact cA_size _
      have hOs : O.size = 100 := by rw [← HO.out]; exact cA_size _
      have hO1 : O.all (·.oneCell') = true := by rw [← HO.out]; exact cA_one _
      rw [HO.out] at hAr2
      have HI3 : Hid ((Try.prog.info? 71).map (·.size) = some O.size) := by show _ = _; rw [hOs]; exact Hi.out
      have HC := Lib.hid hAr2.c
      have HRr := Lib.hid hAr2.r
      have HBb := Lib.hid hAr2.b
      have HZO : Hid (Z.size = O.size) := hZs.trans hOs.symm
      have HO1 := Lib.hid hO1
      clear hAr2 hZs hOs hO1 HA
      go_wp2_with (first
        | (refine wpList_load_row rfl 71 (.tmp 7) rfl (W.heap.size + 1 + 1) rfl 71 O (0, 0) _ HC.out Try.underlying71 rfl HI3.out ?_)
        | (refine wpList_store_row rfl 71 (.tmp 6) (.tmp 34) rfl (W.heap.size + 1) O rfl rfl 71 Z HRr.out HI3.out HZO.out HO1.out ?_))
      exact bodyPost_ret (v := .agg O) (results_cell_row Try.results61 _ _ (W.heap.size + 1) 71 O (0, 0) _ rfl (setRow_heap _ _ _ _ _ _ HRr.out) Try.underlying71 rfl HI3.out) rfl ⟨by rw [HO.out], below_setRow9 HBb.out (by omega)⟩
end Go.Proofs.Ytkgomgfhhhdnjaa
namespace Go.Proofs.Ytkgomgfhhhdnjaa
open Go.ChangeShapes Go.WideShapes Go.ChangeAt Go.RowKit
set_option linter.unusedVariables false
set_option maxRecDepth 4000

/-- A list of ints as a function is given it. -/
structure LstG (w : World) (A : Option Addr) (c m : Nat) (zs : List Int) : Prop where
  rd : RdI w w.heap.size A zs
  len : zs.length = m
  cap : m ≤ c ∧ c ≤ 9223372036854775807
  most : m ≤ 1048576
theorem LstG.later {w w' : World} {A : Option Addr} {c m : Nat} {zs : List Int} (h : LstG w A c m zs) (hb : Below w.heap.size w w') : LstG w' A c m zs :=
  ⟨(h.rd.below hb).more hb.size, h.len, h.cap, h.most⟩
def GPerf (F : Nat) : Prop := ∀ (w h : Int) (A : Option Addr) (c m : Nat) (zs : List Int) (far : Int) (W : World), LstG W A c m zs →
  Calls Try.prog F #[.int .i64 w, .int .i64 h, .slice A m c, .int .i64 far] W fun e w' => e = .returned (.bool (prf w h zs far)) ∧ Below W.heap.size W w'
/-- SlantCells. -/
def slG (w h a : Int) : List Int := if rok w h ∧ 0 ≤ a ∧ a < 5 then slL w.toNat (w.toNat * h.toNat) a.toNat else []
theorem slG_yes {w h a : Nat} (g : Rg w h) (ha : a < 5) : slG w h a = slL w (w * h) a := by
  unfold slG; rw [if_pos ⟨g.rok, by omega, by omega⟩]; rfl
theorem slG_no {w h a : Int} (hn : ¬ (rok w h ∧ 0 ≤ a ∧ a < 5)) : slG w h a = [] := by unfold slG; rw [if_neg hn]
def GSlant (F : Nat) : Prop := ∀ (w h a : Int) (W : World), Calls Try.prog F #[.int .i64 w, .int .i64 h, .int .i64 a] W (RowG (slG w h a) W)
theorem cast_beq (u v : Nat) : (((u : Nat) : Int) == ((v : Nat) : Int)) = decide (u = v) := by
  by_cases h : u = v
  · subst h; simp
  · rw [decide_eq_false h, beq_eq_false_iff_ne]; omega
theorem all_ones {w h n ln : Nat} {far : Int} {zs : List Int} (hn : n ≤ 100) (hl : zs.length = ln) : ((List.range 100).all fun i => ((cnF w h n far zs ln i : Nat) : Int) == ((if i < n then 1 else 0 : Nat) : Int)) = ones w h n far zs := by
  rw [Bool.eq_iff_iff, ones_iff, List.all_eq_true]
  have e : ∀ i, i < n → cnF w h n far zs ln i = nrC w h far i zs := fun i hi => by unfold cnF; rw [if_pos hi, ← hl, List.take_length]
  constructor
  · intro h1 c hc
    have := h1 c (List.mem_range.2 (by omega))
    rw [cast_beq, decide_eq_true_eq, e c hc, if_pos hc] at this
    exact this
  · intro h1 c _
    rw [cast_beq, decide_eq_true_eq]
    by_cases hc : c < n
    · rw [e c hc, if_pos hc]; exact h1 c hc
    · unfold cnF; rw [if_neg hc, if_neg hc]
theorem eql_cA (f g : Nat → Nat) (W : World) : (binOp .eql 71 (.agg (cA f)) (.agg (cA g))).run Try.prog W = .ok (.bool ((List.range 100).all fun i => ((f i : Nat) : Int) == ((g i : Nat) : Int))) W :=
  eql_counts W _ _ (fun i => ((f i : Nat) : Int)) (fun i => ((g i : Nat) : Int)) fun i hi => ⟨cA_get hi, cA_get hi⟩
set_option maxHeartbeats 800000 in
theorem slFn_any (x y a pa : Nat) (V : World) (hx : x < 10) (hy : y < 10) (hc : V.cell? ⟨pa, 0, none⟩ = some (.int .i64 a)) :
    Calls Try.prog 65 #[.agg #[.int .i64 x, .int .i64 y], .pointer (some ⟨pa, 0, none⟩)] V fun e V' => e = .returned (.bool (decide ((x + 2 * y) % 5 = a))) ∧ Below V.heap.size V V' := by
  have hV1 : Below V.heap.size V (V.alloc (.cells #[.int .i64 x, .int .i64 y] 75)) := (Below.refl _ _).alloc (Nat.le_refl _) _
  have hc2 : (V.alloc (.cells #[.int .i64 x, .int .i64 y] 75)).cell? ⟨pa, 0, none⟩ = some (.int .i64 a) := (hV1.cell (p := ⟨pa, 0, none⟩) (World.block_lt_of_cell? V _ hc)).trans hc
  have e1 : ((x : Int) + 2 * (y : Int)).tmod 5 = (((x + 2 * y) % 5 : Nat) : Int) := by
    rw [show ((x : Int) + 2 * (y : Int)) = ((x + 2 * y : Nat) : Int) by omega]; exact (Int.ofNat_tmod (x + 2 * y) 5).symm
  obtain ⟨u, Hu⟩ : ∃ u, Hid ((x + 2 * y) % 5 = u) := ⟨_, rfl⟩
  rw [Hu.out] at e1 ⊢
  have Hb := Lib.hid (cast_beq u a)
  have HV1 := Lib.hid hV1
  clear hV1
  go_enter Try.func65, Try.ntmps65
  go_wp2
  go_ret
  exact ⟨ret_bool Hb.out, HV1.out⟩
theorem cw_slant {w n a : Nat} : cwL (fun x y => decide ((x + 2 * y) % 5 = a)) w n = slL w n a := rfl
set_option maxHeartbeats 800000 in
theorem iSlantCells_ok : GSlant 32 := by
  intro w h a W
  have hW1 : Below W.heap.size W (W.alloc (.cells #[.int .i64 a] 3)) := (Below.refl _ _).alloc (Nat.le_refl _) _
  have hc : (W.alloc (.cells #[.int .i64 a] 3)).cell? ⟨W.heap.size, 0, none⟩ = some (.int .i64 a) := (cell_of_row _ _ _ _ _ _ (heap_alloc_new _ _)).trans rfl
  obtain ⟨W1, HW1⟩ : ∃ W1, Hid (W.alloc (.cells #[.int .i64 a] 3) = W1) := ⟨_, rfl⟩
  rw [HW1.out] at hW1 hc
  have HB1 := Lib.hid hW1
  have HV := Lib.hid (iRing_any w h W1)
  by_cases hg : rok w h
  · rw [decide_eq_true hg] at HV
    obtain ⟨x, y, rfl, rfl, g⟩ := rok_nat hg
    by_cases ha0 : a < 0
    · have Hs := Lib.hid (rowG_nil (slG_no (w := x) (h := y) (a := a) (fun hh => by omega)) HB1.out)
      clear hg g hW1
      go_enter Try.func32, Try.ntmps32
      go_wp2_with fail
      rw [HW1.out]
      refine HV.out.mono ?_
      rintro e w' ⟨rfl, rfl⟩
      go_wp2
      go_ret
      exact Hs.out
    · by_cases ha5 : 5 ≤ a
      · have Hs := Lib.hid (rowG_nil (slG_no (w := x) (h := y) (a := a) (fun hh => by omega)) HB1.out)
        clear hg g hW1
        go_enter Try.func32, Try.ntmps32
        go_wp2_with fail
        rw [HW1.out]
        refine HV.out.mono ?_
        rintro e w' ⟨rfl, rfl⟩
        go_wp2
        go_ret
        exact Hs.out
      · obtain ⟨a, rfl⟩ := Int.eq_ofNat_of_zero_le (show 0 ≤ a by omega)
        have Hs := Lib.hid (slG_yes g (show a < 5 by omega))
        have HO := Lib.hid (iClosed_any x y W1)
        have HC : Hid (∀ V, Below W1.heap.size W1 V → Calls Try.prog 64 #[.agg #[.int .i64 x, .int .i64 y, .bool true], .func (.func 65) #[] #[.pointer (some ⟨W.heap.size, 0, none⟩)]] V (RowG (slL x (x * y) a) V)) := fun V hb =>
          cwSlant_any (fun u v => decide ((u + 2 * v) % 5 = a)) x y (x * y) true W.heap.size V g.w1 g.w10 g.h10 rfl fun u v V' hu hv hb' => slFn_any u v a W.heap.size V' (by have := g.w10; omega) (by have := g.h10; omega) ((Below.cell (hb.trans (hb'.mono hb.size)) (p := ⟨W.heap.size, 0, none⟩) (World.block_lt_of_cell? W1 _ hc)).trans hc)
        obtain ⟨xs, Hx⟩ : ∃ xs, Hid (slL x (x * y) a = xs) := ⟨_, rfl⟩
        rw [Hs.out, Hx.out]
        rw [Hx.out] at HC
        have ha6 : (a : Int) < 5 := by omega
        clear hg g hW1 ha0 ha5 Hs
        go_enter Try.func32, Try.ntmps32
        go_wp2_with fail
        rw [HW1.out]
        refine HV.out.mono ?_
        rintro e w' ⟨rfl, rfl⟩
        go_wp2_with fail
        refine HO.out.mono ?_
        rintro e w2 ⟨rfl, hb2⟩
        have HB2 := Lib.hid (HB1.out.trans (hb2.mono HB1.out.size))
        have HC2 := Lib.hid (HC.out w2 hb2)
        clear hb2
        go_wp2_with fail
        refine HC2.out.mono ?_
        rintro e w3 ⟨A', c', rfl, hO2, hb3⟩
        have HD : Hid (RowG xs W (.returned (.slice A' xs.length c')) w3) := ⟨_, _, rfl, ownG_base hO2.out HB2.out.size, HB2.out.trans (hb3.out.mono HB2.out.size)⟩
        clear hO2 hb3
        go_wp2
        go_ret
        exact HD.out
  · rw [decide_eq_false hg] at HV
    have Hs := Lib.hid (rowG_nil (slG_no (w := w) (h := h) (a := a) (fun hh => hg hh.1)) HB1.out)
    clear hg hW1
    go_enter Try.func32, Try.ntmps32
    go_wp2_with fail
    rw [HW1.out]
    refine HV.out.mono ?_
    rintro e w' ⟨rfl, rfl⟩
    go_wp2
    go_ret
    exact Hs.out
set_option maxHeartbeats 1600000 in
theorem iIsPerfect_ok : GPerf 29 := by
  intro w h A c m zs far W hin
  have HV := Lib.hid (iRing_any w h W)
  by_cases hg : rok w h
  · rw [decide_eq_true hg] at HV
    obtain ⟨x, y, rfl, rfl, g⟩ := rok_nat hg
    have hm : (x : Int) * (y : Int) = ((x * y : Nat) : Int) := (Int.natCast_mul x y).symm
    have hn100 := g.n100
    have HA := Lib.hid (ascBelow_any A c m ((x * y : Nat) : Int) zs W _ hin.rd hin.len (by have := hin.most; omega))
    by_cases ha : AscL ((x * y : Nat) : Int) zs m
    · rw [decide_eq_true ha] at HA
      have ha2 : AscL ((x * y : Nat) : Int) zs zs.length := by rw [hin.len]; exact ha
      by_cases hf : 0 ≤ far ∧ far ≤ 50
      · have HF := Lib.hid (farOk_yes far W hf.1 hf.2)
        have Hs := Lib.hid (prf_yes g hf.1 hf.2 ha2)
        have HO := Lib.hid (iClosed_any x y W)
        have Hz := Lib.hid (ascL_rng ha2)
        obtain ⟨n, Hn⟩ : ∃ n, Hid (x * y = n) := ⟨_, rfl⟩
        rw [Hn.out] at hm HA Hs Hz hn100
        have HE := Lib.hid (fun V => eql_cA (cnF x y n far zs m) (fun i => if i < n then 1 else 0) V)
        rw [all_ones hn100 hin.len] at HE
        obtain ⟨r, Hr⟩ : ∃ r, Hid (ones x y n far zs = r) := ⟨_, rfl⟩
        rw [Hr.out] at HE Hs
        have HN := Lib.hid (fun (V : World) (hb : Below W.heap.size W V) => nearCounts_any x y n far A c m zs V g.w1 g.w10 g.h10 Hn.out ((hin.rd.below hb).more hb.size) hin.len hin.most Hz.out)
        have H1 := Lib.hid (fun V => oneEach_any x y n true V g.w1 g.w10 g.h10 Hn.out)
        obtain ⟨X, HX⟩ : ∃ X, Hid (cA (cnF x y n far zs m) = X) := ⟨_, rfl⟩
        obtain ⟨Y, HY⟩ : ∃ Y, Hid (cA (fun i => if i < n then 1 else 0) = Y) := ⟨_, rfl⟩
        unfold CntPost at HN H1
        rw [HX.out] at HN HE
        rw [HY.out] at H1 HE
        rw [Hs.out]
        have hE := HE.out
        clear hg g ha ha2 hf hin
        go_enter Try.func29, Try.ntmps29
        go_wp2_with fail
        refine HV.out.mono ?_
        rintro e w' ⟨rfl, rfl⟩
        go_wp2_with fail
        refine HA.out.mono ?_
        rintro e w' ⟨rfl, rfl⟩
        go_wp2_with fail
        refine HF.out.mono ?_
        rintro e w' ⟨rfl, rfl⟩
        go_wp2_with fail
        refine HO.out.mono ?_
        rintro e w2 ⟨rfl, hb2⟩
        have hV1 : Below w2.heap.size w2 (w2.alloc (.cells #[.int .i64 x, .int .i64 y, .bool true] 57)) := (Below.refl _ _).alloc (Nat.le_refl _) _
        have hg0 : (w2.alloc (.cells #[.int .i64 x, .int .i64 y, .bool true] 57)).heap[w2.heap.size]? = some (.cells #[.int .i64 x, .int .i64 y, .bool true] 57) := heap_alloc_new _ _
        obtain ⟨V1, HV1⟩ : ∃ V1, Hid (w2.alloc (.cells #[.int .i64 x, .int .i64 y, .bool true] 57) = V1) := ⟨_, rfl⟩
        rw [HV1.out] at hV1 hg0
        have HBV := Lib.hid (hb2.trans (hV1.mono hb2.size))
        obtain ⟨B, HB⟩ : ∃ B, Hid (w2.heap.size = B) := ⟨_, rfl⟩
        rw [HB.out] at hg0
        have x0 : V1.cell? ⟨B, 0, none⟩ = some (.int .i64 x) := (cell_of_row _ _ _ _ _ _ hg0).trans rfl
        have x1 : V1.cell? ⟨B, 1, none⟩ = some (.int .i64 y) := (cell_of_row _ _ _ _ _ _ hg0).trans rfl
        have x2 : V1.cell? ⟨B, 2, none⟩ = some (.bool true) := (cell_of_row _ _ _ _ _ _ hg0).trans rfl
        have K : Hid (∀ W', Below V1.heap.size V1 W' → W'.cell? ⟨B, 0, none⟩ = some (.int .i64 x) ∧ W'.cell? ⟨B, 1, none⟩ = some (.int .i64 y) ∧ W'.cell? ⟨B, 2, none⟩ = some (.bool true)) := fun W' hb =>
          ⟨(hb.cell (p := ⟨B, 0, none⟩) (World.block_lt_of_cell? V1 _ x0)).trans x0, (hb.cell (p := ⟨B, 1, none⟩) (World.block_lt_of_cell? V1 _ x1)).trans x1, (hb.cell (p := ⟨B, 2, none⟩) (World.block_lt_of_cell? V1 _ x2)).trans x2⟩
        have HN1 : Hid (∀ V, Below V1.heap.size V1 V → Calls Try.prog 61 #[.agg #[.int .i64 x, .int .i64 y, .bool true], .slice A m c, .int .i64 far] V fun e w' => e = .returned (.agg X) ∧ Below V.heap.size V w') := fun V hb => HN.out V (HBV.out.trans (hb.mono HBV.out.size))
        clear hb2 hV1 hg0 HN
        go_wp2
        rw [HV1.out]
        rw [HB.out]
        go_region_held3 (fun W' => W'.cell? ⟨B, 0, none⟩ = some (.int .i64 x) ∧ W'.cell? ⟨B, 1, none⟩ = some (.int .i64 y) ∧ W'.cell? ⟨B, 2, none⟩ = some (.bool true))
          (first
            | go_keep
            | exact K.out _ hbn
            | exact K.out _ hbo)
          (first
            | (go_at_call 61
               refine (HN1.out _ (Below.refl _ _).drew).mono ?_
               rintro e wn ⟨rfl, hqn⟩
               have hbn : Below V1.heap.size V1 wn := below9 hqn)
            | (go_at_call 62
               refine (H1.out _).mono ?_
               rintro e wo ⟨rfl, hqo⟩
               have hbo : Below V1.heap.size V1 wo := hbn.trans (hqo.mono hbn.size)))
        all_goals
          have hfin : Below W.heap.size W wo := HBV.out.trans (hbo.mono HBV.out.size)
          go_wp2
          go_ret
          exact ⟨rfl, hfin⟩
      · have HF := Lib.hid (farOk_no far W (by omega))
        have Hs := Lib.hid (prf_no (w := x) (h := y) (zs := zs) (far := far) (.inr (.inl (by omega))))
        rw [Hs.out]
        obtain ⟨n, Hn⟩ : ∃ n, Hid (x * y = n) := ⟨_, rfl⟩
        rw [Hn.out] at hm HA hn100
        clear hg g ha ha2 hf hin
        go_enter Try.func29, Try.ntmps29
        go_wp2_with fail
        refine HV.out.mono ?_
        rintro e w' ⟨rfl, rfl⟩
        go_wp2_with fail
        refine HA.out.mono ?_
        rintro e w' ⟨rfl, rfl⟩
        go_wp2_with fail
        refine HF.out.mono ?_
        rintro e w' ⟨rfl, rfl⟩
        go_wp2
        go_ret
        exact ⟨rfl, Below.refl _ _⟩
    · rw [decide_eq_false ha] at HA
      have Hs := Lib.hid (prf_no (w := x) (h := y) (zs := zs) (far := far) (.inr (.inr (by rw [hm, hin.len]; exact ha))))
      rw [Hs.out]
      obtain ⟨n, Hn⟩ : ∃ n, Hid (x * y = n) := ⟨_, rfl⟩
      rw [Hn.out] at hm HA hn100
      clear hg g ha hin
      go_enter Try.func29, Try.ntmps29
      go_wp2_with fail
      refine HV.out.mono ?_
      rintro e w' ⟨rfl, rfl⟩
      go_wp2_with fail
      refine HA.out.mono ?_
      rintro e w' ⟨rfl, rfl⟩
      go_wp2
      go_ret
      exact ⟨rfl, Below.refl _ _⟩
  · rw [decide_eq_false hg] at HV
    have Hs := Lib.hid (prf_no (w := w) (h := h) (zs := zs) (far := far) (.inl hg))
    rw [Hs.out]
    clear hg hin
    go_enter Try.func29, Try.ntmps29
    go_wp2_with fail
    refine HV.out.mono ?_
    rintro e w' ⟨rfl, rfl⟩
    go_wp2
    go_ret
    exact ⟨rfl, Below.refl _ _⟩
end Go.Proofs.Ytkgomgfhhhdnjaa
namespace Go.Proofs.Ytkgomgfhhhdnjaa
open Go.ChangeShapes Go.WideShapes Go.ChangeAt Go.RowKit
set_option linter.unusedVariables false

/-- A quiet call inside a region that draws its order, whatever has been drawn before it. -/
theorem quiet_gen {P : Program} {f : FuncId} {args : Array Value} {W : World} {v : Value} {R : Nat → World}
    (h : Calls P f args W fun e w' => e = .returned v ∧ W = w') (hW : ∃ m, W = R m) : Calls P f args W fun e w'' => e = .returned v ∧ ∃ m, w'' = R m :=
  h.mono fun _ _ ⟨he, hm⟩ => ⟨he, by obtain ⟨m, e⟩ := hW; exact ⟨m, hm.symm.trans e⟩⟩
theorem inRange_yes (n a b : Int) (w : World) (h1 : a ≤ n) (h2 : n ≤ b) :
    Calls Try.prog 50 #[.int .i64 n, .int .i64 a, .int .i64 b] w fun e w' => e = .returned (.bool true) ∧ w = w' :=
  (inRange_any n a b w).mono fun _ _ ⟨he, hw⟩ => ⟨by rw [he]; simp [h1, h2], hw⟩
theorem inRange_no (n a b : Int) (w : World) (h : n < a ∨ b < n) :
    Calls Try.prog 50 #[.int .i64 n, .int .i64 a, .int .i64 b] w fun e w' => e = .returned (.bool false) ∧ w = w' :=
  (inRange_any n a b w).mono fun _ _ ⟨he, hw⟩ => ⟨by rw [he]; rcases h with h | h <;> simp <;> omega, hw⟩

end Go.Proofs.Ytkgomgfhhhdnjaa
namespace Go.Proofs.Ytkgomgfhhhdnjaa
open Go.ChangeShapes Go.WideShapes Go.ChangeAt Go.RowKit
set_option linter.unusedVariables false
set_option maxRecDepth 4000

theorem sValid_any (w h : Int) (V : World) : Calls Try.prog 49 #[.int .i64 w, .int .i64 h] V fun e w' => e = .returned (.bool (decide (gok w h))) ∧ V = w' := by
  by_cases h1 : 1 ≤ w ∧ w ≤ 5
  · have H1 := Lib.hid (inRange_yes w 1 5 V h1.1 h1.2)
    by_cases h2 : 1 ≤ h ∧ h ≤ 5
    · have H2 := Lib.hid (inRange_yes h 1 5 V h2.1 h2.2)
      obtain ⟨a, rfl⟩ := Int.eq_ofNat_of_zero_le (show 0 ≤ w by omega)
      obtain ⟨b, rfl⟩ := Int.eq_ofNat_of_zero_le (show 0 ≤ h by omega)
      have hb : a * b ≤ 25 := Nat.mul_le_mul (show a ≤ 5 by omega) (show b ≤ 5 by omega)
      have Hg : Hid (decide (gok (a : Int) (b : Int)) = decide (((a * b : Nat) : Int) ≤ 10)) := by
        show _ = _
        rw [decide_eq_decide]; unfold gok; rw [← Int.natCast_mul]; omega
      rw [Hg.out]
      have hm : (a : Int) * (b : Int) = ((a * b : Nat) : Int) := (Int.natCast_mul a b).symm
      obtain ⟨n, Hn⟩ : ∃ n, Hid (a * b = n) := ⟨_, rfl⟩
      rw [Hn.out] at hm hb ⊢
      clear h1 h2
      by_cases h5 : (n : Int) ≤ 10
      · go_enter Try.func49, Try.ntmps49
        go_wp2_with fail
        refine H1.out.mono ?_
        rintro e w' ⟨rfl, rfl⟩
        go_wp2_with fail
        refine H2.out.mono ?_
        rintro e w' ⟨rfl, rfl⟩
        go_wp2
        go_ret
        exact ⟨ret_bool (by rw [decide_eq_true h5]), rfl⟩
      · go_enter Try.func49, Try.ntmps49
        go_wp2_with fail
        refine H1.out.mono ?_
        rintro e w' ⟨rfl, rfl⟩
        go_wp2_with fail
        refine H2.out.mono ?_
        rintro e w' ⟨rfl, rfl⟩
        go_wp2
        go_ret
        exact ⟨ret_bool (by rw [decide_eq_false (show ¬ (n : Int) ≤ 10 by omega)]), rfl⟩
    · have H2 := Lib.hid (inRange_no h 1 5 V (by omega))
      have Hg : Hid (decide (gok w h) = false) := decide_eq_false (by unfold gok; omega)
      rw [Hg.out]
      clear h1 h2
      go_enter Try.func49, Try.ntmps49
      go_wp2_with fail
      refine H1.out.mono ?_
      rintro e w' ⟨rfl, rfl⟩
      go_wp2_with fail
      refine H2.out.mono ?_
      rintro e w' ⟨rfl, rfl⟩
      go_wp2
      go_ret
      exact ⟨rfl, rfl⟩
  · have H1 := Lib.hid (inRange_no w 1 5 V (by omega))
    have Hg : Hid (decide (gok w h) = false) := decide_eq_false (by unfold gok; omega)
    rw [Hg.out]
    clear h1
    go_enter Try.func49, Try.ntmps49
    go_wp2_with fail
    refine H1.out.mono ?_
    rintro e w' ⟨rfl, rfl⟩
    go_wp2
    go_ret
    exact ⟨rfl, rfl⟩
theorem sGap_any (a b g : Nat) (V : World) (ha : a < 1000) (hb : b < 1000) (hg : gpN a b = g) : Calls Try.prog 72 #[.int .i64 a, .int .i64 b] V fun e w' => e = .returned (.int .i64 (g : Nat)) ∧ V = w' :=
  (gap_any (a : Int) (b : Int) V (by omega) (by omega) (by omega) (by omega)).mono fun e w' h => ⟨by rw [h.1, gapI_gpN rfl rfl, hg], h.2⟩
set_option maxHeartbeats 800000 in
theorem sSteps_any (w a b : Nat) (V : World) (hw1 : 1 ≤ w) (hw : w ≤ 10) (ha : a < 100) (hb : b < 100) : Calls Try.prog 51 #[.int .i64 w, .int .i64 a, .int .i64 b] V fun e w' => e = .returned (.int .i64 (stN w a b : Nat)) ∧ ∃ q, w' = V.drewN q := by
  have e1 : (a : Int).tdiv (w : Int) = ((a / w : Nat) : Int) := (Int.ofNat_tdiv a w).symm
  have e2 : (b : Int).tdiv (w : Int) = ((b / w : Nat) : Int) := (Int.ofNat_tdiv b w).symm
  have e3 : (a : Int).tmod (w : Int) = ((a % w : Nat) : Int) := (Int.ofNat_tmod a w).symm
  have e4 : (b : Int).tmod (w : Int) = ((b % w : Nat) : Int) := (Int.ofNat_tmod b w).symm
  have l1 : a / w ≤ a := Nat.div_le_self _ _
  have l2 : b / w ≤ b := Nat.div_le_self _ _
  have l3 := Nat.mod_lt a hw1
  have l4 := Nat.mod_lt b hw1
  have HS : Hid (stN w a b = gpN (a / w) (b / w) + gpN (a % w) (b % w)) := rfl
  obtain ⟨x, Hx⟩ : ∃ x, Hid (a / w = x) := ⟨_, rfl⟩
  obtain ⟨y, Hy⟩ : ∃ y, Hid (b / w = y) := ⟨_, rfl⟩
  obtain ⟨u, Hu⟩ : ∃ u, Hid (a % w = u) := ⟨_, rfl⟩
  obtain ⟨v, Hv⟩ : ∃ v, Hid (b % w = v) := ⟨_, rfl⟩
  rw [Hx.out] at e1 l1 HS
  rw [Hy.out] at e2 l2 HS
  rw [Hu.out] at e3 l3 HS
  rw [Hv.out] at e4 l4 HS
  rw [HS.out]
  have hx : x < 1000 := by omega
  have hy : y < 1000 := by omega
  have hu : u < 1000 := by omega
  have hv : v < 1000 := by omega
  have b1 := gpN_le x y
  have b2 := gpN_le u v
  obtain ⟨g, hg⟩ : ∃ g, gpN x y = g := ⟨_, rfl⟩
  obtain ⟨k, hk⟩ : ∃ k, gpN u v = k := ⟨_, rfl⟩
  rw [hg] at b1 ⊢
  rw [hk] at b2 ⊢
  have hne : ¬ (w : Int) = 0 := by omega
  have hz : ((w : Int) == 0) = false := by rw [beq_eq_false_iff_ne]; exact hne
  have hwp : IntKind.i64.wrap ((g : Int) + (k : Int)) = ((g + k : Nat) : Int) := by rw [IntWalk.i64_in _ (by omega)]; omega
  have HG := Lib.hid sGap_any
  go_enter Try.func51, Try.ntmps51
  go_wp2
  go_quiet ((go_at_call 72; exact quiet_gen (HG.out _ _ _ _ (by assumption) (by assumption) (by assumption)) ⟨_, rfl⟩))
  go_wp2
  go_ret
  exact ⟨rfl, _, rfl⟩
set_option maxHeartbeats 1600000 in
theorem sBallOf_ok : GRow4 19 := by
  intro w h c far W
  obtain ⟨i0, hi0, hz0, hz1, hz2⟩ := info_parts intInfo
  have HV := Lib.hid (sValid_any w h W)
  by_cases hg : gok w h
  · rw [decide_eq_true hg] at HV
    obtain ⟨a, b, rfl, rfl, g⟩ := gok_nat hg
    have hm : (a : Int) * (b : Int) = ((a * b : Nat) : Int) := (Int.natCast_mul a b).symm
    have hn10 := g.n10
    have hn1 := g.n1
    have haw := g.w1
    have haw5 := g.w5
    by_cases hc : 0 ≤ c ∧ c < (a : Int) * (b : Int)
    · obtain ⟨k, rfl⟩ := Int.eq_ofNat_of_zero_le hc.1
      have hk : k < a * b := by omega
      have HC := Lib.hid (inRange_yes (k : Int) 0 (((a * b : Nat) : Int) - 1) W (by omega) (by omega))
      by_cases hf : 0 ≤ far ∧ far ≤ 50
      · have HF := Lib.hid (inRange_yes far 0 50 W hf.1 hf.2)
        have Hs := Lib.hid (blG_yes g hk hf.1 hf.2)
        obtain ⟨n, Hn⟩ : ∃ n, Hid (a * b = n) := ⟨_, rfl⟩
        rw [Hn.out] at hm hk Hs hn10 hn1 HC
        rw [Hs.out]
        have HST := Lib.hid (fun (i : Nat) (V : World) (hi : i < n) => sSteps_any a k i V haw (by omega) (by omega) (by omega))
        have HO0 : Hid (OwnG (W.alloc (.cells #[] 3)) W.heap.size W.heap.size 0 0 (ballL a 0 k far)) := ⟨rfl, World.ownsRow_lit W #[] 0 (Nat.le_refl _) (by decide) rfl⟩
        have HB0 : Hid (Below W.heap.size W (W.alloc (.cells #[] 3))) := (Below.refl _ _).alloc (Nat.le_refl _) _
        have hwm : IntKind.i64.wrap ((n : Int) - 1) = (n : Int) - 1 := IntWalk.i64_in _ (by omega)
        clear hg hf g hc Hs
        go_enter Try.func19, Try.ntmps19
        go_wp2_with fail
        refine HV.out.mono ?_
        rintro e w' ⟨rfl, rfl⟩
        go_wp2_with fail
        refine HC.out.mono ?_
        rintro e w' ⟨rfl, rfl⟩
        go_wp2_with fail
        refine HF.out.mono ?_
        rintro e w' ⟨rfl, rfl⟩
        go_wp2
        go_loopw [9, 10] (fun o i wr => ∃ m g c L : Nat, m ≤ n ∧ L ≤ m ∧ o = .slice (some ⟨g, 0, none⟩) L c ∧ i = .int .i64 m ∧ Hid (OwnG wr W.heap.size g c L (ballL a m k far)) ∧ Hid (Below W.heap.size W wr)) (fun _ i _ => n - (intOf i).toNat)
        case atStart => exact ⟨0, _, 0, 0, by omega, by omega, rfl, rfl, HO0, HB0⟩
        case round =>
          clear HO0 HB0
          obtain ⟨m, g, c, L, hm', hLm, rfl, rfl, HO, HB⟩ := hrel
          by_cases hlt : m < n
          · go_wp2_with fail
            refine (HST.out m _ hlt).mono ?_
            rintro e w2 ⟨rfl, q, rfl⟩
            obtain ⟨s, Hs⟩ : ∃ s, Hid (stN a k m = s) := ⟨_, rfl⟩
            rw [Hs.out]
            have HO2 : Hid (OwnG (wr.drewN q) W.heap.size g c L (ballL a m k far)) := HO.out
            have HB2 := Lib.hid (below_drewN HB.out q)
            by_cases hd : (s : Int) ≤ far
            · have HT : Hid (ballL a (m + 1) k far = ballL a m k far ++ [(m : Int)]) := by
                show _ = _
                unfold ballL ballN
                rw [List.range_succ, List.filter_append, List.map_append]
                have : decide (stG a k m ≤ far) = true := decide_eq_true (by unfold stG; rw [Hs.out]; exact hd)
                simp [this]
              have Hlen := Lib.hid HO2.out.1
              have Hown := Lib.hid HO2.out.2
              have hsz : L + 1 ≤ maxLen := by unfold maxLen; omega
              have hsz2 : (L + 1) * 8 ≤ 140737488355328 := by omega
              have hsz3 : W.heap.size ≤ ((wr.drewN q).alloc (.cells #[.int .i64 m] 3)).heap.size := by rw [size_alloc1]; have := HB2.out.size; omega
              clear HO HB
              go_wp2_with (at_builtin; refine wpList_append_lies _ rfl _ _ 25 rfl W.heap.size 3 i0 _ 1 8 Try.underlying25 hi0 hz0 hz1 hz2 rfl (by decide) _ _ _ rfl (Hown.out.alloc _) ⟨(wr.drewN q).heap.size, 0, none⟩ 1 1 [.int .i64 m] rfl rfl (cell_one_new _ _ _) (by intro u hu; simp at hu; subst hu; rfl) (by decide) hsz hsz2 hsz3 _ rfl ?_; intro g3 c3 w4 hown4 hgrow4 hat4 hlt4)
              have HO4 : Hid (OwnG w4 W.heap.size g3 c3 (L + 1) (ballL a (m + 1) k far)) := by show OwnG _ _ _ _ _ _; rw [HT.out]; exact ownG_push Hlen.out hown4
              have HB4 : Hid (Below W.heap.size W w4) := (HB2.out.alloc HB2.out.size _).grown hgrow4 hsz3 (fun q hq => (Hown.out.lt q hq).1)
              clear hown4 hgrow4 hat4 hlt4 Hown HO2 hsz hsz2 hsz3
              go_wp2
              go_roundw
              case rel => exact ⟨m + 1, g3, c3, L + 1, by omega, by omega, rfl, by go_num, HO4, HB4⟩
              case measure => simp [intOf]; omega
            · have HO4 : Hid (OwnG (wr.drewN q) W.heap.size g c L (ballL a (m + 1) k far)) := by
                show OwnG _ _ _ _ _ _
                have : ballL a (m + 1) k far = ballL a m k far := by
                  unfold ballL ballN
                  rw [List.range_succ, List.filter_append, List.map_append]
                  have : decide (stG a k m ≤ far) = false := decide_eq_false (by unfold stG; rw [Hs.out]; exact hd)
                  simp [this]
                rw [this]; exact HO2.out
              clear HO HB
              go_wp2
              go_roundw
              case rel => exact ⟨m + 1, g, c, L, by omega, by omega, rfl, by go_num, HO4, HB2⟩
              case measure => simp [intOf]; omega
          · obtain rfl : m = n := by omega
            have HD := Lib.hid (HO.out.row HB.out)
            go_wp2
            go_ret
            exact HD.out
      · have HF := Lib.hid (inRange_no far 0 50 W (by omega))
        have Hs := Lib.hid (rowG_nil (blG_no (w := a) (h := b) (c := k) (far := far) (fun hh => hf hh.2.2)) (Below.refl W.heap.size W))
        obtain ⟨n, Hn⟩ : ∃ n, Hid (a * b = n) := ⟨_, rfl⟩
        rw [Hn.out] at hm hk hn10 HC
        have hwm : IntKind.i64.wrap ((n : Int) - 1) = (n : Int) - 1 := IntWalk.i64_in _ (by omega)
        clear hg hf g hc
        go_enter Try.func19, Try.ntmps19
        go_wp2_with fail
        refine HV.out.mono ?_
        rintro e w' ⟨rfl, rfl⟩
        go_wp2_with fail
        refine HC.out.mono ?_
        rintro e w' ⟨rfl, rfl⟩
        go_wp2_with fail
        refine HF.out.mono ?_
        rintro e w' ⟨rfl, rfl⟩
        go_wp2
        go_ret
        exact Hs.out
    · have Hs := Lib.hid (rowG_nil (blG_no (w := a) (h := b) (c := c) (far := far) (fun hh => hc hh.2.1)) (Below.refl W.heap.size W))
      rw [hm] at hc
      have HC := Lib.hid (inRange_no c 0 (((a * b : Nat) : Int) - 1) W (by omega))
      obtain ⟨n, Hn⟩ : ∃ n, Hid (a * b = n) := ⟨_, rfl⟩
      rw [Hn.out] at hm hn10 HC
      have hwm : IntKind.i64.wrap ((n : Int) - 1) = (n : Int) - 1 := IntWalk.i64_in _ (by omega)
      clear hg g hc
      go_enter Try.func19, Try.ntmps19
      go_wp2_with fail
      refine HV.out.mono ?_
      rintro e w' ⟨rfl, rfl⟩
      go_wp2_with fail
      refine HC.out.mono ?_
      rintro e w' ⟨rfl, rfl⟩
      go_wp2
      go_ret
      exact Hs.out
  · rw [decide_eq_false hg] at HV
    have Hs := Lib.hid (rowG_nil (blG_no (w := w) (h := h) (c := c) (far := far) (fun hh => hg hh.1)) (Below.refl W.heap.size W))
    clear hg
    go_enter Try.func19, Try.ntmps19
    go_wp2_with fail
    refine HV.out.mono ?_
    rintro e w' ⟨rfl, rfl⟩
    go_wp2
    go_ret
    exact Hs.out
end Go.Proofs.Ytkgomgfhhhdnjaa
namespace Go.Proofs.Ytkgomgfhhhdnjaa
open Go.ChangeShapes Go.WideShapes Go.ChangeAt Go.RowKit
set_option linter.unusedVariables false
set_option maxRecDepth 4000

theorem power_any (n : Nat) (w : World) (hn : n ≤ 7) : Calls Try.prog 76 #[.int .i64 n] w fun e w' => e = .returned (.int .i64 ((2 ^ n : Nat) : Int)) ∧ w = w' := by
  go_enter Try.func76, Try.ntmps76
  go_wp2
  go_loop [0, 3] (fun a o => ∃ k m : Nat, k + m = n ∧ a = .int .i64 m ∧ o = .int .i64 ((2 ^ k : Nat) : Int)) (fun a _ => (intOf a).toNat)
  case atStart => exact ⟨0, n, by omega, rfl, rfl⟩
  case round =>
    obtain ⟨k, m, hkm, rfl, rfl⟩ := hrel
    by_cases hm : 0 < m
    · have hp : 2 ^ k ≤ 2 ^ 7 := Nat.pow_le_pow_right (by omega) (by omega)
      have hs : Hid (2 ^ (k + 1) = 2 * 2 ^ k) := by show _ = _; rw [Nat.pow_succ]; omega
      obtain ⟨P, HP⟩ : ∃ P : Nat, Hid (2 ^ k = P) := ⟨2 ^ k, rfl⟩
      rw [HP.out] at hp hs ⊢
      go_wp2
      go_round
      case rel => exact ⟨k + 1, m - 1, by omega, by go_num, by rw [hs.out]; go_num⟩
      case measure => simp [intOf]; omega
    · have hkn : k = n := by omega
      subst hkn
      go_wp2
      go_ret
      exact ⟨rfl, rfl⟩
theorem bit_num : ∀ s : Fin 128, ∀ i : Fin 7, ((s.val : Int).tdiv ((2 ^ i.val : Nat) : Int)).tmod 2 = if s.val.testBit i.val = true then 1 else 0 := by decide +kernel
theorem bit_is (s i : Nat) (w : World) (hs : s < 128) (hi : i < 7) {z : Int} (hz : (if s.testBit i = true then (1 : Int) else 0) = z) : Calls Try.prog 77 #[.int .i64 s, .int .i64 i] w fun e w' => e = .returned (.int .i64 z) ∧ w = w' := by
  have hb := bit_num ⟨s, hs⟩ ⟨i, hi⟩
  simp only at hb
  rw [hz] at hb
  have hp : 0 < 2 ^ i := Nat.two_pow_pos i
  have Hp := Lib.hid (power_any i w (by omega))
  obtain ⟨P, HP⟩ : ∃ P : Nat, Hid (2 ^ i = P) := ⟨2 ^ i, rfl⟩
  have hd : s / P ≤ s := Nat.div_le_self _ _
  rw [HP.out] at hp hb Hp
  have hdv : (s : Int).tdiv (P : Int) = ((s / P : Nat) : Int) := (Int.ofNat_tdiv s P).symm
  have hdv2 : (s : Int) / (P : Int) = ((s / P : Nat) : Int) := (Int.natCast_ediv s P).symm
  rw [hdv] at hb
  obtain ⟨D, HD⟩ : ∃ D : Nat, Hid (s / P = D) := ⟨s / P, rfl⟩
  rw [HD.out] at hb hdv hdv2 hd
  have Hb := Lib.hid hb
  clear hb hz
  have hne : ¬ (P : Int) = 0 := by omega
  go_enter Try.func77, Try.ntmps77
  go_wp2_with fail
  refine Hp.out.mono ?_
  rintro e w' ⟨rfl, rfl⟩
  go_wp2
  go_ret
  exact ⟨ret_int Hb.out, rfl⟩
theorem bit_any (s i : Nat) (w : World) (hs : s < 128) (hi : i < 7) : Calls Try.prog 77 #[.int .i64 s, .int .i64 i] w fun e w' => e = .returned (.int .i64 (if s.testBit i = true then 1 else 0)) ∧ w = w' := bit_is s i w hs hi rfl
theorem bits_num : ∀ s : Fin 128, bc 7 s.val = s.val % 2 + bc 7 (s.val / 2) := by decide +kernel
theorem bits_any (s : Nat) (w : World) (hs : s < 128) : Calls Try.prog 78 #[.int .i64 s] w fun e w' => e = .returned (.int .i64 ((bc 7 s : Nat) : Int)) ∧ w = w' := by
  go_enter Try.func78, Try.ntmps78
  go_wp2
  go_loop [0, 3] (fun a o => ∃ r k : Nat, Hid (k + bc 7 r = bc 7 s) ∧ r ≤ s ∧ k ≤ 1000 - r ∧ a = .int .i64 r ∧ o = .int .i64 k) (fun a _ => (intOf a).toNat)
  case atStart => exact ⟨s, 0, Nat.zero_add _, Nat.le_refl _, Nat.zero_le _, rfl, rfl⟩
  case round =>
    obtain ⟨r, k, Hr, hrs, hk, rfl, rfl⟩ := hrel
    by_cases hr0 : 0 < r
    · have hn := bits_num ⟨r, by omega⟩
      simp only at hn
      have H2 : Hid (k + r % 2 + bc 7 (r / 2) = bc 7 s) := by show _ = _; rw [← Hr.out, hn]; omega
      clear hn
      have hm2 : r % 2 ≤ 1 := by omega
      have hd2 : r / 2 < r := by omega
      have e1 : (r : Int).tmod 2 = ((r % 2 : Nat) : Int) := (Int.ofNat_tmod r 2).symm
      have e2 : (r : Int).tdiv 2 = ((r / 2 : Nat) : Int) := (Int.ofNat_tdiv r 2).symm
      obtain ⟨a, Ha⟩ : ∃ a, Hid (r % 2 = a) := ⟨_, rfl⟩
      obtain ⟨b, Hb⟩ : ∃ b, Hid (r / 2 = b) := ⟨_, rfl⟩
      rw [Ha.out] at H2 hm2 e1
      rw [Hb.out] at H2 hd2 e2
      go_wp2
      go_round
      case rel => exact ⟨b, k + a, H2, by omega, by omega, by first | rfl | (congr 1; omega), by first | go_num | (congr 1; omega)⟩
      case measure => simp [intOf]; omega
    · have h0 : r = 0 := by omega
      subst h0
      have H2 : Hid (k = bc 7 s) := Hr.out
      go_wp2
      go_ret
      exact ⟨ret_int (by rw [← H2.out]), rfl⟩
end Go.Proofs.Ytkgomgfhhhdnjaa
