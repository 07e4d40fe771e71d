/-
  The watch of the program: over homes, with more spots put in, how many homes it reaches.
  Conditions: at most ten homes, at most four spots.
-/
import Derived.Test.Ythphboeboiallab1F
import Derived.Test.Ythphboeboiallab0XI
import Derived.Test.Ythphboeboiallab1S
import Derived.Test.Ythphboeboiallab1X
namespace Go.Proofs.Ythphboeboiallab
open Go.ChangeShapes Go.WideShapes Go.ChangeAt Go.RowKit
set_option linter.unusedVariables false
set_option maxRecDepth 4000

/-- A watch as a value: the chance, the homes, how far, the spots. -/
def wtC (u d : Int) (A : Option Addr) (n c : Nat) (far : Int) (A' : Option Addr) (m c' : Nat) : Array Value := #[.int .i64 u, .int .i64 d, .slice A n c, .int .i64 far, .slice A' m c']
theorem watchOver_any (u d far : Int) (A : Option Addr) (n c : Nat) (w : World) :
    Calls Try.prog 44 #[.slice A n c, .int .i64 far, .agg #[.int .i64 u, .int .i64 d]] w fun e w' => e = .returned (.agg (wtC u d A n c far none 0 0)) ∧ Below w.heap.size w w' := by
  go_enter Try.func44, Try.ntmps44
  go_wp2
  exact bodyPost_ret (v := .agg (wtC u d A n c far none 0 0)) (by simp [results, Try.results44, go_sem, wtC]) rfl ⟨rfl, ((Below.refl _ _).alloc (Nat.le_refl _) _).alloc (by rw [size_alloc1]; exact Nat.le_succ _) _⟩
theorem concatQ_all (vb vc n0 c0 n1 c1 : Nat) (A0 A1 : Option Addr) (xs ys : List Int) (w : World) (h0 : PartQ w A0 n0 c0 xs) (h1 : PartQ w A1 n1 c1 ys) (hs2 : n0 + n1 ≤ 100)
    (hv : w.heap[vb]? = some (.cells #[.slice A0 n0 c0, .slice A1 n1 c1] 23 (0, 0))) :
    Calls Try.prog 67 #[.slice (some ⟨vb, 0, none⟩) 2 vc] w (RowQ (xs ++ ys) w) := by
  by_cases hz : n0 + n1 = 0
  · obtain ⟨rfl, rfl⟩ : n0 = 0 ∧ n1 = 0 := by omega
    have e : xs ++ ys = [] := List.append_eq_nil_iff.2 ⟨List.length_eq_zero_iff.1 h0.len, List.length_eq_zero_iff.1 h1.len⟩
    rw [e]
    refine (concatQ_zero vb vc c0 c1 A0 A1 w (fun h => (h0.nz h).2) (fun h => (h1.nz h).2) hv).mono ?_
    rintro e w' ⟨rfl, hb⟩
    exact rowQ_nil _ _ hb
  · exact concatQ_any vb vc n0 c0 n1 c1 A0 A1 xs ys w h0 h1 (by omega) hs2 hv
theorem sortQ_all (B n c : Nat) (A : Option Addr) (xs : List Int) (w : World) (hown : w.ownsRow B 3 1 (.slice A n c) n (xs.map (Value.int .i64))) (hn : xs.length = n) (hm : n ≤ 1000) :
    Calls Try.prog 68 #[.slice A n c] w fun e w' => e = .returned (.tuple #[]) ∧ Hid (w'.ownsRow B 3 1 (.slice A n c) n ((srt xs).map (Value.int .i64))) ∧ Hid (w.grownBy w' (Value.slice A n c).ownBlock) := by
  obtain ⟨A', c', e, hp⟩ := part_own hown hn
  injection e with e1 _ e3
  subst e1 e3
  cases A with
  | none =>
    obtain ⟨rfl, rfl⟩ := hp.nz rfl
    obtain rfl : xs = [] := List.length_eq_zero_iff.1 hn
    refine (sortQ_none none 0 w).mono ?_
    rintro e w' ⟨rfl, rfl⟩
    exact ⟨rfl, by rw [srt_id (l := []) trivial]; exact hown, grown_refl _ _⟩
  | some ad =>
    obtain ⟨g, off, rfl⟩ := hp.at_ ad rfl
    obtain rfl : off = 0 := by
      rcases hown.2 with ⟨e, -⟩ | ⟨g', cap, cur, e, -⟩
      · cases e
      · injection e with e1 _ _; injection e1 with e1; injection e1
    refine (sortQ_any B g n c xs w hown hn hm).mono ?_
    rintro e w' ⟨rfl, h1, h2⟩
    rw [srt_len, hn] at h1
    exact ⟨rfl, h1, h2⟩
/-- A watch with a row of spots of its own. -/
def WtA (u d : Int) (A : Option Addr) (n c : Nat) (far : Int) (ss : List Int) (w : World) (e : Ending) (w' : World) : Prop :=
  ∃ A2 c2, e = .returned (.agg (wtC u d A n c far A2 ss.length c2)) ∧ Hid (w'.ownsRow w.heap.size 3 1 (.slice A2 ss.length c2) ss.length (ss.map (Value.int .i64))) ∧ Hid (Below w.heap.size w w')
theorem wtC_cells {W : World} {p n c m c' ty : Nat} {u d far : Int} {A A' : Option Addr} {fz : Nat × Nat} (h : W.heap[p]? = some (.cells (wtC u d A n c far A' m c') ty fz)) :
    W.cell? ⟨p, 0, none⟩ = some (.int .i64 u) ∧ W.cell? ⟨p, 1, none⟩ = some (.int .i64 d) ∧ W.cell? ⟨p, 2, none⟩ = some (.slice A n c) ∧ W.cell? ⟨p, 3, none⟩ = some (.int .i64 far) ∧ W.cell? ⟨p, 4, none⟩ = some (.slice A' m c') := by
  refine ⟨?_, ?_, ?_, ?_, ?_⟩ <;> exact (cell_of_row _ _ _ _ _ _ h).trans rfl
theorem row_lt {W : World} {p : Nat} {o : Obj} (h : W.heap[p]? = some o) : p < W.heap.size := by
  rcases Nat.lt_or_ge p W.heap.size with hl | hl
  · exact hl
  · rw [Array.getElem?_eq_none hl] at h; cases h
/-- A watch stored whole. -/
def wtSet (W : World) (p : Nat) (u d far : Int) (A : Option Addr) (n c : Nat) (A' : Option Addr) (m c' : Nat) : World :=
  ((((W.setCell ⟨p, 0, none⟩ (.int .i64 u)).setCell ⟨p, 1, none⟩ (.int .i64 d)).setCell ⟨p, 2, none⟩ (.slice A n c)).setCell ⟨p, 3, none⟩ (.int .i64 far)).setCell ⟨p, 4, none⟩ (.slice A' m c')
theorem wtSet_row {W : World} {p n c m c' ty n0 c0 m0 c0' : Nat} {u d far u0 d0 far0 : Int} {A A' A0 A0' : Option Addr} (h : W.heap[p]? = some (.cells (wtC u0 d0 A0 n0 c0 far0 A0' m0 c0') ty (0, 0))) :
    (wtSet W p u d far A n c A' m c').heap[p]? = some (.cells (wtC u d A n c far A' m c') ty (0, 0)) := by
  unfold wtSet
  rw [heap_setCell_same _ _ _ _ _ _ (heap_setCell_same _ _ _ _ _ _ (heap_setCell_same _ _ _ _ _ _ (heap_setCell_same _ _ _ _ _ _ (heap_setCell_same _ _ _ _ _ _ h))))]
  rfl
theorem set_grown (w : World) (b i : Nat) (v : Value) : w.grownBy (w.setCell ⟨b, i, none⟩ v) (some b) :=
  ⟨rfl, rfl, rfl, by rw [World.size_setCell]; exact Nat.le_refl _, fun j hj hne => Below.heap_setCell w ⟨b, i, none⟩ v j (by intro e; exact hne (by rw [e]))⟩
theorem wtSet_grown (W : World) (p : Nat) (u d far : Int) (A : Option Addr) (n c : Nat) (A' : Option Addr) (m c' : Nat) : W.grownBy (wtSet W p u d far A n c A' m c') (some p) :=
  grown_trans (grown_trans (grown_trans (grown_trans (set_grown _ _ _ _) (set_grown _ _ _ _)) (set_grown _ _ _ _)) (set_grown _ _ _ _)) (set_grown _ _ _ _)
set_option maxHeartbeats 1600000 in
theorem with_any (u d far : Int) (A A' A1 : Option Addr) (n c m c' m1 c1 : Nat) (ss rs : List Int) (w : World) (h0 : PartQ w A' m c' ss) (h1 : PartQ w A1 m1 c1 rs) (hm : m + m1 ≤ 100) :
    Calls Try.prog 45 #[.agg (wtC u d A n c far A' m c'), .slice A1 m1 c1] w (WtA u d A n c far (srt (ss ++ rs)) w) := by
  have Hl : Hid ((srt (ss ++ rs)).length = m + m1) := by show _ = _; rw [srt_len, List.length_append, h0.len, h1.len]
  have Hl2 : Hid ((ss ++ rs).length = m + m1) := by show _ = _; rw [List.length_append, h0.len, h1.len]
  unfold WtA
  rw [Hl.out]
  have hb3 : Below w.heap.size w (((w.alloc (.cells (wtC u d A n c far A' m c') 59)).alloc (.cells (wtC 0 0 none 0 0 0 none 0 0) 59)).alloc (.cells #[.slice A' m c', .slice A1 m1 c1] 23)) :=
    (((Below.refl _ _).alloc (Nat.le_refl _) _).alloc (by rw [size_alloc1]; omega) _).alloc (by rw [size_alloc1, size_alloc1]; omega) _
  have s3 : (((w.alloc (.cells (wtC u d A n c far A' m c') 59)).alloc (.cells (wtC 0 0 none 0 0 0 none 0 0) 59)).alloc (.cells #[.slice A' m c', .slice A1 m1 c1] 23)).heap.size = w.heap.size + 1 + 1 + 1 := by rw [size_alloc1, size_alloc1, size_alloc1]
  have p3 : (((w.alloc (.cells (wtC u d A n c far A' m c') 59)).alloc (.cells (wtC 0 0 none 0 0 0 none 0 0) 59)).alloc (.cells #[.slice A' m c', .slice A1 m1 c1] 23)).heap[w.heap.size]? = some (.cells (wtC u d A n c far A' m c') 59 (0, 0)) := by
    rw [heap_alloc_old _ _ (by rw [size_alloc1, size_alloc1]; omega), heap_alloc_old _ _ (by rw [size_alloc1]; omega)]; exact heap_alloc_new _ _
  have q3 : (((w.alloc (.cells (wtC u d A n c far A' m c') 59)).alloc (.cells (wtC 0 0 none 0 0 0 none 0 0) 59)).alloc (.cells #[.slice A' m c', .slice A1 m1 c1] 23)).heap[w.heap.size + 1]? = some (.cells (wtC 0 0 none 0 0 0 none 0 0) 59 (0, 0)) := by
    have := heap_alloc_new (w.alloc (.cells (wtC u d A n c far A' m c') 59)) (.cells (wtC 0 0 none 0 0 0 none 0 0) 59)
    rw [size_alloc1] at this
    rw [heap_alloc_old _ _ (by rw [size_alloc1, size_alloc1]; omega)]; exact this
  have v3 : (((w.alloc (.cells (wtC u d A n c far A' m c') 59)).alloc (.cells (wtC 0 0 none 0 0 0 none 0 0) 59)).alloc (.cells #[.slice A' m c', .slice A1 m1 c1] 23)).heap[w.heap.size + 1 + 1]? = some (.cells #[.slice A' m c', .slice A1 m1 c1] 23 (0, 0)) := by
    have := heap_alloc_new ((w.alloc (.cells (wtC u d A n c far A' m c') 59)).alloc (.cells (wtC 0 0 none 0 0 0 none 0 0) 59)) (.cells #[.slice A' m c', .slice A1 m1 c1] 23)
    rw [size_alloc1, size_alloc1] at this; exact this
  obtain ⟨w3, Hw3⟩ : ∃ w3, Hid ((((w.alloc (.cells (wtC u d A n c far A' m c') 59)).alloc (.cells (wtC 0 0 none 0 0 0 none 0 0) 59)).alloc (.cells #[.slice A' m c', .slice A1 m1 c1] 23)) = w3) := ⟨_, rfl⟩
  rw [Hw3.out] at hb3 s3 p3 q3 v3
  have HC := Lib.hid (concatQ_all (w.heap.size + 1 + 1) 2 m c' m1 c1 A' A1 ss rs w3 (h0.later hb3) (h1.later hb3) hm v3)
  have HB3 := Lib.hid hb3
  have S3 := Lib.hid s3
  have P3 := Lib.hid p3
  have Q3 := Lib.hid q3
  clear h0 h1 hb3 s3 p3 q3 v3
  unfold wtC at Hw3 ⊢
  obtain ⟨k, Hk⟩ : ∃ k, Hid (m + m1 = k) := ⟨_, rfl⟩
  have hk : k ≤ 100 := by rw [← Hk.out]; exact hm
  rw [Hk.out] at Hl Hl2 ⊢
  clear hm
  go_enter Try.func45, Try.ntmps45
  go_wp2_with fail
  rw [Hw3.out]
  refine HC.out.mono ?_
  rintro e w4 ⟨A4, c4, rfl, ho4, hb4⟩
  rw [Hl2.out] at ho4 ⊢
  obtain ⟨pb, Hpb⟩ : ∃ pb, Hid (w.heap.size = pb) := ⟨_, rfl⟩
  have p4 : w4.heap[pb]? = some (.cells (wtC u d A n c far A' m c') 59 (0, 0)) := by rw [← Hpb.out]; exact (hb4.out.block _ (row_lt P3.out)).trans P3.out
  have q4 : w4.heap[pb + 1]? = some (.cells (wtC 0 0 none 0 0 0 none 0 0) 59 (0, 0)) := by rw [← Hpb.out]; exact (hb4.out.block _ (row_lt Q3.out)).trans Q3.out
  have S3' : w3.heap.size = pb + 1 + 1 + 1 := by rw [← Hpb.out]; exact S3.out
  rw [Hpb.out]
  have c4s := (wtC_cells p4).2.2.2.2
  have f4s := frozen_of_row _ pb 4 _ _ p4
  have hW5 : (w4.setCell ⟨pb, 4, none⟩ (.slice A4 k c4)).heap[pb]? = some (.cells (wtC u d A n c far A4 k c4) 59 (0, 0)) := heap_setCell_same _ _ _ _ _ _ p4
  have hQ5 : (w4.setCell ⟨pb, 4, none⟩ (.slice A4 k c4)).heap[pb + 1]? = some (.cells (wtC 0 0 none 0 0 0 none 0 0) 59 (0, 0)) := (Below.heap_setCell w4 ⟨pb, 4, none⟩ _ (pb + 1) (by show pb + 1 ≠ pb; omega)).trans q4
  have ho4' : w4.ownsRow (pb + 1 + 1 + 1) 3 1 (.slice A4 k c4) k ((ss ++ rs).map (Value.int .i64)) := by rw [← S3']; exact ho4.out
  have ho5 : (w4.setCell ⟨pb, 4, none⟩ (.slice A4 k c4)).ownsRow (pb + 1 + 1 + 1) 3 1 (.slice A4 k c4) k ((ss ++ rs).map (Value.int .i64)) := by
    refine World.ownsRow.kept ho4' (row := some pb) ?_ ?_
    · exact ⟨rfl, rfl, rfl, by rw [World.size_setCell]; exact Nat.le_refl _, fun j hj hne => Below.heap_setCell w4 ⟨pb, 4, none⟩ _ j (by intro e; exact hne (by rw [e]))⟩
    · right
      intro e
      have := (own_heap ho4' e).2.1
      omega
  have hb5 : Below pb w (w4.setCell ⟨pb, 4, none⟩ (.slice A4 k c4)) := by
    have h1 := HB3.out.trans (hb4.out.mono HB3.out.size)
    rw [Hpb.out] at h1
    exact h1.setCell (Nat.le_refl _) _
  have HW5 := Lib.hid hW5
  have HQ5 := Lib.hid hQ5
  have HO5 := Lib.hid ho5
  have HB5 := Lib.hid hb5
  clear p4 q4 hW5 hQ5 ho4' ho5 hb5 ho4 hb4 S3'
  go_wp2_with fail
  obtain ⟨w5, Hw5⟩ : ∃ w5, Hid (w4.setCell ⟨pb, 4, none⟩ (.slice A4 k c4) = w5) := ⟨_, rfl⟩
  rw [Hw5.out] at HW5 HQ5 HO5 HB5 ⊢
  refine (sortQ_all (pb + 1 + 1 + 1) k c4 A4 _ w5 HO5.out Hl2.out (by omega)).mono ?_
  rintro e w6 ⟨rfl, ho6, hg6⟩
  have hne : ∀ j, j < pb + 1 + 1 + 1 → some j ≠ (Value.slice A4 k c4).ownBlock := fun j hj e => by
    have := (own_heap HO5.out e.symm).2.1
    omega
  have p6 : w6.heap[pb]? = some (.cells (wtC u d A n c far A4 k c4) 59 (0, 0)) := (hg6.out.block _ (row_lt HW5.out) (hne _ (by omega))).trans HW5.out
  have q6 : w6.heap[pb + 1]? = some (.cells (wtC 0 0 none 0 0 0 none 0 0) 59 (0, 0)) := (hg6.out.block _ (row_lt HQ5.out) (hne _ (by omega))).trans HQ5.out
  have hb6 : Below pb w w6 := HB5.out.grown hg6.out (by have := row_lt HW5.out; omega) (fun j hj => by have := (own_heap HO5.out hj).2.1; omega)
  obtain ⟨a0, a1, a2, a3, a4⟩ := wtC_cells p6
  obtain ⟨b0, b1, b2, b3, b4⟩ := wtC_cells q6
  have g0 := frozen_of_row _ (pb + 1) 0 _ _ q6
  have g1 := frozen_of_row _ (pb + 1) 1 _ _ q6
  have g2 := frozen_of_row _ (pb + 1) 2 _ _ q6
  have g3 := frozen_of_row _ (pb + 1) 3 _ _ q6
  have g4 := frozen_of_row _ (pb + 1) 4 _ _ q6
  have HO6 := Lib.hid (own_lowQ ho6.out (show w.heap.size ≤ pb + 1 + 1 + 1 by rw [Hpb.out]; omega))
  have Q6 := Lib.hid q6
  have HB6 := Lib.hid hb6
  clear ho6 hg6 hne p6 q6 hb6
  go_wp2
  have p7 := wtSet_row (u := u) (d := d) (far := far) (A := A) (n := n) (c := c) (A' := A4) (m := k) (c' := c4) Q6.out
  have g7 := wtSet_grown w6 (pb + 1) u d far A n c A4 k c4
  obtain ⟨z0, z1, z2, z3, z4⟩ := wtC_cells p7
  have hb7 : Below w.heap.size w (wtSet w6 (pb + 1) u d far A n c A4 k c4) := by
    rw [Hpb.out]
    exact HB6.out.grown g7 (by have := row_lt Q6.out; omega) (fun j hj => by injection hj with hj; omega)
  have ho7 : (wtSet w6 (pb + 1) u d far A n c A4 k c4).ownsRow w.heap.size 3 1 (.slice A4 k c4) k ((srt (ss ++ rs)).map (Value.int .i64)) := by
    refine World.ownsRow.kept HO6.out g7 (.inr ?_)
    intro e
    have := (own_heap HO5.out e).2.1
    omega
  show bodyPost _ _ _ _ _ (wtSet w6 (pb + 1) u d far A n c A4 k c4)
  generalize wtSet w6 (pb + 1) u d far A n c A4 k c4 = w7 at z0 z1 z2 z3 z4 hb7 ho7
  exact bodyPost_ret (v := .agg (wtC u d A n c far A4 k c4)) (by simp [results, Try.results45, go_sem, z0, z1, z2, z3, z4, wtC]) rfl ⟨A4, c4, rfl, ho7, hb7⟩
end Go.Proofs.Ythphboeboiallab
