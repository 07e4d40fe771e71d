/-
  slices.Insert at a list of places that the call has made: one more put in, in place or in a new row.
  Conditions: at most a hundred places.
-/
import Derived.Test.Ythphboeboiallaa0N
namespace Go.Proofs.Ythphboeboiallaa
open Go.ChangeShapes Go.WideShapes Go.ChangeAt Go.RowKit
set_option linter.unusedVariables false
set_option maxRecDepth 4000

theorem size_setCellsQ (g : Nat) : ∀ (vs : List Value) (o : Nat) (w : World), (w.setCells g o vs).heap.size = w.heap.size
  | [], _, _ => rfl
  | v :: r, o, w => by rw [World.setCells, size_setCellsQ g r, World.size_setCell]
theorem below_setCellsQ {B g : Nat} {a : World} (hg : B ≤ g) : ∀ (vs : List Value) (o : Nat) (w : World), Below B a w → Below B a (w.setCells g o vs)
  | [], _, _, h => h
  | v :: r, o, w, h => by rw [World.setCells]; exact below_setCellsQ hg r _ _ (h.setCell hg v)
theorem insS_get {ss : List Nat} {p j : Nat} (hj : j < ss.length + 1) : (insS ss p).getD j 0 = if j < kS ss p then ss.getD j 0 else if j = kS ss p then p else ss.getD (j - 1) 0 := by
  have hk := kS_le ss p
  unfold insS
  simp only [List.getD]
  by_cases h1 : j < kS ss p
  · rw [if_pos h1, List.getElem?_append_left (by simp; omega), List.getElem?_take, if_pos h1]
  · rw [if_neg h1, List.getElem?_append_right (by simp; omega)]
    have e : (ss.take (kS ss p)).length = kS ss p := by simp; omega
    rw [e]
    by_cases h2 : j = kS ss p
    · rw [if_pos h2, h2]; simp
    · rw [if_neg h2]
      obtain ⟨d, hd⟩ : ∃ d, j - kS ss p = d + 1 := ⟨j - kS ss p - 1, by omega⟩
      rw [hd, List.getElem?_cons_succ, List.getElem?_drop, show kS ss p + d = j - 1 by omega]
def InsPost (B : Nat) (xs : List Int) (w : World) (e : Ending) (w' : World) : Prop :=
  ∃ g c, e = .returned (.slice (some ⟨g, 0, none⟩) xs.length c) ∧ xs.length ≤ c ∧ c ≤ 9223372036854775807 ∧ Hid (RdI w' w'.heap.size (some ⟨g, 0, none⟩) xs) ∧ Hid (Below B w w')
theorem insPost_mk {B g c L p : Nat} {ss : List Nat} {w w' : World} (hL : ss.length = L) (hc : L + 1 ≤ c) (hc2 : c ≤ 9223372036854775807) (hg : g < w'.heap.size)
    (hcell : ∀ j, j < L + 1 → w'.cell? ⟨g, j, none⟩ = some (.int .i64 ((if j < kS ss p then ss.getD j 0 else if j = kS ss p then p else ss.getD (j - 1) 0 : Nat) : Int))) (hb : Below B w w') :
    InsPost B (cI (insS ss p)) w (.returned (.slice (some ⟨g, 0, none⟩) (L + 1) c)) w' := by
  have hl : (cI (insS ss p)).length = L + 1 := by rw [cI_length, insS_length, hL]
  refine ⟨g, c, by rw [hl], by rw [hl]; exact hc, hc2, fun _ => ⟨g, 0, rfl, hg, fun j hj => ?_⟩, hb⟩
  rw [hl] at hj
  rw [Nat.zero_add, hcell j hj, cI_getD, insS_get (by rw [hL]; exact hj)]
theorem cs_at {ss : List Nat} {j : Nat} (h : j < ss.length) : ((cI ss).map (Value.int .i64))[j]? = some (.int .i64 ((ss.getD j 0 : Nat) : Int)) := by
  simp [cI, List.getD, h]
theorem one_cs {ss : List Nat} : ∀ v ∈ (cI ss).map (Value.int .i64), v.oneCell' = true := by
  intro v hv
  obtain ⟨x, _, rfl⟩ := List.mem_map.1 hv
  rfl
theorem one_vs {p : Nat} : ∀ v ∈ [Value.int .i64 (p : Int)], v.oneCell' = true := by intro v hv; simp at hv; subst hv; rfl
theorem cs_drop {ss : List Nat} {i d L : Nat} (hL : ss.length = L) (h : i + d < L) : ∃ h' : d < (((cI ss).map (Value.int .i64)).drop i).length, (((cI ss).map (Value.int .i64)).drop i)[d] = .int .i64 ((ss.getD (i + d) 0 : Nat) : Int) := by
  refine ⟨by rw [List.length_drop, List.length_map, cI_length]; omega, ?_⟩
  have h1 := cs_at (ss := ss) (j := i + d) (by omega)
  rw [List.getElem?_eq_getElem (by rw [List.length_map, cI_length]; omega)] at h1
  injection h1 with h1
  rw [List.getElem_drop]; exact h1

theorem insertQ_any (g c L p vb vc : Nat) (ss : List Nat) (w : World) (B : Nat) (hL : ss.length = L) (hL1 : 1 ≤ L) (hL4 : L ≤ 100)
    (ho : w.ownsRow B 3 1 (.slice (some ⟨g, 0, none⟩) L c) L ((cI ss).map (Value.int .i64))) (hv : w.heap[vb]? = some (.cells #[.int .i64 (p : Int)] 3 (0, 0))) (hvb : B ≤ vb) (hne : vb ≠ g) :
    Calls Try.prog 71 #[.slice (some ⟨g, 0, none⟩) L c, .int .i64 ((kS ss p : Nat) : Int), .slice (some ⟨vb, 0, none⟩) 1 vc] w (InsPost B (cI (insS ss p)) w) := by
  have hk := kS_le ss p
  rw [hL] at hk
  have hlt := ho.lt g rfl
  have hvlt : vb < w.heap.size := by
    rcases Nat.lt_or_ge vb w.heap.size with h | h
    · exact h
    · rw [Array.getElem?_eq_none h] at hv; cases hv
  obtain ⟨A2, c2, he, hLc, hc63, -⟩ := own_slice ho (by rw [cI_length]; exact hL)
  injection he with _ _ he
  subst he
  obtain ⟨⟨cur, hcur⟩, -, -⟩ := own_heap ho (g := g) rfl
  have hcs : ∀ j v, ((cI ss).map (Value.int .i64))[j]? = some v → w.cell? ⟨g, 0 + j, none⟩ = some v := fun j v hj => by
    have hj' : j < L := by have := (List.getElem?_eq_some_iff.1 hj).1; rw [List.length_map, cI_length] at this; omega
    rw [Nat.zero_add, ho.cellAt j (by omega)]; exact hj
  have hcsz : cur.size = c := by
    obtain ⟨h0, h1⟩ := ho
    rcases h1 with ⟨h1, _⟩ | ⟨g', cap', cur', hv', _, hh', _, _, hs', ht'⟩
    · cases h1
    · injection hv' with h1 h2 h3
      injection h1 with h1
      injection h1 with h1
      subst h1 h3
      rw [hcur] at hh'
      injection hh' with hh'
      injection hh' with hh' _ _
      rw [hh', hs', Nat.mul_one]
  have hvs : ∀ j v, ([Value.int .i64 (p : Int)])[j]? = some v → w.cell? ⟨vb, 0 + j, none⟩ = some v := fun j v hj => by
    rw [Nat.zero_add, cell_of_row _ _ _ _ _ _ hv]
    simpa using hj
  have hcl : ((cI ss).map (Value.int .i64)).length = L := by rw [List.length_map, cI_length]; exact hL
  have hsp : ∀ j, j < c → (w.cell? ⟨g, j, none⟩).isSome = true := fun j hj => by
    rw [cell_of_row _ _ _ _ _ _ hcur, Array.getElem?_eq_getElem (by rw [hcsz]; exact hj)]; rfl
  have hfz : ∀ j, w.frozen? ⟨g, j, none⟩ = false := fun j => frozen_of_row _ _ _ _ _ hcur
  have hB : B ≤ w.heap.size := Nat.le_trans hvb (Nat.le_of_lt hvlt)
  by_cases hi : kS ss p < L
  · by_cases hroom : L + 1 ≤ c
    · have H := Any2.slices_Insert_int_shift laysQ g 0 L c (kS ss p) vb 0 1 vc ((cI ss).map (Value.int .i64)) [.int .i64 (p : Int)] w hi (by omega) hroom (by omega) hne hcl rfl hcs
        (fun j hj => by rw [Nat.zero_add]; exact hsp j (by omega)) (fun j hj => by rw [Nat.zero_add]; exact hfz j) hvs one_cs one_vs 3 3 1 c (by simp [World.shape?, hv]) (by simp [World.shape?, hcur, hcsz]) (by omega) (frozen_of_row _ _ _ _ _ hv) (frozen_of_row _ _ _ _ _ hv)
      refine H.mono ?_
      rintro e w' ⟨rfl, rfl⟩
      refine insPost_mk hL hroom hc63 (by rw [size_setCellsQ, size_setCellsQ]; exact hlt.2) (fun j hj => ?_) (below_setCellsQ hlt.1 _ _ _ (below_setCellsQ hlt.1 _ _ _ (Below.refl _ _).drew))
      have hdl : (((cI ss).map (Value.int .i64)).drop (kS ss p)).length = L - kS ss p := by rw [List.length_drop, hcl]
      have hsome : ∀ k, k < L + 1 → ((w.drew.setCells g (0 + (kS ss p + 1)) (((cI ss).map (Value.int .i64)).drop (kS ss p))).cell? ⟨g, k, none⟩).isSome = true := fun k hk2 => by
        by_cases hk3 : k < kS ss p + 1
        · rw [World.cell?_setCells_out _ _ _ _ _ (fun _ _ => by left; show k < 0 + (kS ss p + 1); omega)]; exact hsp k (by omega)
        · have := World.cell?_setCells_in g (((cI ss).map (Value.int .i64)).drop (kS ss p)) (0 + (kS ss p + 1)) w.drew (fun j hj => hsp _ (by omega)) (k - (kS ss p + 1)) (by omega)
          rw [show 0 + (kS ss p + 1) + (k - (kS ss p + 1)) = k by omega] at this
          rw [this]; rfl
      by_cases h2 : j = kS ss p
      · rw [if_neg (by omega), if_pos h2, h2]
        have := World.cell?_setCells_in g [.int .i64 (p : Int)] (0 + kS ss p) (w.drew.setCells g (0 + (kS ss p + 1)) (((cI ss).map (Value.int .i64)).drop (kS ss p))) (fun j hj => hsome _ (by simp at hj; omega)) 0 (by simp)
        rw [show 0 + kS ss p + 0 = kS ss p by omega] at this
        exact this
      · rw [World.cell?_setCells_out _ _ _ _ _ (fun _ _ => by show j < 0 + kS ss p ∨ 0 + kS ss p + 1 ≤ j; omega)]
        by_cases h3 : j < kS ss p
        · rw [if_pos h3, World.cell?_setCells_out _ _ _ _ _ (fun _ _ => by left; show j < 0 + (kS ss p + 1); omega)]
          have := hcs j _ (cs_at (by omega))
          rw [Nat.zero_add] at this; exact this
        · rw [if_neg h3, if_neg h2]
          obtain ⟨hd1, hd2⟩ := cs_drop (i := kS ss p) (d := j - (kS ss p + 1)) hL (by omega)
          have := World.cell?_setCells_in g (((cI ss).map (Value.int .i64)).drop (kS ss p)) (0 + (kS ss p + 1)) w.drew (fun j hj => hsp _ (by omega)) (j - (kS ss p + 1)) hd1
          rw [show 0 + (kS ss p + 1) + (j - (kS ss p + 1)) = j by omega, hd2, show kS ss p + (j - (kS ss p + 1)) = j - 1 by omega] at this
          exact this
    · have hcL : c = L := by omega
      obtain ⟨nc, Hnc⟩ : ∃ nc, Hid (grownCap w (L + 1) c 3 = nc) := ⟨_, rfl⟩
      have hn1 : L + 1 ≤ nc := by rw [← Hnc.out]; exact grownCap_ge _ _ _ _
      have hn2 : nc ≤ 9223372036854775807 := by rw [← Hnc.out]; have := grownCap_le_maxLen w (L + 1) c 3 (by unfold maxLen; omega); unfold maxLen at this; omega
      have H := Any2.slices_Insert_int_grow laysQ g 0 L c (kS ss p) vb 0 1 vc ((cI ss).map (Value.int .i64)) [.int .i64 (p : Int)] w hi (by omega) hLc (by omega) (by omega) hcl rfl hcs hvs one_cs one_vs
      refine H.mono ?_
      rintro e w' ⟨rfl, rfl⟩
      show InsPost B _ w (.returned (.slice (some ⟨w.heap.size, 0, none⟩) (L + 1) (grownCap w (L + 1) c 3))) (((((w.alloc (.cells ((((cI ss).map (Value.int .i64)).take (kS ss p)).toArray ++ Builtin.zeroCells (Value.int .i64 0).cells (L + 1 - kS ss p) ++ Builtin.zeroCells (Value.int .i64 0).cells (grownCap w (L + 1) c 3 - (L + 1))) 3)).drew.setCells w.heap.size (kS ss p) [.int .i64 (p : Int)]).drew).setCells w.heap.size (kS ss p + 1) (((cI ss).map (Value.int .i64)).drop (kS ss p))))
      rw [Hnc.out]
      obtain ⟨N, HN⟩ : ∃ N : Array Value, Hid ((((cI ss).map (Value.int .i64)).take (kS ss p)).toArray ++ Builtin.zeroCells (Value.int .i64 0).cells (L + 1 - kS ss p) ++ Builtin.zeroCells (Value.int .i64 0).cells (nc - (L + 1)) = N) := ⟨_, rfl⟩
      rw [HN.out]
      have hNs : N.size = nc := by
        rw [← HN.out]
        simp [Builtin.zeroCells, Value.cells, hcl]
        omega
      have hN0 : ∀ j, j < kS ss p → N[j]? = some (.int .i64 ((ss.getD j 0 : Nat) : Int)) := fun j hj => by
        rw [← HN.out, Array.append_assoc, Array.getElem?_append_left (by simp [cI_length]; omega)]
        have := cs_at (ss := ss) (j := j) (by omega)
        simpa [List.getElem?_take, hj] using this
      have hblk : (w.alloc (.cells N 3)).heap[w.heap.size]? = some (.cells N 3 (0, 0)) := heap_alloc_new _ _
      have hc0 : ∀ j, (w.alloc (.cells N 3)).cell? ⟨w.heap.size, j, none⟩ = N[j]? := fun j => cell_of_row _ _ _ _ _ _ hblk
      have hsome : ∀ j, j < nc → ((w.alloc (.cells N 3)).cell? ⟨w.heap.size, j, none⟩).isSome = true := fun j hj => by
        rw [hc0, Array.getElem?_eq_getElem (by rw [hNs]; exact hj)]; rfl
      have hsome2 : ∀ j, j < nc → (((w.alloc (.cells N 3)).drew.setCells w.heap.size (kS ss p) [.int .i64 (p : Int)]).drew.cell? ⟨w.heap.size, j, none⟩).isSome = true := fun j hj => by
        show (((w.alloc (.cells N 3)).drew.setCells w.heap.size (kS ss p) [.int .i64 (p : Int)]).cell? ⟨w.heap.size, j, none⟩).isSome = true
        by_cases h2 : j = kS ss p
        · have := World.cell?_setCells_in w.heap.size [.int .i64 (p : Int)] (kS ss p) (w.alloc (.cells N 3)).drew (fun j hj => hsome _ (by simp at hj; omega)) 0 (by simp)
          rw [Nat.add_zero, ← h2] at this
          rw [h2] at this ⊢
          rw [this]; rfl
        · rw [World.cell?_setCells_out _ _ _ _ _ (fun _ _ => by show j < kS ss p ∨ kS ss p + 1 ≤ j; omega)]; exact hsome j hj
      refine insPost_mk hL hn1 hn2 (by rw [size_setCellsQ]; show w.heap.size < ((w.alloc (.cells N 3)).drew.setCells w.heap.size (kS ss p) [.int .i64 (p : Int)]).heap.size; rw [size_setCellsQ]; show w.heap.size < (w.alloc (.cells N 3)).heap.size; rw [size_alloc1]; omega) (fun j hj => ?_) (below_setCellsQ hB _ _ _ (below_setCellsQ hB _ _ _ ((Below.refl _ _).alloc hB _).drew).drew)
      by_cases h3 : j < kS ss p + 1
      · rw [World.cell?_setCells_out _ _ _ _ _ (fun _ _ => by left; exact h3)]
        show ((w.alloc (.cells N 3)).drew.setCells w.heap.size (kS ss p) [.int .i64 (p : Int)]).cell? ⟨w.heap.size, j, none⟩ = _
        by_cases h2 : j = kS ss p
        · rw [if_neg (by omega), if_pos h2, h2]
          have := World.cell?_setCells_in w.heap.size [.int .i64 (p : Int)] (kS ss p) (w.alloc (.cells N 3)).drew (fun j hj => hsome _ (by simp at hj; omega)) 0 (by simp)
          rw [Nat.add_zero] at this
          exact this
        · rw [World.cell?_setCells_out _ _ _ _ _ (fun _ _ => by show j < kS ss p ∨ kS ss p + 1 ≤ j; omega), if_pos (by omega)]
          exact (hc0 j).trans (hN0 j (by omega))
      · rw [if_neg (by omega), if_neg (by omega)]
        obtain ⟨hd1, hd2⟩ := cs_drop (i := kS ss p) (d := j - (kS ss p + 1)) hL (by omega)
        have hdl : (((cI ss).map (Value.int .i64)).drop (kS ss p)).length = L - kS ss p := by rw [List.length_drop, hcl]
        have := World.cell?_setCells_in w.heap.size (((cI ss).map (Value.int .i64)).drop (kS ss p)) (kS ss p + 1) ((w.alloc (.cells N 3)).drew.setCells w.heap.size (kS ss p) [.int .i64 (p : Int)]).drew (fun j hj => hsome2 _ (by omega)) (j - (kS ss p + 1)) hd1
        rw [show kS ss p + 1 + (j - (kS ss p + 1)) = j by omega, hd2, show kS ss p + (j - (kS ss p + 1)) = j - 1 by omega] at this
        exact this
  · have hiL : kS ss p = L := by omega
    rw [hiL]
    by_cases hroom : L + 1 ≤ c
    · have H := Any2.slices_Insert_int_end_room laysQ g 0 L c vb 0 1 vc [.int .i64 (p : Int)] w (by omega) hroom (by omega) rfl (fun j hj => by rw [Nat.zero_add]; exact hsp _ (by omega)) (fun j hj => by rw [Nat.zero_add]; exact hfz _) hvs one_vs
      refine H.mono ?_
      rintro e w' ⟨rfl, rfl⟩
      refine insPost_mk hL hroom hc63 (by rw [size_setCellsQ]; exact hlt.2) (fun j hj => ?_) (below_setCellsQ hlt.1 _ _ _ (Below.refl _ _))
      rw [hiL]
      by_cases h2 : j = L
      · rw [if_neg (by omega), if_pos h2, h2]
        have := World.cell?_setCells_in g [.int .i64 (p : Int)] (0 + L) w (fun j hj => hsp _ (by simp at hj; omega)) 0 (by simp)
        rw [Nat.add_zero, Nat.zero_add] at this
        rw [Nat.zero_add]; exact this
      · rw [if_pos (by omega), World.cell?_setCells_out _ _ _ _ _ (fun _ _ => by left; show j < 0 + L; omega)]
        have := hcs j _ (cs_at (by omega))
        rw [Nat.zero_add] at this; exact this
    · obtain ⟨nc, Hnc⟩ : ∃ nc, Hid (grownCap w (L + 1) c 3 = nc) := ⟨_, rfl⟩
      have hn1 : L + 1 ≤ nc := by rw [← Hnc.out]; exact grownCap_ge _ _ _ _
      have hn2 : nc ≤ 9223372036854775807 := by rw [← Hnc.out]; have := grownCap_le_maxLen w (L + 1) c 3 (by unfold maxLen; omega); unfold maxLen at this; omega
      have H := Any2.slices_Insert_int_end_grow laysQ (some ⟨g, 0, none⟩) L c vb 0 1 vc ((cI ss).map (Value.int .i64)) [.int .i64 (p : Int)] w (by omega) hLc (by omega) (by omega) hcl rfl (fun h => by cases h)
        (fun a ha j v hj => by injection ha with ha; subst ha; have := hcs j v hj; rw [Nat.zero_add] at this; rw [addr_add0]; exact this) hvs one_vs
      refine H.mono ?_
      rintro e w' ⟨rfl, rfl⟩
      show InsPost B _ w (.returned (.slice (some ⟨w.heap.size, 0, none⟩) (L + 1) (grownCap w (L + 1) c 3))) (w.drew.alloc (.cells (((cI ss).map (Value.int .i64) ++ [Value.int .i64 (p : Int)]).toArray ++ Builtin.zeroCells (Value.int .i64 0).cells (grownCap w (L + 1) c 3 - (L + 1))) 3))
      rw [Hnc.out]
      have hblk : (w.drew.alloc (.cells (((cI ss).map (Value.int .i64) ++ [Value.int .i64 (p : Int)]).toArray ++ Builtin.zeroCells (Value.int .i64 0).cells (nc - (L + 1))) 3)).heap[w.heap.size]? = some (.cells (((cI ss).map (Value.int .i64) ++ [Value.int .i64 (p : Int)]).toArray ++ Builtin.zeroCells (Value.int .i64 0).cells (nc - (L + 1))) 3 (0, 0)) := heap_alloc_new w.drew _
      refine insPost_mk hL hn1 hn2 (by rw [size_alloc1]; show w.heap.size < w.heap.size + 1; omega) (fun j hj => ?_) ((Below.refl _ _).drew.alloc hB _)
      rw [cell_of_row _ _ _ _ _ _ hblk, hiL, Array.getElem?_append_left (by simp [cI_length]; omega)]
      by_cases h2 : j = L
      · rw [if_neg (by omega), if_pos h2, h2]
        simp [cI_length, hL]
      · rw [if_pos (by omega)]
        have := cs_at (ss := ss) (j := j) (by omega)
        rw [List.getElem?_toArray, List.getElem?_append_left (by rw [hcl]; omega)]
        exact this
end Go.Proofs.Ythphboeboiallaa
