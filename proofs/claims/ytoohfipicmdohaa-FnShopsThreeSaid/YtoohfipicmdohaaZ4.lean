/-
  slices.Insert at a list of places that the call has made: one more put in, in place or in a new row.
  Conditions: at most a hundred places.
  shareBeside and BestPlace of the program, walked.
  Conditions: fewer than 2^20 numbers.
  slices.Grow and slices.Concat at two lists of places.
  Conditions: at most a hundred places.
  IsRest of the program, walked.
  Conditions: fewer than 2^20 numbers.
-/
import Derived.Test.YtoohfipicmdohaaZ3
import Derived.Test.YtoohfipicmdohaaZ1
import Derived.Lib.AppendZeros
import Derived.Laws.AppendOwnNone
import Derived.RegionTactic
namespace Go.Proofs.Ytoohfipicmdohaa
open Go.ChangeShapes Go.WideShapes Go.ChangeAt Go.RowKit
set_option linter.unusedVariables false
set_option maxRecDepth 4000

theorem size_setCellsQ (g : Nat) : ∀ (vs : List Value) (o : Nat) (w : World), (w.setCells g o vs).heap.size = w.heap.size
  | [], _, _ => rfl
  | v :: r, o, w => by rw [World.setCells, size_setCellsQ g r, World.size_setCell]
theorem below_setCellsQ {B g : Nat} {a : World} (hg : B ≤ g) : ∀ (vs : List Value) (o : Nat) (w : World), Below B a w → Below B a (w.setCells g o vs)
  | [], _, _, h => h
  | v :: r, o, w, h => by rw [World.setCells]; exact below_setCellsQ hg r _ _ (h.setCell hg v)
theorem insS_get {ss : List Nat} {p j : Nat} (hj : j < ss.length + 1) : (insS ss p).getD j 0 = if j < kS ss p then ss.getD j 0 else if j = kS ss p then p else ss.getD (j - 1) 0 := by
  have hk := kS_le ss p
  unfold insS
  simp only [List.getD]
  by_cases h1 : j < kS ss p
  · rw [if_pos h1, List.getElem?_append_left (by simp; omega), List.getElem?_take, if_pos h1]
  · rw [if_neg h1, List.getElem?_append_right (by simp; omega)]
    have e : (ss.take (kS ss p)).length = kS ss p := by simp; omega
    rw [e]
    by_cases h2 : j = kS ss p
    · rw [if_pos h2, h2]; simp
    · rw [if_neg h2]
      obtain ⟨d, hd⟩ : ∃ d, j - kS ss p = d + 1 := ⟨j - kS ss p - 1, by omega⟩
      rw [hd, List.getElem?_cons_succ, List.getElem?_drop, show kS ss p + d = j - 1 by omega]
def InsPost (B : Nat) (xs : List Int) (w : World) (e : Ending) (w' : World) : Prop :=
  ∃ g c, e = .returned (.slice (some ⟨g, 0, none⟩) xs.length c) ∧ xs.length ≤ c ∧ c ≤ 9223372036854775807 ∧ Hid (RdI w' w'.heap.size (some ⟨g, 0, none⟩) xs) ∧ Hid (Below B w w')
theorem insPost_mk {B g c L p : Nat} {ss : List Nat} {w w' : World} (hL : ss.length = L) (hc : L + 1 ≤ c) (hc2 : c ≤ 9223372036854775807) (hg : g < w'.heap.size)
    (hcell : ∀ j, j < L + 1 → w'.cell? ⟨g, j, none⟩ = some (.int .i64 ((if j < kS ss p then ss.getD j 0 else if j = kS ss p then p else ss.getD (j - 1) 0 : Nat) : Int))) (hb : Below B w w') :
    InsPost B (cI (insS ss p)) w (.returned (.slice (some ⟨g, 0, none⟩) (L + 1) c)) w' := by
  have hl : (cI (insS ss p)).length = L + 1 := by rw [cI_length, insS_length, hL]
  refine ⟨g, c, by rw [hl], by rw [hl]; exact hc, hc2, fun _ => ⟨g, 0, rfl, hg, fun j hj => ?_⟩, hb⟩
  rw [hl] at hj
  rw [Nat.zero_add, hcell j hj, cI_getD, insS_get (by rw [hL]; exact hj)]
theorem cs_at {ss : List Nat} {j : Nat} (h : j < ss.length) : ((cI ss).map (Value.int .i64))[j]? = some (.int .i64 ((ss.getD j 0 : Nat) : Int)) := by
  simp [cI, List.getD, h]
theorem one_cs {ss : List Nat} : ∀ v ∈ (cI ss).map (Value.int .i64), v.oneCell' = true := by
  intro v hv
  obtain ⟨x, _, rfl⟩ := List.mem_map.1 hv
  rfl
theorem one_vs {p : Nat} : ∀ v ∈ [Value.int .i64 (p : Int)], v.oneCell' = true := by intro v hv; simp at hv; subst hv; rfl
theorem cs_drop {ss : List Nat} {i d L : Nat} (hL : ss.length = L) (h : i + d < L) : ∃ h' : d < (((cI ss).map (Value.int .i64)).drop i).length, (((cI ss).map (Value.int .i64)).drop i)[d] = .int .i64 ((ss.getD (i + d) 0 : Nat) : Int) := by
  refine ⟨by rw [List.length_drop, List.length_map, cI_length]; omega, ?_⟩
  have h1 := cs_at (ss := ss) (j := i + d) (by omega)
  rw [List.getElem?_eq_getElem (by rw [List.length_map, cI_length]; omega)] at h1
  injection h1 with h1
  rw [List.getElem_drop]; exact h1

theorem insertQ_any (g c L p vb vc : Nat) (ss : List Nat) (w : World) (B : Nat) (hL : ss.length = L) (hL1 : 1 ≤ L) (hL4 : L ≤ 100)
    (ho : w.ownsRow B 3 1 (.slice (some ⟨g, 0, none⟩) L c) L ((cI ss).map (Value.int .i64))) (hv : w.heap[vb]? = some (.cells #[.int .i64 (p : Int)] 3 (0, 0))) (hvb : B ≤ vb) (hne : vb ≠ g) :
    Calls Try.prog 70 #[.slice (some ⟨g, 0, none⟩) L c, .int .i64 ((kS ss p : Nat) : Int), .slice (some ⟨vb, 0, none⟩) 1 vc] w (InsPost B (cI (insS ss p)) w) := by
  have hk := kS_le ss p
  rw [hL] at hk
  have hlt := ho.lt g rfl
  have hvlt : vb < w.heap.size := by
    rcases Nat.lt_or_ge vb w.heap.size with h | h
    · exact h
    · rw [Array.getElem?_eq_none h] at hv; cases hv
  obtain ⟨A2, c2, he, hLc, hc63, -⟩ := own_slice ho (by rw [cI_length]; exact hL)
  injection he with _ _ he
  subst he
  obtain ⟨⟨cur, hcur⟩, -, -⟩ := own_heap ho (g := g) rfl
  have hcs : ∀ j v, ((cI ss).map (Value.int .i64))[j]? = some v → w.cell? ⟨g, 0 + j, none⟩ = some v := fun j v hj => by
    have hj' : j < L := by have := (List.getElem?_eq_some_iff.1 hj).1; rw [List.length_map, cI_length] at this; omega
    rw [Nat.zero_add, ho.cellAt j (by omega)]; exact hj
  have hcsz : cur.size = c := by
    obtain ⟨h0, h1⟩ := ho
    rcases h1 with ⟨h1, _⟩ | ⟨g', cap', cur', hv', _, hh', _, _, hs', ht'⟩
    · cases h1
    · injection hv' with h1 h2 h3
      injection h1 with h1
      injection h1 with h1
      subst h1 h3
      rw [hcur] at hh'
      injection hh' with hh'
      injection hh' with hh' _ _
      rw [hh', hs', Nat.mul_one]
  have hvs : ∀ j v, ([Value.int .i64 (p : Int)])[j]? = some v → w.cell? ⟨vb, 0 + j, none⟩ = some v := fun j v hj => by
    rw [Nat.zero_add, cell_of_row _ _ _ _ _ _ hv]
    simpa using hj
  have hcl : ((cI ss).map (Value.int .i64)).length = L := by rw [List.length_map, cI_length]; exact hL
  have hsp : ∀ j, j < c → (w.cell? ⟨g, j, none⟩).isSome = true := fun j hj => by
    rw [cell_of_row _ _ _ _ _ _ hcur, Array.getElem?_eq_getElem (by rw [hcsz]; exact hj)]; rfl
  have hfz : ∀ j, w.frozen? ⟨g, j, none⟩ = false := fun j => frozen_of_row _ _ _ _ _ hcur
  have hB : B ≤ w.heap.size := Nat.le_trans hvb (Nat.le_of_lt hvlt)
  by_cases hi : kS ss p < L
  · by_cases hroom : L + 1 ≤ c
    · have H := Any2.slices_Insert_int_shift laysQ g 0 L c (kS ss p) vb 0 1 vc ((cI ss).map (Value.int .i64)) [.int .i64 (p : Int)] w hi (by omega) hroom (by omega) hne hcl rfl hcs
        (fun j hj => by rw [Nat.zero_add]; exact hsp j (by omega)) (fun j hj => by rw [Nat.zero_add]; exact hfz j) hvs one_cs one_vs 3 3 1 c (by simp [World.shape?, hv]) (by simp [World.shape?, hcur, hcsz]) (by omega) (frozen_of_row _ _ _ _ _ hv) (frozen_of_row _ _ _ _ _ hv)
      refine H.mono ?_
      rintro e w' ⟨rfl, rfl⟩
      refine insPost_mk hL hroom hc63 (by rw [size_setCellsQ, size_setCellsQ]; exact hlt.2) (fun j hj => ?_) (below_setCellsQ hlt.1 _ _ _ (below_setCellsQ hlt.1 _ _ _ (Below.refl _ _).drew))
      have hdl : (((cI ss).map (Value.int .i64)).drop (kS ss p)).length = L - kS ss p := by rw [List.length_drop, hcl]
      have hsome : ∀ k, k < L + 1 → ((w.drew.setCells g (0 + (kS ss p + 1)) (((cI ss).map (Value.int .i64)).drop (kS ss p))).cell? ⟨g, k, none⟩).isSome = true := fun k hk2 => by
        by_cases hk3 : k < kS ss p + 1
        · rw [World.cell?_setCells_out _ _ _ _ _ (fun _ _ => by left; show k < 0 + (kS ss p + 1); omega)]; exact hsp k (by omega)
        · have := World.cell?_setCells_in g (((cI ss).map (Value.int .i64)).drop (kS ss p)) (0 + (kS ss p + 1)) w.drew (fun j hj => hsp _ (by omega)) (k - (kS ss p + 1)) (by omega)
          rw [show 0 + (kS ss p + 1) + (k - (kS ss p + 1)) = k by omega] at this
          rw [this]; rfl
      by_cases h2 : j = kS ss p
      · rw [if_neg (by omega), if_pos h2, h2]
        have := World.cell?_setCells_in g [.int .i64 (p : Int)] (0 + kS ss p) (w.drew.setCells g (0 + (kS ss p + 1)) (((cI ss).map (Value.int .i64)).drop (kS ss p))) (fun j hj => hsome _ (by simp at hj; omega)) 0 (by simp)
        rw [show 0 + kS ss p + 0 = kS ss p by omega] at this
        exact this
      · rw [World.cell?_setCells_out _ _ _ _ _ (fun _ _ => by show j < 0 + kS ss p ∨ 0 + kS ss p + 1 ≤ j; omega)]
        by_cases h3 : j < kS ss p
        · rw [if_pos h3, World.cell?_setCells_out _ _ _ _ _ (fun _ _ => by left; show j < 0 + (kS ss p + 1); omega)]
          have := hcs j _ (cs_at (by omega))
          rw [Nat.zero_add] at this; exact this
        · rw [if_neg h3, if_neg h2]
          obtain ⟨hd1, hd2⟩ := cs_drop (i := kS ss p) (d := j - (kS ss p + 1)) hL (by omega)
          have := World.cell?_setCells_in g (((cI ss).map (Value.int .i64)).drop (kS ss p)) (0 + (kS ss p + 1)) w.drew (fun j hj => hsp _ (by omega)) (j - (kS ss p + 1)) hd1
          rw [show 0 + (kS ss p + 1) + (j - (kS ss p + 1)) = j by omega, hd2, show kS ss p + (j - (kS ss p + 1)) = j - 1 by omega] at this
          exact this
    · have hcL : c = L := by omega
      obtain ⟨nc, Hnc⟩ : ∃ nc, Hid (grownCap w (L + 1) c 3 = nc) := ⟨_, rfl⟩
      have hn1 : L + 1 ≤ nc := by rw [← Hnc.out]; exact grownCap_ge _ _ _ _
      have hn2 : nc ≤ 9223372036854775807 := by rw [← Hnc.out]; have := grownCap_le_maxLen w (L + 1) c 3 (by unfold maxLen; omega); unfold maxLen at this; omega
      have H := Any2.slices_Insert_int_grow laysQ g 0 L c (kS ss p) vb 0 1 vc ((cI ss).map (Value.int .i64)) [.int .i64 (p : Int)] w hi (by omega) hLc (by omega) (by omega) hcl rfl hcs hvs one_cs one_vs
      refine H.mono ?_
      rintro e w' ⟨rfl, rfl⟩
      show InsPost B _ w (.returned (.slice (some ⟨w.heap.size, 0, none⟩) (L + 1) (grownCap w (L + 1) c 3))) (((((w.alloc (.cells ((((cI ss).map (Value.int .i64)).take (kS ss p)).toArray ++ Builtin.zeroCells (Value.int .i64 0).cells (L + 1 - kS ss p) ++ Builtin.zeroCells (Value.int .i64 0).cells (grownCap w (L + 1) c 3 - (L + 1))) 3)).drew.setCells w.heap.size (kS ss p) [.int .i64 (p : Int)]).drew).setCells w.heap.size (kS ss p + 1) (((cI ss).map (Value.int .i64)).drop (kS ss p))))
      rw [Hnc.out]
      obtain ⟨N, HN⟩ : ∃ N : Array Value, Hid ((((cI ss).map (Value.int .i64)).take (kS ss p)).toArray ++ Builtin.zeroCells (Value.int .i64 0).cells (L + 1 - kS ss p) ++ Builtin.zeroCells (Value.int .i64 0).cells (nc - (L + 1)) = N) := ⟨_, rfl⟩
      rw [HN.out]
      have hNs : N.size = nc := by
        rw [← HN.out]
        simp [Builtin.zeroCells, Value.cells, hcl]
        omega
      have hN0 : ∀ j, j < kS ss p → N[j]? = some (.int .i64 ((ss.getD j 0 : Nat) : Int)) := fun j hj => by
        rw [← HN.out, Array.append_assoc, Array.getElem?_append_left (by simp [cI_length]; omega)]
        have := cs_at (ss := ss) (j := j) (by omega)
        simpa [List.getElem?_take, hj] using this
      have hblk : (w.alloc (.cells N 3)).heap[w.heap.size]? = some (.cells N 3 (0, 0)) := heap_alloc_new _ _
      have hc0 : ∀ j, (w.alloc (.cells N 3)).cell? ⟨w.heap.size, j, none⟩ = N[j]? := fun j => cell_of_row _ _ _ _ _ _ hblk
      have hsome : ∀ j, j < nc → ((w.alloc (.cells N 3)).cell? ⟨w.heap.size, j, none⟩).isSome = true := fun j hj => by
        rw [hc0, Array.getElem?_eq_getElem (by rw [hNs]; exact hj)]; rfl
      have hsome2 : ∀ j, j < nc → (((w.alloc (.cells N 3)).drew.setCells w.heap.size (kS ss p) [.int .i64 (p : Int)]).drew.cell? ⟨w.heap.size, j, none⟩).isSome = true := fun j hj => by
        show (((w.alloc (.cells N 3)).drew.setCells w.heap.size (kS ss p) [.int .i64 (p : Int)]).cell? ⟨w.heap.size, j, none⟩).isSome = true
        by_cases h2 : j = kS ss p
        · have := World.cell?_setCells_in w.heap.size [.int .i64 (p : Int)] (kS ss p) (w.alloc (.cells N 3)).drew (fun j hj => hsome _ (by simp at hj; omega)) 0 (by simp)
          rw [Nat.add_zero, ← h2] at this
          rw [h2] at this ⊢
          rw [this]; rfl
        · rw [World.cell?_setCells_out _ _ _ _ _ (fun _ _ => by show j < kS ss p ∨ kS ss p + 1 ≤ j; omega)]; exact hsome j hj
      refine insPost_mk hL hn1 hn2 (by rw [size_setCellsQ]; show w.heap.size < ((w.alloc (.cells N 3)).drew.setCells w.heap.size (kS ss p) [.int .i64 (p : Int)]).heap.size; rw [size_setCellsQ]; show w.heap.size < (w.alloc (.cells N 3)).heap.size; rw [size_alloc1]; omega) (fun j hj => ?_) (below_setCellsQ hB _ _ _ (below_setCellsQ hB _ _ _ ((Below.refl _ _).alloc hB _).drew).drew)
      by_cases h3 : j < kS ss p + 1
      · rw [World.cell?_setCells_out _ _ _ _ _ (fun _ _ => by left; exact h3)]
        show ((w.alloc (.cells N 3)).drew.setCells w.heap.size (kS ss p) [.int .i64 (p : Int)]).cell? ⟨w.heap.size, j, none⟩ = _
        by_cases h2 : j = kS ss p
        · rw [if_neg (by omega), if_pos h2, h2]
          have := World.cell?_setCells_in w.heap.size [.int .i64 (p : Int)] (kS ss p) (w.alloc (.cells N 3)).drew (fun j hj => hsome _ (by simp at hj; omega)) 0 (by simp)
          rw [Nat.add_zero] at this
          exact this
        · rw [World.cell?_setCells_out _ _ _ _ _ (fun _ _ => by show j < kS ss p ∨ kS ss p + 1 ≤ j; omega), if_pos (by omega)]
          exact (hc0 j).trans (hN0 j (by omega))
      · rw [if_neg (by omega), if_neg (by omega)]
        obtain ⟨hd1, hd2⟩ := cs_drop (i := kS ss p) (d := j - (kS ss p + 1)) hL (by omega)
        have hdl : (((cI ss).map (Value.int .i64)).drop (kS ss p)).length = L - kS ss p := by rw [List.length_drop, hcl]
        have := World.cell?_setCells_in w.heap.size (((cI ss).map (Value.int .i64)).drop (kS ss p)) (kS ss p + 1) ((w.alloc (.cells N 3)).drew.setCells w.heap.size (kS ss p) [.int .i64 (p : Int)]).drew (fun j hj => hsome2 _ (by omega)) (j - (kS ss p + 1)) hd1
        rw [show kS ss p + 1 + (j - (kS ss p + 1)) = j by omega, hd2, show kS ss p + (j - (kS ss p + 1)) = j - 1 by omega] at this
        exact this
  · have hiL : kS ss p = L := by omega
    rw [hiL]
    by_cases hroom : L + 1 ≤ c
    · have H := Any2.slices_Insert_int_end_room laysQ g 0 L c vb 0 1 vc [.int .i64 (p : Int)] w (by omega) hroom (by omega) rfl (fun j hj => by rw [Nat.zero_add]; exact hsp _ (by omega)) (fun j hj => by rw [Nat.zero_add]; exact hfz _) hvs one_vs
      refine H.mono ?_
      rintro e w' ⟨rfl, rfl⟩
      refine insPost_mk hL hroom hc63 (by rw [size_setCellsQ]; exact hlt.2) (fun j hj => ?_) (below_setCellsQ hlt.1 _ _ _ (Below.refl _ _))
      rw [hiL]
      by_cases h2 : j = L
      · rw [if_neg (by omega), if_pos h2, h2]
        have := World.cell?_setCells_in g [.int .i64 (p : Int)] (0 + L) w (fun j hj => hsp _ (by simp at hj; omega)) 0 (by simp)
        rw [Nat.add_zero, Nat.zero_add] at this
        rw [Nat.zero_add]; exact this
      · rw [if_pos (by omega), World.cell?_setCells_out _ _ _ _ _ (fun _ _ => by left; show j < 0 + L; omega)]
        have := hcs j _ (cs_at (by omega))
        rw [Nat.zero_add] at this; exact this
    · obtain ⟨nc, Hnc⟩ : ∃ nc, Hid (grownCap w (L + 1) c 3 = nc) := ⟨_, rfl⟩
      have hn1 : L + 1 ≤ nc := by rw [← Hnc.out]; exact grownCap_ge _ _ _ _
      have hn2 : nc ≤ 9223372036854775807 := by rw [← Hnc.out]; have := grownCap_le_maxLen w (L + 1) c 3 (by unfold maxLen; omega); unfold maxLen at this; omega
      have H := Any2.slices_Insert_int_end_grow laysQ (some ⟨g, 0, none⟩) L c vb 0 1 vc ((cI ss).map (Value.int .i64)) [.int .i64 (p : Int)] w (by omega) hLc (by omega) (by omega) hcl rfl (fun h => by cases h)
        (fun a ha j v hj => by injection ha with ha; subst ha; have := hcs j v hj; rw [Nat.zero_add] at this; rw [addr_add0]; exact this) hvs one_vs
      refine H.mono ?_
      rintro e w' ⟨rfl, rfl⟩
      show InsPost B _ w (.returned (.slice (some ⟨w.heap.size, 0, none⟩) (L + 1) (grownCap w (L + 1) c 3))) (w.drew.alloc (.cells (((cI ss).map (Value.int .i64) ++ [Value.int .i64 (p : Int)]).toArray ++ Builtin.zeroCells (Value.int .i64 0).cells (grownCap w (L + 1) c 3 - (L + 1))) 3))
      rw [Hnc.out]
      have hblk : (w.drew.alloc (.cells (((cI ss).map (Value.int .i64) ++ [Value.int .i64 (p : Int)]).toArray ++ Builtin.zeroCells (Value.int .i64 0).cells (nc - (L + 1))) 3)).heap[w.heap.size]? = some (.cells (((cI ss).map (Value.int .i64) ++ [Value.int .i64 (p : Int)]).toArray ++ Builtin.zeroCells (Value.int .i64 0).cells (nc - (L + 1))) 3 (0, 0)) := heap_alloc_new w.drew _
      refine insPost_mk hL hn1 hn2 (by rw [size_alloc1]; show w.heap.size < w.heap.size + 1; omega) (fun j hj => ?_) ((Below.refl _ _).drew.alloc hB _)
      rw [cell_of_row _ _ _ _ _ _ hblk, hiL, Array.getElem?_append_left (by simp [cI_length]; omega)]
      by_cases h2 : j = L
      · rw [if_neg (by omega), if_pos h2, h2]
        simp [cI_length, hL]
      · rw [if_pos (by omega)]
        have := cs_at (ss := ss) (j := j) (by omega)
        rw [List.getElem?_toArray, List.getElem?_append_left (by rw [hcl]; omega)]
        exact this
end Go.Proofs.Ytoohfipicmdohaa
namespace Go.Proofs.Ytoohfipicmdohaa
open Go.ChangeShapes Go.WideShapes Go.ChangeAt Go.RowKit
set_option linter.unusedVariables false
set_option maxRecDepth 4000

theorem shL_getD {n : Nat} {ss : List Nat} {i : Nat} (hi : i < ss.length) : (shL n ss).getD i 0 = shK ss (ss.getD i 0) n := by
  simp [shL, List.getD, hi]
theorem shL_length (n : Nat) (ss : List Nat) : (shL n ss).length = ss.length := by simp [shL]
theorem kS_lt_ins (ss : List Nat) (p : Nat) : kS ss p < (insS ss p).length := by rw [insS_length]; have := kS_le ss p; omega
theorem ad_at (n : Nat) (ss : List Nat) (p : Nat) : (shL n (insS ss p)).getD (kS ss p) 0 = adS n ss p := by
  rw [shL_getD (kS_lt_ins ss p), insS_at]; rfl
set_option maxHeartbeats 800000 in
theorem shareBeside_any (n p c m : Nat) (ss : List Nat) (A : Option Addr) (w : World) (h : PIn w A c m (cI ss)) (hS : Sh n ss) (h4 : ss.length ≠ 4) (hp : p < n) :
    Calls Try.prog 55 #[.int .i64 (n : Int), .slice A m c, .int .i64 (p : Int)] w fun e w' => e = .returned (.int .i64 ((adS n ss p : Nat) : Int)) ∧ Below w.heap.size w w' := by
  have hm : ss.length = m := by rw [← cI_length]; exact h.len
  have hl4 := hS.l4
  have hl1 := hS.l1
  have hn9 := hS.n9
  have HB := Lib.hid (bsearch_any A c m p ss w _ h.rd hm (by omega) hS.asc (by omega))
  obtain ⟨b, off, -, hA, hbl, -⟩ := h.rd.q (k := 0) (by omega)
  have HC : Hid (Calls Try.prog 71 #[.slice A m c] w (RowQ (cI ss) w)) := by
    have h2 := h.rd
    rw [hA] at h2 ⊢
    refine cloneQ_any b off c m (cI ss) w h.len (by omega) hbl fun i hi => ?_
    obtain ⟨b', o', e', -, hc⟩ := h2.at_ (k := i) (by rw [h.len]; exact hi)
    injection e' with e'
    injection e' with e1 e2
    subst e1 e2
    exact hc
  obtain ⟨hI, -⟩ := hS.ins h4 hp
  have HSh : Hid (∀ (A : Option Addr) (c : Nat) (W : World), PIn W A c (m + 1) (cI (insS ss p)) → Calls Try.prog 20 #[.int .i64 (n : Int), .slice A (m + 1 : Nat) c] W (RowQ (cI (shL n (insS ss p))) W)) := fun A c W hW => by
    have := iSharesOf_ok (n : Int) A c (m + 1) (cI (insS ss p)) W hW
    rw [shQ_yes hI] at this
    exact this
  have HL : Hid ((cI (insS ss p)).length = m + 1) := by show _ = _; rw [cI_length, insS_length, hm]
  have HL2 : Hid ((cI (shL n (insS ss p))).length = m + 1) := by show _ = _; rw [cI_length, shL_length, insS_length, hm]
  have HIn : Hid (∀ (g c vb vc : Nat) (W : World), W.ownsRow w.heap.size 3 1 (.slice (some ⟨g, 0, none⟩) m c) m ((cI ss).map (Value.int .i64)) → W.heap[vb]? = some (.cells #[.int .i64 (p : Int)] 3 (0, 0)) → w.heap.size ≤ vb → vb ≠ g →
      Calls Try.prog 70 #[.slice (some ⟨g, 0, none⟩) m c, .int .i64 ((kS ss p : Nat) : Int), .slice (some ⟨vb, 0, none⟩) 1 vc] W (InsPost w.heap.size (cI (insS ss p)) W)) :=
    fun g c vb vc W h1 h2 h3 h5 => insertQ_any g c m p vb vc ss W w.heap.size hm (by omega) (by omega) h1 h2 h3 h5
  have HA : Hid ((cI (shL n (insS ss p))).getD (kS ss p) 0 = ((adS n ss p : Nat) : Int)) := by show _ = _; rw [cI_getD, ad_at]
  have hk := kS_le ss p
  rw [hm] at hk
  have Hlc : Hid ((cI ss).length = m) := h.len
  have hm1 : 1 ≤ m := by omega
  have hm4 : m ≤ 4 := by omega
  obtain ⟨K, HK⟩ : ∃ K, Hid (kS ss p = K) := ⟨_, rfl⟩
  rw [HK.out] at HB HIn HA hk
  clear h hS h4 hl4 hl1 hA hbl hI hm
  go_enter Try.func55, Try.ntmps55
  go_wp2_with fail
  refine HB.out.mono ?_
  rintro e w1 ⟨bb, rfl, rfl⟩
  go_wp2_with fail
  refine HC.out.mono ?_
  rintro e w2 ⟨A2, c2, rfl, ho2, hb2⟩
  rw [Hlc.out] at ho2 ⊢
  obtain ⟨g, hg⟩ : ∃ g, A2 = some ⟨g, 0, none⟩ := by
    obtain ⟨A6, c6, e6, -, -, h6⟩ := own_sliceN ho2.out
    injection e6 with e6 _ _
    subst e6
    obtain ⟨nb, e7, -⟩ := h6 hm1
    exact ⟨nb, e7⟩
  subst hg
  have hg2 := ho2.out.lt g rfl
  have HIn2 := Lib.hid (HIn.out g c2 w2.heap.size 1 (w2.alloc (.cells #[.int .i64 (p : Int)] 3)) (ho2.out.alloc _) (heap_alloc_new _ _) hb2.out.size (by omega))
  have HB2 : Hid (Below w.heap.size w (w2.alloc (.cells #[.int .i64 (p : Int)] 3))) := hb2.out.alloc hb2.out.size _
  clear ho2 hb2 hg2
  go_wp2_with fail
  refine HIn2.out.mono ?_
  rintro e w3 ⟨g3, c3, rfl, hc3, hc33, hr3, hb3⟩
  rw [HL.out] at hc3 ⊢
  have HB3 := Lib.hid (HB2.out.trans hb3.out)
  have HP3 : Hid (PIn w3 (some ⟨g3, 0, none⟩) c3 (m + 1) (cI (insS ss p))) := ⟨hr3.out, HL.out, ⟨hc3, hc33⟩, by omega⟩
  clear hr3 hb3
  go_wp2_with fail
  refine (HSh.out _ _ _ HP3.out).mono ?_
  rintro e w4 ⟨A4, c4, rfl, ho4, hb4⟩
  rw [HL2.out] at ho4 ⊢
  obtain ⟨A5, c5, he, -, -, hrd⟩ := own_slice ho4.out HL2.out
  injection he with he1 _ he3
  subst he1 he3
  obtain ⟨b4, o4, x, rfl, -, Hx, hcx⟩ := hrd.x (k := K) (by rw [HL2.out]; omega)
  have hxe : x = ((adS n ss p : Nat) : Int) := Hx.out.symm.trans HA.out
  have HB4 : Hid (Below w.heap.size w w4) := HB3.out.trans (hb4.out.mono HB3.out.size)
  have Hxe := Lib.hid hxe
  clear ho4 hb4 hrd hxe
  go_wp2
  go_ret
  exact ⟨ret_int Hxe.out, HB4.out⟩
def BpRel (f : Nat → Nat) (n : Nat) (w : World) (a b i : Value) (wr : World) : Prop :=
  ∃ (k t : Nat) (z : Int), k ≤ n ∧ a = .int .i64 z ∧ b = .int .i64 (t : Int) ∧ i = .int .i64 k ∧ Hid ((k = 0 ∧ z = -1 ∧ t = 0) ∨ (0 < k ∧ z = ((bpK f k : Nat) : Int) ∧ t = f (bpK f k))) ∧ Hid (Below w.heap.size w wr)
set_option maxHeartbeats 800000 in
theorem iBestPlace_ok : QNum 26 bpQ := by
  intro n A c m zs w hp
  have HV := Lib.hid (iValidShops_any n A c m zs w hp)
  by_cases hv : vsh n zs = true
  · obtain ⟨n, ss, rfl, rfl, hS⟩ := vsh_get hv
    rw [hv] at HV
    have hm : ss.length = m := by rw [← cI_length]; exact hp.len
    have hl4 := hS.l4
    by_cases h4 : m = 4
    · have ht : ((m : Int) == 4) = true := by rw [beq_iff_eq]; omega
      rw [bpQ_no (.inr (by rw [cI_length]; omega))]
      clear hv hS hp hm hl4 h4
      go_enter Try.func26, Try.ntmps26
      go_wp2_with fail
      refine HV.out.mono ?_
      rintro e w1 ⟨rfl, rfl⟩
      go_wp2
      go_ret
      exact ⟨rfl, Below.refl _ _⟩
    · have ht : ((m : Int) == 4) = false := by rw [beq_eq_false_iff_ne]; omega
      rw [bpQ_yes hS (by omega)]
      have HSb : Hid (∀ (p : Nat) (W : World), p < n → Below w.heap.size w W → Calls Try.prog 55 #[.int .i64 (n : Int), .slice A m c, .int .i64 (p : Int)] W fun e w' => e = .returned (.int .i64 ((adS n ss p : Nat) : Int)) ∧ Below W.heap.size W w') :=
        fun p W h1 h2 => shareBeside_any n p c m ss A W (hp.later h2) hS (by omega) h1
      have HPos : Hid (∀ p, p < n → 0 < adS n ss p) := fun p h1 => (hS.ins (by omega) h1).2
      have hn1 := hS.n1
      have hn9 := hS.n9
      show Calls _ _ _ _ fun e w' => e = .returned (.int .i64 ((bpK (adS n ss) n : Nat) : Int)) ∧ _
      have Hle : Hid (∀ p, adS n ss p ≤ 108) := fun p => by have := adS_le n ss p; omega
      generalize adS n ss = f at HSb HPos Hle ⊢
      clear hv hS hp hm hl4 h4
      go_enter Try.func26, Try.ntmps26
      go_wp2_with fail
      refine HV.out.mono ?_
      rintro e w1 ⟨rfl, rfl⟩
      go_wp2
      go_loopw [5, 6, 19] (fun a b i wr => BpRel f n w a b i wr) (fun _ _ i _ => n - (intOf i).toNat)
      case atStart => exact ⟨0, 0, -1, Nat.zero_le _, rfl, rfl, rfl, .inl ⟨rfl, rfl, rfl⟩, Below.refl _ _⟩
      case round =>
        obtain ⟨k, t, z, hk, rfl, rfl, rfl, HI, HB⟩ := hrel
        by_cases hlt : k < n
        · obtain ⟨s, Hs⟩ : ∃ s, Hid (f k = s) := ⟨_, rfl⟩
          have Hc := Lib.hid (HSb.out k wr hlt HB.out)
          rw [Hs.out] at Hc
          have hs0 := HPos.out k hlt
          have hs1 := Hle.out k
          rw [Hs.out] at hs0 hs1
          by_cases hst : t < s
          · have HI2 : Hid ((k + 1 = 0 ∧ ((k : Nat) : Int) = -1 ∧ s = 0) ∨ (0 < k + 1 ∧ ((k : Nat) : Int) = ((bpK f (k + 1) : Nat) : Int) ∧ s = f (bpK f (k + 1)))) := by
              right
              refine ⟨by omega, ?_⟩
              rw [bpK]
              rcases HI.out with ⟨h0, -, -⟩ | ⟨h1, -, h3⟩
              · subst h0
                have : ¬ f (bpK f 0) < f 0 := by simp [bpK]
                rw [if_neg this]
                exact ⟨rfl, Hs.out.symm⟩
              · rw [if_pos (by rw [Hs.out, ← h3]; exact hst)]
                exact ⟨rfl, Hs.out.symm⟩
            clear HI
            go_wp2_with fail
            refine Hc.out.mono ?_
            rintro e w2 ⟨rfl, hb2⟩
            have HB2 := Lib.hid (HB.out.trans (hb2.mono HB.out.size))
            clear hb2 HB Hc
            go_wp2
            go_roundw
            case rel => exact ⟨k + 1, s, _, by omega, rfl, rfl, by go_num, HI2, HB2⟩
            case measure => simp [intOf]; omega
          · have HI2 : Hid ((k + 1 = 0 ∧ z = -1 ∧ t = 0) ∨ (0 < k + 1 ∧ z = ((bpK f (k + 1) : Nat) : Int) ∧ t = f (bpK f (k + 1)))) := by
              right
              refine ⟨by omega, ?_⟩
              rw [bpK]
              rcases HI.out with ⟨h0, h1, h2⟩ | ⟨h1, h2, h3⟩
              · omega
              · rw [if_neg (by rw [Hs.out, ← h3]; exact hst)]
                exact ⟨h2, h3⟩
            clear HI
            go_wp2_with fail
            refine Hc.out.mono ?_
            rintro e w2 ⟨rfl, hb2⟩
            have HB2 := Lib.hid (HB.out.trans (hb2.mono HB.out.size))
            clear hb2 HB Hc
            go_wp2
            go_roundw
            case rel => exact ⟨k + 1, t, z, by omega, rfl, rfl, by go_num, HI2, HB2⟩
            case measure => simp [intOf]; omega
        · obtain rfl : k = n := by omega
          have Hz : Hid (z = ((bpK f k : Nat) : Int)) := by
            rcases HI.out with ⟨h0, -, -⟩ | ⟨-, h2, -⟩
            · omega
            · exact h2
          clear HI
          go_wp2
          go_ret
          exact ⟨ret_int Hz.out, HB.out⟩
  · have hv' : vsh n zs = false := by simpa using hv
    rw [hv'] at HV
    rw [bpQ_no (.inl hv')]
    clear hv hv' hp
    go_enter Try.func26, Try.ntmps26
    go_wp2_with fail
    refine HV.out.mono ?_
    rintro e w1 ⟨rfl, rfl⟩
    go_wp2
    go_ret
    exact ⟨rfl, Below.refl _ _⟩
end Go.Proofs.Ytoohfipicmdohaa
namespace Go.Proofs.Ytoohfipicmdohaa
open Go.ChangeShapes Go.WideShapes Go.ChangeAt Go.RowKit
set_option linter.unusedVariables false
set_option maxRecDepth 4000

/-- A list of ints, wherever it lies. -/
structure PartQ (w : World) (A : Option Addr) (n c : Nat) (xs : List Int) : Prop where
  rd : RdI w w.heap.size A xs
  len : xs.length = n
  nz : A = none → n = 0 ∧ c = 0
  at_ : ∀ a, A = some a → ∃ b off, a = ⟨b, off, none⟩
theorem PartQ.later {w w' : World} {A : Option Addr} {n c : Nat} {xs : List Int} (h : PartQ w A n c xs) (hb : Below w.heap.size w w') : PartQ w' A n c xs := ⟨(h.rd.below hb).more hb.size, h.len, h.nz, h.at_⟩
/-- It is put behind a row of the call's own. -/
theorem wpList_append_partQ {w : World} {ops : Array Oper} {rest : List Oper} {o : Oper} {a : Act} {Q : Exit → Act → World → Prop} {i0 : TypeInfo} (hi0 : Try.prog.info? 3 = some i0) (hz0 : i0.zero = some (.int .i64 0)) (hz1 : i0.size = 1) (hz2 : i0.bytes = 8)
    (hgd : o.guard = none) (s x : Operand) (ho : o.op = .call { callee := .builtin .append, args := #[s, x], argTypes := #[23, 23] }) (base : Nat) (v : Value) (L : Nat) (zs : List Int) (hs : a.eval s = v)
    (hown : w.ownsRow base 3 1 v L (zs.map (Value.int .i64))) (hv : v ≠ .slice none 0 0) (A : Option Addr) (n c : Nat) (xs : List Int) (hx : a.eval x = .slice A n c) (hp : PartQ w A n c xs) (hl : L ≤ 1000) (hn : n ≤ 1000) (hbase : base ≤ w.heap.size)
    (h : ∀ v' w', w'.ownsRow base 3 1 v' (L + n) ((zs ++ xs).map (Value.int .i64)) → v' ≠ .slice none 0 0 → Below base w w' → wpList Try.prog ops Q rest (a.put o.dst v') w') : wpList Try.prog ops Q (o :: rest) a w := by
  cases A with
  | none =>
    obtain ⟨rfl, rfl⟩ := hp.nz rfl
    have hxs : xs = [] := List.length_eq_zero_iff.1 hp.len
    subst hxs
    exact wpList_append_own_none hgd s x 23 ho base 3 i0 1 Try.underlying23 hi0 v L _ hs hown hx (h v w (by simpa using hown) hv (Below.refl _ _))
  | some ad =>
    obtain ⟨b, off, rfl⟩ := hp.at_ ad rfl
    refine wpList_append_own w hgd s x 23 ho base 3 i0 (.int .i64 0) 1 8 Try.underlying23 hi0 hz0 hz1 hz2 rfl (by decide) v L _ hs hown ⟨b, off, none⟩ n c (xs.map (Value.int .i64)) hx (by rw [List.length_map, hp.len, Nat.mul_one]) ?_ ?_ (by unfold maxLen; omega) (by omega) hbase ?_
    · intro j u hj
      rw [List.getElem?_map] at hj
      obtain ⟨y, hy, rfl⟩ := Option.map_eq_some_iff.1 hj
      have hjl : j < xs.length := (List.getElem?_eq_some_iff.1 hy).1
      obtain ⟨b', o', e', -, hc⟩ := hp.rd.at_ hjl
      injection e' with e'
      injection e' with e1 e2
      subst e1 e2
      rw [show (⟨b, off, none⟩ : Addr).add j = ⟨b, off + j, none⟩ by unfold Addr.add; split <;> simp_all, hc]
      simp [List.getD, hy]
    · intro u hu
      obtain ⟨y, _, rfl⟩ := List.mem_map.1 hu
      rfl
    · intro v' w' hown' hg hnil
      refine h v' w' (by rw [List.map_append]; exact hown') (fun e => hv ((hnil.1 e).1)) ((Below.refl _ _).grown hg hbase fun k hk => ?_)
      obtain ⟨-, h2⟩ := hown
      rcases h2 with ⟨h2, -⟩ | ⟨g, cap, cur, h2, h3, -⟩
      · exact absurd h2 hv
      · rw [h2] at hk
        injection hk with hk
        rw [← hk]; exact h3
def GrowPost (w : World) (e : Ending) (w' : World) : Prop := ∃ v, e = .returned v ∧ Hid (w'.ownsRow w.heap.size 3 1 v 0 []) ∧ Hid (v ≠ .slice none 0 0) ∧ Hid (Below w.heap.size w w')
theorem growQ_any (s : Nat) (w : World) (h1 : 1 ≤ s) (h2 : s ≤ 1000) : Calls Try.prog 72 #[.slice none 0 0, .int .i64 (s : Int)] w (GrowPost w) := by
  obtain ⟨i0, hi0, hz0, hz1, hz2⟩ := info_parts intInfo
  obtain ⟨nc, Hnc⟩ : ∃ nc, Hid (grownCap w s 0 3 = nc) := ⟨_, rfl⟩
  have hn1 : s ≤ nc := by rw [← Hnc.out]; exact grownCap_ge _ _ _ _
  have hn2 : nc ≤ maxLen := by rw [← Hnc.out]; exact grownCap_le_maxLen w s 0 3 (by unfold maxLen; omega)
  obtain ⟨Z, HZ⟩ : ∃ Z : Array Value, Hid (Builtin.zeroCells (Value.int .i64 0).cells s ++ Builtin.zeroCells (Value.int .i64 0).cells (nc - s) = Z) := ⟨_, rfl⟩
  have hrun : ∀ ty, (Builtin.append_ #[23, 3] ty #[.slice none 0 0, .int .i64 (s : Int)]).run Try.prog w = .ok (.slice (some ⟨w.heap.size, 0, none⟩) s nc) (w.drew.alloc (.cells Z 3)) := fun ty => by
    rw [← HZ.out, ← Hnc.out]
    exact Lib.run_append_nil_zeros w 23 3 ty 3 i0 _ .i64 .i64 Try.underlying23 Try.underlying3 hi0 hz0 s (by omega) (by rw [hz1]; omega) (by omega) (by rw [hz2]; omega)
  have hZs : Z.size = nc * 1 := by rw [← HZ.out]; simp [Builtin.zeroCells, Value.cells]; omega
  have HE : Hid (GrowPost w (.returned (.slice (some ⟨w.heap.size, 0, none⟩) 0 nc)) (w.drew.alloc (.cells Z 3))) :=
    ⟨_, rfl, World.ownsRow_made w.drew Z nc (Nat.le_refl _) hn2 hZs, (by intro h; cases h), (Below.refl _ _).drew.alloc (Nat.le_refl _) _⟩
  have hs0 : (0 : Int) < (s : Int) := by omega
  have hs1 : ¬ (s : Int) < 0 := by omega
  have hnc0 : (0 : Int) ≤ (nc : Int) := by omega
  clear hZs hn2
  go_enter Try.func72, Try.ntmps72
  go_wp2_with (at_builtin; refine Lib.wpList_append_run _ rfl _ _ _ _ rfl _ _ rfl rfl _ _ (hrun _) ?_)
  go_ret
  exact HE.out
def szQ (n0 n1 : Nat) : Nat → Nat
  | 0 => 0
  | 1 => n0
  | _ => n0 + n1
def ccQ (xs ys : List Int) : Nat → List Int
  | 0 => []
  | 1 => xs
  | _ => xs ++ ys
theorem ccQ_len {xs ys : List Int} {n0 n1 : Nat} (h0 : xs.length = n0) (h1 : ys.length = n1) : ∀ k, (ccQ xs ys k).length = szQ n0 n1 k
  | 0 => rfl
  | 1 => h0
  | k + 2 => by simp [ccQ, szQ, h0, h1]
def CcRel (xs ys : List Int) (n0 n1 B : Nat) (w : World) (v i : Value) (wr : World) : Prop :=
  ∃ k u, u = v ∧ k ≤ 2 ∧ i = .int .i64 ((k : Nat) : Int) ∧ Hid (wr.ownsRow B 3 1 u (szQ n0 n1 k) ((ccQ xs ys k).map (Value.int .i64))) ∧ Hid (u ≠ .slice none 0 0) ∧ Hid (Below w.heap.size w wr)
set_option maxHeartbeats 1600000 in
theorem concatQ_any (vb vc n0 c0 n1 c1 : Nat) (A0 A1 : Option Addr) (xs ys : List Int) (w : World) (h0 : PartQ w A0 n0 c0 xs) (h1 : PartQ w A1 n1 c1 ys) (hs1 : 1 ≤ n0 + n1) (hs2 : n0 + n1 ≤ 100)
    (hv : w.heap[vb]? = some (.cells #[.slice A0 n0 c0, .slice A1 n1 c1] 23 (0, 0))) :
    Calls Try.prog 57 #[.slice (some ⟨vb, 0, none⟩) 2 vc] w (RowQ (xs ++ ys) w) := by
  obtain ⟨i0, hi0, hz0, hz1, hz2⟩ := info_parts intInfo
  have H0 := Lib.hid h0
  have H1 := Lib.hid h1
  have HL := Lib.hid (ccQ_len h0.len h1.len)
  have hvlt : vb < w.heap.size := by
    rcases Nat.lt_or_ge vb w.heap.size with h | h
    · exact h
    · rw [Array.getElem?_eq_none h] at hv; cases hv
  have HV : Hid (∀ W, Below w.heap.size w W → W.cell? ⟨vb, 0, none⟩ = some (.slice A0 n0 c0) ∧ W.cell? ⟨vb, 1, none⟩ = some (.slice A1 n1 c1)) := fun W hb =>
    ⟨(hb.cell (p := ⟨vb, 0, none⟩) hvlt).trans ((cell_of_row _ _ _ _ _ _ hv).trans rfl), (hb.cell (p := ⟨vb, 1, none⟩) hvlt).trans ((cell_of_row _ _ _ _ _ _ hv).trans rfl)⟩
  have HG := Lib.hid (growQ_any (n0 + n1) w hs1 (by omega))
  have hw1 : IntKind.i64.wrap ((n0 : Int) + (n1 : Int)) = (n0 : Int) + (n1 : Int) := IntWalk.i64_in _ (by omega)
  have hn0 : n0 ≤ 100 := by omega
  have hn1 : n1 ≤ 100 := by omega
  have l0 := (HV.out w (Below.refl _ _)).1
  have l1 := (HV.out w (Below.refl _ _)).2
  clear h0 h1 hv
  go_enter Try.func57, Try.ntmps57
  go_wp2
  go_loop [3, 11] (fun s i => ∃ k, k ≤ 2 ∧ i = .int .i64 ((k : Nat) : Int) ∧ s = .int .i64 ((szQ n0 n1 k : Nat) : Int)) (fun _ i => 2 - (intOf i).toNat)
  case atStart => exact ⟨0, by omega, rfl, rfl⟩
  case round =>
    obtain ⟨k, hk, rfl, rfl⟩ := hrel
    by_cases hk2 : k < 2
    · rcases (show k = 0 ∨ k = 1 by omega) with rfl | rfl
      · have hb : ¬ (n0 : Int) < 0 := by omega
        have e0 : szQ n0 n1 0 = 0 := rfl
        rw [e0]
        clear e0
        go_wp2
        go_round
        case rel => exact ⟨1, by omega, rfl, by simp [szQ]⟩
        case measure => simp [intOf]
      · have hb : ¬ (n0 : Int) + (n1 : Int) < 0 := by omega
        have e0 : szQ n0 n1 1 = n0 := rfl
        rw [e0]
        clear e0
        go_wp2
        go_round
        case rel => exact ⟨2, by omega, rfl, by simp [szQ]⟩
        case measure => simp [intOf]
    · obtain rfl : k = 2 := by omega
      have e0 : ((szQ n0 n1 2 : Nat) : Int) = ((n0 + n1 : Nat) : Int) := rfl
      rw [e0]
      clear e0 l0 l1
      go_wp2_with fail
      refine HG.out.mono ?_
      rintro e w2 ⟨v, rfl, ho, hne, hb2⟩
      go_wp2
      go_loopw [6, 27] (fun v i wr => CcRel xs ys n0 n1 w.heap.size w v i wr) (fun _ i _ => 2 - (intOf i).toNat)
      case atStart => exact ⟨0, _, rfl, by omega, rfl, ho, hne, hb2⟩
      case round =>
        clear ho hne hb2
        obtain ⟨k, V, rfl, hk, rfl, HO, HN, HB⟩ := hrel
        have l0 := (HV.out wr HB.out).1
        have l1 := (HV.out wr HB.out).2
        by_cases hk2 : k < 2
        · rcases (show k = 0 ∨ k = 1 by omega) with rfl | rfl
          · have HP := Lib.hid (H0.out.later HB.out)
            have hB := HB.out.size
            go_wp2_with (at_builtin; refine wpList_append_partQ hi0 hz0 hz1 hz2 rfl _ _ rfl w.heap.size _ 0 [] rfl HO.out HN.out A0 n0 c0 xs rfl HP.out (by omega) (by omega) hB ?_; intro v' w4 hown4 hne4 hb4)
            have HO4 : Hid (w4.ownsRow w.heap.size 3 1 v' (szQ n0 n1 1) ((ccQ xs ys 1).map (Value.int .i64))) := by show World.ownsRow _ _ _ _ _ _ _; have := hown4; rw [Nat.zero_add, List.nil_append] at this; exact this
            have HN4 := Lib.hid hne4
            have HB4 := Lib.hid (HB.out.trans hb4)
            clear hown4 hne4 hb4 l0 l1
            go_wp2
            go_roundw
            case rel => exact ⟨1, _, rfl, by omega, rfl, HO4, HN4, HB4⟩
            case measure => simp [intOf]
          · have HP := Lib.hid (H1.out.later HB.out)
            have hB := HB.out.size
            go_wp2_with (at_builtin; refine wpList_append_partQ hi0 hz0 hz1 hz2 rfl _ _ rfl w.heap.size _ n0 xs rfl HO.out HN.out A1 n1 c1 ys rfl HP.out (by omega) (by omega) hB ?_; intro v' w4 hown4 hne4 hb4)
            have HO4 : Hid (w4.ownsRow w.heap.size 3 1 v' (szQ n0 n1 2) ((ccQ xs ys 2).map (Value.int .i64))) := hown4
            have HN4 := Lib.hid hne4
            have HB4 := Lib.hid (HB.out.trans hb4)
            clear hown4 hne4 hb4 l0 l1
            go_wp2
            go_roundw
            case rel => exact ⟨2, _, rfl, by omega, rfl, HO4, HN4, HB4⟩
            case measure => simp [intOf]
        · obtain rfl : k = 2 := by omega
          have hl := HL.out 2
          obtain ⟨A2, c2, hv2, -, -, -⟩ := own_slice HO.out hl
          have HE : Hid (RowQ (xs ++ ys) w (.returned V) wr) := by
            subst hv2
            exact ⟨A2, c2, by rw [show (xs ++ ys).length = szQ n0 n1 2 from hl], by have := HO.out; rw [show (xs ++ ys).length = szQ n0 n1 2 from hl]; exact this, HB.out⟩
          clear hv2 hl l0 l1
          go_wp2
          go_ret
          exact HE.out
end Go.Proofs.Ytoohfipicmdohaa
namespace Go.Proofs.Ytoohfipicmdohaa
open Go.ChangeShapes Go.WideShapes Go.ChangeAt Go.RowKit
set_option linter.unusedVariables false
set_option maxRecDepth 4000

theorem head_runQ (b o n c i : Nat) (h1 : i ≤ n) (h2 : n ≤ c) (W : World) : (Instr.slice 23 (.slice (some ⟨b, o, none⟩) n c) none (some (.int .i64 (i : Int))) none).run Try.prog W = .ok (.slice (some ⟨b, o, none⟩) i c) W := by
  have e1 : (0 : Int) ≤ (i : Int) := by omega
  have e2 : (i : Int) ≤ (c : Int) := by omega
  go_simp
  all_goals omega
theorem tail_runQ (b o n c t : Nat) (h1 : t ≤ n) (h2 : n ≤ c) : ∃ A' c', (∃ b' o', A' = some (⟨b', o', none⟩ : Addr)) ∧ (A' = some (⟨b, o + t, none⟩ : Addr) ∨ n - t = 0) ∧ n - t ≤ c' ∧ ∀ W : World, (Instr.slice 23 (.slice (some ⟨b, o, none⟩) n c) (some (.int .i64 (t : Int))) none none).run Try.prog W = .ok (.slice A' (n - t : Nat) c') W := by
  refine ⟨if c = t then some ⟨b, o, none⟩ else some ⟨b, o + t, none⟩, c - t, ?_, ?_, by omega, fun W => ?_⟩
  · split
    · exact ⟨_, _, rfl⟩
    · exact ⟨_, _, rfl⟩
  · split
    · right; omega
    · left; rfl
  · have e1 : (0 : Int) ≤ (t : Int) := by omega
    have e2 : (t : Int) ≤ (n : Int) := by omega
    have e3 : (n : Int) ≤ (c : Int) := by omega
    go_simp
    all_goals omega
theorem RdI.takeQ {w : World} {B : Nat} {A : Option Addr} {ss : List Nat} (h : RdI w B A (cI ss)) (i : Nat) : RdI w B A (cI (ss.take i)) := fun hp => by
  rw [cI_length, List.length_take] at hp
  obtain ⟨b, off, e, hb, hc⟩ := h (by rw [cI_length]; omega)
  refine ⟨b, off, e, hb, fun j hj => ?_⟩
  rw [cI_length, List.length_take] at hj
  rw [hc j (by rw [cI_length]; omega), cI_getD, cI_getD]
  simp [List.getD, show j < i by omega]
theorem RdI.dropQ {w : World} {B b off : Nat} {ss : List Nat} (h : RdI w B (some ⟨b, off, none⟩) (cI ss)) (i : Nat) : RdI w B (some ⟨b, off + i, none⟩) (cI (ss.drop i)) := fun hp => by
  rw [cI_length, List.length_drop] at hp
  obtain ⟨b', off', e, hb, hc⟩ := h (by rw [cI_length]; omega)
  injection e with e
  injection e with e1 e2
  subst e1 e2
  refine ⟨b, off + i, rfl, hb, fun j hj => ?_⟩
  rw [cI_length, List.length_drop] at hj
  rw [Nat.add_assoc, hc (i + j) (by rw [cI_length]; omega), cI_getD, cI_getD]
  simp [List.getD, List.getElem?_drop]
def IrRel (n m : Nat) (ss : List Nat) (w : World) (i : Value) (wr : World) : Prop :=
  ∃ k, k ≤ m ∧ i = .int .i64 ((k : Nat) : Int) ∧ Hid (∀ j, j < k → rstI n ss j = true) ∧ Hid (Below w.heap.size w wr)
set_option maxHeartbeats 1600000 in
theorem iIsRest_ok : QBool 30 rtQ := by
  intro n A c m zs w hp
  have HV := Lib.hid (iValidShops_any n A c m zs w hp)
  by_cases hv : vsh n zs = true
  · obtain ⟨n, ss, rfl, rfl, hS⟩ := vsh_get hv
    rw [hv] at HV
    have hm : ss.length = m := by rw [← cI_length]; exact hp.len
    have hl4 := hS.l4
    by_cases h2 : m < 2
    · rw [rtQ_no (.inr (by rw [cI_length]; omega))]
      clear hv hS hp hm hl4
      go_enter Try.func30, Try.ntmps30
      go_wp2_with fail
      refine HV.out.mono ?_
      rintro e w1 ⟨rfl, rfl⟩
      go_wp2
      go_ret
      exact ⟨rfl, Below.refl _ _⟩
    · rw [rtQ_yes hS (by omega)]
      have hn1 := hS.n1
      have hn9 := hS.n9
      have HS := Lib.hid (iSharesOf_ok (n : Int) A c m (cI ss) w hp)
      rw [shQ_yes hS] at HS
      have Hm := Lib.hid hm
      obtain ⟨b, off, -, hA, hbl, -⟩ := hp.rd.q (k := 0) (by omega)
      subst hA
      have HP := Lib.hid hp
      have Hn1 := Lib.hid hn1
      have hmc := hp.cap
      have HOt : Hid (∀ i, i < m → Sh n (otS ss i) ∧ (otS ss i).length = m - 1) := fun i hi => ⟨hS.others (by omega) (by omega), by rw [otS_length (by omega), hm]⟩
      have HB := Lib.hid iBestPlace_ok
      have HSb := Lib.hid (fun (o : List Nat) (A : Option Addr) (c q p : Nat) (W : World) (h1 : PIn W A c q (cI o)) (h2 : Sh n o) (h3 : o.length ≠ 4) (h4 : p < n) => shareBeside_any n p c q o A W h1 h2 h3 h4)
      have HL : Hid ((cI (shL n ss)).length = m) := by show _ = _; rw [cI_length, shL_length, hm]
      have hm4 : m ≤ 4 := by omega
      clear hv hS hp hm hbl
      go_enter Try.func30, Try.ntmps30
      go_wp2_with fail
      refine HV.out.mono ?_
      rintro e w1 ⟨rfl, rfl⟩
      go_wp2_with fail
      refine HS.out.mono ?_
      rintro e w2 ⟨A2, c2, rfl, ho2, hb2⟩
      rw [HL.out] at ho2 ⊢
      obtain ⟨A3, c3, he, -, -, hrd⟩ := own_slice ho2.out HL.out
      injection he with he1 _ he3
      subst he1 he3
      have Hrd := Lib.hid hrd
      have HB2 := Lib.hid hb2.out
      clear ho2 hb2 hrd
      go_wp2
      go_loopw [21] (fun i wr => IrRel n m ss w2 i wr) (fun i _ => m - (intOf i).toNat)
      case atStart => exact ⟨0, Nat.zero_le _, rfl, fun j hj => by omega, Below.refl _ _⟩
      case round =>
        obtain ⟨k, hk, rfl, HR, HBw⟩ := hrel
        by_cases hlt : k < m
        · obtain ⟨b2, o2, x, rfl, -, Hx, hcx⟩ := (Hrd.out.below HBw.out).x (k := k) (by rw [HL.out]; exact hlt)
          obtain ⟨s, Hs⟩ : ∃ s, Hid (shK ss (ss.getD k 0) n = s) := ⟨_, rfl⟩
          have hxs : x = ((s : Nat) : Int) := by rw [← Hx.out, cI_getD, shL_getD (by rw [Hm.out]; exact hlt), Hs.out]
          rw [hxs] at hcx
          have HPw := Lib.hid (HP.out.later (HB2.out.trans (HBw.out.mono HB2.out.size)))
          obtain ⟨A', c', hA1, hA2, hA3, htl⟩ := tail_runQ b off m c (k + 1) (by omega) hmc.1
          rw [show ((k + 1 : Nat) : Int) = (k : Int) + 1 from rfl] at htl
          have hhd := head_runQ b off m c k (by omega) hmc.1
          have HCc : Hid (∀ (V : World) (vb : Nat), Below wr.heap.size wr V → V.heap[vb]? = some (.cells #[.slice (some ⟨b, off, none⟩) k c, .slice A' (m - (k + 1) : Nat) c'] 23 (0, 0)) → Calls Try.prog 57 #[.slice (some ⟨vb, 0, none⟩) 2 2] V (RowQ (cI (otS ss k)) V)) := fun V vb hb hh => by
            have hpv := HPw.out.later hb
            have hot : cI (otS ss k) = cI (ss.take k) ++ cI (ss.drop (k + 1)) := by unfold otS; exact cI_append _ _
            rw [hot]
            refine concatQ_any vb 2 k c (m - (k + 1)) c' (some ⟨b, off, none⟩) A' _ _ V ⟨hpv.rd.takeQ k, by rw [cI_length, List.length_take, Hm.out]; omega, (fun h => by cases h), fun a ha => ⟨b, off, by injection ha with ha; exact ha.symm⟩⟩ ⟨?_, by rw [cI_length, List.length_drop, Hm.out], ?_, ?_⟩ (by omega) (by omega) hh
            · rcases hA2 with rfl | h0
              · exact hpv.rd.dropQ (k + 1)
              · intro hl; rw [cI_length, List.length_drop, Hm.out] at hl; omega
            · obtain ⟨b', o', rfl⟩ := hA1
              intro h; cases h
            · obtain ⟨b', o', rfl⟩ := hA1
              intro a ha
              injection ha with ha
              exact ⟨b', o', ha.symm⟩
          have hk1 : (0 : Int) ≤ (k : Int) + 1 := by omega
          have hk2 : (k : Int) + 1 ≤ (m : Int) := by omega
          have hw1 : IntKind.i64.wrap ((k : Int) + 1) = (k : Int) + 1 := IntWalk.i64_in _ (by omega)
          clear hA1 hA2 hA3 Hx
          go_wp2
          go_region_with (go_at_call 57; refine (HCc.out _ _ (((Below.refl _ _).alloc (Nat.le_refl _) _).drew) (heap_alloc_new wr _)).mono ?_; rintro e w5 ⟨A5, c5, rfl, ho5, hb5⟩)
          obtain ⟨hSo, hlo⟩ := HOt.out k hlt
          have Hlo : Hid ((cI (otS ss k)).length = m - 1) := by show _ = _; rw [cI_length]; exact hlo
          rw [Hlo.out] at ho5 ⊢
          obtain ⟨A6, c6, he6, hc6, hc66, hrd6⟩ := own_slice ho5.out Hlo.out
          injection he6 with he1 _ he3
          subst he1 he3
          have HP5 : Hid (PIn w5 A5 c5 (m - 1) (cI (otS ss k))) := ⟨hrd6, Hlo.out, ⟨hc6, hc66⟩, by omega⟩
          have HB5 : Hid (Below w2.heap.size w2 w5) := HBw.out.trans ((((Below.refl wr.heap.size wr).alloc (Nat.le_refl _) _).drew.trans (hb5.out.mono (by show wr.heap.size ≤ (wr.alloc _).heap.size; rw [size_alloc1]; omega))).mono HBw.out.size)
          have Hbp := Lib.hid (HB.out (n : Int) A5 c5 (m - 1) (cI (otS ss k)) w5 HP5.out)
          rw [bpQ_yes hSo (by omega)] at Hbp
          have Hsb := Lib.hid (fun (V : World) (hV : Below w5.heap.size w5 V) => HSb.out (otS ss k) A5 c5 (m - 1) (bpS n (otS ss k)) V (HP5.out.later hV) hSo (by omega) (bpS_lt _ Hn1.out))
          have Hri : Hid (rstI n ss k = decide (adS n (otS ss k) (bpS n (otS ss k)) ≤ s)) := by show _ = _; rw [rstI_best ss k Hn1.out, Hs.out]
          obtain ⟨bp, Hbe⟩ : ∃ bp, Hid (bpS n (otS ss k) = bp) := ⟨_, rfl⟩
          rw [Hbe.out] at Hbp Hsb Hri
          obtain ⟨a, Ha⟩ : ∃ a, Hid (adS n (otS ss k) bp = a) := ⟨_, rfl⟩
          rw [Ha.out] at Hsb Hri
          clear ho5 hb5 hSo hlo hrd6 hc6 hc66 htl hhd HCc
          by_cases hgt : s < a
          · have HE : Hid (rstS n ss = false) := rstS_no (i := k) (by rw [Hm.out]; exact hlt) (by rw [Hri.out]; simp; omega)
            go_wp2_with fail
            refine Hbp.out.mono ?_
            rintro e w6 ⟨rfl, hb6⟩
            have HB6 := Lib.hid hb6
            clear hb6
            go_wp2_with fail
            refine (Hsb.out w6 HB6.out).mono ?_
            rintro e w7 ⟨rfl, hb7⟩
            have HB7 : Hid (Below w.heap.size w w7) := HB2.out.trans ((HB5.out.trans ((HB6.out.trans (hb7.mono HB6.out.size)).mono HB5.out.size)).mono HB2.out.size)
            clear hb7
            go_wp2
            go_ret
            exact ⟨ret_bool HE.out.symm, HB7.out⟩
          · have HR2 : Hid (∀ j, j < k + 1 → rstI n ss j = true) := fun j hj => by
              by_cases e : j = k
              · subst e; rw [Hri.out]; simp; omega
              · exact HR.out j (by omega)
            go_wp2_with fail
            refine Hbp.out.mono ?_
            rintro e w6 ⟨rfl, hb6⟩
            have HB6 := Lib.hid hb6
            clear hb6
            go_wp2_with fail
            refine (Hsb.out w6 HB6.out).mono ?_
            rintro e w7 ⟨rfl, hb7⟩
            have HB7 : Hid (Below w2.heap.size w2 w7) := HB5.out.trans ((HB6.out.trans (hb7.mono HB6.out.size)).mono HB5.out.size)
            clear hb7
            go_wp2
            go_roundw
            case rel => exact ⟨k + 1, by omega, by go_num, HR2, HB7⟩
            case measure => simp [intOf]; omega
        · obtain rfl : k = m := by omega
          have HE : Hid (rstS n ss = true) := rstS_yes fun i hi => HR.out i (by rw [Hm.out] at hi; exact hi)
          go_wp2
          go_ret
          exact ⟨ret_bool HE.out.symm, HB2.out.trans (HBw.out.mono HB2.out.size)⟩
  · have hv' : vsh n zs = false := by simpa using hv
    rw [hv'] at HV
    rw [rtQ_no (.inl hv')]
    clear hv hv' hp
    go_enter Try.func30, Try.ntmps30
    go_wp2_with fail
    refine HV.out.mono ?_
    rintro e w1 ⟨rfl, rfl⟩
    go_wp2
    go_ret
    exact ⟨rfl, Below.refl _ _⟩
end Go.Proofs.Ytoohfipicmdohaa
