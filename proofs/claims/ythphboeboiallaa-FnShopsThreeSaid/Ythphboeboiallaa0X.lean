/-
  The lists of shops as tables in memory; the program's list of places below a number, walked; all lists of those places.
  Conditions: at most nine houses and four shops.
-/
import Derived.Test.Ythphboeboiallaa0XI
import Derived.Test.Ythphboeboiallaa0V
import Derived.Test.Ythphboeboiallaa0RW
namespace Go.Proofs.Ythphboeboiallaa
open Go.ChangeShapes Go.WideShapes Go.ChangeAt Go.RowKit
set_option linter.unusedVariables false
set_option maxRecDepth 4000

/-- A table of lists of places of the call's own. -/
structure RowsT (w : World) (B g c L : Nat) (Ls : List (List Nat)) (VR : Nat → Value) : Prop where
  len : Ls.length = L
  out : Outer w B L (.slice (some ⟨g, 0, none⟩) L c) VR
  tt : TT w B L VR (fun j => cI (Ls.getD j []))
theorem RowsT.below {w w' : World} {B g c L : Nat} {Ls : List (List Nat)} {VR : Nat → Value} (h : RowsT w B g c L Ls VR) (hb : Below w.heap.size w w') : RowsT w' B g c L Ls VR := ⟨h.len, h.out.below hb, h.tt.below hb⟩
theorem RowsT.g_lt {w : World} {B g c L : Nat} {Ls : List (List Nat)} {VR : Nat → Value} (h : RowsT w B g c L Ls VR) : B ≤ g ∧ g < w.heap.size := World.ownsRow.lt h.out g rfl
theorem getD_snoc {Ls : List (List Nat)} {l : List Nat} {L j : Nat} (hL : Ls.length = L) (hj : j < L + 1) : upd (fun j => cI (Ls.getD j [])) L (cI l) j = cI ((Ls ++ [l]).getD j []) := by
  by_cases e : j = L
  · subst e; rw [upd_at]; simp [List.getD, hL]
  · rw [upd_other _ _ e]
    simp only [List.getD]
    rw [List.getElem?_append_left (by omega)]
/-- One row more. -/
theorem RowsT.push {W wr w4 w5 : World} {g c L g5 c5 k : Nat} {Ls : List (List Nat)} {VR : Nat → Value} {l : List Nat} {v : Value} (h : RowsT wr W.heap.size g c L Ls VR) (hB : Below W.heap.size W wr) (hb : Below wr.heap.size wr w4) (hk : (cI l).length = k)
    (hown : w4.ownsRow wr.heap.size 3 1 v k ((cI l).map (Value.int .i64))) (hown5 : w5.ownsRow W.heap.size 23 1 (.slice (some ⟨g5, 0, none⟩) (L + 1) c5) (L + 1) ((List.range L).map VR ++ [v])) (hg : (w4.alloc (.cells #[v] 23)).grownBy w5 (Value.slice (some ⟨g, 0, none⟩) L c).ownBlock) :
    RowsT w5 W.heap.size g5 c5 (L + 1) (Ls ++ [l]) (upd VR L v) ∧ Below W.heap.size W w5 := by
  obtain ⟨h1, h2, h3⟩ := tabX_end (h.tt.addRow hB.size hb hk hown) (h.out.below hb) (hB.trans (hb.mono hB.size)) hown5 hg (size_alloc1 _ _)
  exact ⟨⟨by rw [List.length_append, h.len]; rfl, h1, h2.congr fun j hj => getD_snoc h.len hj⟩, h3⟩
/-- Another table stays. -/
theorem RowsT.stay {wr w4 w5 : World} {B B' g c L g1 c1 L1 : Nat} {Ls Ls1 : List (List Nat)} {VR VR1 : Nat → Value} {o : Obj} (h : RowsT wr B g c L Ls VR) (h1 : RowsT wr B' g1 c1 L1 Ls1 VR1) (hne : g1 ≠ g) (hb : Below wr.heap.size wr w4) (hg : (w4.alloc o).grownBy w5 (Value.slice (some ⟨g1, 0, none⟩) L1 c1).ownBlock) : RowsT w5 B g c L Ls VR := by
  have hb2 : Below wr.heap.size wr (w4.alloc o) := hb.alloc hb.size _
  obtain ⟨⟨cs, hcs⟩, -, -⟩ := own_heap (h1.out.below hb2) (g := g1) rfl
  refine ⟨h.len, World.ownsRow.kept (h.out.below hb2) hg (.inr ?_), (h.tt.below hb2).keptBy hg fun g' e => ?_⟩
  · intro e
    injection e with e
    exact hne e.symm
  · injection e with e
    subst e
    exact ⟨cs, _, hcs, by decide⟩
theorem RowsT.rowAt {w : World} {B g c L : Nat} {Ls : List (List Nat)} {VR : Nat → Value} (h : RowsT w B g c L Ls VR) {j : Nat} (hj : j < L) : ∃ A n c', w.cell? ⟨g, j, none⟩ = some (.slice A n c') ∧ PartQ w A n c' (cI (Ls.getD j [])) ∧ (Ls.getD j []).length = n := by
  obtain ⟨A, c', e, hp⟩ := part_own (h.tt.own j hj) rfl
  have hc := Outer.cell h.out hj
  rw [e] at hc
  exact ⟨A, _, c', hc, hp, by rw [cI_length]⟩

theorem lst_all : ((List.range 10).all fun n => (List.range 5).all fun k => (List.range 10).all fun a => decide ((lstS n k a).length ≤ 1000)) = true := by decide +kernel
theorem lst_le {n k a : Nat} (h1 : n ≤ 9) (h2 : k ≤ 4) (h3 : a ≤ 9) : (lstS n k a).length ≤ 1000 := by
  have h := lst_all
  simp only [List.all_eq_true, List.mem_range, decide_eq_true_eq] at h
  exact h n (by omega) k (by omega) a (by omega)
def LsPostN (Ls : List (List Nat)) (w : World) (e : Ending) (w' : World) : Prop :=
  ∃ g c VR, e = .returned (.slice (some ⟨g, 0, none⟩) Ls.length c) ∧ Hid (RowsT w' w.heap.size g c Ls.length Ls VR) ∧ Hid (Below w.heap.size w w')
theorem RowsI.places {w : World} {B g c L : Nat} {Ls : List (List Int)} {VR : Nat → Value} (h : RowsI w B g c L Ls VR) {Lt : List (List Nat)} (he : Ls = Lt.map cI) : RowsT w B g c L Lt VR := by
  subst he
  refine ⟨by rw [← h.len, List.length_map], h.out, h.tt.congr fun j hj => ?_⟩
  have hl := h.len
  rw [List.length_map] at hl
  simp [List.getD, List.getElem?_eq_getElem (show j < Lt.length by omega)]
theorem lo_lst (n : Nat) : ∀ (k a : Nat), a ≤ n → loL k (cI (List.range' a (n - a))) = (lstS n k a).map cI
  | 0, a, _ => rfl
  | k + 1, a, ha => by
    have hl : (cI (List.range' a (n - a))).length = n - a := by rw [cI_length, List.length_range']
    show loP (loL k) (cI (List.range' a (n - a))) (cI (List.range' a (n - a))).length = _
    rw [hl]
    show (List.range (n - a)).flatMap (fun q => (loL k ((cI (List.range' a (n - a))).drop q)).map ((cI (List.range' a (n - a))).getD q 0 :: ·)) = ((List.range' a (n - a)).flatMap fun q => (lstS n k q).map (q :: ·)).map cI
    rw [List.range'_eq_map_range, List.map_flatMap, List.flatMap_map]
    rw [List.flatMap_def, List.flatMap_def]
    congr 1
    refine List.map_congr_left fun q hq => ?_
    rw [List.mem_range] at hq
    have h1 : (cI ((List.range (n - a)).map (a + ·))).drop q = cI (List.range' (a + q) (n - (a + q))) := by
      rw [← List.range'_eq_map_range]
      unfold cI
      rw [← List.map_drop, List.drop_range']
      congr 2
      · omega
      · omega
    have h2 : (cI ((List.range (n - a)).map (a + ·))).getD q 0 = ((a + q : Nat) : Int) := by
      rw [cI_getD]
      simp [List.getD, hq]
    rw [h1, h2, lo_lst n k (a + q) (by omega), List.map_map, List.map_map]
    rfl
/-- The places while they are written. -/
def plF (j t : Nat) : Nat := if t < j then t else 0
structure PlS (w wr : World) (g n j : Nat) : Prop where
  row : wr.heap[g]? = some (.cells (rwA (plF j) n) 3 (0, 0))
  bel : Below w.heap.size w wr
  lo : w.heap.size ≤ g
theorem PlS.write {w wr : World} {g n j : Nat} (h : PlS w wr g n j) (hj : j < n) : PlS w (wr.setCell ⟨g, j, none⟩ (.int .i64 ((j : Nat) : Int))) g n (j + 1) := by
  refine ⟨?_, h.bel.setCell h.lo _, h.lo⟩
  rw [heap_setCell_same _ _ _ _ _ _ h.row, rwA_set hj]
  rw [rwA_congr (f := fun t => if t = j then j else plF j t) (g := plF (j + 1))]
  intro t _
  unfold plF
  by_cases e : t = j
  · subst e; simp
  · rw [if_neg e]
    by_cases h2 : t < j
    · rw [if_pos h2, if_pos (by omega)]
    · rw [if_neg h2, if_neg (by omega)]
theorem PlS.done {w wr : World} {g n : Nat} (h : PlS w wr g n n) (hm : n ≤ 1000) : RowQ (cI (List.range' 0 n)) w (.returned (.slice (some ⟨g, 0, none⟩) n n)) wr := by
  have hL : (cI (List.range' 0 n)).length = n := by rw [cI_length, List.length_range']
  have e : rwA (plF n) n = ((cI (List.range' 0 n)).map (Value.int .i64)).toArray := by
    unfold rwA cI
    congr 1
    apply List.ext_getElem?
    intro i
    by_cases hi : i < n
    · simp [hi, plF]
    · simp [hi]
  refine ⟨_, _, by rw [hL], ⟨?_, .inr ⟨g, n, _, by rw [hL], h.lo, h.row, by rw [hL]; exact Nat.le_refl _, by unfold maxLen; omega, ?_, ?_⟩⟩, h.bel⟩
  · rw [List.length_map, Nat.mul_one]
  · rw [rwA_size, Nat.mul_one]
  · rw [e, hL, Nat.mul_one, List.take_of_length_le (by rw [List.length_map]; omega)]
set_option maxHeartbeats 800000 in
theorem placesBelow_any (n : Nat) (w : World) (h1 : 1 ≤ n) (h9 : n ≤ 9) : Calls Try.prog 62 #[.int .i64 ((n : Nat) : Int)] w (RowQ (cI (List.range' 0 n)) w) := by
  obtain ⟨i0, hi0, hz0, hz1, hz2⟩ := info_parts intInfo
  go_enter Try.func62, Try.ntmps62
  go_wp2_with (at_make; refine wpList_make_full _ rfl _ _ 23 rfl w.heap.size 3 i0 _ 1 Try.underlying23 hi0 hz0 hz1 _ _ _ _ n rfl rfl rfl rfl (by rw [hz2]; omega) (by unfold maxLen; omega) (Nat.le_refl _) ?_; intro w2 hown2 hg2)
  rw [made_ints] at hown2
  have hblk := own_blockN hown2
  rw [rwA_zero] at hblk
  have hb2 : Below w.heap.size w w2 := (Below.refl _ _).grown hg2 (Nat.le_refl _) (fun j hj => by cases hj)
  have HS2 : Hid (PlS w w2 w.heap.size n 0) := ⟨by rw [rwA_congr (f := plF 0) (g := fun _ => 0) (fun t _ => by unfold plF; rw [if_neg (by omega)])]; exact hblk, hb2, Nat.le_refl _⟩
  clear hown2 hg2 hblk hb2
  go_wp2
  go_loopw [9] (fun i wr => ∃ j : Nat, j ≤ n ∧ i = .int .i64 ((j : Nat) : Int) ∧ Hid (PlS w wr w.heap.size n j)) (fun i _ => n - (intOf i).toNat)
  case atStart => exact ⟨0, Nat.zero_le _, rfl, HS2⟩
  case round =>
    clear HS2
    obtain ⟨j, hj, rfl, HS⟩ := hrel
    by_cases hlt : j < n
    · have cs : wr.cell? ⟨w.heap.size, j, none⟩ = some (.int .i64 ((plF j j : Nat) : Int)) := (cell_of_row _ _ _ _ _ _ HS.out.row).trans (rwA_get hlt)
      have fs := frozen_of_row _ w.heap.size j _ _ HS.out.row
      have HS3 := Lib.hid (HS.out.write hlt)
      clear HS
      go_wp2
      go_roundw
      case rel => exact ⟨j + 1, by omega, by go_num, HS3⟩
      case measure => simp [intOf]; omega
    · obtain rfl : j = n := by omega
      have HE := Lib.hid (HS.out.done (by omega))
      clear HS
      go_wp2
      go_ret
      exact HE.out
/-- All lists of shops of a street. -/
theorem listsN_any (n k : Nat) (A : Option Addr) (c : Nat) (w : World) (h1 : 1 ≤ n) (h9 : n ≤ 9) (hk : k ≤ 4) (hr : w.ownsRow w.heap.size 3 1 (.slice A n c) n ((cI (List.range' 0 n)).map (Value.int .i64)) ∨ ∃ B, w.ownsRow B 3 1 (.slice A n c) n ((cI (List.range' 0 n)).map (Value.int .i64))) :
    Calls Try.prog 61 #[.slice A n c, .int .i64 ((k : Nat) : Int)] w (LsPostN (lstS n k 0) w) := by
  have hL : (cI (List.range' 0 n)).length = n := by rw [cI_length, List.length_range']
  obtain ⟨B, ho⟩ : ∃ B, w.ownsRow B 3 1 (.slice A n c) n ((cI (List.range' 0 n)).map (Value.int .i64)) := by
    rcases hr with h | h
    · exact ⟨_, h⟩
    · exact h
  obtain ⟨A', c', e, hc1, hc2, hrd⟩ := own_slice ho hL
  injection e with e1 _ e3
  subst e1 e3
  obtain ⟨b, off, rfl, -, -⟩ := hrd (by rw [hL]; omega)
  refine (lists_any k hk b off n c _ w hrd hL h1 h9 hc1 hc2).mono ?_
  rintro e w' ⟨g, c2, VR, rfl, hT, hb⟩
  have he : loL k (cI (List.range' 0 n)) = (lstS n k 0).map cI := lo_lst n k 0 (Nat.zero_le _)
  have hl : (loL k (cI (List.range' 0 n))).length = (lstS n k 0).length := by rw [he, List.length_map]
  rw [hl] at hT ⊢
  exact ⟨g, c2, VR, rfl, hT.out.places he, hb⟩
end Go.Proofs.Ythphboeboiallaa
