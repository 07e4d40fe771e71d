/-
  Repeat of a slice of ints.
  Conditions: as each theorem states.
  tableWithoutStreets of the program, walked.
  Conditions: one to seven nodes.
  ValidNet of the program, walked: the search for a street that is no street of a net.
  Conditions: fewer than 2^60 streets.
  NetTable of the program, walked: street by street until nothing changes.
  Conditions: at most 2^20 streets.
  The program's sets of near nodes over a table, and the most of them without a common one.
  Conditions: at most seven nodes.
  OnesCount of a set of at most seven homes.
  Conditions: the set is below 128.
  hasAllNear of the program, walked: whether each node's near ones meet a set.
  Conditions: at most seven nodes, sets below 128.
-/
import Derived.Test.YtkgomgfhhhdnjabZ7
import Derived.Test.YtkgomgfhhhdnjabZ4
import Derived.Test.YtkgomgfhhhdnjabZ5
import Derived.Test.YtkgomgfhhhdnjabZ2
import Derived.Test.YtkgomgfhhhdnjabZ0
import Derived.Deep.LoopGhost
import Derived.Deep.RegionWith
namespace Go.Proofs.Ytkgomgfhhhdnjab
open Go.ChangeShapes Go.WideShapes Go.ChangeAt Go.RowKit
set_option linter.unusedVariables false
set_option maxRecDepth 20000

def OwnedList (w : World) (zs : List Int) (e : Ending) (w' : World) : Prop :=
  ∃ v, e = .returned v ∧ w'.ownsRow w.heap.size 3 1 v zs.length (zs.map (Value.int .i64)) ∧ Below w.heap.size w w'

theorem splice_rep (x : Int) (L m j : Nat) (hm : m + j ≤ L) : splice (List.replicate m (Value.int .i64 x) ++ List.replicate (L - m) (Value.int .i64 0)) m (List.replicate j (Value.int .i64 x)) = List.replicate (m + j) (Value.int .i64 x) ++ List.replicate (L - (m + j)) (Value.int .i64 0) := by
  unfold splice
  rw [List.take_append_of_le_length (by simp), List.take_of_length_le (by simp), List.drop_append]
  simp only [List.length_replicate, List.drop_replicate]
  rw [show m - (m + j) = 0 by omega, show L - m - (m + j - m) = L - (m + j) by omega]
  simp only [List.replicate_zero, List.nil_append]
  rw [← List.append_assoc, List.replicate_append_replicate]
theorem mul_one_any (L : Nat) (hL : L ≤ 1000) (w : World) :
    Calls Try.prog 116 #[.int .u64 1, .int .u64 L] w fun e w' => e = .returned (.tuple #[.int .u64 0, .int .u64 (L : Int)]) ∧ w = w' := by
  have h := mul_small 1 L (by omega) hL w
  rw [Nat.one_mul] at h
  exact h

theorem own_block {w : World} {B b n : Nat} {xs : List Value} (h : w.ownsRow B 3 1 (.slice (some ⟨b, 0, none⟩) n n) n xs) : w.heap[b]? = some (.cells xs.toArray 3 (0, 0)) := by
  obtain ⟨h0, h1⟩ := h
  rcases h1 with ⟨h1, _⟩ | ⟨g, cap, cur, hv, _, hh, _, _, hs, ht⟩
  · cases h1
  · injection hv with h1 h2 h3
    injection h1 with h1
    injection h1 with h1
    subst h1 h3
    have : cur = xs.toArray := by
      rw [List.take_of_length_le (by rw [Array.length_toList, hs]; exact Nat.le_refl _)] at ht
      rw [← ht]
    rw [← this]
    exact hh
theorem intSize : (Try.prog.info? 3).map (·.size) = some 1 := by kernel_rfl
theorem rep_min {L : Nat} (h : 1 ≤ L) {x : Int} : ([Value.int .i64 x]).length = Nat.min 1 L := by
  show 1 = min 1 L
  omega
theorem rep_fit {L : Nat} (h : 1 ≤ L) {x : Int} : 0 + ([Value.int .i64 x]).length ≤ (List.replicate L (Value.int .i64 0)).length := by simp; omega
theorem one_cell {w : World} {g : Nat} {x : Int} (h : w.cell? ⟨g, 0, none⟩ = some (.int .i64 x)) : ∀ j v, ([Value.int .i64 x])[j]? = some v → w.cell? ((⟨g, 0, none⟩ : Addr).add j) = some v := by
  intro j v hj
  match j, hj with
  | 0, hj => simp at hj; subst hj; simpa [Addr.add] using h
theorem one_one (x : Int) : ∀ v ∈ [Value.int .i64 x], v.oneCell' = true := by intro v hv; simp at hv; subst hv; rfl

theorem rep_made {w w1 : World} {L g : Nat} {x : Int} (hown1 : w1.ownsRow w.heap.size 3 1 (.slice (some ⟨w.heap.size, 0, none⟩) L L) L (madeCells (Value.int .i64 0).cells (L * 1)).toList) (hg1 : w.grownBy w1 none)
    (hg : g < w.heap.size) (hc : w.cell? ⟨g, 0, none⟩ = some (.int .i64 x)) :
    Hid (w1.heap[w.heap.size]? = some (.cells (List.replicate L (Value.int .i64 0)).toArray 3 (0, 0))) ∧ Hid (w1.cell? ⟨g, 0, none⟩ = some (.int .i64 x)) ∧ Below w.heap.size w w1 := by
  have hblk := own_block hown1
  rw [made_ints] at hblk
  have hnx1 : Below w.heap.size w w1 := (Below.refl _ _).grown hg1 (Nat.le_refl _) (fun j hj => by cases hj)
  exact ⟨hblk, (hnx1.cell (p := ⟨g, 0, none⟩) hg).trans hc, hnx1⟩

def reps (x : Int) (L m : Nat) : List Value := List.replicate m (Value.int .i64 x) ++ List.replicate (L - m) (Value.int .i64 0)
theorem reps_one (x : Int) {L : Nat} (h : 1 ≤ L) : splice (List.replicate L (Value.int .i64 0)) 0 [.int .i64 x] = reps x L 1 := by
  have := splice_rep x L 0 1 (by omega)
  simpa [reps] using this
theorem reps_length (x : Int) {L m : Nat} (h : m ≤ L) : (reps x L m).length = L := by simp [reps]; omega
theorem reps_min (x : Int) (m L : Nat) : (List.replicate (min m (L - m)) (Value.int .i64 x)).length = Nat.min m (L - m) := by exact List.length_replicate
theorem reps_fit (x : Int) {m L : Nat} (h : m ≤ L) : m + (List.replicate (min m (L - m)) (Value.int .i64 x)).length ≤ (reps x L m).length := by
  rw [reps_length x h, List.length_replicate]; omega
theorem reps_oneCell (x : Int) (j : Nat) : ∀ v ∈ List.replicate j (Value.int .i64 x), v.oneCell' = true := by
  intro v hv; rw [List.eq_of_mem_replicate hv]; rfl
theorem reps_cells {w : World} {b L m j : Nat} {x : Int} (h : w.heap[b]? = some (.cells (reps x L m).toArray 3 (0, 0))) (hj : j ≤ m) :
    ∀ i v, (List.replicate j (Value.int .i64 x))[i]? = some v → w.cell? ((⟨b, 0, none⟩ : Addr).add i) = some v := by
  intro i v hv
  have hi : i < j := by have := (List.getElem?_eq_some_iff.1 hv).1; simpa using this
  have he : (⟨b, 0, none⟩ : Addr).add i = ⟨b, i, none⟩ := by unfold Addr.add; split <;> simp_all
  rw [List.getElem?_replicate, if_pos hi] at hv
  rw [he, cell_of_row _ _ _ _ _ _ h, ← hv]
  simp [reps, List.getElem?_append_left (show i < (List.replicate m (Value.int .i64 x)).length by simp; omega), show i < m by omega]

theorem reps_done {w wr : World} {x : Int} {m : Nat} (h : wr.heap[w.heap.size]? = some (.cells (reps x m m).toArray 3 (0, 0))) (hnx : Below w.heap.size w wr) (hm : m ≤ 1000) :
    OwnedList w (List.replicate m x) (.returned (.slice (some ⟨w.heap.size, 0, none⟩) m m)) wr := by
  have e : reps x m m = (List.replicate m x).map (Value.int .i64) := by simp [reps]
  refine ⟨_, rfl, ⟨by simp, .inr ⟨w.heap.size, m, _, by simp, Nat.le_refl _, h, by simp, by unfold maxLen; omega, ?_, ?_⟩⟩, hnx⟩
  · rw [List.size_toArray, reps_length x (Nat.le_refl _), Nat.mul_one]
  · rw [e]
    rw [List.take_of_length_le (by simp)]

set_option maxHeartbeats 400000 in
theorem repeat_any (g L : Nat) (x : Int) (w : World) (hL : 1 ≤ L) (hL2 : L ≤ 1000) (hg : g < w.heap.size) (hc : w.cell? ⟨g, 0, none⟩ = some (.int .i64 x)) :
    Calls Try.prog 105 #[.slice (some ⟨g, 0, none⟩) 1 1, .int .i64 (L : Int)] w (OwnedList w (List.replicate L x)) := by
  obtain ⟨i0, hi0, hz0, hz1, hz2⟩ := info_parts intInfo
  go_enter Try.func105, Try.ntmps105
  go_wp2_with fail
  refine (mul_one_any L hL2 w).mono ?_
  rintro e w' ⟨rfl, rfl⟩
  go_wp2_with (first
    | (at_make; refine wpList_make_full _ rfl _ _ 33 rfl w.heap.size 3 i0 _ 1 Try.underlying33 hi0 hz0 hz1 _ _ _ _ L rfl rfl rfl rfl (by rw [hz2]; omega) (by unfold maxLen; omega) (Nat.le_refl _) ?_; intro w1 hown1 hg1; obtain ⟨Hblk, Hcx, hnx1⟩ := rep_made hown1 hg1 hg hc; clear hown1 hg1)
    | (with_reducible refine wpList_copy_splice rfl (.tmp 31) (.tmp 32) 33 33 rfl 3 Try.underlying33 intSize _ _ L L 1 1 rfl rfl w.heap.size 0 (List.replicate L (Value.int .i64 0)) 3 Hblk.out [.int .i64 x] (rep_min hL) (fun _ => ⟨rfl, _, rfl, one_cell Hcx.out⟩) (rep_fit hL) (one_one x) w.heap.size w hnx1 (Nat.le_refl _) ?_; intro w2 hb2 hnx2))
  have hb2' : w2.heap[w.heap.size]? = some (.cells (reps x L 1).toArray 3 (0, 0)) := by rw [← reps_one x hL]; exact hb2
  have Hb2 := Lib.hid hb2'
  clear hb2 hb2'
  go_loopw [8] (fun i wr => ∃ m : Nat, 1 ≤ m ∧ m ≤ L ∧ i = .int .i64 m ∧ Hid (wr.heap[w.heap.size]? = some (.cells (reps x L m).toArray 3 (0, 0))) ∧ Below w.heap.size w wr) (fun i _ => L - (intOf i).toNat)
  case atStart => exact ⟨1, Nat.le_refl _, hL, rfl, Hb2, hnx2⟩
  case round =>
    clear Hb2 hnx2
    obtain ⟨m, hm1, hm2, rfl, Hb, hnx⟩ := hrel
    by_cases hlt : m < L
    · have hLm : ¬ L = m := by omega
      have hj : min m (L - m) ≤ L - m := Nat.min_le_right _ _
      have hj1 : 1 ≤ min m (L - m) := by omega
      have HbD : Hid (wr.drew.heap[w.heap.size]? = some (.cells (reps x L m).toArray 3 (0, 0))) := Hb
      go_wp2
      go_region_law (refine step_copy_splice rfl (.tmp 41) (.tmp 44) 33 33 rfl 3 Try.underlying33 intSize (some ⟨w.heap.size, m, none⟩) (some ⟨w.heap.size, 0, none⟩) (L - m) (L - m) m L (by go_simp) (by go_simp) w.heap.size m (reps x L m) 3 HbD.out (List.replicate (min m (L - m)) (Value.int .i64 x)) (reps_min x m L) (fun _ => ⟨rfl, _, rfl, reps_cells HbD.out (Nat.min_le_left _ _)⟩) (reps_fit x hm2) (reps_oneCell x _) w.heap.size w hnx.drew (Nat.le_refl _) ?_; intro w4 hg4 hb4)
      have hb5 : w4.heap[w.heap.size]? = some (.cells (reps x L (m + min m (L - m))).toArray 3 (0, 0)) := by
        have h := hg4.out
        rw [show splice (reps x L m) m (List.replicate (min m (L - m)) (Value.int .i64 x)) = reps x L (m + min m (L - m)) from splice_rep x L m _ (by omega)] at h
        exact h
      have Hb5 := Lib.hid hb5
      clear hb5 hg4
      generalize hjj : min m (L - m) = j at *
      have Hjj := Lib.hid hjj
      clear hjj
      have hw : IntKind.i64.wrap ((m : Int) + (j : Int)) = (m : Int) + (j : Int) := IntWalk.i64_in _ (by omega)
      rw [hw]
      clear hw
      go_simp
      go_wp2
      go_roundw
      case rel => exact ⟨m + j, by omega, by omega, by go_num, Hb5, hb4⟩
      case measure => simp [intOf]; omega
    · obtain rfl : m = L := by omega
      go_wp2
      go_ret
      exact reps_done Hb.out hnx hL2
end Go.Proofs.Ytkgomgfhhhdnjab
namespace Go.Proofs.Ytkgomgfhhhdnjab
open Go.ChangeShapes Go.WideShapes Go.ChangeAt Go.RowKit
set_option linter.unusedVariables false
set_option maxRecDepth 4000

theorem rowX_own_set {n k : Nat} (hk : k < n) : (List.replicate n (-1 : Int)).set k 0 = rowX ownX n k := by
  unfold rowX ownX
  apply List.ext_getElem?
  intro i
  rw [List.getElem?_set]
  by_cases hi : i < n
  · by_cases e : k = i
    · subst e; simp [hi]
    · simp [hi, e]
  · simp [hi]; omega

set_option maxHeartbeats 1600000 in
theorem tableW_any (n : Nat) (w : World) (h1 : 1 ≤ n) (h7 : n ≤ 7) : Calls Try.prog 63 #[.int .i64 n] w (NTab w n ownX) := by
  obtain ⟨is, his, hzs0, hzs1, hzs2⟩ := info_parts slInfo2
  have hbi : is.bytes * n ≤ 281474976710656 := by rw [hzs2]; omega
  have hml : n ≤ maxLen := by unfold maxLen; omega
  go_enter Try.func63, Try.ntmps63
  go_wp2_with (at_make; refine wpList_make_full _ rfl _ _ 27 rfl w.heap.size 33 is _ 1 Try.underlying27 his hzs0 hzs1 _ _ _ _ n rfl rfl rfl rfl hbi hml (Nat.le_refl _) ?_; intro w1 hown1 hg1)
  have hb1 : Below w.heap.size w w1 := (Below.refl _ _).grown hg1 (Nat.le_refl _) (fun j hj => by cases hj)
  rw [Nat.mul_one, half_none] at hown1
  obtain ⟨G, HG⟩ : ∃ G, Hid (w.heap.size = G) := ⟨_, rfl⟩
  have ho1 : w1.ownsRow w.heap.size 33 1 (.slice (some ⟨G, 0, none⟩) n n) n (half (fun _ => .slice none 0 0) 0 n) := by rw [← HG.out]; exact hown1
  have hGB : w.heap.size ≤ G := Nat.le_of_eq HG.out
  rw [HG.out]
  have HO1 := Lib.hid ho1
  have HB1 := Lib.hid hb1
  clear hown1 hg1 ho1 hb1
  go_loopw [8] (fun i wr => ∃ k : Nat, ∃ VR, k ≤ n ∧ i = .int .i64 k ∧ wr.ownsRow w.heap.size 33 1 (.slice (some ⟨G, 0, none⟩) n n) n (half VR k n) ∧ TT wr w.heap.size k VR (rowX ownX n) ∧ Below w.heap.size w wr) (fun i _ => n - (intOf i).toNat)
  case atStart => exact ⟨0, fun _ => .slice none 0 0, Nat.zero_le _, rfl, HO1.out, ⟨fun j hj => by omega, fun i j g hi => by omega⟩, HB1.out⟩
  case round =>
    clear HO1 HB1
    obtain ⟨k, VR, hk, rfl, hO, hT, hnx⟩ := hrel
    by_cases hlt : k < n
    · have HO := Lib.hid hO
      have HT := Lib.hid hT
      have HB := Lib.hid hnx
      have hbl := (Below.refl wr.heap.size wr).alloc (Nat.le_refl _) (.cells #[.int .i64 (-1)] 3)
      have hsz := size_alloc1 wr (.cells #[.int .i64 (-1)] 3)
      have Hrep := Lib.hid (repeat_any wr.heap.size n (-1) (wr.alloc (.cells #[.int .i64 (-1)] 3)) h1 (by omega) (by omega) (by rw [cell_of_row _ _ _ _ _ _ (heap_alloc_new wr _)]; rfl))
      have HBL := Lib.hid hbl
      have HSZ := Lib.hid hsz
      clear hO hT hnx hbl hsz
      go_wp2_with fail
      refine Hrep.out.mono ?_
      rintro e wC ⟨v, rfl, hownC, hnxC⟩
      rw [List.length_replicate] at hownC
      have hbC : Below wr.heap.size wr wC := HBL.out.trans (hnxC.mono HBL.out.size)
      have hownD := ownN_base hownC (B' := wr.heap.size) HBL.out.size
      obtain ⟨A, c, rfl, -, -, hA⟩ := own_sliceN hownC
      obtain ⟨R, rfl, -, -⟩ := hA (by omega)
      obtain ⟨⟨x, cx⟩, fx, hst, hTT, hgB⟩ := tabH_step (ls := upd (rowX ownX n) k (List.replicate n (-1))) hlt HB.out.size (HT.out.congr (fun j hj => (upd_other _ _ (by omega)).symm)) HO.out hbC (by rw [upd_at, List.length_replicate]; exact hownD)
      obtain ⟨hT2, hRB⟩ := hTT.setAt (j := k) (n := n) (R := R) (c := c) (by omega) (by rw [upd_at, List.length_replicate]) (upd_at _ _ _) k 0
      have hrowR := hTT.own k (by omega)
      rw [upd_at, upd_at, List.length_replicate] at hrowR
      obtain ⟨⟨cs, hcs⟩, -, -⟩ := own_heap hrowR (g := R) rfl
      have hO2 := outer_setInt (b := k) (u := .int .i64 0) hst hcs
      have cr : (wC.setCell ⟨G, k, none⟩ (.slice (some ⟨R, 0, none⟩) n c)).cell? ⟨R, k, none⟩ = some (.int .i64 (-1)) := by
        rw [hrowR.cellAt k (by omega)]; simp [hlt]
      have fr := hrowR.frozenAt k
      have ck : (wC.setCell ⟨G, k, none⟩ (.slice (some ⟨R, 0, none⟩) n c)).cell? ⟨G, k, none⟩ = some (.slice (some ⟨R, 0, none⟩) n c) := by
        rw [hst.cellAt k (by omega)]; simp [half, hlt, upd_at]
      have hB2 := (((HB.out.trans (hbC.mono HB.out.size)).setCell (p := ⟨G, k, none⟩) hgB (.slice (some ⟨R, 0, none⟩) n c))).setCell (p := ⟨R, k, none⟩) hRB (.int .i64 0)
      have HO2 := Lib.hid hO2
      have HT2 := Lib.hid (hT2.congr (ls' := rowX ownX n) (fun j hj => by
        by_cases e : j = k
        · subst e; rw [upd_at, upd_at, rowX_own_set hlt]
        · rw [upd_other _ _ e, upd_other _ _ e]))
      have HB2 := Lib.hid hB2
      clear hO2 hT2 hB2 hrowR hcs hst hTT hownC hownD hbC hnxC hA
      go_wp2
      go_roundw
      case rel => exact ⟨k + 1, _, by omega, by go_num, HO2.out, HT2.out, HB2.out⟩
      case measure => simp [intOf]; omega
    · obtain rfl : k = n := by omega
      rw [half_all] at hO
      have HO := Lib.hid hO
      have HT := Lib.hid hT
      have HB := Lib.hid hnx
      clear hO hT hnx
      go_wp2
      go_ret
      exact ⟨_, VR, rfl, HO.out, HT.out, HB.out⟩
end Go.Proofs.Ytkgomgfhhhdnjab
namespace Go.Proofs.Ytkgomgfhhhdnjab
open Go.ChangeShapes Go.WideShapes Go.ChangeAt Go.RowKit
set_option linter.unusedVariables false
set_option maxRecDepth 4000

def okS (n x y z : Int) : Bool := decide (OkS n (x, y, z))
theorem netBad_any (n x y z : Int) (pb : Nat) (w : World) (hpb : pb < w.heap.size) (hc : w.cell? ⟨pb, 0, none⟩ = some (.int .i64 n)) :
    Calls Try.prog 95 #[.agg #[.int .i64 x, .int .i64 y, .int .i64 z], .pointer (some ⟨pb, 0, none⟩)] w fun e w' => e = .returned (.bool (!(okS n x y z))) ∧ Below w.heap.size w w' := by
  have hc2 : (w.alloc (.cells #[.int .i64 x, .int .i64 y, .int .i64 z] 74)).cell? ⟨pb, 0, none⟩ = some (.int .i64 n) := by rw [World.cell?_alloc_lt w _ _ hpb]; exact hc
  have HBW := Lib.hid ((Below.refl w.heap.size w).alloc (Nat.le_refl _) (.cells #[.int .i64 x, .int .i64 y, .int .i64 z] 74))
  clear hc hpb
  by_cases hx : 0 ≤ x ∧ x < n
  · have H1 := Lib.hid (fun W => validNode_is n x W (b := true) (by simp [hx.1, hx.2]))
    by_cases hy : 0 ≤ y ∧ y < n
    · have H2 := Lib.hid (fun W => validNode_is n y W (b := true) (by simp [hy.1, hy.2]))
      by_cases hz1 : z < 1
      · have hs : okS n x y z = false := decide_eq_false (fun h => by unfold OkS at h; simp only at h; omega)
        rw [hs]
        go_enter Try.func95, Try.ntmps95
        go_wp2_with fail
        refine (H1.out _).mono ?_
        rintro r w' ⟨rfl, rfl⟩
        go_wp2_with fail
        refine (H2.out _).mono ?_
        rintro r w' ⟨rfl, rfl⟩
        go_wp2
        go_ret
        exact ⟨rfl, HBW.out⟩
      · by_cases hz9 : 9 < z
        · have hs : okS n x y z = false := decide_eq_false (fun h => by unfold OkS at h; simp only at h; omega)
          rw [hs]
          go_enter Try.func95, Try.ntmps95
          go_wp2_with fail
          refine (H1.out _).mono ?_
          rintro r w' ⟨rfl, rfl⟩
          go_wp2_with fail
          refine (H2.out _).mono ?_
          rintro r w' ⟨rfl, rfl⟩
          go_wp2
          go_ret
          exact ⟨ret_bool (by simp), HBW.out⟩
        · have hs : okS n x y z = true := decide_eq_true (by unfold OkS; simp only; omega)
          rw [hs]
          go_enter Try.func95, Try.ntmps95
          go_wp2_with fail
          refine (H1.out _).mono ?_
          rintro r w' ⟨rfl, rfl⟩
          go_wp2_with fail
          refine (H2.out _).mono ?_
          rintro r w' ⟨rfl, rfl⟩
          go_wp2
          go_ret
          exact ⟨ret_bool (by simp; omega), HBW.out⟩
    · have H2 := Lib.hid (fun W => validNode_is n y W (b := false) (by simp; omega))
      have hs : okS n x y z = false := decide_eq_false (fun h => by unfold OkS at h; simp only at h; omega)
      rw [hs]
      go_enter Try.func95, Try.ntmps95
      go_wp2_with fail
      refine (H1.out _).mono ?_
      rintro r w' ⟨rfl, rfl⟩
      go_wp2_with fail
      refine (H2.out _).mono ?_
      rintro r w' ⟨rfl, rfl⟩
      go_wp2
      go_ret
      exact ⟨rfl, HBW.out⟩
  · have H1 := Lib.hid (fun W => validNode_is n x W (b := false) (by simp; omega))
    have hs : okS n x y z = false := decide_eq_false (fun h => by unfold OkS at h; simp only at h; omega)
    rw [hs]
    go_enter Try.func95, Try.ntmps95
    go_wp2_with fail
    refine (H1.out _).mono ?_
    rintro r w' ⟨rfl, rfl⟩
    go_wp2
    go_ret
    exact ⟨rfl, HBW.out⟩
theorem netBad_is (n x y z : Int) (pb : Nat) (w : World) (hpb : pb < w.heap.size) (hc : w.cell? ⟨pb, 0, none⟩ = some (.int .i64 n)) {b : Bool} (h : (!(okS n x y z)) = b) :
    Calls Try.prog 95 #[.agg #[.int .i64 x, .int .i64 y, .int .i64 z], .pointer (some ⟨pb, 0, none⟩)] w fun e w' => e = .returned (.bool b) ∧ Below w.heap.size w w' := by
  subst h; exact netBad_any n x y z pb w hpb hc

/-- All are streets of a net. -/
def okAll (n : Int) (ss : List Str) : Bool := decide (∀ p ∈ ss, OkS n p)
theorem okAll_end {n : Int} {ss : List Str} {k : Nat} (h : OkN n ss k) (hk : ss.length ≤ k) : okAll n ss = true := decide_eq_true fun p hp => by
  obtain ⟨i, hi, e⟩ := mem_getD3 hp
  rw [← e]; exact h i (by omega)
theorem okAll_no {n : Int} {ss : List Str} {k : Nat} {x y z : Int} (hk : k < ss.length) (hx : ss.getD k str0 = (x, y, z)) (h : ¬ OkS n (x, y, z)) : okAll n ss = false := decide_eq_false fun h' => h (by rw [← hx]; exact h' _ (getD_mem3 hk))
def NetIdx (n : Int) (ss : List Str) (w : World) (e : Ending) (w' : World) : Prop := ∃ r : Int, e = .returned (.int .i64 r) ∧ (okAll n ss = true → r = -1) ∧ (okAll n ss = false → 0 ≤ r) ∧ Below w.heap.size w w'
set_option maxHeartbeats 800000 in
theorem indexNet_any (n : Int) (A : Option Addr) (c m : Nat) (ss : List Str) (w : World) (B pb : Nat) (hr : RdS w B A ss) (hB : B ≤ w.heap.size) (hm : ss.length = m) (hb : m ≤ 1152921504606846976) (hpb : pb < w.heap.size) (hc : w.cell? ⟨pb, 0, none⟩ = some (.int .i64 n)) :
    Calls Try.prog 115 #[.slice A m c, .func (.func 95) #[] #[.pointer (some ⟨pb, 0, none⟩)]] w (NetIdx n ss w) := by
  have Hm := Lib.hid hm
  clear hm
  go_enter Try.func115, Try.ntmps115
  go_wp2
  go_loopw [8] (fun i wr => ∃ k : Nat, k ≤ m ∧ i = .int .i64 k ∧ Hid (OkN n ss k) ∧ Below w.heap.size w wr) (fun i _ => m - (intOf i).toNat)
  case atStart => exact ⟨0, by omega, rfl, OkN.zero _ _, Below.refl _ _⟩
  case round =>
    obtain ⟨k, hk, rfl, Ho, hnx⟩ := hrel
    have hc2 : wr.cell? ⟨pb, 0, none⟩ = some (.int .i64 n) := (hnx.cell (p := ⟨pb, 0, none⟩) hpb).trans hc
    by_cases hlt : k < m
    · obtain ⟨b, off, x, y, z, rfl, -, Hx, hcx, hcy, hcz⟩ := (hr.below (hnx.mono hB)).x (k := k) (by rw [Hm.out]; omega)
      by_cases h1 : OkS n (x, y, z)
      · have Hs := Lib.hid (Ho.out.step Hx.out h1.1.1 h1.1.2 h1.2.1.1 h1.2.1.2 h1.2.2.1 h1.2.2.2)
        have Hf := Lib.hid (netBad_is n x y z pb wr (Nat.lt_of_lt_of_le hpb hnx.size) hc2 (b := false) (by unfold okS; rw [decide_eq_true h1]; rfl))
        clear h1 hc2
        go_wp2_with fail
        refine Hf.out.mono ?_
        rintro e w' ⟨rfl, hnx2⟩
        go_wp2
        go_roundw
        case rel => exact ⟨k + 1, by omega, by go_num, Hs, hnx.trans (hnx2.mono hnx.size)⟩
        case measure => simp [intOf]; omega
      · have Hs := Lib.hid (okAll_no (by rw [Hm.out]; exact hlt) Hx.out h1)
        have Hf := Lib.hid (netBad_is n x y z pb wr (Nat.lt_of_lt_of_le hpb hnx.size) hc2 (b := true) (by unfold okS; rw [decide_eq_false h1]; rfl))
        clear h1 hc2
        go_wp2_with fail
        refine Hf.out.mono ?_
        rintro e w' ⟨rfl, hnx2⟩
        go_wp2
        go_ret
        exact ⟨_, rfl, fun h => absurd (Hs.out.symm.trans h) (by decide), fun _ => by omega, hnx.trans (hnx2.mono hnx.size)⟩
    · have Hs := Lib.hid (okAll_end Ho.out (by rw [Hm.out]; omega))
      go_wp2
      go_ret
      exact ⟨_, rfl, fun _ => rfl, fun h => absurd (Hs.out.symm.trans h) (by decide), hnx⟩
theorem containsNet_any (n : Int) (A : Option Addr) (c m : Nat) (ss : List Str) (w : World) (B pb : Nat) (hr : RdS w B A ss) (hB : B ≤ w.heap.size) (hm : ss.length = m) (hb : m ≤ 1152921504606846976) (hpb : pb < w.heap.size) (hc : w.cell? ⟨pb, 0, none⟩ = some (.int .i64 n)) :
    Calls Try.prog 94 #[.slice A m c, .func (.func 95) #[] #[.pointer (some ⟨pb, 0, none⟩)]] w fun e w' => e = .returned (.bool (!(okAll n ss))) ∧ Below w.heap.size w w' := by
  have H := Lib.hid (indexNet_any n A c m ss w B pb hr hB hm hb hpb hc)
  clear hm hr hc
  go_enter Try.func94, Try.ntmps94
  go_wp2_with fail
  refine H.out.mono ?_
  rintro e w' ⟨r, rfl, h1, h2, hnx⟩
  by_cases hf : okAll n ss = true
  · have := h1 hf
    subst this
    have Hf := Lib.hid hf
    clear h1 h2 hf
    go_wp2
    go_ret
    exact ⟨ret_bool (by rw [Hf.out]; rfl), hnx⟩
  · have hf' : okAll n ss = false := by simpa using hf
    have hr0 := h2 hf'
    have Hf := Lib.hid hf'
    clear h1 h2 hf hf'
    go_wp2
    go_ret
    exact ⟨ret_bool (by rw [Hf.out]; simp), hnx⟩
theorem vnet_all {n : Int} {ss : List Str} (h1 : 1 ≤ n) (h7 : n ≤ 7) (h12 : ss.length ≤ 12) : vnet n ss = okAll n ss := by
  unfold vnet okAll
  by_cases h : ∀ p ∈ ss, OkS n p
  · rw [decide_eq_true h, decide_eq_true ⟨⟨h1, h7⟩, h12, h⟩]
  · rw [decide_eq_false h, decide_eq_false (fun h' => h h'.2.2)]
set_option maxHeartbeats 800000 in
theorem iValidNet_in (A : Option Addr) (c m : Nat) (n : Int) (ss : List Str) (w : World) (hr : RdS w w.heap.size A ss) (hm : ss.length = m) (hb : m ≤ 1048576) (hwf : (Lit.int .i64 n).wf = true) :
    Calls Try.prog 41 #[.int .i64 n, .slice A m c] w fun e w' => e = .returned (.bool (vnet n ss)) ∧ Below w.heap.size w w' := by
  have hB0 := (Below.refl w.heap.size w).alloc (Nat.le_refl _) (.cells #[.int .i64 n] 3)
  by_cases h1 : n < 1
  · have Hs := Lib.hid (vnet_no_n (ss := ss) (.inl h1))
    have HB0 := Lib.hid hB0
    clear hm hr hB0
    go_enter Try.func41, Try.ntmps41
    go_wp2
    go_ret
    exact ⟨ret_bool Hs.out.symm, HB0.out⟩
  by_cases h7 : 7 < n
  · have Hs := Lib.hid (vnet_no_n (ss := ss) (.inr h7))
    have HB0 := Lib.hid hB0
    clear hm hr hB0
    go_enter Try.func41, Try.ntmps41
    go_wp2
    go_ret
    exact ⟨ret_bool Hs.out.symm, HB0.out⟩
  by_cases h12 : 12 < m
  · have Hs := Lib.hid (vnet_no_len (n := n) (ss := ss) (by omega))
    have HB0 := Lib.hid hB0
    clear hm hr hB0
    go_enter Try.func41, Try.ntmps41
    go_wp2
    go_ret
    exact ⟨ret_bool Hs.out.symm, HB0.out⟩
  have Hs := Lib.hid (vnet_all (n := n) (ss := ss) (by omega) (by omega) (by omega))
  obtain ⟨W, HW⟩ : ∃ W, Hid (w.alloc (.cells #[.int .i64 n] 3) = W) := ⟨_, rfl⟩
  have hsz : W.heap.size = w.heap.size + 1 := by rw [← HW.out]; show (w.heap.push _).size = _; simp
  have hcc : W.cell? ⟨w.heap.size, 0, none⟩ = some (.int .i64 n) := by rw [← HW.out, cell_of_row _ _ _ _ _ _ (heap_alloc_new w _)]; rfl
  have hnx : Below w.heap.size w W := by rw [← HW.out]; exact hB0
  have Hf := Lib.hid (containsNet_any n A c m ss W w.heap.size w.heap.size (hr.below hnx) (by omega) hm (by omega) (by omega) hcc)
  have HB := Lib.hid hnx
  clear hm hr hB0 hcc hnx hsz
  go_enter Try.func41, Try.ntmps41
  go_wp2_with fail
  rw [HW.out]
  refine Hf.out.mono ?_
  rintro e w' ⟨rfl, hnx2⟩
  go_wp2
  go_ret
  exact ⟨ret_bool (by rw [Hs.out]), HB.out.trans (hnx2.mono HB.out.size)⟩
theorem iValidNet_ok : IBool 41 := fun A c m n ss w h => iValidNet_in A c m n ss w h.rd h.len h.most h.wf
theorem iValidNet_is (A : Option Addr) (c m : Nat) (n : Int) (ss : List Str) (w : World) (h : NetIn w A c m n ss) {b : Bool} (hv : vnet n ss = b) :
    Calls Try.prog 41 #[.int .i64 n, .slice A m c] w fun e w' => e = .returned (.bool b) ∧ Below w.heap.size w w' := by
  subst hv; exact iValidNet_ok A c m n ss w h
end Go.Proofs.Ytkgomgfhhhdnjab
namespace Go.Proofs.Ytkgomgfhhhdnjab
open Go.ChangeShapes Go.WideShapes Go.ChangeAt Go.RowKit
set_option linter.unusedVariables false
set_option maxRecDepth 4000

set_option maxHeartbeats 1600000 in
theorem iNetTable_ok : IRows 23 := by
  intro A c m n ss w hin
  by_cases hv : vnet n ss = true
  · have H1 := Lib.hid (iValidNet_is A c m n ss w hin hv)
    obtain ⟨k, rfl, hk1, hk7⟩ := vnet_nat hv
    have Hv := Lib.hid hv
    have Hm := Lib.hid hin.len
    have Hr := Lib.hid hin.rd
    have Ht := Lib.hid (fun W => tableW_any k W hk1 hk7)
    clear hv hin
    go_enter Try.func23, Try.ntmps23
    go_wp2
    go_step3
    go_wp2_with fail
    refine H1.out.mono ?_
    rintro e w1 ⟨rfl, hnx1⟩
    go_wp2_with fail
    refine (Ht.out w1).mono ?_
    rintro e w2 ⟨v, VR, rfl, hO, hT, hnx2⟩
    obtain ⟨A', c', rfl, -, -, hA⟩ := own_sliceN hO
    obtain ⟨g, rfl, -, -⟩ := hA (by omega)
    have HO := Lib.hid (show Outer w2 w.heap.size k (.slice (some ⟨g, 0, none⟩) k c') VR from ownG_base hO hnx1.size)
    have HT := Lib.hid (hT.base hnx1.size)
    have HB := Lib.hid (hnx1.trans (hnx2.mono hnx1.size))
    clear hO hT hA hnx2 hnx1
    go_wp2
    go_step3
    go_wp2
    go_loopg [16] (totX ownX k) (fun gk s wr => ∃ X, totX X k ≤ gk ∧ Hid (Rlx ss k X) ∧ Hid (Outer wr w.heap.size k (.slice (some ⟨g, 0, none⟩) k c') VR) ∧ Hid (TT wr w.heap.size k VR (rowX X k)) ∧ Hid (Below w.heap.size w wr))
    case atStart => exact ⟨ownX, Nat.le_refl _, rlx_start ss k, HO, HT, HB⟩
    case round =>
      clear HO HT HB
      obtain ⟨X, hgk, HX, HO, HT, HB⟩ := hrel
      obtain ⟨GK, HGK⟩ : ∃ G, Hid (gk = G) := ⟨_, rfl⟩
      rw [HGK.out] at hgk
      have hm12 : m ≤ 12 := by have := ((vnet_iff _ _).1 Hv.out).2.1; rw [Hm.out] at this; exact this
      go_wp2
      go_loopg [16] m (fun gi s wi => ∃ i : Nat, i ≤ m ∧ m - i ≤ gi ∧ s = .int .i64 i ∧ Hid (∀ q, q < i → ∀ a, a < k → CzS X k ss q a) ∧ Hid (Outer wi w.heap.size k (.slice (some ⟨g, 0, none⟩) k c') VR) ∧ Hid (TT wi w.heap.size k VR (rowX X k)) ∧ Hid (Below w.heap.size w wi))
      case atStart => exact ⟨0, Nat.zero_le _, by omega, rfl, fun q hq => by omega, HO, HT, HB⟩
      case round =>
        clear HO HT HB
        obtain ⟨i, him, hgi, rfl, HC, HO, HT, HB⟩ := hrel
        by_cases hlt : i < m
        · obtain ⟨b, off, x, y, z, rfl, hbw, HP, hcx, hcy, hcz⟩ := (Hr.out.below HB.out).x (k := i) (by rw [Hm.out]; exact hlt)
          have hok := ((vnet_iff _ _).1 Hv.out).2.2 _ (getD_mem3 (k := i) (by rw [Hm.out]; exact hlt))
          rw [HP.out] at hok
          obtain ⟨⟨hx0, hx1⟩, ⟨hy0, hy1⟩, hz1, hz9⟩ := hok
          simp only at hx0 hx1 hy0 hy1 hz1 hz9
          obtain ⟨u, rfl⟩ := Int.eq_ofNat_of_zero_le hx0
          obtain ⟨v, rfl⟩ := Int.eq_ofNat_of_zero_le hy0
          have hbs := (Below.refl wr.heap.size wr).alloc (Nat.le_refl _) (.cells #[.int .i64 u, .int .i64 v, .int .i64 z] 74)
          have hBW := HB.out.alloc HB.out.size (.cells #[.int .i64 u, .int .i64 v, .int .i64 z] 74)
          have Hst := Lib.hid (addStreet_any (wr.alloc (.cells #[.int .i64 u, .int .i64 v, .int .i64 z] 74)) w.heap.size k g c' u v VR ss X z hk7 HX.out (ownN_below HO.out hbs) (HT.out.below hbs) hBW.size (by omega) (by omega) ⟨hz1, hz9⟩ ⟨_, getD_mem3 (by rw [Hm.out]; exact hlt), by rw [HP.out], by rw [HP.out]; exact .inl ⟨rfl, rfl⟩⟩)
          have HBW := Lib.hid hBW
          clear hbs hBW HO HT HB
          go_wp2_with fail
          refine Hst.out.mono ?_
          rintro e w3 ⟨X', t, rfl, hX3, hC3, hO3, hT3, hB3, -⟩
          have HX3 := Lib.hid hX3
          have HO3 := Lib.hid hO3
          have HT3 := Lib.hid hT3
          have HB3 := Lib.hid (HBW.out.trans hB3)
          rcases hC3 with ⟨rfl, hlt3⟩ | ⟨rfl, rfl, hcz3⟩
          · clear hX3 hO3 hT3 hB3
            go_wp2
            go_roundg (totX X' k)
            case measure => have := HGK.out; omega
            case rel => exact ⟨X', Nat.le_refl _, HX3, HO3, HT3, HB3⟩
          · have HC3 : Hid (∀ q, q < i + 1 → ∀ a, a < k → CzS X' k ss q a) := fun q hq a ha => by
              by_cases e : q = i
              · subst e
                intro u' v' h1 h2
                rw [HP.out] at h1 h2 ⊢
                simp only at h1 h2 ⊢
                have e1 : u' = u := by omega
                have e2 : v' = v := by omega
                subst e1 e2
                exact hcz3 a ha
              · exact HC.out q (by omega) a ha
            clear hX3 hO3 hT3 hB3 hcz3
            go_wp2
            go_roundg (m - (i + 1))
            case measure => omega
            case rel => exact ⟨i + 1, by omega, Nat.le_refl _, by go_num, HC3, HO3, HT3, HB3⟩
        · obtain rfl : i = m := by omega
          have hsh := seen_short Hv.out HX.out ⟨fun q hq a ha => HC.out q (by rw [← Hm.out]; exact hq) a ha, fun b hb => by omega, fun u v _ _ => ⟨fun h => by omega, fun h => by omega⟩⟩
          have HTe := Lib.hid (HT.out.congr (ls' := rowX (sht k ss) k) (fun j hj => rowX_congr fun b hb => sht_is Hv.out hsh hj hb))
          clear hsh
          go_wp2
          try rw [Exit.noGoto_ret]
          go_ret
          exact .inr ⟨Hv.out, _, VR, rfl, HO.out, HTe.out, HB.out⟩
  · have hv' : vnet n ss = false := by simpa using hv
    have H1 := Lib.hid (iValidNet_is A c m n ss w hin hv')
    have Hv := Lib.hid hv'
    clear hv hv' hin
    go_enter Try.func23, Try.ntmps23
    go_wp2
    go_step3
    go_wp2_with fail
    refine H1.out.mono ?_
    rintro e w1 ⟨rfl, hnx1⟩
    go_wp2
    go_ret
    exact .inl ⟨Hv.out, rfl, hnx1⟩
end Go.Proofs.Ytkgomgfhhhdnjab
namespace Go.Proofs.Ytkgomgfhhhdnjab
open Go.ChangeShapes Go.WideShapes Go.ChangeAt Go.RowKit
set_option linter.unusedVariables false
set_option maxRecDepth 4000

/-- The nodes below m that have a way of at most far from node i, as bits. -/
def nmk (d : Nat → Nat → Int) (far : Int) (i : Nat) : Nat → Nat
  | 0 => 0
  | m + 1 => if ¬ d i m = -1 ∧ d i m ≤ far then nmk d far i m ||| 2 ^ m else nmk d far i m
theorem nmk_lt (d : Nat → Nat → Int) (far : Int) (i : Nat) : ∀ m, nmk d far i m < 2 ^ m
  | 0 => by simp [nmk]
  | m + 1 => by
    have h := nmk_lt d far i m
    have h2 : 2 ^ m < 2 ^ (m + 1) := Nat.pow_lt_pow_right (by omega) (by omega)
    simp only [nmk]
    split
    · exact Nat.or_lt_two_pow (by omega) h2
    · omega
theorem nmk_bit (d : Nat → Nat → Int) (far : Int) (i : Nat) : ∀ m v, (nmk d far i m).testBit v = true ↔ v < m ∧ ¬ d i v = -1 ∧ d i v ≤ far
  | 0, v => by simp [nmk]
  | m + 1, v => by
    have h := nmk_bit d far i m v
    simp only [nmk]
    split
    · rename_i hd
      rw [Nat.testBit_or, Bool.or_eq_true, h, Nat.testBit_two_pow]
      simp only [decide_eq_true_eq]
      constructor
      · rintro (⟨h1, h2⟩ | rfl)
        · exact ⟨by omega, h2⟩
        · exact ⟨by omega, hd⟩
      · rintro ⟨h1, h2⟩
        by_cases e : m = v
        · exact .inr e
        · exact .inl ⟨by omega, h2⟩
    · rename_i hd
      rw [h]
      constructor
      · rintro ⟨h1, h2⟩; exact ⟨by omega, h2⟩
      · rintro ⟨h1, h2⟩
        by_cases e : v = m
        · subst e; exact absurd h2 hd
        · exact ⟨by omega, h2⟩
theorem or_u64 : ∀ s : Fin 128, ∀ i : Fin 7, bits BinOp.or IntKind.u64 (s.val : Int) ((2 ^ i.val : Nat) : Int) = ((s.val ||| 2 ^ i.val : Nat) : Int) := by decide +kernel
theorem wrap_pow : ∀ i : Fin 7, IntKind.u64.wrap ((2 : Int) ^ i.val) = ((2 ^ i.val : Nat) : Int) := by decide +kernel
theorem wrap_pow8 : ∀ i : Fin 8, IntKind.u64.wrap ((2 : Int) ^ i.val) = ((2 ^ i.val : Nat) : Int) := by decide +kernel
theorem bc_le : ∀ f s, bc f s ≤ f
  | 0, _ => Nat.le_refl _
  | f + 1, s => by have := bc_le f (s / 2); simp only [bc]; omega
theorem or2_u64 : ∀ s : Fin 128, ∀ t : Fin 128, bits BinOp.or IntKind.u64 (s.val : Int) (t.val : Int) = ((s.val ||| t.val : Nat) : Int) := by decide +kernel
theorem and2_u64 : ∀ s : Fin 128, ∀ t : Fin 128, bits BinOp.and IntKind.u64 (s.val : Int) (t.val : Int) = ((s.val &&& t.val : Nat) : Int) := by decide +kernel
theorem vfar_any (x : Int) (w : World) : Calls Try.prog 73 #[.int .i64 x] w fun e w' => e = .returned (.bool (decide (0 ≤ x) && decide (x ≤ 50))) ∧ w = w' := by
  by_cases h1 : 0 ≤ x <;> by_cases h2 : x ≤ 50
  all_goals
    go_enter Try.func73, Try.ntmps73
    go_wp2
    go_ret
    exact ⟨ret_bool (by simp [h1, h2]), rfl⟩
theorem farOk_yes (x : Int) (w : World) (h1 : 0 ≤ x) (h2 : x ≤ 50) : Calls Try.prog 73 #[.int .i64 x] w fun e w' => e = .returned (.bool true) ∧ w = w' :=
  (vfar_any x w).mono fun _ _ ⟨he, hw⟩ => ⟨by rw [he]; simp [h1, h2], hw⟩
theorem farOk_no (x : Int) (w : World) (h : x < 0 ∨ 50 < x) : Calls Try.prog 73 #[.int .i64 x] w fun e w' => e = .returned (.bool false) ∧ w = w' :=
  (vfar_any x w).mono fun _ _ ⟨he, hw⟩ => ⟨by rw [he]; rcases h with h | h <;> simp <;> omega, hw⟩
def Ms (d : Nat → Nat → Int) (far : Int) (n i m : Nat) : List Value := (List.range n).map fun j => .int .u64 ((if j < i then nmk d far j n else if j = i then nmk d far i m else 0 : Nat) : Int)
theorem Ms_len (d : Nat → Nat → Int) (far : Int) (n i m : Nat) : (Ms d far n i m).length = n := by simp [Ms]
theorem Ms_get {d : Nat → Nat → Int} {far : Int} {n i m : Nat} (hi : i < n) : (Ms d far n i m)[i]? = some (.int .u64 (nmk d far i m : Nat)) := by simp [Ms, hi]
theorem Ms_set {d : Nat → Nat → Int} {far : Int} {n i m : Nat} (hi : i < n) : (Ms d far n i m).set i (.int .u64 (nmk d far i (m + 1) : Nat)) = Ms d far n i (m + 1) := by
  unfold Ms
  apply List.ext_getElem?
  intro j
  rw [List.getElem?_set]
  by_cases hj : j < n
  · by_cases e : i = j
    · subst e; simp [hi]
    · simp [hj, e, show ¬ j = i from fun h => e h.symm]
  · simp [hj]; omega
theorem Ms_next {d : Nat → Nat → Int} {far : Int} {n i : Nat} : Ms d far n i n = Ms d far n (i + 1) 0 := by
  unfold Ms
  refine List.map_congr_left fun j hj => ?_
  by_cases h1 : j < i
  · rw [if_pos h1, if_pos (by omega)]
  · by_cases h2 : j = i
    · subst h2; rw [if_neg h1, if_pos rfl, if_pos (by omega)]
    · rw [if_neg h1, if_neg h2, if_neg (by omega)]
      by_cases h3 : j = i + 1
      · rw [if_pos h3]; rfl
      · rw [if_neg h3]
theorem uInfo : (Try.prog.info? 90).map (fun i => (i.zero, i.size, i.bytes)) = some (some (.int .u64 0), 1, 8) := by kernel_rfl
def SetsPost (d : Nat → Nat → Int) (far : Int) (n : Nat) (w : World) (e : Ending) (w' : World) : Prop :=
  ∃ g, e = .returned (.slice (some ⟨g, 0, none⟩) n n) ∧ w'.ownsRow w.heap.size 90 1 (.slice (some ⟨g, 0, none⟩) n n) n (Ms d far n n 0) ∧ Below w.heap.size w w'
set_option maxHeartbeats 1600000 in
theorem nearSets_any (w : World) (B n g0 c : Nat) (far : Int) (VR : Nat → Value) (X : Nat → Nat → Int) (hn1 : 1 ≤ n) (hn7 : n ≤ 7) (hO : Outer w B n (.slice (some ⟨g0, 0, none⟩) n c) VR) (hT : TT w B n VR (rowX X n)) :
    Calls Try.prog 78 #[.slice (some ⟨g0, 0, none⟩) n c, .int .i64 far] w (SetsPost X far n w) := by
  obtain ⟨iu, hiu, hzu0, hzu1, hzu2⟩ := info_parts uInfo
  have HO := Lib.hid hO
  have HT := Lib.hid hT
  clear hO hT
  have hbi : iu.bytes * n ≤ 281474976710656 := by rw [hzu2]; omega
  have hml : n ≤ maxLen := by unfold maxLen; omega
  go_enter Try.func78, Try.ntmps78
  go_wp2_with (at_make; refine wpList_make_full _ rfl _ _ 88 rfl w.heap.size 90 iu _ 1 Try.underlying88 hiu hzu0 hzu1 _ _ _ _ n rfl rfl rfl rfl hbi hml (Nat.le_refl _) ?_; intro w1 hown1 hg1)
  have hb1 : Below w.heap.size w w1 := (Below.refl _ _).grown hg1 (Nat.le_refl _) (fun j hj => by cases hj)
  have ho1 : w1.ownsRow w.heap.size 90 1 (.slice (some ⟨w.heap.size, 0, none⟩) n n) n (Ms X far n 0 0) := by
    rw [Nat.mul_one] at hown1
    have e : (madeCells (Value.int .u64 0).cells n).toList = Ms X far n 0 0 := by
      rw [show (Value.int .u64 0).cells = #[Value.int .u64 0] from rfl, toList_madeCells_one]
      unfold Ms
      apply List.ext_getElem?
      intro i
      by_cases hi : i < n
      · by_cases h0 : i = 0
        · subst h0; simp [hi, nmk]
        · simp [hi, h0]
      · simp [hi]
    rw [← e]; exact hown1
  obtain ⟨G, HG⟩ : ∃ G, Hid (w.heap.size = G) := ⟨_, rfl⟩
  have hGB : w.heap.size ≤ G := Nat.le_of_eq HG.out
  rw [HG.out] at ho1
  rw [HG.out]
  rw [← HG.out] at ho1
  have ho2 : w1.ownsRow w.heap.size 90 1 (.slice (some ⟨G, 0, none⟩) n n) n (Ms X far n 0 0) := by rw [← HG.out]; exact ho1
  have HO1 := Lib.hid ho2
  have HB1 := Lib.hid hb1
  clear hown1 hg1 ho1 hb1 ho2
  go_loopw [15] (fun i wr => ∃ k : Nat, k ≤ n ∧ i = .int .i64 k ∧ wr.ownsRow w.heap.size 90 1 (.slice (some ⟨G, 0, none⟩) n n) n (Ms X far n k 0) ∧ Below w.heap.size w wr) (fun i _ => n - (intOf i).toNat)
  case atStart => exact ⟨0, by omega, rfl, HO1.out, HB1.out⟩
  case round =>
    clear HO1 HB1
    obtain ⟨k, hk, rfl, hown, hnx⟩ := hrel
    by_cases hlt : k < n
    · obtain ⟨Ak, ck, ek, hrk⟩ := HT.out.row hlt
      have cc := (hnx.cell (p := ⟨g0, k, none⟩) (own_heap HO.out (g := g0) rfl).2.2).trans (Outer.cell HO.out hlt)
      rw [ek, rowX_len] at cc
      have HRK := Lib.hid hrk
      have HOW := Lib.hid hown
      have HNX := Lib.hid hnx
      clear ek hrk hown hnx
      go_wp2
      go_loopw [22] (fun i wr => ∃ m : Nat, m ≤ n ∧ i = .int .i64 m ∧ wr.ownsRow w.heap.size 90 1 (.slice (some ⟨G, 0, none⟩) n n) n (Ms X far n k m) ∧ Below w.heap.size w wr) (fun i _ => n - (intOf i).toNat)
      case atStart => exact ⟨0, by omega, rfl, HOW.out, HNX.out⟩
      case round =>
        clear HOW HNX cc
        obtain ⟨m, hm, rfl, hown, hnx⟩ := hrel
        by_cases hlm : m < n
        · obtain ⟨b, off, x, rfl, -, Hx, hcx⟩ := (HRK.out.below hnx).x (k := m) (by rw [rowX_len]; exact hlm)
          have hx := Hx.out
          rw [rowX_get X hlm] at hx
          by_cases hd : ¬ x = -1 ∧ x ≤ far
          · have hx1 : (x != -1) = true := by rw [bne_iff_ne]; exact hd.1
            have hd2 := hd.2
            have cs : _ = some (Value.int .u64 (nmk X far k m : Nat)) := (hown.cellAt k (by omega)).trans (Ms_get hlt)
            have fs := hown.frozenAt k
            have h128 : nmk X far k m < 128 := pow_128 (by omega) (nmk_lt _ _ _ _)
            have hor := or_u64 ⟨nmk X far k m, h128⟩ ⟨m, by omega⟩
            have hst := (hown.stored k (.int .u64 (nmk X far k (m + 1) : Nat)))
            rw [Ms_set hlt] at hst
            have hnk : Hid (nmk X far k (m + 1) = nmk X far k m ||| 2 ^ m) := by show _ = _; simp only [nmk]; rw [if_pos (by rw [hx]; exact hd)]
            simp only at hor
            obtain ⟨S, HS⟩ : ∃ S, Hid (nmk X far k m = S) := ⟨_, rfl⟩
            rw [HS.out] at cs hor hnk
            have hval : bits BinOp.or IntKind.u64 (S : Int) (IntKind.u64.wrap ((2 : Int) ^ m)) = ((nmk X far k (m + 1) : Nat) : Int) := by
              rw [wrap_pow ⟨m, by omega⟩, hor, hnk.out]
            rw [← hval] at hst
            have HST := Lib.hid hst.1
            have HB2 := Lib.hid (hnx.grown hst.2 hnx.size (fun j e => by injection e with e; omega))
            clear hst hown hnx hx hor hval hd
            go_wp2
            go_region
            go_wp2
            go_roundw
            case rel => exact ⟨m + 1, by omega, by go_num, HST.out, HB2.out.drew⟩
            case measure => simp [intOf]; omega
          · have hnk : Hid (Ms X far n k (m + 1) = Ms X far n k m) := by
              have hz : nmk X far k (m + 1) = nmk X far k m := by simp only [nmk]; rw [if_neg (by rw [hx]; exact hd)]
              show _ = _
              unfold Ms
              refine List.map_congr_left fun j _ => ?_
              by_cases e : j = k
              · rw [e, hz]
              · rw [if_neg e, if_neg e]
            have HOW := Lib.hid hown
            have HNX := Lib.hid hnx
            clear hown hnx hx
            by_cases h1 : x = -1
            · subst h1
              go_wp2
              go_roundw
              case rel => exact ⟨m + 1, by omega, by go_num, by rw [hnk.out]; exact HOW.out, HNX.out⟩
              case measure => simp [intOf]; omega
            · have hx1 : (x != -1) = true := by rw [bne_iff_ne]; exact h1
              have hd2 : ¬ x ≤ far := fun h => hd ⟨h1, h⟩
              go_wp2
              go_roundw
              case rel => exact ⟨m + 1, by omega, by go_num, by rw [hnk.out]; exact HOW.out, HNX.out⟩
              case measure => simp [intOf]; omega
        · have hmn : m = n := by omega
          subst hmn
          rw [Ms_next] at hown
          have HOW := Lib.hid hown
          have HNX := Lib.hid hnx
          clear hown hnx
          go_wp2
          go_roundw
          case rel => exact ⟨k + 1, by omega, by go_num, HOW.out, HNX.out⟩
          case measure => simp [intOf]; omega
    · have hkn : k = n := by omega
      subst hkn
      have HOW := Lib.hid hown
      have HNX := Lib.hid hnx
      clear hown hnx
      go_wp2
      go_ret
      exact ⟨G, rfl, HOW.out, HNX.out⟩
/-- The slice with address A reads as the sets N k, .. (m of them), at offset off. -/
def RdU (w : World) (A : Option Addr) (N : Nat → Nat) (k m : Nat) : Prop := 0 < m → ∃ b off, A = some ⟨b, off, none⟩ ∧ ∀ i, i < m → w.cell? ⟨b, off + i, none⟩ = some (.int .u64 (N (k + i) : Nat))
set_option maxHeartbeats 600000 in
theorem mostW_any (N : Nat → Nat) (hN : ∀ i, N i < 128) : ∀ (m k T c : Nat) (A : Option Addr) (w : World), RdU w A N k m → m ≤ c → m ≤ 7 → T < 128 →
    Calls Try.prog 77 #[.slice A m c, .int .u64 T] w fun e w' => e = .returned (.int .i64 (mw N m k T : Nat)) ∧ ∃ q, w' = w.drewN q
  | 0, k, T, c, A, w, _, _, _, _ => by
    go_enter Try.func77, Try.ntmps77
    go_wp2
    go_ret
    exact ⟨rfl, 0, rfl⟩
  | m + 1, k, T, c, A, w, hr, hc, h7, hT => by
    obtain ⟨b, off, rfl, hcell⟩ := hr (by omega)
    have c0 := hcell 0 (by omega)
    rw [Nat.add_zero, Nat.add_zero] at c0
    obtain ⟨A2, hA2, hrest⟩ : ∃ A2 : Option Addr, ((c = 1 ∧ m = 0 ∧ A2 = some ⟨b, off, none⟩) ∨ (¬ c = 1 ∧ A2 = some ⟨b, off + 1, none⟩)) ∧ ∀ q, RdU (w.drewN q) A2 N (k + 1) m := by
      by_cases hc1 : c = 1
      · exact ⟨_, .inl ⟨hc1, by omega, rfl⟩, fun q hm => by omega⟩
      · refine ⟨_, .inr ⟨hc1, rfl⟩, fun q hm => ⟨b, off + 1, rfl, fun i hi => ?_⟩⟩
        have := hcell (i + 1) (by omega)
        rw [show off + (i + 1) = off + 1 + i by omega, show k + (i + 1) = k + 1 + i by omega] at this
        exact this
    have hand := and2_u64 ⟨N k, hN k⟩ ⟨T, hT⟩
    have hor := or2_u64 ⟨T, hT⟩ ⟨N k, hN k⟩
    simp only at hand hor
    have hT2 : T ||| N k < 128 := Nat.or_lt_two_pow (n := 7) hT (hN k)
    have ih1 := mostW_any N hN m (k + 1) T (c - 1) A2 w (hrest 0) (by omega) (by omega) hT
    have ih2 := fun q => mostW_any N hN m (k + 1) (T ||| N k) (c - 1) A2 (w.drewN q) (hrest q) (by omega) (by omega) hT2
    have b1 := mw_bd N m (k + 1) T
    have b2 := mw_bd N m (k + 1) (T ||| N k)
    have hz : (((m + 1 : Nat) : Int) == 0) = false := by rw [beq_eq_false_iff_ne]; omega
    have H1 := Lib.hid ih1
    have H2 := Lib.hid ih2
    obtain ⟨M1, HM1⟩ : ∃ M, Hid (mw N m (k + 1) T = M) := ⟨_, rfl⟩
    obtain ⟨M2, HM2⟩ : ∃ M, Hid (mw N m (k + 1) (T ||| N k) = M) := ⟨_, rfl⟩
    have hmw0 : Hid (mw N (m + 1) k T = if N k &&& T = 0 then max M1 (1 + M2) else M1) := by show _ = _; simp only [mw]; rw [HM1.out, HM2.out]
    rw [HM1.out] at H1 b1
    rw [HM2.out] at H2 b2
    clear ih1 ih2 hrest hcell hr
    by_cases hd : N k &&& T = 0
    · rw [hd] at hand
      have hmw : Hid (mw N (m + 1) k T = max M1 (1 + M2)) := by show _ = _; rw [hmw0.out, if_pos hd]
      have hS1 : bits BinOp.and IntKind.u64 (N k : Int) (T : Int) = 0 := hand
      clear hand hd hmw0
      have w1' : IntKind.i64.wrap (1 + (M2 : Int)) = 1 + (M2 : Int) := IntWalk.i64_in _ (by omega)
      rcases hA2 with ⟨rfl, rfl, rfl⟩ | ⟨hc1, rfl⟩
      all_goals
        go_enter Try.func77, Try.ntmps77
        go_wp2_with fail
        refine H1.out.mono ?_
        rintro e w1 ⟨rfl, q1, rfl⟩
        have Hd := Lib.hid (H2.out (q1 + 1))
        have Hdr : Hid ((w.drewN q1).drew = w.drewN (q1 + 1)) := rfl
        have cq : ∀ a, (w.drewN a).cell? ⟨b, off, none⟩ = some (.int .u64 (N k : Nat)) := fun a => c0
        have cq2 : (w.drewN q1).drew.cell? ⟨b, off, none⟩ = some (.int .u64 (N k : Nat)) := c0
        go_wp2
        go_region_with (
          go_at_call 77
          refine Hd.out.mono ?_
          rintro e wz ⟨rfl, q3, rfl⟩)
        all_goals
          go_wp2
          all_goals
            go_ret
            refine ⟨ret_int (Eq.trans (b := ((max M1 (1 + M2) : Nat) : Int)) ?_ (congrArg (fun x : Nat => (x : Int)) hmw.out.symm)), _, rfl⟩
            rw [Nat.max_def]
            split <;> omega
    · have hmw : Hid (mw N (m + 1) k T = M1) := by show _ = _; rw [hmw0.out, if_neg hd]
      have hne : (((N k &&& T : Nat) : Int) == 0) = false := by rw [beq_eq_false_iff_ne]; omega
      clear hmw0
      rcases hA2 with ⟨rfl, rfl, rfl⟩ | ⟨hc1, rfl⟩
      all_goals
        go_enter Try.func77, Try.ntmps77
        go_wp2_with fail
        refine H1.out.mono ?_
        rintro e w1 ⟨rfl, q1, rfl⟩
        go_wp2
        go_ret
        exact ⟨ret_int (by rw [hmw.out]), _, rfl⟩
end Go.Proofs.Ytkgomgfhhhdnjab
namespace Go.Proofs.Ytkgomgfhhhdnjab
open Go.ChangeShapes Go.WideShapes Go.ChangeAt Go.RowKit
set_option linter.unusedVariables false

def oc1 (x : Int) : Int := IntKind.u64.wrap (bits BinOp.and IntKind.u64 (x / 2) 6148914691236517205 + bits BinOp.and IntKind.u64 x 6148914691236517205)
def oc2 (x : Int) : Int := IntKind.u64.wrap (bits BinOp.and IntKind.u64 (x / 4) 3689348814741910323 + bits BinOp.and IntKind.u64 x 3689348814741910323)
def oc3 (x : Int) : Int := bits BinOp.and IntKind.u64 (IntKind.u64.wrap (x / 16 + x)) 1085102592571150095
def oc4 (x : Int) : Int := IntKind.u64.wrap (x + x / 256)
def oc5 (x : Int) : Int := IntKind.u64.wrap (x + x / 65536)
def oc6 (x : Int) : Int := IntKind.u64.wrap (x + x / 4294967296)
def oc (x : Int) : Int := bits BinOp.and IntKind.i64 (wrap64 (oc6 (oc5 (oc4 (oc3 (oc2 (oc1 x))))))) 127
/-- The homes of a set, in order. -/
def bitsOf (s : Nat) : List Nat := (List.range 7).filter (fun i => s.testBit i)
theorem oc_all : ∀ s : Fin 128, oc (s.val : Int) = ((bitsOf s.val).length : Int) := by decide +kernel
theorem oc_small {s : Nat} (h : s < 128) : oc (s : Int) = ((bitsOf s).length : Int) := oc_all ⟨s, h⟩

set_option maxHeartbeats 1000000 in
theorem ones64_small (s : Nat) (hs : s < 128) (w : World) :
    Calls Try.prog 114 #[.int .u64 s] w fun e w' => e = .returned (.int .i64 ((bitsOf s).length : Int)) ∧ w = w' := by
  have H := Lib.hid (oc_small hs)
  go_enter Try.func114, Try.ntmps114
  go_wp2
  go_ret
  refine ⟨?_, rfl⟩
  rw [← H.out]
  rfl
theorem ones_small (s : Nat) (hs : s < 128) (w : World) :
    Calls Try.prog 89 #[.int .u64 s] w fun e w' => e = .returned (.int .i64 ((bitsOf s).length : Int)) ∧ w = w' := by
  have H := Lib.hid (ones64_small s hs w)
  go_enter Try.func89, Try.ntmps89
  go_wp2_with fail
  refine H.out.mono ?_
  rintro e w' ⟨rfl, rfl⟩
  go_wp2
  go_ret
  exact ⟨rfl, rfl⟩
end Go.Proofs.Ytkgomgfhhhdnjab
namespace Go.Proofs.Ytkgomgfhhhdnjab
open Go.ChangeShapes Go.WideShapes Go.ChangeAt Go.RowKit
set_option linter.unusedVariables false
set_option maxRecDepth 4000

theorem ones_bc : ∀ s : Fin 128, (bitsOf s.val).length = bc 7 s.val := by decide +kernel
/-- Each of the first n sets meets S. -/
def hits (N : Nat → Nat) (S n : Nat) : Bool := (List.range n).all fun i => !decide (N i &&& S = 0)
theorem hits_iff {N : Nat → Nat} {S n : Nat} : hits N S n = true ↔ ∀ v, v < n → ¬ N v &&& S = 0 := by
  unfold hits
  rw [List.all_eq_true]
  simp only [List.mem_range, Bool.not_eq_true', decide_eq_false_iff_not]
theorem hits_no {N : Nat → Nat} {S n v : Nat} (hv : v < n) (h : N v &&& S = 0) : hits N S n = false := by
  rw [Bool.eq_false_iff]
  intro h2
  exact hits_iff.1 h2 v hv h
theorem nmk_iff {d : Nat → Nat → Int} {far : Int} {n : Nat} (hb : ∀ a b, a < n → b < n → -1 ≤ d a b) {i : Nat} (hi : i < n) (v : Nat) : (nmk d far i n).testBit v = true ↔ v < n ∧ 0 ≤ d i v ∧ d i v ≤ far := by
  rw [nmk_bit]
  constructor
  · rintro ⟨h1, h2, h3⟩
    have := hb i v hi h1
    exact ⟨h1, by omega, h3⟩
  · rintro ⟨h1, h2, h3⟩
    exact ⟨h1, by omega, h3⟩
/-- A cover is a set that each node's near ones meet. -/
theorem cover_hits {d : Nat → Nat → Int} {far : Int} {n S : Nat} (hb : ∀ a b, a < n → b < n → -1 ≤ d a b) : cvF d far S n n = hits (fun i => nmk d far i n) S n := by
  rw [Bool.eq_iff_iff, hits_iff, cover_iff (N := fun i => nmk d far i n) (fun i hi v => nmk_iff hb hi v)]

theorem miss_is (x S pb : Nat) (w : World) (hx : x < 128) (hS : S < 128) (hc : w.cell? ⟨pb, 0, none⟩ = some (.int .u64 S)) {b : Bool} (h : decide (x &&& S = 0) = b) :
    Calls Try.prog 123 #[.int .u64 x, .pointer (some ⟨pb, 0, none⟩)] w fun e w' => e = .returned (.bool b) ∧ ∃ q, w' = w.drewN q := by
  have ha := and2_u64 ⟨x, hx⟩ ⟨S, hS⟩
  simp only at ha
  obtain ⟨y, Hy⟩ : ∃ y, Hid (x &&& S = y) := ⟨_, rfl⟩
  rw [Hy.out] at ha h
  have hb : (((y : Nat) : Int) == 0) = b := by
    rw [← h]
    by_cases e : y = 0
    · subst e; rfl
    · rw [decide_eq_false e, beq_eq_false_iff_ne]; omega
  clear h
  go_enter Try.func123, Try.ntmps123
  go_wp2
  go_ret
  exact ⟨rfl, 0, rfl⟩
def HitIdx (N : Nat → Nat) (S n : Nat) (w : World) (e : Ending) (w' : World) : Prop := ∃ r : Int, e = .returned (.int .i64 r) ∧ (hits N S n = true → r = -1) ∧ (hits N S n = false → 0 ≤ r) ∧ Below w.heap.size w w'
set_option maxHeartbeats 800000 in
theorem indexHit_any (N : Nat → Nat) (A : Option Addr) (c n S pb : Nat) (w : World) (hN : ∀ i, N i < 128) (hS : S < 128) (h7 : n ≤ 7) (hpb : pb < w.heap.size) (hr : ∀ w', Below w.heap.size w w' → RdU w' A N 0 n) (hc : w.cell? ⟨pb, 0, none⟩ = some (.int .u64 S)) :
    Calls Try.prog 129 #[.slice A n c, .func (.func 123) #[] #[.pointer (some ⟨pb, 0, none⟩)]] w (HitIdx N S n w) := by
  have HR := Lib.hid hr
  clear hr
  go_enter Try.func129, Try.ntmps129
  go_wp2
  go_loopw [8] (fun i wr => ∃ k : Nat, k ≤ n ∧ i = .int .i64 k ∧ Hid (∀ v, v < k → ¬ N v &&& S = 0) ∧ Below w.heap.size w wr) (fun i _ => n - (intOf i).toNat)
  case atStart => exact ⟨0, by omega, rfl, fun v hv => by omega, Below.refl _ _⟩
  case round =>
    obtain ⟨k, hk, rfl, Ho, hnx⟩ := hrel
    have hc2 : wr.cell? ⟨pb, 0, none⟩ = some (.int .u64 S) := (hnx.cell (p := ⟨pb, 0, none⟩) hpb).trans hc
    by_cases hlt : k < n
    · obtain ⟨b, off, rfl, hcell⟩ := HR.out wr hnx (by omega)
      have hx := hcell k hlt
      rw [Nat.zero_add] at hx
      have hN128 := hN k
      by_cases h1 : N k &&& S = 0
      · have Hs := Lib.hid (hits_no hlt h1)
        have Hf := Lib.hid (miss_is (N k) S pb wr hN128 hS hc2 (b := true) (decide_eq_true h1))
        clear h1 hc2 hcell
        go_wp2_with fail
        refine Hf.out.mono ?_
        rintro e w' ⟨rfl, q, rfl⟩
        go_wp2
        go_ret
        exact ⟨_, rfl, fun h => absurd (Hs.out.symm.trans h) (by decide), fun _ => by omega, below_drewN hnx q⟩
      · have Hs : Hid (∀ v, v < k + 1 → ¬ N v &&& S = 0) := fun v hv => by
          by_cases e : v = k
          · subst e; exact h1
          · exact Ho.out v (by omega)
        have Hf := Lib.hid (miss_is (N k) S pb wr hN128 hS hc2 (b := false) (decide_eq_false h1))
        clear h1 hc2 hcell
        go_wp2_with fail
        refine Hf.out.mono ?_
        rintro e w' ⟨rfl, q, rfl⟩
        go_wp2
        go_roundw
        case rel => exact ⟨k + 1, by omega, by go_num, Hs, below_drewN hnx q⟩
        case measure => simp [intOf]; omega
    · obtain rfl : k = n := by omega
      have Hs := Lib.hid (hits_iff.2 Ho.out)
      go_wp2
      go_ret
      exact ⟨_, rfl, fun _ => rfl, fun h => absurd (Hs.out.symm.trans h) (by decide), hnx⟩
theorem containsHit_any (N : Nat → Nat) (A : Option Addr) (c n S pb : Nat) (w : World) (hN : ∀ i, N i < 128) (hS : S < 128) (h7 : n ≤ 7) (hpb : pb < w.heap.size) (hr : ∀ w', Below w.heap.size w w' → RdU w' A N 0 n) (hc : w.cell? ⟨pb, 0, none⟩ = some (.int .u64 S)) :
    Calls Try.prog 122 #[.slice A n c, .func (.func 123) #[] #[.pointer (some ⟨pb, 0, none⟩)]] w fun e w' => e = .returned (.bool (!(hits N S n))) ∧ Below w.heap.size w w' := by
  have H := Lib.hid (indexHit_any N A c n S pb w hN hS h7 hpb hr hc)
  clear hr hc
  go_enter Try.func122, Try.ntmps122
  go_wp2_with fail
  refine H.out.mono ?_
  rintro e w' ⟨r, rfl, h1, h2, hnx⟩
  by_cases hf : hits N S n = true
  · have := h1 hf
    subst this
    have Hf := Lib.hid hf
    clear h1 h2 hf
    go_wp2
    go_ret
    exact ⟨ret_bool (by rw [Hf.out]; rfl), hnx⟩
  · have hf' : hits N S n = false := by simpa using hf
    have hr0 := h2 hf'
    have Hf := Lib.hid hf'
    clear h1 h2 hf hf'
    go_wp2
    go_ret
    exact ⟨ret_bool (by rw [Hf.out]; simp), hnx⟩
theorem hasAll_any (N : Nat → Nat) (A : Option Addr) (c n S : Nat) (w : World) (hN : ∀ i, N i < 128) (hS : S < 128) (h7 : n ≤ 7) (hr : ∀ w', Below w.heap.size w w' → RdU w' A N 0 n) :
    Calls Try.prog 112 #[.slice A n c, .int .u64 S] w fun e w' => e = .returned (.bool (hits N S n)) ∧ Below w.heap.size w w' := by
  have hb0 := (Below.refl w.heap.size w).alloc (Nat.le_refl _) (.cells #[.int .u64 S] 90)
  obtain ⟨W, HW⟩ : ∃ W, Hid (w.alloc (.cells #[.int .u64 S] 90) = W) := ⟨_, rfl⟩
  have hsz : W.heap.size = w.heap.size + 1 := by rw [← HW.out]; exact size_alloc1 _ _
  have hcc : W.cell? ⟨w.heap.size, 0, none⟩ = some (.int .u64 S) := by rw [← HW.out, cell_of_row _ _ _ _ _ _ (heap_alloc_new w _)]; rfl
  rw [HW.out] at hb0
  have Hf := Lib.hid (containsHit_any N A c n S w.heap.size W hN hS h7 (by omega) (fun w' h => hr w' (hb0.trans (h.mono (by omega)))) hcc)
  have HB := Lib.hid hb0
  clear hr hb0 hcc hsz
  go_enter Try.func112, Try.ntmps112
  go_wp2_with fail
  rw [HW.out]
  refine Hf.out.mono ?_
  rintro e w' ⟨rfl, hnx2⟩
  go_wp2
  go_ret
  exact ⟨ret_bool (by simp), HB.out.trans (hnx2.mono HB.out.size)⟩
end Go.Proofs.Ytkgomgfhhhdnjab
