/-
  TreeMiddle: the program answers the first node without which no part has more than half of all people.
  Conditions: fewer than 2^60 roads and numbers.
-/
import Derived.Test.YtoappopbjnlbdabF5
import Derived.Test.YtoappopbjnlbdabN1
namespace Go.Proofs.Ytoappopbjnlbdab
open Go.ChangeShapes Go.WideShapes Go.ChangeAt Go.RowKit
set_option linter.unusedVariables false
set_option maxRecDepth 4000

def FineP (t : List (Int × Int)) (fs : List Int) (n i k : Nat) : Prop := ∀ j, j < k → ¬ tot fs n < 2 * pp t fs n i ((nb t n i).getD j (0, 0)).1
theorem fineP_end {t : List (Int × Int)} {fs : List Int} {n i k : Nat} (h : FineP t fs n i k) (hk : (nb t n i).length ≤ k) : midOk t fs n i = true := by
  unfold midOk
  rw [List.all_eq_true]
  intro x hx
  obtain ⟨j, hj, rfl⟩ := List.getElem_of_mem hx
  have := h j (by omega)
  simp only [List.getD, List.getElem?_eq_getElem hj, Option.getD_some] at this
  simp [this]
theorem fineP_no {t : List (Int × Int)} {fs : List Int} {n i k : Nat} (hk : k < (nb t n i).length) (h : tot fs n < 2 * pp t fs n i ((nb t n i).getD k (0, 0)).1) : midOk t fs n i = false := by
  rw [Bool.eq_false_iff]
  intro h'
  unfold midOk at h'
  rw [List.all_eq_true] at h'
  have := h' ((nb t n i)[k]) (List.getElem_mem hk)
  simp only [List.getD, List.getElem?_eq_getElem hk, Option.getD_some] at h
  simp [h] at this
def PartIdx (t : List (Int × Int)) (fs : List Int) (n i : Nat) (w : World) (e : Ending) (w' : World) : Prop := ∃ r : Int, e = .returned (.int .i64 r) ∧ (midOk t fs n i = true → r = -1) ∧ (midOk t fs n i = false → 0 ≤ r) ∧ Below w.heap.size w w'
set_option maxHeartbeats 1600000 in
theorem indexPart_any (w : World) (P : Nat → Nat) (B n i N cA mb fb ab : Nat) (A : Option Addr) (fs : List Int) (t : List (Int × Int)) (hi : i < n) (hN : (nb t n i).length = N) (hn7 : N ≤ 7)
    (hown : w.ownsRow B 92 2 (.slice A N cA) N (brv P (nb t n i)))
    (hpart : ∀ W, Below w.heap.size w W → ∀ b l, (b, l) ∈ nb t n i → Calls Try.prog 77 #[.agg #[.pointer (some ⟨P b, 0, none⟩), .int .i64 l], .pointer (some ⟨mb, 0, none⟩), .pointer (some ⟨fb, 0, none⟩), .pointer (some ⟨ab, 0, none⟩)] W (PartAns t fs n i b W)) :
    Calls Try.prog 87 #[.slice A N cA, .func (.func 77) #[] #[.pointer (some ⟨mb, 0, none⟩), .pointer (some ⟨fb, 0, none⟩), .pointer (some ⟨ab, 0, none⟩)]] w (PartIdx t fs n i w) := by
  have HN := Lib.hid hN
  have Hown := Lib.hid hown
  have Hpart := Lib.hid hpart
  obtain ⟨A', c', e, -, -, hA⟩ := own_sliceN hown
  injection e with e _ e2
  subst e e2
  have HA := Lib.hid hA
  clear hN hown hpart hA
  go_enter Try.func87, Try.ntmps87
  go_wp2
  go_loopw [8] (fun i' wr => ∃ k : Nat, k ≤ N ∧ i' = .int .i64 k ∧ Hid (FineP t fs n i k) ∧ Below w.heap.size w wr) (fun i _ => N - (intOf i).toNat)
  case atStart => exact ⟨0, by omega, rfl, fun j hj => by omega, Below.refl _ _⟩
  case round =>
    obtain ⟨k, hk, rfl, Ho, hnx⟩ := hrel
    by_cases hlt : k < N
    · obtain ⟨g, rfl, -, -⟩ := HA.out (by omega)
      have ow := ownN_below Hown.out hnx
      have hkl : k < (nb t n i).length := by rw [HN.out]; exact hlt
      obtain ⟨⟨b, l⟩, hbl⟩ : ∃ y, (nb t n i).getD k (0, 0) = y := ⟨_, rfl⟩
      have hbm : (b, l) ∈ nb t n i := by rw [← hbl]; simp only [List.getD, List.getElem?_eq_getElem hkl]; exact List.getElem_mem hkl
      have ce : wr.cell? ⟨g, k * 2, none⟩ = some (.pointer (some ⟨P b, 0, none⟩)) := by
        rw [ow.cellAt (k * 2) (by omega), brv_ptr P _ k hkl, hbl]; rfl
      have cl : wr.cell? ⟨g, k * 2 + 1, none⟩ = some (.int .i64 l) := by
        rw [ow.cellAt (k * 2 + 1) (by omega), brv_int P _ k hkl, hbl]
      have Hc := Lib.hid (Hpart.out wr hnx b l hbm)
      have Hbl := Lib.hid hbl
      have Hkl := Lib.hid hkl
      have HB := Lib.hid hnx
      clear ow hbl hbm hkl hnx
      go_wp2_with fail
      refine Hc.out.mono ?_
      rintro e w3 ⟨rfl, hnx3⟩
      have hb3 := Lib.hid (HB.out.trans (hnx3.mono HB.out.size))
      clear hnx3
      by_cases hbig : tot fs n < 2 * pp t fs n i b
      · have Hs := Lib.hid (fineP_no Hkl.out (by rw [Hbl.out]; exact hbig))
        have hd : decide (tot fs n < 2 * pp t fs n i b) = true := by simp [hbig]
        rw [hd]
        clear hd hbig
        go_wp2
        go_ret
        exact ⟨_, rfl, fun h => absurd (Hs.out.symm.trans h) (by decide), fun _ => by omega, hb3.out⟩
      · have Hs : Hid (FineP t fs n i (k + 1)) := fun j hj => by
          by_cases e : j = k
          · subst e; rw [Hbl.out]; exact hbig
          · exact Ho.out j (by omega)
        have hd : decide (tot fs n < 2 * pp t fs n i b) = false := by simp [hbig]
        rw [hd]
        clear hd hbig
        go_wp2
        go_roundw
        case rel => exact ⟨k + 1, by omega, by go_num, Hs, hb3.out⟩
        case measure => simp [intOf]; omega
    · have Hs := Lib.hid (fineP_end Ho.out (by rw [HN.out]; omega))
      go_wp2
      go_ret
      exact ⟨_, rfl, fun _ => rfl, fun h => absurd (Hs.out.symm.trans h) (by decide), hnx⟩
def PartHas (t : List (Int × Int)) (fs : List Int) (n i : Nat) (w : World) (e : Ending) (w' : World) : Prop := e = .returned (.bool (!(midOk t fs n i))) ∧ Below w.heap.size w w'
theorem containsPart_any (w : World) (P : Nat → Nat) (B n i N cA mb fb ab : Nat) (A : Option Addr) (fs : List Int) (t : List (Int × Int)) (hi : i < n) (hN : (nb t n i).length = N) (hn7 : N ≤ 7)
    (hown : w.ownsRow B 92 2 (.slice A N cA) N (brv P (nb t n i)))
    (hpart : ∀ W, Below w.heap.size w W → ∀ b l, (b, l) ∈ nb t n i → Calls Try.prog 77 #[.agg #[.pointer (some ⟨P b, 0, none⟩), .int .i64 l], .pointer (some ⟨mb, 0, none⟩), .pointer (some ⟨fb, 0, none⟩), .pointer (some ⟨ab, 0, none⟩)] W (PartAns t fs n i b W)) :
    Calls Try.prog 76 #[.slice A N cA, .func (.func 77) #[] #[.pointer (some ⟨mb, 0, none⟩), .pointer (some ⟨fb, 0, none⟩), .pointer (some ⟨ab, 0, none⟩)]] w (PartHas t fs n i w) := by
  have H := Lib.hid (indexPart_any w P B n i N cA mb fb ab A fs t hi hN hn7 hown hpart)
  clear hN hown hpart
  go_enter Try.func76, Try.ntmps76
  go_wp2_with fail
  refine H.out.mono ?_
  rintro e w1 ⟨r, rfl, h1, h2, hnx⟩
  have HB := Lib.hid hnx
  by_cases hf : midOk t fs n i = true
  · have := h1 hf
    subst this
    have Hf := Lib.hid hf
    clear h1 h2 hf hnx
    go_wp2
    go_ret
    exact ⟨ret_bool (by rw [Hf.out]; rfl), HB.out⟩
  · have hf' : midOk t fs n i = false := by simpa using hf
    have hr0 := h2 hf'
    have Hf := Lib.hid hf'
    clear h1 h2 hf hf' hnx
    go_wp2
    go_ret
    exact ⟨ret_bool (by rw [Hf.out]; simp), HB.out⟩
def HalvesAns (t : List (Int × Int)) (fs : List Int) (n i : Nat) (w : World) (e : Ending) (w' : World) : Prop := e = .returned (.bool (midOk t fs n i)) ∧ Below w.heap.size w w'
def AllRel (w0 : World) (fs : List Int) (n ab : Nat) (i : Value) (wr : World) : Prop :=
  ∃ k : Nat, k ≤ n ∧ i = .int .i64 k ∧ w0.grownBy wr (some ab) ∧ wr.heap[ab]? = some (.cells #[.int .i64 (tot fs k)] 3 (0, 0))
set_option maxHeartbeats 1600000 in
theorem halves_any (w : World) (P : Nat → Nat) (RV : Nat → Value) (B n i cf : Nat) (Af : Option Addr) (fs : List Int) (t : List (Int × Int)) (ht : Ahead t) (hn : t.length = n) (hn7 : n ≤ 7) (hlk : LkN w B n P RV t) (hi : i < n)
    (hf : fk n fs = true) (hrf : RdI w w.heap.size Af fs) :
    Calls Try.prog 57 #[.pointer (some ⟨P i, 0, none⟩), .slice Af n cf] w (HalvesAns t fs n i w) := by
  have hfk := fk_iff hf
  have htb := tot_bd hfk.2
  have b1 := (Below.refl w.heap.size w).alloc (Nat.le_refl _) (.cells #[.pointer (some ⟨P i, 0, none⟩)] 62)
  have b2 := b1.alloc b1.size (.cells #[.slice Af n cf] 27)
  have b3 := b2.alloc b2.size (.cells #[.int .i64 0] 3)
  have e1 := size_alloc1 w (.cells #[.pointer (some ⟨P i, 0, none⟩)] 62)
  have e2 := size_alloc1 (w.alloc (.cells #[.pointer (some ⟨P i, 0, none⟩)] 62)) (.cells #[.slice Af n cf] 27)
  have hab := heap_alloc_new ((w.alloc (.cells #[.pointer (some ⟨P i, 0, none⟩)] 62)).alloc (.cells #[.slice Af n cf] 27)) (.cells #[.int .i64 0] 3)
  rw [e2, e1] at hab
  have hmb : (((w.alloc (.cells #[.pointer (some ⟨P i, 0, none⟩)] 62)).alloc (.cells #[.slice Af n cf] 27)).alloc (.cells #[.int .i64 0] 3)).heap[w.heap.size]? = some (.cells #[.pointer (some ⟨P i, 0, none⟩)] 62 (0, 0)) := by
    rw [heap_alloc_old _ _ (by omega), heap_alloc_old _ _ (by omega)]; exact heap_alloc_new w _
  have hfb : (((w.alloc (.cells #[.pointer (some ⟨P i, 0, none⟩)] 62)).alloc (.cells #[.slice Af n cf] 27)).alloc (.cells #[.int .i64 0] 3)).heap[w.heap.size + 1]? = some (.cells #[.slice Af n cf] 27 (0, 0)) := by
    rw [heap_alloc_old _ _ (by omega)]
    have := heap_alloc_new (w.alloc (.cells #[.pointer (some ⟨P i, 0, none⟩)] 62)) (.cells #[.slice Af n cf] 27)
    rw [e1] at this; exact this
  have hlk3 := hlk.below b3
  have hrf3 := hrf.below b3
  have c0 : ∀ o1 o2 o3, (((w.alloc o1).alloc o2).alloc o3).cell? ⟨w.heap.size + 1, 0, none⟩ = ((w.alloc o1).alloc o2).cell? ⟨w.heap.size + 1, 0, none⟩ := fun o1 o2 o3 => World.cell?_alloc_lt _ _ _ (by rw [size_alloc1, size_alloc1]; show w.heap.size + 1 < _; omega)
  have B3 := Lib.hid b3
  have LK3 := Lib.hid hlk3
  have RF3 := Lib.hid hrf3
  have HAB := Lib.hid hab
  have HMB := Lib.hid hmb
  have HFB := Lib.hid hfb
  have HTB := Lib.hid htb
  have HFK := Lib.hid hfk
  have Hf := Lib.hid hf
  clear b1 b2 b3 e1 e2 hab hmb hfb hlk3 hrf3 htb hf hrf hlk hfk c0
  go_enter Try.func57, Try.ntmps57
  go_wp2
  generalize ((w.alloc (.cells #[.pointer (some ⟨P i, 0, none⟩)] 62)).alloc (.cells #[.slice Af n cf] 27)).alloc (.cells #[.int .i64 0] 3) = w3 at B3 LK3 RF3 HAB HMB HFB ⊢
  go_loopw [10] (fun i wr => AllRel w3 fs n (w.heap.size + 1 + 1) i wr) (fun i _ => n - (intOf i).toNat)
  case atStart => exact ⟨0, Nat.zero_le _, rfl, grown_refl _ _, HAB.out⟩
  case round =>
    obtain ⟨k, hk, rfl, hg, hh⟩ := hrel
    by_cases hlt : k < n
    · obtain ⟨b, off, x, rfl, -, Hx, hcx⟩ := (RF3.out.keep (w' := wr) fun p hp => World.cell?_of_block (hg.block _ (by have := B3.out.size; omega) (fun e => by injection e with e; omega))).x (k := k) (by rw [HFK.out.1]; exact hlt)
      have hxb := HFK.out.2 k hlt
      have hsb := HTB.out k hk
      rw [Hx.out] at hxb
      have hst : Hid (tot fs (k + 1) = tot fs k + x) := by show tot fs (k + 1) = _; simp only [tot]; rw [Hx.out]
      obtain ⟨S, HS⟩ : ∃ S, Hid (tot fs k = S) := ⟨_, rfl⟩
      rw [HS.out] at hsb hst hh
      have ca : wr.cell? ⟨w.heap.size + 1 + 1, 0, none⟩ = some (.int .i64 S) := by rw [cell_of_row _ _ _ _ _ _ hh]; rfl
      have fa : wr.frozen? ⟨w.heap.size + 1 + 1, 0, none⟩ = false := frozen_of_row _ _ _ _ _ hh
      have hst2 : (wr.setCell ⟨w.heap.size + 1 + 1, 0, none⟩ (.int .i64 (S + x))).heap[w.heap.size + 1 + 1]? = some (.cells #[.int .i64 (tot fs (k + 1))] 3 (0, 0)) := by
        rw [hst.out]
        simp [World.setCell, Array.getElem?_modify, hh]
      have hgr : wr.grownBy (wr.setCell ⟨w.heap.size + 1 + 1, 0, none⟩ (.int .i64 (S + x))) (some (w.heap.size + 1 + 1)) := ⟨rfl, rfl, rfl, by simp [World.setCell], fun k hk hne => Below.heap_setCell wr _ _ k (by rintro rfl; exact hne rfl)⟩
      have HG := Lib.hid (grown_trans hg hgr)
      have HH := Lib.hid hst2
      clear hst2 hgr hg hh
      go_wp2
      go_roundw
      case rel => exact ⟨k + 1, by omega, by go_num, HG.out, HH.out⟩
      case measure => simp [intOf]; omega
    · have hkn : k = n := by omega
      subst hkn
      have hkeep : ∀ {g o}, w3.heap[g]? = some o → g ≠ w.heap.size + 1 + 1 → wr.heap[g]? = some o := fun hh hne => grown_node hg hh (fun e => by injection e with e; exact hne e.symm)
      have cm : wr.cell? ⟨w.heap.size, 0, none⟩ = some (.pointer (some ⟨P i, 0, none⟩)) := by rw [cell_of_row _ _ _ _ _ _ (hkeep HMB.out (by omega))]; rfl
      have cf2 : wr.cell? ⟨w.heap.size + 1, 0, none⟩ = some (.slice Af k cf) := by rw [cell_of_row _ _ _ _ _ _ (hkeep HFB.out (by omega))]; rfl
      have ca : wr.cell? ⟨w.heap.size + 1 + 1, 0, none⟩ = some (.int .i64 (tot fs k)) := by rw [cell_of_row _ _ _ _ _ _ hh]; rfl
      have lkr := LK3.out.kept hg (fun g e _ => by injection e with e; subst e; exact ⟨_, _, _, HAB.out, by decide, by decide⟩)
      obtain ⟨-, -, -, c3, -⟩ := lkr.cells hi
      obtain ⟨A, cA, hrv, -, -, -⟩ := own_sliceN (lkr.own i hi)
      have how := lkr.own i hi
      rw [hrv] at c3 how
      have hrfr := RF3.out.keep (w' := wr) fun p hp => World.cell?_of_block (hg.block _ (by have := B3.out.size; omega) (fun e => by injection e with e; omega))
      have hwr : w.heap.size ≤ wr.heap.size := Nat.le_trans B3.out.size hg.size
      have hpart : ∀ W, Below wr.heap.size wr W → ∀ b l, (b, l) ∈ nb t k i → Calls Try.prog 77 #[.agg #[.pointer (some ⟨P b, 0, none⟩), .int .i64 l], .pointer (some ⟨w.heap.size, 0, none⟩), .pointer (some ⟨w.heap.size + 1, 0, none⟩), .pointer (some ⟨w.heap.size + 1 + 1, 0, none⟩)] W (PartAns t fs k i b W) := fun W hW b l hb =>
        part_any W P RV B w.heap.size k i b w.heap.size (w.heap.size + 1) (w.heap.size + 1 + 1) cf l Af fs t ht hn hn7 (lkr.below hW) hi hb Hf.out (hrfr.below (hW.mono hwr)) (Nat.le_trans hwr hW.size)
          ((hW.cell (p := ⟨w.heap.size, 0, none⟩) (World.block_lt_of_cell? wr _ cm)).trans cm) (by rw [HFK.out.1]; exact (hW.cell (p := ⟨w.heap.size + 1, 0, none⟩) (World.block_lt_of_cell? wr _ cf2)).trans cf2) ((hW.cell (p := ⟨w.heap.size + 1 + 1, 0, none⟩) (World.block_lt_of_cell? wr _ ca)).trans ca)
      obtain ⟨N, HN⟩ : ∃ N, Hid ((nb t k i).length = N) := ⟨_, rfl⟩
      rw [HN.out] at c3 how
      have hN7 : N ≤ 7 := by have := nb_len t k i; rw [HN.out] at this; omega
      have Hc := Lib.hid (containsPart_any wr P B k i N cA w.heap.size (w.heap.size + 1) (w.heap.size + 1 + 1) A fs t hi HN.out hN7 how hpart)
      have HBr := Lib.hid (B3.out.grown hg B3.out.size (fun g e => by injection e with e; omega))
      clear hpart how hrv lkr hrfr hkeep hg hh cf2 ca
      go_wp2_with fail
      refine Hc.out.mono ?_
      rintro e w5 ⟨rfl, hnx5⟩
      have hb5 := Lib.hid (HBr.out.trans (hnx5.mono hwr))
      clear hnx5 cm c3
      go_wp2
      go_ret
      exact ⟨ret_bool (by simp), hb5.out⟩
end Go.Proofs.Ytoappopbjnlbdab
