/-
  tableWithoutStreets of the program, walked.
  Conditions: one to seven nodes.
-/
import Derived.Test.YtiblcmeoneolcaaHT
import Derived.Test.YtiblcmeoneolcaaKR
import Derived.Test.YtiblcmeoneolcaaB6
namespace Go.Proofs.Ytiblcmeoneolcaa
open Go.ChangeShapes Go.WideShapes Go.ChangeAt Go.RowKit
set_option linter.unusedVariables false
set_option maxRecDepth 4000

theorem rowX_own_set {n k : Nat} (hk : k < n) : (List.replicate n (-1 : Int)).set k 0 = rowX ownX n k := by
  unfold rowX ownX
  apply List.ext_getElem?
  intro i
  rw [List.getElem?_set]
  by_cases hi : i < n
  · by_cases e : k = i
    · subst e; simp [hi]
    · simp [hi, e]
  · simp [hi]; omega

set_option maxHeartbeats 1600000 in
theorem tableW_any (n : Nat) (w : World) (h1 : 1 ≤ n) (h7 : n ≤ 7) : Calls Try.prog 59 #[.int .i64 n] w (NTab w n ownX) := by
  obtain ⟨is, his, hzs0, hzs1, hzs2⟩ := info_parts slInfo2
  have hbi : is.bytes * n ≤ 281474976710656 := by rw [hzs2]; omega
  have hml : n ≤ maxLen := by unfold maxLen; omega
  go_enter Try.func59, Try.ntmps59
  go_wp2_with (at_make; refine wpList_make_full _ rfl _ _ 29 rfl w.heap.size 36 is _ 1 Try.underlying29 his hzs0 hzs1 _ _ _ _ n rfl rfl rfl rfl hbi hml (Nat.le_refl _) ?_; intro w1 hown1 hg1)
  have hb1 : Below w.heap.size w w1 := (Below.refl _ _).grown hg1 (Nat.le_refl _) (fun j hj => by cases hj)
  rw [Nat.mul_one, half_none] at hown1
  obtain ⟨G, HG⟩ : ∃ G, Hid (w.heap.size = G) := ⟨_, rfl⟩
  have ho1 : w1.ownsRow w.heap.size 36 1 (.slice (some ⟨G, 0, none⟩) n n) n (half (fun _ => .slice none 0 0) 0 n) := by rw [← HG.out]; exact hown1
  have hGB : w.heap.size ≤ G := Nat.le_of_eq HG.out
  rw [HG.out]
  have HO1 := Lib.hid ho1
  have HB1 := Lib.hid hb1
  clear hown1 hg1 ho1 hb1
  go_loopw [8] (fun i wr => ∃ k : Nat, ∃ VR, k ≤ n ∧ i = .int .i64 k ∧ wr.ownsRow w.heap.size 36 1 (.slice (some ⟨G, 0, none⟩) n n) n (half VR k n) ∧ TT wr w.heap.size k VR (rowX ownX n) ∧ Below w.heap.size w wr) (fun i _ => n - (intOf i).toNat)
  case atStart => exact ⟨0, fun _ => .slice none 0 0, Nat.zero_le _, rfl, HO1.out, ⟨fun j hj => by omega, fun i j g hi => by omega⟩, HB1.out⟩
  case round =>
    clear HO1 HB1
    obtain ⟨k, VR, hk, rfl, hO, hT, hnx⟩ := hrel
    by_cases hlt : k < n
    · have HO := Lib.hid hO
      have HT := Lib.hid hT
      have HB := Lib.hid hnx
      have hbl := (Below.refl wr.heap.size wr).alloc (Nat.le_refl _) (.cells #[.int .i64 (-1)] 3)
      have hsz := size_alloc1 wr (.cells #[.int .i64 (-1)] 3)
      have Hrep := Lib.hid (repeat_any wr.heap.size n (-1) (wr.alloc (.cells #[.int .i64 (-1)] 3)) h1 (by omega) (by omega) (by rw [cell_of_row _ _ _ _ _ _ (heap_alloc_new wr _)]; rfl))
      have HBL := Lib.hid hbl
      have HSZ := Lib.hid hsz
      clear hO hT hnx hbl hsz
      go_wp2_with fail
      refine Hrep.out.mono ?_
      rintro e wC ⟨v, rfl, hownC, hnxC⟩
      rw [List.length_replicate] at hownC
      have hbC : Below wr.heap.size wr wC := HBL.out.trans (hnxC.mono HBL.out.size)
      have hownD := ownN_base hownC (B' := wr.heap.size) HBL.out.size
      obtain ⟨A, c, rfl, -, -, hA⟩ := own_sliceN hownC
      obtain ⟨R, rfl, -, -⟩ := hA (by omega)
      obtain ⟨⟨x, cx⟩, fx, hst, hTT, hgB⟩ := tabH_step (ls := upd (rowX ownX n) k (List.replicate n (-1))) hlt HB.out.size (HT.out.congr (fun j hj => (upd_other _ _ (by omega)).symm)) HO.out hbC (by rw [upd_at, List.length_replicate]; exact hownD)
      obtain ⟨hT2, hRB⟩ := hTT.setAt (j := k) (n := n) (R := R) (c := c) (by omega) (by rw [upd_at, List.length_replicate]) (upd_at _ _ _) k 0
      have hrowR := hTT.own k (by omega)
      rw [upd_at, upd_at, List.length_replicate] at hrowR
      obtain ⟨⟨cs, hcs⟩, -, -⟩ := own_heap hrowR (g := R) rfl
      have hO2 := outer_setInt (b := k) (u := .int .i64 0) hst hcs
      have cr : (wC.setCell ⟨G, k, none⟩ (.slice (some ⟨R, 0, none⟩) n c)).cell? ⟨R, k, none⟩ = some (.int .i64 (-1)) := by
        rw [hrowR.cellAt k (by omega)]; simp [hlt]
      have fr := hrowR.frozenAt k
      have ck : (wC.setCell ⟨G, k, none⟩ (.slice (some ⟨R, 0, none⟩) n c)).cell? ⟨G, k, none⟩ = some (.slice (some ⟨R, 0, none⟩) n c) := by
        rw [hst.cellAt k (by omega)]; simp [half, hlt, upd_at]
      have hB2 := (((HB.out.trans (hbC.mono HB.out.size)).setCell (p := ⟨G, k, none⟩) hgB (.slice (some ⟨R, 0, none⟩) n c))).setCell (p := ⟨R, k, none⟩) hRB (.int .i64 0)
      have HO2 := Lib.hid hO2
      have HT2 := Lib.hid (hT2.congr (ls' := rowX ownX n) (fun j hj => by
        by_cases e : j = k
        · subst e; rw [upd_at, upd_at, rowX_own_set hlt]
        · rw [upd_other _ _ e, upd_other _ _ e]))
      have HB2 := Lib.hid hB2
      clear hO2 hT2 hB2 hrowR hcs hst hTT hownC hownD hbC hnxC hA
      go_wp2
      go_roundw
      case rel => exact ⟨k + 1, _, by omega, by go_num, HO2.out, HT2.out, HB2.out⟩
      case measure => simp [intOf]; omega
    · obtain rfl : k = n := by omega
      rw [half_all] at hO
      have HO := Lib.hid hO
      have HT := Lib.hid hT
      have HB := Lib.hid hnx
      clear hO hT hnx
      go_wp2
      go_ret
      exact ⟨_, VR, rfl, HO.out, HT.out, HB.out⟩
end Go.Proofs.Ytiblcmeoneolcaa
