/-
  Tables made row by row out of costs: rows as columns, and one more in the first row.
  Conditions: the costs have as many numbers in each row as rows, at most six.
-/
import Derived.Test.YtakljcpneghgnaaCV
import Derived.Test.YtakljcpneghgnaaB6
namespace Go.Proofs.Ytakljcpneghgnaa
open Go.ChangeShapes Go.WideShapes Go.ChangeAt Go.RowKit
set_option linter.unusedVariables false
set_option maxRecDepth 4000

/-- A table as rows. -/
def tabC (X : Nat → Nat → Int) (n : Nat) : List (List Int) := (List.range n).map fun a => rowX X n a
theorem tabC_len (X : Nat → Nat → Int) (n : Nat) : (tabC X n).length = n := by simp [tabC]
theorem tabC_row (X : Nat → Nat → Int) {n a : Nat} (ha : a < n) : (tabC X n).getD a [] = rowX X n a := by simp [tabC, List.getD, ha]
theorem tabC_cl (X : Nat → Nat → Int) {n a b : Nat} (ha : a < n) (hb : b < n) : clC (tabC X n) a b = X a b := by
  unfold clC; rw [tabC_row X ha, rowX_get X hb]
theorem tabC_small (X : Nat → Nat → Int) {n : Nat} (hn : n ≤ 6) : Small (tabC X n) := ⟨by rw [tabC_len]; omega, fun i hi => by
  rw [tabC_len] at hi
  rw [tabC_row X hi, rowX_len]; omega⟩
/-- When a table is one of costs. -/
theorem vcost_tab {X : Nat → Nat → Int} {n : Nat} (hn : n ≤ 6) : vcost (tabC X n) = true ↔ BdC X n := by
  rw [vcost_iff, tabC_len]
  constructor
  · rintro ⟨-, h⟩ i j hi hj
    obtain ⟨h1, h2⟩ := h i hi
    rw [tabC_row X hi] at h2
    have := h2 j (by rw [rowX_len]; exact hj)
    rwa [rowX_get X hj] at this
  · intro h
    refine ⟨hn, fun i hi => ?_⟩
    rw [tabC_row X hi]
    refine ⟨rowX_len X n i, fun j hj => ?_⟩
    rw [rowX_len] at hj
    rw [rowX_get X hj]
    exact h i j hi hj
theorem rdV_tab {w : World} {B g n c : Nat} {VR : Nat → Value} {X : Nat → Nat → Int} (hO : Outer w B n (.slice (some ⟨g, 0, none⟩) n c) VR) (hT : TT w B n VR (rowX X n)) : RdV w w.heap.size (some ⟨g, 0, none⟩) (tabC X n) := fun hp => by
  rw [tabC_len] at hp
  refine ⟨g, 0, rfl, (World.ownsRow.lt hO g rfl).2, fun i hi => ?_⟩
  rw [tabC_len] at hi
  obtain ⟨A, c', e, hc, hc2, h3⟩ := own_sliceN (hT.own i hi)
  obtain ⟨A', c'', e', hrd⟩ := hT.row hi
  rw [e] at e'
  injection e' with e1 e2 e3
  subst e1
  rw [tabC_row X hi]
  refine ⟨A, c', ?_, hc, hc2, hrd⟩
  rw [Nat.zero_add, Outer.cell hO hi, e]
/-- The rows so far. -/
def RowsT (X : Nat → Nat → Int) (w : World) (n : Nat) (v i : Value) (wr : World) : Prop :=
  ∃ m : Nat, ∃ VR g cA, m ≤ n ∧ i = .int .i64 m ∧ v = .slice (some ⟨g, 0, none⟩) m cA ∧ Outer wr w.heap.size m v VR ∧ TT wr w.heap.size m VR (rowX X n) ∧ Below w.heap.size w wr
/-- The row so far. -/
def RowT (X : Nat → Nat → Int) (w : World) (m : Nat) (n : Nat) (r k : Value) (wr : World) : Prop :=
  ∃ j : Nat, j ≤ n ∧ k = .int .i64 j ∧ wr.ownsRow w.heap.size 3 1 r j ((rowX X j m).map (Value.int .i64)) ∧ Below w.heap.size w wr
def MadeT (X : Nat → Nat → Int) (n : Nat) (w : World) (e : Ending) (w' : World) : Prop :=
  ∃ A c, e = .returned (.slice A n c) ∧ Hid (CostIn w' A c n (tabC X n)) ∧ Hid (Below w.heap.size w w')
set_option maxHeartbeats 1600000 in
theorem turnedRows_any (A : Option Addr) (c n : Nat) (cost : List (List Int)) (w : World) (hr : RdV w w.heap.size A cost) (hm : cost.length = n) (hv : vcost cost = true) :
    Calls Try.prog 30 #[.slice A n c] w (MadeT (fun k i => clC cost i k) n w) := by
  obtain ⟨ii, hii, hzi0, hzi1, hzi2⟩ := info_parts intInfo
  obtain ⟨is, his, hzs0, hzs1, hzs2⟩ := info_parts slInfo2
  obtain ⟨h6, -⟩ := (vcost_iff cost).1 hv
  rw [hm] at h6
  have hrow := fun i hi => vcost_len hv (i := i) hi
  rw [hm] at hrow
  have Hrow := Lib.hid hrow
  have Hm := Lib.hid hm
  have HR := Lib.hid hr
  obtain ⟨X, HX⟩ : ∃ X : Nat → Nat → Int, Hid ((fun k i => clC cost i k) = X) := ⟨_, rfl⟩
  rw [HX.out]
  have hb0 := (Below.refl w.heap.size w).alloc (Nat.le_refl _) (.cells #[] 23)
  have ho0 : Outer (w.alloc (.cells #[] 23)) w.heap.size 0 (.slice (some ⟨w.heap.size, 0, none⟩) 0 0) (fun _ => .nilIface) := World.ownsRow_lit w #[] 0 (Nat.le_refl _) (by decide) rfl
  have ht0 : TT (w.alloc (.cells #[] 23)) w.heap.size 0 (fun _ => .nilIface) (rowX X n) := ⟨fun j hj => by omega, fun i j g hi => by omega⟩
  have HB0 := Lib.hid hb0
  have HO0 := Lib.hid ho0
  have HT0 := Lib.hid ht0
  clear hb0 ho0 ht0 hm hv hrow hr
  go_enter Try.func30, Try.ntmps30
  go_wp2
  go_loopw [3, 4] (fun v i wr => RowsT X w n v i wr) (fun _ i _ => n - (intOf i).toNat)
  case atStart => exact ⟨0, _, _, _, Nat.zero_le _, rfl, rfl, HO0.out, HT0.out, HB0.out⟩
  case round =>
    clear HO0 HT0 HB0
    obtain ⟨a, VR, g, cA, ha, rfl, rfl, ho, hT, hnx⟩ := hrel
    have HO := Lib.hid ho
    have HT := Lib.hid hT
    have HB := Lib.hid hnx
    clear ho hT hnx
    by_cases hlt : a < n
    · have HR0 := Lib.hid (show (wr.alloc (.cells #[] 3)).ownsRow wr.heap.size 3 1 (.slice (some ⟨wr.heap.size, 0, none⟩) 0 0) 0 [] from World.ownsRow_lit wr #[] 0 (Nat.le_refl _) (by decide) rfl)
      have HB1 := Lib.hid ((Below.refl wr.heap.size wr).alloc (Nat.le_refl _) (.cells #[] 3))
      obtain ⟨W, HW⟩ : ∃ W, Hid (wr = W) := ⟨_, rfl⟩
      go_wp2
      go_loopw [5, 6] (fun r k wi => RowT X W a n r k wi) (fun _ k _ => n - (intOf k).toNat)
      case atStart =>
        have := HW.out
        subst this
        exact ⟨0, Nat.zero_le _, rfl, by simpa [rowX] using HR0.out, HB1.out⟩
      case round =>
        clear HR0 HB1
        obtain ⟨j, hj, rfl, hown, hnx⟩ := hrel
        by_cases hjn : j < n
        · have hs1 : j + 1 ≤ maxLen := by unfold maxLen; omega
          have hs2 : (j + 1) * 8 ≤ 140737488355328 := by omega
          have hs3 : ∀ o, W.heap.size ≤ (wr.alloc o).heap.size := fun o => by rw [size_alloc1]; have := hnx.size; omega
          have Hs3 := Lib.hid hs3
          have Hown := Lib.hid hown
          have Hnx := Lib.hid hnx
          have hbW : Below w.heap.size w wr := by
            have h1 := HB.out
            have e := HW.out
            rw [e] at h1
            exact h1.trans (hnx.mono h1.size)
          obtain ⟨bw, ow, ar, ca, ls, rfl, hbw, Hl, hcl, hca, hcm, hrl⟩ := (HR.out.below hbW).x (k := j) (by rw [Hm.out]; exact hjn)
          have hlen : ls.length = n := by rw [← Hl.out]; exact Hrow.out j hjn
          rw [hlen] at hcl hca
          obtain ⟨b, off, x, rfl, hbb, Hx, hcx⟩ := hrl.x (k := a) (by rw [hlen]; exact hlt)
          have hx : Hid (X a j = x) := by show _ = _; rw [← HX.out]; unfold clC; simp only; rw [Hl.out]; exact Hx.out
          clear hown hnx hs3 hbW hrl hlen
          go_wp2_with (at_builtin; refine wpList_append_own _ rfl _ _ 23 rfl W.heap.size 3 ii _ 1 8 Try.underlying23 hii hzi0 hzi1 hzi2 rfl (by decide) _ _ _ rfl (Hown.out.alloc _) ⟨_, 0, none⟩ 1 1 [.int .i64 x] rfl rfl (cell_one_new _ _ _) (by intro u hu; simp at hu; subst hu; rfl) hs1 hs2 (Hs3.out _) ?_; intro v' w3 hown' hgrow _)
          have hb3 : Below W.heap.size W w3 := (Hnx.out.alloc Hnx.out.size _).grown hgrow (Hs3.out _) (fun g h => (Hown.out.lt g h).1)
          have Hown' := Lib.hid hown'
          have Hb3 := Lib.hid hb3
          clear hown' hgrow hb3
          go_wp2
          go_roundw
          case rel => exact ⟨j + 1, by omega, by go_num, by rw [rowX_step, hx.out]; simpa using Hown'.out, Hb3.out⟩
          case measure => simp [intOf]; omega
        · obtain rfl : j = n := by omega
          have e := HW.out
          subst e
          obtain ⟨Ar, cr, rfl, -, -, hA⟩ := own_sliceN hown
          obtain ⟨gr, rfl, -, -⟩ := hA (by omega)
          have hT2 := (HT.out.addRow HB.out.size hnx (rowX_len _ _ _) hown).congr (ls' := rowX X j) (fun i hi => by
            by_cases e : i = a
            · subst e; rw [upd_at]
            · rw [upd_other _ _ e])
          have ho2 := ownN_below HO.out hnx
          have hb2 := HB.out.trans (hnx.mono HB.out.size)
          have HT2 := Lib.hid hT2
          have HO2 := Lib.hid ho2
          have HB2 := Lib.hid hb2
          clear hT2 ho2 hb2 hown hnx hA HW
          have hs1 : a + 1 ≤ maxLen := by unfold maxLen; omega
          have hs2 : (a + 1) * 24 ≤ 140737488355328 := by omega
          have hs3 : ∀ o, w.heap.size ≤ (wr.alloc o).heap.size := fun o => by rw [size_alloc1]; have := HB2.out.size; omega
          have Hs3 := Lib.hid hs3
          clear hs3
          go_wp2_with (at_builtin; refine wpList_append_lies _ rfl _ _ 24 rfl w.heap.size 23 is _ 1 24 Try.underlying24 his hzs0 hzs1 hzs2 rfl (by decide) _ _ _ rfl (World.ownsRow.alloc HO2.out _) ⟨_, 0, none⟩ 1 1 [.slice (some ⟨gr, 0, none⟩) j cr] rfl rfl (cell_one_new _ _ _) (by intro u hu; simp at hu; subst hu; rfl) (by decide) hs1 hs2 (Hs3.out _) _ rfl ?_; intro g3 c3 w3 hown3 hgrow3 hat3 hlt3)
          obtain ⟨ho3, hT3, hb3⟩ := tabX_end HT2.out HO2.out HB2.out hown3 hgrow3 (by show (wr.heap.push _).size = _; simp)
          have HT3 := Lib.hid hT3
          have HO3 := Lib.hid ho3
          have HB3 := Lib.hid hb3
          clear hown3 hgrow3 hat3 hlt3 hT3 ho3 hb3
          go_wp2
          go_roundw
          case rel => exact ⟨a + 1, _, _, _, by omega, by go_num, rfl, HO3.out, HT3.out, HB3.out⟩
          case measure => simp [intOf]; omega
    · obtain rfl : n = a := by omega
      obtain ⟨A1, c1, e1, hc1, hc2, -⟩ := own_sliceN HO.out
      injection e1 with e2 e3 e4
      subst e4
      have Hend : Hid (CostIn wr (some ⟨g, 0, none⟩) cA n (tabC X n)) := ⟨rdV_tab HO.out HT.out, tabC_len _ _, ⟨hc1, hc2⟩, tabC_small _ h6⟩
      clear e2 e3 HO HT
      go_wp2
      go_ret
      exact ⟨_, _, rfl, Hend, HB⟩
end Go.Proofs.Ytakljcpneghgnaa
