/-
  Tables in the exact laws: marked whole, and read again.
  Conditions: none.
-/
import Derived.Test.YthphboeboiallaaH1
namespace Go.Proofs.Ythphboeboiallaa
open Go.ChangeShapes Go.WideShapes Go.ChangeAt Go.RowKit
set_option linter.unusedVariables false
set_option maxRecDepth 4000

theorem TT.mark {w w' : World} {B m j g L c : Nat} {VR : Nat → Value} {ls : Nat → List Int} {xs : List Int} (h : TT w B m VR ls) (hj : j < m) (hv : VR j = .slice (some ⟨g, 0, none⟩) L c) (hg : w.grownBy w' (some g))
    (hown : w'.ownsRow B 3 1 (.slice (some ⟨g, 0, none⟩) L c) L (xs.map (Value.int .i64))) (hx : xs.length = L) : TT w' B m VR (upd ls j xs) := by
  refine ⟨fun i hi => ?_, h.dis⟩
  by_cases e : i = j
  · subst e; rw [upd_at, hv, hx]; exact hown
  · rw [upd_other _ _ e]
    exact (h.own i hi).kept hg (by
      rcases e' : (VR i).ownBlock with _ | g'
      · exact .inl rfl
      · right; intro e2
        injection e2 with e2
        subst e2
        exact e (h.dis i j _ hi hj e' (by rw [hv]; rfl)))
def marked (k0 : Int) (L : Nat) (ls : Nat → List Int) (j : Nat) : Nat → List Int := fun i => if i < j then mk (k0 + (i * L : Nat)) L else ls i
def MarkedT (B m L : Nat) (k0 : Int) (v : Value) (VR : Nat → Value) (w : World) (e : Ending) (w' : World) : Prop :=
  e = .returned (.int .i64 (k0 + (m * L : Nat))) ∧ Outer w' B m v VR ∧ TT w' B m VR (fun j => mk (k0 + (j * L : Nat)) L) ∧ Below B w w'
set_option maxHeartbeats 1600000 in
theorem markSS_any (w : World) (B m c L : Nat) (A : Option Addr) (VR : Nat → Value) (ls : Nat → List Int) (hO : Outer w B m (.slice A m c) VR) (hT : TT w B m VR ls) (hm : m ≤ 7) (hl : ∀ j, j < m → (ls j).length = L) (hL1 : 1 ≤ L) (hL7 : L ≤ 7) :
    Calls Try.prog 42 #[.slice A m c, .int .i64 1] w (MarkedT B m L 1 (.slice A m c) VR w) := by
  have HO := Lib.hid hO
  have HT := Lib.hid hT
  have HL := Lib.hid hl
  obtain ⟨A2, c2, e, _, _, h3⟩ := own_sliceN hO
  injection e with e _ _
  subst e
  have HA := Lib.hid h3
  clear hO hT hl h3
  go_enter Try.func42, Try.ntmps42
  go_wp2
  go_loopw [1, 5] (fun a i wr => ∃ j : Nat, j ≤ m ∧ i = .int .i64 j ∧ a = .int .i64 (1 + (j * L : Nat)) ∧ Outer wr B m (.slice A m c) VR ∧ TT wr B m VR (marked 1 L ls j) ∧ Below B w wr) (fun _ i _ => m - (intOf i).toNat)
  case atStart => exact ⟨0, by omega, rfl, by simp, HO.out, HT.out.congr (fun j _ => by simp [marked]), Below.refl _ _⟩
  case round =>
    obtain ⟨j, hj, rfl, rfl, hO, hT, hnx⟩ := hrel
    by_cases hlt : j < m
    · obtain ⟨g0, rfl, -, -⟩ := HA.out (by omega)
      have hlj : (marked 1 L ls j j).length = L := by simp only [marked]; rw [if_neg (by omega)]; exact HL.out j hlt
      have hoj := hT.own j hlt
      obtain ⟨Aj, cj, ej, -, -, h5⟩ := own_sliceN hoj
      rw [hlj] at ej h5 hoj
      obtain ⟨g, rfl, hgB, -⟩ := h5 (by omega)
      rw [ej] at hoj
      have cc := Outer.cell hO hlt
      rw [ej] at cc
      have hjL : j * L ≤ 49 := Nat.mul_le_mul (show j ≤ 7 by omega) hL7
      have Hc := Lib.hid (markI_any wr B g L cj (1 + (j * L : Nat)) _ hoj hlj (by omega) (by omega) (by omega))
      have HO' := Lib.hid hO
      have HT' := Lib.hid hT
      have HB' := Lib.hid hnx
      have Hej := Lib.hid ej
      clear hoj hO hT hnx ej h5 hlj
      go_wp2_with fail
      refine Hc.out.mono ?_
      rintro e w2 ⟨rfl, hown2, hg2⟩
      have hT2 := (HT'.out.mark hlt Hej.out hg2 hown2 (mk_len _ _)).congr (ls' := marked 1 L ls (j + 1)) (fun i hi => by
        by_cases e : i = j
        · subst e; rw [upd_at]; simp [marked]
        · rw [upd_other _ _ e]
          simp only [marked]
          by_cases h : i < j
          · rw [if_pos h, if_pos (by omega)]
          · rw [if_neg h, if_neg (by omega)])
      have hO2 := HO'.out.kept HT'.out (r := j) hlt (Below.refl _ _) (by rw [Hej.out]; exact hg2)
      have hb2 := (HB'.out.grown hg2 (Nat.le_of_lt (Nat.lt_of_le_of_lt hgB (own_heap (HT'.out.own j hlt) (g := g) (by rw [Hej.out]; rfl)).2.2)) (fun k e => by injection e with e; omega))
      have HT2 := Lib.hid hT2
      have HO2 := Lib.hid hO2
      have HB2 := Lib.hid hb2
      clear hT2 hO2 hb2 hown2 hg2 cc
      go_wp2
      go_roundw
      case rel => exact ⟨j + 1, by omega, by go_num, by congr 1; rw [Nat.succ_mul]; omega, HO2.out, HT2.out, HB2.out⟩
      case measure => simp [intOf]; omega
    · have hjm : j = m := by omega
      subst hjm
      have HO' := Lib.hid hO
      have HT' := Lib.hid hT
      clear hO hT
      go_wp2
      go_ret
      exact ⟨rfl, HO'.out, HT'.out.congr (fun i hi => by simp only [marked]; rw [if_pos hi]), hnx⟩
set_option maxHeartbeats 1600000 in
theorem heldSS_any (w : World) (B m c L : Nat) (A : Option Addr) (VR : Nat → Value) (hO : Outer w B m (.slice A m c) VR) (hT : TT w B m VR (fun j => mk (1 + (j * L : Nat)) L)) (hm : m ≤ 7) (hL7 : L ≤ 7) :
    Calls Try.prog 43 #[.slice A m c, .int .i64 1] w fun e w' => e = .returned (.int .i64 (1 + (m * L : Nat))) ∧ w = w' := by
  have HO := Lib.hid hO
  have HT := Lib.hid hT
  obtain ⟨A2, c2, e, _, _, h3⟩ := own_sliceN hO
  injection e with e _ _
  subst e
  have HA := Lib.hid h3
  clear hO hT h3
  go_enter Try.func43, Try.ntmps43
  go_wp2
  go_loop [1, 5] (fun a i => ∃ j : Nat, j ≤ m ∧ i = .int .i64 j ∧ a = .int .i64 (1 + (j * L : Nat))) (fun _ i => m - (intOf i).toNat)
  case atStart => exact ⟨0, by omega, rfl, by simp⟩
  case round =>
    obtain ⟨j, hj, rfl, rfl⟩ := hrel
    by_cases hlt : j < m
    · obtain ⟨g0, rfl, -, -⟩ := HA.out (by omega)
      obtain ⟨Aj, cj, ej, hrj⟩ := HT.out.row hlt
      have cc := Outer.cell HO.out hlt
      rw [ej, mk_len] at cc
      have hjL : j * L ≤ 49 := Nat.mul_le_mul (show j ≤ 7 by omega) hL7
      have Hc := Lib.hid (heldI_any w w.heap.size L cj (1 + (j * L : Nat)) Aj hrj (by omega) (by omega) (by omega))
      have hpos : ¬ (1 + ((j * L : Nat) : Int) + (L : Int)) < 0 := by omega
      clear hrj ej
      go_wp2_with fail
      refine Hc.out.mono ?_
      rintro e w' ⟨rfl, rfl⟩
      go_wp2
      go_round
      case rel => exact ⟨j + 1, by omega, by go_num, by congr 1; rw [Nat.succ_mul]; omega⟩
      case measure => simp [intOf]; omega
    · have hjm : j = m := by omega
      subst hjm
      go_wp2
      go_ret
      exact ⟨rfl, rfl⟩
end Go.Proofs.Ythphboeboiallaa
