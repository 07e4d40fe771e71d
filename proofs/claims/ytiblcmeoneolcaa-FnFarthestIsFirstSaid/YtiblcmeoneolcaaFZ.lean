/-
  What FarthestFirst answers, as a list.
  Conditions: none beyond what each theorem states.
-/
import Derived.Test.YtiblcmeoneolcaaBF
import Derived.Test.YtiblcmeoneolcaaGL
namespace Go.Proofs.Ytiblcmeoneolcaa
open Go.ChangeShapes Go.WideShapes Go.ChangeAt Go.RowKit
set_option linter.unusedVariables false
set_option maxRecDepth 4000

/-- What FarthestFirst answers, as a list. -/
noncomputable def ffz (n : Int) (ss : List Str) (k : Int) : List Int :=
  if vnet n ss = true ∧ 1 ≤ k ∧ k ≤ 4 then (ffL (sht n.toNat ss) n.toNat (min k.toNat n.toNat - 1)).map Int.ofNat else []
def FfUni (w : World) (n : Int) (ss : List Str) (k : Int) (e : Ending) (w' : World) : Prop :=
  ∃ A c, e = .returned (.slice A (ffz n ss k).length c) ∧ w'.ownsRow w.heap.size 3 1 (.slice A (ffz n ss k).length c) (ffz n ss k).length ((ffz n ss k).map (Value.int .i64)) ∧ RdI w' w'.heap.size A (ffz n ss k) ∧ Below w.heap.size w w'
theorem ffz_len (n : Int) (ss : List Str) (k : Int) : (ffz n ss k).length ≤ 4 := by
  unfold ffz
  by_cases h : vnet n ss = true ∧ 1 ≤ k ∧ k ≤ 4
  · rw [if_pos h, List.length_map, ffL_len]; omega
  · rw [if_neg h]; simp
theorem ff_uni {w w' : World} {n : Int} {ss : List Str} {k : Int} {e : Ending} (h : FfAns w n ss k e w') : FfUni w n ss k e w' := by
  rcases h with ⟨hv, rfl, hb⟩ | ⟨hv, v, rfl, hO, hb⟩
  · have hz : ffz n ss k = [] := by unfold ffz; rw [if_neg hv]
    unfold FfUni
    rw [hz]
    exact ⟨none, 0, rfl, World.ownsRow_nil _ _ _ _, RdI.nil _ _ _, hb⟩
  · have hz : ffz n ss k = (ffL (sht n.toNat ss) n.toNat (min k.toNat n.toNat - 1)).map Int.ofNat := by unfold ffz; rw [if_pos hv]
    obtain ⟨k1, hk1, h1, h7⟩ := vnet_nat hv.1
    have hl : ((ffL (sht n.toNat ss) n.toNat (min k.toNat n.toNat - 1)).map Int.ofNat).length = min k.toNat n.toNat := by rw [List.length_map, ffL_len]; omega
    unfold FfUni
    rw [hz, hl]
    obtain ⟨A, c, rfl, -, -, hrd⟩ := own_slice (zs := (ffL (sht n.toNat ss) n.toNat (min k.toNat n.toNat - 1)).map Int.ofNat) hO hl
    exact ⟨A, c, rfl, hO, hrd, hb⟩

theorem rdI_take {w : World} {B : Nat} {A : Option Addr} {zs : List Int} (h : RdI w B A zs) (k : Nat) : RdI w B A (zs.take k) := by
  intro hp
  rw [List.length_take] at hp
  obtain ⟨b, off, e, hb, hc⟩ := h (by omega)
  refine ⟨b, off, e, hb, fun i hi => ?_⟩
  rw [List.length_take] at hi
  rw [hc i (by omega)]
  simp only [List.getD, List.getElem?_take]
  rw [if_pos (by omega)]
theorem ffz_has {n : Int} {ss : List Str} {k : Int} (h : ffz n ss k ≠ []) : vnet n ss = true ∧ 1 ≤ k ∧ k ≤ 4 := by
  unfold ffz at h
  split at h
  · assumption
  · exact absurd rfl h
theorem ffz_is {n : Int} {ss : List Str} {k : Int} (h : vnet n ss = true ∧ 1 ≤ k ∧ k ≤ 4) : ffz n ss k = (ffL (sht n.toNat ss) n.toNat (min k.toNat n.toNat - 1)).map Int.ofNat := by unfold ffz; rw [if_pos h]
theorem ffz_one {n : Int} {ss : List Str} (h : vnet n ss = true) : ffz n ss 1 = [0] := by
  rw [ffz_is ⟨h, by omega, by omega⟩]
  obtain ⟨j, rfl, h1, h7⟩ := vnet_nat h
  have e : min (1 : Int).toNat (j : Int).toNat - 1 = 0 := by
    rw [Int.toNat_natCast]; show min 1 j - 1 = 0; omega
  rw [e]; rfl
/-- One more is farther on in the same list. -/
theorem ffz_next {n : Int} {ss : List Str} {k : Int} (h : ffz n ss k ≠ []) : ffz n ss (k + 1) = [] ∨ ((ffz n ss k).length ≤ (ffz n ss (k + 1)).length ∧ (ffz n ss (k + 1)).take (ffz n ss k).length = ffz n ss k) := by
  obtain ⟨hv, h1, h4⟩ := ffz_has h
  obtain ⟨j, rfl, hj1, hj7⟩ := vnet_nat hv
  by_cases h5 : k + 1 ≤ 4
  · right
    rw [ffz_is ⟨hv, h1, h4⟩, ffz_is ⟨hv, by omega, h5⟩, Int.toNat_natCast]
    simp only [List.length_map, ffL_len]
    refine ⟨by omega, ?_⟩
    rw [← List.map_take, ffL_take _ _ _ _ (by omega)]
  · left
    unfold ffz
    rw [if_neg (by rintro ⟨_, _, h⟩; omega)]
end Go.Proofs.Ytiblcmeoneolcaa
