/-
  The law FnFarthestFirst follows from the functions' contracts.
  Conditions: none beyond the contracts'.
-/
import Derived.Test.YtiblcmeoneolcaaFZ
import Derived.Test.YtiblcmeoneolcaaDF
namespace Go.Proofs.Ytiblcmeoneolcaa
open Go.ChangeShapes Go.WideShapes Go.ChangeAt Go.RowKit
set_option linter.unusedVariables false
set_option maxRecDepth 4000

theorem diffc_nodup {zs : List Int} (h : zs.Nodup) : ∀ i, i ≤ zs.length → diffc zs i = i
  | 0, _ => rfl
  | i + 1, hi => by
    have hb : hasB (zs.take i) (zs.getD i 0) = false := by
      unfold hasB
      rw [Bool.eq_false_iff]
      intro hc
      rw [List.contains_iff_mem] at hc
      have h2 := h.sublist (List.take_sublist (i + 1) zs)
      rw [take_snoc_getD (by omega), List.nodup_append] at h2
      exact h2.2.2 _ hc _ (by simp) rfl
    simp only [diffc]
    rw [hb, diffc_nodup h i (by omega)]
    simp
/-- What the law asks of the nodes chosen. -/
theorem first_facts {n : Int} {ss : List Str} {k : Int} (h : ffz n ss k ≠ []) : ∃ (j K : Nat) (J : List Nat), n = j ∧ k = K ∧ 1 ≤ j ∧ j ≤ 7 ∧ vnet n ss = true ∧ ffz n ss k = J.map Int.ofNat ∧ J.length = min K j ∧ (∀ i ∈ J, i < j) ∧ (ffz n ss k).Nodup ∧ (ffz n ss k).getD 0 0 = 0 ∧
    ∀ v, v < j → (wy (sht j ss) v J < 0 → nfr n ss k < 0) ∧ (0 ≤ nfr n ss k → wy (sht j ss) v J ≤ 2 * nfr n ss k) := by
  obtain ⟨hv, h1, h4⟩ := ffz_has h
  obtain ⟨j, rfl, hj1, hj7⟩ := vnet_nat hv
  obtain ⟨k, rfl⟩ := Int.eq_ofNat_of_zero_le (show 0 ≤ k by omega)
  have hM := sht_met (n := j) hv
  have hz := ffz_is ⟨hv, h1, h4⟩
  rw [Int.toNat_natCast, Int.toNat_natCast] at hz
  obtain ⟨a1, a2⟩ := ffL_new hM hj1 (min k j - 1) (by omega)
  have htw : ∀ v, v < j → 0 ≤ nfr j ss k → ∃ i ∈ ffL (sht j ss) j (min k j - 1), Nr (sht j ss) (2 * nfr j ss k) v i := fun v hv' h0 => by
    have hn : nfr j ss k = nfar (sht j ss) j (min k j) := nfr_yes hv (by omega) (by omega)
    rw [hn] at h0 ⊢
    exact ff_twice hM hj7 hj1 (by omega) (nfar_is _ _ _) h0 hv'
  refine ⟨j, k, ffL (sht j ss) j (min k j - 1), rfl, rfl, hj1, hj7, hv, hz, by rw [ffL_len]; omega, a1, ?_, ?_, fun v hv' => ?_⟩
  · rw [hz]
    exact (List.pairwise_map.2 (a2.imp (fun hne he => hne (by injection he))))
  · rw [hz]
    have := ffL_take (sht j ss) j (min k j - 1) 0 (by omega)
    have h0 : (ffL (sht j ss) j (min k j - 1))[0]? = some 0 := by
      have e : ((ffL (sht j ss) j (min k j - 1)).take 1)[0]? = some 0 := by rw [this]; rfl
      rw [List.getElem?_take] at e
      simpa using e
    simp [List.getD, h0]
  · rcases pkL_cases (sht j ss v) (ffL (sht j ss) j (min k j - 1)) with ⟨b1, b2⟩ | ⟨b1, b2, b3⟩
    · refine ⟨fun _ => ?_, fun h0 => ?_⟩
      · by_cases h0 : 0 ≤ nfr j ss k
        · obtain ⟨i, hi, hn⟩ := htw v hv' h0
          have := b2 i hi; have := hn.1; omega
        · omega
      · unfold wy; rw [b1]; omega
    · refine ⟨fun hneg => ?_, fun h0 => ?_⟩
      · unfold wy at hneg; omega
      · obtain ⟨i, hi, hn⟩ := htw v hv' h0
        have := b3 i hi hn.1
        have := hn.2
        unfold wy; omega
end Go.Proofs.Ytiblcmeoneolcaa
